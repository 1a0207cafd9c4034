/-
  What every law's last step needs: that a slice of bytes came in as a row of cells.
-/
import Derived.Test.YtdfpeaenbmgihaaGreatRows
import Derived.WalkKit
import Derived.ProofKit
import Derived.OpenShut
import Derived.ShutString
import Derived.ChangeOld
import Derived.Below
import Derived.KernelRfl
import Derived.WalkSpells
import Derived.WalkLawsBesides
import Derived.Deep.QuietTactic
import Derived.BigQuiet
import Derived.Outline
import Derived.RangeFuncNested
import Derived.Deep.MidRow
import Derived.OrdersHeld
import Derived.Deep.RegionHeld3
import Derived.Laws.OwnMore
import Derived.Lib.AppendZeros
import Derived.ArgAppend
import Derived.Deep.Upon
import Derived.Maps.AppendAt
import Derived.Shelf.LaysM
import Derived.Shelf.Strconv.Clone
import Derived.Deep.RegionWith
namespace Go.Proofs.YtdfpeaenbmgihaaGreat
open Go.RowKit
theorem own : ownKnob Tryz.prog.godebug = none := by kernel_rfl
theorem laidOut : laidOutB Tryz.prog = true := by kernel_rfl
def IsRow (k : IntKind) (w : World) (a : Option Addr) (len cap : Nat) (zs : List Int) : Prop :=
  (a = none ∧ len = 0 ∧ cap = 0 ∧ zs = []) ∨
  ∃ x, a = some x ∧ len ≤ cap ∧ cap ≤ maxLen ∧ zs.length = cap ∧ (∀ i, i < zs.length → w.cell? (x.add i) = some (.int k (zs.getD i 0))) ∧ ∀ n ∈ zs, (Lit.int k n).wf = true
end Go.Proofs.YtdfpeaenbmgihaaGreat
/-
  Plain mathematics of secrets' names: how many bytes of a text, from a place on, are a name; nothing of the program is in it.
-/
namespace Go.Proofs.YtdfpeaenbmgihaaGreat.Kw
def g (s : ByteArray) (i : Nat) : Nat := if h : i < s.size then (s[i]'h).toNat else 256
theorem g_in {s : ByteArray} {i : Nat} (h : i < s.size) : g s i = (s[i]'h).toNat := by simp [g, h]
theorem g_out {s : ByteArray} {i : Nat} (h : s.size ≤ i) : g s i = 256 := by (have : ¬ i < s.size := by omega); simp [g, this]
theorem g_lt {s : ByteArray} {i : Nat} : g s i < 256 ↔ i < s.size := by
 by_cases h : i < s.size
 · rw [g_in h]; have := (s[i]'h).toNat_lt; simp at this; omega
 · rw [g_out (by omega)]; omega
def fresh (s : ByteArray) (a : Nat) : Nat :=
  if 65 ≤ g s a ∧ g s a ≤ 72 ∧ 49 ≤ g s (a + 1) ∧ g s (a + 1) ≤ 57 then
    (if g s (a + 2) = 59 then 3 else if 48 ≤ g s (a + 2) ∧ g s (a + 2) ≤ 57 ∧ g s (a + 3) = 59 then 4 else 0)
  else 0
def more (n m : Nat) : Nat := if m = 0 then 0 else n + m
def sz (s : ByteArray) : Nat → Nat → Nat
  | 0, _ => 0
  | f + 1, a =>
    if g s a = 110 ∨ g s a = 107 then more 1 (sz s f (a + 1))
    else if g s a = 109 then (if 65 ≤ g s (a + 1) ∧ g s (a + 1) ≤ 72 then more 2 (sz s f (a + 2)) else 0)
    else if g s a = 114 then (if 49 ≤ g s (a + 1) ∧ g s (a + 1) ≤ 57 then more 2 (sz s f (a + 2)) else 0)
    else if g s a = 101 then (if sz s f (a + 1) = 0 then 0 else more (1 + sz s f (a + 1)) (sz s f (a + 1 + sz s f (a + 1))))
    else fresh s a
theorem sz_succ (s : ByteArray) (f a : Nat) : sz s (f + 1) a = if g s a = 110 ∨ g s a = 107 then more 1 (sz s f (a + 1)) else if g s a = 109 then (if 65 ≤ g s (a + 1) ∧ g s (a + 1) ≤ 72 then more 2 (sz s f (a + 2)) else 0) else if g s a = 114 then (if 49 ≤ g s (a + 1) ∧ g s (a + 1) ≤ 57 then more 2 (sz s f (a + 2)) else 0) else if g s a = 101 then (if sz s f (a + 1) = 0 then 0 else more (1 + sz s f (a + 1)) (sz s f (a + 1 + sz s f (a + 1)))) else fresh s a := rfl
theorem fresh_le {s : ByteArray} {a : Nat} (h : fresh s a ≠ 0) : a + fresh s a ≤ s.size := by
 unfold fresh at h ⊢; split at h
 · rename_i h1; rw [if_pos h1]; split at h
   · rename_i h2; rw [if_pos h2]; have := (g_lt (s := s) (i := a + 2)).1 (by omega); omega
   · rename_i h2; rw [if_neg h2]; split at h
     · rename_i h3; rw [if_pos h3]; have := (g_lt (s := s) (i := a + 3)).1 (by omega); omega
     · exact absurd rfl h
 · exact absurd rfl h
theorem fresh_out {s : ByteArray} {a : Nat} (h : s.size ≤ a) : fresh s a = 0 := by unfold fresh; rw [if_neg (by rw [g_out h]; omega)]
theorem more_ne {n m : Nat} (h : more n m ≠ 0) : m ≠ 0 ∧ more n m = n + m := by
 unfold more at h ⊢; by_cases e : m = 0
 · simp [e] at h
 · simp [e]
theorem sz_out {s : ByteArray} (f a : Nat) (h : s.size ≤ a) : sz s f a = 0 := by
 cases f with
 | zero => rfl
 | succ f =>
  unfold sz; rw [g_out h, if_neg (by omega), if_neg (by omega), if_neg (by omega), if_neg (by omega), fresh_out h]
theorem sz_le {s : ByteArray} (f : Nat) : ∀ a, sz s f a ≠ 0 → a + sz s f a ≤ s.size := by
 induction f with
 | zero => intro a h; exact absurd rfl h
 | succ f ih =>
  intro a h; unfold sz at h ⊢; by_cases h1 : g s a = 110 ∨ g s a = 107
  · rw [if_pos h1] at h ⊢; obtain ⟨h2, h3⟩ := more_ne h; have := ih _ h2; omega
  rw [if_neg h1] at h ⊢; by_cases h2 : g s a = 109
  · rw [if_pos h2] at h ⊢; by_cases h3 : 65 ≤ g s (a + 1) ∧ g s (a + 1) ≤ 72
    · rw [if_pos h3] at h ⊢; obtain ⟨h4, h5⟩ := more_ne h; have := ih _ h4; omega
    · rw [if_neg h3] at h; exact absurd rfl h
  rw [if_neg h2] at h ⊢; by_cases h3 : g s a = 114
  · rw [if_pos h3] at h ⊢; by_cases h4 : 49 ≤ g s (a + 1) ∧ g s (a + 1) ≤ 57
    · rw [if_pos h4] at h ⊢; obtain ⟨h5, h6⟩ := more_ne h; have := ih _ h5; omega
    · rw [if_neg h4] at h; exact absurd rfl h
  rw [if_neg h3] at h ⊢; by_cases h4 : g s a = 101
  · rw [if_pos h4] at h ⊢; by_cases h5 : sz s f (a + 1) = 0
    · rw [if_pos h5] at h; exact absurd rfl h
    · rw [if_neg h5] at h ⊢; obtain ⟨h6, h7⟩ := more_ne h; have := ih _ h6; omega
  rw [if_neg h4] at h ⊢; exact fresh_le h
theorem sz_step {s : ByteArray} (f : Nat) : ∀ a, s.size - a ≤ f → sz s (f + 1) a = sz s f a := by
 induction f with
 | zero => intro a h; rw [sz_out 1 a (by omega)]; rfl
 | succ f ih =>
  intro a h; have e : ∀ b, a < b → sz s (f + 1) b = sz s f b := fun b hb => ih b (by omega); rw [sz_succ s (f + 1) a, sz_succ s f a, e (a + 1) (by omega), e (a + 2) (by omega), e (a + 1 + sz s f (a + 1)) (by omega)]
theorem sz_fuel {s : ByteArray} {a : Nat} (f : Nat) (h : s.size - a ≤ f) (k : Nat) : sz s (f + k) a = sz s f a := by
 induction k with
 | zero => rfl
 | succ k ih => rw [← Nat.add_assoc, sz_step _ _ (by omega), ih]
def len (s : ByteArray) (a : Nat) : Nat := sz s (s.size - a) a
theorem len_eq {s : ByteArray} {a f : Nat} (h : s.size - a ≤ f) : sz s f a = len s a := by have := sz_fuel (s := s) (a := a) (s.size - a) (Nat.le_refl _) (f - (s.size - a)); rw [show s.size - a + (f - (s.size - a)) = f by omega] at this; exact this
theorem len_le {s : ByteArray} {a : Nat} (h : len s a ≠ 0) : a + len s a ≤ s.size := sz_le _ _ h
theorem len_out {s : ByteArray} {a : Nat} (h : s.size ≤ a) : len s a = 0 := sz_out _ _ h
theorem len_unfold (s : ByteArray) (a : Nat) : len s a = if g s a = 110 ∨ g s a = 107 then more 1 (len s (a + 1)) else if g s a = 109 then (if 65 ≤ g s (a + 1) ∧ g s (a + 1) ≤ 72 then more 2 (len s (a + 2)) else 0) else if g s a = 114 then (if 49 ≤ g s (a + 1) ∧ g s (a + 1) ≤ 57 then more 2 (len s (a + 2)) else 0) else if g s a = 101 then (if len s (a + 1) = 0 then 0 else more (1 + len s (a + 1)) (len s (a + 1 + len s (a + 1)))) else fresh s a := by rw [← len_eq (f := s.size - a + 1) (by omega), sz_succ, len_eq (by omega), len_eq (by omega), len_eq (by omega)]
def epLen (s : ByteArray) (a : Nat) : Nat := if len s a = 0 then 0 else more (len s a) (len s (a + len s a))
def sayLen (s : ByteArray) (a : Nat) : Nat := if 65 ≤ g s a ∧ g s a ≤ 72 then more 1 (len s (a + 1)) else 0
def roomLen (s : ByteArray) (a : Nat) : Nat := if 49 ≤ g s a ∧ g s a ≤ 57 then more 1 (len s (a + 1)) else 0
theorem more_one (n m : Nat) : more 1 (more n m) = more (1 + n) m := by
 unfold more; by_cases h : m = 0
 · simp [h]
 · rw [if_neg h, if_neg h]; by_cases h2 : n + m = 0
   · omega
   · rw [if_neg h2]; omega
theorem len_e {s : ByteArray} {a : Nat} (h : g s a = 101) : len s a = more 1 (epLen s (a + 1)) := by
 rw [len_unfold, if_neg (by omega), if_neg (by omega), if_neg (by omega), if_pos h]; unfold epLen; by_cases h1 : len s (a + 1) = 0
 · rw [if_pos h1, if_pos h1]; rfl
 · rw [if_neg h1, if_neg h1, more_one]
theorem len_m {s : ByteArray} {a : Nat} (h : g s a = 109) : len s a = more 1 (sayLen s (a + 1)) := by
 rw [len_unfold, if_neg (by omega), if_pos h]; unfold sayLen; by_cases h1 : 65 ≤ g s (a + 1) ∧ g s (a + 1) ≤ 72
 · rw [if_pos h1, if_pos h1, more_one]
 · rw [if_neg h1, if_neg h1]; rfl
theorem len_r {s : ByteArray} {a : Nat} (h : g s a = 114) : len s a = more 1 (roomLen s (a + 1)) := by
 rw [len_unfold, if_neg (by omega), if_neg (by omega), if_pos h]; unfold roomLen; by_cases h1 : 49 ≤ g s (a + 1) ∧ g s (a + 1) ≤ 57
 · rw [if_pos h1, if_pos h1, more_one]
 · rw [if_neg h1, if_neg h1]; rfl
theorem len_nk {s : ByteArray} {a : Nat} (h : g s a = 110 ∨ g s a = 107) : len s a = more 1 (len s (a + 1)) := by rw [len_unfold, if_pos h]
theorem len_else {s : ByteArray} {a : Nat} (h1 : g s a ≠ 110) (h2 : g s a ≠ 107) (h3 : g s a ≠ 109) (h4 : g s a ≠ 114) (h5 : g s a ≠ 101) : len s a = fresh s a := by rw [len_unfold, if_neg (by omega), if_neg h3, if_neg h4, if_neg h5]
theorem more_zero {n m : Nat} (h : m = 0) : more n m = 0 := by unfold more; rw [if_pos h]
theorem more_pos {n m : Nat} (h : m ≠ 0) : more n m = n + m := by unfold more; rw [if_neg h]
def ok (s : ByteArray) : Bool := decide (s.size ≤ 300) && (!(s.size == 0) && (len s 0 == s.size))
def rdn (s : ByteArray) (most : Nat) : Nat → Nat → Nat → Option (Nat × Nat)
  | 0, _, _ => none
  | f + 1, n, a =>
    if 48 ≤ g s a ∧ g s a ≤ 57 then
      (if n * 10 + (g s a - 48) < 1 ∨ most < n * 10 + (g s a - 48) then none else rdn s most f (n * 10 + (g s a - 48)) (a + 1))
    else if 0 < n then some (n, a) else none
theorem rdn_succ (s : ByteArray) (most f n a : Nat) : rdn s most (f + 1) n a = if 48 ≤ g s a ∧ g s a ≤ 57 then (if n * 10 + (g s a - 48) < 1 ∨ most < n * 10 + (g s a - 48) then none else rdn s most f (n * 10 + (g s a - 48)) (a + 1)) else if 0 < n then some (n, a) else none := rfl
def num (s : ByteArray) (most a : Nat) : Option (Nat × Nat) := rdn s most (s.size + 1 - a) 0 a
theorem num_zero {s : ByteArray} {most a : Nat} (h : g s a ≤ 48 ∨ 57 < g s a) : num s most a = none := by
 unfold num; by_cases ha : s.size + 1 ≤ a
 · rw [show s.size + 1 - a = 0 by omega]; rfl
 rw [show s.size + 1 - a = (s.size - a) + 1 by omega, rdn_succ]; by_cases h48 : g s a = 48
 · rw [if_pos (by omega), if_pos (by omega)]
 · rw [if_neg (by omega), if_neg (by omega)]
theorem num_one {s : ByteArray} {most a b : Nat} (hb : b = a + 1) (h1 : 49 ≤ g s a) (h2 : g s a ≤ 57) (hm : g s a - 48 ≤ most) (h3 : g s b < 48 ∨ 57 < g s b) : num s most a = some (g s a - 48, b) := by subst hb; have ha : a < s.size := g_lt.1 (by omega); unfold num; rw [show s.size + 1 - a = (s.size - a - 1) + 1 + 1 by omega, rdn_succ, if_pos (by omega), if_neg (by omega), rdn_succ, if_neg (by omega), if_pos (by omega)]; simp
theorem num_two {s : ByteArray} {most a b c : Nat} (hb : b = a + 1) (hc : c = a + 2) (h1 : 49 ≤ g s a) (h2 : g s a ≤ 57) (h3 : 48 ≤ g s b) (h4 : g s b ≤ 57) (hm : (g s a - 48) * 10 + (g s b - 48) ≤ most) (h5 : g s c < 48 ∨ 57 < g s c) : num s most a = some ((g s a - 48) * 10 + (g s b - 48), c) := by subst hb hc; have ha : a + 1 < s.size := g_lt.1 (by omega); unfold num; rw [show s.size + 1 - a = (s.size - a - 2) + 1 + 1 + 1 by omega, rdn_succ, if_pos (by omega), if_neg (by omega), rdn_succ, if_pos (by omega), if_neg (by omega), rdn_succ, show a + 1 + 1 = a + 2 from rfl, if_neg (by omega), if_pos (by omega)]; simp
theorem num_big {s : ByteArray} {most a b : Nat} (hb : b = a + 1) (h1 : 49 ≤ g s a) (h2 : g s a ≤ 57) (h3 : 48 ≤ g s b) (h4 : g s b ≤ 57) (hm : most < (g s a - 48) * 10 + (g s b - 48)) : num s most a = none := by
 subst hb; have ha : a + 1 < s.size := g_lt.1 (by omega); unfold num; rw [show s.size + 1 - a = (s.size - a - 1) + 1 + 1 by omega, rdn_succ, if_pos (by omega)]; by_cases hx : 0 * 10 + (g s a - 48) < 1 ∨ most < 0 * 10 + (g s a - 48)
 · rw [if_pos hx]
 · rw [if_neg hx, rdn_succ, if_pos (by omega), if_pos (by omega)]
theorem num_three {s : ByteArray} {most a b c : Nat} (hb : b = a + 1) (hc : c = a + 2) (hm : most ≤ 99) (h1 : 49 ≤ g s a) (h2 : g s a ≤ 57) (h3 : 48 ≤ g s b) (h4 : g s b ≤ 57) (h5 : 48 ≤ g s c) (h6 : g s c ≤ 57) : num s most a = none := by
 by_cases hq : most < (g s a - 48) * 10 + (g s b - 48)
 · exact num_big hb h1 h2 h3 h4 hq
 subst hb hc; have ha : a + 2 < s.size := g_lt.1 (by omega); unfold num; rw [show s.size + 1 - a = (s.size - a - 2) + 1 + 1 + 1 by omega, rdn_succ, if_pos (by omega), if_neg (by omega), rdn_succ, if_pos (by omega), if_neg (by omega), rdn_succ, show a + 1 + 1 = a + 2 from rfl, if_pos (by omega), if_pos (by omega)]
def nv (s : ByteArray) (a : Nat) : Nat := if g s (a + 2) = 59 then g s (a + 1) - 48 else (g s (a + 1) - 48) * 10 + (g s (a + 2) - 48)
theorem fresh_yes {s : ByteArray} {a : Nat} (h : fresh s a ≠ 0) : 65 ≤ g s a ∧ g s a ≤ 72 ∧ num s 99 (a + 1) = some (nv s a, a + fresh s a - 1) ∧ g s (a + fresh s a - 1) = 59 ∧ 3 ≤ fresh s a := by
 by_cases h1 : 65 ≤ g s a ∧ g s a ≤ 72 ∧ 49 ≤ g s (a + 1) ∧ g s (a + 1) ≤ 57
 · obtain ⟨p1, p2, p3, p4⟩ := h1; by_cases h2 : g s (a + 2) = 59
   · (have e : fresh s a = 3 := by unfold fresh; rw [if_pos ⟨p1, p2, p3, p4⟩, if_pos h2]); (have e2 : nv s a = g s (a + 1) - 48 := by unfold nv; rw [if_pos h2]); rw [e, e2]; exact ⟨p1, p2, num_one (b := a + 2) rfl p3 p4 (by omega) (by omega), h2, by omega⟩
   · by_cases h3 : 48 ≤ g s (a + 2) ∧ g s (a + 2) ≤ 57 ∧ g s (a + 3) = 59
     · (have e : fresh s a = 4 := by unfold fresh; rw [if_pos ⟨p1, p2, p3, p4⟩, if_neg h2, if_pos h3]); (have e2 : nv s a = (g s (a + 1) - 48) * 10 + (g s (a + 2) - 48) := by unfold nv; rw [if_neg h2]); obtain ⟨q1, q2, q3⟩ := h3; rw [e, e2]; exact ⟨p1, p2, num_two (b := a + 2) (c := a + 3) rfl rfl p3 p4 q1 q2 (by omega) (by omega), q3, by omega⟩
     · exfalso; apply h; unfold fresh; rw [if_pos ⟨p1, p2, p3, p4⟩, if_neg h2, if_neg h3]
 · exfalso; apply h; unfold fresh; rw [if_neg h1]
theorem fresh_no {s : ByteArray} {a : Nat} (h : fresh s a = 0) (h1 : 65 ≤ g s a) (h2 : g s a ≤ 72) : num s 99 (a + 1) = none ∨ ∃ n a1, num s 99 (a + 1) = some (n, a1) ∧ g s a1 ≠ 59 ∧ a1 ≤ s.size := by
 unfold fresh at h; by_cases h3 : 49 ≤ g s (a + 1) ∧ g s (a + 1) ≤ 57
 · rw [if_pos ⟨h1, h2, h3⟩] at h; by_cases h4 : g s (a + 2) = 59
   · rw [if_pos h4] at h; omega
   rw [if_neg h4] at h; obtain ⟨h3, h3'⟩ := h3; by_cases h5 : 48 ≤ g s (a + 2) ∧ g s (a + 2) ≤ 57
   · obtain ⟨h5, h5'⟩ := h5; by_cases h6 : 48 ≤ g s (a + 3) ∧ g s (a + 3) ≤ 57
     · exact .inl (num_three (b := a + 2) (c := a + 3) rfl rfl (Nat.le_refl _) h3 h3' h5 h5' h6.1 h6.2)
     · refine .inr ⟨_, _, num_two (b := a + 2) (c := a + 3) rfl rfl h3 h3' h5 h5' (by omega) (by omega), ?_, ?_⟩
       · intro e; rw [if_pos ⟨h5, h5', e⟩] at h; omega
       · have := (g_lt (s := s) (i := a + 2)).1 (by omega); omega
   · refine .inr ⟨_, _, num_one (b := a + 2) rfl h3 h3' (by omega) (by omega), h4, ?_⟩; have := (g_lt (s := s) (i := a + 1)).1 (by omega); omega
 · exact .inl (num_zero (by omega))
theorem len_digit {s : ByteArray} {a : Nat} (h : 48 ≤ g s a) (h2 : g s a ≤ 57) : len s a = 0 := by rw [len_unfold, if_neg (by omega), if_neg (by omega), if_neg (by omega), if_neg (by omega)]; unfold fresh; rw [if_neg (by omega)]
theorem room_yes {s : ByteArray} {a : Nat} (h : 49 ≤ g s a ∧ g s a ≤ 57) (hl : len s (a + 1) ≠ 0) : num s 9 a = some (g s a - 48, a + 1) := by
 refine num_one rfl h.1 h.2 (by omega) ?_; by_cases h3 : 48 ≤ g s (a + 1) ∧ g s (a + 1) ≤ 57
 · exact absurd (len_digit h3.1 h3.2) hl
 · omega
theorem room_no {s : ByteArray} {a : Nat} (h : 49 ≤ g s a ∧ g s a ≤ 57) : num s 9 a = none ∨ num s 9 a = some (g s a - 48, a + 1) := by
 by_cases h3 : 48 ≤ g s (a + 1) ∧ g s (a + 1) ≤ 57
 · exact .inl (num_big rfl h.1 h.2 h3.1 h3.2 (by omega))
 · exact .inr (num_one rfl h.1 h.2 (by omega) (by omega))
end Go.Proofs.YtdfpeaenbmgihaaGreat.Kw
/-
  Plain mathematics of texts: bytes by their places, texts one behind the other, new secrets' names. Nothing of the program is in it.
-/
namespace Go.Proofs.YtdfpeaenbmgihaaGreat
open Kw
def by1 (n : Nat) : ByteArray := ⟨#[UInt8.ofNat n]⟩
def dec (n : Nat) : ByteArray := if n < 10 then ⟨#[UInt8.ofNat (48 + n)]⟩ else ⟨#[UInt8.ofNat (48 + n / 10), UInt8.ofNat (48 + n % 10)]⟩
def newName (who n : Nat) : ByteArray := by1 (65 + who) ++ dec n ++ by1 59
def mkNew (who n : Int) : ByteArray := if 0 ≤ who ∧ who < 8 ∧ 1 ≤ n ∧ n ≤ 99 then newName who.toNat n.toNat else ⟨#[]⟩
theorem by1_size (n : Nat) : (by1 n).size = 1 := rfl
theorem dec_size (n : Nat) : (dec n).size = if n < 10 then 1 else 2 := by unfold dec; split <;> rfl
theorem dec_sizes (n : Nat) : (dec n).size = 1 ∨ (dec n).size = 2 := by unfold dec; split <;> simp [ByteArray.size]
theorem newName_size (who n : Nat) : (newName who n).size = 2 + (dec n).size := by unfold newName; simp [ByteArray.size_append, by1_size]; omega
theorem newName_sizes (who n : Nat) : (newName who n).size = 3 ∨ (newName who n).size = 4 := by rw [newName_size]; rcases dec_sizes n with h | h <;> omega
theorem app_nil (a : ByteArray) : a ++ ⟨#[]⟩ = a := by apply ByteArray.ext; simp [ByteArray.data_append]
theorem dec_one (n : Nat) (h : n < 10) : dec n = by1 (48 + n) := by unfold dec by1; rw [if_pos h]
theorem dec_two (n : Nat) (h : ¬ n < 10) : dec n = by1 (48 + n / 10) ++ by1 (48 + n % 10) := by unfold dec by1; rw [if_neg h]; apply ByteArray.ext; simp [ByteArray.data_append]
theorem ext_g {x y : ByteArray} (h : x.size = y.size) (hg : ∀ i, i < x.size → g x i = g y i) : x = y := by
 apply ByteArray.ext; apply Array.ext
 · exact h
 · intro i h1 h2; have := hg i h1; rw [g_in h1, g_in (by rw [← h]; exact h1)] at this; exact UInt8.toNat_inj.1 this
theorem g_append (x y : ByteArray) (i : Nat) : g (x ++ y) i = if i < x.size then g x i else g y (i - x.size) := by
 by_cases h : i < x.size
 · rw [if_pos h, g_in h, g_in (by simp [ByteArray.size_append]; omega)]; congr 1; exact ByteArray.getElem_append_left h
 · rw [if_neg h]; by_cases h2 : i < (x ++ y).size
   · (have h3 : i - x.size < y.size := by simp [ByteArray.size_append] at h2; omega); rw [g_in h2, g_in h3]; congr 1; exact ByteArray.getElem_append_right (by omega)
   · rw [g_out (by omega), g_out (by simp [ByteArray.size_append] at h2; omega)]
theorem g_extract (s : ByteArray) (a b i : Nat) (hb : b ≤ s.size) (hi : a + i < b) : g (s.extract a b) i = g s (a + i) := by rw [g_in (by simp [ByteArray.size_extract]; omega), g_in (by omega)]; congr 1; exact ByteArray.getElem_extract (by simp [ByteArray.size_extract]; omega)
theorem g_by1 (n : Nat) (h : n < 256) : g (by1 n) 0 = n := by rw [g_in (by rw [by1_size]; omega)]; show (UInt8.ofNat n).toNat = n; simp; omega
theorem g_new1 (who n : Nat) (h : n < 10) : newName who n = by1 (65 + who) ++ by1 (48 + n) ++ by1 59 := by unfold newName; rw [dec_one n h]
theorem g_new2 (who n : Nat) (h : ¬ n < 10) : newName who n = by1 (65 + who) ++ (by1 (48 + n / 10) ++ by1 (48 + n % 10)) ++ by1 59 := by unfold newName; rw [dec_two n h]
theorem ext_three {s : ByteArray} {a who n : Nat} (hn : n < 10) (hw : who < 8) (hs : a + 3 ≤ s.size) (h0 : g s a = 65 + who) (h1 : g s (a + 1) = 48 + n) (h2 : g s (a + 2) = 59) : newName who n = s.extract a (a + 3) := by
 rw [g_new1 who n hn]; refine ext_g (by simp [ByteArray.size_append, ByteArray.size_extract, by1_size]; omega) ?_; intro i hi; (have hi3 : i < 3 := by simpa [ByteArray.size_append, by1_size] using hi); rw [g_extract s a (a + 3) i hs (by omega)]
 match i, hi3 with
 | 0, _ => simp [g_append, ByteArray.size_append, by1_size]; rw [g_by1 _ (by omega), h0]
 | 1, _ => simp [g_append, ByteArray.size_append, by1_size]; rw [g_by1 _ (by omega), h1]
 | 2, _ => simp [g_append, ByteArray.size_append, by1_size]; rw [g_by1 _ (by omega), h2]
theorem ext_four {s : ByteArray} {a who n : Nat} (hn : ¬ n < 10) (hn2 : n < 100) (hw : who < 8) (hs : a + 4 ≤ s.size) (h0 : g s a = 65 + who) (h1 : g s (a + 1) = 48 + n / 10) (h2 : g s (a + 2) = 48 + n % 10) (h3 : g s (a + 3) = 59) : newName who n = s.extract a (a + 4) := by
 rw [g_new2 who n hn]; refine ext_g (by simp [ByteArray.size_append, ByteArray.size_extract, by1_size]; omega) ?_; intro i hi; (have hi3 : i < 4 := by simpa [ByteArray.size_append, by1_size] using hi); rw [g_extract s a (a + 4) i hs (by omega)]
 match i, hi3 with
 | 0, _ => simp [g_append, ByteArray.size_append, by1_size]; rw [g_by1 _ (by omega), h0]
 | 1, _ => simp [g_append, ByteArray.size_append, by1_size]; rw [g_by1 _ (by omega), h1]
 | 2, _ => simp [g_append, ByteArray.size_append, by1_size]; rw [g_by1 _ (by omega), h2]
 | 3, _ => simp [g_append, ByteArray.size_append, by1_size]; rw [g_by1 _ (by omega), h3]
def dv (s : ByteArray) (p : Nat) : Nat → Nat
  | 0 => 0
  | d + 1 => dv s p d * 10 + (g s (p + d) - 48)
theorem fr_eq {s : ByteArray} {a j d m : Nat} (hj : j = a + 1 + d) (hd : d ≤ 3) (hlt : j < s.size) (hm : m = dv s (a + 1) d) (hall : ∀ i, i < d → 48 ≤ g s (a + 1 + i) ∧ g s (a + 1 + i) ≤ 57) (h59 : g s j = 59) (h65 : 65 ≤ g s a) (h72 : g s a ≤ 72) (h : mkNew ((g s a : Int) - 65) (m : Int) = s.extract a (j + 1)) : fresh s a = j + 1 - a := by
 subst hj; (have hsz : (s.extract a (a + 1 + d + 1)).size = d + 2 := by simp [ByteArray.size_extract]; omega); rw [← h] at hsz; unfold mkNew at hsz; by_cases hc : 0 ≤ (g s a : Int) - 65 ∧ (g s a : Int) - 65 < 8 ∧ 1 ≤ (m : Int) ∧ (m : Int) ≤ 99
 · rw [if_pos hc, newName_size, dec_size] at hsz; obtain ⟨_, _, c3, c4⟩ := hc; by_cases h10 : (m : Int).toNat < 10
   · rw [if_pos h10] at hsz; (have hd1 : d = 1 := by omega); subst hd1; have q := hall 0 (by omega); simp only [dv, Nat.add_zero, Nat.zero_mul, Nat.zero_add] at hm q; have h59' : g s (a + 2) = 59 := h59; unfold fresh; rw [if_pos (by omega), if_pos h59']; omega
   · rw [if_neg h10] at hsz; (have hd1 : d = 2 := by omega); subst hd1; have q := hall 0 (by omega); have q1 := hall 1 (by omega); simp only [dv, Nat.add_zero, Nat.zero_mul, Nat.zero_add] at hm q q1; have h59' : g s (a + 3) = 59 := h59; rw [show a + 1 + 1 = a + 2 from rfl] at hm q1; unfold fresh; rw [if_pos (by omega), if_neg (by omega), if_pos (by omega)]; omega
 · rw [if_neg hc] at hsz; exfalso; have : (⟨#[]⟩ : ByteArray).size = 0 := rfl; omega
theorem fr_ne {s : ByteArray} {a j d m : Nat} (hj : j = a + 1 + d) (hlt : j < s.size) (hm : m = dv s (a + 1) d) (hall : ∀ i, i < d → 48 ≤ g s (a + 1 + i) ∧ g s (a + 1 + i) ≤ 57) (h59 : g s j = 59) (h65 : 65 ≤ g s a) (h72 : g s a ≤ 72) (h : mkNew ((g s a : Int) - 65) (m : Int) ≠ s.extract a (j + 1)) : fresh s a = 0 := by
 apply Classical.byContradiction; intro hf; apply h; subst hj; unfold fresh at hf; by_cases h1 : 65 ≤ g s a ∧ g s a ≤ 72 ∧ 49 ≤ g s (a + 1) ∧ g s (a + 1) ≤ 57
 · rw [if_pos h1] at hf; obtain ⟨_, _, p3, p4⟩ := h1; by_cases h2 : g s (a + 2) = 59
   · have hd : d = 1 := by
      match d, h59, hall with
      | 0, h59, _ => simp only [Nat.add_zero] at h59; omega
      | 1, _, _ => rfl
      | d + 2, _, hall => have := hall 1 (by omega); rw [show a + 1 + 1 = a + 2 from rfl] at this; omega
     subst hd; simp only [dv, Nat.add_zero, Nat.zero_mul, Nat.zero_add] at hm; unfold mkNew; rw [if_pos (by omega)]; exact ext_three (by omega) (by omega) (by omega) (by omega) (by omega) h2
   · rw [if_neg h2] at hf; by_cases h3 : 48 ≤ g s (a + 2) ∧ g s (a + 2) ≤ 57 ∧ g s (a + 3) = 59
     · obtain ⟨q1, q2, q3⟩ := h3
       have hd : d = 2 := by
        match d, h59, hall with
        | 0, h59, _ => simp only [Nat.add_zero] at h59; omega
        | 1, h59, _ => rw [show a + 1 + 1 = a + 2 from rfl] at h59; omega
        | 2, _, _ => rfl
        | d + 3, _, hall => have := hall 2 (by omega); rw [show a + 1 + 2 = a + 3 from rfl] at this; omega
       subst hd; simp only [dv, Nat.add_zero, Nat.zero_mul, Nat.zero_add] at hm; rw [show a + 1 + 1 = a + 2 from rfl] at hm; unfold mkNew; rw [if_pos (by omega)]; exact ext_four (by omega) (by omega) (by omega) (by omega) (by omega) (by omega) (by omega) q3
     · rw [if_neg h3] at hf; exact absurd rfl hf
 · rw [if_neg h1] at hf; exact absurd rfl hf
theorem fr_no {s : ByteArray} {a j d : Nat} (hj : j = a + 1 + d) (hd : d ≤ 3) (hall : ∀ i, i < d → 48 ≤ g s (a + 1 + i) ∧ g s (a + 1 + i) ≤ 57) (h59 : g s j ≠ 59) (hstop : g s j < 48 ∨ 57 < g s j ∨ d = 3) : fresh s a = 0 := by
 apply Classical.byContradiction; intro hf; subst hj; unfold fresh at hf; by_cases h1 : 65 ≤ g s a ∧ g s a ≤ 72 ∧ 49 ≤ g s (a + 1) ∧ g s (a + 1) ≤ 57
 · rw [if_pos h1] at hf; obtain ⟨_, _, p3, p4⟩ := h1
   match d, hd, h59, hall, hstop with
   | 0, _, h59, _, hs => simp only [Nat.add_zero] at h59 hs; omega
   | 1, _, h59, _, hs =>
    rw [show a + 1 + 1 = a + 2 from rfl] at h59 hs; rw [if_neg h59, if_neg (by omega)] at hf; exact absurd rfl hf
   | 2, _, h59, hall, hs =>
    rw [show a + 1 + 2 = a + 3 from rfl] at h59 hs; have := hall 1 (by omega); rw [show a + 1 + 1 = a + 2 from rfl] at this; rw [if_neg (by omega), if_neg (by omega)] at hf; exact absurd rfl hf
   | 3, _, _, hall, _ =>
    have u1 := hall 1 (by omega); have u2 := hall 2 (by omega); rw [show a + 1 + 1 = a + 2 from rfl] at u1; rw [show a + 1 + 2 = a + 3 from rfl] at u2; rw [if_neg (by omega), if_neg (by omega)] at hf; exact absurd rfl hf
 · rw [if_neg h1] at hf; exact absurd rfl hf
theorem g_shift (x s : ByteArray) (i : Nat) : g (x ++ s) (x.size + i) = g s i := by rw [g_append, if_neg (by omega)]; congr 1; omega
theorem fresh_shift (x s : ByteArray) (a : Nat) : fresh (x ++ s) (x.size + a) = fresh s a := by unfold fresh; rw [Nat.add_assoc, Nat.add_assoc, Nat.add_assoc, g_shift, g_shift, g_shift, g_shift]
theorem sz_shift (x s : ByteArray) (f : Nat) : ∀ a, sz (x ++ s) f (x.size + a) = sz s f a := by
 induction f with
 | zero => intro a; rfl
 | succ f ih =>
  intro a; rw [sz_succ, sz_succ, fresh_shift, g_shift]; simp only [Nat.add_assoc, g_shift, ih]
theorem len_shift (x s : ByteArray) (a : Nat) : len (x ++ s) (x.size + a) = len s a := by have h := sz_shift x s (s.size - a) a; rw [len_eq (by simp [ByteArray.size_append]; omega)] at h; exact h
theorem g_front {s : ByteArray} (t : ByteArray) {i : Nat} (h : i < s.size) : g (s ++ t) i = g s i := by rw [g_append, if_pos h]
theorem fresh_front {s : ByteArray} (t : ByteArray) {a : Nat} (h : fresh s a ≠ 0) : fresh (s ++ t) a = fresh s a := by
 have hle := fresh_le h; obtain ⟨h1, h2, _, _, h5⟩ := fresh_yes h; unfold fresh at h hle ⊢; by_cases c : 65 ≤ g s a ∧ g s a ≤ 72 ∧ 49 ≤ g s (a + 1) ∧ g s (a + 1) ≤ 57
 · have i1 : a + 1 < s.size := g_lt.1 (by omega); rw [if_pos c] at h hle; rw [if_pos c, g_front t (i := a) (by omega), g_front t i1, if_pos c]; by_cases c2 : g s (a + 2) = 59
   · have i2 : a + 2 < s.size := g_lt.1 (by omega); rw [if_pos c2, g_front t i2, if_pos c2]
   · rw [if_neg c2] at h; by_cases c3 : 48 ≤ g s (a + 2) ∧ g s (a + 2) ≤ 57 ∧ g s (a + 3) = 59
     · have i2 : a + 2 < s.size := g_lt.1 (by omega); have i3 : a + 3 < s.size := g_lt.1 (by omega); rw [if_neg c2, if_pos c3, g_front t i2, g_front t i3, if_neg c2, if_pos c3]
     · rw [if_neg c3] at h; exact absurd rfl h
 · rw [if_neg c] at h; exact absurd rfl h
theorem sz_front (s t : ByteArray) (f : Nat) : ∀ a, sz s f a ≠ 0 → sz (s ++ t) f a = sz s f a := by
 induction f with
 | zero => intro a h; exact absurd rfl h
 | succ f ih =>
  intro a h; (have ha : a < s.size := by apply Classical.byContradiction; intro hn; exact h (sz_out _ _ (by omega))); rw [sz_succ] at h; rw [sz_succ, sz_succ, g_front t ha]; by_cases c1 : g s a = 110 ∨ g s a = 107
  · rw [if_pos c1] at h; rw [if_pos c1, if_pos c1, ih _ (more_ne h).1]
  rw [if_neg c1] at h; rw [if_neg c1, if_neg c1]; by_cases c2 : g s a = 109
  · rw [if_pos c2] at h; rw [if_pos c2, if_pos c2]; by_cases d : 65 ≤ g s (a + 1) ∧ g s (a + 1) ≤ 72
    · rw [if_pos d] at h; rw [if_pos d, g_front t (g_lt.1 (by omega)), if_pos d, ih _ (more_ne h).1]
    · rw [if_neg d] at h; exact absurd rfl h
  rw [if_neg c2] at h; rw [if_neg c2, if_neg c2]; by_cases c3 : g s a = 114
  · rw [if_pos c3] at h; rw [if_pos c3, if_pos c3]; by_cases d : 49 ≤ g s (a + 1) ∧ g s (a + 1) ≤ 57
    · rw [if_pos d] at h; rw [if_pos d, g_front t (g_lt.1 (by omega)), if_pos d, ih _ (more_ne h).1]
    · rw [if_neg d] at h; exact absurd rfl h
  rw [if_neg c3] at h; rw [if_neg c3, if_neg c3]; by_cases c4 : g s a = 101
  · rw [if_pos c4] at h; rw [if_pos c4, if_pos c4]; by_cases d : sz s f (a + 1) = 0
    · rw [if_pos d] at h; exact absurd rfl h
    · rw [if_neg d] at h; rw [if_neg d, ih _ d, if_neg d, ih _ (more_ne h).1]
  rw [if_neg c4] at h; rw [if_neg c4, if_neg c4, fresh_front t h]
theorem len_front {s : ByteArray} (t : ByteArray) {a : Nat} (h : len s a ≠ 0) : len (s ++ t) a = len s a := by have e : sz s ((s ++ t).size - a) a = len s a := len_eq (by simp [ByteArray.size_append]; omega); unfold len at h ⊢; have := sz_front s t ((s ++ t).size - a) a (by rw [e]; exact h); rw [this, e]; rfl
end Go.Proofs.YtdfpeaenbmgihaaGreat
/-
  Plain mathematics: which texts are names, and what is made from names. Nothing of the program is in it.
-/
namespace Go.Proofs.YtdfpeaenbmgihaaGreat
open Kw
theorem empty_of {s : ByteArray} (h : s.size = 0) : s = ⟨#[]⟩ := ByteArray.ext (Array.eq_empty_of_size_eq_zero h)
theorem ok_empty : ok ⟨#[]⟩ = false := by decide +kernel
theorem ok_long {s : ByteArray} (h : 300 < s.size) : ok s = false := by unfold ok; rw [show decide (s.size ≤ 300) = false by simp; omega]; rfl
theorem ok_none {s : ByteArray} (h : len s 0 = 0) : ok s = false := by
 unfold ok; rw [h]; by_cases hs : s.size = 0
 · simp [hs]
 · (have : (0 == s.size) = false := by simp; omega); simp [this]
theorem ok_part {s : ByteArray} (h : len s 0 ≠ s.size) : ok s = false := by unfold ok; rw [show (len s 0 == s.size) = false by simpa using h]; simp
theorem ok_yes {s : ByteArray} (h0 : s.size ≤ 300) (h1 : len s 0 ≠ 0) (h : len s 0 = s.size) : ok s = true := by unfold ok; rw [show decide (s.size ≤ 300) = true by simpa using h0, show (len s 0 == s.size) = true by simpa using h, show (s.size == 0) = false by rw [← h]; simpa using h1]; rfl
theorem ok_eq {s : ByteArray} (h : s.size ≤ 300) (h0 : s.size ≠ 0) : ok s = ((len s 0 : Int) == (s.size : Int)) := by unfold ok; rw [show decide (s.size ≤ 300) = true by simpa using h, show (s.size == 0) = false by simpa using h0]; rw [Bool.eq_iff_iff]; simp; omega
theorem ok_facts {s : ByteArray} (h : ok s = true) : s.size ≤ 300 ∧ s.size ≠ 0 ∧ len s 0 = s.size := by unfold ok at h; simp at h; obtain ⟨h1, h2, h3⟩ := h; exact ⟨h1, fun e => h2 (by rw [empty_of e]; rfl), h3⟩
def cap (x : ByteArray) : ByteArray := if x.size ≤ 300 then x else ⟨#[]⟩
def only (x : ByteArray) : ByteArray := if ok x = true then x else ⟨#[]⟩
theorem only_cap {x : ByteArray} (h0 : x.size ≠ 0) (h : len x 0 = x.size) : only x = cap x := by
 unfold only cap; by_cases hs : x.size ≤ 300
 · rw [if_pos (ok_yes hs (by omega) h), if_pos hs]
 · rw [if_neg (by rw [ok_long (by omega)]; simp), if_neg hs]
def nextT (s : ByteArray) : ByteArray := ⟨#[110]⟩ ++ s
def keyT (s : ByteArray) : ByteArray := ⟨#[107]⟩ ++ s
def epochT (a b : ByteArray) : ByteArray := ⟨#[101]⟩ ++ a ++ b
def sayT (s : ByteArray) (who : Nat) : ByteArray := ⟨#[109]⟩ ++ by1 (65 + who) ++ s
theorem len_next {s : ByteArray} (h : ok s = true) : len (nextT s) 0 = (nextT s).size := by obtain ⟨_, h2, h3⟩ := ok_facts h; have e : len (nextT s) 1 = len s 0 := len_shift ⟨#[110]⟩ s 0; (have z : (nextT s).size = 1 + s.size := by unfold nextT; simp [ByteArray.size_append]; rfl); rw [len_nk (.inl (by unfold nextT; rw [g_append]; rfl)), e, h3, more_pos h2, z]
theorem len_key {s : ByteArray} (h : ok s = true) : len (keyT s) 0 = (keyT s).size := by obtain ⟨_, h2, h3⟩ := ok_facts h; have e : len (keyT s) 1 = len s 0 := len_shift ⟨#[107]⟩ s 0; (have z : (keyT s).size = 1 + s.size := by unfold keyT; simp [ByteArray.size_append]; rfl); rw [len_nk (.inr (by unfold keyT; rw [g_append]; rfl)), e, h3, more_pos h2, z]
theorem epoch_parts {a b : ByteArray} (ha : ok a = true) (hb : ok b = true) : len (epochT a b) 1 = a.size ∧ len (epochT a b) (1 + a.size) = b.size ∧ (epochT a b).size = 1 + a.size + b.size ∧ g (epochT a b) 0 = 101 := by
 obtain ⟨_, a2, a3⟩ := ok_facts ha; obtain ⟨_, b2, b3⟩ := ok_facts hb; refine ⟨?_, ?_, ?_, ?_⟩
 · (have e : epochT a b = ⟨#[101]⟩ ++ (a ++ b) := by unfold epochT; rw [ByteArray.append_assoc]); have e2 : len (⟨#[101]⟩ ++ (a ++ b)) 1 = len (a ++ b) 0 := len_shift ⟨#[101]⟩ (a ++ b) 0; rw [e, e2, len_front b (by rw [a3]; exact a2), a3]
 · have e2 := len_shift (⟨#[101]⟩ ++ a) b 0; (have z : (⟨#[101]⟩ ++ a : ByteArray).size = 1 + a.size := by simp [ByteArray.size_append]; rfl); rw [z, Nat.add_zero, b3] at e2; exact e2
 · unfold epochT; simp [ByteArray.size_append]; rfl
 · unfold epochT; rw [g_append, if_pos (by simp [ByteArray.size_append]; show 0 < 1 + _; omega), g_append, if_pos (by show 0 < 1; omega)]; rfl
theorem len_epoch {a b : ByteArray} (ha : ok a = true) (hb : ok b = true) : len (epochT a b) 0 = (epochT a b).size := by obtain ⟨p1, p2, p3, p4⟩ := epoch_parts ha hb; obtain ⟨_, a2, _⟩ := ok_facts ha; obtain ⟨_, b2, _⟩ := ok_facts hb; rw [len_e p4, p3]; unfold epLen; rw [show 0 + 1 = 1 from rfl, p1, if_neg a2, p2, more_pos b2, more_pos (by omega)]; omega
theorem say_parts {s : ByteArray} {who : Nat} (h : ok s = true) (hw : who < 8) : len (sayT s who) 2 = s.size ∧ (sayT s who).size = 2 + s.size ∧ g (sayT s who) 0 = 109 ∧ g (sayT s who) 1 = 65 + who := by
 obtain ⟨_, h2, h3⟩ := ok_facts h; (have z : (⟨#[109]⟩ ++ by1 (65 + who) : ByteArray).size = 2 := by simp [ByteArray.size_append, by1_size]; rfl); refine ⟨?_, ?_, ?_, ?_⟩
 · have e2 := len_shift (⟨#[109]⟩ ++ by1 (65 + who)) s 0; rw [z, h3] at e2; exact e2
 · unfold sayT; rw [ByteArray.size_append, z]
 · unfold sayT; rw [g_append, if_pos (by rw [z]; omega), g_append, if_pos (by show 0 < 1; omega)]; rfl
 · unfold sayT; rw [g_append, if_pos (by rw [z]; omega), g_append, if_neg (by show ¬ 1 < 1; omega)]; exact g_by1 _ (by omega)
theorem len_say {s : ByteArray} {who : Nat} (h : ok s = true) (hw : who < 8) : len (sayT s who) 0 = (sayT s who).size := by obtain ⟨p1, p2, p3, p4⟩ := say_parts h hw; obtain ⟨_, h2, _⟩ := ok_facts h; rw [len_m p3, p2]; unfold sayLen; rw [show 0 + 1 = 1 from rfl, p4, if_pos (by omega), show 1 + 1 = 2 from rfl, p1, more_pos h2, more_pos (by omega)]; omega
def mkNext (s : ByteArray) : ByteArray := if ok s = true then cap (nextT s) else ⟨#[]⟩
def mkKey (s : ByteArray) : ByteArray := if ok s = true then cap (keyT s) else ⟨#[]⟩
def mkEpoch (a b : ByteArray) : ByteArray := if ok a = true ∧ ok b = true then cap (epochT a b) else ⟨#[]⟩
def mkSay (s : ByteArray) (who : Int) : ByteArray := if ok s = true ∧ 0 ≤ who ∧ who < 8 then cap (sayT s who.toNat) else ⟨#[]⟩
theorem next_size (s : ByteArray) : (nextT s).size = 1 + s.size := by unfold nextT; simp [ByteArray.size_append]; rfl
theorem key_size (s : ByteArray) : (keyT s).size = 1 + s.size := by unfold keyT; simp [ByteArray.size_append]; rfl
theorem epoch_size (a b : ByteArray) : (epochT a b).size = 1 + a.size + b.size := by unfold epochT; simp [ByteArray.size_append]; rfl
theorem say_size (s : ByteArray) (who : Nat) : (sayT s who).size = 2 + s.size := by unfold sayT; simp [ByteArray.size_append, by1_size]; rfl
theorem parts_e {s : ByteArray} (hk : ok s = true) (c : g s 0 = 101) : len s 1 ≠ 0 ∧ len s (1 + len s 1) ≠ 0 ∧ 1 + len s 1 + len s (1 + len s 1) = s.size := by
 obtain ⟨_, h2, h3⟩ := ok_facts hk; have h4 := len_e c; rw [Nat.zero_add] at h4; unfold epLen at h4; by_cases q : len s 1 = 0
 · rw [if_pos q, more_zero rfl] at h4; omega
 rw [if_neg q] at h4; by_cases r : len s (1 + len s 1) = 0
 · rw [more_zero r, more_zero rfl] at h4; omega
 rw [more_pos r, more_pos (by omega)] at h4; exact ⟨q, r, by omega⟩
theorem parts_m {s : ByteArray} (hk : ok s = true) (c : g s 0 = 109) : 65 ≤ g s 1 ∧ g s 1 ≤ 72 ∧ len s 2 ≠ 0 ∧ 2 + len s 2 = s.size := by
 obtain ⟨_, h2, h3⟩ := ok_facts hk; have h4 := len_m c; rw [Nat.zero_add] at h4; unfold sayLen at h4; rw [show 1 + 1 = 2 from rfl] at h4; by_cases q : 65 ≤ g s 1 ∧ g s 1 ≤ 72
 · rw [if_pos q] at h4; by_cases r : len s 2 = 0
   · rw [more_zero r, more_zero rfl] at h4; omega
   rw [more_pos r, more_pos (by omega)] at h4; exact ⟨q.1, q.2, r, by omega⟩
 · rw [if_neg q, more_zero rfl] at h4; omega
theorem parts_r {s : ByteArray} (hk : ok s = true) (c : g s 0 = 114) : 49 ≤ g s 1 ∧ g s 1 ≤ 57 ∧ len s 2 ≠ 0 ∧ 2 + len s 2 = s.size := by
 obtain ⟨_, h2, h3⟩ := ok_facts hk; have h4 := len_r c; rw [Nat.zero_add] at h4; unfold roomLen at h4; rw [show 1 + 1 = 2 from rfl] at h4; by_cases q : 49 ≤ g s 1 ∧ g s 1 ≤ 57
 · rw [if_pos q] at h4; by_cases r : len s 2 = 0
   · rw [more_zero r, more_zero rfl] at h4; omega
   rw [more_pos r, more_pos (by omega)] at h4; exact ⟨q.1, q.2, r, by omega⟩
 · rw [if_neg q, more_zero rfl] at h4; omega
theorem parts_new {s : ByteArray} (hk : ok s = true) (c1 : g s 0 ≠ 110) (c2 : g s 0 ≠ 107) (c3 : g s 0 ≠ 101) (c4 : g s 0 ≠ 109) (c5 : g s 0 ≠ 114) : fresh s 0 = s.size := by obtain ⟨_, h2, h3⟩ := ok_facts hk; rw [← h3, len_else c1 c2 c4 c5 c3]
end Go.Proofs.YtdfpeaenbmgihaaGreat
/-
  What all texts need: hidden facts. No Go function in it.
-/
namespace Go.Proofs.YtdfpeaenbmgihaaGreat
open Go.RowKit
theorem hide {p : Prop} (h : p) : Hid p := h
theorem unhide {p : Prop} (h : Hid p) : p := h
theorem ret_str {a b : ByteArray} (h : a = b) : Ending.returned (.string a) = .returned (.string b) := by rw [h]
theorem le_maxLen {n : Nat} (h : n ≤ 100000) : n ≤ maxLen := by unfold maxLen; omega
end Go.Proofs.YtdfpeaenbmgihaaGreat
/-
  Rows of texts: what a slice of texts holds; slices of the call's own. No Go function in it.
-/
namespace Go.Proofs.YtdfpeaenbmgihaaGreat
open Go.RowKit
def SRow (w : World) (v : Value) (xs : List ByteArray) : Prop :=
  (v = .slice none 0 0 ∧ xs = []) ∨ ∃ (a : Addr) (cap : Nat), v = .slice (some a) xs.length cap ∧ xs.length ≤ cap ∧ cap ≤ maxLen ∧ ∀ i, i < xs.length → w.cell? (a.add i) = some (.string (xs.getD i ByteArray.empty))
theorem cell_lt {w : World} {p : Addr} {v : Value} (h : w.cell? p = some v) : p.block < w.heap.size := by apply Classical.byContradiction; intro hn; have : w.heap[p.block]? = none := Array.getElem?_eq_none (by omega); simp [World.cell?, this] at h
theorem SRow.below {w w' : World} {v : Value} {xs : List ByteArray} (h : SRow w v xs) (hb : Below w.heap.size w w') : SRow w' v xs := by
 rcases h with h | ⟨a, cap, h1, h2, h3, h4⟩
 · exact .inl h
 · exact .inr ⟨a, cap, h1, h2, h3, fun i hi => (hb.cell (p := a.add i) (cell_lt (h4 i hi))).trans (h4 i hi)⟩
theorem SRow.drew {w : World} {v : Value} {xs : List ByteArray} (h : SRow w v xs) : SRow w.drew v xs := h
theorem ret_bool' {a b : Bool} (h : a = b) : Ending.returned (.bool a) = .returned (.bool b) := by rw [h]
theorem toList_eq {x y : ByteArray} : (x.toList == y.toList) = true ↔ x = y := by
 constructor
 · intro h; (have h1 : x.toList = y.toList := by simpa using h); have h2 := congrArg (fun l => (⟨l.toArray⟩ : ByteArray)) h1; exact ByteArray.ext (by simpa [ByteArray.toList_eq] using h2)
 · intro h; subst h; simp
theorem SRow.form {w : World} {v : Value} {xs : List ByteArray} (h : SRow w v xs) : ∃ (ao : Option Addr) (cap : Nat), v = .slice ao xs.length cap ∧ xs.length ≤ cap ∧ cap ≤ maxLen ∧ ∀ i, i < xs.length → ∃ a, ao = some a ∧ w.cell? (a.add i) = some (.string (xs.getD i ByteArray.empty)) := by
 rcases h with ⟨rfl, rfl⟩ | ⟨a, cap, rfl, h1, h2, h3⟩
 · exact ⟨none, 0, rfl, Nat.le_refl _, by omega, fun i hi => absurd hi (Nat.not_lt_zero _)⟩
 · exact ⟨some a, cap, rfl, h1, h2, fun i hi => ⟨a, rfl, h3 i hi⟩⟩
theorem getD_mem {xs : List ByteArray} {k : Nat} (h : k < xs.length) : xs.getD k ByteArray.empty ∈ xs := by rw [List.getD_eq_getElem?_getD, List.getElem?_eq_getElem h]; exact List.getElem_mem h
theorem mem_getD {xs : List ByteArray} {x : ByteArray} (h : x ∈ xs) : ∃ k, k < xs.length ∧ xs.getD k ByteArray.empty = x := by obtain ⟨j, hj, e⟩ := List.getElem_of_mem h; refine ⟨j, hj, ?_⟩; rw [List.getD_eq_getElem?_getD, List.getElem?_eq_getElem hj]; exact e
theorem own_srow {w : World} {base : Nat} {v : Value} {xs : List ByteArray} (h : w.ownsRow base 9 1 v xs.length (xs.map Value.string)) : SRow w v xs := by
 have hh := h; rcases h.2 with ⟨h1, h2⟩ | ⟨g, cap, cur, h1, h2, h3, h4, h5, h6, h7⟩
 · exact .inl ⟨h1, List.eq_nil_of_length_eq_zero h2⟩
 · subst h1; refine .inr ⟨⟨g, 0, none⟩, cap, rfl, h4, h5, fun i hi => ?_⟩; have hc := hh.cellAt i (by omega); rw [Addr.add_lit, Nat.zero_add, hc]; simp [hi]
theorem own_below' {w w' : World} {base : Nat} {e : TypeId} {size : Nat} {v : Value} {n : Nat} {xs : List Value} (h : w.ownsRow base e size v n xs) (hb : Below w.heap.size w w') : w'.ownsRow base e size v n xs := by refine ⟨h.1, h.2.imp id ?_⟩; rintro ⟨g, cap, cur, h1, h2, h3, h4⟩; (have hlt : g < w.heap.size := by apply Classical.byContradiction; intro hn; rw [Array.getElem?_eq_none (by omega)] at h3; cases h3); exact ⟨g, cap, cur, h1, h2, (hb.block g hlt).trans h3, h4⟩
def Own (B : Nat) (w : World) (v : Value) (xs : List ByteArray) : Prop := w.ownsRow B 9 1 v xs.length (xs.map Value.string)
theorem Own.below {B : Nat} {w w' : World} {v : Value} {xs : List ByteArray} (h : Own B w v xs) (hb : Below w.heap.size w w') : Own B w' v xs := own_below' h hb
theorem Own.srow {B : Nat} {w : World} {v : Value} {xs : List ByteArray} (h : Own B w v xs) : SRow w v xs := own_srow h
theorem Own.grow {B : Nat} {w w6 w7 : World} {o : Obj} {v v' : Value} {xs : List ByteArray} {y : ByteArray} (hO : Own B w6 v xs) (hbl : Below B w w6) (hB : B ≤ w.heap.size) (hown' : w7.ownsRow B 9 1 v' (xs.length + 1) (xs.map Value.string ++ [.string y])) (hg : (w6.alloc o).grownBy w7 v.ownBlock) : Own B w7 v' (xs ++ [y]) ∧ Below B w w7 := by have hs := hbl.size; refine ⟨?_, (hbl.alloc (by omega) o).grown hg (by simp; omega) (fun k hk => (hO.lt k hk).1)⟩; unfold Own; rw [List.length_append, List.map_append]; exact hown'
def lenOf : Value → Nat
  | .slice _ n _ => n
  | _ => 0
theorem Own.len {B : Nat} {w : World} {v : Value} {xs : List ByteArray} (h : Own B w v xs) : lenOf v = xs.length := by
 rcases h.2 with ⟨h1, h2⟩ | ⟨g, cap, cur, h1, _⟩
 · rw [h1, h2]; rfl
 · rw [h1]; rfl
theorem info_str2 : (Tryz.prog.info? 9).map (fun i => (i.zero, i.size, i.bytes)) = some (some (.string ⟨#[]⟩), 1, 16) := by kernel_rfl
theorem row_form' {w : World} {B : Nat} {e : TypeId} {size : Nat} {v : Value} {n : Nat} {xs : List Value} (h : w.ownsRow B e size v n xs) : ∃ ao cap, v = .slice ao n cap := by
 rcases h.2 with ⟨h1, h2⟩ | ⟨g, cap, cur, h1, _⟩
 · exact ⟨none, 0, by rw [h1, h2]⟩
 · exact ⟨_, cap, h1⟩
end Go.Proofs.YtdfpeaenbmgihaaGreat
/-
  Slices of the call's own, their rows between two numbers. No Go function in it.
-/
namespace Go.Proofs.YtdfpeaenbmgihaaGreat
open Go.RowKit
def RowIn (lo hi : Nat) (e : TypeId) (size : Nat) (w : World) (v : Value) (n : Nat) (xs : List Value) : Prop := w.ownsRow lo e size v n xs ∧ ∀ g, v.ownBlock = some g → g < hi
theorem RowIn.of {lo : Nat} {e : TypeId} {size : Nat} {w : World} {v : Value} {n : Nat} {xs : List Value} (h : w.ownsRow lo e size v n xs) : RowIn lo w.heap.size e size w v n xs := ⟨h, fun g hg => (h.lt g hg).2⟩
theorem RowIn.below {lo hi : Nat} {e : TypeId} {size : Nat} {w w' : World} {v : Value} {n : Nat} {xs : List Value} (h : RowIn lo hi e size w v n xs) (hb : Below w.heap.size w w') : RowIn lo hi e size w' v n xs := ⟨own_below' h.1 hb, h.2⟩
theorem RowIn.grown {lo hi : Nat} {e : TypeId} {size : Nat} {w w' : World} {v : Value} {n : Nat} {xs : List Value} {r : Option Nat} (h : RowIn lo hi e size w v n xs) (hg : w.grownBy w' r) (hr : ∀ k, r = some k → k < lo ∨ hi ≤ k) : RowIn lo hi e size w' v n xs := by
 refine ⟨h.1.kept hg ?_, h.2⟩
 cases hv : v.ownBlock with
 | none => exact .inl rfl
 | some g =>
  right; intro e'; have h1 := (h.1.lt g hv).1; have h2 := h.2 g hv; have := hr g e'.symm; omega
theorem RowIn.out {lo hi : Nat} {e : TypeId} {size : Nat} {w : World} {v : Value} {n : Nat} {xs : List Value} (h : RowIn lo hi e size w v n xs) : ∀ k, v.ownBlock = some k → lo ≤ k ∧ k < hi := fun k hk => ⟨(h.1.lt k hk).1, h.2 k hk⟩
def TIn (lo hi : Nat) (w : World) (v : Value) (xs : List ByteArray) : Prop := RowIn lo hi 9 1 w v xs.length (xs.map Value.string)
theorem TIn.srow {lo hi : Nat} {w : World} {v : Value} {xs : List ByteArray} (h : TIn lo hi w v xs) : SRow w v xs := own_srow h.1
theorem TIn.below {lo hi : Nat} {w w' : World} {v : Value} {xs : List ByteArray} (h : TIn lo hi w v xs) (hb : Below w.heap.size w w') : TIn lo hi w' v xs := RowIn.below h hb
theorem TIn.grown {lo hi : Nat} {w w' : World} {v : Value} {xs : List ByteArray} {r : Option Nat} (h : TIn lo hi w v xs) (hg : w.grownBy w' r) (hr : ∀ k, r = some k → k < lo ∨ hi ≤ k) : TIn lo hi w' v xs := RowIn.grown h hg hr
end Go.Proofs.YtdfpeaenbmgihaaGreat
/-
  Variables in blocks of their own, beside rows. No Go function in it.
-/
namespace Go.Proofs.YtdfpeaenbmgihaaGreat
open Go.RowKit
theorem box_below {w w' : World} {b : Nat} {t : TypeId} {v : Value} (h : Boxed w b t v) (hb : Below w.heap.size w w') : Boxed w' b t v := (hb.block b h.lt).trans h
theorem box_below0 {w w' : World} {b B : Nat} {t : TypeId} {v : Value} (h : Boxed w b t v) (hb : Below B w w') (hlt : b < B) : Boxed w' b t v := (hb.block b hlt).trans h
theorem row_box {B : Nat} {w : World} {e t : TypeId} {size n b : Nat} {v u : Value} {xs : List Value} (h : w.ownsRow B e size v n xs) (hx : Boxed w b t u) (hte : t ≠ e) (x : Value) : (w.setCell ⟨b, 0, none⟩ x).ownsRow B e size v n xs := h.kept (grownBy_setCell' w b x) (.inr (hx.not_row hte h).symm)
theorem below_box {B : Nat} {w w' : World} {b : Nat} (h : Below B w w') (hb : B ≤ b) (x : Value) : Below B w (w'.setCell ⟨b, 0, none⟩ x) := h.setCell (p := ⟨b, 0, none⟩) hb x
theorem box_grown {B : Nat} {w w' : World} {e t : TypeId} {size n b : Nat} {v u : Value} {xs : List Value} (hx : Boxed w b t u) (h : w.ownsRow B e size v n xs) (hte : t ≠ e) (hg : w.grownBy w' v.ownBlock) : Boxed w' b t u := hx.kept hg (hx.not_row hte h)
theorem row_lowB {B B' : Nat} {w : World} {e : TypeId} {size : Nat} {v : Value} {n : Nat} {xs : List Value} (h : w.ownsRow B e size v n xs) (hB : B' ≤ B) : w.ownsRow B' e size v n xs := by refine ⟨h.1, h.2.imp id ?_⟩; rintro ⟨g, cap, cur, h1, h2, h3⟩; exact ⟨g, cap, cur, h1, by omega, h3⟩
end Go.Proofs.YtdfpeaenbmgihaaGreat
/-
  Blocks of several cells that a call made: whole values stored into them and read out of them. No Go function in it.
-/
namespace Go.Proofs.YtdfpeaenbmgihaaGreat
open Go.RowKit
def Blk (w : World) (b : Nat) (t : TypeId) (cs : Array Value) : Prop := w.heap[b]? = some (.cells cs t (0, 0))
theorem Blk.lt {w : World} {b : Nat} {t : TypeId} {cs : Array Value} (h : Blk w b t cs) : b < w.heap.size := (Array.getElem?_eq_some_iff.1 h).1
theorem Blk.new (w : World) (t : TypeId) (cs : Array Value) : Blk (w.alloc (.cells cs t)) w.heap.size t cs := World.alloc_heap_new w _
theorem Blk.below {w w' : World} {b : Nat} {t : TypeId} {cs : Array Value} (h : Blk w b t cs) (hb : Below w.heap.size w w') : Blk w' b t cs := (hb.block b h.lt).trans h
theorem Blk.below0 {w w' : World} {b B : Nat} {t : TypeId} {cs : Array Value} (h : Blk w b t cs) (hb : Below B w w') (hlt : b < B) : Blk w' b t cs := (hb.block b hlt).trans h
theorem Blk.kept {w w' : World} {row : Option Nat} {b : Nat} {t : TypeId} {cs : Array Value} (h : Blk w b t cs) (hg : w.grownBy w' row) (hne : some b ≠ row) : Blk w' b t cs := (hg.block b h.lt hne).trans h
theorem Blk.alloc {w : World} {b : Nat} {t : TypeId} {cs : Array Value} (h : Blk w b t cs) (o : Obj) : Blk (w.alloc o) b t cs := h.kept (World.grownBy_alloc w o none) (by simp)
theorem Blk.drew {w : World} {b : Nat} {t : TypeId} {cs : Array Value} (h : Blk w b t cs) : Blk w.drew b t cs := h
theorem Blk.cell {w : World} {b : Nat} {t : TypeId} {cs : Array Value} (h : Blk w b t cs) (i : Nat) : w.cell? ⟨b, i, none⟩ = cs[i]? := by simp [World.cell?, show w.heap[b]? = _ from h]
theorem Blk.frozen {w : World} {b : Nat} {t : TypeId} {cs : Array Value} (h : Blk w b t cs) (i : Nat) : w.frozen? ⟨b, i, none⟩ = false := by simp [World.frozen?, show w.heap[b]? = _ from h]
theorem Blk.set {w : World} {b : Nat} {t : TypeId} {cs : Array Value} (h : Blk w b t cs) (ds : Array Value) : Blk (w.setRow b ds) b t ds := setRow_heap w b cs ds t _ h
theorem grown_setRow (w : World) (b : Nat) (cs : Array Value) : w.grownBy (w.setRow b cs) (some b) :=
  ⟨rfl, rfl, rfl, by simp, fun k _ hk => setRow_other w b k cs (fun e => hk (by rw [e]))⟩
theorem Blk.other {w : World} {b b' : Nat} {t : TypeId} {cs : Array Value} (h : Blk w b t cs) (hne : b ≠ b') (ds : Array Value) : Blk (w.setRow b' ds) b t cs := h.kept (grown_setRow w b' ds) (fun e => hne (by cases e; rfl))
theorem Blk.not_row {w : World} {b : Nat} {t e : TypeId} {cs : Array Value} (h : Blk w b t cs) (hte : t ≠ e) {base size k : Nat} {v : Value} {xs : List Value} (hr : w.ownsRow base e size v k xs) : some b ≠ v.ownBlock := by
 rcases hr.2 with ⟨rfl, _⟩ | ⟨g, cap, cur, rfl, _, hgb, _⟩
 · simp [Value.ownBlock]
 · intro q; (obtain rfl : b = g := by simpa [Value.ownBlock] using q); have := (show w.heap[b]? = _ from h).symm.trans hgb; simp at this; exact hte this.2
theorem row_blk {B : Nat} {w : World} {e t : TypeId} {size n b : Nat} {v : Value} {xs : List Value} {cs : Array Value} (h : w.ownsRow B e size v n xs) (hx : Blk w b t cs) (hte : t ≠ e) (ds : Array Value) : (w.setRow b ds).ownsRow B e size v n xs := h.kept (grown_setRow w b ds) (.inr (hx.not_row hte h).symm)
theorem below_blk {B : Nat} {w w' : World} {b : Nat} (h : Below B w w') (hb : B ≤ b) (ds : Array Value) : Below B w (w'.setRow b ds) := h.trans ⟨rfl, rfl, rfl, by simp [World.setRow], fun k hk => setRow_other w' b k ds (by omega)⟩
theorem wpList_store_whole {P : Program} {ops : Array Oper} {rest : List Oper} {o : Oper} {a : Act} {w : World} {Q : Exit → Act → World → Prop} (hg : o.guard = none) (ty : TypeId) (x y : Operand) (ho : o.op = .store ty x y) (b : Nat) (cells : Array Value) (hx : a.eval x = .pointer (some ⟨b, 0, none⟩)) (hy : a.eval y = .agg cells) (t : TypeId) (old : Array Value) (hb : Blk w b t old) (hi : (P.info? ty).map (·.size) = some cells.size) (hold : old.size = cells.size) (h1 : cells.all (·.oneCell') = true) (h : wpList P ops Q rest (a.put o.dst undef) (w.setRow b cells)) : wpList P ops Q (o :: rest) a w := wpList_plain hg fun _ hK => wp_store_row ty x y ho b cells hx hy t old hb hi hold h1 (hK _ _ h)
theorem wpList_load_whole {P : Program} {ops : Array Oper} {rest : List Oper} {o : Oper} {a : Act} {w : World} {Q : Exit → Act → World → Prop} (hg : o.guard = none) (ty : TypeId) (x : Operand) (ho : o.op = .load ty x)
    (b : Addr) (hx : a.eval x = .pointer (some b)) (v : Value) (hl : (loadVar ty b).run P w = .ok v w)
    (h : wpList P ops Q rest (a.put o.dst v) w) : wpList P ops Q (o :: rest) a w :=
  wpList_plain hg fun _ hK => by
    unfold Oper.wp execOp
    simp only [ho, hx, Instr.loadAt, Instr.sureAddr, Sem.run_bind, Sem.run_pure, Result.andThen_ok, hl]
    exact hK _ _ h
theorem results_cell {P : Program} {fn : Func} {a t : Nat} {tmps : Array Value} {w : World} {b : Addr} {v : Value} (h : fn.results = #[.cell a t]) (hp : tmps.getD a undef = .pointer (some b)) (hl : (loadVar t b).run P w = .ok v w) : (results fn tmps).run P w = .ok v w := by (have hp' : tmps[a]?.getD undef = .pointer (some b) := by simpa using hp); simp [results, h, hp', asAddr, hl]
end Go.Proofs.YtdfpeaenbmgihaaGreat
/-
  Several cells out of and into the middle of a block that a call made. No Go function in it.
-/
namespace Go.Proofs.YtdfpeaenbmgihaaGreat
open Go.RowKit
theorem heap_setAt {w : World} {b i : Nat} {t : TypeId} {cs : Array Value} (h : Blk w b t cs) (v : Value) : Blk (w.setCell ⟨b, i, none⟩ v) b t (cs.setIfInBounds i v) := by unfold Blk; rw [heap_setCell_same w b i _ _ v h]
theorem Blk.otherC {w : World} {b b' i : Nat} {t : TypeId} {cs : Array Value} (h : Blk w b t cs) (hne : b ≠ b') (v : Value) : Blk (w.setCell ⟨b', i, none⟩ v) b t cs := by unfold Blk; rw [Below.heap_setCell _ _ _ _ hne]; exact h
theorem grown_setC (w : World) (b i : Nat) (v : Value) : w.grownBy (w.setCell ⟨b, i, none⟩ v) (some b) :=
  ⟨rfl, rfl, rfl, by simp [World.setCell], fun k _ hk => Below.heap_setCell _ _ _ _ (fun e => hk (by rw [e]))⟩
theorem row_setC {B : Nat} {w : World} {e t : TypeId} {size n b i : Nat} {v : Value} {xs : List Value} {cs : Array Value} (h : w.ownsRow B e size v n xs) (hx : Blk w b t cs) (hte : t ≠ e) (x : Value) : (w.setCell ⟨b, i, none⟩ x).ownsRow B e size v n xs := h.kept (grown_setC w b i x) (.inr (hx.not_row hte h).symm)
def setAll : Array Value → Nat → List Value → Array Value
  | cs, _, [] => cs
  | cs, o, v :: r => setAll (cs.setIfInBounds o v) (o + 1) r
theorem Blk.setCells {b : Nat} {t : TypeId} : ∀ (vs : List Value) (o : Nat) {w : World} {cs : Array Value}, Blk w b t cs → Blk (w.setCells b o vs) b t (setAll cs o vs) | [], _, _, _, h => h | v :: r, o, _, _, h => Blk.setCells r (o + 1) (heap_setAt h v)
theorem grown_trans {u v w : World} {b : Nat} (h : u.grownBy v (some b)) (k : v.grownBy w (some b)) : u.grownBy w (some b) := ⟨k.os.trans h.os, k.tape.trans h.tape, k.output.trans h.output, Nat.le_trans h.size k.size, fun z hz hne => (k.block z (Nat.lt_of_lt_of_le hz h.size) hne).trans (h.block z hz hne)⟩
theorem grown_setCells (b : Nat) : ∀ (vs : List Value) (o : Nat) (w : World), w.grownBy (w.setCells b o vs) (some b) | [], _, _ => ⟨rfl, rfl, rfl, Nat.le_refl _, fun _ _ _ => rfl⟩ | v :: r, o, w => grown_trans (grown_setC w b o v) (grown_setCells b r (o + 1) _)
theorem Blk.there {w : World} {b : Nat} {t : TypeId} {cs : Array Value} (h : Blk w b t cs) {o n : Nat} (hn : o + n ≤ cs.size) : w.there b o n := fun j hj => by
  rw [h.cell, h.frozen]
  refine ⟨?_, rfl⟩
  rw [Array.getElem?_eq_getElem (by omega)]
  rfl
theorem Blk.range {w : World} {b : Nat} {t : TypeId} {cs : Array Value} (h : Blk w b t cs) {o : Nat} {vs : List Value} (hv : ∀ j v, vs[j]? = some v → cs[o + j]? = some v) : w.rangeAt b o vs := fun j v hj => by rw [h.cell]; exact hv j v hj
end Go.Proofs.YtdfpeaenbmgihaaGreat
/-
  A region that draws its order: whatever yields its value in every later world may be taken first; so what makes or writes memory alone comes up, one by one; what waits for all others may write what it likes.
-/
namespace Go.Proofs.YtdfpeaenbmgihaaGreat
open Go.RowKit
structure Pre (R : World → World → Prop) : Prop where
  refl : ∀ w, R w w
  trans : ∀ u v w, R u v → R v w → R u w
section
variable {P : Program} {ops : Array Oper} {Q : Exit → Act → World → Prop} {md : Region.Mode} {R : World → World → Prop}
def waitsB (md : Region.Mode) (ops : Array Oper) (j : Nat) : Bool :=
  (List.range ops.size).all fun k => k == j || ((ops[j]?).map (fun o => o.after.any fun e => Region.binds md e && e.on == k)).getD false
def wpAnyR (P : Program) (md : Region.Mode) (ops : Array Oper) (Q : Exit → Act → World → Prop) (R : World → World → Prop) : Nat → Array Bool → Act → World → Prop
  | 0, listed, a, w => Region.ready md ops listed = [] ∧ Q .normal a w
  | fuel + 1, listed, a, w =>
    (Region.ready md ops listed = [] → Q .normal a w) ∧
    ∀ i ∈ Region.ready md ops listed, wpOp P ops Q i (fun a' w' => (waitsB md ops i = true ∧ Region.ready md ops (listed.setIfInBounds i true) = [] ∧ Q .normal a' w') ∨ (R w w' ∧ wpAnyR P md ops Q R fuel (listed.setIfInBounds i true) a' w')) a w
theorem wpAny_of_R : ∀ (fuel : Nat) (listed : Array Bool) (a : Act) (w : World), wpAnyR P md ops Q R fuel listed a w → wpAny P md ops Q fuel listed a w
  | 0, _, _, _, h => h
  | fuel + 1, _, _, _, h => ⟨h.1, fun i hi => wpOp_mono (fun a' w' h' => by
      rcases h' with ⟨_, h1, h2⟩ | h'
      · cases fuel with
        | zero => exact ⟨h1, h2⟩
        | succ f => exact ⟨fun _ => h2, by rw [h1]; simp⟩
      · exact wpAny_of_R fuel _ a' w' h'.2) (h.2 i hi)⟩
theorem YieldsIf.later {S S' : World → Prop} {o : Oper} {v : Value} {a : Act} (h : YieldsIf P ops S o v a) (hs : ∀ w, S' w → S w) : YieldsIf P ops S' o v a := h.imp (fun ⟨hw, hv⟩ => ⟨hw, fun w hS => hv w (hs w hS)⟩) id
theorem waits_spec {j i : Nat} {oj : Oper} (hj : ops[j]? = some oj) (h : waitsB md ops j = true) (hi : i < ops.size) (hne : i ≠ j) : ∃ e ∈ oj.after, Region.binds md e = true ∧ e.on = i := by unfold waitsB at h; rw [List.all_eq_true] at h; have h1 := h i (by rw [List.mem_range]; exact hi); rw [hj] at h1; simp only [Option.map_some, Option.getD_some, Bool.or_eq_true, beq_iff_eq, hne, false_or, Array.any_eq_true', Bool.and_eq_true] at h1; exact h1
theorem wpAnyR_first (hP : Pre R) {i : Nat} {oi : Oper} {v : Value} (hi : ops[i]? = some oi) (hsel : ∀ (j : Nat) (o : Oper) cs b, ops[j]? = some o → o.op ≠ .select cs b) (hQ : ∀ c a w, Q (.panic c) (a.put oi.dst v) w → Q (.panic c) a w) : ∀ (fuel : Nat) (listed : Array Bool) (a : Act) (w : World), (∀ j oj, ops[j]? = some oj → j ≠ i → listed.getD j true = false → (∀ e ∈ oj.after, Region.binds md e = true → e.on ≠ i) → oi.apart ops oj = true) → i ∈ Region.ready md ops listed → YieldsIf P ops (R w) oi v a → wpAnyR P md ops Q R fuel (listed.setIfInBounds i true) (a.put oi.dst v) w → wpAnyR P md ops Q R (fuel + 1) listed a w := by
 intro fuel
 induction fuel with
 | zero =>
  intro listed a w _ hr hy H; refine ⟨fun h => (by rw [h] at hr; cases hr), fun j hj => ?_⟩; by_cases hji : j = i
  · subst hji; exact hy.wpOp hi (hP.refl w) (.inr ⟨hP.refl w, H⟩)
  · have := ready_mono hj hji; rw [H.1] at this; cases this
 | succ fuel ih =>
  intro listed a w hfree hr hy H; refine ⟨fun h => (by rw [h] at hr; cases hr), fun j hj => ?_⟩; by_cases hji : j = i
  · subst hji; exact hy.wpOp hi (hP.refl w) (.inr ⟨hP.refl w, H⟩)
  · have h1 := H.2 j (ready_mono hj hji); obtain ⟨hjun, oj, hoj, hall⟩ := mem_ready.1 hj
    have hnot : ∀ e ∈ oj.after, Region.binds md e = true → e.on ≠ i := fun e he hb heq => by
     have h1 := hall e he hb; have h0 := (mem_ready.1 hr).1; rw [heq] at h1; rcases Nat.lt_or_ge i listed.size with h' | h'
     · simp [h'] at h0 h1; rw [h0] at h1; cases h1
     · simp [Array.getElem?_eq_none h'] at h1
    (have hnw : ¬ waitsB md ops j = true := fun q => by obtain ⟨e, he, hb, heq⟩ := waits_spec hoj q (Array.getElem?_eq_some_iff.1 hi).1 (Ne.symm hji); exact hnot e he hb heq); have h2 := wpOp_putIf hoj (hfree j oj hoj hji hjun hnot) (fun cs b => hsel i oi cs b hi) (fun cs b => hsel j oj cs b hoj) hQ hy h1
    have hfree' : ∀ k ok, ops[k]? = some ok → k ≠ i → (listed.setIfInBounds j true).getD k true = false →
        (∀ e ∈ ok.after, Region.binds md e = true → e.on ≠ i) → oi.apart ops ok = true := fun k ok hk hki hun hno => by
      refine hfree k ok hk hki ?_ hno
      by_cases hjk : j = k
      · subst hjk; exact hjun
      · rw [getD_set_ne true hjk] at hun; exact hun
    refine wpOp_mono (fun a' w' h3 => ?_) h2; rcases h3.2 with ⟨q, _⟩ | ⟨h4, h5⟩
    · exact absurd q hnw
    refine .inr ⟨h4, ih (listed.setIfInBounds j true) a' w' hfree' (ready_mono hr (Ne.symm hji)) (YieldsIf.later h3.1 (fun u hu => hP.trans _ _ _ h4 hu)) ?_⟩; rw [Array.setIfInBounds_comm _ _ hji]; exact h5
theorem ord_take (hP : Pre R) {i d : Nat} {v : Value} {fuel : Nat} {listed : Array Bool} {a : Act} {w : World} (hs : Region.noSelect ops = true) (hf : Region.free md ops listed i = true) (hr : (Region.ready md ops listed).contains i = true) (hd : (ops[i]?).bind (·.dst) = some d) (hQ : ∀ c a w, Q (.panic c) (a.put (some d) v) w → Q (.panic c) a w) (hy : ∀ oi, ops[i]? = some oi → Region.wanted oi (yielded ops a.tmps) = true ∧ ∀ w', R w w' → (execOp a.eval oi).run P w' = .ok (.value v) w') (h : wpAnyR P md ops Q R fuel (listed.setIfInBounds i true) (a.put (some d) v) w) : wpAnyR P md ops Q R (fuel + 1) listed a w := by
 cases hi : ops[i]? with
 | none => rw [hi] at hd; cases hd
 | some oi =>
  rw [hi] at hd; have hd' : oi.dst = some d := hd; rw [← hd'] at h hQ; exact wpAnyR_first hP hi (Region.noSelect_spec hs) hQ fuel listed a w (Region.free_spec hi hf) (by simpa using hr) (.inl (hy oi hi)) h
theorem ord_skip (hP : Pre R) {i d : Nat} {fuel : Nat} {listed : Array Bool} {a : Act} {w : World} (hs : Region.noSelect ops = true) (hf : Region.free md ops listed i = true) (hr : (Region.ready md ops listed).contains i = true) (hd : (ops[i]?).bind (·.dst) = some d) (hQ : ∀ c a w, Q (.panic c) (a.put (some d) undef) w → Q (.panic c) a w) (hy : ((ops[i]?).map fun oi => Region.wanted oi (yielded ops a.tmps)) = some false) (h : wpAnyR P md ops Q R fuel (listed.setIfInBounds i true) (a.put (some d) undef) w) : wpAnyR P md ops Q R (fuel + 1) listed a w := by
 cases hi : ops[i]? with
 | none => rw [hi] at hd; cases hd
 | some oi =>
  rw [hi] at hd hy; have hd' : oi.dst = some d := hd; rw [← hd'] at h hQ; exact wpAnyR_first hP hi (Region.noSelect_spec hs) hQ fuel listed a w (Region.free_spec hi hf) (by simpa using hr) (.inr ⟨by simpa using hy, rfl⟩) h
theorem ord_one {i : Nat} {fuel : Nat} {listed : Array Bool} {a : Act} {w : World} (hr : Region.ready md ops listed = [i]) (h : ∀ oi K, ops[i]? = some oi → Shut (∀ a' w', R w w' → wpAnyR P md ops Q R fuel (listed.setIfInBounds i true) a' w' → K a' w') → Region.wanted oi (yielded ops a.tmps) = true ∧ oi.wp P a w K Q) : wpAnyR P md ops Q R (fuel + 1) listed a w := by
 refine ⟨fun h0 => (by rw [hr] at h0; cases h0), fun j hj => ?_⟩; rw [hr] at hj; (obtain rfl : j = i := by simpa using hj); unfold wpOp
 cases hi : ops[j]? with
 | none =>
  (have : j ∈ Region.ready md ops listed := by rw [hr]; simp); obtain ⟨_, o, ho, _⟩ := mem_ready.1 this; rw [hi] at ho; cases ho
 | some oi =>
  obtain ⟨hw, hwp⟩ := h oi (fun a' w' => (waitsB md ops j = true ∧ Region.ready md ops (listed.setIfInBounds j true) = [] ∧ Q .normal a' w') ∨ (R w w' ∧ wpAnyR P md ops Q R fuel (listed.setIfInBounds j true) a' w')) hi (fun a' w' hl hk => .inr (And.intro hl hk)); simp only [hw, if_true]; exact .inl hwp
theorem ord_last {i : Nat} {fuel : Nat} {listed : Array Bool} {a : Act} {w : World} (hr : Region.ready md ops listed = [i]) (hwt : waitsB md ops i = true) (he : Region.ready md ops (listed.setIfInBounds i true) = []) (h : ∀ oi K, ops[i]? = some oi → Shut (∀ a' w', Q .normal a' w' → K a' w') → Region.wanted oi (yielded ops a.tmps) = true ∧ oi.wp P a w K Q) : wpAnyR P md ops Q R (fuel + 1) listed a w := by
 refine ⟨fun h0 => (by rw [hr] at h0; cases h0), fun j hj => ?_⟩; rw [hr] at hj; (obtain rfl : j = i := by simpa using hj); unfold wpOp
 cases hi : ops[j]? with
 | none =>
  (have : j ∈ Region.ready md ops listed := by rw [hr]; simp); obtain ⟨_, o, ho, _⟩ := mem_ready.1 this; rw [hi] at ho; cases ho
 | some oi =>
  obtain ⟨hw, hwp⟩ := h oi (fun a' w' => (waitsB md ops j = true ∧ Region.ready md ops (listed.setIfInBounds j true) = [] ∧ Q .normal a' w') ∨ (R w w' ∧ wpAnyR P md ops Q R fuel (listed.setIfInBounds j true) a' w')) hi (fun a' w' hl => .inl ⟨hwt, he, hl⟩); simp only [hw, if_true]; exact .inl hwp
theorem later_done {listed : Array Bool} {a : Act} {w : World} (hr : Region.ready md ops listed = []) (h : Q .normal a w) : ∀ fuel, wpAnyR P md ops Q R fuel listed a w | 0 => ⟨hr, h⟩ | _ + 1 => ⟨fun _ => h, by rw [hr]; simp⟩
theorem wp_region_ord (R : World → World → Prop) {id : Nat} {a : Act} {w : World} (hm : P.follows .mixedOrders = true) (h : wpAnyR P .any ops Q R ops.size (Array.replicate ops.size false) a w.drew) : (Code.region id ops true).wp P Q a w := wp_region_any hm (wpAny_of_R _ _ _ _ h)
end
def Later (w w' : World) : Prop := Below w.heap.size w w'
theorem laterPre : Pre Later := ⟨fun _ => Below.refl _ _, fun _ _ _ h k => Below.trans h (Below.mono k h.size)⟩
theorem belowPre (B : Nat) : Pre (Below B) := ⟨fun _ => Below.refl _ _, fun _ _ _ h k => Below.trans h k⟩
section
variable {P : Program} {ops : Array Oper} {Q : Exit → Act → World → Prop} {md : Region.Mode}
end
end Go.Proofs.YtdfpeaenbmgihaaGreat
/-
  As OrdR, but what waits for all others may do so by way of one that it waits for.
-/
namespace Go.Proofs.YtdfpeaenbmgihaaGreat.OrdC
open Go.RowKit
section
variable {P : Program} {ops : Array Oper} {Q : Exit → Act → World → Prop} {md : Region.Mode} {R : World → World → Prop}
def waits1 (md : Region.Mode) (ops : Array Oper) (j k : Nat) : Bool := ((ops[j]?).map (fun o => o.after.any fun e => Region.binds md e && e.on == k)).getD false
def waitsB (md : Region.Mode) (ops : Array Oper) (j : Nat) : Bool :=
  (List.range ops.size).all fun k => k == j || waits1 md ops j k || ((List.range ops.size).any fun m => waits1 md ops j m && waits1 md ops m k)
def Closed (md : Region.Mode) (ops : Array Oper) (listed : Array Bool) : Prop := ∀ (k : Nat) (ok : Oper), ops[k]? = some ok → listed.getD k false = true → ∀ e ∈ ok.after, Region.binds md e = true → listed.getD e.on false = true
theorem closed_step {listed : Array Bool} {j : Nat} (h : Closed md ops listed) (hj : j ∈ Region.ready md ops listed) : Closed md ops (listed.setIfInBounds j true) := by
 obtain ⟨hun, oj, hoj, hall⟩ := mem_ready.1 hj
 have up : ∀ m, listed.getD m false = true → (listed.setIfInBounds j true).getD m false = true := by
  intro m hm; by_cases e : j = m
  · subst e; rcases Nat.lt_or_ge j listed.size with h' | h'
    · simp [h']
    · simp [Array.getElem?_eq_none h'] at hm
  · rw [getD_set_ne false e]; exact hm
 intro k ok hk hl e he hb; by_cases hjk : j = k
 · subst hjk; rw [hoj] at hk; cases hk; exact up _ (hall e he hb)
 · rw [getD_set_ne false hjk] at hl; exact up _ (h k ok hk hl e he hb)
def wpAnyR (P : Program) (md : Region.Mode) (ops : Array Oper) (Q : Exit → Act → World → Prop) (R : World → World → Prop) : Nat → Array Bool → Act → World → Prop
  | 0, listed, a, w => Closed md ops listed → Region.ready md ops listed = [] ∧ Q .normal a w
  | fuel + 1, listed, a, w => Closed md ops listed →
    (Region.ready md ops listed = [] → Q .normal a w) ∧
    ∀ i ∈ Region.ready md ops listed, wpOp P ops Q i (fun a' w' => (waitsB md ops i = true ∧ Region.ready md ops (listed.setIfInBounds i true) = [] ∧ Q .normal a' w') ∨ (R w w' ∧ wpAnyR P md ops Q R fuel (listed.setIfInBounds i true) a' w')) a w
theorem wpAny_of_R : ∀ (fuel : Nat) (listed : Array Bool) (a : Act) (w : World), Closed md ops listed → wpAnyR P md ops Q R fuel listed a w → wpAny P md ops Q fuel listed a w
  | 0, _, _, _, hc, h => h hc
  | fuel + 1, listed, _, _, hc, h => ⟨(h hc).1, fun i hi => wpOp_mono (fun a' w' h' => by
      rcases h' with ⟨_, h1, h2⟩ | h'
      · cases fuel with
        | zero => exact ⟨h1, h2⟩
        | succ f => exact ⟨fun _ => h2, by rw [h1]; simp⟩
      · exact wpAny_of_R fuel _ a' w' (closed_step hc hi) h'.2) ((h hc).2 i hi)⟩
theorem waits1_spec {j i : Nat} {oj : Oper} (hj : ops[j]? = some oj) (h : waits1 md ops j i = true) : ∃ e ∈ oj.after, Region.binds md e = true ∧ e.on = i := by unfold waits1 at h; rw [hj] at h; simp only [Option.map_some, Option.getD_some, beq_iff_eq, Array.any_eq_true', Bool.and_eq_true] at h; exact h
theorem waits_spec {j i : Nat} {oj : Oper} {listed : Array Bool} (hj : ops[j]? = some oj) (h : waitsB md ops j = true) (hi : i < ops.size) (hne : i ≠ j) (hc : Closed md ops listed) (hall : ∀ e ∈ oj.after, Region.binds md e = true → listed.getD e.on false = true) : listed.getD i false = true := by
 unfold waitsB at h; rw [List.all_eq_true] at h; have h1 := h i (by rw [List.mem_range]; exact hi); simp only [Bool.or_eq_true, beq_iff_eq, hne, false_or] at h1; rcases h1 with h1 | h1
 · obtain ⟨e, he, hb, q⟩ := waits1_spec hj h1; rw [← q]; exact hall e he hb
 · rw [List.any_eq_true] at h1; obtain ⟨m, hm, h2⟩ := h1; rw [Bool.and_eq_true] at h2; obtain ⟨e, he, hb, q⟩ := waits1_spec hj h2.1; (have hml : listed.getD m false = true := by rw [← q]; exact hall e he hb); have hmo : ∃ om, ops[m]? = some om := ⟨_, Array.getElem?_eq_getElem (List.mem_range.1 hm)⟩; obtain ⟨om, hom⟩ := hmo; obtain ⟨e2, he2, hb2, q2⟩ := waits1_spec hom h2.2; rw [← q2]; exact hc m om hom hml e2 he2 hb2
theorem wpAnyR_first (hP : Pre R) {i : Nat} {oi : Oper} {v : Value} (hi : ops[i]? = some oi) (hsel : ∀ (j : Nat) (o : Oper) cs b, ops[j]? = some o → o.op ≠ .select cs b) (hQ : ∀ c a w, Q (.panic c) (a.put oi.dst v) w → Q (.panic c) a w) : ∀ (fuel : Nat) (listed : Array Bool) (a : Act) (w : World), (∀ j oj, ops[j]? = some oj → j ≠ i → listed.getD j true = false → (∀ e ∈ oj.after, Region.binds md e = true → e.on ≠ i) → oi.apart ops oj = true) → i ∈ Region.ready md ops listed → YieldsIf P ops (R w) oi v a → wpAnyR P md ops Q R fuel (listed.setIfInBounds i true) (a.put oi.dst v) w → wpAnyR P md ops Q R (fuel + 1) listed a w := by
 intro fuel
 induction fuel with
 | zero =>
  intro listed a w _ hr hy H hc; refine ⟨fun h => (by rw [h] at hr; cases hr), fun j hj => ?_⟩; by_cases hji : j = i
  · subst hji; exact hy.wpOp hi (hP.refl w) (.inr ⟨hP.refl w, H⟩)
  · have := ready_mono hj hji; rw [(H (closed_step hc hr)).1] at this; cases this
 | succ fuel ih =>
  intro listed a w hfree hr hy H hc; refine ⟨fun h => (by rw [h] at hr; cases hr), fun j hj => ?_⟩; by_cases hji : j = i
  · subst hji; exact hy.wpOp hi (hP.refl w) (.inr ⟨hP.refl w, H⟩)
  · have h1 := (H (closed_step hc hr)).2 j (ready_mono hj hji); obtain ⟨hjun, oj, hoj, hall⟩ := mem_ready.1 hj
    have hnot : ∀ e ∈ oj.after, Region.binds md e = true → e.on ≠ i := fun e he hb heq => by
     have h1 := hall e he hb; have h0 := (mem_ready.1 hr).1; rw [heq] at h1; rcases Nat.lt_or_ge i listed.size with h' | h'
     · simp [h'] at h0 h1; rw [h0] at h1; cases h1
     · simp [Array.getElem?_eq_none h'] at h1
    have hnw : ¬ waitsB md ops j = true := fun q => by
     have h1 := waits_spec hoj q (Array.getElem?_eq_some_iff.1 hi).1 (Ne.symm hji) hc hall; have h0 := (mem_ready.1 hr).1; rcases Nat.lt_or_ge i listed.size with h' | h'
     · simp [h'] at h0 h1; rw [h0] at h1; cases h1
     · simp [Array.getElem?_eq_none h'] at h1
    have h2 := wpOp_putIf hoj (hfree j oj hoj hji hjun hnot) (fun cs b => hsel i oi cs b hi) (fun cs b => hsel j oj cs b hoj) hQ hy h1
    have hfree' : ∀ k ok, ops[k]? = some ok → k ≠ i → (listed.setIfInBounds j true).getD k true = false →
        (∀ e ∈ ok.after, Region.binds md e = true → e.on ≠ i) → oi.apart ops ok = true := fun k ok hk hki hun hno => by
      refine hfree k ok hk hki ?_ hno
      by_cases hjk : j = k
      · subst hjk; exact hjun
      · rw [getD_set_ne true hjk] at hun; exact hun
    refine wpOp_mono (fun a' w' h3 => ?_) h2; rcases h3.2 with ⟨q, _⟩ | ⟨h4, h5⟩
    · exact absurd q hnw
    refine .inr ⟨h4, ih (listed.setIfInBounds j true) a' w' hfree' (ready_mono hr (Ne.symm hji)) (YieldsIf.later h3.1 (fun u hu => hP.trans _ _ _ h4 hu)) ?_⟩; rw [Array.setIfInBounds_comm _ _ hji]; exact h5
theorem ord_take (hP : Pre R) {i d : Nat} {v : Value} {fuel : Nat} {listed : Array Bool} {a : Act} {w : World} (hs : Region.noSelect ops = true) (hf : Region.free md ops listed i = true) (hr : (Region.ready md ops listed).contains i = true) (hd : (ops[i]?).bind (·.dst) = some d) (hQ : ∀ c a w, Q (.panic c) (a.put (some d) v) w → Q (.panic c) a w) (hy : ∀ oi, ops[i]? = some oi → Region.wanted oi (yielded ops a.tmps) = true ∧ ∀ w', R w w' → (execOp a.eval oi).run P w' = .ok (.value v) w') (h : wpAnyR P md ops Q R fuel (listed.setIfInBounds i true) (a.put (some d) v) w) : wpAnyR P md ops Q R (fuel + 1) listed a w := by
 cases hi : ops[i]? with
 | none => rw [hi] at hd; cases hd
 | some oi =>
  rw [hi] at hd; have hd' : oi.dst = some d := hd; rw [← hd'] at h hQ; exact wpAnyR_first hP hi (Region.noSelect_spec hs) hQ fuel listed a w (Region.free_spec hi hf) (by simpa using hr) (.inl (hy oi hi)) h
theorem ord_skip (hP : Pre R) {i d : Nat} {fuel : Nat} {listed : Array Bool} {a : Act} {w : World} (hs : Region.noSelect ops = true) (hf : Region.free md ops listed i = true) (hr : (Region.ready md ops listed).contains i = true) (hd : (ops[i]?).bind (·.dst) = some d) (hQ : ∀ c a w, Q (.panic c) (a.put (some d) undef) w → Q (.panic c) a w) (hy : ((ops[i]?).map fun oi => Region.wanted oi (yielded ops a.tmps)) = some false) (h : wpAnyR P md ops Q R fuel (listed.setIfInBounds i true) (a.put (some d) undef) w) : wpAnyR P md ops Q R (fuel + 1) listed a w := by
 cases hi : ops[i]? with
 | none => rw [hi] at hd; cases hd
 | some oi =>
  rw [hi] at hd hy; have hd' : oi.dst = some d := hd; rw [← hd'] at h hQ; exact wpAnyR_first hP hi (Region.noSelect_spec hs) hQ fuel listed a w (Region.free_spec hi hf) (by simpa using hr) (.inr ⟨by simpa using hy, rfl⟩) h
theorem ord_one {i : Nat} {fuel : Nat} {listed : Array Bool} {a : Act} {w : World} (hr : Region.ready md ops listed = [i]) (h : ∀ oi K, ops[i]? = some oi → Shut (∀ a' w', R w w' → wpAnyR P md ops Q R fuel (listed.setIfInBounds i true) a' w' → K a' w') → Region.wanted oi (yielded ops a.tmps) = true ∧ oi.wp P a w K Q) : wpAnyR P md ops Q R (fuel + 1) listed a w := by
 intro _; refine ⟨fun h0 => (by rw [hr] at h0; cases h0), fun j hj => ?_⟩; rw [hr] at hj; (obtain rfl : j = i := by simpa using hj); unfold wpOp
 cases hi : ops[j]? with
 | none =>
  (have : j ∈ Region.ready md ops listed := by rw [hr]; simp); obtain ⟨_, o, ho, _⟩ := mem_ready.1 this; rw [hi] at ho; cases ho
 | some oi =>
  obtain ⟨hw, hwp⟩ := h oi (fun a' w' => (waitsB md ops j = true ∧ Region.ready md ops (listed.setIfInBounds j true) = [] ∧ Q .normal a' w') ∨ (R w w' ∧ wpAnyR P md ops Q R fuel (listed.setIfInBounds j true) a' w')) hi (fun a' w' hl hk => .inr (And.intro hl hk)); simp only [hw, if_true]; exact .inl hwp
theorem ord_last {i : Nat} {fuel : Nat} {listed : Array Bool} {a : Act} {w : World} (hr : Region.ready md ops listed = [i]) (hwt : waitsB md ops i = true) (he : Region.ready md ops (listed.setIfInBounds i true) = []) (h : ∀ oi K, ops[i]? = some oi → Shut (∀ a' w', Q .normal a' w' → K a' w') → Region.wanted oi (yielded ops a.tmps) = true ∧ oi.wp P a w K Q) : wpAnyR P md ops Q R (fuel + 1) listed a w := by
 intro _; refine ⟨fun h0 => (by rw [hr] at h0; cases h0), fun j hj => ?_⟩; rw [hr] at hj; (obtain rfl : j = i := by simpa using hj); unfold wpOp
 cases hi : ops[j]? with
 | none =>
  (have : j ∈ Region.ready md ops listed := by rw [hr]; simp); obtain ⟨_, o, ho, _⟩ := mem_ready.1 this; rw [hi] at ho; cases ho
 | some oi =>
  obtain ⟨hw, hwp⟩ := h oi (fun a' w' => (waitsB md ops j = true ∧ Region.ready md ops (listed.setIfInBounds j true) = [] ∧ Q .normal a' w') ∨ (R w w' ∧ wpAnyR P md ops Q R fuel (listed.setIfInBounds j true) a' w')) hi (fun a' w' hl => .inl ⟨hwt, he, hl⟩); simp only [hw, if_true]; exact .inl hwp
theorem later_done {listed : Array Bool} {a : Act} {w : World} (hr : Region.ready md ops listed = []) (h : Q .normal a w) : ∀ fuel, wpAnyR P md ops Q R fuel listed a w | 0 => fun _ => ⟨hr, h⟩ | _ + 1 => fun _ => ⟨fun _ => h, by rw [hr]; simp⟩
theorem wp_region_ord (R : World → World → Prop) {id : Nat} {a : Act} {w : World} (hm : P.follows .mixedOrders = true)
    (h : wpAnyR P .any ops Q R ops.size (Array.replicate ops.size false) a w.drew) : (Code.region id ops true).wp P Q a w :=
  wp_region_any hm (wpAny_of_R _ _ _ _ (fun k ok _ hl => by
    exfalso
    rw [Array.getD_eq_getD_getElem?, Array.getElem?_replicate] at hl
    split at hl <;> simp at hl) h)
end
section
variable {P : Program} {ops : Array Oper} {Q : Exit → Act → World → Prop} {md : Region.Mode}
end
end Go.Proofs.YtdfpeaenbmgihaaGreat.OrdC
/-
  A region that draws its order: two that make memory may come up, one ahead of the other.
-/
namespace Go.Proofs.YtdfpeaenbmgihaaGreat
open Go.RowKit
section
variable {P : Program} {ops : Array Oper} {Q : Exit → Act → World → Prop} {md : Region.Mode} {R : World → World → Prop}
theorem ord_two {i j : Nat} {fuel : Nat} {listed : Array Bool} {a : Act} {w : World} (hr : Region.ready md ops listed = [i, j]) (h : ∀ oi K, ops[i]? = some oi → Shut (∀ a' w', R w w' → wpAnyR P md ops Q R fuel (listed.setIfInBounds i true) a' w' → K a' w') → Region.wanted oi (yielded ops a.tmps) = true ∧ oi.wp P a w K Q) (k : ∀ oi K, ops[j]? = some oi → Shut (∀ a' w', R w w' → wpAnyR P md ops Q R fuel (listed.setIfInBounds j true) a' w' → K a' w') → Region.wanted oi (yielded ops a.tmps) = true ∧ oi.wp P a w K Q) : wpAnyR P md ops Q R (fuel + 1) listed a w := by
 refine ⟨fun h0 => (by rw [hr] at h0; cases h0), fun z hz => ?_⟩
 have step : ∀ z, z ∈ Region.ready md ops listed → (∀ oi K, ops[z]? = some oi → Shut (∀ a' w', R w w' → wpAnyR P md ops Q R fuel (listed.setIfInBounds z true) a' w' → K a' w') → Region.wanted oi (yielded ops a.tmps) = true ∧ oi.wp P a w K Q) →
     wpOp P ops Q z (fun a' w' => (waitsB md ops z = true ∧ Region.ready md ops (listed.setIfInBounds z true) = [] ∧ Q .normal a' w') ∨ (R w w' ∧ wpAnyR P md ops Q R fuel (listed.setIfInBounds z true) a' w')) a w := by
   intro z hm hh
   unfold wpOp
   cases hi : ops[z]? with
   | none =>
     obtain ⟨_, o, ho, _⟩ := mem_ready.1 hm
     rw [hi] at ho
     cases ho
   | some oi =>
     obtain ⟨hw, hwp⟩ := hh oi (fun a' w' => (waitsB md ops z = true ∧ Region.ready md ops (listed.setIfInBounds z true) = [] ∧ Q .normal a' w') ∨ (R w w' ∧ wpAnyR P md ops Q R fuel (listed.setIfInBounds z true) a' w')) hi (fun a' w' hl hk => .inr (And.intro hl hk))
     simp only [hw, if_true]
     exact .inl hwp
 rw [hr] at hz; rcases (by simpa using hz : z = i ∨ z = j) with rfl | rfl
 · exact step z (by rw [hr]; simp) h
 · exact step z (by rw [hr]; simp) k
end
end Go.Proofs.YtdfpeaenbmgihaaGreat
/-
  A drawn region's order of worlds: a list of cells stays. No Go function in it.
-/
namespace Go.Proofs.YtdfpeaenbmgihaaGreat
open Go.RowKit
def KeepC (L : List Addr) (u u' : World) : Prop := ∀ a ∈ L, u'.cell? a = u.cell? a
theorem keepCPre (L : List Addr) : Pre (KeepC L) := ⟨fun _ _ _ => rfl, fun _ _ _ h k a ha => (k a ha).trans (h a ha)⟩
theorem keepC_below {L : List Addr} {u u' : World} (h : Below u.heap.size u u') (hl : ∀ a ∈ L, a.block < u.heap.size) : KeepC L u u' := fun a ha => h.cell (hl a ha)
theorem keepC_grown {L : List Addr} {u u' : World} {r : Option Nat} (h : u.grownBy u' r) (hl : ∀ a ∈ L, a.block < u.heap.size ∧ some a.block ≠ r) : KeepC L u u' := fun a ha => World.cell?_of_block (w := u) (h.block a.block (hl a ha).1 (hl a ha).2)
theorem keepC_row {L : List Addr} {u : World} {b : Nat} {cs : Array Value} (hl : ∀ a ∈ L, a.block < u.heap.size ∧ a.block ≠ b) (hg : u.grownBy (u.setRow b cs) (some b)) : KeepC L u (u.setRow b cs) := keepC_grown hg (fun a ha => ⟨(hl a ha).1, fun e => (hl a ha).2 (by cases e; rfl)⟩)
end Go.Proofs.YtdfpeaenbmgihaaGreat
/-
  Results of which one lies in a block. No Go function in it.
-/
namespace Go.Proofs.YtdfpeaenbmgihaaGreat
open Go.RowKit
theorem results_cs {P : Program} {fn : Func} {a t s : Nat} {tmps : Array Value} {w : World} {b : Addr} {v x : Value} (h : fn.results = #[.cell a t, .tmp s]) (hp : tmps.getD a undef = .pointer (some b)) (hx : tmps.getD s undef = x) (hl : (loadVar t b).run P w = .ok v w) : (results fn tmps).run P w = .ok (.tuple #[v, x]) w := by (have hp' : tmps[a]?.getD undef = .pointer (some b) := by simpa using hp); (have hx' : tmps[s]?.getD undef = x := by simpa using hx); simp [results, h, hp', hx', asAddr, hl]
theorem results_ccs {P : Program} {fn : Func} {a t c u s : Nat} {tmps : Array Value} {w : World} {b d : Addr} {v y x : Value} (h : fn.results = #[.cell a t, .cell c u, .tmp s]) (hp : tmps.getD a undef = .pointer (some b)) (hq : tmps.getD c undef = .pointer (some d)) (hx : tmps.getD s undef = x) (hl : (loadVar t b).run P w = .ok v w) (hm : (loadVar u d).run P w = .ok y w) : (results fn tmps).run P w = .ok (.tuple #[v, y, x]) w := by (have hp' : tmps[a]?.getD undef = .pointer (some b) := by simpa using hp); (have hq' : tmps[c]?.getD undef = .pointer (some d) := by simpa using hq); (have hx' : tmps[s]?.getD undef = x := by simpa using hx); simp [results, h, hp', hq', hx', asAddr, hl, hm]
theorem results_cc {P : Program} {fn : Func} {a t c u : Nat} {tmps : Array Value} {w : World} {b d : Addr} {v y : Value} (h : fn.results = #[.cell a t, .cell c u]) (hp : tmps.getD a undef = .pointer (some b)) (hq : tmps.getD c undef = .pointer (some d)) (hl : (loadVar t b).run P w = .ok v w) (hm : (loadVar u d).run P w = .ok y w) : (results fn tmps).run P w = .ok (.tuple #[v, y]) w := by (have hp' : tmps[a]?.getD undef = .pointer (some b) := by simpa using hp); (have hq' : tmps[c]?.getD undef = .pointer (some d) := by simpa using hq); simp [results, h, hp', hq', asAddr, hl, hm]
end Go.Proofs.YtdfpeaenbmgihaaGreat
/-
  Rows of numbers: what a slice of numbers holds; slices of the call's own. No Go function in it.
-/
namespace Go.Proofs.YtdfpeaenbmgihaaGreat
open Go.RowKit
def IRow (w : World) (v : Value) (xs : List Int) : Prop :=
  (v = .slice none 0 0 ∧ xs = []) ∨ ∃ (a : Addr) (cap : Nat), v = .slice (some a) xs.length cap ∧ xs.length ≤ cap ∧ cap ≤ maxLen ∧ ∀ i, i < xs.length → w.cell? (a.add i) = some (.int .i64 (xs.getD i 0))
theorem IRow.below {w w' : World} {v : Value} {xs : List Int} (h : IRow w v xs) (hb : Below w.heap.size w w') : IRow w' v xs := by
 rcases h with h | ⟨a, cap, h1, h2, h3, h4⟩
 · exact .inl h
 · exact .inr ⟨a, cap, h1, h2, h3, fun i hi => (hb.cell (p := a.add i) (cell_lt (h4 i hi))).trans (h4 i hi)⟩
theorem IRow.drew {w : World} {v : Value} {xs : List Int} (h : IRow w v xs) : IRow w.drew v xs := h
theorem IRow.form {w : World} {v : Value} {xs : List Int} (h : IRow w v xs) : ∃ (ao : Option Addr) (cap : Nat), v = .slice ao xs.length cap ∧ xs.length ≤ cap ∧ cap ≤ maxLen ∧ ∀ i, i < xs.length → ∃ a, ao = some a ∧ w.cell? (a.add i) = some (.int .i64 (xs.getD i 0)) := by
 rcases h with ⟨rfl, rfl⟩ | ⟨a, cap, rfl, h1, h2, h3⟩
 · exact ⟨none, 0, rfl, Nat.le_refl _, by omega, fun i hi => absurd hi (Nat.not_lt_zero _)⟩
 · exact ⟨some a, cap, rfl, h1, h2, fun i hi => ⟨a, rfl, h3 i hi⟩⟩
def OwnI (B : Nat) (w : World) (v : Value) (xs : List Int) : Prop := w.ownsRow B 3 1 v xs.length (xs.map (Value.int .i64))
theorem OwnI.below {B : Nat} {w w' : World} {v : Value} {xs : List Int} (h : OwnI B w v xs) (hb : Below w.heap.size w w') : OwnI B w' v xs := own_below' h hb
theorem OwnI.irow {B : Nat} {w : World} {v : Value} {xs : List Int} (h : OwnI B w v xs) : IRow w v xs := by
 unfold OwnI at h; have hh := h; rcases h.2 with ⟨h1, h2⟩ | ⟨g, cap, cur, h1, h2, h3, h4, h5, h6, h7⟩
 · exact .inl ⟨h1, List.eq_nil_of_length_eq_zero h2⟩
 · subst h1; refine .inr ⟨⟨g, 0, none⟩, cap, rfl, h4, h5, fun i hi => ?_⟩; have hc := hh.cellAt i (by omega); rw [Addr.add_lit, Nat.zero_add, hc]; simp [hi]
theorem OwnI.len {B : Nat} {w : World} {v : Value} {xs : List Int} (h : OwnI B w v xs) : lenOf v = xs.length := by
 rcases h.2 with ⟨h1, h2⟩ | ⟨g, cap, cur, h1, _⟩
 · rw [h1, h2]; rfl
 · rw [h1]; rfl
theorem OwnI.grow {B : Nat} {w w6 w7 : World} {o : Obj} {v v' : Value} {xs : List Int} {y : Int} (hO : OwnI B w6 v xs) (hbl : Below B w w6) (hB : B ≤ w.heap.size) (hown' : w7.ownsRow B 3 1 v' (xs.length + 1) (xs.map (Value.int .i64) ++ [.int .i64 y])) (hg : (w6.alloc o).grownBy w7 v.ownBlock) : OwnI B w7 v' (xs ++ [y]) ∧ Below B w w7 := by have hs := hbl.size; refine ⟨?_, (hbl.alloc (by omega) o).grown hg (by simp; omega) (fun k hk => (hO.lt k hk).1)⟩; unfold OwnI; rw [List.length_append, List.map_append]; exact hown'
theorem info_int2 : (Tryz.prog.info? 3).map (fun i => (i.zero, i.size, i.bytes)) = some (some (.int .i64 0), 1, 8) := by kernel_rfl
end Go.Proofs.YtdfpeaenbmgihaaGreat
/-
  append of all of one row onto a slice of the call's own, whatever the row is, none too. No Go function in it.
-/
namespace Go.Proofs.YtdfpeaenbmgihaaGreat
open Go.RowKit
section
variable {P : Program} (w : World)
theorem grownBy_refl (r : Option Nat) : w.grownBy w r := ⟨rfl, rfl, rfl, Nat.le_refl _, fun _ _ _ => rfl⟩
theorem wpList_append_row {ops : Array Oper} {rest : List Oper} {o : Oper} {a : Act} {Q : Exit → Act → World → Prop} (hgd : o.guard = none) (s x : Operand) (t : TypeId) (ho : o.op = .call { callee := .builtin .append, args := #[s, x], argTypes := #[t, t] }) (base : Nat) (e : TypeId) (i : TypeInfo) (z : Value) (size bytes : Nat) (ht : P.underlying t = some (.slice e)) (hi : P.info? e = some i) (hz : i.zero = some z) (hsize : i.size = size) (hby : i.bytes = bytes) (hzs : z.cells.size = size) (hsz : 0 < size) (v : Value) (n : Nat) (xs : List Value) (hs : a.eval s = v) (hown : w.ownsRow base e size v n xs) (y : Value) (m : Nat) (news : List Value) (hx : a.eval x = y) (hy : (y = .slice none 0 0 ∧ m = 0 ∧ news = []) ∨ ∃ ad c, y = .slice (some ad) m c ∧ news.length = m * size ∧ ∀ j u, news[j]? = some u → w.cell? (ad.add j) = some u) (h1 : ∀ u ∈ news, u.oneCell' = true) (h63 : n + m ≤ maxLen) (hbytes : (n + m) * bytes ≤ 140737488355328) (hbase : base ≤ w.heap.size) (h : ∀ v' w', w'.ownsRow base e size v' (n + m) (xs ++ news) → w.grownBy w' v.ownBlock → wpList P ops Q rest (a.put o.dst v') w') : wpList P ops Q (o :: rest) a w := by
 rcases hy with ⟨rfl, rfl, rfl⟩ | ⟨ad, c, rfl, hl, hnews⟩
 · refine wpList_plain hgd fun _ hK => ?_; refine Go.Lib.wp_append_run w s x t t ho v (.slice none 0 0) hs hx v w (run_append_owned_none _ base t o.type e i size ht hi v n xs hown) (hK _ _ (h v w (by simpa using hown) (grownBy_refl w _)))
 · exact wpList_append_own _ hgd s x t ho base e i z size bytes ht hi hz hsize hby hzs hsz v n xs hs hown ad m c news hx hl hnews h1 h63 hbytes hbase (fun v' w' h2 h3 _ => h v' w' h2 h3)
end
section
variable {P : Program} (w : World)
theorem wp_append_row {o : Oper} {a : Act} {K : Act → World → Prop} {Q : Exit → Act → World → Prop} (s x : Operand) (t : TypeId) (ho : o.op = .call { callee := .builtin .append, args := #[s, x], argTypes := #[t, t] }) (base : Nat) (e : TypeId) (i : TypeInfo) (z : Value) (size bytes : Nat) (ht : P.underlying t = some (.slice e)) (hi : P.info? e = some i) (hz : i.zero = some z) (hsize : i.size = size) (hby : i.bytes = bytes) (hzs : z.cells.size = size) (hsz : 0 < size) (v : Value) (n : Nat) (xs : List Value) (hs : a.eval s = v) (hown : w.ownsRow base e size v n xs) (y : Value) (m : Nat) (news : List Value) (hx : a.eval x = y) (hy : (y = .slice none 0 0 ∧ m = 0 ∧ news = []) ∨ ∃ ad c, y = .slice (some ad) m c ∧ news.length = m * size ∧ ∀ j u, news[j]? = some u → w.cell? (ad.add j) = some u) (h1 : ∀ u ∈ news, u.oneCell' = true) (h63 : n + m ≤ maxLen) (hbytes : (n + m) * bytes ≤ 140737488355328) (hbase : base ≤ w.heap.size) (h : ∀ v' w', w'.ownsRow base e size v' (n + m) (xs ++ news) → w.grownBy w' v.ownBlock → K (a.put o.dst v') w') : o.wp P a w K Q := by
 rcases hy with ⟨rfl, rfl, rfl⟩ | ⟨ad, c, rfl, hl, hnews⟩
 · exact Go.Lib.wp_append_run w s x t t ho v (.slice none 0 0) hs hx v w (run_append_owned_none _ base t o.type e i size ht hi v n xs hown) (h v w (by simpa using hown) (grownBy_refl w _))
 · exact wp_append_own w s x t ho base e i z size bytes ht hi hz hsize hby hzs hsz v n xs hs hown ad m c news hx hl hnews h1 h63 hbytes hbase (fun v' w' h2 h3 _ => h v' w' h2 h3)
end
theorem IRow.news {w : World} {v : Value} {xs : List Int} (h : IRow w v xs) : (v = .slice none 0 0 ∧ xs.length = 0 ∧ xs.map (Value.int .i64) = []) ∨ ∃ ad c, v = .slice (some ad) xs.length c ∧ (xs.map (Value.int .i64)).length = xs.length * 1 ∧ ∀ j u, (xs.map (Value.int .i64))[j]? = some u → w.cell? (ad.add j) = some u := by
 rcases h with ⟨rfl, rfl⟩ | ⟨a, cap, rfl, h1, h2, h3⟩
 · exact .inl ⟨rfl, rfl, rfl⟩
 · refine .inr ⟨a, cap, rfl, by simp, fun j u hj => ?_⟩; rw [List.getElem?_map] at hj
   cases hx : xs[j]? with
   | none => rw [hx] at hj; cases hj
   | some x =>
    rw [hx] at hj; have hlt := (List.getElem?_eq_some_iff.1 hx).1; rw [h3 j hlt, List.getD_eq_getElem?_getD, hx]; simpa using hj
theorem SRow.news {w : World} {v : Value} {xs : List ByteArray} (h : SRow w v xs) : (v = .slice none 0 0 ∧ xs.length = 0 ∧ xs.map Value.string = []) ∨ ∃ ad c, v = .slice (some ad) xs.length c ∧ (xs.map Value.string).length = xs.length * 1 ∧ ∀ j u, (xs.map Value.string)[j]? = some u → w.cell? (ad.add j) = some u := by
 rcases h with ⟨rfl, rfl⟩ | ⟨a, cap, rfl, h1, h2, h3⟩
 · exact .inl ⟨rfl, rfl, rfl⟩
 · refine .inr ⟨a, cap, rfl, by simp, fun j u hj => ?_⟩; rw [List.getElem?_map] at hj
   cases hx : xs[j]? with
   | none => rw [hx] at hj; cases hj
   | some x =>
    rw [hx] at hj; have hlt := (List.getElem?_eq_some_iff.1 hx).1; rw [h3 j hlt, List.getD_eq_getElem?_getD, hx]; simpa using hj
theorem texts_one (xs : List ByteArray) : ∀ u ∈ xs.map Value.string, u.oneCell' = true := by intro u hu; obtain ⟨x, _, rfl⟩ := List.mem_map.1 hu; rfl
theorem ints_one (xs : List Int) : ∀ u ∈ xs.map (Value.int .i64), u.oneCell' = true := by intro u hu; obtain ⟨x, _, rfl⟩ := List.mem_map.1 hu; rfl
end Go.Proofs.YtdfpeaenbmgihaaGreat
/-
  append onto a slice of the call's own that has no room to spare: nothing that was there is written. No Go function in it.
-/
namespace Go.Proofs.YtdfpeaenbmgihaaGreat
open Go.RowKit
theorem later_grown {w w' : World} (h : w.grownBy w' none) : Later w w' := (Below.refl _ _).grown h (Nat.le_refl _) (fun k hk => by cases hk)
section
variable {P : Program} (w : World)
theorem run_append_full (base : Nat) (t ty e : TypeId) (i : TypeInfo) (z : Value) (size bytes : Nat) (ht : P.underlying t = some (.slice e)) (hi : P.info? e = some i) (hz : i.zero = some z) (hsize : i.size = size) (hby : i.bytes = bytes) (hzs : z.cells.size = size) (hsz : 0 < size) (g n : Nat) (xs : List Value) (hown : w.ownsRow base e size (.slice (some ⟨g, 0, none⟩) n n) n xs) (y : Value) (m : Nat) (news : List Value) (hy : (y = .slice none 0 0 ∧ m = 0 ∧ news = []) ∨ ∃ ad c, y = .slice (some ad) m c ∧ news.length = m * size ∧ ∀ j u, news[j]? = some u → w.cell? (ad.add j) = some u) (h63 : n + m ≤ maxLen) (hbytes : (n + m) * bytes ≤ 140737488355328) (hbase : base ≤ w.heap.size) : ∃ g' c' w', (Builtin.append_ #[t, t] ty #[.slice (some ⟨g, 0, none⟩) n n, y]).run P w = .ok (.slice (some ⟨g', 0, none⟩) (n + m) c') w' ∧ w'.ownsRow base e size (.slice (some ⟨g', 0, none⟩) (n + m) c') (n + m) (xs ++ news) ∧ Later w w' := by
 rcases hy with ⟨rfl, rfl, rfl⟩ | ⟨ad, c, rfl, hl, hnews⟩
 · refine ⟨g, n, w, ?_, by simpa using hown, laterPre.refl _⟩; exact run_append_owned_none w base t ty e i size ht hi _ n xs hown
 · by_cases hm : m = 0
   · subst hm; have hn : news = [] := List.eq_nil_of_length_eq_zero (by simpa using hl); subst hn; refine ⟨g, n, w, ?_, by simpa using hown, laterPre.refl _⟩; simp [Builtin.append_, run_underlying ht, sizeOf, typeInfo, hi, Builtin.lenOf, Builtin.firstCells, loadCells, loadCellsFrom, storeCells]
   · have holds : ∀ j u, xs[j]? = some u → w.cell? ((⟨g, 0, none⟩ : Addr).add j) = some u := hown.cells (g := g) rfl; obtain ⟨v', w', h1, h2, h3⟩ := run_append_arg_grows (P := P) w t ty e i z size bytes ht hi hz hsize hby hzs hsz ⟨g, 0, none⟩ n n xs hown.1 holds ad m c news hl hnews (by omega) h63 hbytes; rcases h2.2 with ⟨rfl, q⟩ | ⟨g', cap, cur, rfl, q1, q2, q3⟩
     · omega
     · exact ⟨g', cap, w', h1, ⟨h2.1, .inr ⟨g', cap, cur, rfl, Nat.le_trans hbase q1, q2, q3⟩⟩, later_grown h3⟩
theorem wp_append_full {o : Oper} {a : Act} {K : Act → World → Prop} {Q : Exit → Act → World → Prop} (s x : Operand) (t : TypeId) (ho : o.op = .call { callee := .builtin .append, args := #[s, x], argTypes := #[t, t] }) (base : Nat) (e : TypeId) (i : TypeInfo) (z : Value) (size bytes : Nat) (ht : P.underlying t = some (.slice e)) (hi : P.info? e = some i) (hz : i.zero = some z) (hsize : i.size = size) (hby : i.bytes = bytes) (hzs : z.cells.size = size) (hsz : 0 < size) (g n : Nat) (xs : List Value) (hs : a.eval s = .slice (some ⟨g, 0, none⟩) n n) (hown : w.ownsRow base e size (.slice (some ⟨g, 0, none⟩) n n) n xs) (y : Value) (m : Nat) (news : List Value) (hx : a.eval x = y) (hy : (y = .slice none 0 0 ∧ m = 0 ∧ news = []) ∨ ∃ ad c, y = .slice (some ad) m c ∧ news.length = m * size ∧ ∀ j u, news[j]? = some u → w.cell? (ad.add j) = some u) (h63 : n + m ≤ maxLen) (hbytes : (n + m) * bytes ≤ 140737488355328) (hbase : base ≤ w.heap.size) (h : ∀ g' c' w', w'.ownsRow base e size (.slice (some ⟨g', 0, none⟩) (n + m) c') (n + m) (xs ++ news) → Later w w' → K (a.put o.dst (.slice (some ⟨g', 0, none⟩) (n + m) c')) w') : o.wp P a w K Q := by obtain ⟨g', c', w', hr, h2, h3⟩ := run_append_full (P := P) w base t o.type e i z size bytes ht hi hz hsize hby hzs hsz g n xs hown y m news hy h63 hbytes hbase; unfold Oper.wp execOp; simp only [ho, resolve, invoke, builtin, Sem.run_bind, Sem.run_pure, Result.andThen_ok, List.map_toArray, List.map_cons, List.map_nil, hs, hx, hr]; exact h g' c' w' h2 h3
theorem wpList_append_full {ops : Array Oper} {rest : List Oper} {o : Oper} {a : Act} {Q : Exit → Act → World → Prop} (hgd : o.guard = none) (s x : Operand) (t : TypeId) (ho : o.op = .call { callee := .builtin .append, args := #[s, x], argTypes := #[t, t] }) (base : Nat) (e : TypeId) (i : TypeInfo) (z : Value) (size bytes : Nat) (ht : P.underlying t = some (.slice e)) (hi : P.info? e = some i) (hz : i.zero = some z) (hsize : i.size = size) (hby : i.bytes = bytes) (hzs : z.cells.size = size) (hsz : 0 < size) (g n : Nat) (xs : List Value) (hs : a.eval s = .slice (some ⟨g, 0, none⟩) n n) (hown : w.ownsRow base e size (.slice (some ⟨g, 0, none⟩) n n) n xs) (y : Value) (m : Nat) (news : List Value) (hx : a.eval x = y) (hy : (y = .slice none 0 0 ∧ m = 0 ∧ news = []) ∨ ∃ ad c, y = .slice (some ad) m c ∧ news.length = m * size ∧ ∀ j u, news[j]? = some u → w.cell? (ad.add j) = some u) (h63 : n + m ≤ maxLen) (hbytes : (n + m) * bytes ≤ 140737488355328) (hbase : base ≤ w.heap.size) (h : ∀ g' c' w', w'.ownsRow base e size (.slice (some ⟨g', 0, none⟩) (n + m) c') (n + m) (xs ++ news) → Later w w' → wpList P ops Q rest (a.put o.dst (.slice (some ⟨g', 0, none⟩) (n + m) c')) w') : wpList P ops Q (o :: rest) a w := wpList_plain hgd fun _ hK => wp_append_full w s x t ho base e i z size bytes ht hi hz hsize hby hzs hsz g n xs hs hown y m news hx hy h63 hbytes hbase (fun g' c' w' h1 h2 => hK _ _ (h g' c' w' h1 h2))
end
theorem own_news {w : World} {B : Nat} {e : TypeId} {size : Nat} {v : Value} {n : Nat} {xs : List Value} (h : w.ownsRow B e size v n xs) : (v = .slice none 0 0 ∧ n = 0 ∧ xs = []) ∨ ∃ ad c, v = .slice (some ad) n c ∧ xs.length = n * size ∧ ∀ j u, xs[j]? = some u → w.cell? (ad.add j) = some u := by
 rcases h.2 with ⟨h1, h2⟩ | ⟨g, cap, cur, h1, _⟩
 · subst h2; exact .inl ⟨h1, rfl, List.eq_nil_of_length_eq_zero (by simpa using h.1)⟩
 · subst h1; exact .inr ⟨_, cap, rfl, h.1, h.cells (g := g) rfl⟩
theorem later_alloc (w : World) (o : Obj) : Later w (w.alloc o) := (Below.refl _ _).alloc (Nat.le_refl _) _
end Go.Proofs.YtdfpeaenbmgihaaGreat
/-
  Steps of a walk, one operation at a time: the world behind each is a name, and what is known of it is told. No Go function in it.
-/
namespace Go.Proofs.YtdfpeaenbmgihaaGreat
open Go.RowKit
theorem size_cellsAt (b : Nat) : ∀ (vs : List Value) (o : Nat) (w : World), (w.setCells b o vs).heap.size = w.heap.size | [], _, _ => rfl | v :: r, o, w => by rw [World.setCells, size_cellsAt b r]; simp
section
variable {P : Program} {ops : Array Oper} {Q : Exit → Act → World → Prop} {a : Act} {w : World} {rest : List Oper} {o : Oper}
theorem pl_id (h : wpList P ops Q (o :: rest) a w) : wpList P ops Q (o :: rest) a w := h
theorem pl_take {v : Value} (hg : Region.wanted o (yielded ops a.tmps) = true) (h : (execOp a.eval o).run P w = .ok (.value v) w) (k : wpList P ops Q rest (a.put o.dst v) w) : wpList P ops Q (o :: rest) a w := by refine wpList_step fun K hK => ?_; rw [if_pos hg]; unfold Oper.wp; rw [h]; exact hK _ _ k
theorem pl_skip (hg : Region.wanted o (yielded ops a.tmps) = false) (k : wpList P ops Q rest (a.put o.dst undef) w) : wpList P ops Q (o :: rest) a w := by refine wpList_step fun K hK => ?_; rw [if_neg (by rw [hg]; decide)]; exact hK _ _ k
theorem pl_one (hg : Region.wanted o (yielded ops a.tmps) = true) (h : ∀ K : Act → World → Prop, Shut (∀ a w, wpList P ops Q rest a w → K a w) → o.wp P a w K Q) : wpList P ops Q (o :: rest) a w := by refine wpList_step fun K hK => ?_; rw [if_pos hg]; exact h K hK
variable {K : Act → World → Prop}
theorem op_alloc {cs : Array Value} {t : TypeId} (h : (execOp a.eval o).run P w = .ok (.value (.pointer (some ⟨w.heap.size, 0, none⟩))) (w.alloc (.cells cs t))) (k : ∀ (b : Nat) (w' : World), Blk w' b t cs → Below w.heap.size w w' → w.heap.size ≤ b ∧ b < w'.heap.size → K (a.put o.dst (.pointer (some ⟨b, 0, none⟩))) w') : o.wp P a w K Q := by unfold Oper.wp; rw [h]; exact k w.heap.size _ (Blk.new w t cs) ((Below.refl _ _).alloc (Nat.le_refl _) _) ⟨Nat.le_refl _, by simp⟩
theorem op_row (ty : TypeId) (x y : Operand) (ho : o.op = .store ty x y) (b : Nat) (cells old : Array Value) (t : TypeId) (hx : a.eval x = .pointer (some ⟨b, 0, none⟩)) (hy : a.eval y = .agg cells)
    (hg : Blk w b t old) (hi : (P.info? ty).map (·.size) = some cells.size) (hold : old.size = cells.size) (h1 : cells.all (·.oneCell') = true)
    (k : ∀ w' : World, Blk w' b t cells → w.grownBy w' (some b) → w'.heap.size = w.heap.size → K (a.put o.dst undef) w') : o.wp P a w K Q :=
  wp_store_row ty x y ho b cells hx hy t old hg hi hold h1 (k _ (hg.set cells) (grown_setRow w b cells) (by simp [World.setRow]))
theorem op_mid (ty : TypeId) (x y : Operand) (ho : o.op = .store ty x y) (b i : Nat) (cells old : Array Value) (t : TypeId) (hx : a.eval x = .pointer (some ⟨b, i, none⟩)) (hy : a.eval y = .agg cells) (hg : Blk w b t old) (hi : (P.info? ty).map (·.size) = some cells.size) (hold : i + cells.size ≤ old.size) (h1 : cells.all (·.oneCell') = true) (k : ∀ w' : World, Blk w' b t (setAll old i cells.toList) → w.grownBy w' (some b) → w'.heap.size = w.heap.size → K (a.put o.dst undef) w') : o.wp P a w K Q := Go.wp_store_mid ty x y ho b i cells hx hy (hg.there hold) hi h1 (k _ (hg.setCells cells.toList i) (grown_setCells b cells.toList i w) (size_cellsAt _ _ _ _))
end
def KeepL (L : List Nat) (u u' : World) : Prop := ∀ b ∈ L, u'.heap[b]? = u.heap[b]?
theorem keepLPre (L : List Nat) : Pre (KeepL L) := ⟨fun _ _ _ => rfl, fun _ _ _ h k b hb => (k b hb).trans (h b hb)⟩
theorem Blk.keepL {u u' : World} {L : List Nat} {b : Nat} {t : TypeId} {cs : Array Value} (h : Blk u b t cs) (k : KeepL L u u') (hm : b ∈ L) : Blk u' b t cs := (k b hm).trans h
theorem keepL_grown {L : List Nat} {u u' : World} {b : Nat} (h : u.grownBy u' (some b)) (hl : ∀ x ∈ L, x < u.heap.size ∧ x ≠ b) : KeepL L u u' := fun x hx => h.block x (hl x hx).1 (fun e => (hl x hx).2 (by cases e; rfl))
theorem row_grown {B : Nat} {w w' : World} {e t : TypeId} {size n b : Nat} {v : Value} {xs : List Value} {cs : Array Value} (h : w.ownsRow B e size v n xs) (hg : w.grownBy w' (some b)) (hx : Blk w b t cs) (hte : t ≠ e) : w'.ownsRow B e size v n xs := h.kept hg (.inr (hx.not_row hte h).symm)
theorem blk_grown {w w' : World} {b b' : Nat} {t : TypeId} {cs : Array Value} (h : Blk w b t cs) (hg : w.grownBy w' (some b')) (hne : b ≠ b') : Blk w' b t cs := h.kept hg (fun e => hne (by cases e; rfl))
theorem below_grown {B : Nat} {w w' w'' : World} {b : Nat} (h : Below B w w') (hg : w'.grownBy w'' (some b)) (hs : B ≤ w'.heap.size) (hb : B ≤ b) : Below B w w'' := h.grown hg hs (fun k hk => by cases hk; exact hb)
def RowT (P : Program) (t e : TypeId) (size bytes : Nat) : Prop := ∃ i z, P.underlying t = some (.slice e) ∧ P.info? e = some i ∧ i.zero = some z ∧ i.size = size ∧ i.bytes = bytes ∧ z.cells.size = size ∧ 0 < size
theorem rowT_of {P : Program} {t e : TypeId} {z : Value} {s b : Nat} (hu : P.underlying t = some (.slice e)) (h : (P.info? e).map (fun i => (i.zero, i.size, i.bytes)) = some (some z, s, b)) (hz : z.cells.size = s) (hs : 0 < s) : RowT P t e s b := by
 cases hi : P.info? e with
 | none => rw [hi] at h; cases h
 | some i0 => rw [hi] at h; simp at h; exact ⟨i0, z, hu, hi, h.1, h.2.1, h.2.2, hz, hs⟩
theorem row_some {w : World} {B : Nat} {e : TypeId} {size : Nat} {v : Value} {n : Nat} {xs : List Value} (h : w.ownsRow B e size v n xs) (hn : 0 < n) : ∃ g c, v = .slice (some ⟨g, 0, none⟩) n c ∧ B ≤ g ∧ g < w.heap.size ∧ n ≤ c ∧ c ≤ maxLen := by
 have hh := h; rcases h.2 with ⟨_, q⟩ | ⟨g, cap, cur, rfl, h1, h2, h3, h4, _⟩
 · omega
 · exact ⟨g, cap, rfl, h1, (hh.lt g rfl).2, h3, h4⟩
section
variable {P : Program} {Q : Exit → Act → World → Prop} {a : Act} {w : World} {o : Oper} {K : Act → World → Prop}
theorem op_lit (B : Nat) {cs : Array Value} {e : TypeId} {size n : Nat} (h : (execOp a.eval o).run P w = .ok (.value (.slice (some ⟨w.heap.size, 0, none⟩) n n)) (w.alloc (.cells cs e))) (hB : B ≤ w.heap.size) (hn : n ≤ maxLen) (hs : cs.size = n * size) (k : ∀ (g : Nat) (w' : World), w'.ownsRow B e size (.slice (some ⟨g, 0, none⟩) n n) n cs.toList → Below w.heap.size w w' → w.heap.size ≤ g ∧ g < w'.heap.size → K (a.put o.dst (.slice (some ⟨g, 0, none⟩) n n)) w') : o.wp P a w K Q := by unfold Oper.wp; rw [h]; exact k w.heap.size _ (World.ownsRow_lit w cs n hB hn hs) ((Below.refl _ _).alloc (Nat.le_refl _) _) ⟨Nat.le_refl _, by simp⟩
theorem op_appFull {t e : TypeId} {size bytes : Nat} (hr : RowT P t e size bytes) (B : Nat) (s x : Operand) (ho : o.op = .call { callee := .builtin .append, args := #[s, x], argTypes := #[t, t] }) (g n : Nat) (xs : List Value) (hs : a.eval s = .slice (some ⟨g, 0, none⟩) n n) (hown : w.ownsRow B e size (.slice (some ⟨g, 0, none⟩) n n) n xs) (y : Value) (m : Nat) (news : List Value) (hx : a.eval x = y) (hy : (y = .slice none 0 0 ∧ m = 0 ∧ news = []) ∨ ∃ ad c, y = .slice (some ad) m c ∧ news.length = m * size ∧ ∀ j u, news[j]? = some u → w.cell? (ad.add j) = some u) (h63 : n + m ≤ maxLen) (hbytes : (n + m) * bytes ≤ 140737488355328) (hbase : B ≤ w.heap.size) (k : ∀ g' c' w', w'.ownsRow B e size (.slice (some ⟨g', 0, none⟩) (n + m) c') (n + m) (xs ++ news) → Below w.heap.size w w' → K (a.put o.dst (.slice (some ⟨g', 0, none⟩) (n + m) c')) w') : o.wp P a w K Q := by obtain ⟨i, z, h1, h2, h3, h4, h5, h6, h7⟩ := hr; exact wp_append_full w s x t ho B e i z size bytes h1 h2 h3 h4 h5 h6 h7 g n xs hs hown y m news hx hy h63 hbytes hbase k
theorem op_appOwn {t e : TypeId} {size bytes : Nat} (hr : RowT P t e size bytes) (B : Nat) (s x : Operand) (ho : o.op = .call { callee := .builtin .append, args := #[s, x], argTypes := #[t, t] }) (v : Value) (n : Nat) (xs : List Value) (hs : a.eval s = v) (hown : w.ownsRow B e size v n xs) (ad : Addr) (m c : Nat) (news : List Value) (hx : a.eval x = .slice (some ad) m c) (hl : news.length = m * size) (hnews : ∀ j u, news[j]? = some u → w.cell? (ad.add j) = some u) (h1 : ∀ u ∈ news, u.oneCell' = true) (h63 : n + m ≤ maxLen) (hbytes : (n + m) * bytes ≤ 140737488355328) (hbase : B ≤ w.heap.size) (k : ∀ v' w', w'.ownsRow B e size v' (n + m) (xs ++ news) → w.grownBy w' v.ownBlock → (v'.ownBlock = v.ownBlock ∨ v'.ownBlock = some w.heap.size) → K (a.put o.dst v') w') : o.wp P a w K Q := by obtain ⟨i, z, r1, r2, r3, r4, r5, r6, r7⟩ := hr; obtain ⟨v', w', hrun, h2, h3, _, h5⟩ := run_append_own_at (P := P) w B t o.type e i z size bytes r1 r2 r3 r4 r5 r6 r7 v n xs hown ad m c news hl hnews h1 h63 hbytes hbase; unfold Oper.wp execOp; simp only [ho, resolve, invoke, builtin, Sem.run_bind, Sem.run_pure, Result.andThen_ok, List.map_toArray, List.map_cons, List.map_nil, hs, hx, hrun]; exact k v' w' h2 h3 h5
end
section
variable {P : Program} {Q : Exit → Act → World → Prop} {a : Act} {w : World} {o : Oper} {K : Act → World → Prop}
theorem op_appNew {t e : TypeId} {size bytes : Nat} (hr : RowT P t e size bytes) (B : Nat) (s x : Operand) (ho : o.op = .call { callee := .builtin .append, args := #[s, x], argTypes := #[t, t] }) (g : Nat) (hs : a.eval s = .slice (some ⟨g, 0, none⟩) 0 0) (hown : w.ownsRow B e size (.slice (some ⟨g, 0, none⟩) 0 0) 0 []) (y : Value) (m : Nat) (news : List Value) (hx : a.eval x = y) (hy : (y = .slice none 0 0 ∧ m = 0 ∧ news = []) ∨ ∃ ad c, y = .slice (some ad) m c ∧ news.length = m * size ∧ ∀ j u, news[j]? = some u → w.cell? (ad.add j) = some u) (h63 : m ≤ maxLen) (hbytes : m * bytes ≤ 140737488355328) (hbase : B ≤ w.heap.size) (k : ∀ g' c' w', w'.ownsRow B e size (.slice (some ⟨g', 0, none⟩) m c') m news → Below w.heap.size w w' → K (a.put o.dst (.slice (some ⟨g', 0, none⟩) m c')) w') : o.wp P a w K Q := by refine op_appFull hr B s x ho g 0 [] hs hown y m news hx hy (by omega) (by rw [Nat.zero_add]; exact hbytes) hbase (fun g' c' w' h1 h2 => ?_); simp only [Nat.zero_add, List.nil_append] at h1 ⊢; exact k g' c' w' h1 h2
end
theorem row_kept {w w' : World} {B b g : Nat} {e : TypeId} {size n c : Nat} {xs : List Value} (h : w.ownsRow B e size (.slice (some ⟨g, 0, none⟩) n c) n xs) (hg : w.grownBy w' (some b)) (hne : g ≠ b) : w'.ownsRow B e size (.slice (some ⟨g, 0, none⟩) n c) n xs :=
  h.kept hg (.inr (fun q => hne (by simpa [Value.ownBlock] using q)))
/-! Where the ways of a region that draws its order come together again. -/
def JQ1 {α0 : Type} (A : α0 → World → Act) (F : α0 → World → Prop) : Exit → Act → World → Prop
  | .normal, a, w => ∃ x0, a = A x0 w ∧ F x0 w
  | _, _, _ => False
theorem jq1 {α0 : Type} {A : α0 → World → Act} {F : α0 → World → Prop} {x0 : α0} {a : Act} {w : World} (h : a = A x0 w) (f : F x0 w) : JQ1 A F .normal a w := ⟨x0, h, f⟩
theorem join1 {α0 : Type} {P : Program} {c : Code} {Q : Exit → Act → World → Prop} {a : Act} {w : World} {A : α0 → World → Act} {F : α0 → World → Prop} (h : c.wp P (JQ1 A F) a w) (k : ∀ x0 wc, F x0 wc → Q .normal (A x0 wc) wc) : c.wp P Q a w := by
 refine Code.wp_mono (fun e a' w' q => ?_) h
 cases e with
 | normal =>
  obtain ⟨x0, rfl, f⟩ := q; exact k _ _ f
 | _ => exact q.elim
def JQ2 {α0 α1 : Type} (A : α0 → α1 → World → Act) (F : α0 → α1 → World → Prop) : Exit → Act → World → Prop
  | .normal, a, w => ∃ x0 x1, a = A x0 x1 w ∧ F x0 x1 w
  | _, _, _ => False
theorem jq2 {α0 α1 : Type} {A : α0 → α1 → World → Act} {F : α0 → α1 → World → Prop} {x0 : α0} {x1 : α1} {a : Act} {w : World} (h : a = A x0 x1 w) (f : F x0 x1 w) : JQ2 A F .normal a w := ⟨x0, x1, h, f⟩
theorem join2 {α0 α1 : Type} {P : Program} {c : Code} {Q : Exit → Act → World → Prop} {a : Act} {w : World} {A : α0 → α1 → World → Act} {F : α0 → α1 → World → Prop} (h : c.wp P (JQ2 A F) a w) (k : ∀ x0 x1 wc, F x0 x1 wc → Q .normal (A x0 x1 wc) wc) : c.wp P Q a w := by
 refine Code.wp_mono (fun e a' w' q => ?_) h
 cases e with
 | normal =>
  obtain ⟨x0, x1, rfl, f⟩ := q; exact k _ _ _ f
 | _ => exact q.elim
def JQ3 {α0 α1 α2 : Type} (A : α0 → α1 → α2 → World → Act) (F : α0 → α1 → α2 → World → Prop) : Exit → Act → World → Prop
  | .normal, a, w => ∃ x0 x1 x2, a = A x0 x1 x2 w ∧ F x0 x1 x2 w
  | _, _, _ => False
theorem jq3 {α0 α1 α2 : Type} {A : α0 → α1 → α2 → World → Act} {F : α0 → α1 → α2 → World → Prop} {x0 : α0} {x1 : α1} {x2 : α2} {a : Act} {w : World} (h : a = A x0 x1 x2 w) (f : F x0 x1 x2 w) : JQ3 A F .normal a w := ⟨x0, x1, x2, h, f⟩
theorem join3 {α0 α1 α2 : Type} {P : Program} {c : Code} {Q : Exit → Act → World → Prop} {a : Act} {w : World} {A : α0 → α1 → α2 → World → Act} {F : α0 → α1 → α2 → World → Prop} (h : c.wp P (JQ3 A F) a w) (k : ∀ x0 x1 x2 wc, F x0 x1 x2 wc → Q .normal (A x0 x1 x2 wc) wc) : c.wp P Q a w := by
 refine Code.wp_mono (fun e a' w' q => ?_) h
 cases e with
 | normal =>
  obtain ⟨x0, x1, x2, rfl, f⟩ := q; exact k _ _ _ _ f
 | _ => exact q.elim
def JQ6 {α0 α1 α2 α3 α4 α5 : Type} (A : α0 → α1 → α2 → α3 → α4 → α5 → World → Act) (F : α0 → α1 → α2 → α3 → α4 → α5 → World → Prop) : Exit → Act → World → Prop
  | .normal, a, w => ∃ x0 x1 x2 x3 x4 x5, a = A x0 x1 x2 x3 x4 x5 w ∧ F x0 x1 x2 x3 x4 x5 w
  | _, _, _ => False
theorem jq6 {α0 α1 α2 α3 α4 α5 : Type} {A : α0 → α1 → α2 → α3 → α4 → α5 → World → Act} {F : α0 → α1 → α2 → α3 → α4 → α5 → World → Prop} {x0 : α0} {x1 : α1} {x2 : α2} {x3 : α3} {x4 : α4} {x5 : α5} {a : Act} {w : World} (h : a = A x0 x1 x2 x3 x4 x5 w) (f : F x0 x1 x2 x3 x4 x5 w) : JQ6 A F .normal a w := ⟨x0, x1, x2, x3, x4, x5, h, f⟩
theorem join6 {α0 α1 α2 α3 α4 α5 : Type} {P : Program} {c : Code} {Q : Exit → Act → World → Prop} {a : Act} {w : World} {A : α0 → α1 → α2 → α3 → α4 → α5 → World → Act} {F : α0 → α1 → α2 → α3 → α4 → α5 → World → Prop} (h : c.wp P (JQ6 A F) a w) (k : ∀ x0 x1 x2 x3 x4 x5 wc, F x0 x1 x2 x3 x4 x5 wc → Q .normal (A x0 x1 x2 x3 x4 x5 wc) wc) : c.wp P Q a w := by
 refine Code.wp_mono (fun e a' w' q => ?_) h
 cases e with
 | normal =>
  obtain ⟨x0, x1, x2, x3, x4, x5, rfl, f⟩ := q; exact k _ _ _ _ _ _ _ f
 | _ => exact q.elim
def JQ7 {α0 α1 α2 α3 α4 α5 α6 : Type} (A : α0 → α1 → α2 → α3 → α4 → α5 → α6 → World → Act) (F : α0 → α1 → α2 → α3 → α4 → α5 → α6 → World → Prop) : Exit → Act → World → Prop
  | .normal, a, w => ∃ x0 x1 x2 x3 x4 x5 x6, a = A x0 x1 x2 x3 x4 x5 x6 w ∧ F x0 x1 x2 x3 x4 x5 x6 w
  | _, _, _ => False
theorem jq7 {α0 α1 α2 α3 α4 α5 α6 : Type} {A : α0 → α1 → α2 → α3 → α4 → α5 → α6 → World → Act} {F : α0 → α1 → α2 → α3 → α4 → α5 → α6 → World → Prop} {x0 : α0} {x1 : α1} {x2 : α2} {x3 : α3} {x4 : α4} {x5 : α5} {x6 : α6} {a : Act} {w : World} (h : a = A x0 x1 x2 x3 x4 x5 x6 w) (f : F x0 x1 x2 x3 x4 x5 x6 w) : JQ7 A F .normal a w := ⟨x0, x1, x2, x3, x4, x5, x6, h, f⟩
theorem join7 {α0 α1 α2 α3 α4 α5 α6 : Type} {P : Program} {c : Code} {Q : Exit → Act → World → Prop} {a : Act} {w : World} {A : α0 → α1 → α2 → α3 → α4 → α5 → α6 → World → Act} {F : α0 → α1 → α2 → α3 → α4 → α5 → α6 → World → Prop} (h : c.wp P (JQ7 A F) a w) (k : ∀ x0 x1 x2 x3 x4 x5 x6 wc, F x0 x1 x2 x3 x4 x5 x6 wc → Q .normal (A x0 x1 x2 x3 x4 x5 x6 wc) wc) : c.wp P Q a w := by
 refine Code.wp_mono (fun e a' w' q => ?_) h
 cases e with
 | normal =>
  obtain ⟨x0, x1, x2, x3, x4, x5, x6, rfl, f⟩ := q; exact k _ _ _ _ _ _ _ _ f
 | _ => exact q.elim
end Go.Proofs.YtdfpeaenbmgihaaGreat
/-
  More steps: single cells, rows that grow in place. No Go function in it.
-/
namespace Go.Proofs.YtdfpeaenbmgihaaGreat
open Go.RowKit
section
variable {P : Program} {Q : Exit → Act → World → Prop} {a : Act} {w : World} {o : Oper} {K : Act → World → Prop}
theorem op_cell (b i : Nat) (v : Value) {t : TypeId} {old : Array Value} (hg : Blk w b t old) (h : (execOp a.eval o).run P w = .ok .skip (w.setCell ⟨b, i, none⟩ v)) (k : ∀ w' : World, Blk w' b t (old.setIfInBounds i v) → w.grownBy w' (some b) → w'.heap.size = w.heap.size → K (a.put o.dst undef) w') : o.wp P a w K Q := by unfold Oper.wp; rw [h]; exact k _ (heap_setAt hg v) (grown_setC w b i v) (by simp [World.setCell])
theorem op_rowset {B : Nat} {e : TypeId} {g n c : Nat} {xs : List Value} (i : Nat) (v : Value) (hr : w.ownsRow B e 1 (.slice (some ⟨g, 0, none⟩) n c) n xs) (h : (execOp a.eval o).run P w = .ok .skip (w.setCell ⟨g, i, none⟩ v)) (k : ∀ w' : World, w'.ownsRow B e 1 (.slice (some ⟨g, 0, none⟩) n c) n (xs.set i v) → w.grownBy w' (some g) → w'.heap.size = w.heap.size → K (a.put o.dst undef) w') : o.wp P a w K Q := by unfold Oper.wp; rw [h]; obtain ⟨s1, s2⟩ := hr.stored i v; exact k _ s1 s2 (by simp [World.setCell])
end
theorem kept_blk {w w' : World} {b B : Nat} {t e : TypeId} {cs : Array Value} {size n : Nat} {v : Value} {xs : List Value} (h : Blk w b t cs) (hg : w.grownBy w' v.ownBlock) (hr : w.ownsRow B e size v n xs) (hb : b < B) : Blk w' b t cs :=
  h.kept hg (fun q => by have := (hr.lt b q.symm).1; omega)
theorem kept_below {w w0 w' : World} {B B0 : Nat} {e : TypeId} {size n : Nat} {v : Value} {xs : List Value} (h : Below B0 w0 w) (hg : w.grownBy w' v.ownBlock) (hr : w.ownsRow B e size v n xs) (hb : B0 ≤ B) (hs : B0 ≤ w.heap.size) : Below B0 w0 w' :=
  h.grown hg hs (fun k hk => by have := (hr.lt k hk).1; omega)
end Go.Proofs.YtdfpeaenbmgihaaGreat
/-
  More ways that come together again; three that may come up at once. No Go function in it.
-/
namespace Go.Proofs.YtdfpeaenbmgihaaGreat
open Go.RowKit
def JQ11 {α0 α1 α2 α3 α4 α5 α6 α7 α8 α9 α10 : Type} (A : α0 → α1 → α2 → α3 → α4 → α5 → α6 → α7 → α8 → α9 → α10 → World → Act) (F : α0 → α1 → α2 → α3 → α4 → α5 → α6 → α7 → α8 → α9 → α10 → World → Prop) : Exit → Act → World → Prop
  | .normal, a, w => ∃ x0 x1 x2 x3 x4 x5 x6 x7 x8 x9 x10, a = A x0 x1 x2 x3 x4 x5 x6 x7 x8 x9 x10 w ∧ F x0 x1 x2 x3 x4 x5 x6 x7 x8 x9 x10 w
  | _, _, _ => False
theorem jq11 {α0 α1 α2 α3 α4 α5 α6 α7 α8 α9 α10 : Type} {A : α0 → α1 → α2 → α3 → α4 → α5 → α6 → α7 → α8 → α9 → α10 → World → Act} {F : α0 → α1 → α2 → α3 → α4 → α5 → α6 → α7 → α8 → α9 → α10 → World → Prop} {x0 : α0} {x1 : α1} {x2 : α2} {x3 : α3} {x4 : α4} {x5 : α5} {x6 : α6} {x7 : α7} {x8 : α8} {x9 : α9} {x10 : α10} {a : Act} {w : World} (h : a = A x0 x1 x2 x3 x4 x5 x6 x7 x8 x9 x10 w) (f : F x0 x1 x2 x3 x4 x5 x6 x7 x8 x9 x10 w) : JQ11 A F .normal a w := ⟨x0, x1, x2, x3, x4, x5, x6, x7, x8, x9, x10, h, f⟩
theorem join11 {α0 α1 α2 α3 α4 α5 α6 α7 α8 α9 α10 : Type} {P : Program} {c : Code} {Q : Exit → Act → World → Prop} {a : Act} {w : World} {A : α0 → α1 → α2 → α3 → α4 → α5 → α6 → α7 → α8 → α9 → α10 → World → Act} {F : α0 → α1 → α2 → α3 → α4 → α5 → α6 → α7 → α8 → α9 → α10 → World → Prop} (h : c.wp P (JQ11 A F) a w) (k : ∀ x0 x1 x2 x3 x4 x5 x6 x7 x8 x9 x10 wc, F x0 x1 x2 x3 x4 x5 x6 x7 x8 x9 x10 wc → Q .normal (A x0 x1 x2 x3 x4 x5 x6 x7 x8 x9 x10 wc) wc) : c.wp P Q a w := by
 refine Code.wp_mono (fun e a' w' q => ?_) h
 cases e with
 | normal =>
  obtain ⟨x0, x1, x2, x3, x4, x5, x6, x7, x8, x9, x10, rfl, f⟩ := q; exact k _ _ _ _ _ _ _ _ _ _ _ _ f
 | _ => exact q.elim
section
variable {P : Program} {ops : Array Oper} {Q : Exit → Act → World → Prop} {md : Region.Mode} {R : World → World → Prop}
theorem ord_three {i j l : Nat} {fuel : Nat} {listed : Array Bool} {a : Act} {w : World} (hr : Region.ready md ops listed = [i, j, l]) (h1 : ∀ oi K, ops[i]? = some oi → Shut (∀ a' w', R w w' → wpAnyR P md ops Q R fuel (listed.setIfInBounds i true) a' w' → K a' w') → Region.wanted oi (yielded ops a.tmps) = true ∧ oi.wp P a w K Q) (h2 : ∀ oi K, ops[j]? = some oi → Shut (∀ a' w', R w w' → wpAnyR P md ops Q R fuel (listed.setIfInBounds j true) a' w' → K a' w') → Region.wanted oi (yielded ops a.tmps) = true ∧ oi.wp P a w K Q) (h3 : ∀ oi K, ops[l]? = some oi → Shut (∀ a' w', R w w' → wpAnyR P md ops Q R fuel (listed.setIfInBounds l true) a' w' → K a' w') → Region.wanted oi (yielded ops a.tmps) = true ∧ oi.wp P a w K Q) : wpAnyR P md ops Q R (fuel + 1) listed a w := by
 refine ⟨fun h0 => (by rw [hr] at h0; cases h0), fun z hz => ?_⟩
 have step : ∀ z, z ∈ Region.ready md ops listed → (∀ oi K, ops[z]? = some oi → Shut (∀ a' w', R w w' → wpAnyR P md ops Q R fuel (listed.setIfInBounds z true) a' w' → K a' w') → Region.wanted oi (yielded ops a.tmps) = true ∧ oi.wp P a w K Q) →
     wpOp P ops Q z (fun a' w' => (waitsB md ops z = true ∧ Region.ready md ops (listed.setIfInBounds z true) = [] ∧ Q .normal a' w') ∨ (R w w' ∧ wpAnyR P md ops Q R fuel (listed.setIfInBounds z true) a' w')) a w := by
   intro z hm hh
   unfold wpOp
   cases hi : ops[z]? with
   | none =>
     obtain ⟨_, o, ho, _⟩ := mem_ready.1 hm
     rw [hi] at ho
     cases ho
   | some oi =>
     obtain ⟨hw, hwp⟩ := hh oi (fun a' w' => (waitsB md ops z = true ∧ Region.ready md ops (listed.setIfInBounds z true) = [] ∧ Q .normal a' w') ∨ (R w w' ∧ wpAnyR P md ops Q R fuel (listed.setIfInBounds z true) a' w')) hi (fun a' w' hl hk => .inr (And.intro hl hk))
     simp only [hw, if_true]
     exact .inl hwp
 rw [hr] at hz; rcases (by simpa using hz : z = i ∨ z = j ∨ z = l) with rfl | rfl | rfl
 · exact step z (by rw [hr]; simp) h1
 · exact step z (by rw [hr]; simp) h2
 · exact step z (by rw [hr]; simp) h3
end
end Go.Proofs.YtdfpeaenbmgihaaGreat
/-
  The steps of a walk in short: what a step asks is tried by itself. No Go function in it.
-/
namespace Go.Proofs.YtdfpeaenbmgihaaGreat
open Go.RowKit
section
variable {P : Program} {ops : Array Oper} {Q : Exit → Act → World → Prop} {md : Region.Mode} {R : World → World → Prop}
theorem p_a {α : Type} (l : List α) (i : Nat) (x : α) : l.toArray.setIfInBounds i x = (l.set i x).toArray := List.setIfInBounds_toArray ..
theorem p_b {α : Type} (l : List α) (a b : α) : (a :: l).set 0 b = b :: l := List.set_cons_zero
theorem p_c {α : Type} (l : List α) (a b : α) (n : Nat) : (a :: l).set (n + 1) b = a :: l.set n b := List.set_cons_succ
theorem Blk.g {w : World} {b : Nat} {t : TypeId} {cs : Array Value} (h : Blk w b t cs) (i : Nat) {v : Value} (e : cs[i]? = some v := by (simp only [List.getElem?_toArray, List.getElem?_cons_succ, List.getElem?_cons_zero] <;> rfl)) : w.cell? ⟨b, i, none⟩ = some v := (h.cell i).trans e
theorem Blk.c2 {w : World} {b : Nat} {t : TypeId} {v0 v1 : Value} (h : Blk w b t #[v0, v1]) : w.cell? ⟨b, 0, none⟩ = some v0 ∧ w.cell? ⟨b, 1, none⟩ = some v1 := ⟨h.cell 0, h.cell 1⟩
theorem Blk.c3 {w : World} {b : Nat} {t : TypeId} {v0 v1 v2 : Value} (h : Blk w b t #[v0, v1, v2]) : w.cell? ⟨b, 0, none⟩ = some v0 ∧ w.cell? ⟨b, 1, none⟩ = some v1 ∧ w.cell? ⟨b, 2, none⟩ = some v2 := ⟨h.cell 0, h.cell 1, h.cell 2⟩
theorem Blk.c4 {w : World} {b : Nat} {t : TypeId} {v0 v1 v2 v3 : Value} (h : Blk w b t #[v0, v1, v2, v3]) : w.cell? ⟨b, 0, none⟩ = some v0 ∧ w.cell? ⟨b, 1, none⟩ = some v1 ∧ w.cell? ⟨b, 2, none⟩ = some v2 ∧ w.cell? ⟨b, 3, none⟩ = some v3 := ⟨h.cell 0, h.cell 1, h.cell 2, h.cell 3⟩
theorem Blk.c6 {w : World} {b : Nat} {t : TypeId} {v0 v1 v2 v3 v4 v5 : Value} (h : Blk w b t #[v0, v1, v2, v3, v4, v5]) : w.cell? ⟨b, 0, none⟩ = some v0 ∧ w.cell? ⟨b, 1, none⟩ = some v1 ∧ w.cell? ⟨b, 2, none⟩ = some v2 ∧ w.cell? ⟨b, 3, none⟩ = some v3 ∧ w.cell? ⟨b, 4, none⟩ = some v4 ∧ w.cell? ⟨b, 5, none⟩ = some v5 := ⟨h.cell 0, h.cell 1, h.cell 2, h.cell 3, h.cell 4, h.cell 5⟩
theorem Blk.c7 {w : World} {b : Nat} {t : TypeId} {v0 v1 v2 v3 v4 v5 v6 : Value} (h : Blk w b t #[v0, v1, v2, v3, v4, v5, v6]) : w.cell? ⟨b, 0, none⟩ = some v0 ∧ w.cell? ⟨b, 1, none⟩ = some v1 ∧ w.cell? ⟨b, 2, none⟩ = some v2 ∧ w.cell? ⟨b, 3, none⟩ = some v3 ∧ w.cell? ⟨b, 4, none⟩ = some v4 ∧ w.cell? ⟨b, 5, none⟩ = some v5 ∧ w.cell? ⟨b, 6, none⟩ = some v6 := ⟨h.cell 0, h.cell 1, h.cell 2, h.cell 3, h.cell 4, h.cell 5, h.cell 6⟩
theorem Blk.c10 {w : World} {b : Nat} {t : TypeId} {v0 v1 v2 v3 v4 v5 v6 v7 v8 v9 : Value} (h : Blk w b t #[v0, v1, v2, v3, v4, v5, v6, v7, v8, v9]) : w.cell? ⟨b, 0, none⟩ = some v0 ∧ w.cell? ⟨b, 1, none⟩ = some v1 ∧ w.cell? ⟨b, 2, none⟩ = some v2 ∧ w.cell? ⟨b, 3, none⟩ = some v3 ∧ w.cell? ⟨b, 4, none⟩ = some v4 ∧ w.cell? ⟨b, 5, none⟩ = some v5 ∧ w.cell? ⟨b, 6, none⟩ = some v6 ∧ w.cell? ⟨b, 7, none⟩ = some v7 ∧ w.cell? ⟨b, 8, none⟩ = some v8 ∧ w.cell? ⟨b, 9, none⟩ = some v9 := ⟨h.cell 0, h.cell 1, h.cell 2, h.cell 3, h.cell 4, h.cell 5, h.cell 6, h.cell 7, h.cell 8, h.cell 9⟩
theorem Blk.c13 {w : World} {b : Nat} {t : TypeId} {v0 v1 v2 v3 v4 v5 v6 v7 v8 v9 va vb vc : Value} (h : Blk w b t #[v0, v1, v2, v3, v4, v5, v6, v7, v8, v9, va, vb, vc]) : w.cell? ⟨b, 0, none⟩ = some v0 ∧ w.cell? ⟨b, 1, none⟩ = some v1 ∧ w.cell? ⟨b, 2, none⟩ = some v2 ∧ w.cell? ⟨b, 3, none⟩ = some v3 ∧ w.cell? ⟨b, 4, none⟩ = some v4 ∧ w.cell? ⟨b, 5, none⟩ = some v5 ∧ w.cell? ⟨b, 6, none⟩ = some v6 ∧ w.cell? ⟨b, 7, none⟩ = some v7 ∧ w.cell? ⟨b, 8, none⟩ = some v8 ∧ w.cell? ⟨b, 9, none⟩ = some v9 ∧ w.cell? ⟨b, 10, none⟩ = some va ∧ w.cell? ⟨b, 11, none⟩ = some vb ∧ w.cell? ⟨b, 12, none⟩ = some vc := ⟨h.cell 0, h.cell 1, h.cell 2, h.cell 3, h.cell 4, h.cell 5, h.cell 6, h.cell 7, h.cell 8, h.cell 9, h.cell 10, h.cell 11, h.cell 12⟩
structure WL (P : Program) (ops : Array Oper) (Q : Exit → Act → World → Prop) (l : List Oper) (a : Act) (w : World) : Prop where
  out : wpList P ops Q l a w
variable {a a' : Act} {w : World} {rest : List Oper} {o : Oper} {v : Value}
theorem w_i {l : List Oper} (h : WL P ops Q l a w) : wpList P ops Q l a w := h.out
theorem w_e (h : Q .normal a w) : WL P ops Q [] a w := ⟨wpList_nil h⟩
theorem w_t (h : (execOp a.eval o).run P w = .ok (.value v) w) (k : WL P ops Q rest a' w) (hg : Region.wanted o (yielded ops a.tmps) = true := by rfl)
    (ha : a.put o.dst v = a' := by (simp only [Act.put, p_a, p_b, p_c] <;> rfl)) : WL P ops Q (o :: rest) a w := by
  subst ha
  exact ⟨pl_take hg h k.out⟩
theorem w_q (k : WL P ops Q rest a' w) (hg : Region.wanted o (yielded ops a.tmps) = true := by rfl) (h : (execOp a.eval o).run P w = .ok (.value v) w := by (go_simp; all_goals rfl))
    (ha : a.put o.dst v = a' := by (simp only [Act.put, p_a, p_b, p_c] <;> rfl)) : WL P ops Q (o :: rest) a w := w_t h k hg ha
theorem w_n (k : WL P ops Q rest a' w) (hg : Region.wanted o (yielded ops a.tmps) = false := by rfl) (ha : a.put o.dst undef = a' := by (simp only [Act.put, p_a, p_b, p_c] <;> rfl)) : WL P ops Q (o :: rest) a w := by subst ha; exact ⟨pl_skip hg k.out⟩
theorem w_1 (h : ∀ K : Act → World → Prop, Shut (∀ a w, WL P ops Q rest a w → K a w) → o.wp P a w K Q) (hg : Region.wanted o (yielded ops a.tmps) = true := by rfl) : WL P ops Q (o :: rest) a w := ⟨pl_one hg fun K hK => h K (fun a w q => hK.out a w q.out)⟩
structure WR (P : Program) (md : Region.Mode) (ops : Array Oper) (Q : Exit → Act → World → Prop) (R : World → World → Prop) (fuel : Nat) (listed : Array Bool) (a : Act) (w : World) : Prop where
  out : wpAnyR P md ops Q R fuel listed a w
variable {fuel : Nat} {listed : Array Bool}
theorem r_i (R : World → World → Prop) {id : Nat} (h : WR P .any ops Q R ops.size (Array.replicate ops.size false) a w.drew) (hm : P.follows .mixedOrders = true := by kernel_rfl) : (Code.region id ops true).wp P Q a w := wp_region_ord R hm h.out
def frB (md : Region.Mode) (ops : Array Oper) (listed : Array Bool) (i : Nat) : Bool := Region.noSelect ops && Region.free md ops listed i && (Region.ready md ops listed).contains i && ((ops[i]?).bind (·.dst)).isSome
theorem r_t (i : Nat) (h : ∀ w', R w w' → (execOp a.eval o).run P w' = .ok (.value v) w') (k : WR P md ops Q R fuel (listed.setIfInBounds i true) a' w)
    (hc : frB md ops listed i = true := by kernel_rfl) (ho : ops[i]? = some o := by (simp only [List.getElem?_toArray, List.getElem?_cons_succ, List.getElem?_cons_zero] <;> rfl))
    (hg : Region.wanted o (yielded ops a.tmps) = true := by rfl) (hP : Pre R := by (first | exact laterPre | exact belowPre _ | exact keepLPre _ | exact keepCPre _))
    (hQ : ∀ c a w, Q (.panic c) (a.put o.dst v) w → Q (.panic c) a w := by exact fun _ _ _ h => h) (ha : a.put o.dst v = a' := by (simp only [Act.put, p_a, p_b, p_c] <;> rfl)) : WR P md ops Q R (fuel + 1) listed a w := by
  subst ha
  unfold frB at hc
  simp only [Bool.and_eq_true] at hc
  obtain ⟨⟨⟨h1, h2⟩, h3⟩, h4⟩ := hc
  cases hd : o.dst with
  | none => rw [ho] at h4; simp [hd] at h4
  | some d =>
    rw [hd] at hQ k
    exact ⟨ord_take hP h1 h2 h3 (by rw [ho]; exact hd) hQ (fun oi q => by rw [ho] at q; cases q; exact ⟨hg, h⟩) k.out⟩
theorem r_q (i : Nat) (k : WR P md ops Q R fuel (listed.setIfInBounds i true) a' w)
    (hc : frB md ops listed i = true := by kernel_rfl) (ho : ops[i]? = some o := by (simp only [List.getElem?_toArray, List.getElem?_cons_succ, List.getElem?_cons_zero] <;> rfl))
    (hg : Region.wanted o (yielded ops a.tmps) = true := by rfl) (h : ∀ w', R w w' → (execOp a.eval o).run P w' = .ok (.value v) w' := by (intro w' hw'; go_simp; all_goals rfl))
    (hP : Pre R := by (first | exact laterPre | exact belowPre _ | exact keepLPre _ | exact keepCPre _))
    (hQ : ∀ c a w, Q (.panic c) (a.put o.dst v) w → Q (.panic c) a w := by exact fun _ _ _ h => h) (ha : a.put o.dst v = a' := by (simp only [Act.put, p_a, p_b, p_c] <;> rfl)) : WR P md ops Q R (fuel + 1) listed a w :=
  r_t i h k hc ho hg hP hQ ha
theorem r_n (i : Nat) (k : WR P md ops Q R fuel (listed.setIfInBounds i true) a' w)
    (hc : frB md ops listed i = true := by kernel_rfl) (ho : ops[i]? = some o := by (simp only [List.getElem?_toArray, List.getElem?_cons_succ, List.getElem?_cons_zero] <;> rfl))
    (hg : Region.wanted o (yielded ops a.tmps) = false := by rfl) (hP : Pre R := by (first | exact laterPre | exact belowPre _ | exact keepLPre _ | exact keepCPre _))
    (hQ : ∀ c a w, Q (.panic c) (a.put o.dst undef) w → Q (.panic c) a w := by exact fun _ _ _ h => h) (ha : a.put o.dst undef = a' := by (simp only [Act.put, p_a, p_b, p_c] <;> rfl)) : WR P md ops Q R (fuel + 1) listed a w := by
  subst ha
  unfold frB at hc
  simp only [Bool.and_eq_true] at hc
  obtain ⟨⟨⟨h1, h2⟩, h3⟩, h4⟩ := hc
  cases hd : o.dst with
  | none => rw [ho] at h4; simp [hd] at h4
  | some d =>
    rw [hd] at hQ k
    exact ⟨ord_skip hP h1 h2 h3 (by rw [ho]; exact hd) hQ (by rw [ho]; simp [hg]) k.out⟩
theorem r_1 (i : Nat) (h : ∀ K, Shut (∀ a' w', R w w' → WR P md ops Q R fuel (listed.setIfInBounds i true) a' w' → K a' w') → o.wp P a w K Q) (hr : Region.ready md ops listed = [i] := by kernel_rfl)
    (ho : ops[i]? = some o := by (simp only [List.getElem?_toArray, List.getElem?_cons_succ, List.getElem?_cons_zero] <;> rfl)) (hg : Region.wanted o (yielded ops a.tmps) = true := by rfl) : WR P md ops Q R (fuel + 1) listed a w :=
  ⟨ord_one hr fun oi K q hK => by rw [ho] at q; cases q; exact ⟨hg, h K (fun a w r z => hK.out a w r z.out)⟩⟩
theorem r_l (i : Nat) (h : ∀ K, Shut (∀ a' w', Q .normal a' w' → K a' w') → o.wp P a w K Q) (hr : Region.ready md ops listed = [i] := by kernel_rfl) (hwt : waitsB md ops i = true := by kernel_rfl) (he : Region.ready md ops (listed.setIfInBounds i true) = [] := by kernel_rfl)
    (ho : ops[i]? = some o := by (simp only [List.getElem?_toArray, List.getElem?_cons_succ, List.getElem?_cons_zero] <;> rfl)) (hg : Region.wanted o (yielded ops a.tmps) = true := by rfl) : WR P md ops Q R (fuel + 1) listed a w :=
  ⟨ord_last hr hwt he fun oi K q hK => by rw [ho] at q; cases q; exact ⟨hg, h K hK⟩⟩
theorem r_2 {o2 : Oper} (i j : Nat) (h : ∀ K, Shut (∀ a' w', R w w' → WR P md ops Q R fuel (listed.setIfInBounds i true) a' w' → K a' w') → o.wp P a w K Q) (h2 : ∀ K, Shut (∀ a' w', R w w' → WR P md ops Q R fuel (listed.setIfInBounds j true) a' w' → K a' w') → o2.wp P a w K Q)
    (hr : Region.ready md ops listed = [i, j] := by kernel_rfl) (ho : ops[i]? = some o := by (simp only [List.getElem?_toArray, List.getElem?_cons_succ, List.getElem?_cons_zero] <;> rfl)) (hg : Region.wanted o (yielded ops a.tmps) = true := by rfl)
    (ho2 : ops[j]? = some o2 := by (simp only [List.getElem?_toArray, List.getElem?_cons_succ, List.getElem?_cons_zero] <;> rfl)) (hg2 : Region.wanted o2 (yielded ops a.tmps) = true := by rfl) : WR P md ops Q R (fuel + 1) listed a w :=
  ⟨ord_two hr (fun oi K q hK => by rw [ho] at q; cases q; exact ⟨hg, h K (fun a w r z => hK.out a w r z.out)⟩) (fun oi K q hK => by rw [ho2] at q; cases q; exact ⟨hg2, h2 K (fun a w r z => hK.out a w r z.out)⟩)⟩
theorem r_3 {o2 o3 : Oper} (i j l : Nat) (h : ∀ K, Shut (∀ a' w', R w w' → WR P md ops Q R fuel (listed.setIfInBounds i true) a' w' → K a' w') → o.wp P a w K Q) (h2 : ∀ K, Shut (∀ a' w', R w w' → WR P md ops Q R fuel (listed.setIfInBounds j true) a' w' → K a' w') → o2.wp P a w K Q)
    (h3 : ∀ K, Shut (∀ a' w', R w w' → WR P md ops Q R fuel (listed.setIfInBounds l true) a' w' → K a' w') → o3.wp P a w K Q)
    (hr : Region.ready md ops listed = [i, j, l] := by kernel_rfl) (ho : ops[i]? = some o := by (simp only [List.getElem?_toArray, List.getElem?_cons_succ, List.getElem?_cons_zero] <;> rfl)) (hg : Region.wanted o (yielded ops a.tmps) = true := by rfl)
    (ho2 : ops[j]? = some o2 := by (simp only [List.getElem?_toArray, List.getElem?_cons_succ, List.getElem?_cons_zero] <;> rfl)) (hg2 : Region.wanted o2 (yielded ops a.tmps) = true := by rfl)
    (ho3 : ops[l]? = some o3 := by (simp only [List.getElem?_toArray, List.getElem?_cons_succ, List.getElem?_cons_zero] <;> rfl)) (hg3 : Region.wanted o3 (yielded ops a.tmps) = true := by rfl) : WR P md ops Q R (fuel + 1) listed a w :=
  ⟨ord_three hr (fun oi K q hK => by rw [ho] at q; cases q; exact ⟨hg, h K (fun a w r z => hK.out a w r z.out)⟩) (fun oi K q hK => by rw [ho2] at q; cases q; exact ⟨hg2, h2 K (fun a w r z => hK.out a w r z.out)⟩) (fun oi K q hK => by rw [ho3] at q; cases q; exact ⟨hg3, h3 K (fun a w r z => hK.out a w r z.out)⟩)⟩
theorem r_e (h : Q .normal a w) (hr : Region.ready md ops listed = [] := by kernel_rfl) : WR P md ops Q R fuel listed a w := ⟨later_done hr h _⟩
end
end Go.Proofs.YtdfpeaenbmgihaaGreat
/-
  Many facts carried at once, and several quiet steps at once. No Go function in it.
-/
namespace Go.Proofs.YtdfpeaenbmgihaaGreat
open Go.RowKit
theorem cy_t {P Q : Prop} (h : P → Q := by first | exact fun x => x.below hb | exact fun x => own_below' x hb | exact fun x => x.trans (hb.mono x.size) | exact fun x => x.trans (hb.mono (Nat.le_trans HB0.out x.size)) | exact fun x => fun n u hn => (hb.cell (cell_lt (x n u hn))).trans (x n u hn) | exact fun x => (hb.cell (cell_lt x)).trans x | exact fun x => And.intro x (And.intro hb.size hbn) | exact fun x => And.intro x (And.intro hb.size hsq) | exact fun x => And.intro x hb.size) : P → Q := h
theorem cy1 {P0 Q0 G : Prop} (x0 : Hid P0) (k : Hid Q0 → G) (c0 : P0 → Q0 := by exact cy_t) : G := k (c0 x0)
theorem cy2 {P0 Q0 P1 Q1 G : Prop} (x0 : Hid P0) (x1 : Hid P1) (k : Hid Q0 → Hid Q1 → G) (c0 : P0 → Q0 := by exact cy_t) (c1 : P1 → Q1 := by exact cy_t) : G := k (c0 x0) (c1 x1)
theorem cy3 {P0 Q0 P1 Q1 P2 Q2 G : Prop} (x0 : Hid P0) (x1 : Hid P1) (x2 : Hid P2) (k : Hid Q0 → Hid Q1 → Hid Q2 → G) (c0 : P0 → Q0 := by exact cy_t) (c1 : P1 → Q1 := by exact cy_t) (c2 : P2 → Q2 := by exact cy_t) : G := k (c0 x0) (c1 x1) (c2 x2)
theorem cy4 {P0 Q0 P1 Q1 P2 Q2 P3 Q3 G : Prop} (x0 : Hid P0) (x1 : Hid P1) (x2 : Hid P2) (x3 : Hid P3) (k : Hid Q0 → Hid Q1 → Hid Q2 → Hid Q3 → G) (c0 : P0 → Q0 := by exact cy_t) (c1 : P1 → Q1 := by exact cy_t) (c2 : P2 → Q2 := by exact cy_t) (c3 : P3 → Q3 := by exact cy_t) : G := k (c0 x0) (c1 x1) (c2 x2) (c3 x3)
theorem cy5 {P0 Q0 P1 Q1 P2 Q2 P3 Q3 P4 Q4 G : Prop} (x0 : Hid P0) (x1 : Hid P1) (x2 : Hid P2) (x3 : Hid P3) (x4 : Hid P4) (k : Hid Q0 → Hid Q1 → Hid Q2 → Hid Q3 → Hid Q4 → G) (c0 : P0 → Q0 := by exact cy_t) (c1 : P1 → Q1 := by exact cy_t) (c2 : P2 → Q2 := by exact cy_t) (c3 : P3 → Q3 := by exact cy_t) (c4 : P4 → Q4 := by exact cy_t) : G := k (c0 x0) (c1 x1) (c2 x2) (c3 x3) (c4 x4)
theorem cy6 {P0 Q0 P1 Q1 P2 Q2 P3 Q3 P4 Q4 P5 Q5 G : Prop} (x0 : Hid P0) (x1 : Hid P1) (x2 : Hid P2) (x3 : Hid P3) (x4 : Hid P4) (x5 : Hid P5) (k : Hid Q0 → Hid Q1 → Hid Q2 → Hid Q3 → Hid Q4 → Hid Q5 → G) (c0 : P0 → Q0 := by exact cy_t) (c1 : P1 → Q1 := by exact cy_t) (c2 : P2 → Q2 := by exact cy_t) (c3 : P3 → Q3 := by exact cy_t) (c4 : P4 → Q4 := by exact cy_t) (c5 : P5 → Q5 := by exact cy_t) : G := k (c0 x0) (c1 x1) (c2 x2) (c3 x3) (c4 x4) (c5 x5)
theorem cy7 {P0 Q0 P1 Q1 P2 Q2 P3 Q3 P4 Q4 P5 Q5 P6 Q6 G : Prop} (x0 : Hid P0) (x1 : Hid P1) (x2 : Hid P2) (x3 : Hid P3) (x4 : Hid P4) (x5 : Hid P5) (x6 : Hid P6) (k : Hid Q0 → Hid Q1 → Hid Q2 → Hid Q3 → Hid Q4 → Hid Q5 → Hid Q6 → G) (c0 : P0 → Q0 := by exact cy_t) (c1 : P1 → Q1 := by exact cy_t) (c2 : P2 → Q2 := by exact cy_t) (c3 : P3 → Q3 := by exact cy_t) (c4 : P4 → Q4 := by exact cy_t) (c5 : P5 → Q5 := by exact cy_t) (c6 : P6 → Q6 := by exact cy_t) : G := k (c0 x0) (c1 x1) (c2 x2) (c3 x3) (c4 x4) (c5 x5) (c6 x6)
theorem cy8 {P0 Q0 P1 Q1 P2 Q2 P3 Q3 P4 Q4 P5 Q5 P6 Q6 P7 Q7 G : Prop} (x0 : Hid P0) (x1 : Hid P1) (x2 : Hid P2) (x3 : Hid P3) (x4 : Hid P4) (x5 : Hid P5) (x6 : Hid P6) (x7 : Hid P7) (k : Hid Q0 → Hid Q1 → Hid Q2 → Hid Q3 → Hid Q4 → Hid Q5 → Hid Q6 → Hid Q7 → G) (c0 : P0 → Q0 := by exact cy_t) (c1 : P1 → Q1 := by exact cy_t) (c2 : P2 → Q2 := by exact cy_t) (c3 : P3 → Q3 := by exact cy_t) (c4 : P4 → Q4 := by exact cy_t) (c5 : P5 → Q5 := by exact cy_t) (c6 : P6 → Q6 := by exact cy_t) (c7 : P7 → Q7 := by exact cy_t) : G := k (c0 x0) (c1 x1) (c2 x2) (c3 x3) (c4 x4) (c5 x5) (c6 x6) (c7 x7)
theorem cy9 {P0 Q0 P1 Q1 P2 Q2 P3 Q3 P4 Q4 P5 Q5 P6 Q6 P7 Q7 P8 Q8 G : Prop} (x0 : Hid P0) (x1 : Hid P1) (x2 : Hid P2) (x3 : Hid P3) (x4 : Hid P4) (x5 : Hid P5) (x6 : Hid P6) (x7 : Hid P7) (x8 : Hid P8) (k : Hid Q0 → Hid Q1 → Hid Q2 → Hid Q3 → Hid Q4 → Hid Q5 → Hid Q6 → Hid Q7 → Hid Q8 → G) (c0 : P0 → Q0 := by exact cy_t) (c1 : P1 → Q1 := by exact cy_t) (c2 : P2 → Q2 := by exact cy_t) (c3 : P3 → Q3 := by exact cy_t) (c4 : P4 → Q4 := by exact cy_t) (c5 : P5 → Q5 := by exact cy_t) (c6 : P6 → Q6 := by exact cy_t) (c7 : P7 → Q7 := by exact cy_t) (c8 : P8 → Q8 := by exact cy_t) : G := k (c0 x0) (c1 x1) (c2 x2) (c3 x3) (c4 x4) (c5 x5) (c6 x6) (c7 x7) (c8 x8)
theorem cy10 {P0 Q0 P1 Q1 P2 Q2 P3 Q3 P4 Q4 P5 Q5 P6 Q6 P7 Q7 P8 Q8 P9 Q9 G : Prop} (x0 : Hid P0) (x1 : Hid P1) (x2 : Hid P2) (x3 : Hid P3) (x4 : Hid P4) (x5 : Hid P5) (x6 : Hid P6) (x7 : Hid P7) (x8 : Hid P8) (x9 : Hid P9) (k : Hid Q0 → Hid Q1 → Hid Q2 → Hid Q3 → Hid Q4 → Hid Q5 → Hid Q6 → Hid Q7 → Hid Q8 → Hid Q9 → G) (c0 : P0 → Q0 := by exact cy_t) (c1 : P1 → Q1 := by exact cy_t) (c2 : P2 → Q2 := by exact cy_t) (c3 : P3 → Q3 := by exact cy_t) (c4 : P4 → Q4 := by exact cy_t) (c5 : P5 → Q5 := by exact cy_t) (c6 : P6 → Q6 := by exact cy_t) (c7 : P7 → Q7 := by exact cy_t) (c8 : P8 → Q8 := by exact cy_t) (c9 : P9 → Q9 := by exact cy_t) : G := k (c0 x0) (c1 x1) (c2 x2) (c3 x3) (c4 x4) (c5 x5) (c6 x6) (c7 x7) (c8 x8) (c9 x9)
theorem cy11 {P0 Q0 P1 Q1 P2 Q2 P3 Q3 P4 Q4 P5 Q5 P6 Q6 P7 Q7 P8 Q8 P9 Q9 P10 Q10 G : Prop} (x0 : Hid P0) (x1 : Hid P1) (x2 : Hid P2) (x3 : Hid P3) (x4 : Hid P4) (x5 : Hid P5) (x6 : Hid P6) (x7 : Hid P7) (x8 : Hid P8) (x9 : Hid P9) (x10 : Hid P10) (k : Hid Q0 → Hid Q1 → Hid Q2 → Hid Q3 → Hid Q4 → Hid Q5 → Hid Q6 → Hid Q7 → Hid Q8 → Hid Q9 → Hid Q10 → G) (c0 : P0 → Q0 := by exact cy_t) (c1 : P1 → Q1 := by exact cy_t) (c2 : P2 → Q2 := by exact cy_t) (c3 : P3 → Q3 := by exact cy_t) (c4 : P4 → Q4 := by exact cy_t) (c5 : P5 → Q5 := by exact cy_t) (c6 : P6 → Q6 := by exact cy_t) (c7 : P7 → Q7 := by exact cy_t) (c8 : P8 → Q8 := by exact cy_t) (c9 : P9 → Q9 := by exact cy_t) (c10 : P10 → Q10 := by exact cy_t) : G := k (c0 x0) (c1 x1) (c2 x2) (c3 x3) (c4 x4) (c5 x5) (c6 x6) (c7 x7) (c8 x8) (c9 x9) (c10 x10)
theorem cy12 {P0 Q0 P1 Q1 P2 Q2 P3 Q3 P4 Q4 P5 Q5 P6 Q6 P7 Q7 P8 Q8 P9 Q9 P10 Q10 P11 Q11 G : Prop} (x0 : Hid P0) (x1 : Hid P1) (x2 : Hid P2) (x3 : Hid P3) (x4 : Hid P4) (x5 : Hid P5) (x6 : Hid P6) (x7 : Hid P7) (x8 : Hid P8) (x9 : Hid P9) (x10 : Hid P10) (x11 : Hid P11) (k : Hid Q0 → Hid Q1 → Hid Q2 → Hid Q3 → Hid Q4 → Hid Q5 → Hid Q6 → Hid Q7 → Hid Q8 → Hid Q9 → Hid Q10 → Hid Q11 → G) (c0 : P0 → Q0 := by exact cy_t) (c1 : P1 → Q1 := by exact cy_t) (c2 : P2 → Q2 := by exact cy_t) (c3 : P3 → Q3 := by exact cy_t) (c4 : P4 → Q4 := by exact cy_t) (c5 : P5 → Q5 := by exact cy_t) (c6 : P6 → Q6 := by exact cy_t) (c7 : P7 → Q7 := by exact cy_t) (c8 : P8 → Q8 := by exact cy_t) (c9 : P9 → Q9 := by exact cy_t) (c10 : P10 → Q10 := by exact cy_t) (c11 : P11 → Q11 := by exact cy_t) : G := k (c0 x0) (c1 x1) (c2 x2) (c3 x3) (c4 x4) (c5 x5) (c6 x6) (c7 x7) (c8 x8) (c9 x9) (c10 x10) (c11 x11)
theorem gy_t {P Q : Prop} (h : P → Q := by first | exact fun x => blk_grown x hg (by have q := HN.out; omega) | exact fun x => row_grown x hg OLD.out (by decide) | exact fun x => x.other hg (by simp) | exact fun x => x.new hg (by have q := HN.out; omega) | exact fun x => below_grown x hg x.size (by have q := HN.out; omega) | exact fun x => below_grown x hg (Nat.le_trans HB0.out x.size) (by have q := HN.out; have q2 := HB0.out; omega) | exact fun x => x.kept hg (fun q => (HW.out.loc _ (by simp)).2 _ (List.mem_of_getElem? (i := 0) rfl) q.symm) | exact fun x => x.kept hg (fun q => (HW.out.loc _ (by simp)).2 _ (List.mem_of_getElem? (i := 1) rfl) q.symm) | exact fun x => x.kept hg (fun q => (HW.out.loc _ (by simp)).2 _ (List.mem_of_getElem? (i := 2) rfl) q.symm) | exact fun x => x.kept hg (fun q => (HW.out.loc _ (by simp)).2 _ (List.mem_of_getElem? (i := 3) rfl) q.symm) | exact fun x => x.kept hg (fun q => (HW.out.loc _ (by simp)).2 _ (List.mem_of_getElem? (i := 4) rfl) q.symm) | exact fun x => x.kept hg (fun q => (HW.out.loc _ (by simp)).2 _ (List.mem_of_getElem? (i := 5) rfl) q.symm) | exact fun x => x.kept hg (fun q => (HW.out.loc _ (by simp)).2 _ (List.mem_of_getElem? (i := 6) rfl) q.symm) | exact fun x => x.kept hg (fun q => (HW.out.loc _ (by simp)).2 _ (List.mem_of_getElem? (i := 7) rfl) q.symm) | exact fun x => x.kept hg (fun q => (HW.out.loc _ (by simp)).2 _ (List.mem_of_getElem? (i := 8) rfl) q.symm) | exact fun x => x.kept hg (fun q => (HW.out.loc _ (by simp)).2 _ (List.mem_of_getElem? (i := 9) rfl) q.symm) | exact fun x => And.intro x hs) : P → Q := h
theorem gy1 {P0 Q0 G : Prop} (x0 : Hid P0) (k : Hid Q0 → G) (c0 : P0 → Q0 := by exact gy_t) : G := k (c0 x0)
theorem gy2 {P0 Q0 P1 Q1 G : Prop} (x0 : Hid P0) (x1 : Hid P1) (k : Hid Q0 → Hid Q1 → G) (c0 : P0 → Q0 := by exact gy_t) (c1 : P1 → Q1 := by exact gy_t) : G := k (c0 x0) (c1 x1)
theorem gy3 {P0 Q0 P1 Q1 P2 Q2 G : Prop} (x0 : Hid P0) (x1 : Hid P1) (x2 : Hid P2) (k : Hid Q0 → Hid Q1 → Hid Q2 → G) (c0 : P0 → Q0 := by exact gy_t) (c1 : P1 → Q1 := by exact gy_t) (c2 : P2 → Q2 := by exact gy_t) : G := k (c0 x0) (c1 x1) (c2 x2)
theorem gy4 {P0 Q0 P1 Q1 P2 Q2 P3 Q3 G : Prop} (x0 : Hid P0) (x1 : Hid P1) (x2 : Hid P2) (x3 : Hid P3) (k : Hid Q0 → Hid Q1 → Hid Q2 → Hid Q3 → G) (c0 : P0 → Q0 := by exact gy_t) (c1 : P1 → Q1 := by exact gy_t) (c2 : P2 → Q2 := by exact gy_t) (c3 : P3 → Q3 := by exact gy_t) : G := k (c0 x0) (c1 x1) (c2 x2) (c3 x3)
theorem gy5 {P0 Q0 P1 Q1 P2 Q2 P3 Q3 P4 Q4 G : Prop} (x0 : Hid P0) (x1 : Hid P1) (x2 : Hid P2) (x3 : Hid P3) (x4 : Hid P4) (k : Hid Q0 → Hid Q1 → Hid Q2 → Hid Q3 → Hid Q4 → G) (c0 : P0 → Q0 := by exact gy_t) (c1 : P1 → Q1 := by exact gy_t) (c2 : P2 → Q2 := by exact gy_t) (c3 : P3 → Q3 := by exact gy_t) (c4 : P4 → Q4 := by exact gy_t) : G := k (c0 x0) (c1 x1) (c2 x2) (c3 x3) (c4 x4)
theorem gy6 {P0 Q0 P1 Q1 P2 Q2 P3 Q3 P4 Q4 P5 Q5 G : Prop} (x0 : Hid P0) (x1 : Hid P1) (x2 : Hid P2) (x3 : Hid P3) (x4 : Hid P4) (x5 : Hid P5) (k : Hid Q0 → Hid Q1 → Hid Q2 → Hid Q3 → Hid Q4 → Hid Q5 → G) (c0 : P0 → Q0 := by exact gy_t) (c1 : P1 → Q1 := by exact gy_t) (c2 : P2 → Q2 := by exact gy_t) (c3 : P3 → Q3 := by exact gy_t) (c4 : P4 → Q4 := by exact gy_t) (c5 : P5 → Q5 := by exact gy_t) : G := k (c0 x0) (c1 x1) (c2 x2) (c3 x3) (c4 x4) (c5 x5)
theorem gy7 {P0 Q0 P1 Q1 P2 Q2 P3 Q3 P4 Q4 P5 Q5 P6 Q6 G : Prop} (x0 : Hid P0) (x1 : Hid P1) (x2 : Hid P2) (x3 : Hid P3) (x4 : Hid P4) (x5 : Hid P5) (x6 : Hid P6) (k : Hid Q0 → Hid Q1 → Hid Q2 → Hid Q3 → Hid Q4 → Hid Q5 → Hid Q6 → G) (c0 : P0 → Q0 := by exact gy_t) (c1 : P1 → Q1 := by exact gy_t) (c2 : P2 → Q2 := by exact gy_t) (c3 : P3 → Q3 := by exact gy_t) (c4 : P4 → Q4 := by exact gy_t) (c5 : P5 → Q5 := by exact gy_t) (c6 : P6 → Q6 := by exact gy_t) : G := k (c0 x0) (c1 x1) (c2 x2) (c3 x3) (c4 x4) (c5 x5) (c6 x6)
theorem gy8 {P0 Q0 P1 Q1 P2 Q2 P3 Q3 P4 Q4 P5 Q5 P6 Q6 P7 Q7 G : Prop} (x0 : Hid P0) (x1 : Hid P1) (x2 : Hid P2) (x3 : Hid P3) (x4 : Hid P4) (x5 : Hid P5) (x6 : Hid P6) (x7 : Hid P7) (k : Hid Q0 → Hid Q1 → Hid Q2 → Hid Q3 → Hid Q4 → Hid Q5 → Hid Q6 → Hid Q7 → G) (c0 : P0 → Q0 := by exact gy_t) (c1 : P1 → Q1 := by exact gy_t) (c2 : P2 → Q2 := by exact gy_t) (c3 : P3 → Q3 := by exact gy_t) (c4 : P4 → Q4 := by exact gy_t) (c5 : P5 → Q5 := by exact gy_t) (c6 : P6 → Q6 := by exact gy_t) (c7 : P7 → Q7 := by exact gy_t) : G := k (c0 x0) (c1 x1) (c2 x2) (c3 x3) (c4 x4) (c5 x5) (c6 x6) (c7 x7)
theorem gy9 {P0 Q0 P1 Q1 P2 Q2 P3 Q3 P4 Q4 P5 Q5 P6 Q6 P7 Q7 P8 Q8 G : Prop} (x0 : Hid P0) (x1 : Hid P1) (x2 : Hid P2) (x3 : Hid P3) (x4 : Hid P4) (x5 : Hid P5) (x6 : Hid P6) (x7 : Hid P7) (x8 : Hid P8) (k : Hid Q0 → Hid Q1 → Hid Q2 → Hid Q3 → Hid Q4 → Hid Q5 → Hid Q6 → Hid Q7 → Hid Q8 → G) (c0 : P0 → Q0 := by exact gy_t) (c1 : P1 → Q1 := by exact gy_t) (c2 : P2 → Q2 := by exact gy_t) (c3 : P3 → Q3 := by exact gy_t) (c4 : P4 → Q4 := by exact gy_t) (c5 : P5 → Q5 := by exact gy_t) (c6 : P6 → Q6 := by exact gy_t) (c7 : P7 → Q7 := by exact gy_t) (c8 : P8 → Q8 := by exact gy_t) : G := k (c0 x0) (c1 x1) (c2 x2) (c3 x3) (c4 x4) (c5 x5) (c6 x6) (c7 x7) (c8 x8)
theorem gy10 {P0 Q0 P1 Q1 P2 Q2 P3 Q3 P4 Q4 P5 Q5 P6 Q6 P7 Q7 P8 Q8 P9 Q9 G : Prop} (x0 : Hid P0) (x1 : Hid P1) (x2 : Hid P2) (x3 : Hid P3) (x4 : Hid P4) (x5 : Hid P5) (x6 : Hid P6) (x7 : Hid P7) (x8 : Hid P8) (x9 : Hid P9) (k : Hid Q0 → Hid Q1 → Hid Q2 → Hid Q3 → Hid Q4 → Hid Q5 → Hid Q6 → Hid Q7 → Hid Q8 → Hid Q9 → G) (c0 : P0 → Q0 := by exact gy_t) (c1 : P1 → Q1 := by exact gy_t) (c2 : P2 → Q2 := by exact gy_t) (c3 : P3 → Q3 := by exact gy_t) (c4 : P4 → Q4 := by exact gy_t) (c5 : P5 → Q5 := by exact gy_t) (c6 : P6 → Q6 := by exact gy_t) (c7 : P7 → Q7 := by exact gy_t) (c8 : P8 → Q8 := by exact gy_t) (c9 : P9 → Q9 := by exact gy_t) : G := k (c0 x0) (c1 x1) (c2 x2) (c3 x3) (c4 x4) (c5 x5) (c6 x6) (c7 x7) (c8 x8) (c9 x9)
theorem gy12 {P0 Q0 P1 Q1 P2 Q2 P3 Q3 P4 Q4 P5 Q5 P6 Q6 P7 Q7 P8 Q8 P9 Q9 P10 Q10 P11 Q11 G : Prop} (x0 : Hid P0) (x1 : Hid P1) (x2 : Hid P2) (x3 : Hid P3) (x4 : Hid P4) (x5 : Hid P5) (x6 : Hid P6) (x7 : Hid P7) (x8 : Hid P8) (x9 : Hid P9) (x10 : Hid P10) (x11 : Hid P11) (k : Hid Q0 → Hid Q1 → Hid Q2 → Hid Q3 → Hid Q4 → Hid Q5 → Hid Q6 → Hid Q7 → Hid Q8 → Hid Q9 → Hid Q10 → Hid Q11 → G) (c0 : P0 → Q0 := by exact gy_t) (c1 : P1 → Q1 := by exact gy_t) (c2 : P2 → Q2 := by exact gy_t) (c3 : P3 → Q3 := by exact gy_t) (c4 : P4 → Q4 := by exact gy_t) (c5 : P5 → Q5 := by exact gy_t) (c6 : P6 → Q6 := by exact gy_t) (c7 : P7 → Q7 := by exact gy_t) (c8 : P8 → Q8 := by exact gy_t) (c9 : P9 → Q9 := by exact gy_t) (c10 : P10 → Q10 := by exact gy_t) (c11 : P11 → Q11 := by exact gy_t) : G := k (c0 x0) (c1 x1) (c2 x2) (c3 x3) (c4 x4) (c5 x5) (c6 x6) (c7 x7) (c8 x8) (c9 x9) (c10 x10) (c11 x11)
theorem cx_t {P Q : Prop} (h : P → Q := by exact fun x => InX.keep x (KeepX.below hb) hm2) : P → Q := h
theorem cx2 {P0 Q0 P1 Q1 G : Prop} (x0 : Hid P0) (x1 : Hid P1) (k : Hid Q0 → Hid Q1 → G) (c0 : P0 → Q0 := by exact cx_t) (c1 : P1 → Q1 := by exact cx_t) : G := k (c0 x0) (c1 x1)
theorem cx4 {P0 Q0 P1 Q1 P2 Q2 P3 Q3 G : Prop} (x0 : Hid P0) (x1 : Hid P1) (x2 : Hid P2) (x3 : Hid P3) (k : Hid Q0 → Hid Q1 → Hid Q2 → Hid Q3 → G) (c0 : P0 → Q0 := by exact cx_t) (c1 : P1 → Q1 := by exact cx_t) (c2 : P2 → Q2 := by exact cx_t) (c3 : P3 → Q3 := by exact cx_t) : G := k (c0 x0) (c1 x1) (c2 x2) (c3 x3)
theorem gx_t {P Q : Prop} (h : P → Q := by exact fun x => InX.keep x (KeepX.grown hg (fun z hz => by cases hz; exact HW.out.inL (by simp))) (MoreX.refl _ _)) : P → Q := h
theorem gx2 {P0 Q0 P1 Q1 G : Prop} (x0 : Hid P0) (x1 : Hid P1) (k : Hid Q0 → Hid Q1 → G) (c0 : P0 → Q0 := by exact gx_t) (c1 : P1 → Q1 := by exact gx_t) : G := k (c0 x0) (c1 x1)
theorem gx4 {P0 Q0 P1 Q1 P2 Q2 P3 Q3 G : Prop} (x0 : Hid P0) (x1 : Hid P1) (x2 : Hid P2) (x3 : Hid P3) (k : Hid Q0 → Hid Q1 → Hid Q2 → Hid Q3 → G) (c0 : P0 → Q0 := by exact gx_t) (c1 : P1 → Q1 := by exact gx_t) (c2 : P2 → Q2 := by exact gx_t) (c3 : P3 → Q3 := by exact gx_t) : G := k (c0 x0) (c1 x1) (c2 x2) (c3 x3)
theorem l_a {α : Type} (l : List α) (i : Nat) : l.toArray[i]? = l[i]? := List.getElem?_toArray ..
theorem l_b {α : Type} (x : α) (l : List α) (i : Nat) : (x :: l)[i + 1]? = l[i]? := List.getElem?_cons_succ ..
theorem l_c {α : Type} (x : α) (l : List α) : (x :: l)[0]? = some x := List.getElem?_cons_zero ..
theorem op_al {P : Program} {o : Oper} {a : Act} {w : World} {K : Act → World → Prop} {Q : Exit → Act → World → Prop} (cs : Array Value) (t : TypeId) (k : ∀ (b : Nat) (w' : World), Hid (Blk w' b t cs) → Below w.heap.size w w' → w.heap.size ≤ b ∧ b < w'.heap.size → K (a.put o.dst (.pointer (some ⟨b, 0, none⟩))) w') (h : (execOp a.eval o).run P w = .ok (.value (.pointer (some ⟨w.heap.size, 0, none⟩))) (w.alloc (.cells cs t)) := by (go_simp; try rfl)) : o.wp P a w K Q := op_alloc h k
theorem a_t {a a' : Act} (h : a = a' := by first | ((simp only [Act.put, p_a, p_b, p_c]) <;> rfl) | rfl) : a = a' := h
theorem sh {T K : Act → World → Prop} {a a' : Act} {w : World} (hK : Shut (∀ a w, T a w → K a w)) (k : T a' w) (e : a = a' := by exact a_t) : K a w := by subst e; exact hK.out _ _ k
theorem sr {T K : Act → World → Prop} {R : World → World → Prop} {a a' : Act} {w w' : World} (hK : Shut (∀ a w', R w w' → T a w' → K a w')) (k : T a' w') (r : R w w' := by first | exact hb | exact Below.refl _ _ | exact hb.mono (by have q := HN.out; omega)) (e : a = a' := by exact a_t) : K a w' := by subst e; exact hK.out _ _ r k
theorem ce_t {P : Prop} (h : P := by first | exact fun u q => q | exact fun u q => (keepL_cell hw' (by simp)).trans q | exact fun u q => (hw'.cell (cell_lt q)).trans q | exact fun u q => (HB.out.cell (cell_lt q)).trans q) : P := h
theorem aj {a b : Prop} (x : a) (y : b) : a ∧ b := ⟨x, y⟩
theorem k_t {P : Program} {o : Oper} {a : Act} {w : World} {f : Nat} {args : Array Value} {Q : Exit → Act → World → Prop} (h : ∀ K : Act → World → Prop, Calls P f args w (fun e w' => ∃ v, e = .returned v ∧ K (a.put o.dst v) w') → o.wp P a w K Q := by (intro K h; go_simp; refine h.mono ?_; rintro e w' ⟨v, rfl, h⟩; go_simp; exact h)) : ∀ K : Act → World → Prop, Calls P f args w (fun e w' => ∃ v, e = .returned v ∧ K (a.put o.dst v) w') → o.wp P a w K Q := h
theorem n_t {P : Program} {ty : TypeId} {n : Nat} (h : (P.info? ty).map (·.size) = some n := by first | exact info_mm | exact info_wld | exact info_tt | exact info_cm | exact info_wt | exact info_wi | exact info_frc | exact info_wld2 | exact info_wd) : (P.info? ty).map (·.size) = some n := h
theorem e_t {cells : Array Value} (h : cells.all (·.oneCell') = true := by first | exact one_mm _ _ _ _ _ _ _ _ _ _ _ | exact one_wld HW.out | exact one_tt _ _ _ | exact one_cm _ _ _ _ _ _ _ _ _ _ _ _ _ _ _ _ _ | exact one_wt _ _ _ _ | exact one_wi _ _ _ _ _ | exact one_frc _ _ _ _ | exact one_wld HW3) : cells.all (·.oneCell') = true := h
theorem op_rw {P : Program} {o : Oper} {a : Act} {w : World} {K : Act → World → Prop} {Q : Exit → Act → World → Prop} {b : Nat} {t ty : TypeId} {old : Array Value} {x y : Operand} (g : Hid (Blk w b t old)) (cells : Array Value) (k : ∀ w' : World, Hid (Blk w b t old) → Hid (Blk w' b t cells) → w.grownBy w' (some b) → w'.heap.size = w.heap.size → K (a.put o.dst undef) w') (ho : o.op = .store ty x y := by rfl) (hx : a.eval x = .pointer (some ⟨b, 0, none⟩) := by rfl) (hy : a.eval y = .agg cells := by rfl)
    (hi : (P.info? ty).map (·.size) = some cells.size := by exact n_t) (hold : old.size = cells.size := by rfl) (h1 : cells.all (·.oneCell') = true := by exact e_t) : o.wp P a w K Q := op_row ty x y ho b cells old t hx hy g.out hi hold h1 (fun w' n => k w' g n)
theorem ce6 {w w' : World} {g o : Nat} {v0 v1 v2 v3 v4 v5 : Value} (h : ∀ n u, #[v0, v1, v2, v3, v4, v5][n]? = some u → w.cell? ⟨g, o + n, none⟩ = some u) (c : ∀ {n} u, w.cell? ⟨g, n, none⟩ = some u → w'.cell? ⟨g, n, none⟩ = some u := by exact ce_t) : w'.cell? ⟨g, o, none⟩ = some v0 ∧ w'.cell? ⟨g, o + 1, none⟩ = some v1 ∧ w'.cell? ⟨g, o + 2, none⟩ = some v2 ∧ w'.cell? ⟨g, o + 3, none⟩ = some v3 ∧ w'.cell? ⟨g, o + 4, none⟩ = some v4 ∧ w'.cell? ⟨g, o + 5, none⟩ = some v5 := ⟨c _ (h 0 _ rfl), c _ (h 1 _ rfl), c _ (h 2 _ rfl), c _ (h 3 _ rfl), c _ (h 4 _ rfl), c _ (h 5 _ rfl)⟩
theorem ce7 {w w' : World} {g o : Nat} {v0 v1 v2 v3 v4 v5 v6 : Value} (h : ∀ n u, #[v0, v1, v2, v3, v4, v5, v6][n]? = some u → w.cell? ⟨g, o + n, none⟩ = some u) (c : ∀ {n} u, w.cell? ⟨g, n, none⟩ = some u → w'.cell? ⟨g, n, none⟩ = some u := by exact ce_t) : w'.cell? ⟨g, o, none⟩ = some v0 ∧ w'.cell? ⟨g, o + 1, none⟩ = some v1 ∧ w'.cell? ⟨g, o + 2, none⟩ = some v2 ∧ w'.cell? ⟨g, o + 3, none⟩ = some v3 ∧ w'.cell? ⟨g, o + 4, none⟩ = some v4 ∧ w'.cell? ⟨g, o + 5, none⟩ = some v5 ∧ w'.cell? ⟨g, o + 6, none⟩ = some v6 := ⟨c _ (h 0 _ rfl), c _ (h 1 _ rfl), c _ (h 2 _ rfl), c _ (h 3 _ rfl), c _ (h 4 _ rfl), c _ (h 5 _ rfl), c _ (h 6 _ rfl)⟩
theorem ce13 {w w' : World} {g o : Nat} {v0 v1 v2 v3 v4 v5 v6 v7 v8 v9 v10 v11 v12 : Value} (h : ∀ n u, #[v0, v1, v2, v3, v4, v5, v6, v7, v8, v9, v10, v11, v12][n]? = some u → w.cell? ⟨g, o + n, none⟩ = some u) (c : ∀ {n} u, w.cell? ⟨g, n, none⟩ = some u → w'.cell? ⟨g, n, none⟩ = some u := by exact ce_t) : w'.cell? ⟨g, o, none⟩ = some v0 ∧ w'.cell? ⟨g, o + 1, none⟩ = some v1 ∧ w'.cell? ⟨g, o + 2, none⟩ = some v2 ∧ w'.cell? ⟨g, o + 3, none⟩ = some v3 ∧ w'.cell? ⟨g, o + 4, none⟩ = some v4 ∧ w'.cell? ⟨g, o + 5, none⟩ = some v5 ∧ w'.cell? ⟨g, o + 6, none⟩ = some v6 ∧ w'.cell? ⟨g, o + 7, none⟩ = some v7 ∧ w'.cell? ⟨g, o + 8, none⟩ = some v8 ∧ w'.cell? ⟨g, o + 9, none⟩ = some v9 ∧ w'.cell? ⟨g, o + 10, none⟩ = some v10 ∧ w'.cell? ⟨g, o + 11, none⟩ = some v11 ∧ w'.cell? ⟨g, o + 12, none⟩ = some v12 := ⟨c _ (h 0 _ rfl), c _ (h 1 _ rfl), c _ (h 2 _ rfl), c _ (h 3 _ rfl), c _ (h 4 _ rfl), c _ (h 5 _ rfl), c _ (h 6 _ rfl), c _ (h 7 _ rfl), c _ (h 8 _ rfl), c _ (h 9 _ rfl), c _ (h 10 _ rfl), c _ (h 11 _ rfl), c _ (h 12 _ rfl)⟩
theorem hd3 {P0 P1 P2 : Prop} (h0 : P0) (h1 : P1) (h2 : P2) : Hid P0 ∧ Hid P1 ∧ Hid P2 := ⟨h0, h1, h2⟩
theorem hd4 {P0 P1 P2 P3 : Prop} (h0 : P0) (h1 : P1) (h2 : P2) (h3 : P3) : Hid P0 ∧ Hid P1 ∧ Hid P2 ∧ Hid P3 := ⟨h0, h1, h2, h3⟩
theorem hd5 {P0 P1 P2 P3 P4 : Prop} (h0 : P0) (h1 : P1) (h2 : P2) (h3 : P3) (h4 : P4) : Hid P0 ∧ Hid P1 ∧ Hid P2 ∧ Hid P3 ∧ Hid P4 := ⟨h0, h1, h2, h3, h4⟩
theorem hd6 {P0 P1 P2 P3 P4 P5 : Prop} (h0 : P0) (h1 : P1) (h2 : P2) (h3 : P3) (h4 : P4) (h5 : P5) : Hid P0 ∧ Hid P1 ∧ Hid P2 ∧ Hid P3 ∧ Hid P4 ∧ Hid P5 := ⟨h0, h1, h2, h3, h4, h5⟩
theorem hd8 {P0 P1 P2 P3 P4 P5 P6 P7 : Prop} (h0 : P0) (h1 : P1) (h2 : P2) (h3 : P3) (h4 : P4) (h5 : P5) (h6 : P6) (h7 : P7) : Hid P0 ∧ Hid P1 ∧ Hid P2 ∧ Hid P3 ∧ Hid P4 ∧ Hid P5 ∧ Hid P6 ∧ Hid P7 := ⟨h0, h1, h2, h3, h4, h5, h6, h7⟩
section
variable {P : Program} {ops : Array Oper} {Q : Exit → Act → World → Prop} {md : Region.Mode} {R : World → World → Prop} {w : World} {fuel : Nat} {listed : Array Bool}
theorem r_g {a : Act} (R : World → World → Prop) {id : Nat} (h : ∀ w', Below w.heap.size w w' → w'.heap.size = w.heap.size → WR P .any ops Q R ops.size (Array.replicate ops.size false) a w') (hm : P.follows .mixedOrders = true := by kernel_rfl) : (Code.region id ops true).wp P Q a w := r_i R (h w.drew (Below.refl _ _).drew rfl) hm
theorem w_a {a : Act} {a' : Nat → Act} {rest : List Oper} {o : Oper} (cs : Array Value) (t : TypeId) (k : ∀ (b : Nat) (w' : World), Hid (Blk w' b t cs) → Below w.heap.size w w' → w.heap.size ≤ b ∧ b < w'.heap.size → WL P ops Q rest (a' b) w') (hg : Region.wanted o (yielded ops a.tmps) = true := by rfl) (h : (execOp a.eval o).run P w = .ok (.value (.pointer (some ⟨w.heap.size, 0, none⟩))) (w.alloc (.cells cs t)) := by (go_simp; try rfl)) (e : ∀ b, a.put o.dst (.pointer (some ⟨b, 0, none⟩)) = a' b := by (intro b; exact a_t)) : WL P ops Q (o :: rest) a w := w_1 (fun _ hK => op_alloc h (fun b w' x y z => hK.out _ _ (e b ▸ k b w' x y z))) hg
theorem w_k {a : Act} {o : Oper} {rest : List Oper} {f : Nat} {args : Array Value} {post : Ending → World → Prop} (hc : Calls P f args w post) (k : ∀ e w', post e w' → ∃ v, e = .returned v ∧ WL P ops Q rest (a.put o.dst v) w') (hg : Region.wanted o (yielded ops a.tmps) = true := by rfl) (h : ∀ K : Act → World → Prop, Calls P f args w (fun e w' => ∃ v, e = .returned v ∧ K (a.put o.dst v) w') → o.wp P a w K Q := by exact k_t) : WL P ops Q (o :: rest) a w := w_1 (fun K hK => h K (hc.mono fun e w' q => by obtain ⟨v, e, r⟩ := k e w' q; exact ⟨v, e, hK.out _ _ r⟩)) hg
theorem s_k {a a' : Act} {rest : List Oper} {d : Option Nat} {v : Value} (k : WL P ops Q rest a' w) (e : a.put d v = a' := by exact a_t) : ∃ v', Ending.returned v = .returned v' ∧ WL P ops Q rest (a.put d v') w := ⟨v, rfl, e ▸ k⟩
theorem r_k {a : Act} {o : Oper} {f : Nat} {args : Array Value} {post : Ending → World → Prop} (i : Nat) (hc : Calls P f args w post) (k : ∀ e w', post e w' → ∃ v, e = .returned v ∧ R w w' ∧ WR P md ops Q R fuel (listed.setIfInBounds i true) (a.put o.dst v) w') (hr : Region.ready md ops listed = [i] := by kernel_rfl) (ho : ops[i]? = some o := by exact o_t) (hg : Region.wanted o (yielded ops a.tmps) = true := by rfl)
    (h : ∀ K : Act → World → Prop, Calls P f args w (fun e w' => ∃ v, e = .returned v ∧ K (a.put o.dst v) w') → o.wp P a w K Q := by exact k_t) : WR P md ops Q R (fuel + 1) listed a w := r_1 i (fun K hK => h K (hc.mono fun e w' q => by obtain ⟨v, e, r, s⟩ := k e w' q; exact ⟨v, e, hK.out _ _ r s⟩)) hr ho hg
theorem s_r {a a' : Act} {d : Option Nat} {v : Value} {w' : World} (k : WR P md ops Q R fuel listed a' w') (r : R w w' := by first | exact hb | exact Below.refl _ _ | exact hb.mono (by have q := HN.out; omega)) (e : a.put d v = a' := by exact a_t) : ∃ v', Ending.returned v = .returned v' ∧ R w w' ∧ WR P md ops Q R fuel listed (a.put d v') w' := ⟨v, rfl, r, e ▸ k⟩
theorem w_s {a a' : Act} {rest : List Oper} {o : Oper} {b : Nat} {t ty : TypeId} {old : Array Value} {x y : Operand} (g : Hid (Blk w b t old)) (cells : Array Value) (k : ∀ w' : World, Hid (Blk w b t old) → Hid (Blk w' b t cells) → w.grownBy w' (some b) → w'.heap.size = w.heap.size → WL P ops Q rest a' w') (hg : Region.wanted o (yielded ops a.tmps) = true := by rfl) (ho : o.op = .store ty x y := by rfl) (hx : a.eval x = .pointer (some ⟨b, 0, none⟩) := by rfl) (hy : a.eval y = .agg cells := by rfl)
    (hi : (P.info? ty).map (·.size) = some cells.size := by exact n_t) (hold : old.size = cells.size := by rfl) (h1 : cells.all (·.oneCell') = true := by exact e_t) (e : a.put o.dst undef = a' := by exact a_t) : WL P ops Q (o :: rest) a w := w_1 (fun _ hK => op_rw g cells (fun w' m n p q => hK.out _ _ (e ▸ k w' m n p q)) ho hx hy hi hold h1) hg
theorem o_t {o : Oper} {i : Nat} (h : ops[i]? = some o := by (simp only [List.getElem?_toArray, List.getElem?_cons_succ, List.getElem?_cons_zero] <;> rfl)) : ops[i]? = some o := h
theorem u_t {cs : Array Value} {u : Value} {i : Nat} (h : cs[i]? = some u := by (simp only [List.getElem?_toArray, List.getElem?_cons_succ, List.getElem?_cons_zero] <;> rfl)) : cs[i]? = some u := h
theorem p_t (h : Pre R := by (first | exact laterPre | exact belowPre _ | exact keepLPre _ | exact keepCPre _)) : Pre R := h
theorem b_t {w w1 : World} {b : Nat} {t : TypeId} {cs : Array Value} (c : Blk w1 b t cs → ∀ w', R w w' → Blk w' b t cs := by first | exact fun x w' hw' => x.below hw' | exact fun x w' hw' => Blk.below0 x hw' (by have q := HN.out; omega) | exact fun x w' hw' => Blk.keepL x hw' (by simp)) : Blk w1 b t cs → ∀ w', R w w' → Blk w' b t cs := c
theorem w_b {a a' : Act} {w1 : World} {rest : List Oper} {o : Oper} {v u : Value} {b : Nat} {t : TypeId} {cs : Array Value} (x : Hid (Blk w1 b t cs)) (j : Nat) (k : WL P ops Q rest a' w) (c : Blk w1 b t cs → Blk w b t cs := by exact fun x => x) (e : cs[j]? = some u := by exact u_t) (hg : Region.wanted o (yielded ops a.tmps) = true := by rfl) (h : w.cell? ⟨b, j, none⟩ = some u → (execOp a.eval o).run P w = .ok (.value v) w := by (intro x; go_simp; all_goals rfl))
    (ha : a.put o.dst v = a' := by exact a_t) : WL P ops Q (o :: rest) a w := w_t (h (((c x).cell j).trans e)) k hg ha
theorem r_b {a a' : Act} {w1 : World} {o : Oper} {v u : Value} {b : Nat} {t : TypeId} {cs : Array Value} (i : Nat) (x : Hid (Blk w1 b t cs)) (j : Nat) (k : WR P md ops Q R fuel (listed.setIfInBounds i true) a' w) (c : Blk w1 b t cs → ∀ w', R w w' → Blk w' b t cs := by exact b_t) (e : cs[j]? = some u := by exact u_t) (hc : frB md ops listed i = true := by kernel_rfl) (ho : ops[i]? = some o := by exact o_t) (hg : Region.wanted o (yielded ops a.tmps) = true := by rfl)
    (h : ∀ w', w'.cell? ⟨b, j, none⟩ = some u → (execOp a.eval o).run P w' = .ok (.value v) w' := by (intro w' x; go_simp; all_goals rfl)) (hP : Pre R := by exact p_t) (hQ : ∀ c a w, Q (.panic c) (a.put o.dst v) w → Q (.panic c) a w := by exact fun _ _ _ h => h) (ha : a.put o.dst v = a' := by exact a_t) : WR P md ops Q R (fuel + 1) listed a w :=
  r_t i (fun w' hw' => h w' (((c x w' hw').cell j).trans e)) k hc ho hg hP hQ ha
theorem w_c {a a' : Act} {w1 : World} {rest : List Oper} {o : Oper} {v : Value} {b : Nat} {t : TypeId} {cs : Array Value} (x : Hid (Blk w1 b t cs)) (k : WL P ops Q rest a' w) (c : Blk w1 b t cs → Blk w b t cs := by exact fun x => x) (hg : Region.wanted o (yielded ops a.tmps) = true := by rfl)
    (h : Blk w b t cs → (execOp a.eval o).run P w = .ok (.value v) w := by (intro x; (first | (have x := x.c13) | (have x := x.c10) | (have x := x.c7) | (have x := x.c6) | (have x := x.c4) | (have x := x.c3) | (have x := x.c2)); go_simp; all_goals rfl)) (ha : a.put o.dst v = a' := by exact a_t) : WL P ops Q (o :: rest) a w := w_t (h (c x)) k hg ha
theorem r_q2 {a0 a1 a2 : Act} {o0 o1 : Oper} {v0 v1 : Value} (i0 i1 : Nat) (k : WR P md ops Q R fuel ((listed.setIfInBounds i0 true).setIfInBounds i1 true) a2 w) (hc0 : frB md ops listed i0 = true := by kernel_rfl) (ho0 : ops[i0]? = some o0 := by exact o_t) (hg0 : Region.wanted o0 (yielded ops a0.tmps) = true := by rfl) (h0 : ∀ w', R w w' → (execOp a0.eval o0).run P w' = .ok (.value v0) w' := by (intro w' hw'; go_simp; all_goals rfl)) (hP0 : Pre R := by exact p_t) (hQ0 : ∀ c a w, Q (.panic c) (a.put o0.dst v0) w → Q (.panic c) a w := by exact fun _ _ _ h => h) (ha0 : a0.put o0.dst v0 = a1 := by exact a_t) (hc1 : frB md ops (listed.setIfInBounds i0 true) i1 = true := by kernel_rfl) (ho1 : ops[i1]? = some o1 := by exact o_t) (hg1 : Region.wanted o1 (yielded ops a1.tmps) = true := by rfl) (h1 : ∀ w', R w w' → (execOp a1.eval o1).run P w' = .ok (.value v1) w' := by (intro w' hw'; go_simp; all_goals rfl)) (hP1 : Pre R := by exact p_t) (hQ1 : ∀ c a w, Q (.panic c) (a.put o1.dst v1) w → Q (.panic c) a w := by exact fun _ _ _ h => h) (ha1 : a1.put o1.dst v1 = a2 := by exact a_t) : WR P md ops Q R (fuel + 2) listed a0 w := r_q i0 (r_q i1 (k) hc1 ho1 hg1 h1 hP1 hQ1 ha1) hc0 ho0 hg0 h0 hP0 hQ0 ha0
theorem r_q3 {a0 a1 a2 a3 : Act} {o0 o1 o2 : Oper} {v0 v1 v2 : Value} (i0 i1 i2 : Nat) (k : WR P md ops Q R fuel (((listed.setIfInBounds i0 true).setIfInBounds i1 true).setIfInBounds i2 true) a3 w) (hc0 : frB md ops listed i0 = true := by kernel_rfl) (ho0 : ops[i0]? = some o0 := by exact o_t) (hg0 : Region.wanted o0 (yielded ops a0.tmps) = true := by rfl) (h0 : ∀ w', R w w' → (execOp a0.eval o0).run P w' = .ok (.value v0) w' := by (intro w' hw'; go_simp; all_goals rfl)) (hP0 : Pre R := by exact p_t) (hQ0 : ∀ c a w, Q (.panic c) (a.put o0.dst v0) w → Q (.panic c) a w := by exact fun _ _ _ h => h) (ha0 : a0.put o0.dst v0 = a1 := by exact a_t) (hc1 : frB md ops (listed.setIfInBounds i0 true) i1 = true := by kernel_rfl) (ho1 : ops[i1]? = some o1 := by exact o_t) (hg1 : Region.wanted o1 (yielded ops a1.tmps) = true := by rfl) (h1 : ∀ w', R w w' → (execOp a1.eval o1).run P w' = .ok (.value v1) w' := by (intro w' hw'; go_simp; all_goals rfl)) (hP1 : Pre R := by exact p_t) (hQ1 : ∀ c a w, Q (.panic c) (a.put o1.dst v1) w → Q (.panic c) a w := by exact fun _ _ _ h => h) (ha1 : a1.put o1.dst v1 = a2 := by exact a_t) (hc2 : frB md ops ((listed.setIfInBounds i0 true).setIfInBounds i1 true) i2 = true := by kernel_rfl) (ho2 : ops[i2]? = some o2 := by exact o_t) (hg2 : Region.wanted o2 (yielded ops a2.tmps) = true := by rfl) (h2 : ∀ w', R w w' → (execOp a2.eval o2).run P w' = .ok (.value v2) w' := by (intro w' hw'; go_simp; all_goals rfl)) (hP2 : Pre R := by exact p_t) (hQ2 : ∀ c a w, Q (.panic c) (a.put o2.dst v2) w → Q (.panic c) a w := by exact fun _ _ _ h => h) (ha2 : a2.put o2.dst v2 = a3 := by exact a_t) : WR P md ops Q R (fuel + 3) listed a0 w := r_q i0 (r_q i1 (r_q i2 (k) hc2 ho2 hg2 h2 hP2 hQ2 ha2) hc1 ho1 hg1 h1 hP1 hQ1 ha1) hc0 ho0 hg0 h0 hP0 hQ0 ha0
theorem r_q4 {a0 a1 a2 a3 a4 : Act} {o0 o1 o2 o3 : Oper} {v0 v1 v2 v3 : Value} (i0 i1 i2 i3 : Nat) (k : WR P md ops Q R fuel ((((listed.setIfInBounds i0 true).setIfInBounds i1 true).setIfInBounds i2 true).setIfInBounds i3 true) a4 w) (hc0 : frB md ops listed i0 = true := by kernel_rfl) (ho0 : ops[i0]? = some o0 := by exact o_t) (hg0 : Region.wanted o0 (yielded ops a0.tmps) = true := by rfl) (h0 : ∀ w', R w w' → (execOp a0.eval o0).run P w' = .ok (.value v0) w' := by (intro w' hw'; go_simp; all_goals rfl)) (hP0 : Pre R := by exact p_t) (hQ0 : ∀ c a w, Q (.panic c) (a.put o0.dst v0) w → Q (.panic c) a w := by exact fun _ _ _ h => h) (ha0 : a0.put o0.dst v0 = a1 := by exact a_t) (hc1 : frB md ops (listed.setIfInBounds i0 true) i1 = true := by kernel_rfl) (ho1 : ops[i1]? = some o1 := by exact o_t) (hg1 : Region.wanted o1 (yielded ops a1.tmps) = true := by rfl) (h1 : ∀ w', R w w' → (execOp a1.eval o1).run P w' = .ok (.value v1) w' := by (intro w' hw'; go_simp; all_goals rfl)) (hP1 : Pre R := by exact p_t) (hQ1 : ∀ c a w, Q (.panic c) (a.put o1.dst v1) w → Q (.panic c) a w := by exact fun _ _ _ h => h) (ha1 : a1.put o1.dst v1 = a2 := by exact a_t) (hc2 : frB md ops ((listed.setIfInBounds i0 true).setIfInBounds i1 true) i2 = true := by kernel_rfl) (ho2 : ops[i2]? = some o2 := by exact o_t) (hg2 : Region.wanted o2 (yielded ops a2.tmps) = true := by rfl) (h2 : ∀ w', R w w' → (execOp a2.eval o2).run P w' = .ok (.value v2) w' := by (intro w' hw'; go_simp; all_goals rfl)) (hP2 : Pre R := by exact p_t) (hQ2 : ∀ c a w, Q (.panic c) (a.put o2.dst v2) w → Q (.panic c) a w := by exact fun _ _ _ h => h) (ha2 : a2.put o2.dst v2 = a3 := by exact a_t) (hc3 : frB md ops (((listed.setIfInBounds i0 true).setIfInBounds i1 true).setIfInBounds i2 true) i3 = true := by kernel_rfl) (ho3 : ops[i3]? = some o3 := by exact o_t) (hg3 : Region.wanted o3 (yielded ops a3.tmps) = true := by rfl) (h3 : ∀ w', R w w' → (execOp a3.eval o3).run P w' = .ok (.value v3) w' := by (intro w' hw'; go_simp; all_goals rfl)) (hP3 : Pre R := by exact p_t) (hQ3 : ∀ c a w, Q (.panic c) (a.put o3.dst v3) w → Q (.panic c) a w := by exact fun _ _ _ h => h) (ha3 : a3.put o3.dst v3 = a4 := by exact a_t) : WR P md ops Q R (fuel + 4) listed a0 w := r_q i0 (r_q i1 (r_q i2 (r_q i3 (k) hc3 ho3 hg3 h3 hP3 hQ3 ha3) hc2 ho2 hg2 h2 hP2 hQ2 ha2) hc1 ho1 hg1 h1 hP1 hQ1 ha1) hc0 ho0 hg0 h0 hP0 hQ0 ha0
theorem r_n2 {a0 a1 a2 : Act} {o0 o1 : Oper} (i0 i1 : Nat) (k : WR P md ops Q R fuel ((listed.setIfInBounds i0 true).setIfInBounds i1 true) a2 w) (hc0 : frB md ops listed i0 = true := by kernel_rfl) (ho0 : ops[i0]? = some o0 := by exact o_t) (hg0 : Region.wanted o0 (yielded ops a0.tmps) = false := by rfl) (hP0 : Pre R := by exact p_t) (hQ0 : ∀ c a w, Q (.panic c) (a.put o0.dst undef) w → Q (.panic c) a w := by exact fun _ _ _ h => h) (ha0 : a0.put o0.dst undef = a1 := by exact a_t) (hc1 : frB md ops (listed.setIfInBounds i0 true) i1 = true := by kernel_rfl) (ho1 : ops[i1]? = some o1 := by exact o_t) (hg1 : Region.wanted o1 (yielded ops a1.tmps) = false := by rfl) (hP1 : Pre R := by exact p_t) (hQ1 : ∀ c a w, Q (.panic c) (a.put o1.dst undef) w → Q (.panic c) a w := by exact fun _ _ _ h => h) (ha1 : a1.put o1.dst undef = a2 := by exact a_t) : WR P md ops Q R (fuel + 2) listed a0 w := r_n i0 (r_n i1 (k) hc1 ho1 hg1 hP1 hQ1 ha1) hc0 ho0 hg0 hP0 hQ0 ha0
theorem r_n3 {a0 a1 a2 a3 : Act} {o0 o1 o2 : Oper} (i0 i1 i2 : Nat) (k : WR P md ops Q R fuel (((listed.setIfInBounds i0 true).setIfInBounds i1 true).setIfInBounds i2 true) a3 w) (hc0 : frB md ops listed i0 = true := by kernel_rfl) (ho0 : ops[i0]? = some o0 := by exact o_t) (hg0 : Region.wanted o0 (yielded ops a0.tmps) = false := by rfl) (hP0 : Pre R := by exact p_t) (hQ0 : ∀ c a w, Q (.panic c) (a.put o0.dst undef) w → Q (.panic c) a w := by exact fun _ _ _ h => h) (ha0 : a0.put o0.dst undef = a1 := by exact a_t) (hc1 : frB md ops (listed.setIfInBounds i0 true) i1 = true := by kernel_rfl) (ho1 : ops[i1]? = some o1 := by exact o_t) (hg1 : Region.wanted o1 (yielded ops a1.tmps) = false := by rfl) (hP1 : Pre R := by exact p_t) (hQ1 : ∀ c a w, Q (.panic c) (a.put o1.dst undef) w → Q (.panic c) a w := by exact fun _ _ _ h => h) (ha1 : a1.put o1.dst undef = a2 := by exact a_t) (hc2 : frB md ops ((listed.setIfInBounds i0 true).setIfInBounds i1 true) i2 = true := by kernel_rfl) (ho2 : ops[i2]? = some o2 := by exact o_t) (hg2 : Region.wanted o2 (yielded ops a2.tmps) = false := by rfl) (hP2 : Pre R := by exact p_t) (hQ2 : ∀ c a w, Q (.panic c) (a.put o2.dst undef) w → Q (.panic c) a w := by exact fun _ _ _ h => h) (ha2 : a2.put o2.dst undef = a3 := by exact a_t) : WR P md ops Q R (fuel + 3) listed a0 w := r_n i0 (r_n i1 (r_n i2 (k) hc2 ho2 hg2 hP2 hQ2 ha2) hc1 ho1 hg1 hP1 hQ1 ha1) hc0 ho0 hg0 hP0 hQ0 ha0
theorem r_n4 {a0 a1 a2 a3 a4 : Act} {o0 o1 o2 o3 : Oper} (i0 i1 i2 i3 : Nat) (k : WR P md ops Q R fuel ((((listed.setIfInBounds i0 true).setIfInBounds i1 true).setIfInBounds i2 true).setIfInBounds i3 true) a4 w) (hc0 : frB md ops listed i0 = true := by kernel_rfl) (ho0 : ops[i0]? = some o0 := by exact o_t) (hg0 : Region.wanted o0 (yielded ops a0.tmps) = false := by rfl) (hP0 : Pre R := by exact p_t) (hQ0 : ∀ c a w, Q (.panic c) (a.put o0.dst undef) w → Q (.panic c) a w := by exact fun _ _ _ h => h) (ha0 : a0.put o0.dst undef = a1 := by exact a_t) (hc1 : frB md ops (listed.setIfInBounds i0 true) i1 = true := by kernel_rfl) (ho1 : ops[i1]? = some o1 := by exact o_t) (hg1 : Region.wanted o1 (yielded ops a1.tmps) = false := by rfl) (hP1 : Pre R := by exact p_t) (hQ1 : ∀ c a w, Q (.panic c) (a.put o1.dst undef) w → Q (.panic c) a w := by exact fun _ _ _ h => h) (ha1 : a1.put o1.dst undef = a2 := by exact a_t) (hc2 : frB md ops ((listed.setIfInBounds i0 true).setIfInBounds i1 true) i2 = true := by kernel_rfl) (ho2 : ops[i2]? = some o2 := by exact o_t) (hg2 : Region.wanted o2 (yielded ops a2.tmps) = false := by rfl) (hP2 : Pre R := by exact p_t) (hQ2 : ∀ c a w, Q (.panic c) (a.put o2.dst undef) w → Q (.panic c) a w := by exact fun _ _ _ h => h) (ha2 : a2.put o2.dst undef = a3 := by exact a_t) (hc3 : frB md ops (((listed.setIfInBounds i0 true).setIfInBounds i1 true).setIfInBounds i2 true) i3 = true := by kernel_rfl) (ho3 : ops[i3]? = some o3 := by exact o_t) (hg3 : Region.wanted o3 (yielded ops a3.tmps) = false := by rfl) (hP3 : Pre R := by exact p_t) (hQ3 : ∀ c a w, Q (.panic c) (a.put o3.dst undef) w → Q (.panic c) a w := by exact fun _ _ _ h => h) (ha3 : a3.put o3.dst undef = a4 := by exact a_t) : WR P md ops Q R (fuel + 4) listed a0 w := r_n i0 (r_n i1 (r_n i2 (r_n i3 (k) hc3 ho3 hg3 hP3 hQ3 ha3) hc2 ho2 hg2 hP2 hQ2 ha2) hc1 ho1 hg1 hP1 hQ1 ha1) hc0 ho0 hg0 hP0 hQ0 ha0
end
end Go.Proofs.YtdfpeaenbmgihaaGreat
/-
  Rows whose elements are told by a relation over their cells. No Go function in it.
-/
namespace Go.Proofs.YtdfpeaenbmgihaaGreat
open Go.RowKit
def ListR {α : Type} (R : α → List Value → Prop) : List α → List Value → Prop
  | [], cs => cs = []
  | a :: l, cs => ∃ c cs', cs = c ++ cs' ∧ R a c ∧ ListR R l cs'
section
variable {α : Type} {R R' : α → List Value → Prop} {n : Nat}
theorem ListR.mono (h : ∀ a c, R a c → R' a c) : ∀ {l : List α} {cs : List Value}, ListR R l cs → ListR R' l cs | [], _, q => q | _ :: _, _, ⟨c, cs', e, q1, q2⟩ => ⟨c, cs', e, h _ _ q1, ListR.mono h q2⟩
theorem ListR.len (h : ∀ a c, R a c → c.length = n) : ∀ {l : List α} {cs : List Value}, ListR R l cs → cs.length = l.length * n | [], _, q => by rw [show _ = [] from q]; simp | _ :: l, _, ⟨c, cs', e, q1, q2⟩ => by rw [e, List.length_append, h _ _ q1, ListR.len h q2, List.length_cons, Nat.succ_mul, Nat.add_comm]
theorem ListR.app : ∀ {l k : List α} {cs ds : List Value}, ListR R l cs → ListR R k ds → ListR R (l ++ k) (cs ++ ds) | [], _, _, _, q, p => by rw [show _ = [] from q]; exact p | _ :: _, _, _, _, ⟨c, cs', e, q1, q2⟩, p => ⟨c, _, by rw [e, List.append_assoc], q1, ListR.app q2 p⟩
theorem ListR.one {a : α} {c : List Value} (h : R a c) : ListR R [a] c := ⟨c, [], by simp, h, rfl⟩
theorem ListR.get (h : ∀ a c, R a c → c.length = n) : ∀ {l : List α} {cs : List Value} (i : Nat) (hi : i < l.length), ListR R l cs → ∃ c, R l[i] c ∧ ∀ j u, c[j]? = some u → cs[i * n + j]? = some u
  | [], _, i, hi, _ => absurd hi (Nat.not_lt_zero _)
  | a :: l, _, 0, _, ⟨c, cs', e, q1, _⟩ => ⟨c, q1, fun j u hj => by
      rw [e, Nat.zero_mul, Nat.zero_add, List.getElem?_append_left (List.getElem?_eq_some_iff.1 hj).1]; exact hj⟩
  | a :: l, _, i + 1, hi, ⟨c, cs', e, q1, q2⟩ => by
    obtain ⟨d, p1, p2⟩ := ListR.get h i (by simpa using hi) q2
    refine ⟨d, p1, fun j u hj => ?_⟩
    have hc := h _ _ q1
    rw [e, List.getElem?_append_right (by rw [hc, Nat.succ_mul]; omega), hc, show (i + 1) * n + j - n = i * n + j by rw [Nat.succ_mul]; omega]
    exact p2 j u hj
theorem ListR.set (h : ∀ a c, R a c → c.length = n) {b : α} {d : List Value} (hd : R b d) : ∀ {l : List α} {cs : List Value} (i : Nat), i < l.length → ListR R l cs → ListR R (l.set i b) (cs.take (i * n) ++ d ++ cs.drop (i * n + n))
  | [], _, i, hi, _ => absurd hi (Nat.not_lt_zero _)
  | a :: l, _, 0, _, ⟨c, cs', e, q1, q2⟩ => by
    have hc := h _ _ q1
    rw [e, Nat.zero_mul, Nat.zero_add, List.take_zero, List.nil_append, ← hc, List.drop_left]
    exact ⟨d, cs', rfl, hd, q2⟩
  | a :: l, _, i + 1, hi, ⟨c, cs', e, q1, q2⟩ => by
    have hc := h _ _ q1
    have ih := ListR.set h hd i (by simpa using hi) q2
    refine ⟨c, _, ?_, q1, ih⟩
    rw [e, Nat.succ_mul, List.take_append, List.drop_append, hc, show i * n + n - n = i * n by omega, show i * n + n + n - n = i * n + n by omega, List.take_of_length_le (by omega), List.drop_eq_nil_of_le (by omega)]
    simp
end
def InX (X : List Nat) (w : World) (v : Value) : Prop := ∀ b, v.ownBlock = some b → b < w.heap.size ∧ b ∉ X
end Go.Proofs.YtdfpeaenbmgihaaGreat
/-
  The tree's places, plain: what is above them, beside them, where two meet. No Go function in it.
-/
namespace Go.Proofs.YtdfpeaenbmgihaaGreat
def leafOf (who : Int) : Int := if 0 ≤ who ∧ who ≤ 7 then 7 + who else -1
def sideOf (n : Int) : Int := if 1 ≤ n ∧ n ≤ 14 then (if n % 2 = 1 then n + 1 else n - 1) else -1
def upF : Nat → Nat → List Nat
  | 0, _ => []
  | f + 1, k => if k = 0 then [] else (k - 1) / 2 :: upF f ((k - 1) / 2)
def ups (k : Nat) : List Nat := upF 4 k
theorem ups_zero : ups 0 = [] := rfl
theorem ups_step : ∀ k, k < 15 → 0 < k → ups k = (k - 1) / 2 :: ups ((k - 1) / 2) := by decide
theorem ups_len : ∀ k, k < 15 → (ups k).length ≤ 3 := by decide
theorem ups_lt : ∀ k, k < 15 → ∀ p ∈ ups k, p < 7 := by decide
def upOf (n : Int) : List Int := if 0 ≤ n ∧ n ≤ 14 then (ups n.toNat).map (fun (k : Nat) => (k : Int)) else []
def meetF : Nat → Nat → Nat → Nat
  | 0, a, _ => a
  | f + 1, a, b => if a = b then a else if b < a then meetF f ((a - 1) / 2) b else meetF f a ((b - 1) / 2)
def meets (a b : Nat) : Nat := meetF 6 a b
theorem meets_self : ∀ a, a < 15 → meets a a = a := by decide
theorem meets_left : ∀ a, a < 15 → ∀ b, b < 15 → b < a → meets a b = meets ((a - 1) / 2) b := by decide
theorem meets_right : ∀ a, a < 15 → ∀ b, b < 15 → a < b → meets a b = meets a ((b - 1) / 2) := by decide
theorem meets_lt : ∀ a, a < 15 → ∀ b, b < 15 → meets a b < 15 := by decide
def meetOf (a b : Int) : Int := if (0 ≤ a ∧ a ≤ 14) ∧ 0 ≤ b ∧ b ≤ 14 then (meets a.toNat b.toNat : Int) else -1
end Go.Proofs.YtdfpeaenbmgihaaGreat
/-
  The tree, plain: what covers, who is in, what is cleared. No Go function in it.
-/
namespace Go.Proofs.YtdfpeaenbmgihaaGreat
def covF (xs : List ByteArray) : Nat → Nat → List Nat
  | 0, _ => []
  | f + 1, n => if xs.getD n ByteArray.empty ≠ ByteArray.empty then [n] else if 7 ≤ n then [] else covF xs f (2 * n + 1) ++ covF xs f (2 * n + 2)
def cover (xs : List ByteArray) (n : Nat) : List Nat := covF xs 4 n
theorem covF_step (xs : List ByteArray) (f n : Nat) : covF xs (f + 1) n = if xs.getD n ByteArray.empty ≠ ByteArray.empty then [n] else if 7 ≤ n then [] else covF xs f (2 * n + 1) ++ covF xs f (2 * n + 2) := rfl
theorem covF_more (xs : List ByteArray) : ∀ f n, 1 ≤ f → 8 ≤ (n + 1) * 2 ^ (f - 1) → covF xs (f + 1) n = covF xs f n := by
 intro f
 induction f with
 | zero => intro n h; omega
 | succ f ih =>
  intro n _ h; rw [covF_step xs (f + 1) n, covF_step xs f n]; split
  · rfl
  · split
    · rfl
    · next hn =>
      cases f with
      | zero => simp at h; omega
      | succ g =>
       (have e : (n + 1) * 2 ^ (g + 1 + 1 - 1) = (2 * n + 2) * 2 ^ g := by rw [show g + 1 + 1 - 1 = g + 1 from rfl, Nat.pow_succ, Nat.mul_comm (2 ^ g) 2, ← Nat.mul_assoc]; congr 1; omega); rw [e] at h; have h2 : (2 * n + 2) * 2 ^ g ≤ (2 * n + 2 + 1) * 2 ^ g := Nat.mul_le_mul_right _ (by omega); rw [ih (2 * n + 1) (by omega) (by simpa using h), ih (2 * n + 2) (by omega) (by simp; omega)]
theorem cover_three (xs : List ByteArray) (n : Nat) (h : 1 ≤ n) : covF xs 3 n = cover xs n := (covF_more xs 3 n (by omega) (by simp; omega)).symm
theorem cover_two (xs : List ByteArray) (n : Nat) (h : xs.getD n ByteArray.empty = ByteArray.empty) (hn : n < 7) : cover xs n = cover xs (2 * n + 1) ++ cover xs (2 * n + 2) := by unfold cover; rw [covF_step, if_neg (by simpa using h), if_neg (by omega), cover_three xs _ (by omega), cover_three xs _ (by omega)]; rfl
theorem cover_one (xs : List ByteArray) (n : Nat) (h : xs.getD n ByteArray.empty ≠ ByteArray.empty) : cover xs n = [n] := by unfold cover; rw [covF_step, if_pos h]
theorem cover_none (xs : List ByteArray) (n : Nat) (h : xs.getD n ByteArray.empty = ByteArray.empty) (hn : 7 ≤ n) : cover xs n = [] := by unfold cover; rw [covF_step, if_neg (by simpa using h), if_pos hn]
def wipe (xs : List ByteArray) (ps : List Nat) : List ByteArray := ps.foldl (fun ys p => ys.set p ByteArray.empty) xs
def clearOf (xs : List ByteArray) (who : Nat) : List ByteArray := wipe xs ((7 + who) :: ups (7 + who))
end Go.Proofs.YtdfpeaenbmgihaaGreat
/-
  The tree, plain: from the last places up. No Go function in it.
-/
namespace Go.Proofs.YtdfpeaenbmgihaaGreat
def keyed (xs : List ByteArray) (n : Nat) : Bool := decide (xs.getD n ByteArray.empty ≠ ByteArray.empty)
theorem cover_keyed (xs : List ByteArray) (n : Nat) (h : keyed xs n = true) : cover xs n = [n] := cover_one xs n (by simpa [keyed] using h)
theorem cover_bare (xs : List ByteArray) (n : Nat) (h : keyed xs n = false) (hn : 7 ≤ n) : cover xs n = [] := cover_none xs n (by simpa [keyed] using h) hn
theorem cover_both (xs : List ByteArray) (n : Nat) (h : keyed xs n = false) (hn : n < 7) : cover xs n = cover xs (2 * n + 1) ++ cover xs (2 * n + 2) := cover_two xs n (by simpa [keyed] using h) hn
theorem down {P : Nat → Prop} (h1 : ∀ n, 7 ≤ n → n < 15 → P n) (h2 : ∀ n, n < 7 → P (2 * n + 1) → P (2 * n + 2) → P n) : ∀ n, n < 15 → P n := by have a : ∀ n, 3 ≤ n → n < 15 → P n := fun n h h' => if q : 7 ≤ n then h1 n q h' else h2 n (by omega) (h1 _ (by omega) (by omega)) (h1 _ (by omega) (by omega)); have b : ∀ n, 1 ≤ n → n < 15 → P n := fun n h h' => if q : 3 ≤ n then a n q h' else h2 n (by omega) (a _ (by omega) (by omega)) (a _ (by omega) (by omega)); exact fun n h' => if q : 1 ≤ n then b n q h' else h2 n (by omega) (b _ (by omega) (by omega)) (b _ (by omega) (by omega))
end Go.Proofs.YtdfpeaenbmgihaaGreat
/-
  The spec's covers: l3Cover.
-/
namespace Go.Proofs.YtdfpeaenbmgihaaGreat
open Go.RowKit
def ints (ps : List Nat) : List Int := ps.map fun (k : Nat) => (k : Int)
def Covers (xs : List ByteArray) (n : Nat) (w : World) (e : Ending) (w' : World) : Prop := ∃ u, e = .returned u ∧ OwnI w.heap.size w' u (ints (cover xs n)) ∧ Below w.heap.size w w'
theorem nil_text : (ByteArray.empty).toList = [] := by decide +kernel
theorem no_text {x : ByteArray} (h : ¬ x = ByteArray.empty) : ¬ x.toList = [] := by intro e; exact h ((toList_eq (x := x) (y := ByteArray.empty)).1 (by rw [e, nil_text]; rfl))
set_option maxRecDepth 100000 in
set_option maxHeartbeats 4000000 in
theorem cov_keyed (xs : List ByteArray) (hl : xs.length = 15) (n : Nat) (hn : n < 15) (q : keyed xs n = true) (v : Value) (w : World) (h : SRow w v xs) : Calls Tryz.prog 98 #[.agg #[v], .int .i64 (n : Int)] w (Covers xs n w) := by obtain ⟨ao, cap, rfl, h1, h2, h3⟩ := h.form; obtain ⟨a, rfl, hc0⟩ := h3 n (by omega); have hc := (((Below.refl w.heap.size w).alloc (Nat.le_refl _) (Obj.cells #[.slice (some a) xs.length cap] 59)).cell (cell_lt hc0)).trans hc0; have hne : ¬ (xs.getD n ByteArray.empty).toList = [] := no_text (by simpa [keyed] using q); (have hne2 : (xs.getD n ByteArray.empty).toList.isEmpty = false := by simpa using hne); have HC := hide (cover_keyed xs n q); clear q h3 hc0 h; rw [hl] at h1 hc ⊢; generalize xs.getD n ByteArray.empty = y at hc hne hne2; have hB := hide (((Below.refl w.heap.size w).alloc (Nat.le_refl _) (Obj.cells #[.slice (some a) 15 cap] 59)).alloc (by simp) (Obj.cells #[.int .i64 (n : Int)] 3)); have hO := World.ownsRow_lit (base := w.heap.size) (e := 3) (size := 1) (w.alloc (Obj.cells #[.slice (some a) 15 cap] 59)) #[.int .i64 (n : Int)] 1 (by simp) (by unfold maxLen; omega) rfl; have HO := hide hO; clear hO; go_enter Tryz.func98, Tryz.ntmps98; (go_wp2_with fail); go_ret; refine ⟨_, rfl, ?_, unhide hB⟩; rw [HC.out]; have r := unhide HO; rw [show (w.alloc (Obj.cells #[.slice (some a) 15 cap] 59)).heap.size = w.heap.size + 1 by simp] at r; exact r
set_option maxRecDepth 100000 in
set_option maxHeartbeats 4000000 in
theorem cov_bare (xs : List ByteArray) (hl : xs.length = 15) (n : Nat) (h7 : 7 ≤ n) (hn : n < 15) (q : keyed xs n = false) (v : Value) (w : World) (h : SRow w v xs) : Calls Tryz.prog 98 #[.agg #[v], .int .i64 (n : Int)] w (Covers xs n w) := by obtain ⟨ao, cap, rfl, h1, h2, h3⟩ := h.form; obtain ⟨a, rfl, hc0⟩ := h3 n (by omega); have hc := (((Below.refl w.heap.size w).alloc (Nat.le_refl _) (Obj.cells #[.slice (some a) xs.length cap] 59)).cell (cell_lt hc0)).trans hc0; (have hne : (xs.getD n ByteArray.empty).toList = [] := by (have e : xs.getD n ByteArray.empty = ByteArray.empty := by simpa [keyed] using q); rw [e]; exact nil_text); (have hne2 : (xs.getD n ByteArray.empty).toList.isEmpty = true := by rw [hne]; rfl); have HC := hide (cover_bare xs n q h7); (have h72 : (7 : Int) ≤ (n : Int) := by omega); clear q h3 hc0 h; rw [hl] at h1 hc ⊢; generalize xs.getD n ByteArray.empty = y at hc hne hne2; have hB := hide (((Below.refl w.heap.size w).alloc (Nat.le_refl _) (Obj.cells #[.slice (some a) 15 cap] 59)).alloc (by simp) (Obj.cells #[] 3)); have hO := World.ownsRow_lit (base := w.heap.size) (e := 3) (size := 1) (w.alloc (Obj.cells #[.slice (some a) 15 cap] 59)) #[] 0 (by simp) (by unfold maxLen; omega) rfl; have HO := hide hO; clear hO; go_enter Tryz.func98, Tryz.ntmps98; (go_wp2_with fail); go_ret; refine ⟨_, rfl, ?_, unhide hB⟩; rw [HC.out]; have r := unhide HO; rw [show (w.alloc (Obj.cells #[.slice (some a) 15 cap] 59)).heap.size = w.heap.size + 1 by simp] at r; exact r
end Go.Proofs.YtdfpeaenbmgihaaGreat
/-
 What covers: l3Cover of the specification.
-/
namespace Go.Proofs.YtdfpeaenbmgihaaGreat
open Go.RowKit
theorem ints_len (ps : List Nat) : (ints ps).length = ps.length := by simp [ints]
theorem cover_le (xs : List ByteArray) : ∀ n, n < 15 → (cover xs n).length ≤ 8 ∧ (1 ≤ n → (cover xs n).length ≤ 4) ∧ (3 ≤ n → (cover xs n).length ≤ 2) ∧ (7 ≤ n → (cover xs n).length ≤ 1) := by
 apply down
 · intro n h h'
   cases q : keyed xs n with
   | true => rw [cover_keyed xs n q]; simp
   | false => rw [cover_bare xs n q h]; simp
 · intro n h i1 i2
   cases q : keyed xs n with
   | true => rw [cover_keyed xs n q]; simp
   | false =>
    rw [cover_both xs n q h, List.length_append]; have := i1.2.1 (by omega); have := i2.2.1 (by omega); refine ⟨by omega, fun h1 => ?_, fun h3 => ?_, fun h7 => by omega⟩
    · have := i1.2.2.1 (by omega); have := i2.2.2.1 (by omega); omega
    · have := i1.2.2.2 (by omega); have := i2.2.2.2 (by omega); omega
set_option maxRecDepth 100000 in
set_option maxHeartbeats 4000000 in
theorem l3Cover_both (xs : List ByteArray) (hl : xs.length = 15) (n : Nat) (h7 : n < 7) (q : keyed xs n = false) (v : Value) (ih1 : ∀ w, SRow w v xs → Calls Tryz.prog 98 #[.agg #[v], .int .i64 ((2 * n + 1 : Nat) : Int)] w (Covers xs (2 * n + 1) w)) (ih2 : ∀ w, SRow w v xs → Calls Tryz.prog 98 #[.agg #[v], .int .i64 ((2 * n + 2 : Nat) : Int)] w (Covers xs (2 * n + 2) w)) (w : World) (h : SRow w v xs) : Calls Tryz.prog 98 #[.agg #[v], .int .i64 (n : Int)] w (Covers xs n w) := by
 obtain ⟨i0, hi, hz0, hz1, hz2⟩ := info_parts info_int2; have hI := hide (And.intro hi (And.intro hz0 (And.intro hz1 hz2))); clear hi hz0 hz1 hz2; have hR0 := hide h; obtain ⟨ao, cap, rfl, h1, h2, h3⟩ := h.form; obtain ⟨a, rfl, hc0⟩ := h3 n (by omega); have hc := (((Below.refl w.heap.size w).alloc (Nat.le_refl _) (Obj.cells #[.slice (some a) xs.length cap] 59)).cell (cell_lt hc0)).trans hc0; (have hne : (xs.getD n ByteArray.empty).toList = [] := by (have e : xs.getD n ByteArray.empty = ByteArray.empty := by simpa [keyed] using q); rw [e]; exact nil_text); (have hne2 : (xs.getD n ByteArray.empty).toList.isEmpty = true := by rw [hne]; rfl); have HC := hide (cover_both xs n q h7); (have h72 : decide ((7 : Int) ≤ (n : Int)) = false := by simp; omega); have L1 := (cover_le xs (2 * n + 1) (by omega)).1; have L2 := (cover_le xs (2 * n + 2) (by omega)).1; have i1 : IntKind.i64.wrap (2 * (n : Int)) = 2 * (n : Int) := wrap_small _ (by omega) (by omega); (have i2 : IntKind.i64.wrap (2 * (n : Int) + 1) = ((2 * n + 1 : Nat) : Int) := by rw [wrap_small _ (by omega) (by omega)]; omega); (have i3 : IntKind.i64.wrap (2 * (n : Int) + 2) = ((2 * n + 2 : Nat) : Int) := by rw [wrap_small _ (by omega) (by omega)]; omega); have I1 := hide ih1; have I2 := hide ih2; clear q h3 hc0 h ih1 ih2; rw [hl] at h1 hc hR0 I1 I2 ⊢; have HL := hide hl; clear hl; generalize xs.getD n ByteArray.empty = y at hc hne hne2; have hA := hide (Boxed.new w 59 (.slice (some a) 15 cap)); have hR : Hid (SRow (w.alloc (.cells #[.slice (some a) 15 cap] 59)) (.slice (some a) 15 cap) xs) := hR0.out.below ((Below.refl _ _).alloc (Nat.le_refl _) _); have hB0 : Hid (Below w.heap.size w (w.alloc (.cells #[.slice (some a) 15 cap] 59))) := (Below.refl _ _).alloc (Nat.le_refl _) _; generalize 2 * n + 1 = n1 at *; generalize 2 * n + 2 = n2 at *; go_enter Tryz.func98, Tryz.ntmps98; (go_wp2_with fail); refine r_i (Below (w.heap.size + 1)) ?_; refine r_q 0 ?_ (h := by intro w' hw'; have hx := (box_below0 (w := (w.alloc (.cells #[.slice (some a) 15 cap] 59)).drew) hA.out hw' (by omega)).cell; go_simp; all_goals rfl); refine r_q3 1 2 3 ?_; refine r_q 5 ?_ (h := by intro w' hw'; have hx := (box_below0 (w := (w.alloc (.cells #[.slice (some a) 15 cap] 59)).drew) hA.out hw' (by omega)).cell; go_simp; all_goals rfl); refine r_q3 6 7 8 ?_; refine r_k 4 (unhide I1 _ hR.out.drew) ?_; rintro e w2 ⟨u2, rfl, ho2, hb2⟩; refine s_r ?_ (r := (hb2.mono (by simp))); have O2 := hide ho2; have HB2 : Hid (Below w.heap.size w w2) := hB0.out.drew.trans (hb2.mono (by simp)); have hs2 := hb2.size; have R2 := hide (hR.out.drew.below hb2); clear ho2 hb2; refine r_1 9 (fun K hK => ?_); go_simp; refine (unhide I2 _ R2.out).mono ?_; rintro e w3 ⟨u3, rfl, ho3, hb3⟩; go_simp; refine sr hK ?_ (r := (hb3.mono (by simp at hs2; omega))); clear hK; have N3 := hide ho3.irow.news; have O3 := hide (OwnI.below O2.out hb3); have HB3 := hide (HB2.out.trans (hb3.mono HB2.out.size)); have hs3 := hb3.size; clear ho3 hb3 O2 HB2; refine r_1 10 (fun K hK => ?_); refine wp_append_row _ _ _ 34 rfl (w.heap.size + 1) 3 i0 (.int .i64 0) 1 8 Tryz.underlying34 hI.out.1 hI.out.2.1 hI.out.2.2.1 hI.out.2.2.2 rfl (by decide) _ _ _ rfl (row_lowB O3.out (by simp)) _ _ _ rfl N3.out (ints_one _) (by rw [ints_len, ints_len]; unfold maxLen; omega) (by rw [ints_len, ints_len]; omega) (by simp at hs2; omega) ?_; intro v4 w4 ho4 hg4; have R5 : Hid (OwnI w.heap.size w4 v4 (ints (cover xs n1 ++ cover xs n2))) := by show OwnI _ _ _ _; unfold OwnI ints; rw [List.map_append, List.length_append, List.map_append]; exact row_lowB ho4 (by omega)
 have HB5 : Hid (Below w.heap.size w w4) := HB3.out.grown hg4 HB3.out.size (fun k hk => by have := (O3.out.lt k hk).1; simp at this; omega); refine hK.out _ _ ((Below.refl _ _).grown hg4 (by simp at hs2; omega) (fun k hk => by have := (O3.out.lt k hk).1; simp at this; omega)) ?_; clear hK ho4 hg4 O3 N3 HB3; (try simp only [Act.put, p_a, p_b, p_c]); refine r_q 11 ?_; refine r_e ?_; (go_wp2_with fail); go_ret; refine ⟨_, rfl, ?_, unhide HB5⟩; rw [HC.out]; exact unhide R5
theorem l3Cover_any (xs : List ByteArray) (hl : xs.length = 15) (v : Value) : ∀ n : Nat, n < 15 → ∀ w, SRow w v xs → Calls Tryz.prog 98 #[.agg #[v], .int .i64 ((n : Nat) : Int)] w (Covers xs n w) := by
 apply down (P := fun n => ∀ w, SRow w v xs → Calls Tryz.prog 98 #[.agg #[v], .int .i64 ((n : Nat) : Int)] w (Covers xs n w))
 · intro n h7 h15 w h
   cases q : keyed xs n with
   | true => exact cov_keyed xs hl n h15 q v w h
   | false => exact cov_bare xs hl n h7 h15 q v w h
 · intro n h7 i1 i2 w h
   cases q : keyed xs n with
   | true => exact cov_keyed xs hl n (by omega) q v w h
   | false => exact l3Cover_both xs hl n h7 q v i1 i2 w h
end Go.Proofs.YtdfpeaenbmgihaaGreat
/-
  The laws' own look whether two rows of texts are the same.
-/
namespace Go.Proofs.YtdfpeaenbmgihaaGreat
open Go.RowKit
end Go.Proofs.YtdfpeaenbmgihaaGreat
/-
  The laws' own helpers over rows of texts: how great one is, a copy of one, whether two are the same.
-/
namespace Go.Proofs.YtdfpeaenbmgihaaGreat
open Go.RowKit
end Go.Proofs.YtdfpeaenbmgihaaGreat
/-
  impl.isOne.
-/
namespace Go.Proofs.YtdfpeaenbmgihaaGreat
open Go.RowKit
set_option maxHeartbeats 400000 in
theorem isOne_yes (n : Int) (w : World) (h0 : 0 ≤ n) (h1 : n < 8) : Calls Tryz.prog 77 #[.int .i64 n] w fun e w' => e = .returned (.bool true) ∧ w' = w := by go_enter Tryz.func77, Tryz.ntmps77; go_wp2; go_ret; exact ⟨rfl, rfl⟩
set_option maxHeartbeats 400000 in
theorem isOne_no (n : Int) (w : World) (h : n < 0 ∨ 8 ≤ n) : Calls Tryz.prog 77 #[.int .i64 n] w fun e w' => e = .returned (.bool false) ∧ w' = w := by
 rcases h with h | h
 · go_enter Tryz.func77, Tryz.ntmps77; go_wp2; go_ret; exact ⟨rfl, rfl⟩
 · (have h' : 0 ≤ n := by omega); (have h2 : decide (n < 8) = false := by simp; omega); go_enter Tryz.func77, Tryz.ntmps77; go_wp2; go_ret; exact ⟨rfl, rfl⟩
end Go.Proofs.YtdfpeaenbmgihaaGreat
/-
  Contracts of the reader of names, method by method, over the landed program.
-/
namespace Go.Proofs.YtdfpeaenbmgihaaGreat
open Go.RowKit
structure Rd (b : Nat) (s : ByteArray) (a : Nat) (w : World) : Prop where
  t : w.cell? ⟨b, 0, none⟩ = some (.string s)
  p : w.cell? ⟨b, 1, none⟩ = some (.int .i64 (a : Int))
  f : w.frozen? ⟨b, 1, none⟩ = false
  lt : b < w.heap.size
theorem Rd.step {b : Nat} {s : ByteArray} {a : Nat} {w : World} (h : Rd b s a w) (n a' : Nat) (v : Value) (hv : v = .int .i64 (a' : Int)) : Rd b s a' ((w.drewN n).setCell ⟨b, 1, none⟩ v) ∧ Below b w ((w.drewN n).setCell ⟨b, 1, none⟩ v) := by obtain ⟨t, p, f, lt⟩ := h; subst hv; refine ⟨⟨by simp [go_sem, t], by simp [go_sem, p], by simp [go_sem, f], by simpa [World.setCell] using lt⟩, ?_⟩; exact (below_drewN (Below.refl b w) n).setCell (p := ⟨b, 1, none⟩) (Nat.le_refl _) _
theorem Rd.drewN {b : Nat} {s : ByteArray} {a : Nat} {w : World} (h : Rd b s a w) (n : Nat) : Rd b s a (w.drewN n) ∧ Below b w (w.drewN n) := by obtain ⟨t, p, f, lt⟩ := h; exact ⟨⟨by simp [go_sem, t], by simp [go_sem, p], by simp [go_sem, f], lt⟩, below_drewN (Below.refl _ _) n⟩
theorem ret_u8 {a b : Nat} {c : Bool} (h : a = b) : Ending.returned (.tuple #[.int .u8 (a : Int), .bool c]) = .returned (.tuple #[.int .u8 (b : Int), .bool c]) := by rw [h]
set_option maxHeartbeats 400000 in
theorem readSign_in (b : Nat) (s : ByteArray) (a : Nat) (w : World) (hs : s.size ≤ 300) (h : Rd b s a w) (ha : a < s.size) : Calls Tryz.prog 35 #[.pointer (some ⟨b, 0, none⟩)] w fun e w' => e = .returned (.tuple #[.int .u8 (Kw.g s a), .bool true]) ∧ Rd b s (a + 1) w' ∧ Below b w w' := by have hr := hide h; obtain ⟨t, p, f, lt⟩ := h; (have hd : decide ((s.size : Int) ≤ (a : Int)) = false := by simp; omega); (have h1 : (a : Int) < (s.size : Int) := by omega); go_enter Tryz.func35, Tryz.ntmps35; (go_wp2_with fail); go_quiet (fail); (go_wp2_with fail); go_quiet (fail); (go_wp2_with fail); go_ret2; exact ⟨ret_u8 (Kw.g_in ha).symm, hr.out.step _ (a + 1) _ (by simp)⟩
set_option maxHeartbeats 400000 in
theorem readSign_out (b : Nat) (s : ByteArray) (a : Nat) (w : World) (h : Rd b s a w) (ha : s.size ≤ a) : Calls Tryz.prog 35 #[.pointer (some ⟨b, 0, none⟩)] w fun e w' => e = .returned (.tuple #[.int .u8 0, .bool false]) ∧ Rd b s a w' ∧ Below b w w' := by have hr := hide h; obtain ⟨t, p, f, lt⟩ := h; go_enter Tryz.func35, Tryz.ntmps35; (go_wp2_with fail); go_quiet (fail); (go_wp2_with fail); go_ret2; exact ⟨rfl, hr.out.drewN _⟩
def posOf (b : Nat) (w : World) : Nat := match w.cell? ⟨b, 1, none⟩ with | some v => (intOf v).toNat | none => 0
theorem Rd.pos {b : Nat} {s : ByteArray} {a : Nat} {w : World} (h : Rd b s a w) : posOf b w = a := by unfold posOf; rw [h.p]; simp [intOf]
def NumPost (b : Nat) (s : ByteArray) (a most : Nat) (w : World) (e : Ending) (w' : World) : Prop :=
  ∃ a1, Rd b s a1 w' ∧ Below b w w' ∧
    ((∃ n : Nat, Kw.num s most a = some (n, a1) ∧ e = .returned (.tuple #[.int .i64 (n : Int), .bool true])) ∨ (Kw.num s most a = none ∧ e = .returned (.tuple #[.int .i64 0, .bool false])))
theorem num_stop {b : Nat} {s : ByteArray} {a a' n most : Nat} {w wr : World} (hr : Hid (Rd b s a' wr)) (hb : Below b w wr) (hnum : Hid (Kw.rdn s most (s.size + 1 - a') n a' = Kw.num s most a)) (hnd : ¬ (48 ≤ Kw.g s a' ∧ Kw.g s a' ≤ 57)) (hle : a' ≤ s.size) (nq : Nat) : NumPost b s a most w (.returned (.tuple #[.int .i64 (n : Int), .bool (decide (0 < n))])) (wr.drewN nq) := by
 have h1 := hnum.out; rw [show s.size + 1 - a' = (s.size - a') + 1 by omega, Kw.rdn_succ, if_neg hnd] at h1; obtain ⟨r1, r2⟩ := hr.out.drewN nq; refine ⟨a', r1, hb.trans r2, ?_⟩; by_cases h0 : 0 < n
 · rw [if_pos h0] at h1; exact .inl ⟨n, h1.symm, by simp [h0]⟩
 · rw [if_neg h0] at h1; (have : n = 0 := by omega); exact .inr ⟨h1.symm, by simp [this]⟩
theorem num_fail {b : Nat} {s : ByteArray} {a a' n most : Nat} {w wr : World} (hr : Hid (Rd b s a' wr)) (hb : Below b w wr) (hnum : Hid (Kw.rdn s most (s.size + 1 - a') n a' = Kw.num s most a)) (hle : a' < s.size) (hG : Hid (Kw.g s a' = s[a'].toNat)) (h48 : (48 : Int) ≤ (s[a'].toNat : Int)) (h57 : (s[a'].toNat : Int) ≤ 57) (hx : (n : Int) * 10 + ((s[a'].toNat : Int) - 48) < 1 ∨ (most : Int) < (n : Int) * 10 + ((s[a'].toNat : Int) - 48)) (nq : Nat) : NumPost b s a most w (.returned (.tuple #[.int .i64 0, .bool false])) ((wr.drewN nq).setCell ⟨b, 1, none⟩ (.int .i64 ((a' : Int) + 1))) := by have h1 := hnum.out; have h2 := hG.out; rw [show s.size + 1 - a' = (s.size - a') + 1 by omega, Kw.rdn_succ, h2, if_pos (by omega), if_pos (by omega)] at h1; obtain ⟨r1, r2⟩ := hr.out.step nq (a' + 1) (.int .i64 ((a' : Int) + 1)) (by simp); exact ⟨a' + 1, r1, hb.trans r2, .inr ⟨h1.symm, rfl⟩⟩
theorem num_next {s : ByteArray} {a a' n most : Nat} (hnum : Hid (Kw.rdn s most (s.size + 1 - a') n a' = Kw.num s most a)) (hle : a' < s.size) (hG : Hid (Kw.g s a' = s[a'].toNat)) (h48 : (48 : Int) ≤ (s[a'].toNat : Int)) (h57 : (s[a'].toNat : Int) ≤ 57) (hx : ¬ (n : Int) * 10 + ((s[a'].toNat : Int) - 48) < 1) (hy : ¬ (most : Int) < (n : Int) * 10 + ((s[a'].toNat : Int) - 48)) : Hid (Kw.rdn s most (s.size + 1 - (a' + 1)) (n * 10 + (s[a'].toNat - 48)) (a' + 1) = Kw.num s most a) := by have h1 := hnum.out; have h2 := hG.out; rw [show s.size + 1 - a' = (s.size - a') + 1 by omega, Kw.rdn_succ, h2, if_pos (by omega), if_neg (by omega)] at h1; rw [show s.size + 1 - (a' + 1) = s.size - a' by omega]; exact h1
theorem num_round {b : Nat} {s : ByteArray} {a a' m most : Nat} {x : Int} {w wr : World} {k : Nat} (hr : Hid (Rd b s a' wr)) (hb : Below b w wr) (hlt : a' < s.size) (hm : m ≤ most) (hx : x = (m : Int)) (hN : Hid (Kw.rdn s most (s.size + 1 - (a' + 1)) m (a' + 1) = Kw.num s most a)) : (∃ n_1 a'_1 : Nat, Value.int IntKind.i64 x = Value.int IntKind.i64 (n_1 : Int) ∧ Rd b s a'_1 ((wr.drewN k).setCell ⟨b, 1, none⟩ (.int .i64 ((a' : Int) + 1))) ∧ Below b w ((wr.drewN k).setCell ⟨b, 1, none⟩ (.int .i64 ((a' : Int) + 1))) ∧ n_1 ≤ most ∧ a'_1 ≤ s.size ∧ Hid (Kw.rdn s most (s.size + 1 - a'_1) n_1 a'_1 = Kw.num s most a)) ∧ s.size + 1 - posOf b ((wr.drewN k).setCell ⟨b, 1, none⟩ (.int .i64 ((a' : Int) + 1))) < s.size + 1 - posOf b wr := by obtain ⟨r1, r2⟩ := hr.out.step k (a' + 1) (.int .i64 ((a' : Int) + 1)) (by simp); refine ⟨⟨m, a' + 1, by rw [hx], r1, hb.trans r2, hm, by omega, hN⟩, ?_⟩; rw [r1.pos, hr.out.pos]; omega
set_option maxHeartbeats 1000000 in
theorem readNumber_any (b : Nat) (s : ByteArray) (a : Nat) (most : Nat) (w : World) (hs : s.size ≤ 300) (h : Rd b s a w) (ha : a ≤ s.size) (hm2 : most ≤ 99) : Calls Tryz.prog 58 #[.pointer (some ⟨b, 0, none⟩), .int .i64 (most : Int)] w fun e w' => NumPost b s a most w e w' := by
 go_enter Tryz.func58, Tryz.ntmps58; (go_wp2_with fail); go_loopw [6] (fun nn wr => ∃ n a' : Nat, nn = .int .i64 (n : Int) ∧ Rd b s a' wr ∧ Below b w wr ∧ n ≤ most ∧ a' ≤ s.size ∧ Hid (Kw.rdn s most (s.size + 1 - a') n a' = Kw.num s most a)) (fun nn wr => s.size + 1 - posOf b wr)
 case atStart => exact ⟨0, a, rfl, h, Below.refl _ _, Nat.zero_le _, ha, rfl⟩
 case round =>
  obtain ⟨n, a', rfl, hr0, hb, hn, hle, hnum⟩ := hrel; clear h ha; have hr := hide hr0; obtain ⟨t, p, f, lt⟩ := hr0; by_cases hlt : a' < s.size
  · have hG : Hid (Kw.g s a' = s[a'].toNat) := Kw.g_in hlt; (have hlt2 : (a' : Int) < (s.size : Int) := by omega); by_cases h48 : (48 : Int) ≤ (s[a'].toNat : Int)
    · by_cases h57 : (s[a'].toNat : Int) ≤ 57
      · by_cases hlo : (n : Int) * 10 + ((s[a'].toNat : Int) - 48) < 1
        · (go_wp2_with fail); go_quiet (fail); (go_wp2_with fail); go_quiet (fail); (go_wp2_with fail); go_ret2; exact num_fail hr hb hnum hlt hG h48 h57 (.inl hlo) _
        · (have hlo2 : decide ((n : Int) * 10 + ((s[a'].toNat : Int) - 48) < 1) = false := by simp; omega); by_cases hhi : (most : Int) < (n : Int) * 10 + ((s[a'].toNat : Int) - 48)
          · (go_wp2_with fail); go_quiet (fail); (go_wp2_with fail); go_quiet (fail); (go_wp2_with fail); go_ret2; exact num_fail hr hb hnum hlt hG h48 h57 (.inr hhi) _
          · (have hhi2 : decide ((most : Int) < (n : Int) * 10 + ((s[a'].toNat : Int) - 48)) = false := by simp; omega); have hN := num_next hnum hlt hG h48 h57 hlo hhi; have hlo3 := hide hlo; have hhi3 := hide hhi; clear hlo hhi; (go_wp2_with fail); go_quiet (fail); (go_wp2_with fail); go_quiet (fail); (go_wp2_with fail); exact num_round hr hb hlt (by have := hhi3.out; omega) (by omega) hN
      · (have hd : decide ((s[a'].toNat : Int) ≤ 57) = false := by simp; omega); have h57' := hide h57; clear h57; (go_wp2_with fail); go_quiet (fail); (go_wp2_with fail); go_ret2; exact num_stop hr hb hnum (by rw [hG.out]; have := h57'.out; omega) hle _
    · (have hd : decide ((48 : Int) ≤ (s[a'].toNat : Int)) = false := by simp; omega); have h48' := hide h48; clear h48; (go_wp2_with fail); go_quiet (fail); (go_wp2_with fail); go_ret2; exact num_stop hr hb hnum (by rw [hG.out]; have := h48'.out; omega) hle _
  · (have hd : decide ((a' : Int) < (s.size : Int)) = false := by simp; omega); (go_wp2_with fail); go_quiet (fail); (go_wp2_with fail); go_ret2; exact num_stop hr hb hnum (by rw [Kw.g_out (by omega)]; omega) hle _
theorem readNumber_yes {n a1 : Nat} (b : Nat) (s : ByteArray) (a : Nat) (m : Int) (most : Nat) (hm : m = (most : Int)) (w : World) (hs : s.size ≤ 300) (h : Rd b s a w) (ha : a ≤ s.size) (hm2 : most ≤ 99) (hn : Hid (Kw.num s most a = some (n, a1))) : Calls Tryz.prog 58 #[.pointer (some ⟨b, 0, none⟩), .int .i64 m] w fun e w' => e = .returned (.tuple #[.int .i64 (n : Int), .bool true]) ∧ Rd b s a1 w' ∧ Below b w w' := by
 subst hm; refine (readNumber_any b s a most w hs h ha hm2).mono ?_; rintro e w' ⟨a2, r1, r2, ⟨k, e1, e2⟩ | ⟨e1, e2⟩⟩
 · rw [hn.out] at e1; simp at e1; obtain ⟨rfl, rfl⟩ := e1; exact ⟨e2, r1, r2⟩
 · rw [hn.out] at e1; simp at e1
theorem readNumber_no (b : Nat) (s : ByteArray) (a : Nat) (m : Int) (most : Nat) (hm : m = (most : Int)) (w : World) (hs : s.size ≤ 300) (h : Rd b s a w) (ha : a ≤ s.size) (hm2 : most ≤ 99) (hn : Hid (Kw.num s most a = none)) : Calls Tryz.prog 58 #[.pointer (some ⟨b, 0, none⟩), .int .i64 m] w fun e w' => e = .returned (.tuple #[.int .i64 0, .bool false]) ∧ (∃ a1, Rd b s a1 w') ∧ Below b w w' := by
 subst hm; refine (readNumber_any b s a most w hs h ha hm2).mono ?_; rintro e w' ⟨a2, r1, r2, ⟨k, e1, e2⟩ | ⟨e1, e2⟩⟩
 · rw [hn.out] at e1; simp at e1
 · exact ⟨e2, ⟨a2, r1⟩, r2⟩
set_option maxHeartbeats 400000 in
theorem readLetter_yes (b : Nat) (s : ByteArray) (a : Nat) (w : World) (hs : s.size ≤ 300) (h : Rd b s a w) (h1 : 65 ≤ Kw.g s a) (h2 : Kw.g s a ≤ 72) : Calls Tryz.prog 57 #[.pointer (some ⟨b, 0, none⟩)] w fun e w' => e = .returned (.tuple #[.int .i64 ((Kw.g s a : Int) - 65), .bool true]) ∧ Rd b s (a + 1) w' ∧ Below b w w' := by have ha : a < s.size := Kw.g_lt.1 (by omega); have hr := hide h; clear h; go_enter Tryz.func57, Tryz.ntmps57; (go_wp2_with fail); refine (readSign_in b s a _ hs hr.out ha).mono ?_; rintro e w1 ⟨rfl, r1, hb1⟩; (go_wp2_with fail); refine (isOne_yes _ _ (by omega) (by omega)).mono ?_; rintro e w2 ⟨rfl, rfl⟩; (go_wp2_with fail); go_ret2; exact ⟨rfl, r1, hb1⟩
set_option maxHeartbeats 400000 in
theorem readLetter_no (b : Nat) (s : ByteArray) (a : Nat) (w : World) (hs : s.size ≤ 300) (h : Rd b s a w) (hn : Kw.g s a < 65 ∨ 72 < Kw.g s a) : Calls Tryz.prog 57 #[.pointer (some ⟨b, 0, none⟩)] w fun e w' => ∃ v, e = .returned (.tuple #[v, .bool false]) ∧ (∃ a1, Rd b s a1 w') ∧ Below b w w' := by
 have hr := hide h; clear h; by_cases ha : a < s.size
 · have hg := Kw.g_lt.2 ha; go_enter Tryz.func57, Tryz.ntmps57; (go_wp2_with fail); refine (readSign_in b s a _ hs hr.out ha).mono ?_; rintro e w1 ⟨rfl, r1, hb1⟩; (go_wp2_with fail); refine (isOne_no _ _ (by omega)).mono ?_; rintro e w2 ⟨rfl, rfl⟩; (go_wp2_with fail); go_ret2; exact ⟨_, rfl, ⟨_, r1⟩, hb1⟩
 · clear hn; go_enter Tryz.func57, Tryz.ntmps57; (go_wp2_with fail); refine (readSign_out b s a _ hr.out (by omega)).mono ?_; rintro e w1 ⟨rfl, r1, hb1⟩; (go_wp2_with fail); go_ret2; exact ⟨_, rfl, ⟨_, r1⟩, hb1⟩
end Go.Proofs.YtdfpeaenbmgihaaGreat
/-
  The recursive descent over names, over the landed program: what reading a name at a place comes to.
-/
namespace Go.Proofs.YtdfpeaenbmgihaaGreat
open Go.RowKit
def secV (s : ByteArray) (a : Nat) : Value :=
  if Kw.g s a = 110 then .iface 94 (.agg #[.string (s.extract (a + 1) (a + 1 + Kw.len s (a + 1)))])
  else if Kw.g s a = 107 then .iface 95 (.agg #[.string (s.extract (a + 1) (a + 1 + Kw.len s (a + 1)))])
  else if Kw.g s a = 101 then .iface 121 (.agg #[.string (s.extract (a + 1) (a + 1 + Kw.len s (a + 1))), .string (s.extract (a + 1 + Kw.len s (a + 1)) (a + 1 + Kw.len s (a + 1) + Kw.len s (a + 1 + Kw.len s (a + 1))))])
  else if Kw.g s a = 109 then .iface 125 (.agg #[.string (s.extract (a + 2) (a + 2 + Kw.len s (a + 2))), .int .i64 ((Kw.g s (a + 1) : Int) - 65)])
  else if Kw.g s a = 114 then .iface 128 (.agg #[.string (s.extract (a + 2) (a + 2 + Kw.len s (a + 2))), .int .i64 ((Kw.g s (a + 1) - 48 : Nat) : Int)])
  else .iface 130 (.agg #[.int .i64 ((Kw.g s a : Int) - 65), .int .i64 (Kw.nv s a : Int)])
def Post (b : Nat) (s : ByteArray) (a k : Nat) (v : Value) (w : World) (e : Ending) (w' : World) : Prop :=
  Below b w w' ∧ ((k ≠ 0 ∧ e = .returned (.tuple #[v, .bool true]) ∧ Rd b s (a + k) w') ∨ (k = 0 ∧ (∃ u, e = .returned (.tuple #[u, .bool false])) ∧ ∃ a1, Rd b s a1 w'))
theorem Post.yes {b : Nat} {s : ByteArray} {a k : Nat} {v : Value} {w : World} {e : Ending} {w' : World} (h : Post b s a k v w e w') (hk : k ≠ 0) : e = .returned (.tuple #[v, .bool true]) ∧ Rd b s (a + k) w' ∧ Below b w w' := by
 obtain ⟨h1, ⟨_, h2, h3⟩ | ⟨h2, _⟩⟩ := h
 · exact ⟨h2, h3, h1⟩
 · exact absurd h2 hk
theorem Post.no {b : Nat} {s : ByteArray} {a k : Nat} {v : Value} {w : World} {e : Ending} {w' : World} (h : Post b s a k v w e w') (hk : k = 0) : ∃ u, e = .returned (.tuple #[u, .bool false]) ∧ (∃ a1, Rd b s a1 w') ∧ Below b w w' := by
 obtain ⟨h1, ⟨h2, _⟩ | ⟨_, ⟨u, h2⟩, h3⟩⟩ := h
 · exact absurd hk h2
 · exact ⟨u, h2, h3, h1⟩
def PostN (b : Nat) (s : ByteArray) (a k : Nat) (v : Value) (w : World) (e : Ending) (w' : World) : Prop :=
  Below b w w' ∧ ((k ≠ 0 ∧ e = .returned (.tuple #[v, .bool true]) ∧ Rd b s (a + k) w') ∨ (k = 0 ∧ e = .returned (.tuple #[.string ⟨#[]⟩, .bool false]) ∧ ∃ a1, Rd b s a1 w'))
theorem PostN.yes {b : Nat} {s : ByteArray} {a k : Nat} {v : Value} {w : World} {e : Ending} {w' : World} (h : PostN b s a k v w e w') (hk : k ≠ 0) : e = .returned (.tuple #[v, .bool true]) ∧ Rd b s (a + k) w' ∧ Below b w w' := by
 obtain ⟨h1, ⟨_, h2, h3⟩ | ⟨h2, _⟩⟩ := h
 · exact ⟨h2, h3, h1⟩
 · exact absurd h2 hk
theorem PostN.no {b : Nat} {s : ByteArray} {a k : Nat} {v : Value} {w : World} {e : Ending} {w' : World} (h : PostN b s a k v w e w') (hk : k = 0) : e = .returned (.tuple #[.string ⟨#[]⟩, .bool false]) ∧ (∃ a1, Rd b s a1 w') ∧ Below b w w' := by
 obtain ⟨h1, ⟨h2, _⟩ | ⟨_, h2, h3⟩⟩ := h
 · exact absurd hk h2
 · exact ⟨h2, h3, h1⟩
set_option maxHeartbeats 400000 in
theorem readNew_any (b : Nat) (s : ByteArray) (a : Nat) (w : World) (hs : s.size ≤ 300) (h : Rd b s a w) (ha : a ≤ s.size) : Calls Tryz.prog 40 #[.pointer (some ⟨b, 0, none⟩)] w (Post b s a (Kw.fresh s a) (.iface 130 (.agg #[.int .i64 ((Kw.g s a : Int) - 65), .int .i64 (Kw.nv s a : Int)])) w) := by
 have hr := hide h; clear h; by_cases hf : Kw.fresh s a = 0
 · by_cases hl : Kw.g s a < 65 ∨ 72 < Kw.g s a
   · have hf' := hide hf; clear hf; go_enter Tryz.func40, Tryz.ntmps40; (go_wp2_with fail); refine (readLetter_no b s a _ hs hr.out hl).mono ?_; rintro e w1 ⟨v1, rfl, r1, hb1⟩; (go_wp2_with fail); go_ret2; exact ⟨hb1, .inr ⟨hf'.out, ⟨_, rfl⟩, r1⟩⟩
   · have hn := Kw.fresh_no hf (by omega) (by omega); have ha2 : a < s.size := Kw.g_lt.1 (by omega); have hf' := hide hf; clear hf; rcases hn with hn | ⟨n, a1, hn, h59, ha1⟩
     · have hN := hide hn; clear hn; go_enter Tryz.func40, Tryz.ntmps40; (go_wp2_with fail); refine (readLetter_yes b s a _ hs hr.out (by omega) (by omega)).mono ?_; rintro e w1 ⟨rfl, r1, hb1⟩; (go_wp2_with fail); refine (readNumber_no b s (a + 1) _ 99 rfl _ hs r1 (by omega) (by omega) hN).mono ?_; rintro e w2 ⟨rfl, r2, hb2⟩; (go_wp2_with fail); go_ret2; exact ⟨hb1.trans hb2, .inr ⟨hf'.out, ⟨_, rfl⟩, r2⟩⟩
     · have hN := hide hn; clear hn; by_cases ha3 : a1 < s.size
       · (have hne : ((Kw.g s a1 : Int) == 59) = false := by simp; omega); have hg := Kw.g_lt.2 ha3; clear h59; go_enter Tryz.func40, Tryz.ntmps40; (go_wp2_with fail); refine (readLetter_yes b s a _ hs hr.out (by omega) (by omega)).mono ?_; rintro e w1 ⟨rfl, r1, hb1⟩; (go_wp2_with fail); refine (readNumber_yes b s (a + 1) _ 99 rfl _ hs r1 (by omega) (by omega) hN).mono ?_; rintro e w2 ⟨rfl, r2, hb2⟩; (go_wp2_with fail); refine (readSign_in b s a1 _ hs r2 ha3).mono ?_; rintro e w3 ⟨rfl, r3, hb3⟩; (go_wp2_with fail); go_ret2; exact ⟨(hb1.trans hb2).trans hb3, .inr ⟨hf'.out, ⟨_, rfl⟩, ⟨_, r3⟩⟩⟩
       · clear h59; go_enter Tryz.func40, Tryz.ntmps40; (go_wp2_with fail); refine (readLetter_yes b s a _ hs hr.out (by omega) (by omega)).mono ?_; rintro e w1 ⟨rfl, r1, hb1⟩; (go_wp2_with fail); refine (readNumber_yes b s (a + 1) _ 99 rfl _ hs r1 (by omega) (by omega) hN).mono ?_; rintro e w2 ⟨rfl, r2, hb2⟩; (go_wp2_with fail); refine (readSign_out b s a1 _ r2 (by omega)).mono ?_; rintro e w3 ⟨rfl, r3, hb3⟩; (go_wp2_with fail); go_ret2; exact ⟨(hb1.trans hb2).trans hb3, .inr ⟨hf'.out, ⟨_, rfl⟩, ⟨_, r3⟩⟩⟩
 · obtain ⟨p1, p2, p3, p4, p5⟩ := Kw.fresh_yes hf; have ple := Kw.fresh_le hf; have hN := hide p3; have hf' := hide hf; (have ha3 : a + Kw.fresh s a - 1 < s.size := by omega); have heq : Kw.g s (a + Kw.fresh s a - 1) = 59 := p4; (have hpos : a + Kw.fresh s a - 1 + 1 = a + Kw.fresh s a := by omega); have hpos' := hide hpos; generalize hq : a + Kw.fresh s a - 1 = q at *; clear p3 hf p4 hpos; have hq' := hide hq; clear hq; go_enter Tryz.func40, Tryz.ntmps40; (go_wp2_with fail); refine (readLetter_yes b s a _ hs hr.out p1 p2).mono ?_; rintro e w1 ⟨rfl, r1, hb1⟩; (go_wp2_with fail); refine (readNumber_yes b s (a + 1) _ 99 rfl _ hs r1 (by omega) (by omega) hN).mono ?_; rintro e w2 ⟨rfl, r2, hb2⟩; (go_wp2_with fail); refine (readSign_in b s q _ hs r2 ha3).mono ?_; rintro e w3 ⟨rfl, r3, hb3⟩; (go_wp2_with fail); go_ret2; exact ⟨(hb1.trans hb2).trans hb3, .inl ⟨hf'.out, rfl, by rw [hpos'.out] at r3; exact r3⟩⟩
def HowAt (b : Nat) (s : ByteArray) (a : Nat) : Prop := ∀ w, Rd b s a w → Calls Tryz.prog 22 #[.pointer (some ⟨b, 0, none⟩)] w (Post b s a (Kw.len s a) (secV s a) w)
def NameAt (b : Nat) (s : ByteArray) (a : Nat) : Prop := ∀ w, Rd b s a w → Calls Tryz.prog 36 #[.pointer (some ⟨b, 0, none⟩)] w (PostN b s a (Kw.len s a) (.string (s.extract a (a + Kw.len s a))) w)
set_option maxHeartbeats 400000 in
theorem readName_of (b : Nat) (s : ByteArray) (a : Nat) (H : HowAt b s a) : NameAt b s a := by
 intro w h; have hr := hide h; have hh := hide h; obtain ⟨t, p, f, lt⟩ := h; by_cases hl : Kw.len s a = 0
 · have hl' := hide hl; clear hl; go_enter Tryz.func36, Tryz.ntmps36; (go_wp2_with fail); refine (H _ hr.out).mono ?_; rintro e w1 h1; obtain ⟨u, rfl, r1, hb1⟩ := h1.no hl'.out; clear h1; (go_wp2_with fail); go_ret2; exact ⟨hb1, .inr ⟨hl'.out, rfl, r1⟩⟩
 · have hle := Kw.len_le hl; have hl' := hide hl; clear hl; go_enter Tryz.func36, Tryz.ntmps36; (go_wp2_with fail); refine (H _ hr.out).mono ?_; rintro e w1 h1; obtain ⟨rfl, r1, hb1⟩ := h1.yes hl'.out; clear h1; have hr1 := hide r1; clear t p f lt; obtain ⟨t, p, f, lt⟩ := r1; generalize Kw.len s a = k at *; (have i0 : a ≤ a + k := by omega); generalize hk : a + k = m at *; have hk' := hide hk; clear hk; (have i1 : (a : Int) ≤ (m : Int) := by omega); (have i2 : (m : Int) ≤ (s.size : Int) := by omega); (go_wp2_with fail); go_quiet (fail); (go_wp2_with fail); go_ret2; obtain ⟨r2, hb2⟩ := hr1.out.drewN nq; exact ⟨hb1.trans hb2, .inl ⟨hl'.out, rfl, by rw [hk'.out]; exact r2⟩⟩
set_option maxHeartbeats 400000 in
theorem readEpoch_of (b : Nat) (s : ByteArray) (a : Nat) (H : NameAt b s a) (H2 : Kw.len s a ≠ 0 → NameAt b s (a + Kw.len s a)) (w : World) (h : Rd b s a w) : Calls Tryz.prog 37 #[.pointer (some ⟨b, 0, none⟩)] w (Post b s a (Kw.epLen s a) (.iface 121 (.agg #[.string (s.extract a (a + Kw.len s a)), .string (s.extract (a + Kw.len s a) (a + Kw.len s a + Kw.len s (a + Kw.len s a)))])) w) := by
 have hr := hide h; clear h; by_cases hl : Kw.len s a = 0
 · have hl' := hide hl; clear hl; go_enter Tryz.func37, Tryz.ntmps37; (go_wp2_with fail); refine (H _ hr.out).mono ?_; rintro e w1 h1; obtain ⟨rfl, r1, hb1⟩ := h1.no hl'.out; clear h1; (go_wp2_with fail); go_ret2; exact ⟨hb1, .inr ⟨by unfold Kw.epLen; rw [if_pos hl'.out], ⟨_, rfl⟩, r1⟩⟩
 · have H3 := H2 hl; clear H2; have hl' := hide hl; clear hl; generalize hm : a + Kw.len s a = m at *; have hm' := hide hm; clear hm; by_cases hk : Kw.len s m = 0
   · have hk' := hide hk; clear hk; go_enter Tryz.func37, Tryz.ntmps37; (go_wp2_with fail); refine (H _ hr.out).mono ?_; rintro e w1 h1; obtain ⟨rfl, r1, hb1⟩ := h1.yes hl'.out; rw [hm'.out] at r1; clear h1; (go_wp2_with fail); refine (H3 _ r1).mono ?_; rintro e w2 h2; obtain ⟨rfl, r2, hb2⟩ := h2.no hk'.out; clear h2; (go_wp2_with fail); go_ret2; exact ⟨hb1.trans hb2, .inr ⟨by unfold Kw.epLen; rw [if_neg hl'.out, hm'.out, Kw.more_zero hk'.out], ⟨_, rfl⟩, r2⟩⟩
   · have hk' := hide hk; clear hk; go_enter Tryz.func37, Tryz.ntmps37; (go_wp2_with fail); refine (H _ hr.out).mono ?_; rintro e w1 h1; obtain ⟨rfl, r1, hb1⟩ := h1.yes hl'.out; rw [hm'.out] at r1 ⊢; clear h1; (go_wp2_with fail); refine (H3 _ r1).mono ?_; rintro e w2 h2; obtain ⟨rfl, r2, hb2⟩ := h2.yes hk'.out; clear h2; (go_wp2_with fail); go_ret2; (have e2 : Kw.epLen s a = Kw.len s a + Kw.len s m := by unfold Kw.epLen; rw [if_neg hl'.out, hm'.out, Kw.more_pos hk'.out]); refine ⟨hb1.trans hb2, .inl ⟨by rw [e2]; have := hk'.out; omega, rfl, ?_⟩⟩; rw [e2, ← Nat.add_assoc, hm'.out]; exact r2
set_option maxHeartbeats 400000 in
theorem readSay_of (b : Nat) (s : ByteArray) (a : Nat) (hs : s.size ≤ 300) (H : a < s.size → NameAt b s (a + 1)) (w : World) (h : Rd b s a w) : Calls Tryz.prog 38 #[.pointer (some ⟨b, 0, none⟩)] w (Post b s a (Kw.sayLen s a) (.iface 125 (.agg #[.string (s.extract (a + 1) (a + 1 + Kw.len s (a + 1))), .int .i64 ((Kw.g s a : Int) - 65)])) w) := by
 have hr := hide h; clear h; by_cases hl : Kw.g s a < 65 ∨ 72 < Kw.g s a
 · clear H; go_enter Tryz.func38, Tryz.ntmps38; (go_wp2_with fail); refine (readLetter_no b s a _ hs hr.out hl).mono ?_; rintro e w1 ⟨v1, rfl, r1, hb1⟩; (go_wp2_with fail); go_ret2; exact ⟨hb1, .inr ⟨by unfold Kw.sayLen; rw [if_neg (by omega)], ⟨_, rfl⟩, r1⟩⟩
 · (have h1 : 65 ≤ Kw.g s a := by omega); (have h2 : Kw.g s a ≤ 72 := by omega); have H1 := H (Kw.g_lt.1 (by omega)); clear H hl; by_cases hk : Kw.len s (a + 1) = 0
   · have hk' := hide hk; clear hk; go_enter Tryz.func38, Tryz.ntmps38; (go_wp2_with fail); refine (readLetter_yes b s a _ hs hr.out h1 h2).mono ?_; rintro e w1 ⟨rfl, r1, hb1⟩; (go_wp2_with fail); refine (H1 _ r1).mono ?_; rintro e w2 h3; obtain ⟨rfl, r2, hb2⟩ := h3.no hk'.out; clear h3; (go_wp2_with fail); go_ret2; exact ⟨hb1.trans hb2, .inr ⟨by unfold Kw.sayLen; rw [if_pos ⟨h1, h2⟩, Kw.more_zero hk'.out], ⟨_, rfl⟩, r2⟩⟩
   · have hk' := hide hk; clear hk; go_enter Tryz.func38, Tryz.ntmps38; (go_wp2_with fail); refine (readLetter_yes b s a _ hs hr.out h1 h2).mono ?_; rintro e w1 ⟨rfl, r1, hb1⟩; (go_wp2_with fail); refine (H1 _ r1).mono ?_; rintro e w2 h3; obtain ⟨rfl, r2, hb2⟩ := h3.yes hk'.out; clear h3; (go_wp2_with fail); go_ret2; (have e2 : Kw.sayLen s a = 1 + Kw.len s (a + 1) := by unfold Kw.sayLen; rw [if_pos ⟨h1, h2⟩, Kw.more_pos hk'.out]); refine ⟨hb1.trans hb2, .inl ⟨by rw [e2]; omega, rfl, ?_⟩⟩; rw [e2, ← Nat.add_assoc]; exact r2
set_option maxHeartbeats 400000 in
theorem readRoom_of (b : Nat) (s : ByteArray) (a : Nat) (hs : s.size ≤ 300) (ha : a ≤ s.size) (H : a < s.size → NameAt b s (a + 1)) (w : World) (h : Rd b s a w) : Calls Tryz.prog 39 #[.pointer (some ⟨b, 0, none⟩)] w (Post b s a (Kw.roomLen s a) (.iface 128 (.agg #[.string (s.extract (a + 1) (a + 1 + Kw.len s (a + 1))), .int .i64 ((Kw.g s a - 48 : Nat) : Int)])) w) := by
 have hr := hide h; clear h
 have key : (Kw.num s 9 a = none ∧ Kw.roomLen s a = 0) ∨ (Kw.num s 9 a = some (Kw.g s a - 48, a + 1) ∧ 49 ≤ Kw.g s a ∧ Kw.g s a ≤ 57) := by
  by_cases hg : 49 ≤ Kw.g s a ∧ Kw.g s a ≤ 57
  · by_cases hk : Kw.len s (a + 1) = 0
    · rcases Kw.room_no hg with h | h
      · exact .inl ⟨h, by unfold Kw.roomLen; rw [if_pos hg, Kw.more_zero hk]⟩
      · exact .inr ⟨h, hg⟩
    · exact .inr ⟨Kw.room_yes hg hk, hg⟩
  · exact .inl ⟨Kw.num_zero (by omega), by unfold Kw.roomLen; rw [if_neg hg]⟩
 rcases key with ⟨hn, he⟩ | ⟨hn, h1, h2⟩
 · have hN := hide hn; have hE := hide he; clear hn he H; go_enter Tryz.func39, Tryz.ntmps39; (go_wp2_with fail); refine (readNumber_no b s a _ 9 rfl _ hs hr.out ha (by omega) hN).mono ?_; rintro e w1 ⟨rfl, r1, hb1⟩; (go_wp2_with fail); go_ret2; exact ⟨hb1, .inr ⟨hE.out, ⟨_, rfl⟩, r1⟩⟩
 · have hN := hide hn; clear hn; have H1 := H (Kw.g_lt.1 (by omega)); clear H; by_cases hk : Kw.len s (a + 1) = 0
   · have hk' := hide hk; clear hk; go_enter Tryz.func39, Tryz.ntmps39; (go_wp2_with fail); refine (readNumber_yes b s a _ 9 rfl _ hs hr.out ha (by omega) hN).mono ?_; rintro e w1 ⟨rfl, r1, hb1⟩; (go_wp2_with fail); refine (H1 _ r1).mono ?_; rintro e w2 h3; obtain ⟨rfl, r2, hb2⟩ := h3.no hk'.out; clear h3; (go_wp2_with fail); go_ret2; exact ⟨hb1.trans hb2, .inr ⟨by unfold Kw.roomLen; rw [if_pos ⟨h1, h2⟩, Kw.more_zero hk'.out], ⟨_, rfl⟩, r2⟩⟩
   · have hk' := hide hk; clear hk; go_enter Tryz.func39, Tryz.ntmps39; (go_wp2_with fail); refine (readNumber_yes b s a _ 9 rfl _ hs hr.out ha (by omega) hN).mono ?_; rintro e w1 ⟨rfl, r1, hb1⟩; (go_wp2_with fail); refine (H1 _ r1).mono ?_; rintro e w2 h3; obtain ⟨rfl, r2, hb2⟩ := h3.yes hk'.out; clear h3; (go_wp2_with fail); go_ret2; (have e2 : Kw.roomLen s a = 1 + Kw.len s (a + 1) := by unfold Kw.roomLen; rw [if_pos ⟨h1, h2⟩, Kw.more_pos hk'.out]); refine ⟨hb1.trans hb2, .inl ⟨by rw [e2]; omega, rfl, ?_⟩⟩; rw [e2, ← Nat.add_assoc]; exact r2
end Go.Proofs.YtdfpeaenbmgihaaGreat
/-
  The program's SecOk and readSecret: at every text they answer as the plain function on names does.
-/
namespace Go.Proofs.YtdfpeaenbmgihaaGreat
open Go.RowKit
theorem Rd.back {b : Nat} {s : ByteArray} {a : Nat} {w : World} (h : Rd b s (a + 1) w) (v : Value) (hv : v = .int .i64 (a : Int)) : Rd b s a (w.setCell ⟨b, 1, none⟩ v) ∧ Below b w (w.setCell ⟨b, 1, none⟩ v) := by obtain ⟨t, p, f, lt⟩ := h; subst hv; refine ⟨⟨by simp [go_sem, t], by simp [go_sem, p], by simp [go_sem, f], by simpa [World.setCell] using lt⟩, ?_⟩; exact (Below.refl b w).setCell (p := ⟨b, 1, none⟩) (Nat.le_refl _) _
theorem Post.form {b : Nat} {s : ByteArray} {a k : Nat} {v : Value} {w : World} {e : Ending} {w' : World} (h : Post b s a k v w e w') : ∃ u c, e = .returned (.tuple #[u, .bool c]) ∧ Post b s a k v w (.returned (.tuple #[u, .bool c])) w' := by
 have h0 := h; obtain ⟨h1, ⟨h2, h3, h4⟩ | ⟨h2, ⟨u, h3⟩, h4⟩⟩ := h
 · exact ⟨_, _, h3, by rw [← h3]; exact h0⟩
 · exact ⟨_, _, h3, by rw [← h3]; exact h0⟩
theorem PostN.form {b : Nat} {s : ByteArray} {a k : Nat} {x : ByteArray} {w : World} {e : Ending} {w' : World} (h : PostN b s a k (.string x) w e w') : ∃ u c, e = .returned (.tuple #[.string u, .bool c]) ∧ PostN b s a k (.string x) w (.returned (.tuple #[.string u, .bool c])) w' := by
 have h0 := h; obtain ⟨h1, ⟨h2, h3, h4⟩ | ⟨h2, h3, h4⟩⟩ := h
 · exact ⟨_, _, h3, by rw [← h3]; exact h0⟩
 · exact ⟨_, _, h3, by rw [← h3]; exact h0⟩
theorem Post.lift {b : Nat} {s : ByteArray} {a k : Nat} {v : Value} {w w1 : World} {e : Ending} {w' : World} (h : Post b s (a + 1) k v w1 e w') (hb : Below b w w1) (hl : Kw.len s a = Kw.more 1 k) (hv : secV s a = v) : Post b s a (Kw.len s a) (secV s a) w e w' := by
 rw [hv]; obtain ⟨h1, ⟨h2, h3, h4⟩ | ⟨h2, h3, h4⟩⟩ := h
 · rw [hl, Kw.more_pos h2]; exact ⟨hb.trans h1, .inl ⟨by omega, h3, by rw [← Nat.add_assoc]; exact h4⟩⟩
 · rw [hl, Kw.more_zero h2]; exact ⟨hb.trans h1, .inr ⟨rfl, h3, h4⟩⟩
theorem PostN.lift {b : Nat} {s : ByteArray} {a k t : Nat} {x u : ByteArray} {c : Bool} {w w1 : World} {w' : World} (h : PostN b s (a + 1) k (.string x) w1 (.returned (.tuple #[.string u, .bool c])) w') (hb : Below b w w1) (hl : Kw.len s a = Kw.more 1 k) (hv : secV s a = .iface t (.agg #[.string x])) : Post b s a (Kw.len s a) (secV s a) w (.returned (.tuple #[.iface t (.agg #[.string u]), .bool c])) w' := by
 rw [hv]; obtain ⟨h1, ⟨h2, h3, h4⟩ | ⟨h2, h3, h4⟩⟩ := h
 · simp at h3; obtain ⟨rfl, rfl⟩ := h3; rw [hl, Kw.more_pos h2]; exact ⟨hb.trans h1, .inl ⟨by omega, rfl, by rw [← Nat.add_assoc]; exact h4⟩⟩
 · simp at h3; obtain ⟨rfl, rfl⟩ := h3; rw [hl, Kw.more_zero h2]; exact ⟨hb.trans h1, .inr ⟨rfl, ⟨_, rfl⟩, h4⟩⟩
theorem Post.lift0 {b : Nat} {s : ByteArray} {a : Nat} {v : Value} {w w1 : World} {e : Ending} {w' : World} (h : Post b s a (Kw.fresh s a) v w1 e w') (hb : Below b w w1) (hl : Kw.len s a = Kw.fresh s a) (hv : secV s a = v) : Post b s a (Kw.len s a) (secV s a) w e w' := by rw [hv, hl]; exact ⟨hb.trans h.1, h.2⟩
set_option maxHeartbeats 1000000 in
theorem readHow_step (b : Nat) (s : ByteArray) (hs : s.size ≤ 300) (a : Nat) (ha : a < s.size) (ih : ∀ m, a < m → m ≤ s.size → HowAt b s m) : HowAt b s a := by
 intro w h; have hr := hide h; clear h; have hN1 : NameAt b s (a + 1) := readName_of b s (a + 1) (ih _ (by omega) (by omega)); have hg := Kw.g_lt.2 ha; by_cases c1 : Kw.g s a = 110
 · (have e1 : ((Kw.g s a : Int) == 110) = true := by simp; omega); have C1 := hide c1; clear c1; go_enter Tryz.func22, Tryz.ntmps22; (go_wp2_with fail); refine (readSign_in b s a _ hs hr.out ha).mono ?_; rintro e w1 ⟨rfl, r1, hb1⟩; (go_wp2_with fail); refine (hN1 _ r1).mono ?_; rintro e w2 h2; obtain ⟨u, c, rfl, hp⟩ := h2.form; clear h2; (go_wp2_with fail); go_ret2; exact hp.lift hb1 (Kw.len_nk (.inl C1.out)) (by unfold secV; rw [if_pos C1.out])
 (have e1 : ((Kw.g s a : Int) == 110) = false := by simp; omega); by_cases c2 : Kw.g s a = 107
 · (have e2 : ((Kw.g s a : Int) == 107) = true := by simp; omega); have C2 := hide c2; have C1 := hide c1; clear c2 c1; go_enter Tryz.func22, Tryz.ntmps22; (go_wp2_with fail); refine (readSign_in b s a _ hs hr.out ha).mono ?_; rintro e w1 ⟨rfl, r1, hb1⟩; (go_wp2_with fail); refine (hN1 _ r1).mono ?_; rintro e w2 h2; obtain ⟨u, c, rfl, hp⟩ := h2.form; clear h2; (go_wp2_with fail); go_ret2; exact hp.lift hb1 (Kw.len_nk (.inr C2.out)) (by unfold secV; rw [if_neg C1.out, if_pos C2.out])
 (have e2 : ((Kw.g s a : Int) == 107) = false := by simp; omega); by_cases c3 : Kw.g s a = 101
 · (have e3 : ((Kw.g s a : Int) == 101) = true := by simp; omega); have C3 := hide c3; have C2 := hide c2; have C1 := hide c1; have hN2 : Kw.len s (a + 1) ≠ 0 → NameAt b s (a + 1 + Kw.len s (a + 1)) := fun hl => readName_of b s _ (ih _ (by omega) (Kw.len_le hl)); have HN2 := hide hN2; clear c3 c2 c1 hN2; go_enter Tryz.func22, Tryz.ntmps22; (go_wp2_with fail); refine (readSign_in b s a _ hs hr.out ha).mono ?_; rintro e w1 ⟨rfl, r1, hb1⟩; (go_wp2_with fail); refine (readEpoch_of b s (a + 1) hN1 HN2.out _ r1).mono ?_; rintro e w2 h2; obtain ⟨u, c, rfl, hp⟩ := h2.form; clear h2; (go_wp2_with fail); go_ret2; exact hp.lift hb1 (Kw.len_e C3.out) (by unfold secV; rw [if_neg C1.out, if_neg C2.out, if_pos C3.out])
 (have e3 : ((Kw.g s a : Int) == 101) = false := by simp; omega); have hN2 : a + 1 < s.size → NameAt b s (a + 1 + 1) := fun hl => readName_of b s _ (ih _ (by omega) (by omega)); have HN2 := hide hN2; clear hN2; by_cases c4 : Kw.g s a = 109
 · (have e4 : ((Kw.g s a : Int) == 109) = true := by simp; omega); have C4 := hide c4; have C3 := hide c3; have C2 := hide c2; have C1 := hide c1; clear c4 c3 c2 c1; go_enter Tryz.func22, Tryz.ntmps22; (go_wp2_with fail); refine (readSign_in b s a _ hs hr.out ha).mono ?_; rintro e w1 ⟨rfl, r1, hb1⟩; (go_wp2_with fail); refine (readSay_of b s (a + 1) hs HN2.out _ r1).mono ?_; rintro e w2 h2; obtain ⟨u, c, rfl, hp⟩ := h2.form; clear h2; (go_wp2_with fail); go_ret2; exact hp.lift hb1 (Kw.len_m C4.out) (by unfold secV; rw [if_neg C1.out, if_neg C2.out, if_neg C3.out, if_pos C4.out])
 (have e4 : ((Kw.g s a : Int) == 109) = false := by simp; omega); by_cases c5 : Kw.g s a = 114
 · (have e5 : ((Kw.g s a : Int) == 114) = true := by simp; omega); have C5 := hide c5; have C4 := hide c4; have C3 := hide c3; have C2 := hide c2; have C1 := hide c1; clear c5 c4 c3 c2 c1; go_enter Tryz.func22, Tryz.ntmps22; (go_wp2_with fail); refine (readSign_in b s a _ hs hr.out ha).mono ?_; rintro e w1 ⟨rfl, r1, hb1⟩; (go_wp2_with fail); refine (readRoom_of b s (a + 1) hs (by omega) HN2.out _ r1).mono ?_; rintro e w2 h2; obtain ⟨u, c, rfl, hp⟩ := h2.form; clear h2; (go_wp2_with fail); go_ret2; exact hp.lift hb1 (Kw.len_r C5.out) (by unfold secV; rw [if_neg C1.out, if_neg C2.out, if_neg C3.out, if_neg C4.out, if_pos C5.out])
 (have e5 : ((Kw.g s a : Int) == 114) = false := by simp; omega); have C5 := hide c5; have C4 := hide c4; have C3 := hide c3; have C2 := hide c2; have C1 := hide c1; clear c5 c4 c3 c2 c1 HN2 hN1; go_enter Tryz.func22, Tryz.ntmps22; (go_wp2_with fail); refine (readSign_in b s a _ hs hr.out ha).mono ?_; rintro e w1 ⟨rfl, r1, hb1⟩; have R1 := hide r1; obtain ⟨t, p, f, lt⟩ := r1; (go_wp2_with fail); obtain ⟨r2, hb2⟩ := R1.out.back (.int .i64 (a : Int)) rfl; refine (readNew_any b s a _ hs r2 (by omega)).mono ?_; rintro e w2 h2; obtain ⟨u, c, rfl, hp⟩ := h2.form; clear h2; (go_wp2_with fail); go_ret2; exact hp.lift0 (hb1.trans hb2) (Kw.len_else C1.out C2.out C4.out C5.out C3.out) (by unfold secV; rw [if_neg C1.out, if_neg C2.out, if_neg C3.out, if_neg C4.out, if_neg C5.out])
set_option maxHeartbeats 400000 in
theorem readHow_out (b : Nat) (s : ByteArray) (a : Nat) (ha : s.size ≤ a) : HowAt b s a := by intro w h; have hr := hide h; clear h; go_enter Tryz.func22, Tryz.ntmps22; (go_wp2_with fail); refine (readSign_out b s a _ hr.out ha).mono ?_; rintro e w1 ⟨rfl, r1, hb1⟩; (go_wp2_with fail); go_ret2; exact ⟨hb1, .inr ⟨Kw.len_out ha, ⟨_, rfl⟩, ⟨_, r1⟩⟩⟩
theorem readHow_all (b : Nat) (s : ByteArray) (hs : s.size ≤ 300) : ∀ f a, s.size - a ≤ f → HowAt b s a := by
 intro f
 induction f with
 | zero => intro a h; exact readHow_out b s a (by omega)
 | succ f ih =>
  intro a h; by_cases ha : a < s.size
  · exact readHow_step b s hs a ha (fun m h1 h2 => ih m (by omega))
  · exact readHow_out b s a (by omega)
def ReadPost (s : ByteArray) (w : World) (e : Ending) (w' : World) : Prop :=
  Below w.heap.size w w' ∧ ((Kw.ok s = true ∧ e = .returned (.tuple #[secV s 0, .bool true])) ∨ (Kw.ok s = false ∧ e = .returned (.tuple #[.nilIface, .bool false])))
theorem Rd.start (s : ByteArray) (w : World) : Rd w.heap.size s 0 (w.alloc (.cells #[.string s, .int .i64 0] 74)) :=
  ⟨by simp [go_sem], by simp [go_sem], by simp [go_sem], by simp⟩
set_option maxHeartbeats 400000 in
theorem readSecret_any (s : ByteArray) (w : World) (hm : s.size ≤ maxLen) : Calls Tryz.prog 17 #[.string s] w (ReadPost s w) := by
 unfold maxLen at hm; by_cases hs : s.size ≤ 300
 · have H := readHow_all w.heap.size s hs s.size 0 (by omega); have hb0 : Below w.heap.size w (w.alloc (.cells #[.string s, .int .i64 0] 74)) := (Below.refl _ _).alloc (Nat.le_refl _) _; by_cases hl : Kw.len s 0 = 0
   · have L := hide hl; clear hl; go_enter Tryz.func17, Tryz.ntmps17; (go_wp2_with fail); refine (H _ (Rd.start s w)).mono ?_; rintro e w1 h1; obtain ⟨u, rfl, r1, hb1⟩ := h1.no L.out; clear h1; (go_wp2_with fail); go_ret2; exact ⟨hb0.trans hb1, .inr ⟨ok_none L.out, rfl⟩⟩
   · have hle := Kw.len_le hl; have L := hide hl; clear hl; by_cases hq : Kw.len s 0 = s.size
     · have Q := hide hq; clear hq; go_enter Tryz.func17, Tryz.ntmps17; (go_wp2_with fail); refine (H _ (Rd.start s w)).mono ?_; rintro e w1 h1; obtain ⟨rfl, r1, hb1⟩ := h1.yes L.out; clear h1; rw [Nat.zero_add, Q.out] at r1; obtain ⟨t, p, f, lt⟩ := r1; (go_wp2_with fail); go_ret2; exact ⟨hb0.trans hb1, .inl ⟨ok_yes hs L.out Q.out, rfl⟩⟩
     · have Q := hide hq; (have hne : ((Kw.len s 0 : Int) != (s.size : Int)) = true := by simp; omega); clear hq; go_enter Tryz.func17, Tryz.ntmps17; (go_wp2_with fail); refine (H _ (Rd.start s w)).mono ?_; rintro e w1 h1; obtain ⟨rfl, r1, hb1⟩ := h1.yes L.out; clear h1; rw [Nat.zero_add] at r1; obtain ⟨t, p, f, lt⟩ := r1; (go_wp2_with fail); go_ret2; exact ⟨hb0.trans hb1, .inr ⟨ok_part Q.out, rfl⟩⟩
 · (have hs2 : 300 < s.size := by omega); go_enter Tryz.func17, Tryz.ntmps17; (go_wp2_with fail); go_ret2; exact ⟨Below.refl _ _, .inr ⟨ok_long hs2, rfl⟩⟩
theorem ReadPost.form {s : ByteArray} {w : World} {e : Ending} {w' : World} (h : ReadPost s w e w') : ∃ u, e = .returned (.tuple #[u, .bool (Kw.ok s)]) ∧ Below w.heap.size w w' := by
 obtain ⟨h1, ⟨h2, h3⟩ | ⟨h2, h3⟩⟩ := h
 · exact ⟨_, by rw [h2]; exact h3, h1⟩
 · exact ⟨_, by rw [h2]; exact h3, h1⟩
set_option maxHeartbeats 400000 in
theorem iSecOk_any (s : ByteArray) (w : World) (hm : s.size ≤ maxLen) : Calls Tryz.prog 13 #[.string s] w fun e w' => e = .returned (.bool (Kw.ok s)) ∧ Below w.heap.size w w' := by have M := hide hm; clear hm; go_enter Tryz.func13, Tryz.ntmps13; (go_wp2_with fail); refine (readSecret_any s _ M.out).mono ?_; rintro e w1 h1; obtain ⟨u, rfl, hb1⟩ := h1.form; clear h1; (go_wp2_with fail); go_ret; exact ⟨rfl, hb1⟩
end Go.Proofs.YtdfpeaenbmgihaaGreat
/-
  The library's Clone of a text hands back the same bytes: the library's own contract, laid at this program.
-/
namespace Go.Proofs.YtdfpeaenbmgihaaGreat
open Go.Shelf Go.RowKit
end Go.Proofs.YtdfpeaenbmgihaaGreat
/-
  The program's SecMade: what it answers, as a plain function of the text.
-/
namespace Go.Proofs.YtdfpeaenbmgihaaGreat
open Go.RowKit
def howV (op who n : Int) (a b : ByteArray) : Value := .agg #[.int .i64 op, .int .i64 who, .int .i64 n, .string a, .string b]
structure Res5 (b : Nat) (w : World) : Prop where
  c0 : w.cell? ⟨b, 0, none⟩ = some (.int .i64 0)
  c1 : w.cell? ⟨b, 1, none⟩ = some (.int .i64 0)
  c2 : w.cell? ⟨b, 2, none⟩ = some (.int .i64 0)
  c3 : w.cell? ⟨b, 3, none⟩ = some (.string ⟨#[]⟩)
  c4 : w.cell? ⟨b, 4, none⟩ = some (.string ⟨#[]⟩)
  z0 : w.frozen? ⟨b, 0, none⟩ = false
  z1 : w.frozen? ⟨b, 1, none⟩ = false
  z2 : w.frozen? ⟨b, 2, none⟩ = false
  z3 : w.frozen? ⟨b, 3, none⟩ = false
  z4 : w.frozen? ⟨b, 4, none⟩ = false
theorem Res5.keep {b : Nat} {W w1 : World} (h : Res5 b W) (hb : Below W.heap.size W w1) (hlt : b < W.heap.size) : Res5 b w1 := ⟨(hb.cell (p := ⟨b, 0, none⟩) hlt).trans h.c0, (hb.cell (p := ⟨b, 1, none⟩) hlt).trans h.c1, (hb.cell (p := ⟨b, 2, none⟩) hlt).trans h.c2, (hb.cell (p := ⟨b, 3, none⟩) hlt).trans h.c3, (hb.cell (p := ⟨b, 4, none⟩) hlt).trans h.c4, (hb.frozen (p := ⟨b, 0, none⟩) hlt).trans h.z0, (hb.frozen (p := ⟨b, 1, none⟩) hlt).trans h.z1, (hb.frozen (p := ⟨b, 2, none⟩) hlt).trans h.z2, (hb.frozen (p := ⟨b, 3, none⟩) hlt).trans h.z3, (hb.frozen (p := ⟨b, 4, none⟩) hlt).trans h.z4⟩
theorem below5 {B : Nat} {w w1 : World} (h : Below B w w1) {b : Nat} (hb : B ≤ b) (v0 v1 v2 v3 v4 : Value) : Below B w (((((w1.setCell ⟨b, 0, none⟩ v0).setCell ⟨b, 1, none⟩ v1).setCell ⟨b, 2, none⟩ v2).setCell ⟨b, 3, none⟩ v3).setCell ⟨b, 4, none⟩ v4) := ((((h.setCell (p := ⟨b, 0, none⟩) hb v0).setCell (p := ⟨b, 1, none⟩) hb v1).setCell (p := ⟨b, 2, none⟩) hb v2).setCell (p := ⟨b, 3, none⟩) hb v3).setCell (p := ⟨b, 4, none⟩) hb v4
end Go.Proofs.YtdfpeaenbmgihaaGreat
/-
  The program's SecMade: its contract.
-/
namespace Go.Proofs.YtdfpeaenbmgihaaGreat
open Go.RowKit
open Kw (g len nv ok)
def mOp (s : ByteArray) : Int := if ok s = true then (if g s 0 = 110 then 2 else if g s 0 = 107 then 3 else if g s 0 = 101 then 4 else if g s 0 = 109 then 5 else if g s 0 = 114 then 6 else 1) else 0
def mWho (s : ByteArray) : Int := if ok s = true then (if g s 0 = 110 then 0 else if g s 0 = 107 then 0 else if g s 0 = 101 then 0 else if g s 0 = 109 then (g s 1 : Int) - 65 else if g s 0 = 114 then 0 else (g s 0 : Int) - 65) else 0
def mN (s : ByteArray) : Int := if ok s = true then (if g s 0 = 110 then 0 else if g s 0 = 107 then 0 else if g s 0 = 101 then 0 else if g s 0 = 109 then 0 else if g s 0 = 114 then ((g s 1 - 48 : Nat) : Int) else (nv s 0 : Int)) else 0
def mA (s : ByteArray) : ByteArray := if ok s = true then (if g s 0 = 110 then s.extract 1 s.size else if g s 0 = 107 then s.extract 1 s.size else if g s 0 = 101 then s.extract 1 (1 + len s 1) else if g s 0 = 109 then s.extract 2 s.size else if g s 0 = 114 then s.extract 2 s.size else ⟨#[]⟩) else ⟨#[]⟩
def mB (s : ByteArray) : ByteArray := if ok s = true then (if g s 0 = 110 then ⟨#[]⟩ else if g s 0 = 107 then ⟨#[]⟩ else if g s 0 = 101 then s.extract (1 + len s 1) s.size else ⟨#[]⟩) else ⟨#[]⟩
end Go.Proofs.YtdfpeaenbmgihaaGreat
/-
  spec.l1In.
-/
namespace Go.Proofs.YtdfpeaenbmgihaaGreat
open Go.RowKit
set_option maxHeartbeats 400000 in
theorem l1In_yes (n lo hi : Int) (w : World) (h0 : lo ≤ n) (h1 : n ≤ hi) : Calls Tryz.prog 23 #[.int .i64 n, .int .i64 lo, .int .i64 hi] w fun e w' => e = .returned (.bool true) ∧ w' = w := by go_enter Tryz.func23, Tryz.ntmps23; go_wp2; go_ret; exact ⟨rfl, rfl⟩
set_option maxHeartbeats 400000 in
theorem l1In_no (n lo hi : Int) (w : World) (h : n < lo ∨ hi < n) : Calls Tryz.prog 23 #[.int .i64 n, .int .i64 lo, .int .i64 hi] w fun e w' => e = .returned (.bool false) ∧ w' = w := by
 by_cases h0 : lo ≤ n
 · (have h2 : decide (n ≤ hi) = false := by simp; omega); clear h; go_enter Tryz.func23, Tryz.ntmps23; go_wp2; go_ret; exact ⟨rfl, rfl⟩
 · (have h2 : decide (lo ≤ n) = false := by simp; omega); clear h; go_enter Tryz.func23, Tryz.ntmps23; go_wp2; go_ret; exact ⟨rfl, rfl⟩
end Go.Proofs.YtdfpeaenbmgihaaGreat
/-
  A byte as a text. No Go function in it.
-/
namespace Go.Proofs.YtdfpeaenbmgihaaGreat
open Go.RowKit
theorem conv1 (W : World) (a : Addr) (n : Int) (h : W.cell? a = some (.int .u8 n)) : (convert 22 9 (.slice (some a) 1 1)).run Tryz.prog W = .ok (.string (by1 n.toNat)) W := by
 rw [run_convert_bytes_string W 22 9 5 _ _ _ Tryz.underlying22 Tryz.underlying5 Tryz.underlying9]; rw [run_bytesToString W a 1 1 [n] ?_]
 · rfl
 · exact run_loadCells_list W a [.int .u8 n] (fun j v hj => by
     match j, hj with
     | 0, hj => simp at hj; subst hj; simpa [Addr.add] using h)
end Go.Proofs.YtdfpeaenbmgihaaGreat
/-
  Contracts of the functions that make new secrets' names, over the landed program.
-/
namespace Go.Proofs.YtdfpeaenbmgihaaGreat
open Go.RowKit
theorem ret_by1 {a b : Nat} (h : a = b) : Ending.returned (.string (by1 a)) = .returned (.string (by1 b)) := by rw [h]
set_option maxHeartbeats 400000 in
theorem l1Who_any (n : Int) (w : World) (h0 : 0 ≤ n) (h1 : n < 8) : Calls Tryz.prog 46 #[.int .i64 n] w fun e w' => e = .returned (.string (by1 (65 + n.toNat))) ∧ Below w.heap.size w w' := by have hc := conv1; go_enter Tryz.func46, Tryz.ntmps46; go_wp2; go_ret; exact ⟨ret_by1 (by omega), (Below.refl _ _).alloc (Nat.le_refl _) _⟩
set_option maxHeartbeats 400000 in
theorem l1Plain_any (n : Int) (w : World) (h0 : 0 ≤ n) (h1 : n < 100) : Calls Tryz.prog 47 #[.int .i64 n] w fun e w' => e = .returned (.string (dec n.toNat)) ∧ Below w.heap.size w w' := by
 have hc := conv1; have hs := by1_size; go_enter Tryz.func47, Tryz.ntmps47; go_wp2; go_loopw [0, 3] (fun m out wr => Below w.heap.size w wr ∧ ((m = .int .i64 n ∧ out = .string ⟨#[]⟩) ∨ (10 ≤ n ∧ m = .int .i64 (n / 10) ∧ out = .string (by1 (48 + n % 10).toNat)))) (fun m _ _ => (intOf m).toNat)
 case atStart => exact ⟨Below.refl _ _, .inl ⟨rfl, rfl⟩⟩
 case round =>
  obtain ⟨hb, ⟨rfl, rfl⟩ | ⟨h2, rfl, rfl⟩⟩ := hrel
  · by_cases h3 : n ≤ 9
    · go_wp2; go_ret; exact ⟨ret_str (by rw [dec_one _ (by omega), app_nil, show (48 + n).toNat = 48 + n.toNat by omega]), hb.alloc hb.size _⟩
    · go_wp2; exact ⟨⟨hb.alloc hb.size _, .inr ⟨by omega, rfl, by rw [app_nil]⟩⟩, by simp [intOf]; omega⟩
  · go_wp2; go_ret; exact ⟨ret_str (by rw [dec_two _ (by omega), show (48 + n / 10).toNat = 48 + n.toNat / 10 by omega, show (48 + n % 10).toNat = 48 + n.toNat % 10 by omega]), hb.alloc hb.size _⟩
set_option maxHeartbeats 400000 in
theorem sMakNew_any (who n : Int) (w : World) : Calls Tryz.prog 25 #[.int .i64 who, .int .i64 n] w fun e w' => e = .returned (.string (mkNew who n)) ∧ Below w.heap.size w w' := by
 by_cases h1 : who < 0 ∨ 7 < who
 · (have e1 : mkNew who n = ⟨#[]⟩ := by unfold mkNew; rw [if_neg (by omega)]); rw [e1]; go_enter Tryz.func25, Tryz.ntmps25; (go_wp2_with (go_at_call 23; refine (l1In_no _ _ _ _ h1).mono ?_; rintro e w' ⟨rfl, rfl⟩)); go_ret; exact ⟨rfl, Below.refl _ _⟩
 (have g0 : 0 ≤ who := by omega); (have g1 : who ≤ 7 := by omega); by_cases h2 : n < 1 ∨ 99 < n
 · (have e1 : mkNew who n = ⟨#[]⟩ := by unfold mkNew; rw [if_neg (by omega)]); rw [e1]; clear h1; go_enter Tryz.func25, Tryz.ntmps25; (go_wp2_with fail); refine (l1In_yes _ _ _ _ g0 g1).mono ?_; rintro e w' ⟨rfl, rfl⟩; (go_wp2_with fail); refine (l1In_no _ _ _ _ h2).mono ?_; rintro e w' ⟨rfl, rfl⟩; (go_wp2_with fail); go_ret; exact ⟨rfl, Below.refl _ _⟩
 (have e1 : mkNew who n = newName who.toNat n.toNat := by unfold mkNew; rw [if_pos (by omega)]); rw [e1]; (have g2 : 1 ≤ n := by omega); (have g3 : n ≤ 99 := by omega); (have g4 : 0 ≤ n := by omega); (have g5 : n < 100 := by omega); (have g6 : who < 8 := by omega); clear h1 h2 e1; have s1 : (by1 (65 + who.toNat)).size = 1 := rfl; rcases dec_sizes n.toNat with s2 | s2; all_goals go_enter Tryz.func25, Tryz.ntmps25 go_wp2_with fail refine (l1In_yes _ _ _ _ g0 g1).mono ?_ rintro e w' ⟨rfl, rfl⟩ go_wp2_with fail refine (l1In_yes _ _ _ _ g2 g3).mono ?_ rintro e w' ⟨rfl, rfl⟩ go_wp2_with fail refine (l1Who_any _ _ g0 g6).mono ?_ rintro e w1 ⟨rfl, hb1⟩ go_wp2_with fail refine (l1Plain_any _ _ g4 g5).mono ?_ rintro e w2 ⟨rfl, hb2⟩ go_wp2_with fail go_ret exact ⟨rfl, hb1.trans (hb2.mono hb1.size)⟩
end Go.Proofs.YtdfpeaenbmgihaaGreat
