/-
  What every law's last step needs: that a slice of bytes came in as a row of cells.
-/
import Derived.Test.YtdfpeaenbmgihaaGreatRows
import Derived.WalkKit
import Derived.ProofKit
import Derived.OpenShut
import Derived.ShutString
import Derived.ChangeOld
import Derived.Below
import Derived.KernelRfl
import Derived.WalkSpells
import Derived.WalkLawsBesides
import Derived.Deep.QuietTactic
import Derived.BigQuiet
import Derived.Outline
import Derived.RangeFuncNested
import Derived.Deep.MidRow
import Derived.OrdersHeld
import Derived.Deep.RegionHeld3
namespace Go.Proofs.YtdfpeaenbmgihaaGreat
set_option maxHeartbeats 64000000
set_option maxRecDepth 100000
open Go.RowKit
theorem own : ownKnob Tryz.prog.godebug = none := by kernel_rfl
theorem laidOut : laidOutB Tryz.prog = true := by kernel_rfl
def IsRow (k : IntKind) (w : World) (a : Option Addr) (len cap : Nat) (zs : List Int) : Prop :=
  (a = none ∧ len = 0 ∧ cap = 0 ∧ zs = []) ∨
  ∃ x, a = some x ∧ len ≤ cap ∧ cap ≤ maxLen ∧ zs.length = cap ∧ (∀ i, i < zs.length → w.cell? (x.add i) = some (.int k (zs.getD i 0))) ∧ ∀ n ∈ zs, (Lit.int k n).wf = true
end Go.Proofs.YtdfpeaenbmgihaaGreat
namespace Go.Proofs.YtdfpeaenbmgihaaGreat.Kw
def g (s : ByteArray) (i : Nat) : Nat := if h : i < s.size then (s[i]'h).toNat else 256
theorem g_in {s : ByteArray} {i : Nat} (h : i < s.size) : g s i = (s[i]'h).toNat := by simp [g, h]
theorem g_out {s : ByteArray} {i : Nat} (h : s.size ≤ i) : g s i = 256 := by (have : ¬ i < s.size := by omega); simp [g, this]
theorem g_lt {s : ByteArray} {i : Nat} : g s i < 256 ↔ i < s.size := by
 by_cases h : i < s.size
 · rw [g_in h]; have := (s[i]'h).toNat_lt; simp at this; omega
 · rw [g_out (by omega)]; omega
def fresh (s : ByteArray) (a : Nat) : Nat :=
  if 65 ≤ g s a ∧ g s a ≤ 72 ∧ 49 ≤ g s (a + 1) ∧ g s (a + 1) ≤ 57 then
    (if g s (a + 2) = 59 then 3 else if 48 ≤ g s (a + 2) ∧ g s (a + 2) ≤ 57 ∧ g s (a + 3) = 59 then 4 else 0)
  else 0
def more (n m : Nat) : Nat := if m = 0 then 0 else n + m
def sz (s : ByteArray) : Nat → Nat → Nat
  | 0, _ => 0
  | f + 1, a =>
    if g s a = 110 ∨ g s a = 107 then more 1 (sz s f (a + 1))
    else if g s a = 109 then (if 65 ≤ g s (a + 1) ∧ g s (a + 1) ≤ 72 then more 2 (sz s f (a + 2)) else 0)
    else if g s a = 114 then (if 49 ≤ g s (a + 1) ∧ g s (a + 1) ≤ 57 then more 2 (sz s f (a + 2)) else 0)
    else if g s a = 101 then (if sz s f (a + 1) = 0 then 0 else more (1 + sz s f (a + 1)) (sz s f (a + 1 + sz s f (a + 1))))
    else fresh s a
theorem sz_succ (s : ByteArray) (f a : Nat) : sz s (f + 1) a = if g s a = 110 ∨ g s a = 107 then more 1 (sz s f (a + 1)) else if g s a = 109 then (if 65 ≤ g s (a + 1) ∧ g s (a + 1) ≤ 72 then more 2 (sz s f (a + 2)) else 0) else if g s a = 114 then (if 49 ≤ g s (a + 1) ∧ g s (a + 1) ≤ 57 then more 2 (sz s f (a + 2)) else 0) else if g s a = 101 then (if sz s f (a + 1) = 0 then 0 else more (1 + sz s f (a + 1)) (sz s f (a + 1 + sz s f (a + 1)))) else fresh s a := rfl
theorem fresh_le {s : ByteArray} {a : Nat} (h : fresh s a ≠ 0) : a + fresh s a ≤ s.size := by
 unfold fresh at h ⊢; split at h
 · rename_i h1; rw [if_pos h1]; split at h
   · rename_i h2; rw [if_pos h2]; have := (g_lt (s := s) (i := a + 2)).1 (by omega); omega
   · rename_i h2; rw [if_neg h2]; split at h
     · rename_i h3; rw [if_pos h3]; have := (g_lt (s := s) (i := a + 3)).1 (by omega); omega
     · exact absurd rfl h
 · exact absurd rfl h
theorem fresh_out {s : ByteArray} {a : Nat} (h : s.size ≤ a) : fresh s a = 0 := by unfold fresh; rw [if_neg (by rw [g_out h]; omega)]
theorem more_ne {n m : Nat} (h : more n m ≠ 0) : m ≠ 0 ∧ more n m = n + m := by
 unfold more at h ⊢; by_cases e : m = 0
 · simp [e] at h
 · simp [e]
theorem sz_out {s : ByteArray} (f a : Nat) (h : s.size ≤ a) : sz s f a = 0 := by
 cases f with
 | zero => rfl
 | succ f =>
  unfold sz; rw [g_out h, if_neg (by omega), if_neg (by omega), if_neg (by omega), if_neg (by omega), fresh_out h]
theorem sz_le {s : ByteArray} (f : Nat) : ∀ a, sz s f a ≠ 0 → a + sz s f a ≤ s.size := by
 induction f with
 | zero => intro a h; exact absurd rfl h
 | succ f ih =>
  intro a h; unfold sz at h ⊢; by_cases h1 : g s a = 110 ∨ g s a = 107
  · rw [if_pos h1] at h ⊢; obtain ⟨h2, h3⟩ := more_ne h; have := ih _ h2; omega
  rw [if_neg h1] at h ⊢; by_cases h2 : g s a = 109
  · rw [if_pos h2] at h ⊢; by_cases h3 : 65 ≤ g s (a + 1) ∧ g s (a + 1) ≤ 72
    · rw [if_pos h3] at h ⊢; obtain ⟨h4, h5⟩ := more_ne h; have := ih _ h4; omega
    · rw [if_neg h3] at h; exact absurd rfl h
  rw [if_neg h2] at h ⊢; by_cases h3 : g s a = 114
  · rw [if_pos h3] at h ⊢; by_cases h4 : 49 ≤ g s (a + 1) ∧ g s (a + 1) ≤ 57
    · rw [if_pos h4] at h ⊢; obtain ⟨h5, h6⟩ := more_ne h; have := ih _ h5; omega
    · rw [if_neg h4] at h; exact absurd rfl h
  rw [if_neg h3] at h ⊢; by_cases h4 : g s a = 101
  · rw [if_pos h4] at h ⊢; by_cases h5 : sz s f (a + 1) = 0
    · rw [if_pos h5] at h; exact absurd rfl h
    · rw [if_neg h5] at h ⊢; obtain ⟨h6, h7⟩ := more_ne h; have := ih _ h6; omega
  rw [if_neg h4] at h ⊢; exact fresh_le h
theorem sz_step {s : ByteArray} (f : Nat) : ∀ a, s.size - a ≤ f → sz s (f + 1) a = sz s f a := by
 induction f with
 | zero => intro a h; rw [sz_out 1 a (by omega)]; rfl
 | succ f ih =>
  intro a h; have e : ∀ b, a < b → sz s (f + 1) b = sz s f b := fun b hb => ih b (by omega); rw [sz_succ s (f + 1) a, sz_succ s f a, e (a + 1) (by omega), e (a + 2) (by omega), e (a + 1 + sz s f (a + 1)) (by omega)]
theorem sz_fuel {s : ByteArray} {a : Nat} (f : Nat) (h : s.size - a ≤ f) (k : Nat) : sz s (f + k) a = sz s f a := by
 induction k with
 | zero => rfl
 | succ k ih => rw [← Nat.add_assoc, sz_step _ _ (by omega), ih]
def len (s : ByteArray) (a : Nat) : Nat := sz s (s.size - a) a
theorem len_eq {s : ByteArray} {a f : Nat} (h : s.size - a ≤ f) : sz s f a = len s a := by have := sz_fuel (s := s) (a := a) (s.size - a) (Nat.le_refl _) (f - (s.size - a)); rw [show s.size - a + (f - (s.size - a)) = f by omega] at this; exact this
theorem len_le {s : ByteArray} {a : Nat} (h : len s a ≠ 0) : a + len s a ≤ s.size := sz_le _ _ h
theorem len_out {s : ByteArray} {a : Nat} (h : s.size ≤ a) : len s a = 0 := sz_out _ _ h
theorem len_unfold (s : ByteArray) (a : Nat) : len s a = if g s a = 110 ∨ g s a = 107 then more 1 (len s (a + 1)) else if g s a = 109 then (if 65 ≤ g s (a + 1) ∧ g s (a + 1) ≤ 72 then more 2 (len s (a + 2)) else 0) else if g s a = 114 then (if 49 ≤ g s (a + 1) ∧ g s (a + 1) ≤ 57 then more 2 (len s (a + 2)) else 0) else if g s a = 101 then (if len s (a + 1) = 0 then 0 else more (1 + len s (a + 1)) (len s (a + 1 + len s (a + 1)))) else fresh s a := by rw [← len_eq (f := s.size - a + 1) (by omega), sz_succ, len_eq (by omega), len_eq (by omega), len_eq (by omega)]
def epLen (s : ByteArray) (a : Nat) : Nat := if len s a = 0 then 0 else more (len s a) (len s (a + len s a))
def sayLen (s : ByteArray) (a : Nat) : Nat := if 65 ≤ g s a ∧ g s a ≤ 72 then more 1 (len s (a + 1)) else 0
def roomLen (s : ByteArray) (a : Nat) : Nat := if 49 ≤ g s a ∧ g s a ≤ 57 then more 1 (len s (a + 1)) else 0
theorem more_one (n m : Nat) : more 1 (more n m) = more (1 + n) m := by
 unfold more; by_cases h : m = 0
 · simp [h]
 · rw [if_neg h, if_neg h]; by_cases h2 : n + m = 0
   · omega
   · rw [if_neg h2]; omega
theorem len_e {s : ByteArray} {a : Nat} (h : g s a = 101) : len s a = more 1 (epLen s (a + 1)) := by
 rw [len_unfold, if_neg (by omega), if_neg (by omega), if_neg (by omega), if_pos h]; unfold epLen; by_cases h1 : len s (a + 1) = 0
 · rw [if_pos h1, if_pos h1]; rfl
 · rw [if_neg h1, if_neg h1, more_one]
theorem len_m {s : ByteArray} {a : Nat} (h : g s a = 109) : len s a = more 1 (sayLen s (a + 1)) := by
 rw [len_unfold, if_neg (by omega), if_pos h]; unfold sayLen; by_cases h1 : 65 ≤ g s (a + 1) ∧ g s (a + 1) ≤ 72
 · rw [if_pos h1, if_pos h1, more_one]
 · rw [if_neg h1, if_neg h1]; rfl
theorem len_r {s : ByteArray} {a : Nat} (h : g s a = 114) : len s a = more 1 (roomLen s (a + 1)) := by
 rw [len_unfold, if_neg (by omega), if_neg (by omega), if_pos h]; unfold roomLen; by_cases h1 : 49 ≤ g s (a + 1) ∧ g s (a + 1) ≤ 57
 · rw [if_pos h1, if_pos h1, more_one]
 · rw [if_neg h1, if_neg h1]; rfl
theorem len_nk {s : ByteArray} {a : Nat} (h : g s a = 110 ∨ g s a = 107) : len s a = more 1 (len s (a + 1)) := by rw [len_unfold, if_pos h]
theorem len_else {s : ByteArray} {a : Nat} (h1 : g s a ≠ 110) (h2 : g s a ≠ 107) (h3 : g s a ≠ 109) (h4 : g s a ≠ 114) (h5 : g s a ≠ 101) : len s a = fresh s a := by rw [len_unfold, if_neg (by omega), if_neg h3, if_neg h4, if_neg h5]
theorem more_zero {n m : Nat} (h : m = 0) : more n m = 0 := by unfold more; rw [if_pos h]
theorem more_pos {n m : Nat} (h : m ≠ 0) : more n m = n + m := by unfold more; rw [if_neg h]
def ok (s : ByteArray) : Bool := decide (s.size ≤ 300) && (!(s.size == 0) && (len s 0 == s.size))
def rdn (s : ByteArray) (most : Nat) : Nat → Nat → Nat → Option (Nat × Nat)
  | 0, _, _ => none
  | f + 1, n, a =>
    if 48 ≤ g s a ∧ g s a ≤ 57 then
      (if n * 10 + (g s a - 48) < 1 ∨ most < n * 10 + (g s a - 48) then none else rdn s most f (n * 10 + (g s a - 48)) (a + 1))
    else if 0 < n then some (n, a) else none
theorem rdn_succ (s : ByteArray) (most f n a : Nat) : rdn s most (f + 1) n a = if 48 ≤ g s a ∧ g s a ≤ 57 then (if n * 10 + (g s a - 48) < 1 ∨ most < n * 10 + (g s a - 48) then none else rdn s most f (n * 10 + (g s a - 48)) (a + 1)) else if 0 < n then some (n, a) else none := rfl
def num (s : ByteArray) (most a : Nat) : Option (Nat × Nat) := rdn s most (s.size + 1 - a) 0 a
theorem num_zero {s : ByteArray} {most a : Nat} (h : g s a ≤ 48 ∨ 57 < g s a) : num s most a = none := by
 unfold num; by_cases ha : s.size + 1 ≤ a
 · rw [show s.size + 1 - a = 0 by omega]; rfl
 rw [show s.size + 1 - a = (s.size - a) + 1 by omega, rdn_succ]; by_cases h48 : g s a = 48
 · rw [if_pos (by omega), if_pos (by omega)]
 · rw [if_neg (by omega), if_neg (by omega)]
theorem num_one {s : ByteArray} {most a b : Nat} (hb : b = a + 1) (h1 : 49 ≤ g s a) (h2 : g s a ≤ 57) (hm : g s a - 48 ≤ most) (h3 : g s b < 48 ∨ 57 < g s b) : num s most a = some (g s a - 48, b) := by subst hb; have ha : a < s.size := g_lt.1 (by omega); unfold num; rw [show s.size + 1 - a = (s.size - a - 1) + 1 + 1 by omega, rdn_succ, if_pos (by omega), if_neg (by omega), rdn_succ, if_neg (by omega), if_pos (by omega)]; simp
theorem num_two {s : ByteArray} {most a b c : Nat} (hb : b = a + 1) (hc : c = a + 2) (h1 : 49 ≤ g s a) (h2 : g s a ≤ 57) (h3 : 48 ≤ g s b) (h4 : g s b ≤ 57) (hm : (g s a - 48) * 10 + (g s b - 48) ≤ most) (h5 : g s c < 48 ∨ 57 < g s c) : num s most a = some ((g s a - 48) * 10 + (g s b - 48), c) := by subst hb hc; have ha : a + 1 < s.size := g_lt.1 (by omega); unfold num; rw [show s.size + 1 - a = (s.size - a - 2) + 1 + 1 + 1 by omega, rdn_succ, if_pos (by omega), if_neg (by omega), rdn_succ, if_pos (by omega), if_neg (by omega), rdn_succ, show a + 1 + 1 = a + 2 from rfl, if_neg (by omega), if_pos (by omega)]; simp
theorem num_big {s : ByteArray} {most a b : Nat} (hb : b = a + 1) (h1 : 49 ≤ g s a) (h2 : g s a ≤ 57) (h3 : 48 ≤ g s b) (h4 : g s b ≤ 57) (hm : most < (g s a - 48) * 10 + (g s b - 48)) : num s most a = none := by
 subst hb; have ha : a + 1 < s.size := g_lt.1 (by omega); unfold num; rw [show s.size + 1 - a = (s.size - a - 1) + 1 + 1 by omega, rdn_succ, if_pos (by omega)]; by_cases hx : 0 * 10 + (g s a - 48) < 1 ∨ most < 0 * 10 + (g s a - 48)
 · rw [if_pos hx]
 · rw [if_neg hx, rdn_succ, if_pos (by omega), if_pos (by omega)]
theorem num_three {s : ByteArray} {most a b c : Nat} (hb : b = a + 1) (hc : c = a + 2) (hm : most ≤ 99) (h1 : 49 ≤ g s a) (h2 : g s a ≤ 57) (h3 : 48 ≤ g s b) (h4 : g s b ≤ 57) (h5 : 48 ≤ g s c) (h6 : g s c ≤ 57) : num s most a = none := by
 by_cases hq : most < (g s a - 48) * 10 + (g s b - 48)
 · exact num_big hb h1 h2 h3 h4 hq
 subst hb hc; have ha : a + 2 < s.size := g_lt.1 (by omega); unfold num; rw [show s.size + 1 - a = (s.size - a - 2) + 1 + 1 + 1 by omega, rdn_succ, if_pos (by omega), if_neg (by omega), rdn_succ, if_pos (by omega), if_neg (by omega), rdn_succ, show a + 1 + 1 = a + 2 from rfl, if_pos (by omega), if_pos (by omega)]
def nv (s : ByteArray) (a : Nat) : Nat := if g s (a + 2) = 59 then g s (a + 1) - 48 else (g s (a + 1) - 48) * 10 + (g s (a + 2) - 48)
theorem fresh_yes {s : ByteArray} {a : Nat} (h : fresh s a ≠ 0) : 65 ≤ g s a ∧ g s a ≤ 72 ∧ num s 99 (a + 1) = some (nv s a, a + fresh s a - 1) ∧ g s (a + fresh s a - 1) = 59 ∧ 3 ≤ fresh s a := by
 by_cases h1 : 65 ≤ g s a ∧ g s a ≤ 72 ∧ 49 ≤ g s (a + 1) ∧ g s (a + 1) ≤ 57
 · obtain ⟨p1, p2, p3, p4⟩ := h1; by_cases h2 : g s (a + 2) = 59
   · (have e : fresh s a = 3 := by unfold fresh; rw [if_pos ⟨p1, p2, p3, p4⟩, if_pos h2]); (have e2 : nv s a = g s (a + 1) - 48 := by unfold nv; rw [if_pos h2]); rw [e, e2]; exact ⟨p1, p2, num_one (b := a + 2) rfl p3 p4 (by omega) (by omega), h2, by omega⟩
   · by_cases h3 : 48 ≤ g s (a + 2) ∧ g s (a + 2) ≤ 57 ∧ g s (a + 3) = 59
     · (have e : fresh s a = 4 := by unfold fresh; rw [if_pos ⟨p1, p2, p3, p4⟩, if_neg h2, if_pos h3]); (have e2 : nv s a = (g s (a + 1) - 48) * 10 + (g s (a + 2) - 48) := by unfold nv; rw [if_neg h2]); obtain ⟨q1, q2, q3⟩ := h3; rw [e, e2]; exact ⟨p1, p2, num_two (b := a + 2) (c := a + 3) rfl rfl p3 p4 q1 q2 (by omega) (by omega), q3, by omega⟩
     · exfalso; apply h; unfold fresh; rw [if_pos ⟨p1, p2, p3, p4⟩, if_neg h2, if_neg h3]
 · exfalso; apply h; unfold fresh; rw [if_neg h1]
theorem fresh_no {s : ByteArray} {a : Nat} (h : fresh s a = 0) (h1 : 65 ≤ g s a) (h2 : g s a ≤ 72) : num s 99 (a + 1) = none ∨ ∃ n a1, num s 99 (a + 1) = some (n, a1) ∧ g s a1 ≠ 59 ∧ a1 ≤ s.size := by
 unfold fresh at h; by_cases h3 : 49 ≤ g s (a + 1) ∧ g s (a + 1) ≤ 57
 · rw [if_pos ⟨h1, h2, h3⟩] at h; by_cases h4 : g s (a + 2) = 59
   · rw [if_pos h4] at h; omega
   rw [if_neg h4] at h; obtain ⟨h3, h3'⟩ := h3; by_cases h5 : 48 ≤ g s (a + 2) ∧ g s (a + 2) ≤ 57
   · obtain ⟨h5, h5'⟩ := h5; by_cases h6 : 48 ≤ g s (a + 3) ∧ g s (a + 3) ≤ 57
     · exact .inl (num_three (b := a + 2) (c := a + 3) rfl rfl (Nat.le_refl _) h3 h3' h5 h5' h6.1 h6.2)
     · refine .inr ⟨_, _, num_two (b := a + 2) (c := a + 3) rfl rfl h3 h3' h5 h5' (by omega) (by omega), ?_, ?_⟩
       · intro e; rw [if_pos ⟨h5, h5', e⟩] at h; omega
       · have := (g_lt (s := s) (i := a + 2)).1 (by omega); omega
   · refine .inr ⟨_, _, num_one (b := a + 2) rfl h3 h3' (by omega) (by omega), h4, ?_⟩; have := (g_lt (s := s) (i := a + 1)).1 (by omega); omega
 · exact .inl (num_zero (by omega))
theorem len_digit {s : ByteArray} {a : Nat} (h : 48 ≤ g s a) (h2 : g s a ≤ 57) : len s a = 0 := by rw [len_unfold, if_neg (by omega), if_neg (by omega), if_neg (by omega), if_neg (by omega)]; unfold fresh; rw [if_neg (by omega)]
theorem room_yes {s : ByteArray} {a : Nat} (h : 49 ≤ g s a ∧ g s a ≤ 57) (hl : len s (a + 1) ≠ 0) : num s 9 a = some (g s a - 48, a + 1) := by
 refine num_one rfl h.1 h.2 (by omega) ?_; by_cases h3 : 48 ≤ g s (a + 1) ∧ g s (a + 1) ≤ 57
 · exact absurd (len_digit h3.1 h3.2) hl
 · omega
theorem room_no {s : ByteArray} {a : Nat} (h : 49 ≤ g s a ∧ g s a ≤ 57) : num s 9 a = none ∨ num s 9 a = some (g s a - 48, a + 1) := by
 by_cases h3 : 48 ≤ g s (a + 1) ∧ g s (a + 1) ≤ 57
 · exact .inl (num_big rfl h.1 h.2 h3.1 h3.2 (by omega))
 · exact .inr (num_one rfl h.1 h.2 (by omega) (by omega))
end Go.Proofs.YtdfpeaenbmgihaaGreat.Kw
namespace Go.Proofs.YtdfpeaenbmgihaaGreat
set_option maxHeartbeats 64000000
set_option maxRecDepth 100000
open Kw
def by1 (n : Nat) : ByteArray := ⟨#[UInt8.ofNat n]⟩
def dec (n : Nat) : ByteArray := if n < 10 then ⟨#[UInt8.ofNat (48 + n)]⟩ else ⟨#[UInt8.ofNat (48 + n / 10), UInt8.ofNat (48 + n % 10)]⟩
def newName (who n : Nat) : ByteArray := by1 (65 + who) ++ dec n ++ by1 59
def mkNew (who n : Int) : ByteArray := if 0 ≤ who ∧ who < 8 ∧ 1 ≤ n ∧ n ≤ 99 then newName who.toNat n.toNat else ⟨#[]⟩
theorem by1_size (n : Nat) : (by1 n).size = 1 := rfl
theorem dec_size (n : Nat) : (dec n).size = if n < 10 then 1 else 2 := by unfold dec; split <;> rfl
theorem dec_sizes (n : Nat) : (dec n).size = 1 ∨ (dec n).size = 2 := by unfold dec; split <;> simp [ByteArray.size]
theorem newName_size (who n : Nat) : (newName who n).size = 2 + (dec n).size := by unfold newName; simp [ByteArray.size_append, by1_size]; omega
theorem newName_sizes (who n : Nat) : (newName who n).size = 3 ∨ (newName who n).size = 4 := by rw [newName_size]; rcases dec_sizes n with h | h <;> omega
theorem app_nil (a : ByteArray) : a ++ ⟨#[]⟩ = a := by apply ByteArray.ext; simp [ByteArray.data_append]
theorem dec_one (n : Nat) (h : n < 10) : dec n = by1 (48 + n) := by unfold dec by1; rw [if_pos h]
theorem dec_two (n : Nat) (h : ¬ n < 10) : dec n = by1 (48 + n / 10) ++ by1 (48 + n % 10) := by unfold dec by1; rw [if_neg h]; apply ByteArray.ext; simp [ByteArray.data_append]
theorem ext_g {x y : ByteArray} (h : x.size = y.size) (hg : ∀ i, i < x.size → g x i = g y i) : x = y := by
 apply ByteArray.ext; apply Array.ext
 · exact h
 · intro i h1 h2; have := hg i h1; rw [g_in h1, g_in (by rw [← h]; exact h1)] at this; exact UInt8.toNat_inj.1 this
theorem g_append (x y : ByteArray) (i : Nat) : g (x ++ y) i = if i < x.size then g x i else g y (i - x.size) := by
 by_cases h : i < x.size
 · rw [if_pos h, g_in h, g_in (by simp [ByteArray.size_append]; omega)]; congr 1; exact ByteArray.getElem_append_left h
 · rw [if_neg h]; by_cases h2 : i < (x ++ y).size
   · (have h3 : i - x.size < y.size := by simp [ByteArray.size_append] at h2; omega); rw [g_in h2, g_in h3]; congr 1; exact ByteArray.getElem_append_right (by omega)
   · rw [g_out (by omega), g_out (by simp [ByteArray.size_append] at h2; omega)]
theorem g_extract (s : ByteArray) (a b i : Nat) (hb : b ≤ s.size) (hi : a + i < b) : g (s.extract a b) i = g s (a + i) := by rw [g_in (by simp [ByteArray.size_extract]; omega), g_in (by omega)]; congr 1; exact ByteArray.getElem_extract (by simp [ByteArray.size_extract]; omega)
theorem g_by1 (n : Nat) (h : n < 256) : g (by1 n) 0 = n := by rw [g_in (by rw [by1_size]; omega)]; show (UInt8.ofNat n).toNat = n; simp; omega
theorem g_new1 (who n : Nat) (h : n < 10) : newName who n = by1 (65 + who) ++ by1 (48 + n) ++ by1 59 := by unfold newName; rw [dec_one n h]
theorem g_new2 (who n : Nat) (h : ¬ n < 10) : newName who n = by1 (65 + who) ++ (by1 (48 + n / 10) ++ by1 (48 + n % 10)) ++ by1 59 := by unfold newName; rw [dec_two n h]
theorem ext_three {s : ByteArray} {a who n : Nat} (hn : n < 10) (hw : who < 8) (hs : a + 3 ≤ s.size) (h0 : g s a = 65 + who) (h1 : g s (a + 1) = 48 + n) (h2 : g s (a + 2) = 59) : newName who n = s.extract a (a + 3) := by
 rw [g_new1 who n hn]; refine ext_g (by simp [ByteArray.size_append, ByteArray.size_extract, by1_size]; omega) ?_; intro i hi; (have hi3 : i < 3 := by simpa [ByteArray.size_append, by1_size] using hi); rw [g_extract s a (a + 3) i hs (by omega)]
 match i, hi3 with
 | 0, _ => simp [g_append, ByteArray.size_append, by1_size]; rw [g_by1 _ (by omega), h0]
 | 1, _ => simp [g_append, ByteArray.size_append, by1_size]; rw [g_by1 _ (by omega), h1]
 | 2, _ => simp [g_append, ByteArray.size_append, by1_size]; rw [g_by1 _ (by omega), h2]
theorem ext_four {s : ByteArray} {a who n : Nat} (hn : ¬ n < 10) (hn2 : n < 100) (hw : who < 8) (hs : a + 4 ≤ s.size) (h0 : g s a = 65 + who) (h1 : g s (a + 1) = 48 + n / 10) (h2 : g s (a + 2) = 48 + n % 10) (h3 : g s (a + 3) = 59) : newName who n = s.extract a (a + 4) := by
 rw [g_new2 who n hn]; refine ext_g (by simp [ByteArray.size_append, ByteArray.size_extract, by1_size]; omega) ?_; intro i hi; (have hi3 : i < 4 := by simpa [ByteArray.size_append, by1_size] using hi); rw [g_extract s a (a + 4) i hs (by omega)]
 match i, hi3 with
 | 0, _ => simp [g_append, ByteArray.size_append, by1_size]; rw [g_by1 _ (by omega), h0]
 | 1, _ => simp [g_append, ByteArray.size_append, by1_size]; rw [g_by1 _ (by omega), h1]
 | 2, _ => simp [g_append, ByteArray.size_append, by1_size]; rw [g_by1 _ (by omega), h2]
 | 3, _ => simp [g_append, ByteArray.size_append, by1_size]; rw [g_by1 _ (by omega), h3]
def dv (s : ByteArray) (p : Nat) : Nat → Nat
  | 0 => 0
  | d + 1 => dv s p d * 10 + (g s (p + d) - 48)
theorem fr_eq {s : ByteArray} {a j d m : Nat} (hj : j = a + 1 + d) (hd : d ≤ 3) (hlt : j < s.size) (hm : m = dv s (a + 1) d) (hall : ∀ i, i < d → 48 ≤ g s (a + 1 + i) ∧ g s (a + 1 + i) ≤ 57) (h59 : g s j = 59) (h65 : 65 ≤ g s a) (h72 : g s a ≤ 72) (h : mkNew ((g s a : Int) - 65) (m : Int) = s.extract a (j + 1)) : fresh s a = j + 1 - a := by
 subst hj; (have hsz : (s.extract a (a + 1 + d + 1)).size = d + 2 := by simp [ByteArray.size_extract]; omega); rw [← h] at hsz; unfold mkNew at hsz; by_cases hc : 0 ≤ (g s a : Int) - 65 ∧ (g s a : Int) - 65 < 8 ∧ 1 ≤ (m : Int) ∧ (m : Int) ≤ 99
 · rw [if_pos hc, newName_size, dec_size] at hsz; obtain ⟨_, _, c3, c4⟩ := hc; by_cases h10 : (m : Int).toNat < 10
   · rw [if_pos h10] at hsz; (have hd1 : d = 1 := by omega); subst hd1; have q := hall 0 (by omega); simp only [dv, Nat.add_zero, Nat.zero_mul, Nat.zero_add] at hm q; have h59' : g s (a + 2) = 59 := h59; unfold fresh; rw [if_pos (by omega), if_pos h59']; omega
   · rw [if_neg h10] at hsz; (have hd1 : d = 2 := by omega); subst hd1; have q := hall 0 (by omega); have q1 := hall 1 (by omega); simp only [dv, Nat.add_zero, Nat.zero_mul, Nat.zero_add] at hm q q1; have h59' : g s (a + 3) = 59 := h59; rw [show a + 1 + 1 = a + 2 from rfl] at hm q1; unfold fresh; rw [if_pos (by omega), if_neg (by omega), if_pos (by omega)]; omega
 · rw [if_neg hc] at hsz; exfalso; have : (⟨#[]⟩ : ByteArray).size = 0 := rfl; omega
theorem fr_ne {s : ByteArray} {a j d m : Nat} (hj : j = a + 1 + d) (hlt : j < s.size) (hm : m = dv s (a + 1) d) (hall : ∀ i, i < d → 48 ≤ g s (a + 1 + i) ∧ g s (a + 1 + i) ≤ 57) (h59 : g s j = 59) (h65 : 65 ≤ g s a) (h72 : g s a ≤ 72) (h : mkNew ((g s a : Int) - 65) (m : Int) ≠ s.extract a (j + 1)) : fresh s a = 0 := by
 apply Classical.byContradiction; intro hf; apply h; subst hj; unfold fresh at hf; by_cases h1 : 65 ≤ g s a ∧ g s a ≤ 72 ∧ 49 ≤ g s (a + 1) ∧ g s (a + 1) ≤ 57
 · rw [if_pos h1] at hf; obtain ⟨_, _, p3, p4⟩ := h1; by_cases h2 : g s (a + 2) = 59
   · have hd : d = 1 := by
      match d, h59, hall with
      | 0, h59, _ => simp only [Nat.add_zero] at h59; omega
      | 1, _, _ => rfl
      | d + 2, _, hall => have := hall 1 (by omega); rw [show a + 1 + 1 = a + 2 from rfl] at this; omega
     subst hd; simp only [dv, Nat.add_zero, Nat.zero_mul, Nat.zero_add] at hm; unfold mkNew; rw [if_pos (by omega)]; exact ext_three (by omega) (by omega) (by omega) (by omega) (by omega) h2
   · rw [if_neg h2] at hf; by_cases h3 : 48 ≤ g s (a + 2) ∧ g s (a + 2) ≤ 57 ∧ g s (a + 3) = 59
     · obtain ⟨q1, q2, q3⟩ := h3
       have hd : d = 2 := by
        match d, h59, hall with
        | 0, h59, _ => simp only [Nat.add_zero] at h59; omega
        | 1, h59, _ => rw [show a + 1 + 1 = a + 2 from rfl] at h59; omega
        | 2, _, _ => rfl
        | d + 3, _, hall => have := hall 2 (by omega); rw [show a + 1 + 2 = a + 3 from rfl] at this; omega
       subst hd; simp only [dv, Nat.add_zero, Nat.zero_mul, Nat.zero_add] at hm; rw [show a + 1 + 1 = a + 2 from rfl] at hm; unfold mkNew; rw [if_pos (by omega)]; exact ext_four (by omega) (by omega) (by omega) (by omega) (by omega) (by omega) (by omega) q3
     · rw [if_neg h3] at hf; exact absurd rfl hf
 · rw [if_neg h1] at hf; exact absurd rfl hf
theorem fr_no {s : ByteArray} {a j d : Nat} (hj : j = a + 1 + d) (hd : d ≤ 3) (hall : ∀ i, i < d → 48 ≤ g s (a + 1 + i) ∧ g s (a + 1 + i) ≤ 57) (h59 : g s j ≠ 59) (hstop : g s j < 48 ∨ 57 < g s j ∨ d = 3) : fresh s a = 0 := by
 apply Classical.byContradiction; intro hf; subst hj; unfold fresh at hf; by_cases h1 : 65 ≤ g s a ∧ g s a ≤ 72 ∧ 49 ≤ g s (a + 1) ∧ g s (a + 1) ≤ 57
 · rw [if_pos h1] at hf; obtain ⟨_, _, p3, p4⟩ := h1
   match d, hd, h59, hall, hstop with
   | 0, _, h59, _, hs => simp only [Nat.add_zero] at h59 hs; omega
   | 1, _, h59, _, hs =>
    rw [show a + 1 + 1 = a + 2 from rfl] at h59 hs; rw [if_neg h59, if_neg (by omega)] at hf; exact absurd rfl hf
   | 2, _, h59, hall, hs =>
    rw [show a + 1 + 2 = a + 3 from rfl] at h59 hs; have := hall 1 (by omega); rw [show a + 1 + 1 = a + 2 from rfl] at this; rw [if_neg (by omega), if_neg (by omega)] at hf; exact absurd rfl hf
   | 3, _, _, hall, _ =>
    have u1 := hall 1 (by omega); have u2 := hall 2 (by omega); rw [show a + 1 + 1 = a + 2 from rfl] at u1; rw [show a + 1 + 2 = a + 3 from rfl] at u2; rw [if_neg (by omega), if_neg (by omega)] at hf; exact absurd rfl hf
 · rw [if_neg h1] at hf; exact absurd rfl hf
theorem g_shift (x s : ByteArray) (i : Nat) : g (x ++ s) (x.size + i) = g s i := by rw [g_append, if_neg (by omega)]; congr 1; omega
theorem fresh_shift (x s : ByteArray) (a : Nat) : fresh (x ++ s) (x.size + a) = fresh s a := by unfold fresh; rw [Nat.add_assoc, Nat.add_assoc, Nat.add_assoc, g_shift, g_shift, g_shift, g_shift]
theorem sz_shift (x s : ByteArray) (f : Nat) : ∀ a, sz (x ++ s) f (x.size + a) = sz s f a := by
 induction f with
 | zero => intro a; rfl
 | succ f ih =>
  intro a; rw [sz_succ, sz_succ, fresh_shift, g_shift]; simp only [Nat.add_assoc, g_shift, ih]
theorem len_shift (x s : ByteArray) (a : Nat) : len (x ++ s) (x.size + a) = len s a := by have h := sz_shift x s (s.size - a) a; rw [len_eq (by simp [ByteArray.size_append]; omega)] at h; exact h
theorem g_front {s : ByteArray} (t : ByteArray) {i : Nat} (h : i < s.size) : g (s ++ t) i = g s i := by rw [g_append, if_pos h]
theorem fresh_front {s : ByteArray} (t : ByteArray) {a : Nat} (h : fresh s a ≠ 0) : fresh (s ++ t) a = fresh s a := by
 have hle := fresh_le h; obtain ⟨h1, h2, _, _, h5⟩ := fresh_yes h; unfold fresh at h hle ⊢; by_cases c : 65 ≤ g s a ∧ g s a ≤ 72 ∧ 49 ≤ g s (a + 1) ∧ g s (a + 1) ≤ 57
 · have i1 : a + 1 < s.size := g_lt.1 (by omega); rw [if_pos c] at h hle; rw [if_pos c, g_front t (i := a) (by omega), g_front t i1, if_pos c]; by_cases c2 : g s (a + 2) = 59
   · have i2 : a + 2 < s.size := g_lt.1 (by omega); rw [if_pos c2, g_front t i2, if_pos c2]
   · rw [if_neg c2] at h; by_cases c3 : 48 ≤ g s (a + 2) ∧ g s (a + 2) ≤ 57 ∧ g s (a + 3) = 59
     · have i2 : a + 2 < s.size := g_lt.1 (by omega); have i3 : a + 3 < s.size := g_lt.1 (by omega); rw [if_neg c2, if_pos c3, g_front t i2, g_front t i3, if_neg c2, if_pos c3]
     · rw [if_neg c3] at h; exact absurd rfl h
 · rw [if_neg c] at h; exact absurd rfl h
theorem sz_front (s t : ByteArray) (f : Nat) : ∀ a, sz s f a ≠ 0 → sz (s ++ t) f a = sz s f a := by
 induction f with
 | zero => intro a h; exact absurd rfl h
 | succ f ih =>
  intro a h; (have ha : a < s.size := by apply Classical.byContradiction; intro hn; exact h (sz_out _ _ (by omega))); rw [sz_succ] at h; rw [sz_succ, sz_succ, g_front t ha]; by_cases c1 : g s a = 110 ∨ g s a = 107
  · rw [if_pos c1] at h; rw [if_pos c1, if_pos c1, ih _ (more_ne h).1]
  rw [if_neg c1] at h; rw [if_neg c1, if_neg c1]; by_cases c2 : g s a = 109
  · rw [if_pos c2] at h; rw [if_pos c2, if_pos c2]; by_cases d : 65 ≤ g s (a + 1) ∧ g s (a + 1) ≤ 72
    · rw [if_pos d] at h; rw [if_pos d, g_front t (g_lt.1 (by omega)), if_pos d, ih _ (more_ne h).1]
    · rw [if_neg d] at h; exact absurd rfl h
  rw [if_neg c2] at h; rw [if_neg c2, if_neg c2]; by_cases c3 : g s a = 114
  · rw [if_pos c3] at h; rw [if_pos c3, if_pos c3]; by_cases d : 49 ≤ g s (a + 1) ∧ g s (a + 1) ≤ 57
    · rw [if_pos d] at h; rw [if_pos d, g_front t (g_lt.1 (by omega)), if_pos d, ih _ (more_ne h).1]
    · rw [if_neg d] at h; exact absurd rfl h
  rw [if_neg c3] at h; rw [if_neg c3, if_neg c3]; by_cases c4 : g s a = 101
  · rw [if_pos c4] at h; rw [if_pos c4, if_pos c4]; by_cases d : sz s f (a + 1) = 0
    · rw [if_pos d] at h; exact absurd rfl h
    · rw [if_neg d] at h; rw [if_neg d, ih _ d, if_neg d, ih _ (more_ne h).1]
  rw [if_neg c4] at h; rw [if_neg c4, if_neg c4, fresh_front t h]
theorem len_front {s : ByteArray} (t : ByteArray) {a : Nat} (h : len s a ≠ 0) : len (s ++ t) a = len s a := by have e : sz s ((s ++ t).size - a) a = len s a := len_eq (by simp [ByteArray.size_append]; omega); unfold len at h ⊢; have := sz_front s t ((s ++ t).size - a) a (by rw [e]; exact h); rw [this, e]; rfl
theorem empty_of {s : ByteArray} (h : s.size = 0) : s = ⟨#[]⟩ := ByteArray.ext (Array.eq_empty_of_size_eq_zero h)
theorem ok_empty : ok ⟨#[]⟩ = false := by decide +kernel
theorem ok_long {s : ByteArray} (h : 300 < s.size) : ok s = false := by unfold ok; rw [show decide (s.size ≤ 300) = false by simp; omega]; rfl
theorem ok_none {s : ByteArray} (h : len s 0 = 0) : ok s = false := by
 unfold ok; rw [h]; by_cases hs : s.size = 0
 · simp [hs]
 · (have : (0 == s.size) = false := by simp; omega); simp [this]
theorem ok_part {s : ByteArray} (h : len s 0 ≠ s.size) : ok s = false := by unfold ok; rw [show (len s 0 == s.size) = false by simpa using h]; simp
theorem ok_yes {s : ByteArray} (h0 : s.size ≤ 300) (h1 : len s 0 ≠ 0) (h : len s 0 = s.size) : ok s = true := by unfold ok; rw [show decide (s.size ≤ 300) = true by simpa using h0, show (len s 0 == s.size) = true by simpa using h, show (s.size == 0) = false by rw [← h]; simpa using h1]; rfl
theorem ok_eq {s : ByteArray} (h : s.size ≤ 300) (h0 : s.size ≠ 0) : ok s = ((len s 0 : Int) == (s.size : Int)) := by unfold ok; rw [show decide (s.size ≤ 300) = true by simpa using h, show (s.size == 0) = false by simpa using h0]; rw [Bool.eq_iff_iff]; simp; omega
theorem ok_facts {s : ByteArray} (h : ok s = true) : s.size ≤ 300 ∧ s.size ≠ 0 ∧ len s 0 = s.size := by unfold ok at h; simp at h; obtain ⟨h1, h2, h3⟩ := h; exact ⟨h1, fun e => h2 (by rw [empty_of e]; rfl), h3⟩
def cap (x : ByteArray) : ByteArray := if x.size ≤ 300 then x else ⟨#[]⟩
def only (x : ByteArray) : ByteArray := if ok x = true then x else ⟨#[]⟩
theorem only_cap {x : ByteArray} (h0 : x.size ≠ 0) (h : len x 0 = x.size) : only x = cap x := by
 unfold only cap; by_cases hs : x.size ≤ 300
 · rw [if_pos (ok_yes hs (by omega) h), if_pos hs]
 · rw [if_neg (by rw [ok_long (by omega)]; simp), if_neg hs]
def nextT (s : ByteArray) : ByteArray := ⟨#[110]⟩ ++ s
def keyT (s : ByteArray) : ByteArray := ⟨#[107]⟩ ++ s
def epochT (a b : ByteArray) : ByteArray := ⟨#[101]⟩ ++ a ++ b
def sayT (s : ByteArray) (who : Nat) : ByteArray := ⟨#[109]⟩ ++ by1 (65 + who) ++ s
theorem len_next {s : ByteArray} (h : ok s = true) : len (nextT s) 0 = (nextT s).size := by obtain ⟨_, h2, h3⟩ := ok_facts h; have e : len (nextT s) 1 = len s 0 := len_shift ⟨#[110]⟩ s 0; (have z : (nextT s).size = 1 + s.size := by unfold nextT; simp [ByteArray.size_append]; rfl); rw [len_nk (.inl (by unfold nextT; rw [g_append]; rfl)), e, h3, more_pos h2, z]
theorem len_key {s : ByteArray} (h : ok s = true) : len (keyT s) 0 = (keyT s).size := by obtain ⟨_, h2, h3⟩ := ok_facts h; have e : len (keyT s) 1 = len s 0 := len_shift ⟨#[107]⟩ s 0; (have z : (keyT s).size = 1 + s.size := by unfold keyT; simp [ByteArray.size_append]; rfl); rw [len_nk (.inr (by unfold keyT; rw [g_append]; rfl)), e, h3, more_pos h2, z]
theorem epoch_parts {a b : ByteArray} (ha : ok a = true) (hb : ok b = true) : len (epochT a b) 1 = a.size ∧ len (epochT a b) (1 + a.size) = b.size ∧ (epochT a b).size = 1 + a.size + b.size ∧ g (epochT a b) 0 = 101 := by
 obtain ⟨_, a2, a3⟩ := ok_facts ha; obtain ⟨_, b2, b3⟩ := ok_facts hb; refine ⟨?_, ?_, ?_, ?_⟩
 · (have e : epochT a b = ⟨#[101]⟩ ++ (a ++ b) := by unfold epochT; rw [ByteArray.append_assoc]); have e2 : len (⟨#[101]⟩ ++ (a ++ b)) 1 = len (a ++ b) 0 := len_shift ⟨#[101]⟩ (a ++ b) 0; rw [e, e2, len_front b (by rw [a3]; exact a2), a3]
 · have e2 := len_shift (⟨#[101]⟩ ++ a) b 0; (have z : (⟨#[101]⟩ ++ a : ByteArray).size = 1 + a.size := by simp [ByteArray.size_append]; rfl); rw [z, Nat.add_zero, b3] at e2; exact e2
 · unfold epochT; simp [ByteArray.size_append]; rfl
 · unfold epochT; rw [g_append, if_pos (by simp [ByteArray.size_append]; show 0 < 1 + _; omega), g_append, if_pos (by show 0 < 1; omega)]; rfl
theorem len_epoch {a b : ByteArray} (ha : ok a = true) (hb : ok b = true) : len (epochT a b) 0 = (epochT a b).size := by obtain ⟨p1, p2, p3, p4⟩ := epoch_parts ha hb; obtain ⟨_, a2, _⟩ := ok_facts ha; obtain ⟨_, b2, _⟩ := ok_facts hb; rw [len_e p4, p3]; unfold epLen; rw [show 0 + 1 = 1 from rfl, p1, if_neg a2, p2, more_pos b2, more_pos (by omega)]; omega
theorem say_parts {s : ByteArray} {who : Nat} (h : ok s = true) (hw : who < 8) : len (sayT s who) 2 = s.size ∧ (sayT s who).size = 2 + s.size ∧ g (sayT s who) 0 = 109 ∧ g (sayT s who) 1 = 65 + who := by
 obtain ⟨_, h2, h3⟩ := ok_facts h; (have z : (⟨#[109]⟩ ++ by1 (65 + who) : ByteArray).size = 2 := by simp [ByteArray.size_append, by1_size]; rfl); refine ⟨?_, ?_, ?_, ?_⟩
 · have e2 := len_shift (⟨#[109]⟩ ++ by1 (65 + who)) s 0; rw [z, h3] at e2; exact e2
 · unfold sayT; rw [ByteArray.size_append, z]
 · unfold sayT; rw [g_append, if_pos (by rw [z]; omega), g_append, if_pos (by show 0 < 1; omega)]; rfl
 · unfold sayT; rw [g_append, if_pos (by rw [z]; omega), g_append, if_neg (by show ¬ 1 < 1; omega)]; exact g_by1 _ (by omega)
theorem len_say {s : ByteArray} {who : Nat} (h : ok s = true) (hw : who < 8) : len (sayT s who) 0 = (sayT s who).size := by obtain ⟨p1, p2, p3, p4⟩ := say_parts h hw; obtain ⟨_, h2, _⟩ := ok_facts h; rw [len_m p3, p2]; unfold sayLen; rw [show 0 + 1 = 1 from rfl, p4, if_pos (by omega), show 1 + 1 = 2 from rfl, p1, more_pos h2, more_pos (by omega)]; omega
def mkNext (s : ByteArray) : ByteArray := if ok s = true then cap (nextT s) else ⟨#[]⟩
def mkKey (s : ByteArray) : ByteArray := if ok s = true then cap (keyT s) else ⟨#[]⟩
def mkEpoch (a b : ByteArray) : ByteArray := if ok a = true ∧ ok b = true then cap (epochT a b) else ⟨#[]⟩
def mkSay (s : ByteArray) (who : Int) : ByteArray := if ok s = true ∧ 0 ≤ who ∧ who < 8 then cap (sayT s who.toNat) else ⟨#[]⟩
theorem next_size (s : ByteArray) : (nextT s).size = 1 + s.size := by unfold nextT; simp [ByteArray.size_append]; rfl
theorem key_size (s : ByteArray) : (keyT s).size = 1 + s.size := by unfold keyT; simp [ByteArray.size_append]; rfl
theorem epoch_size (a b : ByteArray) : (epochT a b).size = 1 + a.size + b.size := by unfold epochT; simp [ByteArray.size_append]; rfl
theorem say_size (s : ByteArray) (who : Nat) : (sayT s who).size = 2 + s.size := by unfold sayT; simp [ByteArray.size_append, by1_size]; rfl
theorem parts_e {s : ByteArray} (hk : ok s = true) (c : g s 0 = 101) : len s 1 ≠ 0 ∧ len s (1 + len s 1) ≠ 0 ∧ 1 + len s 1 + len s (1 + len s 1) = s.size := by
 obtain ⟨_, h2, h3⟩ := ok_facts hk; have h4 := len_e c; rw [Nat.zero_add] at h4; unfold epLen at h4; by_cases q : len s 1 = 0
 · rw [if_pos q, more_zero rfl] at h4; omega
 rw [if_neg q] at h4; by_cases r : len s (1 + len s 1) = 0
 · rw [more_zero r, more_zero rfl] at h4; omega
 rw [more_pos r, more_pos (by omega)] at h4; exact ⟨q, r, by omega⟩
theorem parts_m {s : ByteArray} (hk : ok s = true) (c : g s 0 = 109) : 65 ≤ g s 1 ∧ g s 1 ≤ 72 ∧ len s 2 ≠ 0 ∧ 2 + len s 2 = s.size := by
 obtain ⟨_, h2, h3⟩ := ok_facts hk; have h4 := len_m c; rw [Nat.zero_add] at h4; unfold sayLen at h4; rw [show 1 + 1 = 2 from rfl] at h4; by_cases q : 65 ≤ g s 1 ∧ g s 1 ≤ 72
 · rw [if_pos q] at h4; by_cases r : len s 2 = 0
   · rw [more_zero r, more_zero rfl] at h4; omega
   rw [more_pos r, more_pos (by omega)] at h4; exact ⟨q.1, q.2, r, by omega⟩
 · rw [if_neg q, more_zero rfl] at h4; omega
theorem parts_r {s : ByteArray} (hk : ok s = true) (c : g s 0 = 114) : 49 ≤ g s 1 ∧ g s 1 ≤ 57 ∧ len s 2 ≠ 0 ∧ 2 + len s 2 = s.size := by
 obtain ⟨_, h2, h3⟩ := ok_facts hk; have h4 := len_r c; rw [Nat.zero_add] at h4; unfold roomLen at h4; rw [show 1 + 1 = 2 from rfl] at h4; by_cases q : 49 ≤ g s 1 ∧ g s 1 ≤ 57
 · rw [if_pos q] at h4; by_cases r : len s 2 = 0
   · rw [more_zero r, more_zero rfl] at h4; omega
   rw [more_pos r, more_pos (by omega)] at h4; exact ⟨q.1, q.2, r, by omega⟩
 · rw [if_neg q, more_zero rfl] at h4; omega
theorem parts_new {s : ByteArray} (hk : ok s = true) (c1 : g s 0 ≠ 110) (c2 : g s 0 ≠ 107) (c3 : g s 0 ≠ 101) (c4 : g s 0 ≠ 109) (c5 : g s 0 ≠ 114) : fresh s 0 = s.size := by obtain ⟨_, h2, h3⟩ := ok_facts hk; rw [← h3, len_else c1 c2 c4 c5 c3]
open Go.RowKit
theorem hide {p : Prop} (h : p) : Hid p := h
theorem unhide {p : Prop} (h : Hid p) : p := h
theorem ret_str {a b : ByteArray} (h : a = b) : Ending.returned (.string a) = .returned (.string b) := by rw [h]
theorem le_maxLen {n : Nat} (h : n ≤ 100000) : n ≤ maxLen := by unfold maxLen; omega
def SRow (w : World) (v : Value) (xs : List ByteArray) : Prop :=
  (v = .slice none 0 0 ∧ xs = []) ∨ ∃ (a : Addr) (cap : Nat), v = .slice (some a) xs.length cap ∧ xs.length ≤ cap ∧ cap ≤ maxLen ∧ ∀ i, i < xs.length → w.cell? (a.add i) = some (.string (xs.getD i ByteArray.empty))
theorem cell_lt {w : World} {p : Addr} {v : Value} (h : w.cell? p = some v) : p.block < w.heap.size := by apply Classical.byContradiction; intro hn; have : w.heap[p.block]? = none := Array.getElem?_eq_none (by omega); simp [World.cell?, this] at h
theorem SRow.below {w w' : World} {v : Value} {xs : List ByteArray} (h : SRow w v xs) (hb : Below w.heap.size w w') : SRow w' v xs := by
 rcases h with h | ⟨a, cap, h1, h2, h3, h4⟩
 · exact .inl h
 · exact .inr ⟨a, cap, h1, h2, h3, fun i hi => (hb.cell (p := a.add i) (cell_lt (h4 i hi))).trans (h4 i hi)⟩
theorem SRow.drew {w : World} {v : Value} {xs : List ByteArray} (h : SRow w v xs) : SRow w.drew v xs := h
theorem ret_bool' {a b : Bool} (h : a = b) : Ending.returned (.bool a) = .returned (.bool b) := by rw [h]
theorem toList_eq {x y : ByteArray} : (x.toList == y.toList) = true ↔ x = y := by
 constructor
 · intro h; (have h1 : x.toList = y.toList := by simpa using h); have h2 := congrArg (fun l => (⟨l.toArray⟩ : ByteArray)) h1; exact ByteArray.ext (by simpa [ByteArray.toList_eq] using h2)
 · intro h; subst h; simp
theorem SRow.form {w : World} {v : Value} {xs : List ByteArray} (h : SRow w v xs) : ∃ (ao : Option Addr) (cap : Nat), v = .slice ao xs.length cap ∧ xs.length ≤ cap ∧ cap ≤ maxLen ∧ ∀ i, i < xs.length → ∃ a, ao = some a ∧ w.cell? (a.add i) = some (.string (xs.getD i ByteArray.empty)) := by
 rcases h with ⟨rfl, rfl⟩ | ⟨a, cap, rfl, h1, h2, h3⟩
 · exact ⟨none, 0, rfl, Nat.le_refl _, by omega, fun i hi => absurd hi (Nat.not_lt_zero _)⟩
 · exact ⟨some a, cap, rfl, h1, h2, fun i hi => ⟨a, rfl, h3 i hi⟩⟩
theorem getD_mem {xs : List ByteArray} {k : Nat} (h : k < xs.length) : xs.getD k ByteArray.empty ∈ xs := by rw [List.getD_eq_getElem?_getD, List.getElem?_eq_getElem h]; exact List.getElem_mem h
theorem mem_getD {xs : List ByteArray} {x : ByteArray} (h : x ∈ xs) : ∃ k, k < xs.length ∧ xs.getD k ByteArray.empty = x := by obtain ⟨j, hj, e⟩ := List.getElem_of_mem h; refine ⟨j, hj, ?_⟩; rw [List.getD_eq_getElem?_getD, List.getElem?_eq_getElem hj]; exact e
theorem own_srow {w : World} {base : Nat} {v : Value} {xs : List ByteArray} (h : w.ownsRow base 9 1 v xs.length (xs.map Value.string)) : SRow w v xs := by
 have hh := h; rcases h.2 with ⟨h1, h2⟩ | ⟨g, cap, cur, h1, h2, h3, h4, h5, h6, h7⟩
 · exact .inl ⟨h1, List.eq_nil_of_length_eq_zero h2⟩
 · subst h1; refine .inr ⟨⟨g, 0, none⟩, cap, rfl, h4, h5, fun i hi => ?_⟩; have hc := hh.cellAt i (by omega); rw [Addr.add_lit, Nat.zero_add, hc]; simp [hi]
theorem own_below' {w w' : World} {base : Nat} {e : TypeId} {size : Nat} {v : Value} {n : Nat} {xs : List Value} (h : w.ownsRow base e size v n xs) (hb : Below w.heap.size w w') : w'.ownsRow base e size v n xs := by refine ⟨h.1, h.2.imp id ?_⟩; rintro ⟨g, cap, cur, h1, h2, h3, h4⟩; (have hlt : g < w.heap.size := by apply Classical.byContradiction; intro hn; rw [Array.getElem?_eq_none (by omega)] at h3; cases h3); exact ⟨g, cap, cur, h1, h2, (hb.block g hlt).trans h3, h4⟩
def Own (B : Nat) (w : World) (v : Value) (xs : List ByteArray) : Prop := w.ownsRow B 9 1 v xs.length (xs.map Value.string)
theorem Own.below {B : Nat} {w w' : World} {v : Value} {xs : List ByteArray} (h : Own B w v xs) (hb : Below w.heap.size w w') : Own B w' v xs := own_below' h hb
theorem Own.srow {B : Nat} {w : World} {v : Value} {xs : List ByteArray} (h : Own B w v xs) : SRow w v xs := own_srow h
theorem Own.grow {B : Nat} {w w6 w7 : World} {o : Obj} {v v' : Value} {xs : List ByteArray} {y : ByteArray} (hO : Own B w6 v xs) (hbl : Below B w w6) (hB : B ≤ w.heap.size) (hown' : w7.ownsRow B 9 1 v' (xs.length + 1) (xs.map Value.string ++ [.string y])) (hg : (w6.alloc o).grownBy w7 v.ownBlock) : Own B w7 v' (xs ++ [y]) ∧ Below B w w7 := by have hs := hbl.size; refine ⟨?_, (hbl.alloc (by omega) o).grown hg (by simp; omega) (fun k hk => (hO.lt k hk).1)⟩; unfold Own; rw [List.length_append, List.map_append]; exact hown'
def lenOf : Value → Nat
  | .slice _ n _ => n
  | _ => 0
theorem Own.len {B : Nat} {w : World} {v : Value} {xs : List ByteArray} (h : Own B w v xs) : lenOf v = xs.length := by
 rcases h.2 with ⟨h1, h2⟩ | ⟨g, cap, cur, h1, _⟩
 · rw [h1, h2]; rfl
 · rw [h1]; rfl
theorem info_str2 : (Tryz.prog.info? 9).map (fun i => (i.zero, i.size, i.bytes)) = some (some (.string ⟨#[]⟩), 1, 16) := by kernel_rfl
theorem row_form' {w : World} {B : Nat} {e : TypeId} {size : Nat} {v : Value} {n : Nat} {xs : List Value} (h : w.ownsRow B e size v n xs) : ∃ ao cap, v = .slice ao n cap := by
 rcases h.2 with ⟨h1, h2⟩ | ⟨g, cap, cur, h1, _⟩
 · exact ⟨none, 0, by rw [h1, h2]⟩
 · exact ⟨_, cap, h1⟩
def RowIn (lo hi : Nat) (e : TypeId) (size : Nat) (w : World) (v : Value) (n : Nat) (xs : List Value) : Prop := w.ownsRow lo e size v n xs ∧ ∀ g, v.ownBlock = some g → g < hi
theorem RowIn.of {lo : Nat} {e : TypeId} {size : Nat} {w : World} {v : Value} {n : Nat} {xs : List Value} (h : w.ownsRow lo e size v n xs) : RowIn lo w.heap.size e size w v n xs := ⟨h, fun g hg => (h.lt g hg).2⟩
theorem RowIn.below {lo hi : Nat} {e : TypeId} {size : Nat} {w w' : World} {v : Value} {n : Nat} {xs : List Value} (h : RowIn lo hi e size w v n xs) (hb : Below w.heap.size w w') : RowIn lo hi e size w' v n xs := ⟨own_below' h.1 hb, h.2⟩
theorem RowIn.grown {lo hi : Nat} {e : TypeId} {size : Nat} {w w' : World} {v : Value} {n : Nat} {xs : List Value} {r : Option Nat} (h : RowIn lo hi e size w v n xs) (hg : w.grownBy w' r) (hr : ∀ k, r = some k → k < lo ∨ hi ≤ k) : RowIn lo hi e size w' v n xs := by
 refine ⟨h.1.kept hg ?_, h.2⟩
 cases hv : v.ownBlock with
 | none => exact .inl rfl
 | some g =>
  right; intro e'; have h1 := (h.1.lt g hv).1; have h2 := h.2 g hv; have := hr g e'.symm; omega
theorem RowIn.out {lo hi : Nat} {e : TypeId} {size : Nat} {w : World} {v : Value} {n : Nat} {xs : List Value} (h : RowIn lo hi e size w v n xs) : ∀ k, v.ownBlock = some k → lo ≤ k ∧ k < hi := fun k hk => ⟨(h.1.lt k hk).1, h.2 k hk⟩
def TIn (lo hi : Nat) (w : World) (v : Value) (xs : List ByteArray) : Prop := RowIn lo hi 9 1 w v xs.length (xs.map Value.string)
theorem TIn.srow {lo hi : Nat} {w : World} {v : Value} {xs : List ByteArray} (h : TIn lo hi w v xs) : SRow w v xs := own_srow h.1
theorem TIn.below {lo hi : Nat} {w w' : World} {v : Value} {xs : List ByteArray} (h : TIn lo hi w v xs) (hb : Below w.heap.size w w') : TIn lo hi w' v xs := RowIn.below h hb
theorem TIn.grown {lo hi : Nat} {w w' : World} {v : Value} {xs : List ByteArray} {r : Option Nat} (h : TIn lo hi w v xs) (hg : w.grownBy w' r) (hr : ∀ k, r = some k → k < lo ∨ hi ≤ k) : TIn lo hi w' v xs := RowIn.grown h hg hr
theorem box_below {w w' : World} {b : Nat} {t : TypeId} {v : Value} (h : Boxed w b t v) (hb : Below w.heap.size w w') : Boxed w' b t v := (hb.block b h.lt).trans h
theorem box_below0 {w w' : World} {b B : Nat} {t : TypeId} {v : Value} (h : Boxed w b t v) (hb : Below B w w') (hlt : b < B) : Boxed w' b t v := (hb.block b hlt).trans h
theorem row_box {B : Nat} {w : World} {e t : TypeId} {size n b : Nat} {v u : Value} {xs : List Value} (h : w.ownsRow B e size v n xs) (hx : Boxed w b t u) (hte : t ≠ e) (x : Value) : (w.setCell ⟨b, 0, none⟩ x).ownsRow B e size v n xs := h.kept (grownBy_setCell' w b x) (.inr (hx.not_row hte h).symm)
theorem below_box {B : Nat} {w w' : World} {b : Nat} (h : Below B w w') (hb : B ≤ b) (x : Value) : Below B w (w'.setCell ⟨b, 0, none⟩ x) := h.setCell (p := ⟨b, 0, none⟩) hb x
theorem box_grown {B : Nat} {w w' : World} {e t : TypeId} {size n b : Nat} {v u : Value} {xs : List Value} (hx : Boxed w b t u) (h : w.ownsRow B e size v n xs) (hte : t ≠ e) (hg : w.grownBy w' v.ownBlock) : Boxed w' b t u := hx.kept hg (hx.not_row hte h)
theorem row_lowB {B B' : Nat} {w : World} {e : TypeId} {size : Nat} {v : Value} {n : Nat} {xs : List Value} (h : w.ownsRow B e size v n xs) (hB : B' ≤ B) : w.ownsRow B' e size v n xs := by refine ⟨h.1, h.2.imp id ?_⟩; rintro ⟨g, cap, cur, h1, h2, h3⟩; exact ⟨g, cap, cur, h1, by omega, h3⟩
def Blk (w : World) (b : Nat) (t : TypeId) (cs : Array Value) : Prop := w.heap[b]? = some (.cells cs t (0, 0))
theorem Blk.lt {w : World} {b : Nat} {t : TypeId} {cs : Array Value} (h : Blk w b t cs) : b < w.heap.size := (Array.getElem?_eq_some_iff.1 h).1
theorem Blk.new (w : World) (t : TypeId) (cs : Array Value) : Blk (w.alloc (.cells cs t)) w.heap.size t cs := World.alloc_heap_new w _
theorem Blk.below {w w' : World} {b : Nat} {t : TypeId} {cs : Array Value} (h : Blk w b t cs) (hb : Below w.heap.size w w') : Blk w' b t cs := (hb.block b h.lt).trans h
theorem Blk.below0 {w w' : World} {b B : Nat} {t : TypeId} {cs : Array Value} (h : Blk w b t cs) (hb : Below B w w') (hlt : b < B) : Blk w' b t cs := (hb.block b hlt).trans h
theorem Blk.kept {w w' : World} {row : Option Nat} {b : Nat} {t : TypeId} {cs : Array Value} (h : Blk w b t cs) (hg : w.grownBy w' row) (hne : some b ≠ row) : Blk w' b t cs := (hg.block b h.lt hne).trans h
theorem Blk.alloc {w : World} {b : Nat} {t : TypeId} {cs : Array Value} (h : Blk w b t cs) (o : Obj) : Blk (w.alloc o) b t cs := h.kept (World.grownBy_alloc w o none) (by simp)
theorem Blk.drew {w : World} {b : Nat} {t : TypeId} {cs : Array Value} (h : Blk w b t cs) : Blk w.drew b t cs := h
theorem Blk.cell {w : World} {b : Nat} {t : TypeId} {cs : Array Value} (h : Blk w b t cs) (i : Nat) : w.cell? ⟨b, i, none⟩ = cs[i]? := by simp [World.cell?, show w.heap[b]? = _ from h]
theorem Blk.frozen {w : World} {b : Nat} {t : TypeId} {cs : Array Value} (h : Blk w b t cs) (i : Nat) : w.frozen? ⟨b, i, none⟩ = false := by simp [World.frozen?, show w.heap[b]? = _ from h]
theorem Blk.set {w : World} {b : Nat} {t : TypeId} {cs : Array Value} (h : Blk w b t cs) (ds : Array Value) : Blk (w.setRow b ds) b t ds := setRow_heap w b cs ds t _ h
theorem grown_setRow (w : World) (b : Nat) (cs : Array Value) : w.grownBy (w.setRow b cs) (some b) :=
  ⟨rfl, rfl, rfl, by simp, fun k _ hk => setRow_other w b k cs (fun e => hk (by rw [e]))⟩
theorem Blk.other {w : World} {b b' : Nat} {t : TypeId} {cs : Array Value} (h : Blk w b t cs) (hne : b ≠ b') (ds : Array Value) : Blk (w.setRow b' ds) b t cs := h.kept (grown_setRow w b' ds) (fun e => hne (by cases e; rfl))
theorem Blk.not_row {w : World} {b : Nat} {t e : TypeId} {cs : Array Value} (h : Blk w b t cs) (hte : t ≠ e) {base size k : Nat} {v : Value} {xs : List Value} (hr : w.ownsRow base e size v k xs) : some b ≠ v.ownBlock := by
 rcases hr.2 with ⟨rfl, _⟩ | ⟨g, cap, cur, rfl, _, hgb, _⟩
 · simp [Value.ownBlock]
 · intro q; (obtain rfl : b = g := by simpa [Value.ownBlock] using q); have := (show w.heap[b]? = _ from h).symm.trans hgb; simp at this; exact hte this.2
theorem row_blk {B : Nat} {w : World} {e t : TypeId} {size n b : Nat} {v : Value} {xs : List Value} {cs : Array Value} (h : w.ownsRow B e size v n xs) (hx : Blk w b t cs) (hte : t ≠ e) (ds : Array Value) : (w.setRow b ds).ownsRow B e size v n xs := h.kept (grown_setRow w b ds) (.inr (hx.not_row hte h).symm)
theorem below_blk {B : Nat} {w w' : World} {b : Nat} (h : Below B w w') (hb : B ≤ b) (ds : Array Value) : Below B w (w'.setRow b ds) := h.trans ⟨rfl, rfl, rfl, by simp [World.setRow], fun k hk => setRow_other w' b k ds (by omega)⟩
theorem wpList_store_whole {P : Program} {ops : Array Oper} {rest : List Oper} {o : Oper} {a : Act} {w : World} {Q : Exit → Act → World → Prop} (hg : o.guard = none) (ty : TypeId) (x y : Operand) (ho : o.op = .store ty x y) (b : Nat) (cells : Array Value) (hx : a.eval x = .pointer (some ⟨b, 0, none⟩)) (hy : a.eval y = .agg cells) (t : TypeId) (old : Array Value) (hb : Blk w b t old) (hi : (P.info? ty).map (·.size) = some cells.size) (hold : old.size = cells.size) (h1 : cells.all (·.oneCell') = true) (h : wpList P ops Q rest (a.put o.dst undef) (w.setRow b cells)) : wpList P ops Q (o :: rest) a w := wpList_plain hg fun _ hK => wp_store_row ty x y ho b cells hx hy t old hb hi hold h1 (hK _ _ h)
theorem wpList_load_whole {P : Program} {ops : Array Oper} {rest : List Oper} {o : Oper} {a : Act} {w : World} {Q : Exit → Act → World → Prop} (hg : o.guard = none) (ty : TypeId) (x : Operand) (ho : o.op = .load ty x)
    (b : Addr) (hx : a.eval x = .pointer (some b)) (v : Value) (hl : (loadVar ty b).run P w = .ok v w)
    (h : wpList P ops Q rest (a.put o.dst v) w) : wpList P ops Q (o :: rest) a w :=
  wpList_plain hg fun _ hK => by
    unfold Oper.wp execOp
    simp only [ho, hx, Instr.loadAt, Instr.sureAddr, Sem.run_bind, Sem.run_pure, Result.andThen_ok, hl]
    exact hK _ _ h
theorem results_cell {P : Program} {fn : Func} {a t : Nat} {tmps : Array Value} {w : World} {b : Addr} {v : Value} (h : fn.results = #[.cell a t]) (hp : tmps.getD a undef = .pointer (some b)) (hl : (loadVar t b).run P w = .ok v w) : (results fn tmps).run P w = .ok v w := by (have hp' : tmps[a]?.getD undef = .pointer (some b) := by simpa using hp); simp [results, h, hp', asAddr, hl]
theorem heap_setAt {w : World} {b i : Nat} {t : TypeId} {cs : Array Value} (h : Blk w b t cs) (v : Value) : Blk (w.setCell ⟨b, i, none⟩ v) b t (cs.setIfInBounds i v) := by unfold Blk; rw [heap_setCell_same w b i _ _ v h]
theorem Blk.otherC {w : World} {b b' i : Nat} {t : TypeId} {cs : Array Value} (h : Blk w b t cs) (hne : b ≠ b') (v : Value) : Blk (w.setCell ⟨b', i, none⟩ v) b t cs := by unfold Blk; rw [Below.heap_setCell _ _ _ _ hne]; exact h
theorem grown_setC (w : World) (b i : Nat) (v : Value) : w.grownBy (w.setCell ⟨b, i, none⟩ v) (some b) :=
  ⟨rfl, rfl, rfl, by simp [World.setCell], fun k _ hk => Below.heap_setCell _ _ _ _ (fun e => hk (by rw [e]))⟩
theorem row_setC {B : Nat} {w : World} {e t : TypeId} {size n b i : Nat} {v : Value} {xs : List Value} {cs : Array Value} (h : w.ownsRow B e size v n xs) (hx : Blk w b t cs) (hte : t ≠ e) (x : Value) : (w.setCell ⟨b, i, none⟩ x).ownsRow B e size v n xs := h.kept (grown_setC w b i x) (.inr (hx.not_row hte h).symm)
def setAll : Array Value → Nat → List Value → Array Value
  | cs, _, [] => cs
  | cs, o, v :: r => setAll (cs.setIfInBounds o v) (o + 1) r
theorem Blk.setCells {b : Nat} {t : TypeId} : ∀ (vs : List Value) (o : Nat) {w : World} {cs : Array Value}, Blk w b t cs → Blk (w.setCells b o vs) b t (setAll cs o vs)
  | [], _, _, _, h => h
  | v :: r, o, _, _, h => Blk.setCells r (o + 1) (heap_setAt h v)
theorem grown_trans {u v w : World} {b : Nat} (h : u.grownBy v (some b)) (k : v.grownBy w (some b)) : u.grownBy w (some b) := ⟨k.os.trans h.os, k.tape.trans h.tape, k.output.trans h.output, Nat.le_trans h.size k.size, fun z hz hne => (k.block z (Nat.lt_of_lt_of_le hz h.size) hne).trans (h.block z hz hne)⟩
theorem grown_setCells (b : Nat) : ∀ (vs : List Value) (o : Nat) (w : World), w.grownBy (w.setCells b o vs) (some b)
  | [], _, _ => ⟨rfl, rfl, rfl, Nat.le_refl _, fun _ _ _ => rfl⟩
  | v :: r, o, w => grown_trans (grown_setC w b o v) (grown_setCells b r (o + 1) _)
theorem Blk.there {w : World} {b : Nat} {t : TypeId} {cs : Array Value} (h : Blk w b t cs) {o n : Nat} (hn : o + n ≤ cs.size) : w.there b o n := fun j hj => by
  rw [h.cell, h.frozen]
  refine ⟨?_, rfl⟩
  rw [Array.getElem?_eq_getElem (by omega)]
  rfl
theorem Blk.range {w : World} {b : Nat} {t : TypeId} {cs : Array Value} (h : Blk w b t cs) {o : Nat} {vs : List Value} (hv : ∀ j v, vs[j]? = some v → cs[o + j]? = some v) : w.rangeAt b o vs := fun j v hj => by
  rw [h.cell]; exact hv j v hj
structure Pre (R : World → World → Prop) : Prop where
  refl : ∀ w, R w w
  trans : ∀ u v w, R u v → R v w → R u w
section
variable {P : Program} {ops : Array Oper} {Q : Exit → Act → World → Prop} {md : Region.Mode} {R : World → World → Prop}
def waitsB (md : Region.Mode) (ops : Array Oper) (j : Nat) : Bool :=
  (List.range ops.size).all fun k => k == j || ((ops[j]?).map (fun o => o.after.any fun e => Region.binds md e && e.on == k)).getD false
def wpAnyR (P : Program) (md : Region.Mode) (ops : Array Oper) (Q : Exit → Act → World → Prop) (R : World → World → Prop) : Nat → Array Bool → Act → World → Prop
  | 0, listed, a, w => Region.ready md ops listed = [] ∧ Q .normal a w
  | fuel + 1, listed, a, w =>
    (Region.ready md ops listed = [] → Q .normal a w) ∧
    ∀ i ∈ Region.ready md ops listed, wpOp P ops Q i (fun a' w' => (waitsB md ops i = true ∧ Region.ready md ops (listed.setIfInBounds i true) = [] ∧ Q .normal a' w') ∨ (R w w' ∧ wpAnyR P md ops Q R fuel (listed.setIfInBounds i true) a' w')) a w
theorem wpAny_of_R : ∀ (fuel : Nat) (listed : Array Bool) (a : Act) (w : World), wpAnyR P md ops Q R fuel listed a w → wpAny P md ops Q fuel listed a w
  | 0, _, _, _, h => h
  | fuel + 1, _, _, _, h => ⟨h.1, fun i hi => wpOp_mono (fun a' w' h' => by
      rcases h' with ⟨_, h1, h2⟩ | h'
      · cases fuel with
        | zero => exact ⟨h1, h2⟩
        | succ f => exact ⟨fun _ => h2, by rw [h1]; simp⟩
      · exact wpAny_of_R fuel _ a' w' h'.2) (h.2 i hi)⟩
theorem YieldsIf.later {S S' : World → Prop} {o : Oper} {v : Value} {a : Act} (h : YieldsIf P ops S o v a) (hs : ∀ w, S' w → S w) : YieldsIf P ops S' o v a := h.imp (fun ⟨hw, hv⟩ => ⟨hw, fun w hS => hv w (hs w hS)⟩) id
theorem waits_spec {j i : Nat} {oj : Oper} (hj : ops[j]? = some oj) (h : waitsB md ops j = true) (hi : i < ops.size) (hne : i ≠ j) : ∃ e ∈ oj.after, Region.binds md e = true ∧ e.on = i := by unfold waitsB at h; rw [List.all_eq_true] at h; have h1 := h i (by rw [List.mem_range]; exact hi); rw [hj] at h1; simp only [Option.map_some, Option.getD_some, Bool.or_eq_true, beq_iff_eq, hne, false_or, Array.any_eq_true', Bool.and_eq_true] at h1; exact h1
theorem wpAnyR_first (hP : Pre R) {i : Nat} {oi : Oper} {v : Value} (hi : ops[i]? = some oi) (hsel : ∀ (j : Nat) (o : Oper) cs b, ops[j]? = some o → o.op ≠ .select cs b) (hQ : ∀ c a w, Q (.panic c) (a.put oi.dst v) w → Q (.panic c) a w) : ∀ (fuel : Nat) (listed : Array Bool) (a : Act) (w : World), (∀ j oj, ops[j]? = some oj → j ≠ i → listed.getD j true = false → (∀ e ∈ oj.after, Region.binds md e = true → e.on ≠ i) → oi.apart ops oj = true) → i ∈ Region.ready md ops listed → YieldsIf P ops (R w) oi v a → wpAnyR P md ops Q R fuel (listed.setIfInBounds i true) (a.put oi.dst v) w → wpAnyR P md ops Q R (fuel + 1) listed a w := by
 intro fuel
 induction fuel with
 | zero =>
  intro listed a w _ hr hy H; refine ⟨fun h => (by rw [h] at hr; cases hr), fun j hj => ?_⟩; by_cases hji : j = i
  · subst hji; exact hy.wpOp hi (hP.refl w) (.inr ⟨hP.refl w, H⟩)
  · have := ready_mono hj hji; rw [H.1] at this; cases this
 | succ fuel ih =>
  intro listed a w hfree hr hy H; refine ⟨fun h => (by rw [h] at hr; cases hr), fun j hj => ?_⟩; by_cases hji : j = i
  · subst hji; exact hy.wpOp hi (hP.refl w) (.inr ⟨hP.refl w, H⟩)
  · have h1 := H.2 j (ready_mono hj hji); obtain ⟨hjun, oj, hoj, hall⟩ := mem_ready.1 hj
    have hnot : ∀ e ∈ oj.after, Region.binds md e = true → e.on ≠ i := fun e he hb heq => by
     have h1 := hall e he hb; have h0 := (mem_ready.1 hr).1; rw [heq] at h1; rcases Nat.lt_or_ge i listed.size with h' | h'
     · simp [h'] at h0 h1; rw [h0] at h1; cases h1
     · simp [Array.getElem?_eq_none h'] at h1
    (have hnw : ¬ waitsB md ops j = true := fun q => by obtain ⟨e, he, hb, heq⟩ := waits_spec hoj q (Array.getElem?_eq_some_iff.1 hi).1 (Ne.symm hji); exact hnot e he hb heq); have h2 := wpOp_putIf hoj (hfree j oj hoj hji hjun hnot) (fun cs b => hsel i oi cs b hi) (fun cs b => hsel j oj cs b hoj) hQ hy h1
    have hfree' : ∀ k ok, ops[k]? = some ok → k ≠ i → (listed.setIfInBounds j true).getD k true = false →
        (∀ e ∈ ok.after, Region.binds md e = true → e.on ≠ i) → oi.apart ops ok = true := fun k ok hk hki hun hno => by
      refine hfree k ok hk hki ?_ hno
      by_cases hjk : j = k
      · subst hjk; exact hjun
      · rw [getD_set_ne true hjk] at hun; exact hun
    refine wpOp_mono (fun a' w' h3 => ?_) h2; rcases h3.2 with ⟨q, _⟩ | ⟨h4, h5⟩
    · exact absurd q hnw
    refine .inr ⟨h4, ih (listed.setIfInBounds j true) a' w' hfree' (ready_mono hr (Ne.symm hji)) (YieldsIf.later h3.1 (fun u hu => hP.trans _ _ _ h4 hu)) ?_⟩; rw [Array.setIfInBounds_comm _ _ hji]; exact h5
theorem ord_take (hP : Pre R) {i d : Nat} {v : Value} {fuel : Nat} {listed : Array Bool} {a : Act} {w : World} (hs : Region.noSelect ops = true) (hf : Region.free md ops listed i = true) (hr : (Region.ready md ops listed).contains i = true) (hd : (ops[i]?).bind (·.dst) = some d) (hQ : ∀ c a w, Q (.panic c) (a.put (some d) v) w → Q (.panic c) a w) (hy : ∀ oi, ops[i]? = some oi → Region.wanted oi (yielded ops a.tmps) = true ∧ ∀ w', R w w' → (execOp a.eval oi).run P w' = .ok (.value v) w') (h : wpAnyR P md ops Q R fuel (listed.setIfInBounds i true) (a.put (some d) v) w) : wpAnyR P md ops Q R (fuel + 1) listed a w := by
 cases hi : ops[i]? with
 | none => rw [hi] at hd; cases hd
 | some oi =>
  rw [hi] at hd; have hd' : oi.dst = some d := hd; rw [← hd'] at h hQ; exact wpAnyR_first hP hi (Region.noSelect_spec hs) hQ fuel listed a w (Region.free_spec hi hf) (by simpa using hr) (.inl (hy oi hi)) h
theorem ord_skip (hP : Pre R) {i d : Nat} {fuel : Nat} {listed : Array Bool} {a : Act} {w : World} (hs : Region.noSelect ops = true) (hf : Region.free md ops listed i = true) (hr : (Region.ready md ops listed).contains i = true) (hd : (ops[i]?).bind (·.dst) = some d) (hQ : ∀ c a w, Q (.panic c) (a.put (some d) undef) w → Q (.panic c) a w) (hy : ((ops[i]?).map fun oi => Region.wanted oi (yielded ops a.tmps)) = some false) (h : wpAnyR P md ops Q R fuel (listed.setIfInBounds i true) (a.put (some d) undef) w) : wpAnyR P md ops Q R (fuel + 1) listed a w := by
 cases hi : ops[i]? with
 | none => rw [hi] at hd; cases hd
 | some oi =>
  rw [hi] at hd hy; have hd' : oi.dst = some d := hd; rw [← hd'] at h hQ; exact wpAnyR_first hP hi (Region.noSelect_spec hs) hQ fuel listed a w (Region.free_spec hi hf) (by simpa using hr) (.inr ⟨by simpa using hy, rfl⟩) h
theorem ord_one {i : Nat} {fuel : Nat} {listed : Array Bool} {a : Act} {w : World} (hr : Region.ready md ops listed = [i]) (h : ∀ oi K, ops[i]? = some oi → Shut (∀ a' w', R w w' → wpAnyR P md ops Q R fuel (listed.setIfInBounds i true) a' w' → K a' w') → Region.wanted oi (yielded ops a.tmps) = true ∧ oi.wp P a w K Q) : wpAnyR P md ops Q R (fuel + 1) listed a w := by
 refine ⟨fun h0 => (by rw [hr] at h0; cases h0), fun j hj => ?_⟩; rw [hr] at hj; (obtain rfl : j = i := by simpa using hj); unfold wpOp
 cases hi : ops[j]? with
 | none =>
  (have : j ∈ Region.ready md ops listed := by rw [hr]; simp); obtain ⟨_, o, ho, _⟩ := mem_ready.1 this; rw [hi] at ho; cases ho
 | some oi =>
  obtain ⟨hw, hwp⟩ := h oi (fun a' w' => (waitsB md ops j = true ∧ Region.ready md ops (listed.setIfInBounds j true) = [] ∧ Q .normal a' w') ∨ (R w w' ∧ wpAnyR P md ops Q R fuel (listed.setIfInBounds j true) a' w')) hi (fun a' w' hl hk => .inr (And.intro hl hk)); simp only [hw, if_true]; exact .inl hwp
theorem ord_last {i : Nat} {fuel : Nat} {listed : Array Bool} {a : Act} {w : World} (hr : Region.ready md ops listed = [i]) (hwt : waitsB md ops i = true) (he : Region.ready md ops (listed.setIfInBounds i true) = []) (h : ∀ oi K, ops[i]? = some oi → Shut (∀ a' w', Q .normal a' w' → K a' w') → Region.wanted oi (yielded ops a.tmps) = true ∧ oi.wp P a w K Q) : wpAnyR P md ops Q R (fuel + 1) listed a w := by
 refine ⟨fun h0 => (by rw [hr] at h0; cases h0), fun j hj => ?_⟩; rw [hr] at hj; (obtain rfl : j = i := by simpa using hj); unfold wpOp
 cases hi : ops[j]? with
 | none =>
  (have : j ∈ Region.ready md ops listed := by rw [hr]; simp); obtain ⟨_, o, ho, _⟩ := mem_ready.1 this; rw [hi] at ho; cases ho
 | some oi =>
  obtain ⟨hw, hwp⟩ := h oi (fun a' w' => (waitsB md ops j = true ∧ Region.ready md ops (listed.setIfInBounds j true) = [] ∧ Q .normal a' w') ∨ (R w w' ∧ wpAnyR P md ops Q R fuel (listed.setIfInBounds j true) a' w')) hi (fun a' w' hl => .inl ⟨hwt, he, hl⟩); simp only [hw, if_true]; exact .inl hwp
theorem later_done {listed : Array Bool} {a : Act} {w : World} (hr : Region.ready md ops listed = []) (h : Q .normal a w) : ∀ fuel, wpAnyR P md ops Q R fuel listed a w
  | 0 => ⟨hr, h⟩
  | _ + 1 => ⟨fun _ => h, by rw [hr]; simp⟩
theorem wp_region_ord (R : World → World → Prop) {id : Nat} {a : Act} {w : World} (hm : P.follows .mixedOrders = true) (h : wpAnyR P .any ops Q R ops.size (Array.replicate ops.size false) a w.drew) : (Code.region id ops true).wp P Q a w := wp_region_any hm (wpAny_of_R _ _ _ _ h)
end
def Later (w w' : World) : Prop := Below w.heap.size w w'
theorem laterPre : Pre Later := ⟨fun _ => Below.refl _ _, fun _ _ _ h k => Below.trans h (Below.mono k h.size)⟩
theorem belowPre (B : Nat) : Pre (Below B) := ⟨fun _ => Below.refl _ _, fun _ _ _ h k => Below.trans h k⟩
section
variable {P : Program} {ops : Array Oper} {Q : Exit → Act → World → Prop} {md : Region.Mode}
end
end Go.Proofs.YtdfpeaenbmgihaaGreat
