/-
  Plain mathematics of secrets' names: how many bytes of a text, from a place on, are a name; nothing of the program is in it.
-/
import Derived.KernelRfl
namespace Go.Proofs.Ytkcopldlobomhaa.Kw

/-- The byte at a place; 256 past the end. -/
def g (s : ByteArray) (i : Nat) : Nat := if h : i < s.size then (s[i]'h).toNat else 256

theorem g_in {s : ByteArray} {i : Nat} (h : i < s.size) : g s i = (s[i]'h).toNat := by simp [g, h]
theorem g_out {s : ByteArray} {i : Nat} (h : s.size ≤ i) : g s i = 256 := by
  have : ¬ i < s.size := by omega
  simp [g, this]
theorem g_lt {s : ByteArray} {i : Nat} : g s i < 256 ↔ i < s.size := by
  by_cases h : i < s.size
  · rw [g_in h]; have := (s[i]'h).toNat_lt; simp at this; omega
  · rw [g_out (by omega)]; omega
theorem g_le (s : ByteArray) (i : Nat) : g s i ≤ 256 := by
  by_cases h : i < s.size
  · have := g_lt.2 h; omega
  · rw [g_out (by omega)]; omega

/-- How many bytes, from a place on, name a new secret; 0, if none do. -/
def fresh (s : ByteArray) (a : Nat) : Nat :=
  if 65 ≤ g s a ∧ g s a ≤ 72 ∧ 49 ≤ g s (a + 1) ∧ g s (a + 1) ≤ 57 then
    (if g s (a + 2) = 59 then 3 else if 48 ≤ g s (a + 2) ∧ g s (a + 2) ≤ 57 ∧ g s (a + 3) = 59 then 4 else 0)
  else 0

def more (n m : Nat) : Nat := if m = 0 then 0 else n + m

/-- How many bytes, from a place on, are a name; 0, if none are. -/
def sz (s : ByteArray) : Nat → Nat → Nat
  | 0, _ => 0
  | f + 1, a =>
    if g s a = 110 ∨ g s a = 107 then more 1 (sz s f (a + 1))
    else if g s a = 109 then (if 65 ≤ g s (a + 1) ∧ g s (a + 1) ≤ 72 then more 2 (sz s f (a + 2)) else 0)
    else if g s a = 114 then (if 49 ≤ g s (a + 1) ∧ g s (a + 1) ≤ 57 then more 2 (sz s f (a + 2)) else 0)
    else if g s a = 101 then (if sz s f (a + 1) = 0 then 0 else more (1 + sz s f (a + 1)) (sz s f (a + 1 + sz s f (a + 1))))
    else fresh s a

theorem sz_succ (s : ByteArray) (f a : Nat) : sz s (f + 1) a =
    if g s a = 110 ∨ g s a = 107 then more 1 (sz s f (a + 1))
    else if g s a = 109 then (if 65 ≤ g s (a + 1) ∧ g s (a + 1) ≤ 72 then more 2 (sz s f (a + 2)) else 0)
    else if g s a = 114 then (if 49 ≤ g s (a + 1) ∧ g s (a + 1) ≤ 57 then more 2 (sz s f (a + 2)) else 0)
    else if g s a = 101 then (if sz s f (a + 1) = 0 then 0 else more (1 + sz s f (a + 1)) (sz s f (a + 1 + sz s f (a + 1))))
    else fresh s a := rfl

theorem fresh_le {s : ByteArray} {a : Nat} (h : fresh s a ≠ 0) : a + fresh s a ≤ s.size := by
  unfold fresh at h ⊢
  split at h
  · rename_i h1
    rw [if_pos h1]
    split at h
    · rename_i h2
      rw [if_pos h2]
      have := (g_lt (s := s) (i := a + 2)).1 (by omega); omega
    · rename_i h2
      rw [if_neg h2]
      split at h
      · rename_i h3
        rw [if_pos h3]
        have := (g_lt (s := s) (i := a + 3)).1 (by omega); omega
      · exact absurd rfl h
  · exact absurd rfl h

theorem fresh_out {s : ByteArray} {a : Nat} (h : s.size ≤ a) : fresh s a = 0 := by
  unfold fresh
  rw [if_neg (by rw [g_out h]; omega)]

theorem more_ne {n m : Nat} (h : more n m ≠ 0) : m ≠ 0 ∧ more n m = n + m := by
  unfold more at h ⊢
  by_cases e : m = 0
  · simp [e] at h
  · simp [e]

theorem sz_out {s : ByteArray} (f a : Nat) (h : s.size ≤ a) : sz s f a = 0 := by
  cases f with
  | zero => rfl
  | succ f =>
    unfold sz
    rw [g_out h, if_neg (by omega), if_neg (by omega), if_neg (by omega), if_neg (by omega), fresh_out h]

theorem sz_le {s : ByteArray} (f : Nat) : ∀ a, sz s f a ≠ 0 → a + sz s f a ≤ s.size := by
  induction f with
  | zero => intro a h; exact absurd rfl h
  | succ f ih =>
    intro a h
    unfold sz at h ⊢
    by_cases h1 : g s a = 110 ∨ g s a = 107
    · rw [if_pos h1] at h ⊢
      obtain ⟨h2, h3⟩ := more_ne h
      have := ih _ h2; omega
    rw [if_neg h1] at h ⊢
    by_cases h2 : g s a = 109
    · rw [if_pos h2] at h ⊢
      by_cases h3 : 65 ≤ g s (a + 1) ∧ g s (a + 1) ≤ 72
      · rw [if_pos h3] at h ⊢
        obtain ⟨h4, h5⟩ := more_ne h
        have := ih _ h4; omega
      · rw [if_neg h3] at h; exact absurd rfl h
    rw [if_neg h2] at h ⊢
    by_cases h3 : g s a = 114
    · rw [if_pos h3] at h ⊢
      by_cases h4 : 49 ≤ g s (a + 1) ∧ g s (a + 1) ≤ 57
      · rw [if_pos h4] at h ⊢
        obtain ⟨h5, h6⟩ := more_ne h
        have := ih _ h5; omega
      · rw [if_neg h4] at h; exact absurd rfl h
    rw [if_neg h3] at h ⊢
    by_cases h4 : g s a = 101
    · rw [if_pos h4] at h ⊢
      by_cases h5 : sz s f (a + 1) = 0
      · rw [if_pos h5] at h; exact absurd rfl h
      · rw [if_neg h5] at h ⊢
        obtain ⟨h6, h7⟩ := more_ne h
        have := ih _ h6; omega
    rw [if_neg h4] at h ⊢
    exact fresh_le h

theorem sz_step {s : ByteArray} (f : Nat) : ∀ a, s.size - a ≤ f → sz s (f + 1) a = sz s f a := by
  induction f with
  | zero => intro a h; rw [sz_out 1 a (by omega)]; rfl
  | succ f ih =>
    intro a h
    have e : ∀ b, a < b → sz s (f + 1) b = sz s f b := fun b hb => ih b (by omega)
    rw [sz_succ s (f + 1) a, sz_succ s f a, e (a + 1) (by omega), e (a + 2) (by omega), e (a + 1 + sz s f (a + 1)) (by omega)]

theorem sz_fuel {s : ByteArray} {a : Nat} (f : Nat) (h : s.size - a ≤ f) (k : Nat) : sz s (f + k) a = sz s f a := by
  induction k with
  | zero => rfl
  | succ k ih => rw [← Nat.add_assoc, sz_step _ _ (by omega), ih]

/-- How many bytes, from a place on, are a name. -/
def len (s : ByteArray) (a : Nat) : Nat := sz s (s.size - a) a

theorem len_eq {s : ByteArray} {a f : Nat} (h : s.size - a ≤ f) : sz s f a = len s a := by
  have := sz_fuel (s := s) (a := a) (s.size - a) (Nat.le_refl _) (f - (s.size - a))
  rw [show s.size - a + (f - (s.size - a)) = f by omega] at this
  exact this

theorem len_le {s : ByteArray} {a : Nat} (h : len s a ≠ 0) : a + len s a ≤ s.size := sz_le _ _ h
theorem len_out {s : ByteArray} {a : Nat} (h : s.size ≤ a) : len s a = 0 := sz_out _ _ h

/-- The one equation of 'len'. -/
theorem len_unfold (s : ByteArray) (a : Nat) : len s a =
    if g s a = 110 ∨ g s a = 107 then more 1 (len s (a + 1))
    else if g s a = 109 then (if 65 ≤ g s (a + 1) ∧ g s (a + 1) ≤ 72 then more 2 (len s (a + 2)) else 0)
    else if g s a = 114 then (if 49 ≤ g s (a + 1) ∧ g s (a + 1) ≤ 57 then more 2 (len s (a + 2)) else 0)
    else if g s a = 101 then (if len s (a + 1) = 0 then 0 else more (1 + len s (a + 1)) (len s (a + 1 + len s (a + 1))))
    else fresh s a := by
  rw [← len_eq (f := s.size - a + 1) (by omega), sz_succ, len_eq (by omega), len_eq (by omega), len_eq (by omega)]

/-- How many bytes, from a place on, are two names; a letter and a name; a room's number and a name. -/
def epLen (s : ByteArray) (a : Nat) : Nat := if len s a = 0 then 0 else more (len s a) (len s (a + len s a))
def sayLen (s : ByteArray) (a : Nat) : Nat := if 65 ≤ g s a ∧ g s a ≤ 72 then more 1 (len s (a + 1)) else 0
def roomLen (s : ByteArray) (a : Nat) : Nat := if 49 ≤ g s a ∧ g s a ≤ 57 then more 1 (len s (a + 1)) else 0
theorem more_one (n m : Nat) : more 1 (more n m) = more (1 + n) m := by
  unfold more; by_cases h : m = 0
  · simp [h]
  · rw [if_neg h, if_neg h]; by_cases h2 : n + m = 0
    · omega
    · rw [if_neg h2]; omega
theorem len_e {s : ByteArray} {a : Nat} (h : g s a = 101) : len s a = more 1 (epLen s (a + 1)) := by
  rw [len_unfold, if_neg (by omega), if_neg (by omega), if_neg (by omega), if_pos h]
  unfold epLen
  by_cases h1 : len s (a + 1) = 0
  · rw [if_pos h1, if_pos h1]; rfl
  · rw [if_neg h1, if_neg h1, more_one]
theorem len_m {s : ByteArray} {a : Nat} (h : g s a = 109) : len s a = more 1 (sayLen s (a + 1)) := by
  rw [len_unfold, if_neg (by omega), if_pos h]
  unfold sayLen
  by_cases h1 : 65 ≤ g s (a + 1) ∧ g s (a + 1) ≤ 72
  · rw [if_pos h1, if_pos h1, more_one]
  · rw [if_neg h1, if_neg h1]; rfl
theorem len_r {s : ByteArray} {a : Nat} (h : g s a = 114) : len s a = more 1 (roomLen s (a + 1)) := by
  rw [len_unfold, if_neg (by omega), if_neg (by omega), if_pos h]
  unfold roomLen
  by_cases h1 : 49 ≤ g s (a + 1) ∧ g s (a + 1) ≤ 57
  · rw [if_pos h1, if_pos h1, more_one]
  · rw [if_neg h1, if_neg h1]; rfl
theorem len_nk {s : ByteArray} {a : Nat} (h : g s a = 110 ∨ g s a = 107) : len s a = more 1 (len s (a + 1)) := by
  rw [len_unfold, if_pos h]
theorem len_else {s : ByteArray} {a : Nat} (h1 : g s a ≠ 110) (h2 : g s a ≠ 107) (h3 : g s a ≠ 109) (h4 : g s a ≠ 114) (h5 : g s a ≠ 101) : len s a = fresh s a := by
  rw [len_unfold, if_neg (by omega), if_neg h3, if_neg h4, if_neg h5]
theorem more_zero {n m : Nat} (h : m = 0) : more n m = 0 := by unfold more; rw [if_pos h]
theorem more_pos {n m : Nat} (h : m ≠ 0) : more n m = n + m := by unfold more; rw [if_neg h]

/-- Is a text a secret's name? -/
def ok (s : ByteArray) : Bool := decide (s.size ≤ 300) && (!(s.size == 0) && (len s 0 == s.size))

/-- The number that stands at a place, of all its digits, and where it ends; none, if it is not in 1..most. -/
def rdn (s : ByteArray) (most : Nat) : Nat → Nat → Nat → Option (Nat × Nat)
  | 0, _, _ => none
  | f + 1, n, a =>
    if 48 ≤ g s a ∧ g s a ≤ 57 then
      (if n * 10 + (g s a - 48) < 1 ∨ most < n * 10 + (g s a - 48) then none else rdn s most f (n * 10 + (g s a - 48)) (a + 1))
    else if 0 < n then some (n, a) else none

theorem rdn_succ (s : ByteArray) (most f n a : Nat) : rdn s most (f + 1) n a =
    if 48 ≤ g s a ∧ g s a ≤ 57 then
      (if n * 10 + (g s a - 48) < 1 ∨ most < n * 10 + (g s a - 48) then none else rdn s most f (n * 10 + (g s a - 48)) (a + 1))
    else if 0 < n then some (n, a) else none := rfl

def num (s : ByteArray) (most a : Nat) : Option (Nat × Nat) := rdn s most (s.size + 1 - a) 0 a

theorem num_zero {s : ByteArray} {most a : Nat} (h : g s a ≤ 48 ∨ 57 < g s a) : num s most a = none := by
  unfold num
  by_cases ha : s.size + 1 ≤ a
  · rw [show s.size + 1 - a = 0 by omega]; rfl
  rw [show s.size + 1 - a = (s.size - a) + 1 by omega, rdn_succ]
  by_cases h48 : g s a = 48
  · rw [if_pos (by omega), if_pos (by omega)]
  · rw [if_neg (by omega), if_neg (by omega)]

theorem num_one {s : ByteArray} {most a b : Nat} (hb : b = a + 1) (h1 : 49 ≤ g s a) (h2 : g s a ≤ 57) (hm : g s a - 48 ≤ most) (h3 : g s b < 48 ∨ 57 < g s b) : num s most a = some (g s a - 48, b) := by
  subst hb
  have ha : a < s.size := g_lt.1 (by omega)
  unfold num
  rw [show s.size + 1 - a = (s.size - a - 1) + 1 + 1 by omega, rdn_succ, if_pos (by omega), if_neg (by omega), rdn_succ, if_neg (by omega), if_pos (by omega)]
  simp

theorem num_two {s : ByteArray} {most a b c : Nat} (hb : b = a + 1) (hc : c = a + 2) (h1 : 49 ≤ g s a) (h2 : g s a ≤ 57) (h3 : 48 ≤ g s b) (h4 : g s b ≤ 57) (hm : (g s a - 48) * 10 + (g s b - 48) ≤ most) (h5 : g s c < 48 ∨ 57 < g s c) :
    num s most a = some ((g s a - 48) * 10 + (g s b - 48), c) := by
  subst hb hc
  have ha : a + 1 < s.size := g_lt.1 (by omega)
  unfold num
  rw [show s.size + 1 - a = (s.size - a - 2) + 1 + 1 + 1 by omega, rdn_succ, if_pos (by omega), if_neg (by omega), rdn_succ, if_pos (by omega), if_neg (by omega), rdn_succ, show a + 1 + 1 = a + 2 from rfl, if_neg (by omega), if_pos (by omega)]
  simp

theorem num_big {s : ByteArray} {most a b : Nat} (hb : b = a + 1) (h1 : 49 ≤ g s a) (h2 : g s a ≤ 57) (h3 : 48 ≤ g s b) (h4 : g s b ≤ 57) (hm : most < (g s a - 48) * 10 + (g s b - 48)) : num s most a = none := by
  subst hb
  have ha : a + 1 < s.size := g_lt.1 (by omega)
  unfold num
  rw [show s.size + 1 - a = (s.size - a - 1) + 1 + 1 by omega, rdn_succ, if_pos (by omega)]
  by_cases hx : 0 * 10 + (g s a - 48) < 1 ∨ most < 0 * 10 + (g s a - 48)
  · rw [if_pos hx]
  · rw [if_neg hx, rdn_succ, if_pos (by omega), if_pos (by omega)]

theorem num_three {s : ByteArray} {most a b c : Nat} (hb : b = a + 1) (hc : c = a + 2) (hm : most ≤ 99) (h1 : 49 ≤ g s a) (h2 : g s a ≤ 57) (h3 : 48 ≤ g s b) (h4 : g s b ≤ 57) (h5 : 48 ≤ g s c) (h6 : g s c ≤ 57) : num s most a = none := by
  by_cases hq : most < (g s a - 48) * 10 + (g s b - 48)
  · exact num_big hb h1 h2 h3 h4 hq
  subst hb hc
  have ha : a + 2 < s.size := g_lt.1 (by omega)
  unfold num
  rw [show s.size + 1 - a = (s.size - a - 2) + 1 + 1 + 1 by omega, rdn_succ, if_pos (by omega), if_neg (by omega), rdn_succ, if_pos (by omega), if_neg (by omega), rdn_succ, show a + 1 + 1 = a + 2 from rfl, if_pos (by omega), if_pos (by omega)]

/-- The number of the new secret whose name stands at a place. -/
def nv (s : ByteArray) (a : Nat) : Nat := if g s (a + 2) = 59 then g s (a + 1) - 48 else (g s (a + 1) - 48) * 10 + (g s (a + 2) - 48)

/-- A name of a new secret, read as the program reads it. -/
theorem fresh_yes {s : ByteArray} {a : Nat} (h : fresh s a ≠ 0) : 65 ≤ g s a ∧ g s a ≤ 72 ∧ num s 99 (a + 1) = some (nv s a, a + fresh s a - 1) ∧ g s (a + fresh s a - 1) = 59 ∧ 3 ≤ fresh s a := by
  by_cases h1 : 65 ≤ g s a ∧ g s a ≤ 72 ∧ 49 ≤ g s (a + 1) ∧ g s (a + 1) ≤ 57
  · obtain ⟨p1, p2, p3, p4⟩ := h1
    by_cases h2 : g s (a + 2) = 59
    · have e : fresh s a = 3 := by unfold fresh; rw [if_pos ⟨p1, p2, p3, p4⟩, if_pos h2]
      have e2 : nv s a = g s (a + 1) - 48 := by unfold nv; rw [if_pos h2]
      rw [e, e2]
      exact ⟨p1, p2, num_one (b := a + 2) rfl p3 p4 (by omega) (by omega), h2, by omega⟩
    · by_cases h3 : 48 ≤ g s (a + 2) ∧ g s (a + 2) ≤ 57 ∧ g s (a + 3) = 59
      · have e : fresh s a = 4 := by unfold fresh; rw [if_pos ⟨p1, p2, p3, p4⟩, if_neg h2, if_pos h3]
        have e2 : nv s a = (g s (a + 1) - 48) * 10 + (g s (a + 2) - 48) := by unfold nv; rw [if_neg h2]
        obtain ⟨q1, q2, q3⟩ := h3
        rw [e, e2]
        exact ⟨p1, p2, num_two (b := a + 2) (c := a + 3) rfl rfl p3 p4 q1 q2 (by omega) (by omega), q3, by omega⟩
      · exfalso; apply h; unfold fresh; rw [if_pos ⟨p1, p2, p3, p4⟩, if_neg h2, if_neg h3]
  · exfalso; apply h; unfold fresh; rw [if_neg h1]

theorem fresh_no {s : ByteArray} {a : Nat} (h : fresh s a = 0) (h1 : 65 ≤ g s a) (h2 : g s a ≤ 72) :
    num s 99 (a + 1) = none ∨ ∃ n a1, num s 99 (a + 1) = some (n, a1) ∧ g s a1 ≠ 59 ∧ a1 ≤ s.size := by
  unfold fresh at h
  by_cases h3 : 49 ≤ g s (a + 1) ∧ g s (a + 1) ≤ 57
  · rw [if_pos ⟨h1, h2, h3⟩] at h
    by_cases h4 : g s (a + 2) = 59
    · rw [if_pos h4] at h; omega
    rw [if_neg h4] at h
    obtain ⟨h3, h3'⟩ := h3
    by_cases h5 : 48 ≤ g s (a + 2) ∧ g s (a + 2) ≤ 57
    · obtain ⟨h5, h5'⟩ := h5
      by_cases h6 : 48 ≤ g s (a + 3) ∧ g s (a + 3) ≤ 57
      · exact .inl (num_three (b := a + 2) (c := a + 3) rfl rfl (Nat.le_refl _) h3 h3' h5 h5' h6.1 h6.2)
      · refine .inr ⟨_, _, num_two (b := a + 2) (c := a + 3) rfl rfl h3 h3' h5 h5' (by omega) (by omega), ?_, ?_⟩
        · intro e
          rw [if_pos ⟨h5, h5', e⟩] at h; omega
        · have := (g_lt (s := s) (i := a + 2)).1 (by omega); omega
    · refine .inr ⟨_, _, num_one (b := a + 2) rfl h3 h3' (by omega) (by omega), h4, ?_⟩
      have := (g_lt (s := s) (i := a + 1)).1 (by omega); omega
  · exact .inl (num_zero (by omega))

theorem len_digit {s : ByteArray} {a : Nat} (h : 48 ≤ g s a) (h2 : g s a ≤ 57) : len s a = 0 := by
  rw [len_unfold, if_neg (by omega), if_neg (by omega), if_neg (by omega), if_neg (by omega)]
  unfold fresh
  rw [if_neg (by omega)]

/-- The number of a room, read as the program reads it. -/
theorem room_yes {s : ByteArray} {a : Nat} (h : 49 ≤ g s a ∧ g s a ≤ 57) (hl : len s (a + 1) ≠ 0) : num s 9 a = some (g s a - 48, a + 1) := by
  refine num_one rfl h.1 h.2 (by omega) ?_
  by_cases h3 : 48 ≤ g s (a + 1) ∧ g s (a + 1) ≤ 57
  · exact absurd (len_digit h3.1 h3.2) hl
  · omega

theorem room_no {s : ByteArray} {a : Nat} (h : 49 ≤ g s a ∧ g s a ≤ 57) : num s 9 a = none ∨ num s 9 a = some (g s a - 48, a + 1) := by
  by_cases h3 : 48 ≤ g s (a + 1) ∧ g s (a + 1) ≤ 57
  · exact .inl (num_big rfl h.1 h.2 h3.1 h3.2 (by omega))
  · exact .inr (num_one rfl h.1 h.2 (by omega) (by omega))

#print axioms len_unfold
end Go.Proofs.Ytkcopldlobomhaa.Kw
