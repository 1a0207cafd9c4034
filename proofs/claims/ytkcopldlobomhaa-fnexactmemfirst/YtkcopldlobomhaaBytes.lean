/-
  Plain mathematics of texts: bytes by their places, texts one behind the other, new secrets' names. Nothing of the program is in it.
-/
import Derived.Test.YtkcopldlobomhaaMath
namespace Go.Proofs.Ytkcopldlobomhaa
open Kw

/-- One byte. -/
def by1 (n : Nat) : ByteArray := ⟨#[UInt8.ofNat n]⟩
/-- A number below 100, as a text. -/
def dec (n : Nat) : ByteArray := if n < 10 then ⟨#[UInt8.ofNat (48 + n)]⟩ else ⟨#[UInt8.ofNat (48 + n / 10), UInt8.ofNat (48 + n % 10)]⟩
/-- The name of a new secret. -/
def newName (who n : Nat) : ByteArray := by1 (65 + who) ++ dec n ++ by1 59
/-- What a call of 'MakNew' answers. -/
def mkNew (who n : Int) : ByteArray := if 0 ≤ who ∧ who < 8 ∧ 1 ≤ n ∧ n ≤ 99 then newName who.toNat n.toNat else ⟨#[]⟩

theorem by1_size (n : Nat) : (by1 n).size = 1 := rfl
theorem dec_size (n : Nat) : (dec n).size = if n < 10 then 1 else 2 := by unfold dec; split <;> rfl
theorem dec_sizes (n : Nat) : (dec n).size = 1 ∨ (dec n).size = 2 := by unfold dec; split <;> simp [ByteArray.size]
theorem newName_size (who n : Nat) : (newName who n).size = 2 + (dec n).size := by
  unfold newName; simp [ByteArray.size_append, by1_size]; omega
theorem newName_sizes (who n : Nat) : (newName who n).size = 3 ∨ (newName who n).size = 4 := by
  rw [newName_size]; rcases dec_sizes n with h | h <;> omega
theorem app_nil (a : ByteArray) : a ++ ⟨#[]⟩ = a := by apply ByteArray.ext; simp [ByteArray.data_append]
theorem dec_one (n : Nat) (h : n < 10) : dec n = by1 (48 + n) := by unfold dec by1; rw [if_pos h]
theorem dec_two (n : Nat) (h : ¬ n < 10) : dec n = by1 (48 + n / 10) ++ by1 (48 + n % 10) := by
  unfold dec by1; rw [if_neg h]; apply ByteArray.ext; simp [ByteArray.data_append]

theorem ext_g {x y : ByteArray} (h : x.size = y.size) (hg : ∀ i, i < x.size → g x i = g y i) : x = y := by
  apply ByteArray.ext
  apply Array.ext
  · exact h
  · intro i h1 h2
    have := hg i h1
    rw [g_in h1, g_in (by rw [← h]; exact h1)] at this
    exact UInt8.toNat_inj.1 this

theorem g_append (x y : ByteArray) (i : Nat) : g (x ++ y) i = if i < x.size then g x i else g y (i - x.size) := by
  by_cases h : i < x.size
  · rw [if_pos h, g_in h, g_in (by simp [ByteArray.size_append]; omega)]
    congr 1
    exact ByteArray.getElem_append_left h
  · rw [if_neg h]
    by_cases h2 : i < (x ++ y).size
    · have h3 : i - x.size < y.size := by simp [ByteArray.size_append] at h2; omega
      rw [g_in h2, g_in h3]
      congr 1
      exact ByteArray.getElem_append_right (by omega)
    · rw [g_out (by omega), g_out (by simp [ByteArray.size_append] at h2; omega)]

theorem g_extract (s : ByteArray) (a b i : Nat) (hb : b ≤ s.size) (hi : a + i < b) : g (s.extract a b) i = g s (a + i) := by
  rw [g_in (by simp [ByteArray.size_extract]; omega), g_in (by omega)]
  congr 1
  exact ByteArray.getElem_extract (by simp [ByteArray.size_extract]; omega)

theorem g_by1 (n : Nat) (h : n < 256) : g (by1 n) 0 = n := by
  rw [g_in (by rw [by1_size]; omega)]
  show (UInt8.ofNat n).toNat = n
  simp; omega

theorem g_new0 (who n : Nat) (h : who < 8) : g (newName who n) 0 = 65 + who := by
  unfold newName
  rw [g_append, if_pos (by simp [ByteArray.size_append, by1_size]; omega), g_append, if_pos (by rw [by1_size]; omega), g_by1 _ (by omega)]
theorem g_new1 (who n : Nat) (h : n < 10) : newName who n = by1 (65 + who) ++ by1 (48 + n) ++ by1 59 := by unfold newName; rw [dec_one n h]
theorem g_new2 (who n : Nat) (h : ¬ n < 10) : newName who n = by1 (65 + who) ++ (by1 (48 + n / 10) ++ by1 (48 + n % 10)) ++ by1 59 := by unfold newName; rw [dec_two n h]

/-- Three bytes of a text that are a new secret's name. -/
theorem ext_three {s : ByteArray} {a who n : Nat} (hn : n < 10) (hw : who < 8) (hs : a + 3 ≤ s.size) (h0 : g s a = 65 + who) (h1 : g s (a + 1) = 48 + n) (h2 : g s (a + 2) = 59) : newName who n = s.extract a (a + 3) := by
  rw [g_new1 who n hn]
  refine ext_g (by simp [ByteArray.size_append, ByteArray.size_extract, by1_size]; omega) ?_
  intro i hi
  have hi3 : i < 3 := by simpa [ByteArray.size_append, by1_size] using hi
  rw [g_extract s a (a + 3) i hs (by omega)]
  match i, hi3 with
  | 0, _ => simp [g_append, ByteArray.size_append, by1_size]; rw [g_by1 _ (by omega), h0]
  | 1, _ => simp [g_append, ByteArray.size_append, by1_size]; rw [g_by1 _ (by omega), h1]
  | 2, _ => simp [g_append, ByteArray.size_append, by1_size]; rw [g_by1 _ (by omega), h2]

theorem ext_four {s : ByteArray} {a who n : Nat} (hn : ¬ n < 10) (hn2 : n < 100) (hw : who < 8) (hs : a + 4 ≤ s.size) (h0 : g s a = 65 + who) (h1 : g s (a + 1) = 48 + n / 10) (h2 : g s (a + 2) = 48 + n % 10) (h3 : g s (a + 3) = 59) : newName who n = s.extract a (a + 4) := by
  rw [g_new2 who n hn]
  refine ext_g (by simp [ByteArray.size_append, ByteArray.size_extract, by1_size]; omega) ?_
  intro i hi
  have hi3 : i < 4 := by simpa [ByteArray.size_append, by1_size] using hi
  rw [g_extract s a (a + 4) i hs (by omega)]
  match i, hi3 with
  | 0, _ => simp [g_append, ByteArray.size_append, by1_size]; rw [g_by1 _ (by omega), h0]
  | 1, _ => simp [g_append, ByteArray.size_append, by1_size]; rw [g_by1 _ (by omega), h1]
  | 2, _ => simp [g_append, ByteArray.size_append, by1_size]; rw [g_by1 _ (by omega), h2]
  | 3, _ => simp [g_append, ByteArray.size_append, by1_size]; rw [g_by1 _ (by omega), h3]

/-- The number that stands at a place in so many digits. -/
def dv (s : ByteArray) (p : Nat) : Nat → Nat
  | 0 => 0
  | d + 1 => dv s p d * 10 + (g s (p + d) - 48)

theorem fr_eq {s : ByteArray} {a j d m : Nat} (hj : j = a + 1 + d) (hd : d ≤ 3) (hlt : j < s.size) (hm : m = dv s (a + 1) d) (hall : ∀ i, i < d → 48 ≤ g s (a + 1 + i) ∧ g s (a + 1 + i) ≤ 57) (h59 : g s j = 59)
    (h65 : 65 ≤ g s a) (h72 : g s a ≤ 72) (h : mkNew ((g s a : Int) - 65) (m : Int) = s.extract a (j + 1)) : fresh s a = j + 1 - a := by
  subst hj
  have hsz : (s.extract a (a + 1 + d + 1)).size = d + 2 := by simp [ByteArray.size_extract]; omega
  rw [← h] at hsz
  unfold mkNew at hsz
  by_cases hc : 0 ≤ (g s a : Int) - 65 ∧ (g s a : Int) - 65 < 8 ∧ 1 ≤ (m : Int) ∧ (m : Int) ≤ 99
  · rw [if_pos hc, newName_size, dec_size] at hsz
    obtain ⟨_, _, c3, c4⟩ := hc
    by_cases h10 : (m : Int).toNat < 10
    · rw [if_pos h10] at hsz
      have hd1 : d = 1 := by omega
      subst hd1
      have q := hall 0 (by omega)
      simp only [dv, Nat.add_zero, Nat.zero_mul, Nat.zero_add] at hm q
      have h59' : g s (a + 2) = 59 := h59
      unfold fresh
      rw [if_pos (by omega), if_pos h59']; omega
    · rw [if_neg h10] at hsz
      have hd1 : d = 2 := by omega
      subst hd1
      have q := hall 0 (by omega)
      have q1 := hall 1 (by omega)
      simp only [dv, Nat.add_zero, Nat.zero_mul, Nat.zero_add] at hm q q1
      have h59' : g s (a + 3) = 59 := h59
      rw [show a + 1 + 1 = a + 2 from rfl] at hm q1
      unfold fresh
      rw [if_pos (by omega), if_neg (by omega), if_pos (by omega)]; omega
  · rw [if_neg hc] at hsz
    exfalso
    have : (⟨#[]⟩ : ByteArray).size = 0 := rfl
    omega

theorem fr_ne {s : ByteArray} {a j d m : Nat} (hj : j = a + 1 + d) (hlt : j < s.size) (hm : m = dv s (a + 1) d) (hall : ∀ i, i < d → 48 ≤ g s (a + 1 + i) ∧ g s (a + 1 + i) ≤ 57) (h59 : g s j = 59)
    (h65 : 65 ≤ g s a) (h72 : g s a ≤ 72) (h : mkNew ((g s a : Int) - 65) (m : Int) ≠ s.extract a (j + 1)) : fresh s a = 0 := by
  apply Classical.byContradiction
  intro hf
  apply h
  subst hj
  unfold fresh at hf
  by_cases h1 : 65 ≤ g s a ∧ g s a ≤ 72 ∧ 49 ≤ g s (a + 1) ∧ g s (a + 1) ≤ 57
  · rw [if_pos h1] at hf
    obtain ⟨_, _, p3, p4⟩ := h1
    by_cases h2 : g s (a + 2) = 59
    · have hd : d = 1 := by
        match d, h59, hall with
        | 0, h59, _ => simp only [Nat.add_zero] at h59; omega
        | 1, _, _ => rfl
        | d + 2, _, hall => have := hall 1 (by omega); rw [show a + 1 + 1 = a + 2 from rfl] at this; omega
      subst hd
      simp only [dv, Nat.add_zero, Nat.zero_mul, Nat.zero_add] at hm
      unfold mkNew
      rw [if_pos (by omega)]
      exact ext_three (by omega) (by omega) (by omega) (by omega) (by omega) h2
    · rw [if_neg h2] at hf
      by_cases h3 : 48 ≤ g s (a + 2) ∧ g s (a + 2) ≤ 57 ∧ g s (a + 3) = 59
      · obtain ⟨q1, q2, q3⟩ := h3
        have hd : d = 2 := by
          match d, h59, hall with
          | 0, h59, _ => simp only [Nat.add_zero] at h59; omega
          | 1, h59, _ => rw [show a + 1 + 1 = a + 2 from rfl] at h59; omega
          | 2, _, _ => rfl
          | d + 3, _, hall => have := hall 2 (by omega); rw [show a + 1 + 2 = a + 3 from rfl] at this; omega
        subst hd
        simp only [dv, Nat.add_zero, Nat.zero_mul, Nat.zero_add] at hm
        rw [show a + 1 + 1 = a + 2 from rfl] at hm
        unfold mkNew
        rw [if_pos (by omega)]
        exact ext_four (by omega) (by omega) (by omega) (by omega) (by omega) (by omega) (by omega) q3
      · rw [if_neg h3] at hf; exact absurd rfl hf
  · rw [if_neg h1] at hf; exact absurd rfl hf

/-- Where no sign ends what digits there are, no new secret is named. -/
theorem fr_no {s : ByteArray} {a j d : Nat} (hj : j = a + 1 + d) (hd : d ≤ 3) (hall : ∀ i, i < d → 48 ≤ g s (a + 1 + i) ∧ g s (a + 1 + i) ≤ 57) (h59 : g s j ≠ 59) (hstop : g s j < 48 ∨ 57 < g s j ∨ d = 3) : fresh s a = 0 := by
  apply Classical.byContradiction
  intro hf
  subst hj
  unfold fresh at hf
  by_cases h1 : 65 ≤ g s a ∧ g s a ≤ 72 ∧ 49 ≤ g s (a + 1) ∧ g s (a + 1) ≤ 57
  · rw [if_pos h1] at hf
    obtain ⟨_, _, p3, p4⟩ := h1
    match d, hd, h59, hall, hstop with
    | 0, _, h59, _, hs => simp only [Nat.add_zero] at h59 hs; omega
    | 1, _, h59, _, hs =>
      rw [show a + 1 + 1 = a + 2 from rfl] at h59 hs
      rw [if_neg h59, if_neg (by omega)] at hf; exact absurd rfl hf
    | 2, _, h59, hall, hs =>
      rw [show a + 1 + 2 = a + 3 from rfl] at h59 hs
      have := hall 1 (by omega)
      rw [show a + 1 + 1 = a + 2 from rfl] at this
      rw [if_neg (by omega), if_neg (by omega)] at hf; exact absurd rfl hf
    | 3, _, _, hall, _ =>
      have u1 := hall 1 (by omega)
      have u2 := hall 2 (by omega)
      rw [show a + 1 + 1 = a + 2 from rfl] at u1
      rw [show a + 1 + 2 = a + 3 from rfl] at u2
      rw [if_neg (by omega), if_neg (by omega)] at hf; exact absurd rfl hf
  · rw [if_neg h1] at hf; exact absurd rfl hf

/-- A text behind another one is read as it was. -/
theorem g_shift (x s : ByteArray) (i : Nat) : g (x ++ s) (x.size + i) = g s i := by
  rw [g_append, if_neg (by omega)]; congr 1; omega

theorem fresh_shift (x s : ByteArray) (a : Nat) : fresh (x ++ s) (x.size + a) = fresh s a := by
  unfold fresh
  rw [Nat.add_assoc, Nat.add_assoc, Nat.add_assoc, g_shift, g_shift, g_shift, g_shift]

theorem sz_shift (x s : ByteArray) (f : Nat) : ∀ a, sz (x ++ s) f (x.size + a) = sz s f a := by
  induction f with
  | zero => intro a; rfl
  | succ f ih =>
    intro a
    rw [sz_succ, sz_succ, fresh_shift, g_shift]
    simp only [Nat.add_assoc, g_shift, ih]

theorem len_shift (x s : ByteArray) (a : Nat) : len (x ++ s) (x.size + a) = len s a := by
  have h := sz_shift x s (s.size - a) a
  rw [len_eq (by simp [ByteArray.size_append]; omega)] at h
  exact h

/-- A name is read as it was, whatever is behind it. -/
theorem g_front {s : ByteArray} (t : ByteArray) {i : Nat} (h : i < s.size) : g (s ++ t) i = g s i := by rw [g_append, if_pos h]

theorem fresh_front {s : ByteArray} (t : ByteArray) {a : Nat} (h : fresh s a ≠ 0) : fresh (s ++ t) a = fresh s a := by
  have hle := fresh_le h
  obtain ⟨h1, h2, _, _, h5⟩ := fresh_yes h
  unfold fresh at h hle ⊢
  by_cases c : 65 ≤ g s a ∧ g s a ≤ 72 ∧ 49 ≤ g s (a + 1) ∧ g s (a + 1) ≤ 57
  · have i1 : a + 1 < s.size := g_lt.1 (by omega)
    rw [if_pos c] at h hle
    rw [if_pos c, g_front t (i := a) (by omega), g_front t i1, if_pos c]
    by_cases c2 : g s (a + 2) = 59
    · have i2 : a + 2 < s.size := g_lt.1 (by omega)
      rw [if_pos c2, g_front t i2, if_pos c2]
    · rw [if_neg c2] at h
      by_cases c3 : 48 ≤ g s (a + 2) ∧ g s (a + 2) ≤ 57 ∧ g s (a + 3) = 59
      · have i2 : a + 2 < s.size := g_lt.1 (by omega)
        have i3 : a + 3 < s.size := g_lt.1 (by omega)
        rw [if_neg c2, if_pos c3, g_front t i2, g_front t i3, if_neg c2, if_pos c3]
      · rw [if_neg c3] at h; exact absurd rfl h
  · rw [if_neg c] at h; exact absurd rfl h

theorem sz_front (s t : ByteArray) (f : Nat) : ∀ a, sz s f a ≠ 0 → sz (s ++ t) f a = sz s f a := by
  induction f with
  | zero => intro a h; exact absurd rfl h
  | succ f ih =>
    intro a h
    have ha : a < s.size := by
      apply Classical.byContradiction
      intro hn
      exact h (sz_out _ _ (by omega))
    rw [sz_succ] at h
    rw [sz_succ, sz_succ, g_front t ha]
    by_cases c1 : g s a = 110 ∨ g s a = 107
    · rw [if_pos c1] at h; rw [if_pos c1, if_pos c1, ih _ (more_ne h).1]
    rw [if_neg c1] at h; rw [if_neg c1, if_neg c1]
    by_cases c2 : g s a = 109
    · rw [if_pos c2] at h; rw [if_pos c2, if_pos c2]
      by_cases d : 65 ≤ g s (a + 1) ∧ g s (a + 1) ≤ 72
      · rw [if_pos d] at h; rw [if_pos d, g_front t (g_lt.1 (by omega)), if_pos d, ih _ (more_ne h).1]
      · rw [if_neg d] at h; exact absurd rfl h
    rw [if_neg c2] at h; rw [if_neg c2, if_neg c2]
    by_cases c3 : g s a = 114
    · rw [if_pos c3] at h; rw [if_pos c3, if_pos c3]
      by_cases d : 49 ≤ g s (a + 1) ∧ g s (a + 1) ≤ 57
      · rw [if_pos d] at h; rw [if_pos d, g_front t (g_lt.1 (by omega)), if_pos d, ih _ (more_ne h).1]
      · rw [if_neg d] at h; exact absurd rfl h
    rw [if_neg c3] at h; rw [if_neg c3, if_neg c3]
    by_cases c4 : g s a = 101
    · rw [if_pos c4] at h; rw [if_pos c4, if_pos c4]
      by_cases d : sz s f (a + 1) = 0
      · rw [if_pos d] at h; exact absurd rfl h
      · rw [if_neg d] at h; rw [if_neg d, ih _ d, if_neg d, ih _ (more_ne h).1]
    rw [if_neg c4] at h; rw [if_neg c4, if_neg c4, fresh_front t h]

theorem len_front {s : ByteArray} (t : ByteArray) {a : Nat} (h : len s a ≠ 0) : len (s ++ t) a = len s a := by
  have e : sz s ((s ++ t).size - a) a = len s a := len_eq (by simp [ByteArray.size_append]; omega)
  unfold len at h ⊢
  have := sz_front s t ((s ++ t).size - a) a (by rw [e]; exact h)
  rw [this, e]; rfl

#print axioms len_front
#print axioms len_shift
#print axioms fr_ne
end Go.Proofs.Ytkcopldlobomhaa
