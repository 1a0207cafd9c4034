/-
  The tree, plain: what covers, who is in, what is cleared. No Go function in it.
-/
import Derived.Test.YtgdhlnfigcaepaaFnWinTakeB4
import Derived.Test.YtgdhlnfigcaepaaFnWinTakeB5
import Derived.Test.YtgdhlnfigcaepaaFnWinTakeB1
import Derived.Deep.RegionHeld3
import Derived.RangeFuncBox
import Derived.RangeFuncNested
import Derived.RangeFuncBound
import Derived.RangeFuncCalls
import Derived.RangeFuncLeaves
import Derived.Shelf.Abstract
import Derived.Shelf.RegionOpen
import Derived.WalkKit
import Derived.OwnWalkIn
import Derived.TacticsInMore
import Derived.LoopNIn
import Derived.LoopIn
import Derived.Test.YtgdhlnfigcaepaaFnWinTakeB3
namespace Go.Proofs.Ytgdhlnfigcaepaa

/-- The places with keys that cover all from one down. -/
def covF (xs : List ByteArray) : Nat → Nat → List Nat
  | 0, _ => []
  | f + 1, n => if xs.getD n ByteArray.empty ≠ ByteArray.empty then [n] else if 7 ≤ n then [] else covF xs f (2 * n + 1) ++ covF xs f (2 * n + 2)
def cover (xs : List ByteArray) (n : Nat) : List Nat := covF xs 4 n
theorem covF_step (xs : List ByteArray) (f n : Nat) : covF xs (f + 1) n = if xs.getD n ByteArray.empty ≠ ByteArray.empty then [n] else if 7 ≤ n then [] else covF xs f (2 * n + 1) ++ covF xs f (2 * n + 2) := rfl
theorem covF_more (xs : List ByteArray) : ∀ f n, 1 ≤ f → 8 ≤ (n + 1) * 2 ^ (f - 1) → covF xs (f + 1) n = covF xs f n := by
  intro f
  induction f with
  | zero => intro n h; omega
  | succ f ih =>
    intro n _ h
    rw [covF_step xs (f + 1) n, covF_step xs f n]
    split
    · rfl
    · split
      · rfl
      · next hn =>
        cases f with
        | zero => simp at h; omega
        | succ g =>
          have e : (n + 1) * 2 ^ (g + 1 + 1 - 1) = (2 * n + 2) * 2 ^ g := by
            rw [show g + 1 + 1 - 1 = g + 1 from rfl, Nat.pow_succ, Nat.mul_comm (2 ^ g) 2, ← Nat.mul_assoc]
            congr 1
            omega
          rw [e] at h
          have h2 : (2 * n + 2) * 2 ^ g ≤ (2 * n + 2 + 1) * 2 ^ g := Nat.mul_le_mul_right _ (by omega)
          rw [ih (2 * n + 1) (by omega) (by simpa using h), ih (2 * n + 2) (by omega) (by simp; omega)]
theorem cover_three (xs : List ByteArray) (n : Nat) (h : 1 ≤ n) : covF xs 3 n = cover xs n := (covF_more xs 3 n (by omega) (by simp; omega)).symm
/-- A place without a key that is nobody's: what covers both under it. -/
theorem cover_two (xs : List ByteArray) (n : Nat) (h : xs.getD n ByteArray.empty = ByteArray.empty) (hn : n < 7) : cover xs n = cover xs (2 * n + 1) ++ cover xs (2 * n + 2) := by
  unfold cover
  rw [covF_step, if_neg (by simpa using h), if_neg (by omega), cover_three xs _ (by omega), cover_three xs _ (by omega)]
  rfl
theorem cover_one (xs : List ByteArray) (n : Nat) (h : xs.getD n ByteArray.empty ≠ ByteArray.empty) : cover xs n = [n] := by
  unfold cover
  rw [covF_step, if_pos h]
theorem cover_none (xs : List ByteArray) (n : Nat) (h : xs.getD n ByteArray.empty = ByteArray.empty) (hn : 7 ≤ n) : cover xs n = [] := by
  unfold cover
  rw [covF_step, if_neg (by simpa using h), if_pos hn]
/-- Who is in. -/
def inOf (xs : List ByteArray) : List Nat := (List.range 8).filter fun k => decide (xs.getD (7 + k) ByteArray.empty ≠ ByteArray.empty)
/-- A tree without the keys of some places. -/
def wipe (xs : List ByteArray) (ps : List Nat) : List ByteArray := ps.foldl (fun ys p => ys.set p ByteArray.empty) xs
def clearOf (xs : List ByteArray) (who : Nat) : List ByteArray := wipe xs ((7 + who) :: ups (7 + who))
end Go.Proofs.Ytgdhlnfigcaepaa
/-
  The tree, plain: places, what is above them, beside them, where two meet; keys that are ok, who is in, what covers, what is cleared and set. No Go function in it.
-/
namespace Go.Proofs.Ytgdhlnfigcaepaa

/-- A key that is ok: none, or one. -/
def keyOk (x : ByteArray) : Bool := decide (x = ByteArray.empty) || (Kw.ok x && decide (mOp x = 3))
def treOk (xs : List ByteArray) : Bool := decide (xs.length = 15) && xs.all keyOk
/-- A tree with keys of some places, each made from the next secret. -/
def fill : List ByteArray → ByteArray → List Nat → List ByteArray
  | xs, _, [] => xs
  | xs, s, p :: ps => fill (xs.set p (mkKey s)) (mkNext s) ps
def setKeys (xs : List ByteArray) (who : Nat) (s : ByteArray) : List ByteArray := fill xs s ((7 + who) :: ups (7 + who))
end Go.Proofs.Ytgdhlnfigcaepaa
/-
  The tree, plain: from the last places up. No Go function in it.
-/
namespace Go.Proofs.Ytgdhlnfigcaepaa

/-- Whether a place has a key. -/
def keyed (xs : List ByteArray) (n : Nat) : Bool := decide (xs.getD n ByteArray.empty ≠ ByteArray.empty)
theorem cover_keyed (xs : List ByteArray) (n : Nat) (h : keyed xs n = true) : cover xs n = [n] := cover_one xs n (by simpa [keyed] using h)
theorem cover_bare (xs : List ByteArray) (n : Nat) (h : keyed xs n = false) (hn : 7 ≤ n) : cover xs n = [] := cover_none xs n (by simpa [keyed] using h) hn
theorem cover_both (xs : List ByteArray) (n : Nat) (h : keyed xs n = false) (hn : n < 7) : cover xs n = cover xs (2 * n + 1) ++ cover xs (2 * n + 2) := cover_two xs n (by simpa [keyed] using h) hn

/-- From the last places up. -/
theorem down {P : Nat → Prop} (h1 : ∀ n, 7 ≤ n → n < 15 → P n) (h2 : ∀ n, n < 7 → P (2 * n + 1) → P (2 * n + 2) → P n) : ∀ n, n < 15 → P n := by
  have a : ∀ n, 3 ≤ n → n < 15 → P n := fun n h h' => if q : 7 ≤ n then h1 n q h' else h2 n (by omega) (h1 _ (by omega) (by omega)) (h1 _ (by omega) (by omega))
  have b : ∀ n, 1 ≤ n → n < 15 → P n := fun n h h' => if q : 3 ≤ n then a n q h' else h2 n (by omega) (a _ (by omega) (by omega)) (a _ (by omega) (by omega))
  exact fun n h' => if q : 1 ≤ n then b n q h' else h2 n (by omega) (b _ (by omega) (by omega)) (b _ (by omega) (by omega))
end Go.Proofs.Ytgdhlnfigcaepaa
/-
  Plain mathematics: what tells how a name was made makes just that name. Nothing of the program is in it.
-/
namespace Go.Proofs.Ytgdhlnfigcaepaa
open Kw

theorem split_at (s : ByteArray) (a : Nat) (h : a ≤ s.size) : s.extract 0 a ++ s.extract a s.size = s := by
  have zz : (s.extract 0 a ++ s.extract a s.size).size = s.size := by simp
  refine ext_g zz ?_
  intro i hi
  have hi' : i < s.size := by rw [zz] at hi; exact hi
  have z : (s.extract 0 a).size = a := by simp [ByteArray.size_extract]; omega
  rw [g_append, z]
  by_cases hia : i < a
  · rw [if_pos hia, g_extract s 0 a i h (by omega), Nat.zero_add]
  · rw [if_neg hia, g_extract s a s.size (i - a) (Nat.le_refl _) (by omega)]; congr 1; omega

theorem split_three (s : ByteArray) (a b : Nat) (hab : a ≤ b) (h : b ≤ s.size) : s.extract 0 a ++ s.extract a b ++ s.extract b s.size = s := by
  have z1 : (s.extract 0 a).size = a := by simp [ByteArray.size_extract]; omega
  have z2 : (s.extract a b).size = b - a := by simp [ByteArray.size_extract]; omega
  have z3 : (s.extract 0 a ++ s.extract a b).size = b := by rw [ByteArray.size_append, z1, z2]; omega
  refine ext_g (by rw [ByteArray.size_append, z3]; simp [ByteArray.size_extract]; omega) ?_
  intro i hi
  have hi' : i < s.size := by rw [ByteArray.size_append, z3] at hi; simp [ByteArray.size_extract] at hi; omega
  rw [g_append, z3]
  by_cases hib : i < b
  · rw [if_pos hib, g_append, z1]
    by_cases hia : i < a
    · rw [if_pos hia, g_extract s 0 a i (by omega) (by omega), Nat.zero_add]
    · rw [if_neg hia, g_extract s a b (i - a) h (by omega)]; congr 1; omega
  · rw [if_neg hib, g_extract s b s.size (i - b) (Nat.le_refl _) (by omega)]; congr 1; omega

theorem len_rest (s : ByteArray) (a : Nat) (h : a ≤ s.size) : len (s.extract a s.size) 0 = len s a := by
  have e := len_shift (s.extract 0 a) (s.extract a s.size) 0
  rw [split_at s a h] at e
  have z : (s.extract 0 a).size = a := by simp [ByteArray.size_extract]; omega
  rw [z, Nat.add_zero] at e
  exact e.symm

theorem one_byte {s : ByteArray} {a n : Nat} (h : a < s.size) (hn : n < 256) (hg : g s a = n) : s.extract a (a + 1) = by1 n := by
  refine ext_g (by simp [ByteArray.size_extract, by1_size]; omega) ?_
  intro i hi
  have hi0 : i = 0 := by simp [ByteArray.size_extract] at hi; omega
  subst hi0
  rw [g_extract s a (a + 1) 0 (by omega) (by omega), Nat.add_zero, hg, g_by1 n hn]

theorem rest_ok {s : ByteArray} (hk : ok s = true) (a : Nat) (ha : a ≤ s.size) (h0 : len s a ≠ 0) (h : a + len s a = s.size) : ok (s.extract a s.size) = true := by
  obtain ⟨h1, _, _⟩ := ok_facts hk
  have z : (s.extract a s.size).size = s.size - a := by simp [ByteArray.size_extract]
  refine ok_yes (by rw [z]; omega) (by rw [len_rest s a ha]; exact h0) (by rw [len_rest s a ha, z]; omega)

theorem g_back {s t : ByteArray} {i : Nat} (h : i < s.size) : g s i = g (s ++ t) i := (g_front t h).symm

theorem fresh_back {s t : ByteArray} {a : Nat} (h : fresh (s ++ t) a ≠ 0) (hl : a + fresh (s ++ t) a ≤ s.size) : fresh s a = fresh (s ++ t) a := by
  obtain ⟨h1, h2, _, _, h5⟩ := fresh_yes h
  unfold fresh at h hl ⊢
  by_cases c : 65 ≤ g (s ++ t) a ∧ g (s ++ t) a ≤ 72 ∧ 49 ≤ g (s ++ t) (a + 1) ∧ g (s ++ t) (a + 1) ≤ 57
  · rw [if_pos c] at h hl
    rw [if_pos c]
    by_cases c2 : g (s ++ t) (a + 2) = 59
    · rw [if_pos c2] at hl
      rw [if_pos c2, g_back (s := s) (t := t) (i := a) (by omega), g_back (s := s) (t := t) (i := a + 1) (by omega), g_back (s := s) (t := t) (i := a + 2) (by omega), if_pos c, if_pos c2]
    · rw [if_neg c2] at h hl
      by_cases c3 : 48 ≤ g (s ++ t) (a + 2) ∧ g (s ++ t) (a + 2) ≤ 57 ∧ g (s ++ t) (a + 3) = 59
      · rw [if_pos c3] at hl
        rw [if_neg c2, if_pos c3, g_back (s := s) (t := t) (i := a) (by omega), g_back (s := s) (t := t) (i := a + 1) (by omega), g_back (s := s) (t := t) (i := a + 2) (by omega), g_back (s := s) (t := t) (i := a + 3) (by omega), if_pos c, if_neg c2, if_pos c3]
      · rw [if_neg c3] at h; exact absurd rfl h
  · rw [if_neg c] at h; exact absurd rfl h

theorem sz_back (s t : ByteArray) (f : Nat) : ∀ a, sz (s ++ t) f a ≠ 0 → a + sz (s ++ t) f a ≤ s.size → sz s f a = sz (s ++ t) f a := by
  induction f with
  | zero => intro a h; exact absurd rfl h
  | succ f ih =>
    intro a h hl
    have ha : a < s.size := by omega
    rw [sz_succ] at h hl
    rw [sz_succ, sz_succ, g_back (s := s) (t := t) ha]
    by_cases c1 : g (s ++ t) a = 110 ∨ g (s ++ t) a = 107
    · rw [if_pos c1] at h hl; rw [if_pos c1, if_pos c1]
      obtain ⟨n1, n2⟩ := more_ne h
      rw [ih _ n1 (by omega)]
    rw [if_neg c1] at h hl; rw [if_neg c1, if_neg c1]
    by_cases c2 : g (s ++ t) a = 109
    · rw [if_pos c2] at h hl; rw [if_pos c2, if_pos c2]
      by_cases d : 65 ≤ g (s ++ t) (a + 1) ∧ g (s ++ t) (a + 1) ≤ 72
      · rw [if_pos d] at h hl
        obtain ⟨n1, n2⟩ := more_ne h
        rw [if_pos d, g_back (s := s) (t := t) (i := a + 1) (by omega), if_pos d, ih _ n1 (by omega)]
      · rw [if_neg d] at h; exact absurd rfl h
    rw [if_neg c2] at h hl; rw [if_neg c2, if_neg c2]
    by_cases c3 : g (s ++ t) a = 114
    · rw [if_pos c3] at h hl; rw [if_pos c3, if_pos c3]
      by_cases d : 49 ≤ g (s ++ t) (a + 1) ∧ g (s ++ t) (a + 1) ≤ 57
      · rw [if_pos d] at h hl
        obtain ⟨n1, n2⟩ := more_ne h
        rw [if_pos d, g_back (s := s) (t := t) (i := a + 1) (by omega), if_pos d, ih _ n1 (by omega)]
      · rw [if_neg d] at h; exact absurd rfl h
    rw [if_neg c3] at h hl; rw [if_neg c3, if_neg c3]
    by_cases c4 : g (s ++ t) a = 101
    · rw [if_pos c4] at h hl; rw [if_pos c4, if_pos c4]
      by_cases d : sz (s ++ t) f (a + 1) = 0
      · rw [if_pos d] at h; exact absurd rfl h
      · rw [if_neg d] at h hl
        obtain ⟨n1, n2⟩ := more_ne h
        have e1 := ih (a + 1) d (by omega)
        rw [e1, if_neg d, if_neg d, ih _ n1 (by omega)]
    rw [if_neg c4] at h hl; rw [if_neg c4, if_neg c4, fresh_back h hl]

theorem len_back {s t : ByteArray} {a : Nat} (h : len (s ++ t) a ≠ 0) (hl : a + len (s ++ t) a ≤ s.size) : len s a = len (s ++ t) a := by
  have e : sz s ((s ++ t).size - a) a = len s a := len_eq (by simp [ByteArray.size_append]; omega)
  rw [← e]
  exact sz_back s t _ a h hl

/-- A name at the beginning of a name's rest is a name. -/
theorem mid_ok {s : ByteArray} (hk : ok s = true) (a : Nat) (h0 : len s a ≠ 0) : ok (s.extract a (a + len s a)) = true := by
  obtain ⟨h1, _, _⟩ := ok_facts hk
  have hle := len_le h0
  have z : (s.extract a (a + len s a)).size = len s a := by simp [ByteArray.size_extract]; omega
  have e := len_rest s a (by omega)
  have e2 : s.extract a s.size = s.extract a (a + len s a) ++ s.extract (a + len s a) s.size := by
    refine ext_g (by simp [ByteArray.size_extract]; omega) ?_
    intro i hi
    have hi' : a + i < s.size := by simp [ByteArray.size_extract] at hi; omega
    rw [g_extract s a s.size i (Nat.le_refl _) hi', g_append, z]
    by_cases hj : i < len s a
    · rw [if_pos hj, g_extract s a (a + len s a) i hle (by omega)]
    · rw [if_neg hj, g_extract s (a + len s a) s.size (i - len s a) (Nat.le_refl _) (by omega)]; congr 1; omega
  rw [e2] at e
  have e3 : len (s.extract a (a + len s a)) 0 = len s a := by
    rw [len_back (t := s.extract (a + len s a) s.size) (by rw [e]; exact h0) (by rw [e, z]; omega), e]
  exact ok_yes (by rw [z]; omega) (by rw [e3]; exact h0) (by rw [e3, z])

theorem cap_self {x : ByteArray} (h : ok x = true) : cap x = x := by unfold cap; rw [if_pos (ok_facts h).1]

theorem re_next {s : ByteArray} (hk : ok s = true) (c : g s 0 = 110) : mkNext (s.extract 1 s.size) = s := by
  obtain ⟨h0, h1⟩ := parts_nk hk (.inl c)
  have e : nextT (s.extract 1 s.size) = s := by
    have := split_at s 1 (by omega)
    rw [one_byte (a := 0) (n := 110) (by omega) (by omega) c] at this
    exact this
  unfold mkNext
  rw [if_pos (rest_ok hk 1 (by omega) h0 h1), e, cap_self hk]
theorem re_key {s : ByteArray} (hk : ok s = true) (c : g s 0 = 107) : mkKey (s.extract 1 s.size) = s := by
  obtain ⟨h0, h1⟩ := parts_nk hk (.inr c)
  have e : keyT (s.extract 1 s.size) = s := by
    have := split_at s 1 (by omega)
    rw [one_byte (a := 0) (n := 107) (by omega) (by omega) c] at this
    exact this
  unfold mkKey
  rw [if_pos (rest_ok hk 1 (by omega) h0 h1), e, cap_self hk]
theorem re_epoch {s : ByteArray} (hk : ok s = true) (c : g s 0 = 101) : mkEpoch (s.extract 1 (1 + len s 1)) (s.extract (1 + len s 1) s.size) = s := by
  obtain ⟨h0, h1, h2⟩ := parts_e hk c
  have e : epochT (s.extract 1 (1 + len s 1)) (s.extract (1 + len s 1) s.size) = s := by
    have := split_three s 1 (1 + len s 1) (by omega) (by omega)
    rw [one_byte (a := 0) (n := 101) (by omega) (by omega) c] at this
    exact this
  unfold mkEpoch
  rw [if_pos ⟨mid_ok hk 1 h0, rest_ok hk _ (by omega) h1 h2⟩, e, cap_self hk]
theorem re_say {s : ByteArray} (hk : ok s = true) (c : g s 0 = 109) : mkSay (s.extract 2 s.size) ((g s 1 : Int) - 65) = s := by
  obtain ⟨q1, q2, h0, h1⟩ := parts_m hk c
  have e : sayT (s.extract 2 s.size) (g s 1 - 65) = s := by
    have := split_three s 1 2 (by omega) (by omega)
    rw [one_byte (a := 0) (n := 109) (by omega) (by omega) c, one_byte (a := 1) (n := 65 + (g s 1 - 65)) (by omega) (by omega) (by omega)] at this
    exact this
  unfold mkSay
  rw [if_pos ⟨rest_ok hk 2 (by omega) h0 h1, by omega, by omega⟩, show ((g s 1 : Int) - 65).toNat = g s 1 - 65 by omega, e, cap_self hk]
theorem re_room {s : ByteArray} (hk : ok s = true) (c : g s 0 = 114) : mkRoom (s.extract 2 s.size) ((g s 1 - 48 : Nat) : Int) = s := by
  obtain ⟨q1, q2, h0, h1⟩ := parts_r hk c
  have e : roomT (s.extract 2 s.size) (g s 1 - 48) = s := by
    have := split_three s 1 2 (by omega) (by omega)
    unfold roomT
    rw [dec_one _ (by omega)]
    rw [one_byte (a := 0) (n := 114) (by omega) (by omega) c, one_byte (a := 1) (n := 48 + (g s 1 - 48)) (by omega) (by omega) (by omega)] at this
    exact this
  unfold mkRoom
  rw [if_pos ⟨rest_ok hk 2 (by omega) h0 h1, by omega, by omega⟩, Int.toNat_natCast, e, cap_self hk]
theorem re_new {s : ByteArray} (hk : ok s = true) (hf : fresh s 0 = s.size) : mkNew ((g s 0 : Int) - 65) (nv s 0 : Int) = s := by
  obtain ⟨_, h0, _⟩ := ok_facts hk
  obtain ⟨p1, p2, p3, p4, p5⟩ := fresh_yes (by rw [hf]; exact h0)
  have hall : s.extract 0 s.size = s := by
    refine ext_g (by simp) ?_
    intro i hi
    rw [g_extract s 0 s.size i (Nat.le_refl _) (by simp at hi; omega), Nat.zero_add]
  unfold mkNew
  by_cases c : 49 ≤ g s (0 + 1) ∧ g s (0 + 1) ≤ 57
  · by_cases c2 : g s (0 + 2) = 59
    · have e : fresh s 0 = 3 := by unfold fresh; rw [if_pos ⟨p1, p2, c⟩, if_pos c2]
      have e2 : nv s 0 = g s (0 + 1) - 48 := by unfold nv; rw [if_pos c2]
      have e3 : s.size = 3 := by omega
      rw [if_pos (by omega)]
      have := ext_three (s := s) (a := 0) (who := ((g s 0 : Int) - 65).toNat) (n := ((nv s 0 : Nat) : Int).toNat) (by omega) (by omega) (by omega) (by omega) (by omega) c2
      rw [this]
      rw [show 0 + 3 = s.size by omega]; exact hall
    · have hne : fresh s 0 ≠ 0 := by rw [hf]; exact h0
      by_cases c3 : 48 ≤ g s (0 + 2) ∧ g s (0 + 2) ≤ 57 ∧ g s (0 + 3) = 59
      · have e : fresh s 0 = 4 := by unfold fresh; rw [if_pos ⟨p1, p2, c⟩, if_neg c2, if_pos c3]
        have e2 : nv s 0 = (g s (0 + 1) - 48) * 10 + (g s (0 + 2) - 48) := by unfold nv; rw [if_neg c2]
        obtain ⟨r1, r2, r3⟩ := c3
        rw [if_pos (by omega)]
        have := ext_four (s := s) (a := 0) (who := ((g s 0 : Int) - 65).toNat) (n := ((nv s 0 : Nat) : Int).toNat) (by omega) (by omega) (by omega) (by omega) (by omega) (by omega) (by omega) r3
        rw [this]
        rw [show 0 + 4 = s.size by omega]; exact hall
      · exfalso; apply hne; unfold fresh; rw [if_pos ⟨p1, p2, c⟩, if_neg c2, if_neg c3]
  · exfalso; apply h0; rw [← hf]; unfold fresh; rw [if_neg (by omega)]

#print axioms re_new
#print axioms re_epoch
end Go.Proofs.Ytgdhlnfigcaepaa
/-
  Plain mathematics: what is made from names tells how it was made.
-/
namespace Go.Proofs.Ytgdhlnfigcaepaa
open Kw

theorem ext_back (x y : ByteArray) : (x ++ y).extract x.size (x ++ y).size = y := by
  refine ext_g (by simp [ByteArray.size_extract, ByteArray.size_append]) ?_
  intro i hi
  have hi' : i < y.size := by simp [ByteArray.size_extract, ByteArray.size_append] at hi; omega
  rw [g_extract _ _ _ i (Nat.le_refl _) (by rw [ByteArray.size_append]; omega), g_shift]

theorem ext_front (x y : ByteArray) (a b : Nat) (hb : b ≤ x.size) : (x ++ y).extract a b = x.extract a b := by
  refine ext_g (by simp [ByteArray.size_extract, ByteArray.size_append]; omega) ?_
  intro i hi
  have hi' : a + i < b := by simp [ByteArray.size_extract, ByteArray.size_append] at hi; omega
  rw [g_extract _ _ _ i (by rw [ByteArray.size_append]; omega) hi', g_extract _ _ _ i hb hi', g_front y (by omega)]

/-- All that tells how a secret was made. -/
def Tells (s : ByteArray) (op who n : Int) (a b : ByteArray) : Prop := ok s = true ∧ mOp s = op ∧ mWho s = who ∧ mN s = n ∧ mA s = a ∧ mB s = b

theorem g0_next (s : ByteArray) : g (nextT s) 0 = 110 := by unfold nextT; rw [g_append]; rfl
theorem g0_key (s : ByteArray) : g (keyT s) 0 = 107 := by unfold keyT; rw [g_append]; rfl

theorem made_next {s : ByteArray} (h : ok s = true) (hs : s.size < 300) : Tells (nextT s) 2 0 0 s ⟨#[]⟩ := by
  have z := next_size s
  have hk : ok (nextT s) = true := ok_yes (by omega) (by rw [len_next h]; omega) (len_next h)
  have c := g0_next s
  have e : (nextT s).extract 1 (nextT s).size = s := ext_back ⟨#[110]⟩ s
  unfold Tells mOp mWho mN mA mB
  simp only [if_pos hk, if_pos c, e]
  exact ⟨hk, trivial, trivial, trivial, trivial, trivial⟩
theorem made_key {s : ByteArray} (h : ok s = true) (hs : s.size < 300) : Tells (keyT s) 3 0 0 s ⟨#[]⟩ := by
  have z := key_size s
  have hk : ok (keyT s) = true := ok_yes (by omega) (by rw [len_key h]; omega) (len_key h)
  have c := g0_key s
  have c1 : g (keyT s) 0 ≠ 110 := by omega
  have e : (keyT s).extract 1 (keyT s).size = s := ext_back ⟨#[107]⟩ s
  unfold Tells mOp mWho mN mA mB
  simp only [if_pos hk, if_neg c1, if_pos c, e]
  exact ⟨hk, trivial, trivial, trivial, trivial, trivial⟩
theorem made_epoch {a b : ByteArray} (ha : ok a = true) (hb : ok b = true) (hs : a.size + b.size < 300) : Tells (epochT a b) 4 0 0 a b := by
  obtain ⟨p1, p2, p3, c⟩ := epoch_parts ha hb
  obtain ⟨_, a2, _⟩ := ok_facts ha
  have hk : ok (epochT a b) = true := ok_yes (by omega) (by rw [len_epoch ha hb]; omega) (len_epoch ha hb)
  have c1 : g (epochT a b) 0 ≠ 110 := by omega
  have c2 : g (epochT a b) 0 ≠ 107 := by omega
  have z : (⟨#[101]⟩ ++ a : ByteArray).size = 1 + a.size := by simp [ByteArray.size_append]; rfl
  have e1 : (epochT a b).extract 1 (1 + a.size) = a := by
    have e := ext_front (⟨#[101]⟩ ++ a) b 1 (1 + a.size) (by omega)
    have e' := ext_back ⟨#[101]⟩ a
    rw [z] at e'
    exact e.trans e'
  have e2 : (epochT a b).extract (1 + a.size) (epochT a b).size = b := by
    have e := ext_back (⟨#[101]⟩ ++ a) b
    rw [z] at e
    exact e
  unfold Tells mOp mWho mN mA mB
  simp only [if_pos hk, if_neg c1, if_neg c2, if_pos c, p1, e1, e2]
  exact ⟨hk, trivial, trivial, trivial, trivial, trivial⟩
theorem made_say {s : ByteArray} {who : Nat} (h : ok s = true) (hw : who < 8) (hs : 2 + s.size ≤ 300) : Tells (sayT s who) 5 (who : Int) 0 s ⟨#[]⟩ := by
  obtain ⟨p1, p2, c, p4⟩ := say_parts h hw
  have hk : ok (sayT s who) = true := ok_yes (by omega) (by rw [len_say h hw]; omega) (len_say h hw)
  have c1 : g (sayT s who) 0 ≠ 110 := by omega
  have c2 : g (sayT s who) 0 ≠ 107 := by omega
  have c3 : g (sayT s who) 0 ≠ 101 := by omega
  have z : (⟨#[109]⟩ ++ by1 (65 + who) : ByteArray).size = 2 := by simp [ByteArray.size_append, by1_size]; rfl
  have e : (sayT s who).extract 2 (sayT s who).size = s := by
    have e := ext_back (⟨#[109]⟩ ++ by1 (65 + who)) s
    rw [z] at e
    exact e
  unfold Tells mOp mWho mN mA mB
  simp only [if_pos hk, if_neg c1, if_neg c2, if_neg c3, if_pos c, p4, e]
  exact ⟨hk, trivial, by omega, trivial, trivial, trivial⟩
theorem made_room {s : ByteArray} {room : Nat} (h : ok s = true) (h1 : 1 ≤ room) (hw : room < 10) (hs : 2 + s.size ≤ 300) : Tells (roomT s room) 6 0 (room : Int) s ⟨#[]⟩ := by
  obtain ⟨p1, p2, c, p4⟩ := room_parts h hw
  have hk : ok (roomT s room) = true := ok_yes (by omega) (by rw [len_room h h1 hw]; omega) (len_room h h1 hw)
  have c1 : g (roomT s room) 0 ≠ 110 := by omega
  have c2 : g (roomT s room) 0 ≠ 107 := by omega
  have c3 : g (roomT s room) 0 ≠ 101 := by omega
  have c4 : g (roomT s room) 0 ≠ 109 := by omega
  have z : (⟨#[114]⟩ ++ dec room : ByteArray).size = 2 := by rw [ByteArray.size_append, dec_size, if_pos hw]; rfl
  have e : (roomT s room).extract 2 (roomT s room).size = s := by
    have e := ext_back (⟨#[114]⟩ ++ dec room) s
    rw [z] at e
    exact e
  unfold Tells mOp mWho mN mA mB
  simp only [if_pos hk, if_neg c1, if_neg c2, if_neg c3, if_neg c4, if_pos c, p4, e]
  exact ⟨hk, trivial, trivial, by omega, trivial, trivial⟩

theorem next_inj {s t : ByteArray} (h : nextT s = nextT t) : s = t := by
  have e := ext_back ⟨#[110]⟩ s
  have e' := ext_back ⟨#[110]⟩ t
  have h' : (⟨#[110]⟩ ++ s : ByteArray) = ⟨#[110]⟩ ++ t := h
  rw [h'] at e
  exact e.symm.trans e'
theorem next_key (s : ByteArray) (t : ByteArray) : nextT s ≠ keyT t := by
  intro h
  have h1 := g0_next s
  rw [h, g0_key t] at h1
  omega

theorem epoch_bad {a b : ByteArray} (h : ok a = false ∨ ok b = false ∨ 300 ≤ a.size + b.size) : mkEpoch a b = ⟨#[]⟩ := by
  unfold mkEpoch
  by_cases hc : ok a = true ∧ ok b = true
  · rw [if_pos hc]
    unfold cap
    have := epoch_size a b
    rw [if_neg]
    rcases h with h | h | h
    · rw [hc.1] at h; cases h
    · rw [hc.2] at h; cases h
    · omega
  · rw [if_neg hc]
theorem epoch_good {a b : ByteArray} (ha : ok a = true) (hb : ok b = true) (hs : a.size + b.size < 300) : mkEpoch a b = epochT a b := by
  unfold mkEpoch
  have := epoch_size a b
  rw [if_pos ⟨ha, hb⟩, cap_self (made_epoch ha hb hs).1]
theorem epoch_swap {a b : ByteArray} (ha : ok a = true) (hb : ok b = true) (hs : a.size + b.size < 300) : (mkEpoch b a = epochT a b) ↔ a = b := by
  rw [epoch_good hb ha (by omega)]
  constructor
  · intro h
    have h1 := (made_epoch ha hb hs).2.2.2.2.1
    rw [← h, (made_epoch hb ha (by omega)).2.2.2.2.1] at h1
    exact h1.symm
  · intro h; subst h; rfl

theorem beq_list {x y : ByteArray} : (x.toList == y.toList) = true ↔ x = y := by
  constructor
  · intro h
    have h1 : x.toList = y.toList := by simpa using h
    have h2 := congrArg (fun l => (⟨l.toArray⟩ : ByteArray)) h1
    exact ByteArray.ext (by simpa [ByteArray.toList_eq] using h2)
  · intro h; subst h; simp
theorem beq_beq {x y u v : ByteArray} (h : x = y ↔ u = v) : ((x.toList == y.toList) == (u.toList == v.toList)) = true := by
  have : (x.toList == y.toList) = (u.toList == v.toList) := by
    rw [Bool.eq_iff_iff, beq_list, beq_list]; exact h
  rw [this]; simp

#print axioms made_epoch
#print axioms epoch_swap
end Go.Proofs.Ytgdhlnfigcaepaa
/-
  The tree, plain: what covers covers each once; what is set, cleared, set again; trees that stay ok. No Go function in it.
-/
namespace Go.Proofs.Ytgdhlnfigcaepaa
open Kw

theorem meets_top : ∀ n, n < 7 → ∀ p, p < 15 → (meets p (2 * n + 1) = 2 * n + 1 → meets p n = n) ∧ (meets p (2 * n + 2) = 2 * n + 2 → meets p n = n) := by decide
/-- What covers has keys, and lies from there down. -/
theorem cover_has (xs : List ByteArray) : ∀ n, n < 15 → ∀ p ∈ cover xs n, p < 15 ∧ keyed xs p = true ∧ meets p n = n := by
  apply down
  · intro n h h' p hp
    cases q : keyed xs n with
    | true => rw [cover_keyed xs n q] at hp; simp at hp; subst hp; exact ⟨h', q, meets_self p h'⟩
    | false => rw [cover_bare xs n q h] at hp; simp at hp
  · intro n h i1 i2 p hp
    cases q : keyed xs n with
    | true => rw [cover_keyed xs n q] at hp; simp at hp; subst hp; exact ⟨by omega, q, meets_self p (by omega)⟩
    | false =>
      rw [cover_both xs n q h] at hp
      rcases List.mem_append.1 hp with hp | hp
      · obtain ⟨a, b, c⟩ := i1 p hp
        exact ⟨a, b, (meets_top n h p a).1 c⟩
      · obtain ⟨a, b, c⟩ := i2 p hp
        exact ⟨a, b, (meets_top n h p a).2 c⟩

/-- How many of some places are above one, or it. -/
def above (ps : List Nat) (l : Nat) : Nat := (ps.filter fun p => decide (meets p l = p)).length
theorem meets_leaf : ∀ n, 7 ≤ n → n < 15 → ∀ l, 7 ≤ l → l < 15 → meets l n = n → l = n := by
  have h : ∀ n, n < 15 → 7 ≤ n → ∀ l, l < 15 → 7 ≤ l → meets l n = n → l = n := by decide
  exact fun n a b l c d => h n b a l d c
theorem meets_sum : ∀ n, n < 7 → ∀ l, l < 15 → 7 ≤ l → (if meets l (2 * n + 1) = 2 * n + 1 then 1 else 0) + (if meets l (2 * n + 2) = 2 * n + 2 then 1 else 0) = if meets l n = n then 1 else 0 := by decide
/-- Each one with a key is covered once, where it lies from there down; where it does not, it is not. -/
theorem cover_count (xs : List ByteArray) (l : Nat) (h7 : 7 ≤ l) (hl : l < 15) (hk : keyed xs l = true) : ∀ n, n < 15 → above (cover xs n) l = if meets l n = n then 1 else 0 := by
  have one : ∀ n, n < 15 → above [n] l = if meets l n = n then 1 else 0 := by
    intro n hn
    unfold above
    rw [meets_comm l hl n hn]
    by_cases h : meets n l = n
    · simp [h]
    · simp [h]
  apply down
  · intro n h h'
    cases q : keyed xs n with
    | true => rw [cover_keyed xs n q]; exact one n h'
    | false =>
      rw [cover_bare xs n q h, if_neg]
      · rfl
      · intro e
        rw [meets_leaf n h h' l h7 hl e, q] at hk
        cases hk
  · intro n h i1 i2
    cases q : keyed xs n with
    | true => rw [cover_keyed xs n q]; exact one n (by omega)
    | false =>
      rw [cover_both xs n q h]
      have e : above (cover xs (2 * n + 1) ++ cover xs (2 * n + 2)) l = above (cover xs (2 * n + 1)) l + above (cover xs (2 * n + 2)) l := by unfold above; rw [List.filter_append, List.length_append]
      rw [e, i1, i2]
      exact meets_sum n h l hl h7

theorem getD_set (xs : List ByteArray) (p k : Nat) (y : ByteArray) : (xs.set p y).getD k ByteArray.empty = if p = k ∧ k < xs.length then y else xs.getD k ByteArray.empty := by
  rw [List.getD_eq_getElem?_getD, List.getD_eq_getElem?_getD, List.getElem?_set]
  by_cases h : p = k
  · subst h
    by_cases h2 : p < xs.length
    · simp [h2]
    · simp [h2]
  · simp [h]

theorem wipe_len (ps : List Nat) : ∀ xs, (wipe xs ps).length = xs.length := by
  induction ps with
  | nil => intro xs; rfl
  | cons p ps ih => intro xs; show (wipe (xs.set p ByteArray.empty) ps).length = _; rw [ih]; simp
theorem wipe_at (ps : List Nat) : ∀ xs k, (wipe xs ps).getD k ByteArray.empty = if k ∈ ps then ByteArray.empty else xs.getD k ByteArray.empty := by
  induction ps with
  | nil => intro xs k; simp [wipe]
  | cons p ps ih =>
    intro xs k
    show (wipe (xs.set p ByteArray.empty) ps).getD k ByteArray.empty = _
    rw [ih, getD_set]
    by_cases h : k ∈ ps
    · simp [h]
    · by_cases h2 : p = k
      · subst h2
        by_cases h3 : p < xs.length
        · simp [h, h3]
        · simp [h, h3]
      · have : ¬ k = p := fun e => h2 e.symm
        simp [h, h2, this]
theorem fill_len (ps : List Nat) : ∀ xs s, (fill xs s ps).length = xs.length := by
  induction ps with
  | nil => intro xs s; rfl
  | cons p ps ih => intro xs s; show (fill (xs.set p (mkKey s)) (mkNext s) ps).length = _; rw [ih]; simp
theorem fill_out (ps : List Nat) : ∀ xs s k, ¬ k ∈ ps → (fill xs s ps).getD k ByteArray.empty = xs.getD k ByteArray.empty := by
  induction ps with
  | nil => intro xs s k _; rfl
  | cons p ps ih =>
    intro xs s k h
    show (fill (xs.set p (mkKey s)) (mkNext s) ps).getD k ByteArray.empty = _
    have h1 : ¬ k = p := fun e => h (by simp [e])
    rw [ih _ _ k (fun e => h (by simp [e])), getD_set, if_neg (fun e => h1 e.1.symm)]
theorem fill_in (ps : List Nat) : ∀ xs ys s k, k ∈ ps → xs.length = ys.length → (fill xs s ps).getD k ByteArray.empty = (fill ys s ps).getD k ByteArray.empty := by
  induction ps with
  | nil => intro xs ys s k h; cases h
  | cons p ps ih =>
    intro xs ys s k h e
    show (fill (xs.set p (mkKey s)) (mkNext s) ps).getD k ByteArray.empty = (fill (ys.set p (mkKey s)) (mkNext s) ps).getD k ByteArray.empty
    by_cases hk : k ∈ ps
    · exact ih _ _ _ k hk (by simp [e])
    · have hkp : k = p := by simpa [hk] using h
      subst hkp
      rw [fill_out _ _ _ _ hk, fill_out _ _ _ _ hk, getD_set, getD_set, e]
      by_cases q : k < ys.length
      · simp [q]
      · rw [if_neg (fun z => q z.2), if_neg (fun z => q z.2), List.getD_eq_getElem?_getD, List.getD_eq_getElem?_getD, List.getElem?_eq_none (by omega), List.getElem?_eq_none (by omega)]

/-- Cleared behind set is cleared. -/
theorem wipe_fill (ps : List Nat) (xs : List ByteArray) (s : ByteArray) : wipe (fill xs s ps) ps = wipe xs ps := by
  apply rows_eq
  · rw [wipe_len, wipe_len, fill_len]
  · intro k _
    rw [wipe_at, wipe_at]
    by_cases h : k ∈ ps
    · simp [h]
    · rw [if_neg h, if_neg h, fill_out _ _ _ _ h]
theorem wipe_twice (ps : List Nat) (xs : List ByteArray) : wipe (wipe xs ps) ps = wipe xs ps := by
  apply rows_eq
  · rw [wipe_len]
  · intro k _
    rw [wipe_at, wipe_at]
    by_cases h : k ∈ ps <;> simp [h]
theorem wipe_swap (ps qs : List Nat) (xs : List ByteArray) : wipe (wipe xs ps) qs = wipe (wipe xs qs) ps := by
  apply rows_eq
  · rw [wipe_len, wipe_len, wipe_len, wipe_len]
  · intro k _
    rw [wipe_at, wipe_at, wipe_at, wipe_at]
    by_cases h : k ∈ ps <;> by_cases h2 : k ∈ qs <;> simp [h, h2]
/-- Set by one, and then by another one. -/
theorem fill_two (ps qs : List Nat) (xs : List ByteArray) (s u : ByteArray) (k : Nat) :
    (fill (fill xs s ps) u qs).getD k ByteArray.empty = if k ∈ qs then (fill xs u qs).getD k ByteArray.empty else (fill xs s ps).getD k ByteArray.empty := by
  by_cases h : k ∈ qs
  · rw [if_pos h]; exact fill_in _ _ _ _ _ h (fill_len _ _ _)
  · rw [if_neg h]; exact fill_out _ _ _ _ h

theorem all_getD {xs : List ByteArray} (p : ByteArray → Bool) : xs.all p = true ↔ ∀ k, k < xs.length → p (xs.getD k ByteArray.empty) = true := by
  rw [List.all_eq_true]
  constructor
  · intro h k hk; exact h _ (getD_mem hk)
  · intro h x hx
    obtain ⟨k, hk, rfl⟩ := mem_getD hx
    exact h k hk
theorem treOk_iff {xs : List ByteArray} : treOk xs = true ↔ xs.length = 15 ∧ ∀ k, k < xs.length → keyOk (xs.getD k ByteArray.empty) = true := by
  unfold treOk
  rw [Bool.and_eq_true, all_getD]
  simp
theorem keyOk_none : keyOk ByteArray.empty = true := by simp [keyOk]
theorem keyOk_set {xs : List ByteArray} {p : Nat} {y : ByteArray} (h : treOk xs = true) (hy : keyOk y = true) : treOk (xs.set p y) = true := by
  obtain ⟨h1, h2⟩ := treOk_iff.1 h
  refine treOk_iff.2 ⟨by simpa using h1, fun k hk => ?_⟩
  rw [List.length_set] at hk
  rw [getD_set]
  split
  · exact hy
  · exact h2 k hk
theorem treOk_wipe (ps : List Nat) : ∀ xs, treOk xs = true → treOk (wipe xs ps) = true := by
  induction ps with
  | nil => intro xs h; exact h
  | cons p ps ih => intro xs h; exact ih _ (keyOk_set h keyOk_none)
theorem keyOk_key {s : ByteArray} (h : ok s = true) (hs : s.size < 300) : keyOk (mkKey s) = true := by
  have m := made_key h hs
  have e : mkKey s = keyT s := by unfold mkKey; rw [if_pos h, cap_self m.1]
  rw [e]
  unfold keyOk
  rw [m.1, m.2.1]
  simp
theorem next_ok {s : ByteArray} (h : ok s = true) (hs : s.size < 300) : ok (mkNext s) = true ∧ (mkNext s).size = s.size + 1 := by
  have m := made_next h hs
  have e : mkNext s = nextT s := by unfold mkNext; rw [if_pos h, cap_self m.1]
  rw [e]
  exact ⟨m.1, by have := next_size s; omega⟩
theorem treOk_fill (ps : List Nat) : ∀ xs s, treOk xs = true → ok s = true → s.size + ps.length ≤ 300 → treOk (fill xs s ps) = true := by
  induction ps with
  | nil => intro xs s h _ _; exact h
  | cons p ps ih =>
    intro xs s h hs hl
    simp only [List.length_cons] at hl
    obtain ⟨n1, n2⟩ := next_ok hs (by omega)
    exact ih _ _ (keyOk_set h (keyOk_key hs (by omega))) n1 (by omega)
#print axioms treOk_fill
end Go.Proofs.Ytgdhlnfigcaepaa
/-
  The spec's covers: l3Cover.
-/
namespace Go.Proofs.Ytgdhlnfigcaepaa
open Go.RowKit

def ints (ps : List Nat) : List Int := ps.map fun (k : Nat) => (k : Int)
/-- What l3Cover leaves. -/
def Covers (xs : List ByteArray) (n : Nat) (w : World) (e : Ending) (w' : World) : Prop := ∃ u, e = .returned u ∧ OwnI w.heap.size w' u (ints (cover xs n)) ∧ Below w.heap.size w w'

theorem nil_text : (ByteArray.empty).toList = [] := by decide +kernel
theorem no_text {x : ByteArray} (h : ¬ x = ByteArray.empty) : ¬ x.toList = [] := by
  intro e
  exact h ((toList_eq (x := x) (y := ByteArray.empty)).1 (by rw [e, nil_text]; rfl))

end Go.Proofs.Ytgdhlnfigcaepaa
/-
  TreOk of both sides.
-/
namespace Go.Proofs.Ytgdhlnfigcaepaa
open Go.RowKit Kw

theorem keyOk_op (y : ByteArray) : keyOk y = (decide (y = ByteArray.empty) || decide (mOp y = 3)) := by
  unfold keyOk
  cases h : Kw.ok y with
  | true => simp
  | false =>
    have : mOp y = 0 := by unfold mOp; rw [if_neg (by rw [h]; simp)]
    rw [this]
    simp
theorem treOk_short {xs : List ByteArray} (h : xs.length ≠ 15) : treOk xs = false := by unfold treOk; simp [h]
theorem treOk_bad {xs : List ByteArray} {k : Nat} (hk : k < xs.length) (h : keyOk (xs.getD k ByteArray.empty) = false) : treOk xs = false := by
  cases q : treOk xs with
  | false => rfl
  | true => rw [(treOk_iff.1 q).2 k hk] at h; cases h
theorem treOk_good {xs : List ByteArray} (hl : xs.length = 15) (h : ∀ j, j < 15 → keyOk (xs.getD j ByteArray.empty) = true) : treOk xs = true := treOk_iff.2 ⟨hl, fun k hk => h k (by omega)⟩

end Go.Proofs.Ytgdhlnfigcaepaa
/-
  What TreClear and TreSet answer, plain; stores into rows of texts. No Go function in it.
-/
namespace Go.Proofs.Ytgdhlnfigcaepaa
open Go.RowKit Kw

theorem keyOk_small {x : ByteArray} (h : keyOk x = true) : x.size ≤ 300 := by
  unfold keyOk at h
  by_cases he : x = ByteArray.empty
  · subst he; show (0 : Nat) ≤ 300; omega
  · simp [he] at h
    exact (ok_facts h.1).1
theorem treOk_small {xs : List ByteArray} (h : treOk xs = true) : ∀ x ∈ xs, x.size ≤ 300 := by
  intro x hx
  obtain ⟨k, hk, rfl⟩ := mem_getD hx
  exact keyOk_small ((treOk_iff.1 h).2 k hk)
/-- What TreClear answers. -/
def clrRes (xs : List ByteArray) (p : Int) : List ByteArray := if treOk xs = true ∧ 0 ≤ p ∧ p ≤ 7 then clearOf xs p.toNat else []
theorem clearOf_len (xs : List ByteArray) (k : Nat) : (clearOf xs k).length = xs.length := wipe_len _ _
theorem clrRes_len (xs : List ByteArray) (p : Int) : (clrRes xs p).length ≤ 15 := by
  unfold clrRes
  split
  · next h => rw [clearOf_len, (treOk_iff.1 h.1).1]; omega
  · simp
theorem clrRes_no {xs : List ByteArray} {p : Int} (h : ¬ (treOk xs = true ∧ 0 ≤ p ∧ p ≤ 7)) : clrRes xs p = [] := by unfold clrRes; rw [if_neg h]
theorem clrRes_yes {xs : List ByteArray} {k : Nat} (h : treOk xs = true) (hk : k < 8) : clrRes xs (k : Int) = clearOf xs k := by unfold clrRes; rw [if_pos ⟨h, by omega, by omega⟩]; rfl
theorem clear_small {xs : List ByteArray} {M : Nat} (h : ∀ x ∈ xs, x.size ≤ M) (k : Nat) : ∀ x ∈ clearOf xs k, x.size ≤ M := by
  intro x hx
  obtain ⟨j, hj, rfl⟩ := mem_getD hx
  unfold clearOf
  rw [wipe_at]
  split
  · show (0 : Nat) ≤ M; omega
  · rw [clearOf_len] at hj
    exact h _ (getD_mem hj)
theorem wipe_snoc (xs : List ByteArray) (ps : List Nat) (p : Nat) : wipe xs (ps ++ [p]) = (wipe xs ps).set p ByteArray.empty := by unfold wipe; rw [List.foldl_append]; rfl

/-- A row of fifteen texts, written out. -/
theorem row15 {B : Nat} {w : World} {v : Value} {zs : List Value} (h : w.ownsRow B 9 1 v 15 zs) : ∃ g cap, v = .slice (some ⟨g, 0, none⟩) 15 cap ∧ B ≤ g ∧ g < w.heap.size ∧ 15 ≤ cap ∧ cap ≤ maxLen := by
  have hh := h
  rcases h.2 with ⟨_, q⟩ | ⟨g, cap, cur, rfl, h1, h2, h3, h4, h5, h6⟩
  · omega
  · exact ⟨g, cap, rfl, h1, (hh.lt g rfl).2, h3, h4⟩
/-- What a store at a place of it wants, and leaves. -/
theorem row15_set {B : Nat} {w : World} {g cap : Nat} {xs : List ByteArray} (hl : xs.length = 15) (h : w.ownsRow B 9 1 (.slice (some ⟨g, 0, none⟩) 15 cap) 15 (xs.map Value.string)) (j : Nat) (hj : j < 15) (y : ByteArray) :
    w.cell? ⟨g, j, none⟩ = some (.string (xs.getD j ByteArray.empty)) ∧ w.frozen? ⟨g, j, none⟩ = false ∧ (w.setCell ⟨g, j, none⟩ (.string y)).ownsRow B 9 1 (.slice (some ⟨g, 0, none⟩) 15 cap) 15 ((xs.set j y).map Value.string) ∧ w.grownBy (w.setCell ⟨g, j, none⟩ (.string y)) (some g) := by
  refine ⟨?_, h.frozenAt j, ?_⟩
  · rw [h.cellAt j (by omega), List.getElem?_map, List.getElem?_eq_getElem (by omega), List.getD_eq_getElem?_getD, List.getElem?_eq_getElem (by omega)]; rfl
  · obtain ⟨s1, s2⟩ := h.stored j (.string y)
    rw [List.map_set]
    exact ⟨s1, s2⟩
theorem grown_drew {w w' : World} {r : Option Nat} (h : w.grownBy w' r) : w.grownBy w'.drew r := ⟨h.os, h.tape, h.output, h.size, h.block⟩
theorem grown_below0 {wr u u' : World} {r : Option Nat} (h : wr.grownBy u r) (hb : Below u.heap.size u u') : wr.grownBy u' r :=
  ⟨hb.os.trans h.os, hb.tape.trans h.tape, hb.output.trans h.output, Nat.le_trans h.size hb.size, fun k hk hr => (hb.block k (Nat.lt_of_lt_of_le hk h.size)).trans (h.block k hk hr)⟩
end Go.Proofs.Ytgdhlnfigcaepaa
/-
  What TreSet answers, plain. No Go function in it.
-/
namespace Go.Proofs.Ytgdhlnfigcaepaa
open Go.RowKit Kw

/-- The secret so many places above. -/
def nextN (s : ByteArray) : Nat → ByteArray
  | 0 => s
  | n + 1 => mkNext (nextN s n)
theorem nextN_in (s : ByteArray) : ∀ n, nextN (mkNext s) n = nextN s (n + 1)
  | 0 => rfl
  | n + 1 => by show mkNext (nextN (mkNext s) n) = mkNext (nextN s (n + 1)); rw [nextN_in s n]
theorem fill_snoc (ps : List Nat) (p : Nat) : ∀ xs s, fill xs s (ps ++ [p]) = (fill xs s ps).set p (mkKey (nextN s ps.length)) := by
  induction ps with
  | nil => intro xs s; rfl
  | cons q ps ih =>
    intro xs s
    show fill (xs.set q (mkKey s)) (mkNext s) (ps ++ [p]) = (fill (xs.set q (mkKey s)) (mkNext s) ps).set p (mkKey (nextN s (ps.length + 1)))
    rw [ih, nextN_in]
/-- What TreSet wants of a secret. -/
def maySet (s : ByteArray) : Bool := Kw.ok s && decide (s.size ≤ 292)
def setRes (xs : List ByteArray) (p : Int) (s : ByteArray) : List ByteArray := if (treOk xs = true ∧ 0 ≤ p ∧ p ≤ 7) ∧ maySet s = true then setKeys xs p.toNat s else []
theorem setKeys_len (xs : List ByteArray) (k : Nat) (s : ByteArray) : (setKeys xs k s).length = xs.length := fill_len _ _ _
theorem setRes_len (xs : List ByteArray) (p : Int) (s : ByteArray) : (setRes xs p s).length ≤ 15 := by
  unfold setRes
  split
  · next h => rw [setKeys_len, (treOk_iff.1 h.1.1).1]; omega
  · simp
theorem setRes_no {xs : List ByteArray} {p : Int} {s : ByteArray} (h : ¬ ((treOk xs = true ∧ 0 ≤ p ∧ p ≤ 7) ∧ maySet s = true)) : setRes xs p s = [] := by unfold setRes; rw [if_neg h]
theorem setRes_yes {xs : List ByteArray} {k : Nat} {s : ByteArray} (h : treOk xs = true) (hk : k < 8) (hs : maySet s = true) : setRes xs (k : Int) s = setKeys xs k s := by unfold setRes; rw [if_pos ⟨⟨h, by omega, by omega⟩, hs⟩]; rfl
theorem nextN_size (s : ByteArray) (hs : s.size ≤ 300) : ∀ n, (nextN s n).size ≤ 300
  | 0 => hs
  | n + 1 => by
    show (mkNext (nextN s n)).size ≤ 300
    unfold mkNext
    split
    · unfold cap; split
      · assumption
      · show (0 : Nat) ≤ 300; omega
    · show (0 : Nat) ≤ 300; omega
theorem treOk_set {xs : List ByteArray} {k : Nat} {s : ByteArray} (h : treOk xs = true) (hk : k < 8) (hs : maySet s = true) : treOk (setKeys xs k s) = true := by
  unfold maySet at hs
  simp at hs
  have := ups_len (7 + k) (by omega)
  exact treOk_fill _ _ _ h hs.1 (by simp; omega)
theorem treOk_clear {xs : List ByteArray} {k : Nat} (h : treOk xs = true) : treOk (clearOf xs k) = true := treOk_wipe _ _ h
end Go.Proofs.Ytgdhlnfigcaepaa
/-
  The program's places: whether one is there, the place over it, the place of one; TreLeaf.
-/
namespace Go.Proofs.Ytgdhlnfigcaepaa
open Go.RowKit

/-- The place under which one lies. -/
def overOf (p : Int) : Int := if 1 ≤ p ∧ p ≤ 14 then (p - 1) / 2 else -1
/-- A place, and all above it. -/
def chainOf (p : Int) : List Int := if 0 ≤ p ∧ p ≤ 14 then p :: upOf p else []
theorem upOf_nat (k : Nat) (h : k < 15) : upOf (k : Int) = (ups k).map (fun (k : Nat) => (k : Int)) := by
  unfold upOf; rw [if_pos (by omega)]; rfl
theorem upOf_chain (p : Int) : upOf p = chainOf (overOf p) := by
  by_cases h : 0 ≤ p ∧ p ≤ 14
  · obtain ⟨k, rfl⟩ : ∃ k : Nat, p = (k : Int) := ⟨p.toNat, by omega⟩
    have hk : k < 15 := by omega
    by_cases h0 : 0 < k
    · have e : overOf (k : Int) = (((k - 1) / 2 : Nat) : Int) := by unfold overOf; rw [if_pos (by omega)]; omega
      rw [e, upOf_nat k hk, ups_step k hk h0]
      unfold chainOf
      rw [if_pos (by omega), upOf_nat _ (by omega)]
      rfl
    · obtain rfl : k = 0 := by omega
      rfl
  · have e : overOf p = -1 := by unfold overOf; rw [if_neg (by omega)]
    rw [e]
    unfold upOf
    rw [if_neg h]
    rfl
theorem chain_cons (p : Int) (h : 0 ≤ p ∧ p ≤ 14) : chainOf p = p :: chainOf (overOf p) := by
  rw [← upOf_chain]; unfold chainOf; rw [if_pos h]
theorem chain_nil (p : Int) (h : ¬ (0 ≤ p ∧ p ≤ 14)) : chainOf p = [] := by unfold chainOf; rw [if_neg h]
theorem over_lt (p : Int) (h : 0 ≤ p) : overOf p < p ∧ -1 ≤ overOf p := by unfold overOf; split <;> omega
theorem over_wrap (p : Int) (h0 : 1 ≤ p) (h : p ≤ 14) : IntKind.i64.wrap (p - 1) = p - 1 ∧ IntKind.i64.wrap ((p - 1).tdiv 2) = overOf p := by
  constructor
  · simp [IntKind.wrap, IntKind.bits, IntKind.signed]; omega
  · rw [Int.tdiv_eq_ediv_of_nonneg (by omega)]
    unfold overOf
    rw [if_pos ⟨h0, h⟩]
    simp [IntKind.wrap, IntKind.bits, IntKind.signed]
    omega

end Go.Proofs.Ytgdhlnfigcaepaa
/-
  Rows of secrets with their places (MemOwn).
-/
namespace Go.Proofs.Ytgdhlnfigcaepaa
open Go.RowKit Go.Shelf

abbrev Mo := Int × ByteArray
def noMo : Mo := (0, ByteArray.empty)
/-- A slice holds these: each a place, and a secret. -/
def MRow (w : World) (v : Value) (bs : List Mo) : Prop :=
  ∃ (ao : Option Addr) (cap : Nat), v = .slice ao bs.length cap ∧ bs.length ≤ cap ∧ cap ≤ maxLen ∧ ∀ i, i < bs.length → ∃ a, ao = some a ∧ w.cell? (a.add (i * 2)) = some (.int .i64 (bs.getD i noMo).1) ∧ w.cell? ((a.add (i * 2)).add 1) = some (.string (bs.getD i noMo).2)
theorem MRow.below {w w' : World} {v : Value} {bs : List Mo} (h : MRow w v bs) (hb : Below w.heap.size w w') : MRow w' v bs := by
  obtain ⟨ao, cap, h1, h2, h3, h4⟩ := h
  refine ⟨ao, cap, h1, h2, h3, fun i hi => ?_⟩
  obtain ⟨a, q1, q2, q3⟩ := h4 i hi
  exact ⟨a, q1, (hb.cell (cell_lt q2)).trans q2, (hb.cell (cell_lt q3)).trans q3⟩
theorem add_oneM (x : Addr) : x.add 1 = ⟨x.block, x.off + 1, none⟩ := Addr.add_succ' x 0
theorem MRow.form {w : World} {v : Value} {bs : List Mo} (h : MRow w v bs) :
    ∃ (ao : Option Addr) (cap : Nat), v = .slice ao bs.length cap ∧ bs.length ≤ cap ∧ cap ≤ maxLen ∧ ∀ i, i < bs.length → ∃ a, ao = some a ∧ w.cell? (a.add (i * 2)) = some (.int .i64 (bs.getD i noMo).1) ∧ w.cell? ⟨(a.add (i * 2)).block, (a.add (i * 2)).off + 1, none⟩ = some (.string (bs.getD i noMo).2) := by
  obtain ⟨ao, cap, h1, h2, h3, h4⟩ := h
  refine ⟨ao, cap, h1, h2, h3, fun i hi => ?_⟩
  obtain ⟨a, q1, q2, q3⟩ := h4 i hi
  exact ⟨a, q1, q2, by rw [← add_oneM]; exact q3⟩
theorem getM_mem {bs : List Mo} {k : Nat} (h : k < bs.length) : bs.getD k noMo ∈ bs := by
  rw [List.getD_eq_getElem?_getD, List.getElem?_eq_getElem h]
  exact List.getElem_mem h

/-- Cell by cell. -/
def mcells (bs : List Mo) : List Value := bs.flatMap fun b => [.int .i64 b.1, .string b.2]
theorem mcells_snoc (bs : List Mo) (b : Mo) : mcells (bs ++ [b]) = mcells bs ++ [.int .i64 b.1, .string b.2] := by simp [mcells]
theorem mcells_get : ∀ (bs : List Mo) (i : Nat), i < bs.length → (mcells bs)[i * 2]? = some (.int .i64 (bs.getD i noMo).1) ∧ (mcells bs)[i * 2 + 1]? = some (.string (bs.getD i noMo).2)
  | [], i, h => absurd h (Nat.not_lt_zero _)
  | b :: bs, 0, _ => by simp [mcells]
  | b :: bs, i + 1, h => by
    have := mcells_get bs i (by simpa using h)
    rw [show (i + 1) * 2 = i * 2 + 1 + 1 by omega]
    simpa [mcells] using this

/-- Rows of two types lie apart. -/
theorem row_apart {w : World} {B B' : Nat} {e e' : TypeId} {size size' : Nat} {v v' : Value} {n n' : Nat} {xs xs' : List Value} (h : w.ownsRow B e size v n xs) (k : w.ownsRow B' e' size' v' n' xs') (hne : e ≠ e') : v.ownBlock = none ∨ v.ownBlock ≠ v'.ownBlock := by
  rcases h.2 with ⟨rfl, _⟩ | ⟨g, cap, cur, rfl, _, hgb, _⟩
  · exact .inl rfl
  · rcases k.2 with ⟨rfl, _⟩ | ⟨g', cap', cur', rfl, _, hgb', _⟩
    · exact .inr (by simp [Value.ownBlock])
    · refine .inr (fun q => ?_)
      obtain rfl : g = g' := by simpa [Value.ownBlock] using q
      have := hgb.symm.trans hgb'
      simp at this
      exact hne this.2

/-- Secrets made one from the other, at places. -/
def pathOf : List Int → ByteArray → List Mo
  | [], _ => []
  | p :: ps, s => (p, s) :: pathOf ps (mkNext s)
theorem pathOf_len : ∀ (ps : List Int) (s : ByteArray), (pathOf ps s).length = ps.length
  | [], _ => rfl
  | _ :: ps, s => by simp [pathOf, pathOf_len ps]
theorem pathOf_snoc : ∀ (ps : List Int) (x : Int) (s : ByteArray), pathOf (ps ++ [x]) s = pathOf ps s ++ [(x, nextN s ps.length)]
  | [], _, _ => rfl
  | p :: ps, x, s => by
    show (p, s) :: pathOf (ps ++ [x]) (mkNext s) = (p, s) :: (pathOf ps (mkNext s) ++ _)
    rw [pathOf_snoc ps, nextN_in]
    rfl
end Go.Proofs.Ytgdhlnfigcaepaa
/-
  One in a group, as a value and in memory.
-/
namespace Go.Proofs.Ytgdhlnfigcaepaa
open Go.RowKit

/-- One in a group. -/
structure Mem where
  inn : Bool
  who : Int
  keys : List ByteArray
  own : List Mo
  ep : Int
  init : ByteArray
  tag : ByteArray
deriving DecidableEq
/-- None. -/
def Mem.none : Mem := ⟨false, 0, [], [], 0, ⟨#[]⟩, ⟨#[]⟩⟩

/-- Its cells. -/
abbrev memC (i : Bool) (who : Int) (ks os : Value) (ep : Int) (init tag : ByteArray) : Array Value := #[.bool i, .int .i64 who, ks, os, .int .i64 ep, .string init, .string tag]
abbrev noMem : Array Value := memC false 0 (.slice none 0 0) (.slice none 0 0) 0 ⟨#[]⟩ ⟨#[]⟩
abbrev Mem.cells (m : Mem) (ks os : Value) : Array Value := memC m.inn m.who ks os m.ep m.init m.tag
/-- A value is one in a group, its rows to be read. -/
def MemR (w : World) (v : Value) (m : Mem) : Prop := ∃ ks os, v = .agg (m.cells ks os) ∧ SRow w ks m.keys ∧ MRow w os m.own
theorem MemR.below {w w' : World} {v : Value} {m : Mem} (h : MemR w v m) (hb : Below w.heap.size w w') : MemR w' v m := by
  obtain ⟨ks, os, h1, h2, h3⟩ := h
  exact ⟨ks, os, h1, h2.below hb, h3.below hb⟩
theorem one_mm (i : Bool) (who : Int) (a : Option Addr) (l c : Nat) (a' : Option Addr) (l' c' : Nat) (ep : Int) (init tag : ByteArray) : (memC i who (.slice a l c) (.slice a' l' c') ep init tag).all (·.oneCell') = true := by simp [Value.oneCell']
end Go.Proofs.Ytgdhlnfigcaepaa
/-
  The program's iterators: upward, above.
-/
namespace Go.Proofs.Ytgdhlnfigcaepaa
open Go.RowKit Go.Shelf
attribute [local go_sem] Oper.semAt_some

end Go.Proofs.Ytgdhlnfigcaepaa
/-
  The program's iterator upward, told of places that are there.
-/
namespace Go.Proofs.Ytgdhlnfigcaepaa
open Go.RowKit Go.Shelf
attribute [local go_sem] Oper.semAt_some

/-- A place, and all above it, as places that are there. -/
def chainT (k : Fin 15) : List (Fin 15) := k :: (ups k.val).map (fun j => Fin.ofNat 15 j)
theorem chainT_val : ∀ k : Fin 15, (chainT k).map (·.val) = k.val :: ups k.val := by decide
theorem chainT_zero : chainT 0 = [0] := by decide
theorem chainT_step : ∀ k : Fin 15, 0 < k.val → chainT k = k :: chainT (Fin.ofNat 15 ((k.val - 1) / 2)) := by decide
theorem chainT_len : ∀ k : Fin 15, (chainT k).length ≤ 4 := by decide
def chainF (p : Int) : List (Fin 15) := if h : 0 ≤ p ∧ p ≤ 14 then chainT ⟨p.toNat, by omega⟩ else []
theorem chainF_nil (p : Int) (h : ¬ (0 ≤ p ∧ p ≤ 14)) : chainF p = [] := by unfold chainF; rw [dif_neg h]
theorem chainF_nat (k : Nat) (h : k < 15) : chainF (k : Int) = chainT ⟨k, h⟩ := by unfold chainF; rw [dif_pos (by omega)]; rfl
theorem chainF_cons (k : Nat) (h : k < 15) : chainF (k : Int) = ⟨k, h⟩ :: chainF (overOf (k : Int)) := by
  rw [chainF_nat k h]
  by_cases h0 : 0 < k
  · have e : overOf (k : Int) = (((k - 1) / 2 : Nat) : Int) := by unfold overOf; rw [if_pos (by omega)]; omega
    rw [e, chainF_nat _ (by omega), chainT_step ⟨k, h⟩ h0]
    congr 2
    apply Fin.ext
    show ((k - 1) / 2) % 15 = (k - 1) / 2
    omega
  · obtain rfl : k = 0 := by omega
    rfl

end Go.Proofs.Ytgdhlnfigcaepaa
/-
  The program's TreLeaf.
-/
namespace Go.Proofs.Ytgdhlnfigcaepaa
open Go.RowKit

end Go.Proofs.Ytgdhlnfigcaepaa
/-
  The program's secretAt and ownsItsPlaces.
-/
namespace Go.Proofs.Ytgdhlnfigcaepaa
open Go.RowKit Go.Shelf
attribute [local go_sem] Oper.semAt_some

/-- The first secret of a place. -/
def secAt : List Mo → Int → ByteArray
  | [], _ => ⟨#[]⟩
  | b :: bs, p => if b.1 = p then b.2 else secAt bs p
theorem secAt_none : ∀ (bs : List Mo) (p : Int), (∀ j, j < bs.length → (bs.getD j noMo).1 ≠ p) → secAt bs p = ⟨#[]⟩
  | [], _, _ => rfl
  | b :: bs, p, h => by
    unfold secAt
    rw [if_neg (show ¬ b.1 = p from h 0 (by simp))]
    exact secAt_none bs p (fun j hj => h (j + 1) (by simpa using hj))
theorem secAt_at : ∀ (bs : List Mo) (p : Int) (k : Nat), k < bs.length → (∀ j, j < k → (bs.getD j noMo).1 ≠ p) → (bs.getD k noMo).1 = p → secAt bs p = (bs.getD k noMo).2
  | [], _, _, h, _, _ => absurd h (Nat.not_lt_zero _)
  | b :: bs, p, 0, _, _, h => by unfold secAt; rw [if_pos (show b.1 = p from h)]; rfl
  | b :: bs, p, k + 1, hk, h, hp => by
    unfold secAt
    rw [if_neg (show ¬ b.1 = p from h 0 (by omega))]
    exact secAt_at bs p k (by simpa using hk) (fun j hj => h (j + 1) (by omega)) hp
theorem secAt_mem : ∀ (bs : List Mo) (p : Int), secAt bs p = ⟨#[]⟩ ∨ ∃ b ∈ bs, b.1 = p ∧ secAt bs p = b.2
  | [], _ => .inl rfl
  | b :: bs, p => by
    unfold secAt
    by_cases h : b.1 = p
    · rw [if_pos h]; exact .inr ⟨b, by simp, h, rfl⟩
    · rw [if_neg h]
      rcases secAt_mem bs p with q | ⟨c, q1, q2⟩
      · exact .inl q
      · exact .inr ⟨c, by simp [q1], q2⟩

/-- Whether a place has no key, or the key of what is had there. -/
def fitsAt (keys : List ByteArray) (own : List Mo) (p : Nat) : Bool := decide (keys.getD p ByteArray.empty = ByteArray.empty) || decide (mkKey (secAt own (p : Int)) = keys.getD p ByteArray.empty)
/-- How many of some places have keys. -/
def keyedIn (keys : List ByteArray) (ps : List Nat) : Nat := (ps.filter fun p => decide (keys.getD p ByteArray.empty ≠ ByteArray.empty)).length
def ownsOf (keys : List ByteArray) (own : List Mo) (k : Nat) : Bool :=
  decide (keys.getD (7 + k) ByteArray.empty ≠ ByteArray.empty) && ((7 + k) :: ups (7 + k)).all (fitsAt keys own) && decide (own.length = keyedIn keys ((7 + k) :: ups (7 + k)))
theorem keyedIn_snoc (keys : List ByteArray) (ps : List Nat) (p : Nat) : keyedIn keys (ps ++ [p]) = keyedIn keys ps + if keys.getD p ByteArray.empty = ByteArray.empty then 0 else 1 := by
  unfold keyedIn
  rw [List.filter_append, List.length_append]
  by_cases h : keys.getD p ByteArray.empty = ByteArray.empty
  · rw [if_pos h]; simp [List.filter_cons]; exact h
  · have h2 : ¬ keys[p]?.getD ByteArray.empty = ByteArray.empty := h
    rw [if_neg h]; simp [h2]
theorem keyedIn_le (keys : List ByteArray) (ps : List Nat) : keyedIn keys ps ≤ ps.length := by unfold keyedIn; exact List.length_filter_le _ _
def valsF (ps : List (Fin 15)) : List Nat := ps.map (·.val)
theorem valsF_snoc (ps : List (Fin 15)) (x : Fin 15) : valsF (ps ++ [x]) = valsF ps ++ [x.val] := by simp [valsF]
theorem valsF_chain (k : Nat) (h : k < 8) : valsF (chainF (7 + (k : Int))) = (7 + k) :: ups (7 + k) := by
  rw [show (7 + (k : Int)) = ((7 + k : Nat) : Int) by omega, chainF_nat _ (by omega)]
  exact chainT_val ⟨7 + k, by omega⟩
theorem chainF_len (p : Int) : (chainF p).length ≤ 4 := by
  unfold chainF
  split
  · exact chainT_len _
  · simp
theorem blk_own {β : Type} (B : Nat) (t : TypeId) (f : β → Array Value) : _root_.Go.Own (fun s W => Blk W B t (f s)) := fun s X Y row hs hg hrow =>
  hs.kept hg (fun e' => by obtain ⟨o, ho, hc⟩ := hrow B e'.symm; rw [show X.heap[B]? = _ from hs] at ho; cases ho; cases hc)

theorem keepsOthers_belowO {w w' : World} (h : Below w.heap.size w w') : KeepsOthers w w' := ⟨h.size, fun k _ hk _ => (h.block k (Array.getElem?_eq_some_iff.1 hk).1).trans hk⟩
theorem blk_other {w : World} {b b' : Nat} {t : TypeId} {cs : Array Value} (h : Blk w b t cs) (hne : b ≠ b') (v : Value) : Blk (w.setCell ⟨b', 0, none⟩ v) b t cs := h.kept (grownBy_setCell' w b' v) (fun e => hne (by cases e; rfl))
/-- A part of the places at whose last one what is had does not fit. -/
def Misfit (keys : List ByteArray) (own : List Mo) (pre : List (Fin 15)) : Prop := ∃ x ∈ pre, fitsAt keys own x.val = false
end Go.Proofs.Ytgdhlnfigcaepaa
/-
  The program's MemOk.
-/
namespace Go.Proofs.Ytgdhlnfigcaepaa
open Go.RowKit

/-- Whether one is ok, as the program has it. -/
def memOkI (m : Mem) : Bool :=
  if m.inn then decide (0 ≤ m.who ∧ m.who ≤ 7) && treOk m.keys && ownsOf m.keys m.own m.who.toNat && decide (0 ≤ m.ep ∧ m.ep ≤ 12) && Kw.ok m.init && decide (m.tag.size ≤ 300)
  else decide (m = Mem.none)

end Go.Proofs.Ytgdhlnfigcaepaa
