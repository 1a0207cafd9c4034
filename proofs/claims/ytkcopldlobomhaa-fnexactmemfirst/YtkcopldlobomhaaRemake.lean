/-
  Plain mathematics: what tells how a name was made makes just that name. Nothing of the program is in it.
-/
import Derived.Test.YtkcopldlobomhaaOk
namespace Go.Proofs.Ytkcopldlobomhaa
open Kw

theorem split_at (s : ByteArray) (a : Nat) (h : a ≤ s.size) : s.extract 0 a ++ s.extract a s.size = s := by
  have zz : (s.extract 0 a ++ s.extract a s.size).size = s.size := by simp
  refine ext_g zz ?_
  intro i hi
  have hi' : i < s.size := by rw [zz] at hi; exact hi
  have z : (s.extract 0 a).size = a := by simp [ByteArray.size_extract]; omega
  rw [g_append, z]
  by_cases hia : i < a
  · rw [if_pos hia, g_extract s 0 a i h (by omega), Nat.zero_add]
  · rw [if_neg hia, g_extract s a s.size (i - a) (Nat.le_refl _) (by omega)]; congr 1; omega

theorem split_three (s : ByteArray) (a b : Nat) (hab : a ≤ b) (h : b ≤ s.size) : s.extract 0 a ++ s.extract a b ++ s.extract b s.size = s := by
  have z1 : (s.extract 0 a).size = a := by simp [ByteArray.size_extract]; omega
  have z2 : (s.extract a b).size = b - a := by simp [ByteArray.size_extract]; omega
  have z3 : (s.extract 0 a ++ s.extract a b).size = b := by rw [ByteArray.size_append, z1, z2]; omega
  refine ext_g (by rw [ByteArray.size_append, z3]; simp [ByteArray.size_extract]; omega) ?_
  intro i hi
  have hi' : i < s.size := by rw [ByteArray.size_append, z3] at hi; simp [ByteArray.size_extract] at hi; omega
  rw [g_append, z3]
  by_cases hib : i < b
  · rw [if_pos hib, g_append, z1]
    by_cases hia : i < a
    · rw [if_pos hia, g_extract s 0 a i (by omega) (by omega), Nat.zero_add]
    · rw [if_neg hia, g_extract s a b (i - a) h (by omega)]; congr 1; omega
  · rw [if_neg hib, g_extract s b s.size (i - b) (Nat.le_refl _) (by omega)]; congr 1; omega

theorem len_rest (s : ByteArray) (a : Nat) (h : a ≤ s.size) : len (s.extract a s.size) 0 = len s a := by
  have e := len_shift (s.extract 0 a) (s.extract a s.size) 0
  rw [split_at s a h] at e
  have z : (s.extract 0 a).size = a := by simp [ByteArray.size_extract]; omega
  rw [z, Nat.add_zero] at e
  exact e.symm

theorem one_byte {s : ByteArray} {a n : Nat} (h : a < s.size) (hn : n < 256) (hg : g s a = n) : s.extract a (a + 1) = by1 n := by
  refine ext_g (by simp [ByteArray.size_extract, by1_size]; omega) ?_
  intro i hi
  have hi0 : i = 0 := by simp [ByteArray.size_extract] at hi; omega
  subst hi0
  rw [g_extract s a (a + 1) 0 (by omega) (by omega), Nat.add_zero, hg, g_by1 n hn]

theorem rest_ok {s : ByteArray} (hk : ok s = true) (a : Nat) (ha : a ≤ s.size) (h0 : len s a ≠ 0) (h : a + len s a = s.size) : ok (s.extract a s.size) = true := by
  obtain ⟨h1, _, _⟩ := ok_facts hk
  have z : (s.extract a s.size).size = s.size - a := by simp [ByteArray.size_extract]
  refine ok_yes (by rw [z]; omega) (by rw [len_rest s a ha]; exact h0) (by rw [len_rest s a ha, z]; omega)

theorem g_back {s t : ByteArray} {i : Nat} (h : i < s.size) : g s i = g (s ++ t) i := (g_front t h).symm

theorem fresh_back {s t : ByteArray} {a : Nat} (h : fresh (s ++ t) a ≠ 0) (hl : a + fresh (s ++ t) a ≤ s.size) : fresh s a = fresh (s ++ t) a := by
  obtain ⟨h1, h2, _, _, h5⟩ := fresh_yes h
  unfold fresh at h hl ⊢
  by_cases c : 65 ≤ g (s ++ t) a ∧ g (s ++ t) a ≤ 72 ∧ 49 ≤ g (s ++ t) (a + 1) ∧ g (s ++ t) (a + 1) ≤ 57
  · rw [if_pos c] at h hl
    rw [if_pos c]
    by_cases c2 : g (s ++ t) (a + 2) = 59
    · rw [if_pos c2] at hl
      rw [if_pos c2, g_back (s := s) (t := t) (i := a) (by omega), g_back (s := s) (t := t) (i := a + 1) (by omega), g_back (s := s) (t := t) (i := a + 2) (by omega), if_pos c, if_pos c2]
    · rw [if_neg c2] at h hl
      by_cases c3 : 48 ≤ g (s ++ t) (a + 2) ∧ g (s ++ t) (a + 2) ≤ 57 ∧ g (s ++ t) (a + 3) = 59
      · rw [if_pos c3] at hl
        rw [if_neg c2, if_pos c3, g_back (s := s) (t := t) (i := a) (by omega), g_back (s := s) (t := t) (i := a + 1) (by omega), g_back (s := s) (t := t) (i := a + 2) (by omega), g_back (s := s) (t := t) (i := a + 3) (by omega), if_pos c, if_neg c2, if_pos c3]
      · rw [if_neg c3] at h; exact absurd rfl h
  · rw [if_neg c] at h; exact absurd rfl h

theorem sz_back (s t : ByteArray) (f : Nat) : ∀ a, sz (s ++ t) f a ≠ 0 → a + sz (s ++ t) f a ≤ s.size → sz s f a = sz (s ++ t) f a := by
  induction f with
  | zero => intro a h; exact absurd rfl h
  | succ f ih =>
    intro a h hl
    have ha : a < s.size := by omega
    rw [sz_succ] at h hl
    rw [sz_succ, sz_succ, g_back (s := s) (t := t) ha]
    by_cases c1 : g (s ++ t) a = 110 ∨ g (s ++ t) a = 107
    · rw [if_pos c1] at h hl; rw [if_pos c1, if_pos c1]
      obtain ⟨n1, n2⟩ := more_ne h
      rw [ih _ n1 (by omega)]
    rw [if_neg c1] at h hl; rw [if_neg c1, if_neg c1]
    by_cases c2 : g (s ++ t) a = 109
    · rw [if_pos c2] at h hl; rw [if_pos c2, if_pos c2]
      by_cases d : 65 ≤ g (s ++ t) (a + 1) ∧ g (s ++ t) (a + 1) ≤ 72
      · rw [if_pos d] at h hl
        obtain ⟨n1, n2⟩ := more_ne h
        rw [if_pos d, g_back (s := s) (t := t) (i := a + 1) (by omega), if_pos d, ih _ n1 (by omega)]
      · rw [if_neg d] at h; exact absurd rfl h
    rw [if_neg c2] at h hl; rw [if_neg c2, if_neg c2]
    by_cases c3 : g (s ++ t) a = 114
    · rw [if_pos c3] at h hl; rw [if_pos c3, if_pos c3]
      by_cases d : 49 ≤ g (s ++ t) (a + 1) ∧ g (s ++ t) (a + 1) ≤ 57
      · rw [if_pos d] at h hl
        obtain ⟨n1, n2⟩ := more_ne h
        rw [if_pos d, g_back (s := s) (t := t) (i := a + 1) (by omega), if_pos d, ih _ n1 (by omega)]
      · rw [if_neg d] at h; exact absurd rfl h
    rw [if_neg c3] at h hl; rw [if_neg c3, if_neg c3]
    by_cases c4 : g (s ++ t) a = 101
    · rw [if_pos c4] at h hl; rw [if_pos c4, if_pos c4]
      by_cases d : sz (s ++ t) f (a + 1) = 0
      · rw [if_pos d] at h; exact absurd rfl h
      · rw [if_neg d] at h hl
        obtain ⟨n1, n2⟩ := more_ne h
        have e1 := ih (a + 1) d (by omega)
        rw [e1, if_neg d, if_neg d, ih _ n1 (by omega)]
    rw [if_neg c4] at h hl; rw [if_neg c4, if_neg c4, fresh_back h hl]

theorem len_back {s t : ByteArray} {a : Nat} (h : len (s ++ t) a ≠ 0) (hl : a + len (s ++ t) a ≤ s.size) : len s a = len (s ++ t) a := by
  have e : sz s ((s ++ t).size - a) a = len s a := len_eq (by simp [ByteArray.size_append]; omega)
  rw [← e]
  exact sz_back s t _ a h hl

/-- A name at the beginning of a name's rest is a name. -/
theorem mid_ok {s : ByteArray} (hk : ok s = true) (a : Nat) (h0 : len s a ≠ 0) : ok (s.extract a (a + len s a)) = true := by
  obtain ⟨h1, _, _⟩ := ok_facts hk
  have hle := len_le h0
  have z : (s.extract a (a + len s a)).size = len s a := by simp [ByteArray.size_extract]; omega
  have e := len_rest s a (by omega)
  have e2 : s.extract a s.size = s.extract a (a + len s a) ++ s.extract (a + len s a) s.size := by
    refine ext_g (by simp [ByteArray.size_extract]; omega) ?_
    intro i hi
    have hi' : a + i < s.size := by simp [ByteArray.size_extract] at hi; omega
    rw [g_extract s a s.size i (Nat.le_refl _) hi', g_append, z]
    by_cases hj : i < len s a
    · rw [if_pos hj, g_extract s a (a + len s a) i hle (by omega)]
    · rw [if_neg hj, g_extract s (a + len s a) s.size (i - len s a) (Nat.le_refl _) (by omega)]; congr 1; omega
  rw [e2] at e
  have e3 : len (s.extract a (a + len s a)) 0 = len s a := by
    rw [len_back (t := s.extract (a + len s a) s.size) (by rw [e]; exact h0) (by rw [e, z]; omega), e]
  exact ok_yes (by rw [z]; omega) (by rw [e3]; exact h0) (by rw [e3, z])

theorem cap_self {x : ByteArray} (h : ok x = true) : cap x = x := by unfold cap; rw [if_pos (ok_facts h).1]

theorem re_next {s : ByteArray} (hk : ok s = true) (c : g s 0 = 110) : mkNext (s.extract 1 s.size) = s := by
  obtain ⟨h0, h1⟩ := parts_nk hk (.inl c)
  have e : nextT (s.extract 1 s.size) = s := by
    have := split_at s 1 (by omega)
    rw [one_byte (a := 0) (n := 110) (by omega) (by omega) c] at this
    exact this
  unfold mkNext
  rw [if_pos (rest_ok hk 1 (by omega) h0 h1), e, cap_self hk]
theorem re_key {s : ByteArray} (hk : ok s = true) (c : g s 0 = 107) : mkKey (s.extract 1 s.size) = s := by
  obtain ⟨h0, h1⟩ := parts_nk hk (.inr c)
  have e : keyT (s.extract 1 s.size) = s := by
    have := split_at s 1 (by omega)
    rw [one_byte (a := 0) (n := 107) (by omega) (by omega) c] at this
    exact this
  unfold mkKey
  rw [if_pos (rest_ok hk 1 (by omega) h0 h1), e, cap_self hk]
theorem re_epoch {s : ByteArray} (hk : ok s = true) (c : g s 0 = 101) : mkEpoch (s.extract 1 (1 + len s 1)) (s.extract (1 + len s 1) s.size) = s := by
  obtain ⟨h0, h1, h2⟩ := parts_e hk c
  have e : epochT (s.extract 1 (1 + len s 1)) (s.extract (1 + len s 1) s.size) = s := by
    have := split_three s 1 (1 + len s 1) (by omega) (by omega)
    rw [one_byte (a := 0) (n := 101) (by omega) (by omega) c] at this
    exact this
  unfold mkEpoch
  rw [if_pos ⟨mid_ok hk 1 h0, rest_ok hk _ (by omega) h1 h2⟩, e, cap_self hk]
theorem re_say {s : ByteArray} (hk : ok s = true) (c : g s 0 = 109) : mkSay (s.extract 2 s.size) ((g s 1 : Int) - 65) = s := by
  obtain ⟨q1, q2, h0, h1⟩ := parts_m hk c
  have e : sayT (s.extract 2 s.size) (g s 1 - 65) = s := by
    have := split_three s 1 2 (by omega) (by omega)
    rw [one_byte (a := 0) (n := 109) (by omega) (by omega) c, one_byte (a := 1) (n := 65 + (g s 1 - 65)) (by omega) (by omega) (by omega)] at this
    exact this
  unfold mkSay
  rw [if_pos ⟨rest_ok hk 2 (by omega) h0 h1, by omega, by omega⟩, show ((g s 1 : Int) - 65).toNat = g s 1 - 65 by omega, e, cap_self hk]
theorem re_room {s : ByteArray} (hk : ok s = true) (c : g s 0 = 114) : mkRoom (s.extract 2 s.size) ((g s 1 - 48 : Nat) : Int) = s := by
  obtain ⟨q1, q2, h0, h1⟩ := parts_r hk c
  have e : roomT (s.extract 2 s.size) (g s 1 - 48) = s := by
    have := split_three s 1 2 (by omega) (by omega)
    unfold roomT
    rw [dec_one _ (by omega)]
    rw [one_byte (a := 0) (n := 114) (by omega) (by omega) c, one_byte (a := 1) (n := 48 + (g s 1 - 48)) (by omega) (by omega) (by omega)] at this
    exact this
  unfold mkRoom
  rw [if_pos ⟨rest_ok hk 2 (by omega) h0 h1, by omega, by omega⟩, Int.toNat_natCast, e, cap_self hk]
theorem re_new {s : ByteArray} (hk : ok s = true) (hf : fresh s 0 = s.size) : mkNew ((g s 0 : Int) - 65) (nv s 0 : Int) = s := by
  obtain ⟨_, h0, _⟩ := ok_facts hk
  obtain ⟨p1, p2, p3, p4, p5⟩ := fresh_yes (by rw [hf]; exact h0)
  have hall : s.extract 0 s.size = s := by
    refine ext_g (by simp) ?_
    intro i hi
    rw [g_extract s 0 s.size i (Nat.le_refl _) (by simp at hi; omega), Nat.zero_add]
  unfold mkNew
  by_cases c : 49 ≤ g s (0 + 1) ∧ g s (0 + 1) ≤ 57
  · by_cases c2 : g s (0 + 2) = 59
    · have e : fresh s 0 = 3 := by unfold fresh; rw [if_pos ⟨p1, p2, c⟩, if_pos c2]
      have e2 : nv s 0 = g s (0 + 1) - 48 := by unfold nv; rw [if_pos c2]
      have e3 : s.size = 3 := by omega
      rw [if_pos (by omega)]
      have := ext_three (s := s) (a := 0) (who := ((g s 0 : Int) - 65).toNat) (n := ((nv s 0 : Nat) : Int).toNat) (by omega) (by omega) (by omega) (by omega) (by omega) c2
      rw [this]
      rw [show 0 + 3 = s.size by omega]; exact hall
    · have hne : fresh s 0 ≠ 0 := by rw [hf]; exact h0
      by_cases c3 : 48 ≤ g s (0 + 2) ∧ g s (0 + 2) ≤ 57 ∧ g s (0 + 3) = 59
      · have e : fresh s 0 = 4 := by unfold fresh; rw [if_pos ⟨p1, p2, c⟩, if_neg c2, if_pos c3]
        have e2 : nv s 0 = (g s (0 + 1) - 48) * 10 + (g s (0 + 2) - 48) := by unfold nv; rw [if_neg c2]
        obtain ⟨r1, r2, r3⟩ := c3
        rw [if_pos (by omega)]
        have := ext_four (s := s) (a := 0) (who := ((g s 0 : Int) - 65).toNat) (n := ((nv s 0 : Nat) : Int).toNat) (by omega) (by omega) (by omega) (by omega) (by omega) (by omega) (by omega) r3
        rw [this]
        rw [show 0 + 4 = s.size by omega]; exact hall
      · exfalso; apply hne; unfold fresh; rw [if_pos ⟨p1, p2, c⟩, if_neg c2, if_neg c3]
  · exfalso; apply h0; rw [← hf]; unfold fresh; rw [if_neg (by omega)]

#print axioms re_new
#print axioms re_epoch
end Go.Proofs.Ytkcopldlobomhaa
