/-
  Plain mathematics: what tells how a name was made makes just that name. Nothing of the program is in it.
-/
import Derived.Test.YtjijfcollmjljaaFnTreSetB1
import Derived.Test.YtjijfcollmjljaaFnTreSetB2
import Derived.WalkKit
import Derived.Test.YtjijfcollmjljaaFnTreSetB3
import Derived.Deep.RegionHeld3
import Derived.RangeFuncNested
namespace Go.Proofs.Ytjijfcollmjljaa
open Kw

theorem split_at (s : ByteArray) (a : Nat) (h : a ≤ s.size) : s.extract 0 a ++ s.extract a s.size = s := by
  have zz : (s.extract 0 a ++ s.extract a s.size).size = s.size := by simp
  refine ext_g zz ?_
  intro i hi
  have hi' : i < s.size := by rw [zz] at hi; exact hi
  have z : (s.extract 0 a).size = a := by simp [ByteArray.size_extract]; omega
  rw [g_append, z]
  by_cases hia : i < a
  · rw [if_pos hia, g_extract s 0 a i h (by omega), Nat.zero_add]
  · rw [if_neg hia, g_extract s a s.size (i - a) (Nat.le_refl _) (by omega)]; congr 1; omega

theorem split_three (s : ByteArray) (a b : Nat) (hab : a ≤ b) (h : b ≤ s.size) : s.extract 0 a ++ s.extract a b ++ s.extract b s.size = s := by
  have z1 : (s.extract 0 a).size = a := by simp [ByteArray.size_extract]; omega
  have z2 : (s.extract a b).size = b - a := by simp [ByteArray.size_extract]; omega
  have z3 : (s.extract 0 a ++ s.extract a b).size = b := by rw [ByteArray.size_append, z1, z2]; omega
  refine ext_g (by rw [ByteArray.size_append, z3]; simp [ByteArray.size_extract]; omega) ?_
  intro i hi
  have hi' : i < s.size := by rw [ByteArray.size_append, z3] at hi; simp [ByteArray.size_extract] at hi; omega
  rw [g_append, z3]
  by_cases hib : i < b
  · rw [if_pos hib, g_append, z1]
    by_cases hia : i < a
    · rw [if_pos hia, g_extract s 0 a i (by omega) (by omega), Nat.zero_add]
    · rw [if_neg hia, g_extract s a b (i - a) h (by omega)]; congr 1; omega
  · rw [if_neg hib, g_extract s b s.size (i - b) (Nat.le_refl _) (by omega)]; congr 1; omega

theorem len_rest (s : ByteArray) (a : Nat) (h : a ≤ s.size) : len (s.extract a s.size) 0 = len s a := by
  have e := len_shift (s.extract 0 a) (s.extract a s.size) 0
  rw [split_at s a h] at e
  have z : (s.extract 0 a).size = a := by simp [ByteArray.size_extract]; omega
  rw [z, Nat.add_zero] at e
  exact e.symm

theorem one_byte {s : ByteArray} {a n : Nat} (h : a < s.size) (hn : n < 256) (hg : g s a = n) : s.extract a (a + 1) = by1 n := by
  refine ext_g (by simp [ByteArray.size_extract, by1_size]; omega) ?_
  intro i hi
  have hi0 : i = 0 := by simp [ByteArray.size_extract] at hi; omega
  subst hi0
  rw [g_extract s a (a + 1) 0 (by omega) (by omega), Nat.add_zero, hg, g_by1 n hn]

theorem rest_ok {s : ByteArray} (hk : ok s = true) (a : Nat) (ha : a ≤ s.size) (h0 : len s a ≠ 0) (h : a + len s a = s.size) : ok (s.extract a s.size) = true := by
  obtain ⟨h1, _, _⟩ := ok_facts hk
  have z : (s.extract a s.size).size = s.size - a := by simp [ByteArray.size_extract]
  refine ok_yes (by rw [z]; omega) (by rw [len_rest s a ha]; exact h0) (by rw [len_rest s a ha, z]; omega)

theorem g_back {s t : ByteArray} {i : Nat} (h : i < s.size) : g s i = g (s ++ t) i := (g_front t h).symm

theorem fresh_back {s t : ByteArray} {a : Nat} (h : fresh (s ++ t) a ≠ 0) (hl : a + fresh (s ++ t) a ≤ s.size) : fresh s a = fresh (s ++ t) a := by
  obtain ⟨h1, h2, _, _, h5⟩ := fresh_yes h
  unfold fresh at h hl ⊢
  by_cases c : 65 ≤ g (s ++ t) a ∧ g (s ++ t) a ≤ 72 ∧ 49 ≤ g (s ++ t) (a + 1) ∧ g (s ++ t) (a + 1) ≤ 57
  · rw [if_pos c] at h hl
    rw [if_pos c]
    by_cases c2 : g (s ++ t) (a + 2) = 59
    · rw [if_pos c2] at hl
      rw [if_pos c2, g_back (s := s) (t := t) (i := a) (by omega), g_back (s := s) (t := t) (i := a + 1) (by omega), g_back (s := s) (t := t) (i := a + 2) (by omega), if_pos c, if_pos c2]
    · rw [if_neg c2] at h hl
      by_cases c3 : 48 ≤ g (s ++ t) (a + 2) ∧ g (s ++ t) (a + 2) ≤ 57 ∧ g (s ++ t) (a + 3) = 59
      · rw [if_pos c3] at hl
        rw [if_neg c2, if_pos c3, g_back (s := s) (t := t) (i := a) (by omega), g_back (s := s) (t := t) (i := a + 1) (by omega), g_back (s := s) (t := t) (i := a + 2) (by omega), g_back (s := s) (t := t) (i := a + 3) (by omega), if_pos c, if_neg c2, if_pos c3]
      · rw [if_neg c3] at h; exact absurd rfl h
  · rw [if_neg c] at h; exact absurd rfl h

theorem sz_back (s t : ByteArray) (f : Nat) : ∀ a, sz (s ++ t) f a ≠ 0 → a + sz (s ++ t) f a ≤ s.size → sz s f a = sz (s ++ t) f a := by
  induction f with
  | zero => intro a h; exact absurd rfl h
  | succ f ih =>
    intro a h hl
    have ha : a < s.size := by omega
    rw [sz_succ] at h hl
    rw [sz_succ, sz_succ, g_back (s := s) (t := t) ha]
    by_cases c1 : g (s ++ t) a = 110 ∨ g (s ++ t) a = 107
    · rw [if_pos c1] at h hl; rw [if_pos c1, if_pos c1]
      obtain ⟨n1, n2⟩ := more_ne h
      rw [ih _ n1 (by omega)]
    rw [if_neg c1] at h hl; rw [if_neg c1, if_neg c1]
    by_cases c2 : g (s ++ t) a = 109
    · rw [if_pos c2] at h hl; rw [if_pos c2, if_pos c2]
      by_cases d : 65 ≤ g (s ++ t) (a + 1) ∧ g (s ++ t) (a + 1) ≤ 72
      · rw [if_pos d] at h hl
        obtain ⟨n1, n2⟩ := more_ne h
        rw [if_pos d, g_back (s := s) (t := t) (i := a + 1) (by omega), if_pos d, ih _ n1 (by omega)]
      · rw [if_neg d] at h; exact absurd rfl h
    rw [if_neg c2] at h hl; rw [if_neg c2, if_neg c2]
    by_cases c3 : g (s ++ t) a = 114
    · rw [if_pos c3] at h hl; rw [if_pos c3, if_pos c3]
      by_cases d : 49 ≤ g (s ++ t) (a + 1) ∧ g (s ++ t) (a + 1) ≤ 57
      · rw [if_pos d] at h hl
        obtain ⟨n1, n2⟩ := more_ne h
        rw [if_pos d, g_back (s := s) (t := t) (i := a + 1) (by omega), if_pos d, ih _ n1 (by omega)]
      · rw [if_neg d] at h; exact absurd rfl h
    rw [if_neg c3] at h hl; rw [if_neg c3, if_neg c3]
    by_cases c4 : g (s ++ t) a = 101
    · rw [if_pos c4] at h hl; rw [if_pos c4, if_pos c4]
      by_cases d : sz (s ++ t) f (a + 1) = 0
      · rw [if_pos d] at h; exact absurd rfl h
      · rw [if_neg d] at h hl
        obtain ⟨n1, n2⟩ := more_ne h
        have e1 := ih (a + 1) d (by omega)
        rw [e1, if_neg d, if_neg d, ih _ n1 (by omega)]
    rw [if_neg c4] at h hl; rw [if_neg c4, if_neg c4, fresh_back h hl]

theorem len_back {s t : ByteArray} {a : Nat} (h : len (s ++ t) a ≠ 0) (hl : a + len (s ++ t) a ≤ s.size) : len s a = len (s ++ t) a := by
  have e : sz s ((s ++ t).size - a) a = len s a := len_eq (by simp [ByteArray.size_append]; omega)
  rw [← e]
  exact sz_back s t _ a h hl

/-- A name at the beginning of a name's rest is a name. -/
theorem mid_ok {s : ByteArray} (hk : ok s = true) (a : Nat) (h0 : len s a ≠ 0) : ok (s.extract a (a + len s a)) = true := by
  obtain ⟨h1, _, _⟩ := ok_facts hk
  have hle := len_le h0
  have z : (s.extract a (a + len s a)).size = len s a := by simp [ByteArray.size_extract]; omega
  have e := len_rest s a (by omega)
  have e2 : s.extract a s.size = s.extract a (a + len s a) ++ s.extract (a + len s a) s.size := by
    refine ext_g (by simp [ByteArray.size_extract]; omega) ?_
    intro i hi
    have hi' : a + i < s.size := by simp [ByteArray.size_extract] at hi; omega
    rw [g_extract s a s.size i (Nat.le_refl _) hi', g_append, z]
    by_cases hj : i < len s a
    · rw [if_pos hj, g_extract s a (a + len s a) i hle (by omega)]
    · rw [if_neg hj, g_extract s (a + len s a) s.size (i - len s a) (Nat.le_refl _) (by omega)]; congr 1; omega
  rw [e2] at e
  have e3 : len (s.extract a (a + len s a)) 0 = len s a := by
    rw [len_back (t := s.extract (a + len s a) s.size) (by rw [e]; exact h0) (by rw [e, z]; omega), e]
  exact ok_yes (by rw [z]; omega) (by rw [e3]; exact h0) (by rw [e3, z])

theorem cap_self {x : ByteArray} (h : ok x = true) : cap x = x := by unfold cap; rw [if_pos (ok_facts h).1]

theorem re_next {s : ByteArray} (hk : ok s = true) (c : g s 0 = 110) : mkNext (s.extract 1 s.size) = s := by
  obtain ⟨h0, h1⟩ := parts_nk hk (.inl c)
  have e : nextT (s.extract 1 s.size) = s := by
    have := split_at s 1 (by omega)
    rw [one_byte (a := 0) (n := 110) (by omega) (by omega) c] at this
    exact this
  unfold mkNext
  rw [if_pos (rest_ok hk 1 (by omega) h0 h1), e, cap_self hk]
theorem re_key {s : ByteArray} (hk : ok s = true) (c : g s 0 = 107) : mkKey (s.extract 1 s.size) = s := by
  obtain ⟨h0, h1⟩ := parts_nk hk (.inr c)
  have e : keyT (s.extract 1 s.size) = s := by
    have := split_at s 1 (by omega)
    rw [one_byte (a := 0) (n := 107) (by omega) (by omega) c] at this
    exact this
  unfold mkKey
  rw [if_pos (rest_ok hk 1 (by omega) h0 h1), e, cap_self hk]
theorem re_epoch {s : ByteArray} (hk : ok s = true) (c : g s 0 = 101) : mkEpoch (s.extract 1 (1 + len s 1)) (s.extract (1 + len s 1) s.size) = s := by
  obtain ⟨h0, h1, h2⟩ := parts_e hk c
  have e : epochT (s.extract 1 (1 + len s 1)) (s.extract (1 + len s 1) s.size) = s := by
    have := split_three s 1 (1 + len s 1) (by omega) (by omega)
    rw [one_byte (a := 0) (n := 101) (by omega) (by omega) c] at this
    exact this
  unfold mkEpoch
  rw [if_pos ⟨mid_ok hk 1 h0, rest_ok hk _ (by omega) h1 h2⟩, e, cap_self hk]
theorem re_say {s : ByteArray} (hk : ok s = true) (c : g s 0 = 109) : mkSay (s.extract 2 s.size) ((g s 1 : Int) - 65) = s := by
  obtain ⟨q1, q2, h0, h1⟩ := parts_m hk c
  have e : sayT (s.extract 2 s.size) (g s 1 - 65) = s := by
    have := split_three s 1 2 (by omega) (by omega)
    rw [one_byte (a := 0) (n := 109) (by omega) (by omega) c, one_byte (a := 1) (n := 65 + (g s 1 - 65)) (by omega) (by omega) (by omega)] at this
    exact this
  unfold mkSay
  rw [if_pos ⟨rest_ok hk 2 (by omega) h0 h1, by omega, by omega⟩, show ((g s 1 : Int) - 65).toNat = g s 1 - 65 by omega, e, cap_self hk]
theorem re_room {s : ByteArray} (hk : ok s = true) (c : g s 0 = 114) : mkRoom (s.extract 2 s.size) ((g s 1 - 48 : Nat) : Int) = s := by
  obtain ⟨q1, q2, h0, h1⟩ := parts_r hk c
  have e : roomT (s.extract 2 s.size) (g s 1 - 48) = s := by
    have := split_three s 1 2 (by omega) (by omega)
    unfold roomT
    rw [dec_one _ (by omega)]
    rw [one_byte (a := 0) (n := 114) (by omega) (by omega) c, one_byte (a := 1) (n := 48 + (g s 1 - 48)) (by omega) (by omega) (by omega)] at this
    exact this
  unfold mkRoom
  rw [if_pos ⟨rest_ok hk 2 (by omega) h0 h1, by omega, by omega⟩, Int.toNat_natCast, e, cap_self hk]
theorem re_new {s : ByteArray} (hk : ok s = true) (hf : fresh s 0 = s.size) : mkNew ((g s 0 : Int) - 65) (nv s 0 : Int) = s := by
  obtain ⟨_, h0, _⟩ := ok_facts hk
  obtain ⟨p1, p2, p3, p4, p5⟩ := fresh_yes (by rw [hf]; exact h0)
  have hall : s.extract 0 s.size = s := by
    refine ext_g (by simp) ?_
    intro i hi
    rw [g_extract s 0 s.size i (Nat.le_refl _) (by simp at hi; omega), Nat.zero_add]
  unfold mkNew
  by_cases c : 49 ≤ g s (0 + 1) ∧ g s (0 + 1) ≤ 57
  · by_cases c2 : g s (0 + 2) = 59
    · have e : fresh s 0 = 3 := by unfold fresh; rw [if_pos ⟨p1, p2, c⟩, if_pos c2]
      have e2 : nv s 0 = g s (0 + 1) - 48 := by unfold nv; rw [if_pos c2]
      have e3 : s.size = 3 := by omega
      rw [if_pos (by omega)]
      have := ext_three (s := s) (a := 0) (who := ((g s 0 : Int) - 65).toNat) (n := ((nv s 0 : Nat) : Int).toNat) (by omega) (by omega) (by omega) (by omega) (by omega) c2
      rw [this]
      rw [show 0 + 3 = s.size by omega]; exact hall
    · have hne : fresh s 0 ≠ 0 := by rw [hf]; exact h0
      by_cases c3 : 48 ≤ g s (0 + 2) ∧ g s (0 + 2) ≤ 57 ∧ g s (0 + 3) = 59
      · have e : fresh s 0 = 4 := by unfold fresh; rw [if_pos ⟨p1, p2, c⟩, if_neg c2, if_pos c3]
        have e2 : nv s 0 = (g s (0 + 1) - 48) * 10 + (g s (0 + 2) - 48) := by unfold nv; rw [if_neg c2]
        obtain ⟨r1, r2, r3⟩ := c3
        rw [if_pos (by omega)]
        have := ext_four (s := s) (a := 0) (who := ((g s 0 : Int) - 65).toNat) (n := ((nv s 0 : Nat) : Int).toNat) (by omega) (by omega) (by omega) (by omega) (by omega) (by omega) (by omega) r3
        rw [this]
        rw [show 0 + 4 = s.size by omega]; exact hall
      · exfalso; apply hne; unfold fresh; rw [if_pos ⟨p1, p2, c⟩, if_neg c2, if_neg c3]
  · exfalso; apply h0; rw [← hf]; unfold fresh; rw [if_neg (by omega)]

#print axioms re_new
#print axioms re_epoch
end Go.Proofs.Ytjijfcollmjljaa
/-
  Plain mathematics: what is made from names tells how it was made.
-/
namespace Go.Proofs.Ytjijfcollmjljaa
open Kw

theorem ext_back (x y : ByteArray) : (x ++ y).extract x.size (x ++ y).size = y := by
  refine ext_g (by simp [ByteArray.size_extract, ByteArray.size_append]) ?_
  intro i hi
  have hi' : i < y.size := by simp [ByteArray.size_extract, ByteArray.size_append] at hi; omega
  rw [g_extract _ _ _ i (Nat.le_refl _) (by rw [ByteArray.size_append]; omega), g_shift]

theorem ext_front (x y : ByteArray) (a b : Nat) (hb : b ≤ x.size) : (x ++ y).extract a b = x.extract a b := by
  refine ext_g (by simp [ByteArray.size_extract, ByteArray.size_append]; omega) ?_
  intro i hi
  have hi' : a + i < b := by simp [ByteArray.size_extract, ByteArray.size_append] at hi; omega
  rw [g_extract _ _ _ i (by rw [ByteArray.size_append]; omega) hi', g_extract _ _ _ i hb hi', g_front y (by omega)]

/-- All that tells how a secret was made. -/
def Tells (s : ByteArray) (op who n : Int) (a b : ByteArray) : Prop := ok s = true ∧ mOp s = op ∧ mWho s = who ∧ mN s = n ∧ mA s = a ∧ mB s = b

theorem g0_next (s : ByteArray) : g (nextT s) 0 = 110 := by unfold nextT; rw [g_append]; rfl
theorem g0_key (s : ByteArray) : g (keyT s) 0 = 107 := by unfold keyT; rw [g_append]; rfl

theorem made_next {s : ByteArray} (h : ok s = true) (hs : s.size < 300) : Tells (nextT s) 2 0 0 s ⟨#[]⟩ := by
  have z := next_size s
  have hk : ok (nextT s) = true := ok_yes (by omega) (by rw [len_next h]; omega) (len_next h)
  have c := g0_next s
  have e : (nextT s).extract 1 (nextT s).size = s := ext_back ⟨#[110]⟩ s
  unfold Tells mOp mWho mN mA mB
  simp only [if_pos hk, if_pos c, e]
  exact ⟨hk, trivial, trivial, trivial, trivial, trivial⟩
theorem made_key {s : ByteArray} (h : ok s = true) (hs : s.size < 300) : Tells (keyT s) 3 0 0 s ⟨#[]⟩ := by
  have z := key_size s
  have hk : ok (keyT s) = true := ok_yes (by omega) (by rw [len_key h]; omega) (len_key h)
  have c := g0_key s
  have c1 : g (keyT s) 0 ≠ 110 := by omega
  have e : (keyT s).extract 1 (keyT s).size = s := ext_back ⟨#[107]⟩ s
  unfold Tells mOp mWho mN mA mB
  simp only [if_pos hk, if_neg c1, if_pos c, e]
  exact ⟨hk, trivial, trivial, trivial, trivial, trivial⟩
theorem made_epoch {a b : ByteArray} (ha : ok a = true) (hb : ok b = true) (hs : a.size + b.size < 300) : Tells (epochT a b) 4 0 0 a b := by
  obtain ⟨p1, p2, p3, c⟩ := epoch_parts ha hb
  obtain ⟨_, a2, _⟩ := ok_facts ha
  have hk : ok (epochT a b) = true := ok_yes (by omega) (by rw [len_epoch ha hb]; omega) (len_epoch ha hb)
  have c1 : g (epochT a b) 0 ≠ 110 := by omega
  have c2 : g (epochT a b) 0 ≠ 107 := by omega
  have z : (⟨#[101]⟩ ++ a : ByteArray).size = 1 + a.size := by simp [ByteArray.size_append]; rfl
  have e1 : (epochT a b).extract 1 (1 + a.size) = a := by
    have e := ext_front (⟨#[101]⟩ ++ a) b 1 (1 + a.size) (by omega)
    have e' := ext_back ⟨#[101]⟩ a
    rw [z] at e'
    exact e.trans e'
  have e2 : (epochT a b).extract (1 + a.size) (epochT a b).size = b := by
    have e := ext_back (⟨#[101]⟩ ++ a) b
    rw [z] at e
    exact e
  unfold Tells mOp mWho mN mA mB
  simp only [if_pos hk, if_neg c1, if_neg c2, if_pos c, p1, e1, e2]
  exact ⟨hk, trivial, trivial, trivial, trivial, trivial⟩
theorem made_say {s : ByteArray} {who : Nat} (h : ok s = true) (hw : who < 8) (hs : 2 + s.size ≤ 300) : Tells (sayT s who) 5 (who : Int) 0 s ⟨#[]⟩ := by
  obtain ⟨p1, p2, c, p4⟩ := say_parts h hw
  have hk : ok (sayT s who) = true := ok_yes (by omega) (by rw [len_say h hw]; omega) (len_say h hw)
  have c1 : g (sayT s who) 0 ≠ 110 := by omega
  have c2 : g (sayT s who) 0 ≠ 107 := by omega
  have c3 : g (sayT s who) 0 ≠ 101 := by omega
  have z : (⟨#[109]⟩ ++ by1 (65 + who) : ByteArray).size = 2 := by simp [ByteArray.size_append, by1_size]; rfl
  have e : (sayT s who).extract 2 (sayT s who).size = s := by
    have e := ext_back (⟨#[109]⟩ ++ by1 (65 + who)) s
    rw [z] at e
    exact e
  unfold Tells mOp mWho mN mA mB
  simp only [if_pos hk, if_neg c1, if_neg c2, if_neg c3, if_pos c, p4, e]
  exact ⟨hk, trivial, by omega, trivial, trivial, trivial⟩
theorem made_room {s : ByteArray} {room : Nat} (h : ok s = true) (h1 : 1 ≤ room) (hw : room < 10) (hs : 2 + s.size ≤ 300) : Tells (roomT s room) 6 0 (room : Int) s ⟨#[]⟩ := by
  obtain ⟨p1, p2, c, p4⟩ := room_parts h hw
  have hk : ok (roomT s room) = true := ok_yes (by omega) (by rw [len_room h h1 hw]; omega) (len_room h h1 hw)
  have c1 : g (roomT s room) 0 ≠ 110 := by omega
  have c2 : g (roomT s room) 0 ≠ 107 := by omega
  have c3 : g (roomT s room) 0 ≠ 101 := by omega
  have c4 : g (roomT s room) 0 ≠ 109 := by omega
  have z : (⟨#[114]⟩ ++ dec room : ByteArray).size = 2 := by rw [ByteArray.size_append, dec_size, if_pos hw]; rfl
  have e : (roomT s room).extract 2 (roomT s room).size = s := by
    have e := ext_back (⟨#[114]⟩ ++ dec room) s
    rw [z] at e
    exact e
  unfold Tells mOp mWho mN mA mB
  simp only [if_pos hk, if_neg c1, if_neg c2, if_neg c3, if_neg c4, if_pos c, p4, e]
  exact ⟨hk, trivial, trivial, by omega, trivial, trivial⟩

theorem next_inj {s t : ByteArray} (h : nextT s = nextT t) : s = t := by
  have e := ext_back ⟨#[110]⟩ s
  have e' := ext_back ⟨#[110]⟩ t
  have h' : (⟨#[110]⟩ ++ s : ByteArray) = ⟨#[110]⟩ ++ t := h
  rw [h'] at e
  exact e.symm.trans e'
theorem next_key (s : ByteArray) (t : ByteArray) : nextT s ≠ keyT t := by
  intro h
  have h1 := g0_next s
  rw [h, g0_key t] at h1
  omega

theorem epoch_bad {a b : ByteArray} (h : ok a = false ∨ ok b = false ∨ 300 ≤ a.size + b.size) : mkEpoch a b = ⟨#[]⟩ := by
  unfold mkEpoch
  by_cases hc : ok a = true ∧ ok b = true
  · rw [if_pos hc]
    unfold cap
    have := epoch_size a b
    rw [if_neg]
    rcases h with h | h | h
    · rw [hc.1] at h; cases h
    · rw [hc.2] at h; cases h
    · omega
  · rw [if_neg hc]
theorem epoch_good {a b : ByteArray} (ha : ok a = true) (hb : ok b = true) (hs : a.size + b.size < 300) : mkEpoch a b = epochT a b := by
  unfold mkEpoch
  have := epoch_size a b
  rw [if_pos ⟨ha, hb⟩, cap_self (made_epoch ha hb hs).1]
theorem epoch_swap {a b : ByteArray} (ha : ok a = true) (hb : ok b = true) (hs : a.size + b.size < 300) : (mkEpoch b a = epochT a b) ↔ a = b := by
  rw [epoch_good hb ha (by omega)]
  constructor
  · intro h
    have h1 := (made_epoch ha hb hs).2.2.2.2.1
    rw [← h, (made_epoch hb ha (by omega)).2.2.2.2.1] at h1
    exact h1.symm
  · intro h; subst h; rfl

theorem beq_list {x y : ByteArray} : (x.toList == y.toList) = true ↔ x = y := by
  constructor
  · intro h
    have h1 : x.toList = y.toList := by simpa using h
    have h2 := congrArg (fun l => (⟨l.toArray⟩ : ByteArray)) h1
    exact ByteArray.ext (by simpa [ByteArray.toList_eq] using h2)
  · intro h; subst h; simp
theorem beq_beq {x y u v : ByteArray} (h : x = y ↔ u = v) : ((x.toList == y.toList) == (u.toList == v.toList)) = true := by
  have : (x.toList == y.toList) = (u.toList == v.toList) := by
    rw [Bool.eq_iff_iff, beq_list, beq_list]; exact h
  rw [this]; simp

#print axioms made_epoch
#print axioms epoch_swap
end Go.Proofs.Ytjijfcollmjljaa
/-
  Rows of texts: what a slice of texts holds; slices of the call's own. No Go function in it.
-/
namespace Go.Proofs.Ytjijfcollmjljaa
open Go.RowKit

/-- A slice holds these texts. -/
def SRow (w : World) (v : Value) (xs : List ByteArray) : Prop :=
  (v = .slice none 0 0 ∧ xs = []) ∨ ∃ (a : Addr) (cap : Nat), v = .slice (some a) xs.length cap ∧ xs.length ≤ cap ∧ cap ≤ maxLen ∧ ∀ i, i < xs.length → w.cell? (a.add i) = some (.string (xs.getD i ByteArray.empty))

theorem cell_lt {w : World} {p : Addr} {v : Value} (h : w.cell? p = some v) : p.block < w.heap.size := by
  apply Classical.byContradiction
  intro hn
  have : w.heap[p.block]? = none := Array.getElem?_eq_none (by omega)
  simp [World.cell?, this] at h

theorem SRow.below {w w' : World} {v : Value} {xs : List ByteArray} (h : SRow w v xs) (hb : Below w.heap.size w w') : SRow w' v xs := by
  rcases h with h | ⟨a, cap, h1, h2, h3, h4⟩
  · exact .inl h
  · exact .inr ⟨a, cap, h1, h2, h3, fun i hi => (hb.cell (p := a.add i) (cell_lt (h4 i hi))).trans (h4 i hi)⟩
theorem SRow.drew {w : World} {v : Value} {xs : List ByteArray} (h : SRow w v xs) : SRow w.drew v xs := h

theorem ret_bool' {a b : Bool} (h : a = b) : Ending.returned (.bool a) = .returned (.bool b) := by rw [h]
theorem toList_eq {x y : ByteArray} : (x.toList == y.toList) = true ↔ x = y := by
  constructor
  · intro h
    have h1 : x.toList = y.toList := by simpa using h
    have h2 := congrArg (fun l => (⟨l.toArray⟩ : ByteArray)) h1
    exact ByteArray.ext (by simpa [ByteArray.toList_eq] using h2)
  · intro h; subst h; simp

/-- A text is one of some. -/
def has (xs : List ByteArray) (s : ByteArray) : Bool := xs.any fun x => decide (x = s)
theorem has_iff {xs : List ByteArray} {s : ByteArray} : has xs s = true ↔ s ∈ xs := by
  unfold has
  simp
theorem has_not {xs : List ByteArray} {s : ByteArray} (h : ¬ s ∈ xs) : has xs s = false := by
  cases q : has xs s with
  | false => rfl
  | true => exact absurd (has_iff.1 q) h

theorem SRow.form {w : World} {v : Value} {xs : List ByteArray} (h : SRow w v xs) :
    ∃ (ao : Option Addr) (cap : Nat), v = .slice ao xs.length cap ∧ xs.length ≤ cap ∧ cap ≤ maxLen ∧ ∀ i, i < xs.length → ∃ a, ao = some a ∧ w.cell? (a.add i) = some (.string (xs.getD i ByteArray.empty)) := by
  rcases h with ⟨rfl, rfl⟩ | ⟨a, cap, rfl, h1, h2, h3⟩
  · exact ⟨none, 0, rfl, Nat.le_refl _, by omega, fun i hi => absurd hi (Nat.not_lt_zero _)⟩
  · exact ⟨some a, cap, rfl, h1, h2, fun i hi => ⟨a, rfl, h3 i hi⟩⟩

theorem getD_mem {xs : List ByteArray} {k : Nat} (h : k < xs.length) : xs.getD k ByteArray.empty ∈ xs := by
  rw [List.getD_eq_getElem?_getD, List.getElem?_eq_getElem h]
  exact List.getElem_mem h

theorem mem_getD {xs : List ByteArray} {x : ByteArray} (h : x ∈ xs) : ∃ k, k < xs.length ∧ xs.getD k ByteArray.empty = x := by
  obtain ⟨j, hj, e⟩ := List.getElem_of_mem h
  refine ⟨j, hj, ?_⟩
  rw [List.getD_eq_getElem?_getD, List.getElem?_eq_getElem hj]
  exact e

theorem rows_eq {xs ys : List ByteArray} (hl : xs.length = ys.length) (h : ∀ j, j < xs.length → xs.getD j ByteArray.empty = ys.getD j ByteArray.empty) : xs = ys := by
  apply List.ext_getElem hl
  intro i h1 h2
  have := h i h1
  rw [List.getD_eq_getElem?_getD, List.getElem?_eq_getElem h1, List.getD_eq_getElem?_getD, List.getElem?_eq_getElem h2] at this
  exact this

/-- What is owned is held. -/
theorem own_srow {w : World} {base : Nat} {v : Value} {xs : List ByteArray} (h : w.ownsRow base 9 1 v xs.length (xs.map Value.string)) : SRow w v xs := by
  have hh := h
  rcases h.2 with ⟨h1, h2⟩ | ⟨g, cap, cur, h1, h2, h3, h4, h5, h6, h7⟩
  · exact .inl ⟨h1, List.eq_nil_of_length_eq_zero h2⟩
  · subst h1
    refine .inr ⟨⟨g, 0, none⟩, cap, rfl, h4, h5, fun i hi => ?_⟩
    have hc := hh.cellAt i (by omega)
    rw [Addr.add_lit, Nat.zero_add, hc]
    simp [hi]
theorem own_below' {w w' : World} {base : Nat} {e : TypeId} {size : Nat} {v : Value} {n : Nat} {xs : List Value} (h : w.ownsRow base e size v n xs) (hb : Below w.heap.size w w') : w'.ownsRow base e size v n xs := by
  refine ⟨h.1, h.2.imp id ?_⟩
  rintro ⟨g, cap, cur, h1, h2, h3, h4⟩
  have hlt : g < w.heap.size := by
    apply Classical.byContradiction
    intro hn
    rw [Array.getElem?_eq_none (by omega)] at h3
    cases h3
  exact ⟨g, cap, cur, h1, h2, (hb.block g hlt).trans h3, h4⟩

/-- A slice of the call's own holds these texts. -/
def Own (B : Nat) (w : World) (v : Value) (xs : List ByteArray) : Prop := w.ownsRow B 9 1 v xs.length (xs.map Value.string)
theorem Own.below {B : Nat} {w w' : World} {v : Value} {xs : List ByteArray} (h : Own B w v xs) (hb : Below w.heap.size w w') : Own B w' v xs := own_below' h hb
theorem Own.srow {B : Nat} {w : World} {v : Value} {xs : List ByteArray} (h : Own B w v xs) : SRow w v xs := own_srow h
theorem Own.grow {B : Nat} {w w6 w7 : World} {o : Obj} {v v' : Value} {xs : List ByteArray} {y : ByteArray} (hO : Own B w6 v xs) (hbl : Below B w w6) (hB : B ≤ w.heap.size)
    (hown' : w7.ownsRow B 9 1 v' (xs.length + 1) (xs.map Value.string ++ [.string y])) (hg : (w6.alloc o).grownBy w7 v.ownBlock) : Own B w7 v' (xs ++ [y]) ∧ Below B w w7 := by
  have hs := hbl.size
  refine ⟨?_, (hbl.alloc (by omega) o).grown hg (by simp; omega) (fun k hk => (hO.lt k hk).1)⟩
  unfold Own
  rw [List.length_append, List.map_append]
  exact hown'

/-- How long a slice is. -/
def lenOf : Value → Nat
  | .slice _ n _ => n
  | _ => 0
theorem Own.len {B : Nat} {w : World} {v : Value} {xs : List ByteArray} (h : Own B w v xs) : lenOf v = xs.length := by
  rcases h.2 with ⟨h1, h2⟩ | ⟨g, cap, cur, h1, _⟩
  · rw [h1, h2]; rfl
  · rw [h1]; rfl

theorem info_str2 : (Try.prog.info? 9).map (fun i => (i.zero, i.size, i.bytes)) = some (some (.string ⟨#[]⟩), 1, 16) := by kernel_rfl

theorem row_form' {w : World} {B : Nat} {e : TypeId} {size : Nat} {v : Value} {n : Nat} {xs : List Value} (h : w.ownsRow B e size v n xs) : ∃ ao cap, v = .slice ao n cap := by
  rcases h.2 with ⟨h1, h2⟩ | ⟨g, cap, cur, h1, _⟩
  · exact ⟨none, 0, by rw [h1, h2]⟩
  · exact ⟨_, cap, h1⟩
end Go.Proofs.Ytjijfcollmjljaa
/-
  The tree, plain: what covers covers each once; what is set, cleared, set again; trees that stay ok. No Go function in it.
-/
namespace Go.Proofs.Ytjijfcollmjljaa
open Kw

theorem meets_top : ∀ n, n < 7 → ∀ p, p < 15 → (meets p (2 * n + 1) = 2 * n + 1 → meets p n = n) ∧ (meets p (2 * n + 2) = 2 * n + 2 → meets p n = n) := by decide
/-- What covers has keys, and lies from there down. -/
theorem cover_has (xs : List ByteArray) : ∀ n, n < 15 → ∀ p ∈ cover xs n, p < 15 ∧ keyed xs p = true ∧ meets p n = n := by
  apply down
  · intro n h h' p hp
    cases q : keyed xs n with
    | true => rw [cover_keyed xs n q] at hp; simp at hp; subst hp; exact ⟨h', q, meets_self p h'⟩
    | false => rw [cover_bare xs n q h] at hp; simp at hp
  · intro n h i1 i2 p hp
    cases q : keyed xs n with
    | true => rw [cover_keyed xs n q] at hp; simp at hp; subst hp; exact ⟨by omega, q, meets_self p (by omega)⟩
    | false =>
      rw [cover_both xs n q h] at hp
      rcases List.mem_append.1 hp with hp | hp
      · obtain ⟨a, b, c⟩ := i1 p hp
        exact ⟨a, b, (meets_top n h p a).1 c⟩
      · obtain ⟨a, b, c⟩ := i2 p hp
        exact ⟨a, b, (meets_top n h p a).2 c⟩

/-- How many of some places are above one, or it. -/
def above (ps : List Nat) (l : Nat) : Nat := (ps.filter fun p => decide (meets p l = p)).length
theorem meets_leaf : ∀ n, 7 ≤ n → n < 15 → ∀ l, 7 ≤ l → l < 15 → meets l n = n → l = n := by
  have h : ∀ n, n < 15 → 7 ≤ n → ∀ l, l < 15 → 7 ≤ l → meets l n = n → l = n := by decide
  exact fun n a b l c d => h n b a l d c
theorem meets_sum : ∀ n, n < 7 → ∀ l, l < 15 → 7 ≤ l → (if meets l (2 * n + 1) = 2 * n + 1 then 1 else 0) + (if meets l (2 * n + 2) = 2 * n + 2 then 1 else 0) = if meets l n = n then 1 else 0 := by decide
/-- Each one with a key is covered once, where it lies from there down; where it does not, it is not. -/
theorem cover_count (xs : List ByteArray) (l : Nat) (h7 : 7 ≤ l) (hl : l < 15) (hk : keyed xs l = true) : ∀ n, n < 15 → above (cover xs n) l = if meets l n = n then 1 else 0 := by
  have one : ∀ n, n < 15 → above [n] l = if meets l n = n then 1 else 0 := by
    intro n hn
    unfold above
    rw [meets_comm l hl n hn]
    by_cases h : meets n l = n
    · simp [h]
    · simp [h]
  apply down
  · intro n h h'
    cases q : keyed xs n with
    | true => rw [cover_keyed xs n q]; exact one n h'
    | false =>
      rw [cover_bare xs n q h, if_neg]
      · rfl
      · intro e
        rw [meets_leaf n h h' l h7 hl e, q] at hk
        cases hk
  · intro n h i1 i2
    cases q : keyed xs n with
    | true => rw [cover_keyed xs n q]; exact one n (by omega)
    | false =>
      rw [cover_both xs n q h]
      have e : above (cover xs (2 * n + 1) ++ cover xs (2 * n + 2)) l = above (cover xs (2 * n + 1)) l + above (cover xs (2 * n + 2)) l := by unfold above; rw [List.filter_append, List.length_append]
      rw [e, i1, i2]
      exact meets_sum n h l hl h7

theorem getD_set (xs : List ByteArray) (p k : Nat) (y : ByteArray) : (xs.set p y).getD k ByteArray.empty = if p = k ∧ k < xs.length then y else xs.getD k ByteArray.empty := by
  rw [List.getD_eq_getElem?_getD, List.getD_eq_getElem?_getD, List.getElem?_set]
  by_cases h : p = k
  · subst h
    by_cases h2 : p < xs.length
    · simp [h2]
    · simp [h2]
  · simp [h]

theorem wipe_len (ps : List Nat) : ∀ xs, (wipe xs ps).length = xs.length := by
  induction ps with
  | nil => intro xs; rfl
  | cons p ps ih => intro xs; show (wipe (xs.set p ByteArray.empty) ps).length = _; rw [ih]; simp
theorem wipe_at (ps : List Nat) : ∀ xs k, (wipe xs ps).getD k ByteArray.empty = if k ∈ ps then ByteArray.empty else xs.getD k ByteArray.empty := by
  induction ps with
  | nil => intro xs k; simp [wipe]
  | cons p ps ih =>
    intro xs k
    show (wipe (xs.set p ByteArray.empty) ps).getD k ByteArray.empty = _
    rw [ih, getD_set]
    by_cases h : k ∈ ps
    · simp [h]
    · by_cases h2 : p = k
      · subst h2
        by_cases h3 : p < xs.length
        · simp [h, h3]
        · simp [h, h3]
      · have : ¬ k = p := fun e => h2 e.symm
        simp [h, h2, this]
theorem fill_len (ps : List Nat) : ∀ xs s, (fill xs s ps).length = xs.length := by
  induction ps with
  | nil => intro xs s; rfl
  | cons p ps ih => intro xs s; show (fill (xs.set p (mkKey s)) (mkNext s) ps).length = _; rw [ih]; simp
theorem fill_out (ps : List Nat) : ∀ xs s k, ¬ k ∈ ps → (fill xs s ps).getD k ByteArray.empty = xs.getD k ByteArray.empty := by
  induction ps with
  | nil => intro xs s k _; rfl
  | cons p ps ih =>
    intro xs s k h
    show (fill (xs.set p (mkKey s)) (mkNext s) ps).getD k ByteArray.empty = _
    have h1 : ¬ k = p := fun e => h (by simp [e])
    rw [ih _ _ k (fun e => h (by simp [e])), getD_set, if_neg (fun e => h1 e.1.symm)]
theorem fill_in (ps : List Nat) : ∀ xs ys s k, k ∈ ps → xs.length = ys.length → (fill xs s ps).getD k ByteArray.empty = (fill ys s ps).getD k ByteArray.empty := by
  induction ps with
  | nil => intro xs ys s k h; cases h
  | cons p ps ih =>
    intro xs ys s k h e
    show (fill (xs.set p (mkKey s)) (mkNext s) ps).getD k ByteArray.empty = (fill (ys.set p (mkKey s)) (mkNext s) ps).getD k ByteArray.empty
    by_cases hk : k ∈ ps
    · exact ih _ _ _ k hk (by simp [e])
    · have hkp : k = p := by simpa [hk] using h
      subst hkp
      rw [fill_out _ _ _ _ hk, fill_out _ _ _ _ hk, getD_set, getD_set, e]
      by_cases q : k < ys.length
      · simp [q]
      · rw [if_neg (fun z => q z.2), if_neg (fun z => q z.2), List.getD_eq_getElem?_getD, List.getD_eq_getElem?_getD, List.getElem?_eq_none (by omega), List.getElem?_eq_none (by omega)]

/-- Cleared behind set is cleared. -/
theorem wipe_fill (ps : List Nat) (xs : List ByteArray) (s : ByteArray) : wipe (fill xs s ps) ps = wipe xs ps := by
  apply rows_eq
  · rw [wipe_len, wipe_len, fill_len]
  · intro k _
    rw [wipe_at, wipe_at]
    by_cases h : k ∈ ps
    · simp [h]
    · rw [if_neg h, if_neg h, fill_out _ _ _ _ h]
theorem wipe_twice (ps : List Nat) (xs : List ByteArray) : wipe (wipe xs ps) ps = wipe xs ps := by
  apply rows_eq
  · rw [wipe_len]
  · intro k _
    rw [wipe_at, wipe_at]
    by_cases h : k ∈ ps <;> simp [h]
theorem wipe_swap (ps qs : List Nat) (xs : List ByteArray) : wipe (wipe xs ps) qs = wipe (wipe xs qs) ps := by
  apply rows_eq
  · rw [wipe_len, wipe_len, wipe_len, wipe_len]
  · intro k _
    rw [wipe_at, wipe_at, wipe_at, wipe_at]
    by_cases h : k ∈ ps <;> by_cases h2 : k ∈ qs <;> simp [h, h2]
/-- Set by one, and then by another one. -/
theorem fill_two (ps qs : List Nat) (xs : List ByteArray) (s u : ByteArray) (k : Nat) :
    (fill (fill xs s ps) u qs).getD k ByteArray.empty = if k ∈ qs then (fill xs u qs).getD k ByteArray.empty else (fill xs s ps).getD k ByteArray.empty := by
  by_cases h : k ∈ qs
  · rw [if_pos h]; exact fill_in _ _ _ _ _ h (fill_len _ _ _)
  · rw [if_neg h]; exact fill_out _ _ _ _ h

theorem all_getD {xs : List ByteArray} (p : ByteArray → Bool) : xs.all p = true ↔ ∀ k, k < xs.length → p (xs.getD k ByteArray.empty) = true := by
  rw [List.all_eq_true]
  constructor
  · intro h k hk; exact h _ (getD_mem hk)
  · intro h x hx
    obtain ⟨k, hk, rfl⟩ := mem_getD hx
    exact h k hk
theorem treOk_iff {xs : List ByteArray} : treOk xs = true ↔ xs.length = 15 ∧ ∀ k, k < xs.length → keyOk (xs.getD k ByteArray.empty) = true := by
  unfold treOk
  rw [Bool.and_eq_true, all_getD]
  simp
theorem keyOk_none : keyOk ByteArray.empty = true := by simp [keyOk]
theorem keyOk_set {xs : List ByteArray} {p : Nat} {y : ByteArray} (h : treOk xs = true) (hy : keyOk y = true) : treOk (xs.set p y) = true := by
  obtain ⟨h1, h2⟩ := treOk_iff.1 h
  refine treOk_iff.2 ⟨by simpa using h1, fun k hk => ?_⟩
  rw [List.length_set] at hk
  rw [getD_set]
  split
  · exact hy
  · exact h2 k hk
theorem treOk_wipe (ps : List Nat) : ∀ xs, treOk xs = true → treOk (wipe xs ps) = true := by
  induction ps with
  | nil => intro xs h; exact h
  | cons p ps ih => intro xs h; exact ih _ (keyOk_set h keyOk_none)
theorem keyOk_key {s : ByteArray} (h : ok s = true) (hs : s.size < 300) : keyOk (mkKey s) = true := by
  have m := made_key h hs
  have e : mkKey s = keyT s := by unfold mkKey; rw [if_pos h, cap_self m.1]
  rw [e]
  unfold keyOk
  rw [m.1, m.2.1]
  simp
theorem next_ok {s : ByteArray} (h : ok s = true) (hs : s.size < 300) : ok (mkNext s) = true ∧ (mkNext s).size = s.size + 1 := by
  have m := made_next h hs
  have e : mkNext s = nextT s := by unfold mkNext; rw [if_pos h, cap_self m.1]
  rw [e]
  exact ⟨m.1, by have := next_size s; omega⟩
theorem treOk_fill (ps : List Nat) : ∀ xs s, treOk xs = true → ok s = true → s.size + ps.length ≤ 300 → treOk (fill xs s ps) = true := by
  induction ps with
  | nil => intro xs s h _ _; exact h
  | cons p ps ih =>
    intro xs s h hs hl
    simp only [List.length_cons] at hl
    obtain ⟨n1, n2⟩ := next_ok hs (by omega)
    exact ih _ _ (keyOk_set h (keyOk_key hs (by omega))) n1 (by omega)
#print axioms treOk_fill
end Go.Proofs.Ytjijfcollmjljaa
/-
  Rows of numbers: what a slice of numbers holds; slices of the call's own. No Go function in it.
-/
namespace Go.Proofs.Ytjijfcollmjljaa
open Go.RowKit

/-- A slice holds these numbers. -/
def IRow (w : World) (v : Value) (xs : List Int) : Prop :=
  (v = .slice none 0 0 ∧ xs = []) ∨ ∃ (a : Addr) (cap : Nat), v = .slice (some a) xs.length cap ∧ xs.length ≤ cap ∧ cap ≤ maxLen ∧ ∀ i, i < xs.length → w.cell? (a.add i) = some (.int .i64 (xs.getD i 0))
theorem IRow.below {w w' : World} {v : Value} {xs : List Int} (h : IRow w v xs) (hb : Below w.heap.size w w') : IRow w' v xs := by
  rcases h with h | ⟨a, cap, h1, h2, h3, h4⟩
  · exact .inl h
  · exact .inr ⟨a, cap, h1, h2, h3, fun i hi => (hb.cell (p := a.add i) (cell_lt (h4 i hi))).trans (h4 i hi)⟩
theorem IRow.drew {w : World} {v : Value} {xs : List Int} (h : IRow w v xs) : IRow w.drew v xs := h
theorem IRow.form {w : World} {v : Value} {xs : List Int} (h : IRow w v xs) :
    ∃ (ao : Option Addr) (cap : Nat), v = .slice ao xs.length cap ∧ xs.length ≤ cap ∧ cap ≤ maxLen ∧ ∀ i, i < xs.length → ∃ a, ao = some a ∧ w.cell? (a.add i) = some (.int .i64 (xs.getD i 0)) := by
  rcases h with ⟨rfl, rfl⟩ | ⟨a, cap, rfl, h1, h2, h3⟩
  · exact ⟨none, 0, rfl, Nat.le_refl _, by omega, fun i hi => absurd hi (Nat.not_lt_zero _)⟩
  · exact ⟨some a, cap, rfl, h1, h2, fun i hi => ⟨a, rfl, h3 i hi⟩⟩

/-- A slice of the call's own holds these numbers. -/
def OwnI (B : Nat) (w : World) (v : Value) (xs : List Int) : Prop := w.ownsRow B 3 1 v xs.length (xs.map (Value.int .i64))
theorem OwnI.below {B : Nat} {w w' : World} {v : Value} {xs : List Int} (h : OwnI B w v xs) (hb : Below w.heap.size w w') : OwnI B w' v xs := own_below' h hb
theorem OwnI.irow {B : Nat} {w : World} {v : Value} {xs : List Int} (h : OwnI B w v xs) : IRow w v xs := by
  unfold OwnI at h
  have hh := h
  rcases h.2 with ⟨h1, h2⟩ | ⟨g, cap, cur, h1, h2, h3, h4, h5, h6, h7⟩
  · exact .inl ⟨h1, List.eq_nil_of_length_eq_zero h2⟩
  · subst h1
    refine .inr ⟨⟨g, 0, none⟩, cap, rfl, h4, h5, fun i hi => ?_⟩
    have hc := hh.cellAt i (by omega)
    rw [Addr.add_lit, Nat.zero_add, hc]
    simp [hi]
theorem OwnI.len {B : Nat} {w : World} {v : Value} {xs : List Int} (h : OwnI B w v xs) : lenOf v = xs.length := by
  rcases h.2 with ⟨h1, h2⟩ | ⟨g, cap, cur, h1, _⟩
  · rw [h1, h2]; rfl
  · rw [h1]; rfl
theorem OwnI.grow {B : Nat} {w w6 w7 : World} {o : Obj} {v v' : Value} {xs : List Int} {y : Int} (hO : OwnI B w6 v xs) (hbl : Below B w w6) (hB : B ≤ w.heap.size)
    (hown' : w7.ownsRow B 3 1 v' (xs.length + 1) (xs.map (Value.int .i64) ++ [.int .i64 y])) (hg : (w6.alloc o).grownBy w7 v.ownBlock) : OwnI B w7 v' (xs ++ [y]) ∧ Below B w w7 := by
  have hs := hbl.size
  refine ⟨?_, (hbl.alloc (by omega) o).grown hg (by simp; omega) (fun k hk => (hO.lt k hk).1)⟩
  unfold OwnI
  rw [List.length_append, List.map_append]
  exact hown'
theorem info_int2 : (Try.prog.info? 3).map (fun i => (i.zero, i.size, i.bytes)) = some (some (.int .i64 0), 1, 8) := by kernel_rfl
end Go.Proofs.Ytjijfcollmjljaa
/-
  The spec's covers: l3Cover.
-/
namespace Go.Proofs.Ytjijfcollmjljaa
open Go.RowKit

def ints (ps : List Nat) : List Int := ps.map fun (k : Nat) => (k : Int)
/-- What l3Cover leaves. -/
def Covers (xs : List ByteArray) (n : Nat) (w : World) (e : Ending) (w' : World) : Prop := ∃ u, e = .returned u ∧ OwnI w.heap.size w' u (ints (cover xs n)) ∧ Below w.heap.size w w'

theorem nil_text : (ByteArray.empty).toList = [] := by decide +kernel
theorem no_text {x : ByteArray} (h : ¬ x = ByteArray.empty) : ¬ x.toList = [] := by
  intro e
  exact h ((toList_eq (x := x) (y := ByteArray.empty)).1 (by rw [e, nil_text]; rfl))

end Go.Proofs.Ytjijfcollmjljaa
/-
  TreOk of both sides.
-/
namespace Go.Proofs.Ytjijfcollmjljaa
open Go.RowKit Kw

theorem keyOk_op (y : ByteArray) : keyOk y = (decide (y = ByteArray.empty) || decide (mOp y = 3)) := by
  unfold keyOk
  cases h : Kw.ok y with
  | true => simp
  | false =>
    have : mOp y = 0 := by unfold mOp; rw [if_neg (by rw [h]; simp)]
    rw [this]
    simp
theorem treOk_short {xs : List ByteArray} (h : xs.length ≠ 15) : treOk xs = false := by unfold treOk; simp [h]
theorem treOk_bad {xs : List ByteArray} {k : Nat} (hk : k < xs.length) (h : keyOk (xs.getD k ByteArray.empty) = false) : treOk xs = false := by
  cases q : treOk xs with
  | false => rfl
  | true => rw [(treOk_iff.1 q).2 k hk] at h; cases h
theorem treOk_good {xs : List ByteArray} (hl : xs.length = 15) (h : ∀ j, j < 15 → keyOk (xs.getD j ByteArray.empty) = true) : treOk xs = true := treOk_iff.2 ⟨hl, fun k hk => h k (by omega)⟩

theorem how_field (a b c : Int) (d e : ByteArray) : howV a b c d e = .agg #[.int .i64 a, .int .i64 b, .int .i64 c, .string d, .string e] := rfl

theorem field_op (a b c : Int) (d e : ByteArray) (w : World) : (Instr.field 67 (.agg #[.int .i64 a, .int .i64 b, .int .i64 c, .string d, .string e]) 0).run Try.prog w = .ok (.int .i64 a) w := by kernel_rfl

set_option maxRecDepth 100000 in
set_option maxHeartbeats 400000 in
theorem isKey_any (s : ByteArray) (w : World) (hm : s.size ≤ maxLen) :
    Calls Try.prog 49 #[.string s] w fun e w' => e = .returned (.bool (decide (mOp s = 3))) ∧ Below w.heap.size w w' := by
  have M := hide hm
  clear hm
  go_enter Try.func49, Try.ntmps49
  go_wp2_with fail
  refine (iSecMade_any s _ M.out).mono ?_
  rw [how_field]
  rintro e w1 ⟨rfl, hb1⟩
  have hfl := field_op
  go_wp2_with fail
  go_ret
  refine ⟨ret_bool' ?_, hb1⟩
  rw [Bool.eq_iff_iff]
  simp

set_option maxRecDepth 100000 in
set_option maxHeartbeats 2000000 in
theorem iTreOk_any (v : Value) (xs : List ByteArray) (w : World) (h : SRow w v xs) (hx : ∀ x ∈ xs, x.size ≤ maxLen) :
    Calls Try.prog 20 #[.agg #[v]] w fun e w' => e = .returned (.bool (treOk xs)) ∧ Below w.heap.size w w' := by
  obtain ⟨ao, cap, rfl, h1, h2, _⟩ := h.form
  have HX := hide hx
  have hR : Hid (SRow (w.alloc (.cells #[.slice ao xs.length cap] 25)) (.slice ao xs.length cap) xs) := h.below ((Below.refl _ _).alloc (Nat.le_refl _) _)
  have hW : Hid (Below w.heap.size w (w.alloc (.cells #[.slice ao xs.length cap] 25))) := (Below.refl _ _).alloc (Nat.le_refl _) _
  unfold maxLen at h2
  clear h hx
  by_cases hl : xs.length = 15
  · rw [hl] at hR hW h1 ⊢
    have HL := hide hl
    clear hl
    go_enter Try.func20, Try.ntmps20
    go_wp2_with fail
    go_loopw [12] (fun i wr => ∃ k : Nat, k ≤ 15 ∧ i = .int .i64 (k : Int) ∧ Hid (∀ j, j < k → keyOk (xs.getD j ByteArray.empty) = true) ∧ Hid (Below (w.heap.size + 1) (w.alloc (.cells #[.slice ao 15 cap] 25)) wr)) (fun i _ => 15 - (intOf i).toNat)
    case atStart => exact ⟨0, by omega, rfl, fun j hj => by omega, Below.refl _ _⟩
    case round =>
      obtain ⟨k, hk, rfl, hN, hL⟩ := hrel
      have hle := hL.out.size
      rw [World.size_alloc] at hle
      by_cases hlt : k < 15
      · have hlt2 : (k : Int) < 15 := by omega
        have i3 : IntKind.i64.wrap ((k : Int) + 1) = (k : Int) + 1 := by simp [IntKind.wrap, IntKind.bits, IntKind.signed]; omega
        obtain ⟨ao', c1, q1, _, _, q2⟩ := (SRow.below (unhide hR) (by rw [World.size_alloc]; exact unhide hL)).form
        rw [HL.out] at q1 q2
        simp only [Value.slice.injEq] at q1
        obtain ⟨rfl, _, rfl⟩ := q1
        obtain ⟨a, rfl, hck⟩ := q2 k hlt
        clear q2
        have hsz : Hid ((xs.getD k ByteArray.empty).size ≤ maxLen) := HX.out _ (getD_mem (by have := HL.out; omega))
        have hYes : Hid (keyOk (xs.getD k ByteArray.empty) = true → ∀ j, j < k + 1 → keyOk (xs.getD j ByteArray.empty) = true) := by
          intro ht j hj
          by_cases hjk : j = k
          · subst hjk; exact ht
          · exact hN j (by omega)
        have hNo : Hid (keyOk (xs.getD k ByteArray.empty) = false → treOk xs = false) := treOk_bad (by have := HL.out; omega)
        have hKO := hide (keyOk_op (xs.getD k ByteArray.empty))
        generalize xs.getD k ByteArray.empty = y at hck hsz hYes hNo hKO
        by_cases hy : y = ByteArray.empty
        · have hN1 := hide (hYes.out (by rw [hKO.out]; simp [hy]))
          have hne : y.toList = [] := by rw [hy]; exact nil_text
          have hne2 : y.toList.isEmpty = true := by rw [hne]; rfl
          clear hy hYes hNo hKO
          go_wp2_with fail
          go_roundw
          case rel => exact ⟨k + 1, by omega, by simp, hN1, hL⟩
          case measure => simp [intOf]; omega
        · have hne : ¬ y.toList = [] := no_text hy
          have hne2 : y.toList.isEmpty = false := by simpa using hne
          have HY := hide hy
          clear hy
          go_wp2_with fail
          refine (isKey_any y _ hsz.out).mono ?_
          cases hd : decide (mOp y = 3) with
          | true =>
            rintro e w1 ⟨rfl, hb1⟩
            have hN1 := hide (hYes.out (by rw [hKO.out, hd]; simp))
            have hL1 := hide ((unhide hL).trans (hb1.mono hle))
            clear hd hb1 hL hYes hNo hKO
            go_wp2_with fail
            go_roundw
            case rel => exact ⟨k + 1, by omega, by simp, hN1, hL1⟩
            case measure => simp [intOf]; omega
          | false =>
            rintro e w1 ⟨rfl, hb1⟩
            have hF := hide (hNo.out (by rw [hKO.out, hd]; simpa using HY.out))
            have hL1 := hide ((unhide hL).trans (hb1.mono hle))
            clear hd hb1 hL hYes hNo hKO
            go_wp2_with fail
            go_ret
            exact ⟨ret_bool' hF.out.symm, (unhide hW).trans ((unhide hL1).mono (by omega))⟩
      · have hlt2 : decide ((k : Int) < 15) = false := by simp; omega
        have hF : Hid (treOk xs = true) := treOk_good HL.out (fun j hj => hN j (by omega))
        go_wp2_with fail
        go_ret
        exact ⟨ret_bool' hF.out.symm, (unhide hW).trans ((unhide hL).mono (by omega))⟩
  · have hl2 : ((xs.length : Int) == 15) = false := by simp; omega
    have hF : Hid (treOk xs = false) := treOk_short hl
    clear hl
    go_enter Try.func20, Try.ntmps20
    go_wp2_with fail
    go_ret
    exact ⟨ret_bool' hF.out.symm, unhide hW⟩

set_option maxRecDepth 100000 in
set_option maxHeartbeats 2000000 in
theorem sTreOk_any (v : Value) (xs : List ByteArray) (w : World) (h : SRow w v xs) (hx : ∀ x ∈ xs, x.size ≤ maxLen) :
    Calls Try.prog 25 #[.agg #[v]] w fun e w' => e = .returned (.bool (treOk xs)) ∧ Below w.heap.size w w' := by
  obtain ⟨ao, cap, rfl, h1, h2, _⟩ := h.form
  have HX := hide hx
  have hR : Hid (SRow (w.alloc (.cells #[.slice ao xs.length cap] 25)) (.slice ao xs.length cap) xs) := h.below ((Below.refl _ _).alloc (Nat.le_refl _) _)
  have hW : Hid (Below w.heap.size w (w.alloc (.cells #[.slice ao xs.length cap] 25))) := (Below.refl _ _).alloc (Nat.le_refl _) _
  have hbx : Hid ((w.alloc (.cells #[.slice ao xs.length cap] 25)).cell? ⟨w.heap.size, 0, none⟩ = some (.slice ao xs.length cap)) := by show _ = _; simp [go_sem]
  unfold maxLen at h2
  clear h hx
  by_cases hl : xs.length = 15
  · rw [hl] at hR hW h1 hbx ⊢
    have HL := hide hl
    clear hl
    go_enter Try.func25, Try.ntmps25
    go_wp2_with fail
    go_loopw [3] (fun i wr => ∃ k : Nat, k ≤ 15 ∧ i = .int .i64 (k : Int) ∧ Hid (∀ j, j < k → keyOk (xs.getD j ByteArray.empty) = true) ∧ Hid (Below (w.heap.size + 1) (w.alloc (.cells #[.slice ao 15 cap] 25)) wr)) (fun i _ => 15 - (intOf i).toNat)
    case atStart => exact ⟨0, by omega, rfl, fun j hj => by omega, Below.refl _ _⟩
    case round =>
      obtain ⟨k, hk, rfl, hN, hL⟩ := hrel
      have hle := hL.out.size
      rw [World.size_alloc] at hle
      have hb0 : wr.cell? ⟨w.heap.size, 0, none⟩ = some (.slice ao 15 cap) := ((unhide hL).cell (p := ⟨w.heap.size, 0, none⟩) (by simp)).trans hbx.out
      by_cases hlt : k < 15
      · have hlt2 : (k : Int) < 15 := by omega
        have i3 : IntKind.i64.wrap ((k : Int) + 1) = (k : Int) + 1 := by simp [IntKind.wrap, IntKind.bits, IntKind.signed]; omega
        obtain ⟨ao', c1, q1, _, _, q2⟩ := (SRow.below (unhide hR) (by rw [World.size_alloc]; exact unhide hL)).form
        rw [HL.out] at q1 q2
        simp only [Value.slice.injEq] at q1
        obtain ⟨rfl, _, rfl⟩ := q1
        obtain ⟨a, rfl, hck⟩ := q2 k hlt
        clear q2
        have hsz : Hid ((xs.getD k ByteArray.empty).size ≤ maxLen) := HX.out _ (getD_mem (by have := HL.out; omega))
        have hYes : Hid (keyOk (xs.getD k ByteArray.empty) = true → ∀ j, j < k + 1 → keyOk (xs.getD j ByteArray.empty) = true) := by
          intro ht j hj
          by_cases hjk : j = k
          · subst hjk; exact ht
          · exact hN j (by omega)
        have hNo : Hid (keyOk (xs.getD k ByteArray.empty) = false → treOk xs = false) := treOk_bad (by have := HL.out; omega)
        have hKO := hide (keyOk_op (xs.getD k ByteArray.empty))
        have hKD : Hid (keyOk (xs.getD k ByteArray.empty) = (decide (xs.getD k ByteArray.empty = ByteArray.empty) || (Kw.ok (xs.getD k ByteArray.empty) && decide (mOp (xs.getD k ByteArray.empty) = 3)))) := rfl
        generalize xs.getD k ByteArray.empty = y at hck hsz hYes hNo hKO hKD
        by_cases hy : y = ByteArray.empty
        · have hN1 := hide (hYes.out (by rw [hKO.out]; simp [hy]))
          have hne : y.toList = [] := by rw [hy]; exact nil_text
          have hne2 : y.toList.isEmpty = true := by rw [hne]; rfl
          clear hy hYes hNo hKO hKD
          go_wp2_with fail
          go_roundw
          case rel => exact ⟨k + 1, by omega, by simp, hN1, hL⟩
          case measure => simp [intOf]; omega
        · have hne : ¬ y.toList = [] := no_text hy
          have hne2 : y.toList.isEmpty = false := by simpa using hne
          have HY := hide hy
          clear hy
          go_wp2_with fail
          refine (sSecOk_any y _ hsz.out).mono ?_
          cases hd : Kw.ok y with
          | false =>
            rintro e w1 ⟨rfl, hb1⟩
            have hF := hide (hNo.out (by rw [hKD.out, hd]; simpa using HY.out))
            have hL1 := hide ((unhide hL).trans (hb1.mono hle))
            clear hd hb1 hL hYes hNo hKO hKD hb0 hck
            go_wp2_with fail
            go_ret
            exact ⟨ret_bool' hF.out.symm, (unhide hW).trans ((unhide hL1).mono (by omega))⟩
          | true =>
            rintro e w1 ⟨rfl, hb1⟩
            have HD := hide hd
            have hL1 := hide ((unhide hL).trans (hb1.mono hle))
            have hle1 := Nat.le_trans hle hb1.size
            have hb2 := (hb1.cell (p := ⟨w.heap.size, 0, none⟩) (by show w.heap.size < _; omega)).trans hb0
            have hck2 := (hb1.cell (cell_lt hck)).trans hck
            clear hd hb1 hL hb0 hck
            go_wp2_with fail
            refine (l1How_any y _ HD.out).mono ?_
            rw [how_field]
            rintro e w2 ⟨rfl, hb3⟩
            have hL2 := hide ((unhide hL1).trans (hb3.mono hle1))
            have hKD2 : Hid (keyOk y = decide (mOp y = 3)) := by show _ = _; rw [hKO.out]; simp [HY.out]
            clear hb3 hL1 hb2 hck2 hKO hKD
            generalize mOp y = z at hKD2
            have hfl := field_op
            by_cases hz : z = 3
            · have hN1 := hide (hYes.out (by rw [hKD2.out]; simpa using hz))
              subst hz
              clear hYes hNo hKD2
              go_wp2_with fail
              go_roundw
              case rel => exact ⟨k + 1, by omega, by simp, hN1, hL2⟩
              case measure => simp [intOf]; omega
            · have hF := hide (hNo.out (by rw [hKD2.out]; simpa using hz))
              have hz2 : (z != 3) = true := by simpa using hz
              have hz3 : (z == 3) = false := by simpa using hz
              clear hYes hNo hKD2
              go_wp2_with fail
              go_ret
              exact ⟨ret_bool' hF.out.symm, (unhide hW).trans ((unhide hL2).mono (by omega))⟩
      · have hlt2 : decide ((k : Int) < 15) = false := by simp; omega
        have hF : Hid (treOk xs = true) := treOk_good HL.out (fun j hj => hN j (by omega))
        go_wp2_with fail
        go_ret
        exact ⟨ret_bool' hF.out.symm, (unhide hW).trans ((unhide hL).mono (by omega))⟩
  · have hl2 : ((xs.length : Int) == 15) = false := by simp; omega
    have hF : Hid (treOk xs = false) := treOk_short hl
    clear hl
    go_enter Try.func25, Try.ntmps25
    go_wp2_with fail
    go_ret
    exact ⟨ret_bool' hF.out.symm, unhide hW⟩
#print axioms sTreOk_any
end Go.Proofs.Ytjijfcollmjljaa
/-
  Slices of the call's own, their rows between two numbers. No Go function in it.
-/
namespace Go.Proofs.Ytjijfcollmjljaa
open Go.RowKit

/-- A slice of the call's own, its row between two numbers. -/
def RowIn (lo hi : Nat) (e : TypeId) (size : Nat) (w : World) (v : Value) (n : Nat) (xs : List Value) : Prop := w.ownsRow lo e size v n xs ∧ ∀ g, v.ownBlock = some g → g < hi
theorem RowIn.of {lo : Nat} {e : TypeId} {size : Nat} {w : World} {v : Value} {n : Nat} {xs : List Value} (h : w.ownsRow lo e size v n xs) : RowIn lo w.heap.size e size w v n xs := ⟨h, fun g hg => (h.lt g hg).2⟩
theorem RowIn.below {lo hi : Nat} {e : TypeId} {size : Nat} {w w' : World} {v : Value} {n : Nat} {xs : List Value} (h : RowIn lo hi e size w v n xs) (hb : Below w.heap.size w w') : RowIn lo hi e size w' v n xs := ⟨own_below' h.1 hb, h.2⟩
theorem RowIn.grown {lo hi : Nat} {e : TypeId} {size : Nat} {w w' : World} {v : Value} {n : Nat} {xs : List Value} {r : Option Nat} (h : RowIn lo hi e size w v n xs) (hg : w.grownBy w' r) (hr : ∀ k, r = some k → k < lo ∨ hi ≤ k) : RowIn lo hi e size w' v n xs := by
  refine ⟨h.1.kept hg ?_, h.2⟩
  cases hv : v.ownBlock with
  | none => exact .inl rfl
  | some g =>
    right
    intro e'
    have h1 := (h.1.lt g hv).1
    have h2 := h.2 g hv
    have := hr g e'.symm
    omega
theorem RowIn.out {lo hi : Nat} {e : TypeId} {size : Nat} {w : World} {v : Value} {n : Nat} {xs : List Value} (h : RowIn lo hi e size w v n xs) : ∀ k, v.ownBlock = some k → lo ≤ k ∧ k < hi := fun k hk => ⟨(h.1.lt k hk).1, h.2 k hk⟩
/-- Texts, so. -/
def TIn (lo hi : Nat) (w : World) (v : Value) (xs : List ByteArray) : Prop := RowIn lo hi 9 1 w v xs.length (xs.map Value.string)
theorem TIn.srow {lo hi : Nat} {w : World} {v : Value} {xs : List ByteArray} (h : TIn lo hi w v xs) : SRow w v xs := own_srow h.1
theorem TIn.below {lo hi : Nat} {w w' : World} {v : Value} {xs : List ByteArray} (h : TIn lo hi w v xs) (hb : Below w.heap.size w w') : TIn lo hi w' v xs := RowIn.below h hb
theorem TIn.grown {lo hi : Nat} {w w' : World} {v : Value} {xs : List ByteArray} {r : Option Nat} (h : TIn lo hi w v xs) (hg : w.grownBy w' r) (hr : ∀ k, r = some k → k < lo ∨ hi ≤ k) : TIn lo hi w' v xs := RowIn.grown h hg hr
end Go.Proofs.Ytjijfcollmjljaa
/-
  Variables in blocks of their own, beside rows. No Go function in it.
-/
namespace Go.Proofs.Ytjijfcollmjljaa
open Go.RowKit

theorem box_below {w w' : World} {b : Nat} {t : TypeId} {v : Value} (h : Boxed w b t v) (hb : Below w.heap.size w w') : Boxed w' b t v := (hb.block b h.lt).trans h
theorem box_below0 {w w' : World} {b B : Nat} {t : TypeId} {v : Value} (h : Boxed w b t v) (hb : Below B w w') (hlt : b < B) : Boxed w' b t v := (hb.block b hlt).trans h
/-- A row is not a variable's block: what is stored there leaves it. -/
theorem row_box {B : Nat} {w : World} {e t : TypeId} {size n b : Nat} {v u : Value} {xs : List Value} (h : w.ownsRow B e size v n xs) (hx : Boxed w b t u) (hte : t ≠ e) (x : Value) : (w.setCell ⟨b, 0, none⟩ x).ownsRow B e size v n xs :=
  h.kept (grownBy_setCell' w b x) (.inr (hx.not_row hte h).symm)
/-- A store into a variable's block leaves what lies below. -/
theorem below_box {B : Nat} {w w' : World} {b : Nat} (h : Below B w w') (hb : B ≤ b) (x : Value) : Below B w (w'.setCell ⟨b, 0, none⟩ x) := h.setCell (p := ⟨b, 0, none⟩) hb x
/-- A row that grows or turns leaves a variable's block of another type. -/
theorem box_grown {B : Nat} {w w' : World} {e t : TypeId} {size n b : Nat} {v u : Value} {xs : List Value} (hx : Boxed w b t u) (h : w.ownsRow B e size v n xs) (hte : t ≠ e) (hg : w.grownBy w' v.ownBlock) : Boxed w' b t u := hx.kept hg (hx.not_row hte h)
theorem row_lowB {B B' : Nat} {w : World} {e : TypeId} {size : Nat} {v : Value} {n : Nat} {xs : List Value} (h : w.ownsRow B e size v n xs) (hB : B' ≤ B) : w.ownsRow B' e size v n xs := by
  refine ⟨h.1, h.2.imp id ?_⟩
  rintro ⟨g, cap, cur, h1, h2, h3⟩
  exact ⟨g, cap, cur, h1, by omega, h3⟩
end Go.Proofs.Ytjijfcollmjljaa
/-
  What TreClear and TreSet answer, plain; stores into rows of texts. No Go function in it.
-/
namespace Go.Proofs.Ytjijfcollmjljaa
open Go.RowKit Kw

theorem keyOk_small {x : ByteArray} (h : keyOk x = true) : x.size ≤ 300 := by
  unfold keyOk at h
  by_cases he : x = ByteArray.empty
  · subst he; show (0 : Nat) ≤ 300; omega
  · simp [he] at h
    exact (ok_facts h.1).1
theorem treOk_small {xs : List ByteArray} (h : treOk xs = true) : ∀ x ∈ xs, x.size ≤ 300 := by
  intro x hx
  obtain ⟨k, hk, rfl⟩ := mem_getD hx
  exact keyOk_small ((treOk_iff.1 h).2 k hk)
/-- What TreClear answers. -/
def clrRes (xs : List ByteArray) (p : Int) : List ByteArray := if treOk xs = true ∧ 0 ≤ p ∧ p ≤ 7 then clearOf xs p.toNat else []
theorem clearOf_len (xs : List ByteArray) (k : Nat) : (clearOf xs k).length = xs.length := wipe_len _ _
theorem clrRes_len (xs : List ByteArray) (p : Int) : (clrRes xs p).length ≤ 15 := by
  unfold clrRes
  split
  · next h => rw [clearOf_len, (treOk_iff.1 h.1).1]; omega
  · simp
theorem clrRes_no {xs : List ByteArray} {p : Int} (h : ¬ (treOk xs = true ∧ 0 ≤ p ∧ p ≤ 7)) : clrRes xs p = [] := by unfold clrRes; rw [if_neg h]
theorem clrRes_yes {xs : List ByteArray} {k : Nat} (h : treOk xs = true) (hk : k < 8) : clrRes xs (k : Int) = clearOf xs k := by unfold clrRes; rw [if_pos ⟨h, by omega, by omega⟩]; rfl
theorem clear_small {xs : List ByteArray} {M : Nat} (h : ∀ x ∈ xs, x.size ≤ M) (k : Nat) : ∀ x ∈ clearOf xs k, x.size ≤ M := by
  intro x hx
  obtain ⟨j, hj, rfl⟩ := mem_getD hx
  unfold clearOf
  rw [wipe_at]
  split
  · show (0 : Nat) ≤ M; omega
  · rw [clearOf_len] at hj
    exact h _ (getD_mem hj)
theorem wipe_snoc (xs : List ByteArray) (ps : List Nat) (p : Nat) : wipe xs (ps ++ [p]) = (wipe xs ps).set p ByteArray.empty := by unfold wipe; rw [List.foldl_append]; rfl

/-- A row of fifteen texts, written out. -/
theorem row15 {B : Nat} {w : World} {v : Value} {zs : List Value} (h : w.ownsRow B 9 1 v 15 zs) : ∃ g cap, v = .slice (some ⟨g, 0, none⟩) 15 cap ∧ B ≤ g ∧ g < w.heap.size ∧ 15 ≤ cap ∧ cap ≤ maxLen := by
  have hh := h
  rcases h.2 with ⟨_, q⟩ | ⟨g, cap, cur, rfl, h1, h2, h3, h4, h5, h6⟩
  · omega
  · exact ⟨g, cap, rfl, h1, (hh.lt g rfl).2, h3, h4⟩
/-- What a store at a place of it wants, and leaves. -/
theorem row15_set {B : Nat} {w : World} {g cap : Nat} {xs : List ByteArray} (hl : xs.length = 15) (h : w.ownsRow B 9 1 (.slice (some ⟨g, 0, none⟩) 15 cap) 15 (xs.map Value.string)) (j : Nat) (hj : j < 15) (y : ByteArray) :
    w.cell? ⟨g, j, none⟩ = some (.string (xs.getD j ByteArray.empty)) ∧ w.frozen? ⟨g, j, none⟩ = false ∧ (w.setCell ⟨g, j, none⟩ (.string y)).ownsRow B 9 1 (.slice (some ⟨g, 0, none⟩) 15 cap) 15 ((xs.set j y).map Value.string) ∧ w.grownBy (w.setCell ⟨g, j, none⟩ (.string y)) (some g) := by
  refine ⟨?_, h.frozenAt j, ?_⟩
  · rw [h.cellAt j (by omega), List.getElem?_map, List.getElem?_eq_getElem (by omega), List.getD_eq_getElem?_getD, List.getElem?_eq_getElem (by omega)]; rfl
  · obtain ⟨s1, s2⟩ := h.stored j (.string y)
    rw [List.map_set]
    exact ⟨s1, s2⟩
theorem grown_drew {w w' : World} {r : Option Nat} (h : w.grownBy w' r) : w.grownBy w'.drew r := ⟨h.os, h.tape, h.output, h.size, h.block⟩
theorem grown_below0 {wr u u' : World} {r : Option Nat} (h : wr.grownBy u r) (hb : Below u.heap.size u u') : wr.grownBy u' r :=
  ⟨hb.os.trans h.os, hb.tape.trans h.tape, hb.output.trans h.output, Nat.le_trans h.size hb.size, fun k hk hr => (hb.block k (Nat.lt_of_lt_of_le hk h.size)).trans (h.block k hk hr)⟩
end Go.Proofs.Ytjijfcollmjljaa
