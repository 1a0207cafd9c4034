/-
  Plain mathematics: what is made from names tells how it was made.
-/
import Derived.Test.YtkcopldlobomhaaMadeI
import Derived.Test.YtkcopldlobomhaaRemake
namespace Go.Proofs.Ytkcopldlobomhaa
open Kw

theorem ext_back (x y : ByteArray) : (x ++ y).extract x.size (x ++ y).size = y := by
  refine ext_g (by simp [ByteArray.size_extract, ByteArray.size_append]) ?_
  intro i hi
  have hi' : i < y.size := by simp [ByteArray.size_extract, ByteArray.size_append] at hi; omega
  rw [g_extract _ _ _ i (Nat.le_refl _) (by rw [ByteArray.size_append]; omega), g_shift]

theorem ext_front (x y : ByteArray) (a b : Nat) (hb : b ≤ x.size) : (x ++ y).extract a b = x.extract a b := by
  refine ext_g (by simp [ByteArray.size_extract, ByteArray.size_append]; omega) ?_
  intro i hi
  have hi' : a + i < b := by simp [ByteArray.size_extract, ByteArray.size_append] at hi; omega
  rw [g_extract _ _ _ i (by rw [ByteArray.size_append]; omega) hi', g_extract _ _ _ i hb hi', g_front y (by omega)]

/-- All that tells how a secret was made. -/
def Tells (s : ByteArray) (op who n : Int) (a b : ByteArray) : Prop := ok s = true ∧ mOp s = op ∧ mWho s = who ∧ mN s = n ∧ mA s = a ∧ mB s = b

theorem g0_next (s : ByteArray) : g (nextT s) 0 = 110 := by unfold nextT; rw [g_append]; rfl
theorem g0_key (s : ByteArray) : g (keyT s) 0 = 107 := by unfold keyT; rw [g_append]; rfl

theorem made_next {s : ByteArray} (h : ok s = true) (hs : s.size < 300) : Tells (nextT s) 2 0 0 s ⟨#[]⟩ := by
  have z := next_size s
  have hk : ok (nextT s) = true := ok_yes (by omega) (by rw [len_next h]; omega) (len_next h)
  have c := g0_next s
  have e : (nextT s).extract 1 (nextT s).size = s := ext_back ⟨#[110]⟩ s
  unfold Tells mOp mWho mN mA mB
  simp only [if_pos hk, if_pos c, e]
  exact ⟨hk, trivial, trivial, trivial, trivial, trivial⟩
theorem made_key {s : ByteArray} (h : ok s = true) (hs : s.size < 300) : Tells (keyT s) 3 0 0 s ⟨#[]⟩ := by
  have z := key_size s
  have hk : ok (keyT s) = true := ok_yes (by omega) (by rw [len_key h]; omega) (len_key h)
  have c := g0_key s
  have c1 : g (keyT s) 0 ≠ 110 := by omega
  have e : (keyT s).extract 1 (keyT s).size = s := ext_back ⟨#[107]⟩ s
  unfold Tells mOp mWho mN mA mB
  simp only [if_pos hk, if_neg c1, if_pos c, e]
  exact ⟨hk, trivial, trivial, trivial, trivial, trivial⟩
theorem made_epoch {a b : ByteArray} (ha : ok a = true) (hb : ok b = true) (hs : a.size + b.size < 300) : Tells (epochT a b) 4 0 0 a b := by
  obtain ⟨p1, p2, p3, c⟩ := epoch_parts ha hb
  obtain ⟨_, a2, _⟩ := ok_facts ha
  have hk : ok (epochT a b) = true := ok_yes (by omega) (by rw [len_epoch ha hb]; omega) (len_epoch ha hb)
  have c1 : g (epochT a b) 0 ≠ 110 := by omega
  have c2 : g (epochT a b) 0 ≠ 107 := by omega
  have z : (⟨#[101]⟩ ++ a : ByteArray).size = 1 + a.size := by simp [ByteArray.size_append]; rfl
  have e1 : (epochT a b).extract 1 (1 + a.size) = a := by
    have e := ext_front (⟨#[101]⟩ ++ a) b 1 (1 + a.size) (by omega)
    have e' := ext_back ⟨#[101]⟩ a
    rw [z] at e'
    exact e.trans e'
  have e2 : (epochT a b).extract (1 + a.size) (epochT a b).size = b := by
    have e := ext_back (⟨#[101]⟩ ++ a) b
    rw [z] at e
    exact e
  unfold Tells mOp mWho mN mA mB
  simp only [if_pos hk, if_neg c1, if_neg c2, if_pos c, p1, e1, e2]
  exact ⟨hk, trivial, trivial, trivial, trivial, trivial⟩
theorem made_say {s : ByteArray} {who : Nat} (h : ok s = true) (hw : who < 8) (hs : 2 + s.size ≤ 300) : Tells (sayT s who) 5 (who : Int) 0 s ⟨#[]⟩ := by
  obtain ⟨p1, p2, c, p4⟩ := say_parts h hw
  have hk : ok (sayT s who) = true := ok_yes (by omega) (by rw [len_say h hw]; omega) (len_say h hw)
  have c1 : g (sayT s who) 0 ≠ 110 := by omega
  have c2 : g (sayT s who) 0 ≠ 107 := by omega
  have c3 : g (sayT s who) 0 ≠ 101 := by omega
  have z : (⟨#[109]⟩ ++ by1 (65 + who) : ByteArray).size = 2 := by simp [ByteArray.size_append, by1_size]; rfl
  have e : (sayT s who).extract 2 (sayT s who).size = s := by
    have e := ext_back (⟨#[109]⟩ ++ by1 (65 + who)) s
    rw [z] at e
    exact e
  unfold Tells mOp mWho mN mA mB
  simp only [if_pos hk, if_neg c1, if_neg c2, if_neg c3, if_pos c, p4, e]
  exact ⟨hk, trivial, by omega, trivial, trivial, trivial⟩
theorem made_room {s : ByteArray} {room : Nat} (h : ok s = true) (h1 : 1 ≤ room) (hw : room < 10) (hs : 2 + s.size ≤ 300) : Tells (roomT s room) 6 0 (room : Int) s ⟨#[]⟩ := by
  obtain ⟨p1, p2, c, p4⟩ := room_parts h hw
  have hk : ok (roomT s room) = true := ok_yes (by omega) (by rw [len_room h h1 hw]; omega) (len_room h h1 hw)
  have c1 : g (roomT s room) 0 ≠ 110 := by omega
  have c2 : g (roomT s room) 0 ≠ 107 := by omega
  have c3 : g (roomT s room) 0 ≠ 101 := by omega
  have c4 : g (roomT s room) 0 ≠ 109 := by omega
  have z : (⟨#[114]⟩ ++ dec room : ByteArray).size = 2 := by rw [ByteArray.size_append, dec_size, if_pos hw]; rfl
  have e : (roomT s room).extract 2 (roomT s room).size = s := by
    have e := ext_back (⟨#[114]⟩ ++ dec room) s
    rw [z] at e
    exact e
  unfold Tells mOp mWho mN mA mB
  simp only [if_pos hk, if_neg c1, if_neg c2, if_neg c3, if_neg c4, if_pos c, p4, e]
  exact ⟨hk, trivial, trivial, by omega, trivial, trivial⟩

theorem next_inj {s t : ByteArray} (h : nextT s = nextT t) : s = t := by
  have e := ext_back ⟨#[110]⟩ s
  have e' := ext_back ⟨#[110]⟩ t
  have h' : (⟨#[110]⟩ ++ s : ByteArray) = ⟨#[110]⟩ ++ t := h
  rw [h'] at e
  exact e.symm.trans e'
theorem next_key (s : ByteArray) (t : ByteArray) : nextT s ≠ keyT t := by
  intro h
  have h1 := g0_next s
  rw [h, g0_key t] at h1
  omega

theorem epoch_bad {a b : ByteArray} (h : ok a = false ∨ ok b = false ∨ 300 ≤ a.size + b.size) : mkEpoch a b = ⟨#[]⟩ := by
  unfold mkEpoch
  by_cases hc : ok a = true ∧ ok b = true
  · rw [if_pos hc]
    unfold cap
    have := epoch_size a b
    rw [if_neg]
    rcases h with h | h | h
    · rw [hc.1] at h; cases h
    · rw [hc.2] at h; cases h
    · omega
  · rw [if_neg hc]
theorem epoch_good {a b : ByteArray} (ha : ok a = true) (hb : ok b = true) (hs : a.size + b.size < 300) : mkEpoch a b = epochT a b := by
  unfold mkEpoch
  have := epoch_size a b
  rw [if_pos ⟨ha, hb⟩, cap_self (made_epoch ha hb hs).1]
theorem epoch_swap {a b : ByteArray} (ha : ok a = true) (hb : ok b = true) (hs : a.size + b.size < 300) : (mkEpoch b a = epochT a b) ↔ a = b := by
  rw [epoch_good hb ha (by omega)]
  constructor
  · intro h
    have h1 := (made_epoch ha hb hs).2.2.2.2.1
    rw [← h, (made_epoch hb ha (by omega)).2.2.2.2.1] at h1
    exact h1.symm
  · intro h; subst h; rfl

theorem beq_list {x y : ByteArray} : (x.toList == y.toList) = true ↔ x = y := by
  constructor
  · intro h
    have h1 : x.toList = y.toList := by simpa using h
    have h2 := congrArg (fun l => (⟨l.toArray⟩ : ByteArray)) h1
    exact ByteArray.ext (by simpa [ByteArray.toList_eq] using h2)
  · intro h; subst h; simp
theorem beq_beq {x y u v : ByteArray} (h : x = y ↔ u = v) : ((x.toList == y.toList) == (u.toList == v.toList)) = true := by
  have : (x.toList == y.toList) = (u.toList == v.toList) := by
    rw [Bool.eq_iff_iff, beq_list, beq_list]; exact h
  rw [this]; simp

#print axioms made_epoch
#print axioms epoch_swap
end Go.Proofs.Ytkcopldlobomhaa
