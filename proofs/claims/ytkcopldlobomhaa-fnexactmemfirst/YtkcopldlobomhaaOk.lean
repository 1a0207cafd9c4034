/-
  Plain mathematics: which texts are names, and what is made from names. Nothing of the program is in it.
-/
import Derived.Test.YtkcopldlobomhaaBytes
namespace Go.Proofs.Ytkcopldlobomhaa
open Kw

theorem empty_of {s : ByteArray} (h : s.size = 0) : s = ⟨#[]⟩ := ByteArray.ext (Array.eq_empty_of_size_eq_zero h)
theorem ok_empty : ok ⟨#[]⟩ = false := by decide +kernel
theorem ok_long {s : ByteArray} (h : 300 < s.size) : ok s = false := by
  unfold ok; rw [show decide (s.size ≤ 300) = false by simp; omega]; rfl
theorem ok_none {s : ByteArray} (h : len s 0 = 0) : ok s = false := by
  unfold ok; rw [h]
  by_cases hs : s.size = 0
  · simp [hs]
  · have : (0 == s.size) = false := by simp; omega
    simp [this]
theorem ok_part {s : ByteArray} (h : len s 0 ≠ s.size) : ok s = false := by
  unfold ok; rw [show (len s 0 == s.size) = false by simpa using h]; simp
theorem ok_yes {s : ByteArray} (h0 : s.size ≤ 300) (h1 : len s 0 ≠ 0) (h : len s 0 = s.size) : ok s = true := by
  unfold ok; rw [show decide (s.size ≤ 300) = true by simpa using h0, show (len s 0 == s.size) = true by simpa using h, show (s.size == 0) = false by rw [← h]; simpa using h1]; rfl
theorem ok_eq {s : ByteArray} (h : s.size ≤ 300) (h0 : s.size ≠ 0) : ok s = ((len s 0 : Int) == (s.size : Int)) := by
  unfold ok
  rw [show decide (s.size ≤ 300) = true by simpa using h, show (s.size == 0) = false by simpa using h0]
  rw [Bool.eq_iff_iff]; simp; omega
theorem ok_facts {s : ByteArray} (h : ok s = true) : s.size ≤ 300 ∧ s.size ≠ 0 ∧ len s 0 = s.size := by
  unfold ok at h
  simp at h
  obtain ⟨h1, h2, h3⟩ := h
  exact ⟨h1, fun e => h2 (by rw [empty_of e]; rfl), h3⟩

/-- A text that is short enough for a name; else none. -/
def cap (x : ByteArray) : ByteArray := if x.size ≤ 300 then x else ⟨#[]⟩
/-- A text that is a name; else none. -/
def only (x : ByteArray) : ByteArray := if ok x = true then x else ⟨#[]⟩

theorem only_cap {x : ByteArray} (h0 : x.size ≠ 0) (h : len x 0 = x.size) : only x = cap x := by
  unfold only cap
  by_cases hs : x.size ≤ 300
  · rw [if_pos (ok_yes hs (by omega) h), if_pos hs]
  · rw [if_neg (by rw [ok_long (by omega)]; simp), if_neg hs]

def nextT (s : ByteArray) : ByteArray := ⟨#[110]⟩ ++ s
def keyT (s : ByteArray) : ByteArray := ⟨#[107]⟩ ++ s
def epochT (a b : ByteArray) : ByteArray := ⟨#[101]⟩ ++ a ++ b
def sayT (s : ByteArray) (who : Nat) : ByteArray := ⟨#[109]⟩ ++ by1 (65 + who) ++ s
def roomT (s : ByteArray) (room : Nat) : ByteArray := ⟨#[114]⟩ ++ dec room ++ s

theorem len_next {s : ByteArray} (h : ok s = true) : len (nextT s) 0 = (nextT s).size := by
  obtain ⟨_, h2, h3⟩ := ok_facts h
  have e : len (nextT s) 1 = len s 0 := len_shift ⟨#[110]⟩ s 0
  have z : (nextT s).size = 1 + s.size := by unfold nextT; simp [ByteArray.size_append]; rfl
  rw [len_nk (.inl (by unfold nextT; rw [g_append]; rfl)), e, h3, more_pos h2, z]
theorem len_key {s : ByteArray} (h : ok s = true) : len (keyT s) 0 = (keyT s).size := by
  obtain ⟨_, h2, h3⟩ := ok_facts h
  have e : len (keyT s) 1 = len s 0 := len_shift ⟨#[107]⟩ s 0
  have z : (keyT s).size = 1 + s.size := by unfold keyT; simp [ByteArray.size_append]; rfl
  rw [len_nk (.inr (by unfold keyT; rw [g_append]; rfl)), e, h3, more_pos h2, z]
theorem epoch_parts {a b : ByteArray} (ha : ok a = true) (hb : ok b = true) : len (epochT a b) 1 = a.size ∧ len (epochT a b) (1 + a.size) = b.size ∧ (epochT a b).size = 1 + a.size + b.size ∧ g (epochT a b) 0 = 101 := by
  obtain ⟨_, a2, a3⟩ := ok_facts ha
  obtain ⟨_, b2, b3⟩ := ok_facts hb
  refine ⟨?_, ?_, ?_, ?_⟩
  · have e : epochT a b = ⟨#[101]⟩ ++ (a ++ b) := by unfold epochT; rw [ByteArray.append_assoc]
    have e2 : len (⟨#[101]⟩ ++ (a ++ b)) 1 = len (a ++ b) 0 := len_shift ⟨#[101]⟩ (a ++ b) 0
    rw [e, e2, len_front b (by rw [a3]; exact a2), a3]
  · have e2 := len_shift (⟨#[101]⟩ ++ a) b 0
    have z : (⟨#[101]⟩ ++ a : ByteArray).size = 1 + a.size := by simp [ByteArray.size_append]; rfl
    rw [z, Nat.add_zero, b3] at e2
    exact e2
  · unfold epochT; simp [ByteArray.size_append]; rfl
  · unfold epochT
    rw [g_append, if_pos (by simp [ByteArray.size_append]; show 0 < 1 + _; omega), g_append, if_pos (by show 0 < 1; omega)]; rfl
theorem len_epoch {a b : ByteArray} (ha : ok a = true) (hb : ok b = true) : len (epochT a b) 0 = (epochT a b).size := by
  obtain ⟨p1, p2, p3, p4⟩ := epoch_parts ha hb
  obtain ⟨_, a2, _⟩ := ok_facts ha
  obtain ⟨_, b2, _⟩ := ok_facts hb
  rw [len_e p4, p3]
  unfold epLen
  rw [show 0 + 1 = 1 from rfl, p1, if_neg a2, p2, more_pos b2, more_pos (by omega)]; omega
theorem say_parts {s : ByteArray} {who : Nat} (h : ok s = true) (hw : who < 8) : len (sayT s who) 2 = s.size ∧ (sayT s who).size = 2 + s.size ∧ g (sayT s who) 0 = 109 ∧ g (sayT s who) 1 = 65 + who := by
  obtain ⟨_, h2, h3⟩ := ok_facts h
  have z : (⟨#[109]⟩ ++ by1 (65 + who) : ByteArray).size = 2 := by simp [ByteArray.size_append, by1_size]; rfl
  refine ⟨?_, ?_, ?_, ?_⟩
  · have e2 := len_shift (⟨#[109]⟩ ++ by1 (65 + who)) s 0
    rw [z, h3] at e2
    exact e2
  · unfold sayT; rw [ByteArray.size_append, z]
  · unfold sayT; rw [g_append, if_pos (by rw [z]; omega), g_append, if_pos (by show 0 < 1; omega)]; rfl
  · unfold sayT; rw [g_append, if_pos (by rw [z]; omega), g_append, if_neg (by show ¬ 1 < 1; omega)]; exact g_by1 _ (by omega)
theorem len_say {s : ByteArray} {who : Nat} (h : ok s = true) (hw : who < 8) : len (sayT s who) 0 = (sayT s who).size := by
  obtain ⟨p1, p2, p3, p4⟩ := say_parts h hw
  obtain ⟨_, h2, _⟩ := ok_facts h
  rw [len_m p3, p2]
  unfold sayLen
  rw [show 0 + 1 = 1 from rfl, p4, if_pos (by omega), show 1 + 1 = 2 from rfl, p1, more_pos h2, more_pos (by omega)]; omega
theorem room_parts {s : ByteArray} {room : Nat} (h : ok s = true) (hw : room < 10) : len (roomT s room) 2 = s.size ∧ (roomT s room).size = 2 + s.size ∧ g (roomT s room) 0 = 114 ∧ g (roomT s room) 1 = 48 + room := by
  obtain ⟨_, h2, h3⟩ := ok_facts h
  have z : (⟨#[114]⟩ ++ by1 (48 + room) : ByteArray).size = 2 := by simp [ByteArray.size_append, by1_size]; rfl
  unfold roomT
  rw [dec_one room hw]
  refine ⟨?_, ?_, ?_, ?_⟩
  · have e2 := len_shift (⟨#[114]⟩ ++ by1 (48 + room)) s 0
    rw [z, h3] at e2
    exact e2
  · rw [ByteArray.size_append, z]
  · rw [g_append, if_pos (by rw [z]; omega), g_append, if_pos (by show 0 < 1; omega)]; rfl
  · rw [g_append, if_pos (by rw [z]; omega), g_append, if_neg (by show ¬ 1 < 1; omega)]; exact g_by1 _ (by omega)
theorem len_room {s : ByteArray} {room : Nat} (h : ok s = true) (h1 : 1 ≤ room) (hw : room < 10) : len (roomT s room) 0 = (roomT s room).size := by
  obtain ⟨p1, p2, p3, p4⟩ := room_parts h hw
  obtain ⟨_, h2, _⟩ := ok_facts h
  rw [len_r p3, p2]
  unfold roomLen
  rw [show 0 + 1 = 1 from rfl, p4, if_pos (by omega), show 1 + 1 = 2 from rfl, p1, more_pos h2, more_pos (by omega)]; omega

/-- What the calls of 'Mak..' answer. -/
def mkNext (s : ByteArray) : ByteArray := if ok s = true then cap (nextT s) else ⟨#[]⟩
def mkKey (s : ByteArray) : ByteArray := if ok s = true then cap (keyT s) else ⟨#[]⟩
def mkEpoch (a b : ByteArray) : ByteArray := if ok a = true ∧ ok b = true then cap (epochT a b) else ⟨#[]⟩
def mkSay (s : ByteArray) (who : Int) : ByteArray := if ok s = true ∧ 0 ≤ who ∧ who < 8 then cap (sayT s who.toNat) else ⟨#[]⟩
def mkRoom (s : ByteArray) (room : Int) : ByteArray := if ok s = true ∧ 1 ≤ room ∧ room ≤ 9 then cap (roomT s room.toNat) else ⟨#[]⟩

theorem next_size (s : ByteArray) : (nextT s).size = 1 + s.size := by unfold nextT; simp [ByteArray.size_append]; rfl
theorem key_size (s : ByteArray) : (keyT s).size = 1 + s.size := by unfold keyT; simp [ByteArray.size_append]; rfl
theorem epoch_size (a b : ByteArray) : (epochT a b).size = 1 + a.size + b.size := by unfold epochT; simp [ByteArray.size_append]; rfl
theorem say_size (s : ByteArray) (who : Nat) : (sayT s who).size = 2 + s.size := by unfold sayT; simp [ByteArray.size_append, by1_size]; rfl
theorem room_size (s : ByteArray) (room : Nat) : (roomT s room).size = 1 + (dec room).size + s.size := by unfold roomT; simp [ByteArray.size_append]; rfl

/-- What a name is made of. -/
theorem parts_nk {s : ByteArray} (hk : ok s = true) (c : g s 0 = 110 ∨ g s 0 = 107) : len s 1 ≠ 0 ∧ 1 + len s 1 = s.size := by
  obtain ⟨_, h2, h3⟩ := ok_facts hk
  have h4 := len_nk c
  rw [Nat.zero_add] at h4
  by_cases q : len s 1 = 0
  · rw [more_zero q] at h4; omega
  · rw [more_pos q] at h4; exact ⟨q, by omega⟩
theorem parts_e {s : ByteArray} (hk : ok s = true) (c : g s 0 = 101) : len s 1 ≠ 0 ∧ len s (1 + len s 1) ≠ 0 ∧ 1 + len s 1 + len s (1 + len s 1) = s.size := by
  obtain ⟨_, h2, h3⟩ := ok_facts hk
  have h4 := len_e c
  rw [Nat.zero_add] at h4
  unfold epLen at h4
  by_cases q : len s 1 = 0
  · rw [if_pos q, more_zero rfl] at h4; omega
  rw [if_neg q] at h4
  by_cases r : len s (1 + len s 1) = 0
  · rw [more_zero r, more_zero rfl] at h4; omega
  rw [more_pos r, more_pos (by omega)] at h4
  exact ⟨q, r, by omega⟩
theorem parts_m {s : ByteArray} (hk : ok s = true) (c : g s 0 = 109) : 65 ≤ g s 1 ∧ g s 1 ≤ 72 ∧ len s 2 ≠ 0 ∧ 2 + len s 2 = s.size := by
  obtain ⟨_, h2, h3⟩ := ok_facts hk
  have h4 := len_m c
  rw [Nat.zero_add] at h4
  unfold sayLen at h4
  rw [show 1 + 1 = 2 from rfl] at h4
  by_cases q : 65 ≤ g s 1 ∧ g s 1 ≤ 72
  · rw [if_pos q] at h4
    by_cases r : len s 2 = 0
    · rw [more_zero r, more_zero rfl] at h4; omega
    rw [more_pos r, more_pos (by omega)] at h4
    exact ⟨q.1, q.2, r, by omega⟩
  · rw [if_neg q, more_zero rfl] at h4; omega
theorem parts_r {s : ByteArray} (hk : ok s = true) (c : g s 0 = 114) : 49 ≤ g s 1 ∧ g s 1 ≤ 57 ∧ len s 2 ≠ 0 ∧ 2 + len s 2 = s.size := by
  obtain ⟨_, h2, h3⟩ := ok_facts hk
  have h4 := len_r c
  rw [Nat.zero_add] at h4
  unfold roomLen at h4
  rw [show 1 + 1 = 2 from rfl] at h4
  by_cases q : 49 ≤ g s 1 ∧ g s 1 ≤ 57
  · rw [if_pos q] at h4
    by_cases r : len s 2 = 0
    · rw [more_zero r, more_zero rfl] at h4; omega
    rw [more_pos r, more_pos (by omega)] at h4
    exact ⟨q.1, q.2, r, by omega⟩
  · rw [if_neg q, more_zero rfl] at h4; omega
theorem parts_new {s : ByteArray} (hk : ok s = true) (c1 : g s 0 ≠ 110) (c2 : g s 0 ≠ 107) (c3 : g s 0 ≠ 101) (c4 : g s 0 ≠ 109) (c5 : g s 0 ≠ 114) : fresh s 0 = s.size := by
  obtain ⟨_, h2, h3⟩ := ok_facts hk
  rw [← h3, len_else c1 c2 c4 c5 c3]

#print axioms len_room
#print axioms len_epoch
end Go.Proofs.Ytkcopldlobomhaa
