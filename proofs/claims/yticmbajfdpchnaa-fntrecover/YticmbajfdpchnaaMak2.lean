/-
  Contracts of MakSay and MakRoom, the program's and the specification's.
-/
import Derived.Test.YticmbajfdpchnaaSec
import Derived.Test.YticmbajfdpchnaaSpec
namespace Go.Proofs.Yticmbajfdpchnaa
open Go.RowKit

theorem cap_yes2 {x : ByteArray} (h : x.size ≤ 300) : cap x = x := by unfold cap; rw [if_pos h]
theorem cap_no2 {x : ByteArray} (h : 300 < x.size) : cap x = ⟨#[]⟩ := by unfold cap; rw [if_neg (by omega)]

theorem method_say (x : Value) (w : World) : (method 239 103 x "loop.example/keyward/impl.name").run Try.prog w = .ok (117, x) w := by kernel_rfl
theorem method_room (x : Value) (w : World) : (method 239 105 x "loop.example/keyward/impl.name").run Try.prog w = .ok (118, x) w := by kernel_rfl

set_option maxHeartbeats 400000 in
theorem sayName_any (s : ByteArray) (who : Int) (w : World) (hs : s.size ≤ 300) (h0 : 0 ≤ who) (h1 : who < 8) :
    Calls Try.prog 117 #[.agg #[.string s, .int .i64 who]] w fun e w' => e = .returned (.string (sayT s who.toNat)) ∧ Below w.heap.size w w' := by
  have s1 : (by1 (65 + who.toNat)).size = 1 := rfl
  have s2 : ¬ (9223372036854775807 < 2 + s.size) := by omega
  go_enter Try.func117, Try.ntmps117
  go_wp2_with fail
  go_quiet ((go_at_call 101; exact Calls.quiet_of_same (letterOf_any _ _ h0 h1)))
  go_wp2
  go_ret
  exact ⟨ret_str rfl, below_drewN ((Below.refl _ _).alloc (Nat.le_refl _) _) _⟩

set_option maxHeartbeats 400000 in
theorem roomName_any (s : ByteArray) (room : Int) (w : World) (hs : s.size ≤ 300) (h0 : 1 ≤ room) (h1 : room < 10) :
    Calls Try.prog 118 #[.agg #[.string s, .int .i64 room]] w fun e w' => e = .returned (.string (roomT s room.toNat)) ∧ Below w.heap.size w w' := by
  have s1 : (dec room.toNat).size = 1 := by rw [dec_size, if_pos (by omega)]
  have s2 : ¬ (9223372036854775807 < 2 + s.size) := by omega
  have g0 : 0 ≤ room := by omega
  have g1 : room < 100 := by omega
  go_enter Try.func118, Try.ntmps118
  go_wp2_with fail
  go_quiet ((go_at_call 102; exact Calls.quiet_of_same (itoa_any _ _ g0 g1)))
  go_wp2
  go_ret
  exact ⟨ret_str rfl, below_drewN ((Below.refl _ _).alloc (Nat.le_refl _) _) _⟩

set_option maxRecDepth 100000 in
set_option maxHeartbeats 400000 in
theorem nameOf_say (s : ByteArray) (who : Int) (w : World) (hs : s.size ≤ 300) (h0 : 0 ≤ who) (h1 : who < 8) :
    Calls Try.prog 54 #[.iface 103 (.agg #[.string s, .int .i64 who])] w fun e w' => e = .returned (.string (cap (sayT s who.toNat))) ∧ Below w.heap.size w w' := by
  have hm := method_say
  have hz := say_size s who.toNat
  by_cases hc : (sayT s who.toNat).size ≤ 300
  · rw [cap_yes2 hc]
    have hd : decide ((300 : Int) < ((sayT s who.toNat).size : Int)) = false := by simp; omega
    clear hz hc
    go_enter Try.func54, Try.ntmps54
    go_wp2_with (go_at_call 117; refine (sayName_any _ _ _ hs h0 h1).mono ?_; rintro e w' ⟨rfl, hb⟩)
    go_ret
    exact ⟨rfl, hb⟩
  · rw [cap_no2 (by omega)]
    have hd : (300 : Int) < ((sayT s who.toNat).size : Int) := by omega
    have hd2 : ((sayT s who.toNat).size : Int) ≤ 1000 := by omega
    clear hz hc
    go_enter Try.func54, Try.ntmps54
    go_wp2_with (go_at_call 117; refine (sayName_any _ _ _ hs h0 h1).mono ?_; rintro e w' ⟨rfl, hb⟩)
    go_ret
    exact ⟨rfl, hb⟩

set_option maxRecDepth 100000 in
set_option maxHeartbeats 400000 in
theorem nameOf_room (s : ByteArray) (room : Int) (w : World) (hs : s.size ≤ 300) (h0 : 1 ≤ room) (h1 : room < 10) :
    Calls Try.prog 54 #[.iface 105 (.agg #[.string s, .int .i64 room])] w fun e w' => e = .returned (.string (cap (roomT s room.toNat))) ∧ Below w.heap.size w w' := by
  have hm := method_room
  have hz := room_size s room.toNat
  have hy : (dec room.toNat).size = 1 := by rw [dec_size, if_pos (by omega)]
  by_cases hc : (roomT s room.toNat).size ≤ 300
  · rw [cap_yes2 hc]
    have hd : decide ((300 : Int) < ((roomT s room.toNat).size : Int)) = false := by simp; omega
    clear hz hc hy
    go_enter Try.func54, Try.ntmps54
    go_wp2_with (go_at_call 118; refine (roomName_any _ _ _ hs h0 h1).mono ?_; rintro e w' ⟨rfl, hb⟩)
    go_ret
    exact ⟨rfl, hb⟩
  · rw [cap_no2 (by omega)]
    have hd : (300 : Int) < ((roomT s room.toNat).size : Int) := by omega
    have hd2 : ((roomT s room.toNat).size : Int) ≤ 1000 := by omega
    clear hz hc hy
    go_enter Try.func54, Try.ntmps54
    go_wp2_with (go_at_call 118; refine (roomName_any _ _ _ hs h0 h1).mono ?_; rintro e w' ⟨rfl, hb⟩)
    go_ret
    exact ⟨rfl, hb⟩

set_option maxHeartbeats 400000 in
theorem sMakSay_any (s : ByteArray) (who : Int) (w : World) (hm : s.size ≤ maxLen) :
    Calls Try.prog 66 #[.string s, .int .i64 who] w fun e w' => e = .returned (.string (mkSay s who)) ∧ Below w.heap.size w w' := by
  have M := hide hm
  clear hm
  cases hk : Kw.ok s with
  | false =>
    rw [show mkSay s who = ⟨#[]⟩ by unfold mkSay; rw [if_neg (by rw [hk]; simp)]]
    have K := hide hk
    clear hk
    go_enter Try.func66, Try.ntmps66
    go_wp2_with fail
    refine (sSecOk_any s _ M.out).mono ?_
    rw [K.out]
    rintro e w1 ⟨rfl, hb1⟩
    go_wp2_with fail
    go_ret
    exact ⟨rfl, hb1⟩
  | true =>
    have hs := (ok_facts hk).1
    by_cases hbad : who < 0 ∨ 8 ≤ who
    · rw [show mkSay s who = ⟨#[]⟩ by unfold mkSay; rw [if_neg (by omega)]]
      have K := hide hk
      clear hk
      go_enter Try.func66, Try.ntmps66
      go_wp2_with fail
      refine (sSecOk_any s _ M.out).mono ?_
      rw [K.out]
      rintro e w1 ⟨rfl, hb1⟩
      go_wp2_with fail
      refine (l1In_no _ _ _ _ (by omega)).mono ?_
      rintro e w2 ⟨rfl, rfl⟩
      go_wp2_with fail
      go_ret
      exact ⟨rfl, hb1⟩
    · have g0 : 0 ≤ who := by omega
      have g1 : who < 8 := by omega
      have hz := say_size s who.toNat
      rw [show mkSay s who = only (sayT s who.toNat) by unfold mkSay; rw [if_pos ⟨hk, g0, g1⟩, only_cap (by omega) (len_say hk (by omega))]]
      have M2 : Hid ((sayT s who.toNat).size ≤ maxLen) := by show _ ≤ maxLen; unfold maxLen; omega
      have K := hide hk
      clear hk hz hbad
      have s1 : (by1 (65 + who.toNat)).size = 1 := rfl
      have g2 : who ≤ 7 := by omega
      go_enter Try.func66, Try.ntmps66
      go_wp2_with fail
      refine (sSecOk_any s _ M.out).mono ?_
      rw [K.out]
      rintro e w1 ⟨rfl, hb1⟩
      go_wp2_with fail
      refine (l1In_yes _ _ _ _ (by omega) (by omega)).mono ?_
      rintro e w2 ⟨rfl, rfl⟩
      go_wp2_with fail
      refine (l1Who_any _ _ g0 g1).mono ?_
      rintro e w3 ⟨rfl, hb3⟩
      go_wp2_with fail
      refine (l1Ok_any (sayT s who.toNat) _ M2.out).mono ?_
      rintro e w4 ⟨rfl, hb4⟩
      go_wp2_with fail
      go_ret
      have hb13 := hb1.trans (hb3.mono hb1.size)
      exact ⟨rfl, hb13.trans (hb4.mono hb13.size)⟩

set_option maxHeartbeats 400000 in
theorem sMakRoom_any (s : ByteArray) (room : Int) (w : World) (hm : s.size ≤ maxLen) :
    Calls Try.prog 67 #[.string s, .int .i64 room] w fun e w' => e = .returned (.string (mkRoom s room)) ∧ Below w.heap.size w w' := by
  have M := hide hm
  clear hm
  cases hk : Kw.ok s with
  | false =>
    rw [show mkRoom s room = ⟨#[]⟩ by unfold mkRoom; rw [if_neg (by rw [hk]; simp)]]
    have K := hide hk
    clear hk
    go_enter Try.func67, Try.ntmps67
    go_wp2_with fail
    refine (sSecOk_any s _ M.out).mono ?_
    rw [K.out]
    rintro e w1 ⟨rfl, hb1⟩
    go_wp2_with fail
    go_ret
    exact ⟨rfl, hb1⟩
  | true =>
    have hs := (ok_facts hk).1
    by_cases hbad : room < 1 ∨ 9 < room
    · rw [show mkRoom s room = ⟨#[]⟩ by unfold mkRoom; rw [if_neg (by omega)]]
      have K := hide hk
      clear hk
      go_enter Try.func67, Try.ntmps67
      go_wp2_with fail
      refine (sSecOk_any s _ M.out).mono ?_
      rw [K.out]
      rintro e w1 ⟨rfl, hb1⟩
      go_wp2_with fail
      refine (l1In_no _ _ _ _ (by omega)).mono ?_
      rintro e w2 ⟨rfl, rfl⟩
      go_wp2_with fail
      go_ret
      exact ⟨rfl, hb1⟩
    · have g0 : 1 ≤ room := by omega
      have g1 : room ≤ 9 := by omega
      have g3 : room < 10 := by omega
      have hy : (dec room.toNat).size = 1 := by rw [dec_size, if_pos (by omega)]
      have hz := room_size s room.toNat
      rw [show mkRoom s room = only (roomT s room.toNat) by unfold mkRoom; rw [if_pos ⟨hk, g0, g1⟩, only_cap (by omega) (len_room hk (by omega) (by omega))]]
      have M2 : Hid ((roomT s room.toNat).size ≤ maxLen) := by show _ ≤ maxLen; unfold maxLen; omega
      have K := hide hk
      clear hk hz hbad
      have g4 : 0 ≤ room := by omega
      have g5 : room < 100 := by omega
      go_enter Try.func67, Try.ntmps67
      go_wp2_with fail
      refine (sSecOk_any s _ M.out).mono ?_
      rw [K.out]
      rintro e w1 ⟨rfl, hb1⟩
      go_wp2_with fail
      refine (l1In_yes _ _ _ _ (by omega) (by omega)).mono ?_
      rintro e w2 ⟨rfl, rfl⟩
      go_wp2_with fail
      refine (l1Plain_any _ _ g4 g5).mono ?_
      rintro e w3 ⟨rfl, hb3⟩
      go_wp2_with fail
      refine (l1Ok_any (roomT s room.toNat) _ M2.out).mono ?_
      rintro e w4 ⟨rfl, hb4⟩
      go_wp2_with fail
      go_ret
      have hb13 := hb1.trans (hb3.mono hb1.size)
      exact ⟨rfl, hb13.trans (hb4.mono hb13.size)⟩

#print axioms sMakSay_any
#print axioms sMakRoom_any
end Go.Proofs.Yticmbajfdpchnaa
