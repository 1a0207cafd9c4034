/-
  Contracts of the functions that make new secrets' names, over the landed program.
-/
import Derived.Test.YtkcopldlobomhaaOne
import Derived.Test.YtkcopldlobomhaaIn
import Derived.Test.YtkcopldlobomhaaConv
namespace Go.Proofs.Ytkcopldlobomhaa
open Go.RowKit

theorem enc_fin : ∀ k : Fin 8, Utf8.encode (65 + (k.val : Int)) = by1 (65 + k.val) := by decide +kernel
theorem enc_eq (n : Int) (h0 : 0 ≤ n) (h1 : n < 8) : Utf8.encode (65 + n) = by1 (65 + n.toNat) := by
  obtain ⟨k, rfl⟩ := Int.eq_ofNat_of_zero_le h0
  exact enc_fin ⟨k, by omega⟩
theorem dig_fin : ∀ k : Fin 10, (⟨#[48, 49, 50, 51, 52, 53, 54, 55, 56, 57, 97, 98, 99, 100, 101, 102, 103, 104, 105, 106, 107, 108, 109, 110, 111, 112, 113, 114, 115, 116, 117, 118, 119, 120, 121, 122]⟩ : ByteArray).extract ((k.val : Int)).toNat ((k.val : Int) + 1).toNat = dec k.val := by decide +kernel
theorem dig_eq (n : Int) (h0 : 0 ≤ n) (h1 : n < 10) : (⟨#[48, 49, 50, 51, 52, 53, 54, 55, 56, 57, 97, 98, 99, 100, 101, 102, 103, 104, 105, 106, 107, 108, 109, 110, 111, 112, 113, 114, 115, 116, 117, 118, 119, 120, 121, 122]⟩ : ByteArray).extract n.toNat (n + 1).toNat = dec n.toNat := by
  obtain ⟨k, rfl⟩ := Int.eq_ofNat_of_zero_le h0
  exact dig_fin ⟨k, by omega⟩
set_option maxRecDepth 100000 in
theorem two_fin : ∀ k : Fin 100, 10 ≤ k.val → (⟨#[48, 48, 48, 49, 48, 50, 48, 51, 48, 52, 48, 53, 48, 54, 48, 55, 48, 56, 48, 57, 49, 48, 49, 49, 49, 50, 49, 51, 49, 52, 49, 53, 49, 54, 49, 55, 49, 56, 49, 57, 50, 48, 50, 49, 50, 50, 50, 51, 50, 52, 50, 53, 50, 54, 50, 55, 50, 56, 50, 57, 51, 48, 51, 49, 51, 50, 51, 51, 51, 52, 51, 53, 51, 54, 51, 55, 51, 56, 51, 57, 52, 48, 52, 49, 52, 50, 52, 51, 52, 52, 52, 53, 52, 54, 52, 55, 52, 56, 52, 57, 53, 48, 53, 49, 53, 50, 53, 51, 53, 52, 53, 53, 53, 54, 53, 55, 53, 56, 53, 57, 54, 48, 54, 49, 54, 50, 54, 51, 54, 52, 54, 53, 54, 54, 54, 55, 54, 56, 54, 57, 55, 48, 55, 49, 55, 50, 55, 51, 55, 52, 55, 53, 55, 54, 55, 55, 55, 56, 55, 57, 56, 48, 56, 49, 56, 50, 56, 51, 56, 52, 56, 53, 56, 54, 56, 55, 56, 56, 56, 57, 57, 48, 57, 49, 57, 50, 57, 51, 57, 52, 57, 53, 57, 54, 57, 55, 57, 56, 57, 57]⟩ : ByteArray).extract ((k.val : Int) * 2).toNat ((k.val : Int) * 2 + 2).toNat = dec k.val := by decide +kernel
set_option maxRecDepth 100000 in
theorem two_eq (n : Int) (h0 : 10 ≤ n) (h1 : n < 100) : (⟨#[48, 48, 48, 49, 48, 50, 48, 51, 48, 52, 48, 53, 48, 54, 48, 55, 48, 56, 48, 57, 49, 48, 49, 49, 49, 50, 49, 51, 49, 52, 49, 53, 49, 54, 49, 55, 49, 56, 49, 57, 50, 48, 50, 49, 50, 50, 50, 51, 50, 52, 50, 53, 50, 54, 50, 55, 50, 56, 50, 57, 51, 48, 51, 49, 51, 50, 51, 51, 51, 52, 51, 53, 51, 54, 51, 55, 51, 56, 51, 57, 52, 48, 52, 49, 52, 50, 52, 51, 52, 52, 52, 53, 52, 54, 52, 55, 52, 56, 52, 57, 53, 48, 53, 49, 53, 50, 53, 51, 53, 52, 53, 53, 53, 54, 53, 55, 53, 56, 53, 57, 54, 48, 54, 49, 54, 50, 54, 51, 54, 52, 54, 53, 54, 54, 54, 55, 54, 56, 54, 57, 55, 48, 55, 49, 55, 50, 55, 51, 55, 52, 55, 53, 55, 54, 55, 55, 55, 56, 55, 57, 56, 48, 56, 49, 56, 50, 56, 51, 56, 52, 56, 53, 56, 54, 56, 55, 56, 56, 56, 57, 57, 48, 57, 49, 57, 50, 57, 51, 57, 52, 57, 53, 57, 54, 57, 55, 57, 56, 57, 57]⟩ : ByteArray).extract (n * 2).toNat (n * 2 + 2).toNat = dec n.toNat := by
  obtain ⟨k, rfl⟩ := Int.eq_ofNat_of_zero_le (show 0 ≤ n by omega)
  exact two_fin ⟨k, by omega⟩ (by show 10 ≤ k; omega)

set_option maxHeartbeats 400000 in
theorem letterOf_any (n : Int) (w : World) (h0 : 0 ≤ n) (h1 : n < 8) :
    Calls Try.prog 107 #[.int .i64 n] w fun e w' => e = .returned (.string (by1 (65 + n.toNat))) ∧ w' = w := by
  go_enter Try.func107, Try.ntmps107
  go_wp2
  go_ret
  exact ⟨ret_str (enc_eq n h0 h1), rfl⟩

set_option maxRecDepth 100000 in
set_option maxHeartbeats 400000 in
theorem small_any (n : Int) (w : World) (h0 : 0 ≤ n) (h1 : n < 100) :
    Calls Try.prog 112 #[.int .i64 n] w fun e w' => e = .returned (.string (dec n.toNat)) ∧ w' = w := by
  by_cases h : n < 10
  · go_enter Try.func112, Try.ntmps112
    go_wp2
    go_ret
    exact ⟨ret_str (dig_eq n h0 h), rfl⟩
  · have h2 : 10 ≤ n := by omega
    clear h h0
    go_enter Try.func112, Try.ntmps112
    go_wp2
    go_ret
    exact ⟨ret_str (two_eq n h2 h1), rfl⟩

set_option maxRecDepth 100000 in
set_option maxHeartbeats 400000 in
theorem format_any (n : Int) (w : World) (h0 : 0 ≤ n) (h1 : n < 100) :
    Calls Try.prog 111 #[.int .i64 n, .int .i64 10] w fun e w' => e = .returned (.string (dec n.toNat)) ∧ w' = w := by
  go_enter Try.func111, Try.ntmps111
  go_wp2_with (go_at_call 112; refine (small_any _ _ h0 h1).mono ?_; rintro e w' ⟨rfl, rfl⟩)
  go_ret
  exact ⟨rfl, rfl⟩

set_option maxHeartbeats 400000 in
theorem itoa_any (n : Int) (w : World) (h0 : 0 ≤ n) (h1 : n < 100) :
    Calls Try.prog 109 #[.int .i64 n] w fun e w' => e = .returned (.string (dec n.toNat)) ∧ w' = w := by
  have key : ∀ w, Calls Try.prog 110 #[.int .i64 n] w fun e w' => e = .returned (.string (dec n.toNat)) ∧ w' = w := by
    intro w
    go_enter Try.func110, Try.ntmps110
    go_wp2_with (go_at_call 111; refine (format_any _ _ h0 h1).mono ?_; rintro e w' ⟨rfl, rfl⟩)
    go_ret
    exact ⟨rfl, rfl⟩
  have K := hide key
  clear key
  go_enter Try.func109, Try.ntmps109
  go_wp2_with (go_at_call 110; refine (unhide K _).mono ?_; rintro e w' ⟨rfl, rfl⟩)
  go_ret
  exact ⟨rfl, rfl⟩

set_option maxHeartbeats 400000 in
theorem newNameM_any (who n : Int) (w : World) (h0 : 0 ≤ who) (h1 : who < 8) (h2 : 0 ≤ n) (h3 : n < 100) :
    Calls Try.prog 123 #[.agg #[.int .i64 who, .int .i64 n]] w fun e w' => e = .returned (.string (newName who.toNat n.toNat)) ∧ Below w.heap.size w w' := by
  have s1 : (by1 (65 + who.toNat)).size = 1 := rfl
  rcases dec_sizes n.toNat with s2 | s2
  all_goals
    go_enter Try.func123, Try.ntmps123
    go_wp2_with fail
    go_quiet ((first | (go_at_call 107; exact Calls.quiet_of_same (letterOf_any _ _ h0 h1)) | (go_at_call 109; exact Calls.quiet_of_same (itoa_any _ _ h2 h3))))
    go_wp2
    go_ret
    exact ⟨ret_str rfl, below_drewN ((Below.refl _ _).alloc (Nat.le_refl _) _) _⟩

theorem ret_by1 {a b : Nat} (h : a = b) : Ending.returned (.string (by1 a)) = .returned (.string (by1 b)) := by rw [h]

set_option maxHeartbeats 400000 in
theorem l1Who_any (n : Int) (w : World) (h0 : 0 ≤ n) (h1 : n < 8) :
    Calls Try.prog 77 #[.int .i64 n] w fun e w' => e = .returned (.string (by1 (65 + n.toNat))) ∧ Below w.heap.size w w' := by
  have hc := conv1
  go_enter Try.func77, Try.ntmps77
  go_wp2
  go_ret
  exact ⟨ret_by1 (by omega), (Below.refl _ _).alloc (Nat.le_refl _) _⟩

set_option maxHeartbeats 400000 in
theorem l1Plain_any (n : Int) (w : World) (h0 : 0 ≤ n) (h1 : n < 100) :
    Calls Try.prog 78 #[.int .i64 n] w fun e w' => e = .returned (.string (dec n.toNat)) ∧ Below w.heap.size w w' := by
  have hc := conv1
  have hs := by1_size
  go_enter Try.func78, Try.ntmps78
  go_wp2
  go_loopw [0, 3] (fun m out wr => Below w.heap.size w wr ∧ ((m = .int .i64 n ∧ out = .string ⟨#[]⟩) ∨ (10 ≤ n ∧ m = .int .i64 (n / 10) ∧ out = .string (by1 (48 + n % 10).toNat)))) (fun m _ _ => (intOf m).toNat)
  case atStart => exact ⟨Below.refl _ _, .inl ⟨rfl, rfl⟩⟩
  case round =>
    obtain ⟨hb, ⟨rfl, rfl⟩ | ⟨h2, rfl, rfl⟩⟩ := hrel
    · by_cases h3 : n ≤ 9
      · go_wp2
        go_ret
        exact ⟨ret_str (by rw [dec_one _ (by omega), app_nil, show (48 + n).toNat = 48 + n.toNat by omega]), hb.alloc hb.size _⟩
      · go_wp2
        exact ⟨⟨hb.alloc hb.size _, .inr ⟨by omega, rfl, by rw [app_nil]⟩⟩, by simp [intOf]; omega⟩
    · go_wp2
      go_ret
      exact ⟨ret_str (by rw [dec_two _ (by omega), show (48 + n / 10).toNat = 48 + n.toNat / 10 by omega, show (48 + n % 10).toNat = 48 + n.toNat % 10 by omega]), hb.alloc hb.size _⟩

theorem method_new (x : Value) (w : World) : (method 245 114 x "loop.example/keyward/impl.name").run Try.prog w = .ok (123, x) w := by kernel_rfl

set_option maxRecDepth 100000 in
set_option maxHeartbeats 400000 in
theorem nameOf_new (who n : Int) (w : World) (h0 : 0 ≤ who) (h1 : who < 8) (h2 : 0 ≤ n) (h3 : n < 100) :
    Calls Try.prog 39 #[.iface 114 (.agg #[.int .i64 who, .int .i64 n])] w fun e w' => e = .returned (.string (newName who.toNat n.toNat)) ∧ Below w.heap.size w w' := by
  have hm := method_new
  have hs : (newName who.toNat n.toNat).size ≤ 4 := by rcases newName_sizes who.toNat n.toNat with h | h <;> omega
  go_enter Try.func39, Try.ntmps39
  go_wp2_with (go_at_call 123; refine (newNameM_any _ _ _ h0 h1 h2 h3).mono ?_; rintro e w' ⟨rfl, hb⟩)
  go_ret
  exact ⟨rfl, hb⟩

set_option maxHeartbeats 400000 in
theorem sMakNew_any (who n : Int) (w : World) :
    Calls Try.prog 65 #[.int .i64 who, .int .i64 n] w fun e w' => e = .returned (.string (mkNew who n)) ∧ Below w.heap.size w w' := by
  by_cases h1 : who < 0 ∨ 7 < who
  · have e1 : mkNew who n = ⟨#[]⟩ := by unfold mkNew; rw [if_neg (by omega)]
    rw [e1]
    go_enter Try.func65, Try.ntmps65
    go_wp2_with (go_at_call 30; refine (l1In_no _ _ _ _ h1).mono ?_; rintro e w' ⟨rfl, rfl⟩)
    go_ret
    exact ⟨rfl, Below.refl _ _⟩
  have g0 : 0 ≤ who := by omega
  have g1 : who ≤ 7 := by omega
  by_cases h2 : n < 1 ∨ 99 < n
  · have e1 : mkNew who n = ⟨#[]⟩ := by unfold mkNew; rw [if_neg (by omega)]
    rw [e1]
    clear h1
    go_enter Try.func65, Try.ntmps65
    go_wp2_with fail
    refine (l1In_yes _ _ _ _ g0 g1).mono ?_
    rintro e w' ⟨rfl, rfl⟩
    go_wp2_with fail
    refine (l1In_no _ _ _ _ h2).mono ?_
    rintro e w' ⟨rfl, rfl⟩
    go_wp2_with fail
    go_ret
    exact ⟨rfl, Below.refl _ _⟩
  have e1 : mkNew who n = newName who.toNat n.toNat := by unfold mkNew; rw [if_pos (by omega)]
  rw [e1]
  have g2 : 1 ≤ n := by omega
  have g3 : n ≤ 99 := by omega
  have g4 : 0 ≤ n := by omega
  have g5 : n < 100 := by omega
  have g6 : who < 8 := by omega
  clear h1 h2 e1
  have s1 : (by1 (65 + who.toNat)).size = 1 := rfl
  rcases dec_sizes n.toNat with s2 | s2
  all_goals
    go_enter Try.func65, Try.ntmps65
    go_wp2_with fail
    refine (l1In_yes _ _ _ _ g0 g1).mono ?_
    rintro e w' ⟨rfl, rfl⟩
    go_wp2_with fail
    refine (l1In_yes _ _ _ _ g2 g3).mono ?_
    rintro e w' ⟨rfl, rfl⟩
    go_wp2_with fail
    refine (l1Who_any _ _ g0 g6).mono ?_
    rintro e w1 ⟨rfl, hb1⟩
    go_wp2_with fail
    refine (l1Plain_any _ _ g4 g5).mono ?_
    rintro e w2 ⟨rfl, hb2⟩
    go_wp2_with fail
    go_ret
    exact ⟨rfl, hb1.trans (hb2.mono hb1.size)⟩

#print axioms sMakNew_any
end Go.Proofs.Ytkcopldlobomhaa
