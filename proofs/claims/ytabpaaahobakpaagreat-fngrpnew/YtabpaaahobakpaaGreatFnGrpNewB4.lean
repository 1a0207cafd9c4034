/-
  The program's SecMade: its contract.
-/
import Derived.Test.YtabpaaahobakpaaGreatFnGrpNewB3
import Derived.Test.YtabpaaahobakpaaGreatFnGrpNewB1
import Derived.Test.YtabpaaahobakpaaGreatFnGrpNewB2
import Derived.Deep.RegionHeld3
import Derived.BigRegion
namespace Go.Proofs.YtabpaaahobakpaaGreat
open Go.RowKit
open Kw (g len nv ok)

/-- How a secret was made: which way; by whom; which number; from which one; and from which other one. -/
def mOp (s : ByteArray) : Int := if ok s = true then (if g s 0 = 110 then 2 else if g s 0 = 107 then 3 else if g s 0 = 101 then 4 else if g s 0 = 109 then 5 else if g s 0 = 114 then 6 else 1) else 0
def mWho (s : ByteArray) : Int := if ok s = true then (if g s 0 = 110 then 0 else if g s 0 = 107 then 0 else if g s 0 = 101 then 0 else if g s 0 = 109 then (g s 1 : Int) - 65 else if g s 0 = 114 then 0 else (g s 0 : Int) - 65) else 0
def mN (s : ByteArray) : Int := if ok s = true then (if g s 0 = 110 then 0 else if g s 0 = 107 then 0 else if g s 0 = 101 then 0 else if g s 0 = 109 then 0 else if g s 0 = 114 then ((g s 1 - 48 : Nat) : Int) else (nv s 0 : Int)) else 0
def mA (s : ByteArray) : ByteArray := if ok s = true then (if g s 0 = 110 then s.extract 1 s.size else if g s 0 = 107 then s.extract 1 s.size else if g s 0 = 101 then s.extract 1 (1 + len s 1) else if g s 0 = 109 then s.extract 2 s.size else if g s 0 = 114 then s.extract 2 s.size else ⟨#[]⟩) else ⟨#[]⟩
def mB (s : ByteArray) : ByteArray := if ok s = true then (if g s 0 = 110 then ⟨#[]⟩ else if g s 0 = 107 then ⟨#[]⟩ else if g s 0 = 101 then s.extract (1 + len s 1) s.size else ⟨#[]⟩) else ⟨#[]⟩

theorem ext_le (s : ByteArray) (a b : Nat) (hs : s.size ≤ 300) : (s.extract a b).size ≤ 300 := by simp [ByteArray.size_extract]; omega

theorem howOf_sec (s : ByteArray) (w : World) (hk : ok s = true) :
    Calls Tryz.prog 159 #[secV s 0] w fun e w' => e = .returned (howV (mOp s) (mWho s) (mN s) (mA s) (mB s)) ∧ Below w.heap.size w w' := by
  obtain ⟨h1, _, _⟩ := ok_facts hk
  unfold mOp mWho mN mA mB secV
  simp only [if_pos hk, Nat.zero_add]
  by_cases c1 : g s 0 = 110
  · simp only [if_pos c1]
    rw [(parts_nk hk (.inl c1)).2]
    exact howOf_next _ (ext_le _ _ _ h1) w
  simp only [if_neg c1]
  by_cases c2 : g s 0 = 107
  · simp only [if_pos c2]
    rw [(parts_nk hk (.inr c2)).2]
    exact howOf_key _ (ext_le _ _ _ h1) w
  simp only [if_neg c2]
  by_cases c3 : g s 0 = 101
  · simp only [if_pos c3]
    rw [(parts_e hk c3).2.2]
    exact howOf_epoch _ _ (ext_le _ _ _ h1) (ext_le _ _ _ h1) w
  simp only [if_neg c3]
  by_cases c4 : g s 0 = 109
  · simp only [if_pos c4]
    rw [(parts_m hk c4).2.2.2]
    exact howOf_say _ _ (ext_le _ _ _ h1) w
  simp only [if_neg c4]
  by_cases c5 : g s 0 = 114
  · simp only [if_pos c5]
    rw [(parts_r hk c5).2.2.2]
    exact howOf_room _ _ (ext_le _ _ _ h1) w
  simp only [if_neg c5]
  exact howOf_new _ _ w

theorem made_not {s : ByteArray} (hk : ok s = false) : mOp s = 0 ∧ mWho s = 0 ∧ mN s = 0 ∧ mA s = ⟨#[]⟩ ∧ mB s = ⟨#[]⟩ := by
  unfold mOp mWho mN mA mB; simp [hk]

set_option maxRecDepth 100000 in
set_option maxHeartbeats 1000000 in
theorem iSecMade_any (s : ByteArray) (w : World) (hm : s.size ≤ maxLen) :
    Calls Tryz.prog 111 #[.string s] w fun e w' => e = .returned (howV (mOp s) (mWho s) (mN s) (mA s) (mB s)) ∧ Below w.heap.size w w' := by
  have M := hide hm
  clear hm
  cases hk : ok s with
  | false =>
    obtain ⟨e1, e2, e3, e4, e5⟩ := made_not hk
    rw [e1, e2, e3, e4, e5]
    have K := hide hk
    clear hk e1 e2 e3 e4 e5
    go_enter Tryz.func111, Tryz.ntmps111
    go_wp2_with fail
    refine (readSecret_any s _ M.out).mono ?_
    rintro e w1 ⟨hb1, ⟨h1, h2⟩ | ⟨h1, rfl⟩⟩
    · rw [K.out] at h1; cases h1
    clear h1
    obtain ⟨c0, c1, c2, c3, c4, z0, z1, z2, z3, z4⟩ := Res5.keep (b := w.heap.size) (by constructor <;> simp [go_sem]) hb1 (by simp)
    have hbb : Below w.heap.size w w1 := ((Below.refl w.heap.size w).alloc (Nat.le_refl _) _).trans (hb1.mono (by simp))
    clear hb1
    go_wp2_with fail
    exact bodyPost_ret (v := howV 0 0 0 ⟨#[]⟩ ⟨#[]⟩) (by simp [results, Tryz.results111, go_sem, howV, c0, c1, c2, c3, c4]) rfl ⟨rfl, below5 hbb (Nat.le_refl _) _ _ _ _ _⟩
  | true =>
    have K := hide hk
    clear hk
    go_enter Tryz.func111, Tryz.ntmps111
    go_wp2_with fail
    refine (readSecret_any s _ M.out).mono ?_
    rintro e w1 ⟨hb1, ⟨h1, rfl⟩ | ⟨h1, h2⟩⟩
    · clear h1
      have R1 := Res5.keep (b := w.heap.size) (by constructor <;> simp [go_sem]) hb1 (by simp)
      have hsz : w.heap.size < w1.heap.size := by have := hb1.size; simp at this; omega
      have hbb : Below w.heap.size w w1 := ((Below.refl w.heap.size w).alloc (Nat.le_refl _) _).trans (hb1.mono (by simp))
      clear hb1
      have HB := hide hbb
      have HR := hide R1
      clear hbb R1
      generalize hv : secV s 0 = v
      go_wp2_with fail
      rw [← hv]
      refine (howOf_sec s _ K.out).mono ?_
      rintro e w2 ⟨rfl, hb2⟩
      obtain ⟨c0, c1, c2, c3, c4, z0, z1, z2, z3, z4⟩ := Res5.keep (unhide HR) hb2 hsz
      have hbc : Below w.heap.size w w2 := (unhide HB).trans (hb2.mono (Nat.le_of_lt hsz))
      clear hb2 hv
      unfold howV
      go_wp2_with fail
      exact bodyPost_ret (v := howV (mOp s) (mWho s) (mN s) (mA s) (mB s)) (by simp [results, Tryz.results111, go_sem, howV, c0, c1, c2, c3, c4]) rfl ⟨rfl, below5 hbc (Nat.le_refl _) _ _ _ _ _⟩
    · rw [K.out] at h1; cases h1
end Go.Proofs.YtabpaaahobakpaaGreat
/-
  spec.l1In.
-/
namespace Go.Proofs.YtabpaaahobakpaaGreat
open Go.RowKit

set_option maxHeartbeats 400000 in
theorem l1In_yes (n lo hi : Int) (w : World) (h0 : lo ≤ n) (h1 : n ≤ hi) :
    Calls Tryz.prog 29 #[.int .i64 n, .int .i64 lo, .int .i64 hi] w fun e w' => e = .returned (.bool true) ∧ w' = w := by
  go_enter Tryz.func29, Tryz.ntmps29
  go_wp2
  go_ret
  exact ⟨rfl, rfl⟩

set_option maxHeartbeats 400000 in
theorem l1In_no (n lo hi : Int) (w : World) (h : n < lo ∨ hi < n) :
    Calls Tryz.prog 29 #[.int .i64 n, .int .i64 lo, .int .i64 hi] w fun e w' => e = .returned (.bool false) ∧ w' = w := by
  by_cases h0 : lo ≤ n
  · have h2 : decide (n ≤ hi) = false := by simp; omega
    clear h
    go_enter Tryz.func29, Tryz.ntmps29
    go_wp2
    go_ret
    exact ⟨rfl, rfl⟩
  · have h2 : decide (lo ≤ n) = false := by simp; omega
    clear h
    go_enter Tryz.func29, Tryz.ntmps29
    go_wp2
    go_ret
    exact ⟨rfl, rfl⟩
end Go.Proofs.YtabpaaahobakpaaGreat
/-
  A byte as a text. No Go function in it.
-/
namespace Go.Proofs.YtabpaaahobakpaaGreat
open Go.RowKit

theorem conv1 (W : World) (a : Addr) (n : Int) (h : W.cell? a = some (.int .u8 n)) :
    (convert 22 9 (.slice (some a) 1 1)).run Tryz.prog W = .ok (.string (by1 n.toNat)) W := by
  rw [run_convert_bytes_string W 22 9 5 _ _ _ Tryz.underlying22 Tryz.underlying5 Tryz.underlying9]
  rw [run_bytesToString W a 1 1 [n] ?_]
  · rfl
  · exact run_loadCells_list W a [.int .u8 n] (fun j v hj => by
      match j, hj with
      | 0, hj => simp at hj; subst hj; simpa [Addr.add] using h)
end Go.Proofs.YtabpaaahobakpaaGreat
/-
  Contracts of the functions that make new secrets' names, over the landed program.
-/
namespace Go.Proofs.YtabpaaahobakpaaGreat
open Go.RowKit

theorem enc_fin : ∀ k : Fin 8, Utf8.encode (65 + (k.val : Int)) = by1 (65 + k.val) := by decide +kernel
theorem enc_eq (n : Int) (h0 : 0 ≤ n) (h1 : n < 8) : Utf8.encode (65 + n) = by1 (65 + n.toNat) := by
  obtain ⟨k, rfl⟩ := Int.eq_ofNat_of_zero_le h0
  exact enc_fin ⟨k, by omega⟩
theorem dig_fin : ∀ k : Fin 10, (⟨#[48, 49, 50, 51, 52, 53, 54, 55, 56, 57, 97, 98, 99, 100, 101, 102, 103, 104, 105, 106, 107, 108, 109, 110, 111, 112, 113, 114, 115, 116, 117, 118, 119, 120, 121, 122]⟩ : ByteArray).extract ((k.val : Int)).toNat ((k.val : Int) + 1).toNat = dec k.val := by decide +kernel
theorem dig_eq (n : Int) (h0 : 0 ≤ n) (h1 : n < 10) : (⟨#[48, 49, 50, 51, 52, 53, 54, 55, 56, 57, 97, 98, 99, 100, 101, 102, 103, 104, 105, 106, 107, 108, 109, 110, 111, 112, 113, 114, 115, 116, 117, 118, 119, 120, 121, 122]⟩ : ByteArray).extract n.toNat (n + 1).toNat = dec n.toNat := by
  obtain ⟨k, rfl⟩ := Int.eq_ofNat_of_zero_le h0
  exact dig_fin ⟨k, by omega⟩
set_option maxRecDepth 100000 in
theorem two_fin : ∀ k : Fin 100, 10 ≤ k.val → (⟨#[48, 48, 48, 49, 48, 50, 48, 51, 48, 52, 48, 53, 48, 54, 48, 55, 48, 56, 48, 57, 49, 48, 49, 49, 49, 50, 49, 51, 49, 52, 49, 53, 49, 54, 49, 55, 49, 56, 49, 57, 50, 48, 50, 49, 50, 50, 50, 51, 50, 52, 50, 53, 50, 54, 50, 55, 50, 56, 50, 57, 51, 48, 51, 49, 51, 50, 51, 51, 51, 52, 51, 53, 51, 54, 51, 55, 51, 56, 51, 57, 52, 48, 52, 49, 52, 50, 52, 51, 52, 52, 52, 53, 52, 54, 52, 55, 52, 56, 52, 57, 53, 48, 53, 49, 53, 50, 53, 51, 53, 52, 53, 53, 53, 54, 53, 55, 53, 56, 53, 57, 54, 48, 54, 49, 54, 50, 54, 51, 54, 52, 54, 53, 54, 54, 54, 55, 54, 56, 54, 57, 55, 48, 55, 49, 55, 50, 55, 51, 55, 52, 55, 53, 55, 54, 55, 55, 55, 56, 55, 57, 56, 48, 56, 49, 56, 50, 56, 51, 56, 52, 56, 53, 56, 54, 56, 55, 56, 56, 56, 57, 57, 48, 57, 49, 57, 50, 57, 51, 57, 52, 57, 53, 57, 54, 57, 55, 57, 56, 57, 57]⟩ : ByteArray).extract ((k.val : Int) * 2).toNat ((k.val : Int) * 2 + 2).toNat = dec k.val := by decide +kernel
set_option maxRecDepth 100000 in
theorem two_eq (n : Int) (h0 : 10 ≤ n) (h1 : n < 100) : (⟨#[48, 48, 48, 49, 48, 50, 48, 51, 48, 52, 48, 53, 48, 54, 48, 55, 48, 56, 48, 57, 49, 48, 49, 49, 49, 50, 49, 51, 49, 52, 49, 53, 49, 54, 49, 55, 49, 56, 49, 57, 50, 48, 50, 49, 50, 50, 50, 51, 50, 52, 50, 53, 50, 54, 50, 55, 50, 56, 50, 57, 51, 48, 51, 49, 51, 50, 51, 51, 51, 52, 51, 53, 51, 54, 51, 55, 51, 56, 51, 57, 52, 48, 52, 49, 52, 50, 52, 51, 52, 52, 52, 53, 52, 54, 52, 55, 52, 56, 52, 57, 53, 48, 53, 49, 53, 50, 53, 51, 53, 52, 53, 53, 53, 54, 53, 55, 53, 56, 53, 57, 54, 48, 54, 49, 54, 50, 54, 51, 54, 52, 54, 53, 54, 54, 54, 55, 54, 56, 54, 57, 55, 48, 55, 49, 55, 50, 55, 51, 55, 52, 55, 53, 55, 54, 55, 55, 55, 56, 55, 57, 56, 48, 56, 49, 56, 50, 56, 51, 56, 52, 56, 53, 56, 54, 56, 55, 56, 56, 56, 57, 57, 48, 57, 49, 57, 50, 57, 51, 57, 52, 57, 53, 57, 54, 57, 55, 57, 56, 57, 57]⟩ : ByteArray).extract (n * 2).toNat (n * 2 + 2).toNat = dec n.toNat := by
  obtain ⟨k, rfl⟩ := Int.eq_ofNat_of_zero_le (show 0 ≤ n by omega)
  exact two_fin ⟨k, by omega⟩ (by show 10 ≤ k; omega)

set_option maxHeartbeats 400000 in
theorem letterOf_any (n : Int) (w : World) (h0 : 0 ≤ n) (h1 : n < 8) :
    Calls Tryz.prog 202 #[.int .i64 n] w fun e w' => e = .returned (.string (by1 (65 + n.toNat))) ∧ w' = w := by
  go_enter Tryz.func202, Tryz.ntmps202
  go_wp2
  go_ret
  exact ⟨ret_str (enc_eq n h0 h1), rfl⟩

set_option maxRecDepth 100000 in
set_option maxHeartbeats 400000 in
theorem small_any (n : Int) (w : World) (h0 : 0 ≤ n) (h1 : n < 100) :
    Calls Tryz.prog 206 #[.int .i64 n] w fun e w' => e = .returned (.string (dec n.toNat)) ∧ w' = w := by
  by_cases h : n < 10
  · go_enter Tryz.func206, Tryz.ntmps206
    go_wp2
    go_ret
    exact ⟨ret_str (dig_eq n h0 h), rfl⟩
  · have h2 : 10 ≤ n := by omega
    clear h h0
    go_enter Tryz.func206, Tryz.ntmps206
    go_wp2
    go_ret
    exact ⟨ret_str (two_eq n h2 h1), rfl⟩

set_option maxRecDepth 100000 in
set_option maxHeartbeats 400000 in
theorem format_any (n : Int) (w : World) (h0 : 0 ≤ n) (h1 : n < 100) :
    Calls Tryz.prog 205 #[.int .i64 n, .int .i64 10] w fun e w' => e = .returned (.string (dec n.toNat)) ∧ w' = w := by
  go_enter Tryz.func205, Tryz.ntmps205
  go_wp2_with (go_at_call 206; refine (small_any _ _ h0 h1).mono ?_; rintro e w' ⟨rfl, rfl⟩)
  go_ret
  exact ⟨rfl, rfl⟩

set_option maxHeartbeats 400000 in
theorem itoa_any (n : Int) (w : World) (h0 : 0 ≤ n) (h1 : n < 100) :
    Calls Tryz.prog 203 #[.int .i64 n] w fun e w' => e = .returned (.string (dec n.toNat)) ∧ w' = w := by
  have key : ∀ w, Calls Tryz.prog 204 #[.int .i64 n] w fun e w' => e = .returned (.string (dec n.toNat)) ∧ w' = w := by
    intro w
    go_enter Tryz.func204, Tryz.ntmps204
    go_wp2_with (go_at_call 205; refine (format_any _ _ h0 h1).mono ?_; rintro e w' ⟨rfl, rfl⟩)
    go_ret
    exact ⟨rfl, rfl⟩
  have K := hide key
  clear key
  go_enter Tryz.func203, Tryz.ntmps203
  go_wp2_with (go_at_call 204; refine (unhide K _).mono ?_; rintro e w' ⟨rfl, rfl⟩)
  go_ret
  exact ⟨rfl, rfl⟩

set_option maxHeartbeats 400000 in
theorem newNameM_any (who n : Int) (w : World) (h0 : 0 ≤ who) (h1 : who < 8) (h2 : 0 ≤ n) (h3 : n < 100) :
    Calls Tryz.prog 201 #[.agg #[.int .i64 who, .int .i64 n]] w fun e w' => e = .returned (.string (newName who.toNat n.toNat)) ∧ Below w.heap.size w w' := by
  have s1 : (by1 (65 + who.toNat)).size = 1 := rfl
  rcases dec_sizes n.toNat with s2 | s2
  all_goals
    go_enter Tryz.func201, Tryz.ntmps201
    go_wp2_with fail
    go_quiet ((first | (go_at_call 202; exact Calls.quiet_of_same (letterOf_any _ _ h0 h1)) | (go_at_call 203; exact Calls.quiet_of_same (itoa_any _ _ h2 h3))))
    go_wp2
    go_ret
    exact ⟨ret_str rfl, below_drewN ((Below.refl _ _).alloc (Nat.le_refl _) _) _⟩

theorem ret_by1 {a b : Nat} (h : a = b) : Ending.returned (.string (by1 a)) = .returned (.string (by1 b)) := by rw [h]

set_option maxHeartbeats 400000 in
theorem l1Who_any (n : Int) (w : World) (h0 : 0 ≤ n) (h1 : n < 8) :
    Calls Tryz.prog 94 #[.int .i64 n] w fun e w' => e = .returned (.string (by1 (65 + n.toNat))) ∧ Below w.heap.size w w' := by
  have hc := conv1
  go_enter Tryz.func94, Tryz.ntmps94
  go_wp2
  go_ret
  exact ⟨ret_by1 (by omega), (Below.refl _ _).alloc (Nat.le_refl _) _⟩

set_option maxHeartbeats 400000 in
theorem l1Plain_any (n : Int) (w : World) (h0 : 0 ≤ n) (h1 : n < 100) :
    Calls Tryz.prog 95 #[.int .i64 n] w fun e w' => e = .returned (.string (dec n.toNat)) ∧ Below w.heap.size w w' := by
  have hc := conv1
  have hs := by1_size
  go_enter Tryz.func95, Tryz.ntmps95
  go_wp2
  go_loopw [0, 3] (fun m out wr => Below w.heap.size w wr ∧ ((m = .int .i64 n ∧ out = .string ⟨#[]⟩) ∨ (10 ≤ n ∧ m = .int .i64 (n / 10) ∧ out = .string (by1 (48 + n % 10).toNat)))) (fun m _ _ => (intOf m).toNat)
  case atStart => exact ⟨Below.refl _ _, .inl ⟨rfl, rfl⟩⟩
  case round =>
    obtain ⟨hb, ⟨rfl, rfl⟩ | ⟨h2, rfl, rfl⟩⟩ := hrel
    · by_cases h3 : n ≤ 9
      · go_wp2
        go_ret
        exact ⟨ret_str (by rw [dec_one _ (by omega), app_nil, show (48 + n).toNat = 48 + n.toNat by omega]), hb.alloc hb.size _⟩
      · go_wp2
        exact ⟨⟨hb.alloc hb.size _, .inr ⟨by omega, rfl, by rw [app_nil]⟩⟩, by simp [intOf]; omega⟩
    · go_wp2
      go_ret
      exact ⟨ret_str (by rw [dec_two _ (by omega), show (48 + n / 10).toNat = 48 + n.toNat / 10 by omega, show (48 + n % 10).toNat = 48 + n.toNat % 10 by omega]), hb.alloc hb.size _⟩

theorem method_new (x : Value) (w : World) : (method 363 131 x "loop.example/keyward/impl.name").run Tryz.prog w = .ok (201, x) w := by kernel_rfl

set_option maxRecDepth 100000 in
set_option maxHeartbeats 400000 in
theorem nameOf_new (who n : Int) (w : World) (h0 : 0 ≤ who) (h1 : who < 8) (h2 : 0 ≤ n) (h3 : n < 100) :
    Calls Tryz.prog 87 #[.iface 131 (.agg #[.int .i64 who, .int .i64 n])] w fun e w' => e = .returned (.string (newName who.toNat n.toNat)) ∧ Below w.heap.size w w' := by
  have hm := method_new
  have hs : (newName who.toNat n.toNat).size ≤ 4 := by rcases newName_sizes who.toNat n.toNat with h | h <;> omega
  go_enter Tryz.func87, Tryz.ntmps87
  go_wp2_with (go_at_call 201; refine (newNameM_any _ _ _ h0 h1 h2 h3).mono ?_; rintro e w' ⟨rfl, hb⟩)
  go_ret
  exact ⟨rfl, hb⟩

set_option maxHeartbeats 400000 in
theorem sMakNew_any (who n : Int) (w : World) :
    Calls Tryz.prog 31 #[.int .i64 who, .int .i64 n] w fun e w' => e = .returned (.string (mkNew who n)) ∧ Below w.heap.size w w' := by
  by_cases h1 : who < 0 ∨ 7 < who
  · have e1 : mkNew who n = ⟨#[]⟩ := by unfold mkNew; rw [if_neg (by omega)]
    rw [e1]
    go_enter Tryz.func31, Tryz.ntmps31
    go_wp2_with (go_at_call 29; refine (l1In_no _ _ _ _ h1).mono ?_; rintro e w' ⟨rfl, rfl⟩)
    go_ret
    exact ⟨rfl, Below.refl _ _⟩
  have g0 : 0 ≤ who := by omega
  have g1 : who ≤ 7 := by omega
  by_cases h2 : n < 1 ∨ 99 < n
  · have e1 : mkNew who n = ⟨#[]⟩ := by unfold mkNew; rw [if_neg (by omega)]
    rw [e1]
    clear h1
    go_enter Tryz.func31, Tryz.ntmps31
    go_wp2_with fail
    refine (l1In_yes _ _ _ _ g0 g1).mono ?_
    rintro e w' ⟨rfl, rfl⟩
    go_wp2_with fail
    refine (l1In_no _ _ _ _ h2).mono ?_
    rintro e w' ⟨rfl, rfl⟩
    go_wp2_with fail
    go_ret
    exact ⟨rfl, Below.refl _ _⟩
  have e1 : mkNew who n = newName who.toNat n.toNat := by unfold mkNew; rw [if_pos (by omega)]
  rw [e1]
  have g2 : 1 ≤ n := by omega
  have g3 : n ≤ 99 := by omega
  have g4 : 0 ≤ n := by omega
  have g5 : n < 100 := by omega
  have g6 : who < 8 := by omega
  clear h1 h2 e1
  have s1 : (by1 (65 + who.toNat)).size = 1 := rfl
  rcases dec_sizes n.toNat with s2 | s2
  all_goals
    go_enter Tryz.func31, Tryz.ntmps31
    go_wp2_with fail
    refine (l1In_yes _ _ _ _ g0 g1).mono ?_
    rintro e w' ⟨rfl, rfl⟩
    go_wp2_with fail
    refine (l1In_yes _ _ _ _ g2 g3).mono ?_
    rintro e w' ⟨rfl, rfl⟩
    go_wp2_with fail
    refine (l1Who_any _ _ g0 g6).mono ?_
    rintro e w1 ⟨rfl, hb1⟩
    go_wp2_with fail
    refine (l1Plain_any _ _ g4 g5).mono ?_
    rintro e w2 ⟨rfl, hb2⟩
    go_wp2_with fail
    go_ret
    exact ⟨rfl, hb1.trans (hb2.mono hb1.size)⟩

end Go.Proofs.YtabpaaahobakpaaGreat
/-
  Contracts of the specification's functions on names: they answer as the plain function on names does.
-/
namespace Go.Proofs.YtabpaaahobakpaaGreat
open Go.RowKit

set_option maxHeartbeats 400000 in
theorem l1More_any (n m : Nat) (x y : Int) (hx : x = (n : Int)) (hy : y = (m : Int)) (hn : n ≤ 1000) (hm : m ≤ 1000) (w : World) :
    Calls Tryz.prog 169 #[.int .i64 x, .int .i64 y] w fun e w' => e = .returned (.int .i64 (Kw.more n m : Int)) ∧ w' = w := by
  subst hx hy
  by_cases h : m = 0
  · subst h
    rw [Kw.more_zero rfl]
    go_enter Tryz.func169, Tryz.ntmps169
    go_wp2
    go_ret
    exact ⟨rfl, rfl⟩
  · rw [Kw.more_pos h]
    have e : ((m : Int) == 0) = false := by simp; omega
    clear h
    go_enter Tryz.func169, Tryz.ntmps169
    go_wp2
    go_ret
    exact ⟨rfl, rfl⟩

theorem ret_i64 {a b : Int} (h : a = b) : Ending.returned (.int .i64 a) = .returned (.int .i64 b) := by rw [h]

theorem list_ne {x y : ByteArray} (h : (!x.toList == y.toList) = true) : x ≠ y := by
  intro e; subst e; simp at h
theorem list_eq {x y : ByteArray} (h : (!x.toList == y.toList) = false) : x = y := by
  have h1 : x.toList = y.toList := by simpa using h
  have h2 := congrArg (fun l => (⟨l.toArray⟩ : ByteArray)) h1
  exact ByteArray.ext (by simpa [ByteArray.toList_eq] using h2)

theorem fr_round {s : ByteArray} {a j d m : Nat} (hj : Hid (j = a + 1 + d)) (hlt : j < s.size) (hm : Hid (m = dv s (a + 1) d)) (hall : Hid (∀ i, i < d → 48 ≤ Kw.g s (a + 1 + i) ∧ Kw.g s (a + 1 + i) ≤ 57)) (hg : Hid (Kw.g s j = s[j].toNat)) (hb : Hid (m < 10 ^ d))
    (h48 : (48 : Int) ≤ (s[j].toNat : Int)) (h57 : (s[j].toNat : Int) ≤ 57) (hd : (j : Int) < (a : Int) + 4) :
    (∃ m' j' d' : Nat, j' = a + 1 + d' ∧ d' ≤ 3 ∧ Value.int IntKind.i64 ((j : Int) + 1) = .int .i64 (j' : Int) ∧ Value.int IntKind.i64 ((m : Int) * 10 + ((s[j].toNat : Int) - 48)) = .int .i64 (m' : Int) ∧ j' ≤ s.size ∧ m' < 10 ^ d' ∧ Hid (m' = dv s (a + 1) d') ∧ Hid (∀ i, i < d' → 48 ≤ Kw.g s (a + 1 + i) ∧ Kw.g s (a + 1 + i) ≤ 57)) ∧
    ((a : Int) + 4 - intOf (Value.int IntKind.i64 ((j : Int) + 1))).toNat < ((a : Int) + 4 - intOf (Value.int IntKind.i64 (j : Int))).toNat := by
  have e1 := hj.out
  have e2 := hm.out
  have e3 := hall.out
  have e4 := hg.out
  have e5 := hb.out
  refine ⟨⟨m * 10 + (s[j].toNat - 48), j + 1, d + 1, by omega, by omega, by simp, ?_, by omega, ?_, ?_, ?_⟩, by simp [intOf]; omega⟩
  · congr 1; omega
  · rw [Nat.pow_succ]; omega
  · show _ = dv s (a + 1) d * 10 + (Kw.g s (a + 1 + d) - 48)
    rw [← e1, e4, ← e2]
  · intro i hi
    by_cases hid : i < d
    · exact e3 i hid
    · have : i = d := by omega
      subst this
      rw [← e1, e4]; omega

set_option maxHeartbeats 1000000 in
theorem l1Fresh_any (s : ByteArray) (a : Nat) (x : Int) (hx : x = (a : Int)) (hs : s.size ≤ 300) (ha : a < s.size) (w : World) :
    Calls Tryz.prog 170 #[.string s, .int .i64 x] w fun e w' => e = .returned (.int .i64 (Kw.fresh s a : Int)) ∧ Below w.heap.size w w' := by
  subst hx
  have ha2 : (a : Int) < (s.size : Int) := by omega
  have hga : Hid (Kw.g s a = s[a].toNat) := Kw.g_in ha
  by_cases h65 : (s[a].toNat : Int) < 65
  · have hf : Hid (Kw.fresh s a = 0) := by unfold Kw.fresh; exact if_neg (by rw [hga.out]; omega)
    go_enter Tryz.func170, Tryz.ntmps170
    go_wp2_with fail
    go_ret
    exact ⟨ret_i64 (by rw [hf.out]; rfl), Below.refl _ _⟩
  · have d65 : decide ((s[a].toNat : Int) < 65) = false := by simp; omega
    by_cases h72 : (72 : Int) < (s[a].toNat : Int)
    · have hf : Hid (Kw.fresh s a = 0) := by unfold Kw.fresh; exact if_neg (by rw [hga.out]; omega)
      go_enter Tryz.func170, Tryz.ntmps170
      go_wp2_with fail
      go_ret
      exact ⟨ret_i64 (by rw [hf.out]; rfl), Below.refl _ _⟩
    · have d72 : decide ((72 : Int) < (s[a].toNat : Int)) = false := by simp; omega
      go_enter Tryz.func170, Tryz.ntmps170
      go_wp2_with fail
      go_loop [5, 6] (fun n k => ∃ m j d : Nat, j = a + 1 + d ∧ d ≤ 3 ∧ k = .int .i64 (j : Int) ∧ n = .int .i64 (m : Int) ∧ j ≤ s.size ∧ m < 10 ^ d ∧ Hid (m = dv s (a + 1) d) ∧ Hid (∀ i, i < d → 48 ≤ Kw.g s (a + 1 + i) ∧ Kw.g s (a + 1 + i) ≤ 57)) (fun _ k => ((a : Int) + 4 - intOf k).toNat)
      case atStart => exact ⟨0, a + 1, 0, by omega, by omega, by simp, rfl, by omega, by simp, rfl, fun i hi => by omega⟩
      case round =>
        obtain ⟨m, j, d, hj0, hd, rfl, rfl, hle, hb0, hm, hall⟩ := hrel
        have hj := hide hj0
        have hj1 : a < j := by omega
        have hj3 : j ≤ a + 4 := by omega
        have hb : m ≤ 999 := by
          match d, hd, hb0 with
          | 0, _, h => omega
          | 1, _, h => omega
          | 2, _, h => omega
          | 3, _, h => omega
        have hb1 := hide hb0
        clear hj0 hb0
        by_cases hlt : j < s.size
        · have hlt2 : (j : Int) < (s.size : Int) := by omega
          have hgj : Hid (Kw.g s j = s[j].toNat) := Kw.g_in hlt
          have hnd : decide ((s.size : Int) ≤ (j : Int)) = false := by simp; omega
          have hnd2 : decide (s.size ≤ j) = false := by simp; omega
          by_cases h59 : (s[j].toNat : Int) = 59
          · have hne : ((s[j].toNat : Int) != 59) = false := by simp; omega
            have h57 : decide ((s[j].toNat : Int) ≤ 57) = false := by simp; omega
            have h48 : (48 : Int) ≤ (s[j].toNat : Int) := by omega
            have h65' : (65 : Int) ≤ (s[a].toNat : Int) := by omega
            have h72' : (s[a].toNat : Int) ≤ 72 := by omega
            have i1 : (a : Int) ≤ (j : Int) + 1 := by omega
            have i2 : (j : Int) + 1 ≤ (s.size : Int) := by omega
            have i3 : IntKind.i64.wrap ((j : Int) + 1) = (j : Int) + 1 := by simp [IntKind.wrap, IntKind.bits, IntKind.signed]; omega
            have i4 : (0 : Int) ≤ (a : Int) := by omega
            have i5 : (0 : Int) ≤ (j : Int) + 1 := by omega
            have v1 : IntKind.u8.wrap ((s[a].toNat : Int) - 65) = (s[a].toNat : Int) - 65 := by simp [IntKind.wrap, IntKind.bits, IntKind.signed]; omega
            have v2 : IntKind.i64.wrap ((s[a].toNat : Int) - 65) = (s[a].toNat : Int) - 65 := by simp [IntKind.wrap, IntKind.bits, IntKind.signed]; omega
            have H59 : Hid (Kw.g s j = 59) := by show Kw.g s j = 59; rw [hgj.out]; omega
            clear h59
            go_wp2_with fail
            go_region_held3 (fun _ => True) (trivial) ((go_at_call 31; refine (sMakNew_any _ _ _).mono ?_; rintro e w' ⟨rfl, hb⟩))
            go_wp2_with fail
            · go_ret
              rename_i hx
              rw [← hga.out] at hx
              exact ⟨ret_i64 (by rw [fr_ne hj.out hlt hm.out hall.out H59.out (by rw [hga.out]; omega) (by rw [hga.out]; omega) (list_ne hx)]; rfl), (Below.drew (Below.refl w.heap.size w)).trans hb⟩
            · go_ret
              rename_i hx
              rw [← hga.out] at hx
              refine ⟨ret_i64 (by rw [fr_eq hj.out hd hlt hm.out hall.out H59.out (by rw [hga.out]; omega) (by rw [hga.out]; omega) (list_eq hx)]; omega), (Below.drew (Below.refl w.heap.size w)).trans hb⟩
          · have hne : ((s[j].toNat : Int) != 59) = true := by simp; omega
            have H59 : Hid (Kw.g s j ≠ 59) := by show Kw.g s j ≠ 59; rw [hgj.out]; omega
            clear h59
            go_wp2_with fail
            case roundEnd =>
              have q48 : (48 : Int) ≤ (s[j].toNat : Int) := by assumption
              have q57 : (s[j].toNat : Int) ≤ 57 := by assumption
              have qd : (j : Int) < (a : Int) + 4 := by assumption
              exact fr_round hj hlt hm hall hgj hb1 q48 q57 qd
            all_goals
              go_quiet (fail)
              go_wp2_with fail
              go_ret
              exact ⟨ret_i64 (by rw [fr_no hj.out hd hall.out H59.out (by rw [hgj.out]; have := hj.out; omega)]; rfl), below_drewN (Below.refl _ _) _⟩
        · have H59 : Hid (Kw.g s j = 256) := Kw.g_out (by omega)
          have hge : decide ((s.size : Int) ≤ (j : Int)) = true := by simp; omega
          have hge2 : decide (s.size ≤ j) = true := by simp; omega
          have hge3 : s.size ≤ j := by omega
          go_wp2_with fail
          go_quiet (fail)
          go_wp2_with fail
          go_ret
          exact ⟨ret_i64 (by rw [fr_no hj.out hd hall.out (by rw [H59.out]; omega) (by rw [H59.out]; omega)]; rfl), below_drewN (Below.refl _ _) _⟩


/-- The specification's reading of the name at place a is done as it must be. -/
def SizeAt (s : ByteArray) (a : Nat) : Prop := ∀ (x : Int) (w : World), x = (a : Int) →
    Calls Tryz.prog 137 #[.string s, .int .i64 x] w fun e w' => e = .returned (.int .i64 (Kw.len s a : Int)) ∧ Below w.heap.size w w'

theorem ret_len {a b : Nat} (h : a = b) : Ending.returned (.int .i64 (a : Int)) = .returned (.int .i64 (b : Int)) := by rw [h]

set_option maxHeartbeats 400000 in
theorem l1Size_out (s : ByteArray) (a : Nat) (ha : s.size ≤ a) : SizeAt s a := by
  intro x w hx
  subst hx
  have hl : Hid (Kw.len s a = 0) := Kw.len_out ha
  go_enter Tryz.func137, Tryz.ntmps137
  go_wp2_with fail
  go_ret
  exact ⟨ret_i64 (by rw [hl.out]; rfl), Below.refl _ _⟩

theorem len_300 {s : ByteArray} (hs : s.size ≤ 300) (a : Nat) : Kw.len s a ≤ 300 := by
  by_cases h : Kw.len s a = 0
  · omega
  · have := Kw.len_le h; omega

set_option maxHeartbeats 1000000 in
theorem l1Size_step (s : ByteArray) (hs : s.size ≤ 300) (a : Nat) (ha : a < s.size) (ih : ∀ m, a < m → SizeAt s m) : SizeAt s a := by
  intro x w hx
  subst hx
  have ha2 : (a : Int) < (s.size : Int) := by omega
  have hga : Hid (Kw.g s a = s[a].toNat) := Kw.g_in ha
  have hl1 := len_300 hs (a + 1)
  have hl2 := len_300 hs (a + 2)
  have I1 := ih (a + 1) (by omega)
  have I2 := ih (a + 2) (by omega)
  have IH := hide ih
  clear ih
  by_cases c1 : s[a].toNat = 110
  · have e1 : ((s[a].toNat : Int) == 110) = true := by simp; omega
    have hl : Hid (Kw.len s a = Kw.more 1 (Kw.len s (a + 1))) := Kw.len_nk (.inl (by rw [hga.out]; exact c1))
    clear c1
    go_enter Tryz.func137, Tryz.ntmps137
    go_wp2_with fail
    refine (I1 _ _ (by omega)).mono ?_
    rintro e w1 ⟨rfl, hb1⟩
    go_wp2_with fail
    refine (l1More_any 1 (Kw.len s (a + 1)) _ _ rfl rfl (by omega) (by omega) _).mono ?_
    rintro e w2 ⟨rfl, rfl⟩
    go_wp2_with fail
    go_ret
    exact ⟨ret_len hl.out.symm, hb1⟩
  have e1 : ((s[a].toNat : Int) == 110) = false := by simp; omega
  by_cases c2 : s[a].toNat = 107
  · have e2 : ((s[a].toNat : Int) == 107) = true := by simp; omega
    have hl : Hid (Kw.len s a = Kw.more 1 (Kw.len s (a + 1))) := Kw.len_nk (.inr (by rw [hga.out]; exact c2))
    clear c1 c2
    go_enter Tryz.func137, Tryz.ntmps137
    go_wp2_with fail
    refine (I1 _ _ (by omega)).mono ?_
    rintro e w1 ⟨rfl, hb1⟩
    go_wp2_with fail
    refine (l1More_any 1 (Kw.len s (a + 1)) _ _ rfl rfl (by omega) (by omega) _).mono ?_
    rintro e w2 ⟨rfl, rfl⟩
    go_wp2_with fail
    go_ret
    exact ⟨ret_len hl.out.symm, hb1⟩
  have e2 : ((s[a].toNat : Int) == 107) = false := by simp; omega
  by_cases c3 : s[a].toNat = 109
  · have e3 : ((s[a].toNat : Int) == 109) = true := by simp; omega
    have hu := Kw.len_unfold s a
    rw [hga.out, if_neg (by omega), if_pos c3] at hu
    clear c1 c2 c3
    by_cases d1 : a + 1 < s.size
    · have d2 : decide ((s.size : Int) ≤ (a : Int) + 1) = false := by simp; omega
      have hg1 := Kw.g_in d1
      by_cases d3 : 65 ≤ s[a + 1].toNat ∧ s[a + 1].toNat ≤ 72
      · have hl : Hid (Kw.len s a = Kw.more 2 (Kw.len s (a + 2))) := by show Kw.len s a = _; rw [hu, hg1, if_pos d3]
        have d4 : decide ((s[a + 1].toNat : Int) < 65) = false := by simp; omega
        have d5 : decide ((72 : Int) < (s[a + 1].toNat : Int)) = false := by simp; omega
        clear hu hg1 d3
        go_enter Tryz.func137, Tryz.ntmps137
        go_wp2_with fail
        refine (I2 _ _ (by omega)).mono ?_
        rintro e w1 ⟨rfl, hb1⟩
        go_wp2_with fail
        refine (l1More_any 2 (Kw.len s (a + 2)) _ _ rfl rfl (by omega) (by omega) _).mono ?_
        rintro e w2 ⟨rfl, rfl⟩
        go_wp2_with fail
        go_ret
        exact ⟨ret_len hl.out.symm, hb1⟩
      · have hl : Hid (Kw.len s a = 0) := by show Kw.len s a = _; rw [hu, hg1, if_neg d3]
        clear hu hg1
        by_cases d4 : (s[a + 1].toNat : Int) < 65
        · clear d3
          go_enter Tryz.func137, Tryz.ntmps137
          go_wp2_with fail
          go_ret
          exact ⟨ret_i64 (by rw [hl.out]; rfl), Below.refl _ _⟩
        · have d5 : decide ((s[a + 1].toNat : Int) < 65) = false := by simp; omega
          have d6 : (72 : Int) < (s[a + 1].toNat : Int) := by omega
          clear d3
          go_enter Tryz.func137, Tryz.ntmps137
          go_wp2_with fail
          go_ret
          exact ⟨ret_i64 (by rw [hl.out]; rfl), Below.refl _ _⟩
    · have d2 : (s.size : Int) ≤ (a : Int) + 1 := by omega
      have hl : Hid (Kw.len s a = 0) := by show Kw.len s a = _; rw [hu, Kw.g_out (by omega), if_neg (by omega)]
      clear hu
      go_enter Tryz.func137, Tryz.ntmps137
      go_wp2_with fail
      go_ret
      exact ⟨ret_i64 (by rw [hl.out]; rfl), Below.refl _ _⟩
  have e3 : ((s[a].toNat : Int) == 109) = false := by simp; omega
  by_cases c4 : s[a].toNat = 114
  · have e4 : ((s[a].toNat : Int) == 114) = true := by simp; omega
    have hu := Kw.len_unfold s a
    rw [hga.out, if_neg (by omega), if_neg c3, if_pos c4] at hu
    clear c1 c2 c3 c4
    by_cases d1 : a + 1 < s.size
    · have d2 : decide ((s.size : Int) ≤ (a : Int) + 1) = false := by simp; omega
      have hg1 := Kw.g_in d1
      by_cases d3 : 49 ≤ s[a + 1].toNat ∧ s[a + 1].toNat ≤ 57
      · have hl : Hid (Kw.len s a = Kw.more 2 (Kw.len s (a + 2))) := by show Kw.len s a = _; rw [hu, hg1, if_pos d3]
        have d4 : decide ((s[a + 1].toNat : Int) < 49) = false := by simp; omega
        have d5 : decide ((57 : Int) < (s[a + 1].toNat : Int)) = false := by simp; omega
        clear hu hg1 d3
        go_enter Tryz.func137, Tryz.ntmps137
        go_wp2_with fail
        refine (I2 _ _ (by omega)).mono ?_
        rintro e w1 ⟨rfl, hb1⟩
        go_wp2_with fail
        refine (l1More_any 2 (Kw.len s (a + 2)) _ _ rfl rfl (by omega) (by omega) _).mono ?_
        rintro e w2 ⟨rfl, rfl⟩
        go_wp2_with fail
        go_ret
        exact ⟨ret_len hl.out.symm, hb1⟩
      · have hl : Hid (Kw.len s a = 0) := by show Kw.len s a = _; rw [hu, hg1, if_neg d3]
        clear hu hg1
        by_cases d4 : (s[a + 1].toNat : Int) < 49
        · clear d3
          go_enter Tryz.func137, Tryz.ntmps137
          go_wp2_with fail
          go_ret
          exact ⟨ret_i64 (by rw [hl.out]; rfl), Below.refl _ _⟩
        · have d5 : decide ((s[a + 1].toNat : Int) < 49) = false := by simp; omega
          have d6 : (57 : Int) < (s[a + 1].toNat : Int) := by omega
          clear d3
          go_enter Tryz.func137, Tryz.ntmps137
          go_wp2_with fail
          go_ret
          exact ⟨ret_i64 (by rw [hl.out]; rfl), Below.refl _ _⟩
    · have d2 : (s.size : Int) ≤ (a : Int) + 1 := by omega
      have hl : Hid (Kw.len s a = 0) := by show Kw.len s a = _; rw [hu, Kw.g_out (by omega), if_neg (by omega)]
      clear hu
      go_enter Tryz.func137, Tryz.ntmps137
      go_wp2_with fail
      go_ret
      exact ⟨ret_i64 (by rw [hl.out]; rfl), Below.refl _ _⟩
  have e4 : ((s[a].toNat : Int) == 114) = false := by simp; omega
  by_cases c5 : s[a].toNat = 101
  · have e5 : ((s[a].toNat : Int) == 101) = true := by simp; omega
    have hu := Kw.len_unfold s a
    rw [hga.out, if_neg (by omega), if_neg c3, if_neg c4, if_pos c5] at hu
    clear c1 c2 c3 c4 c5
    by_cases d1 : Kw.len s (a + 1) = 0
    · have hl : Hid (Kw.len s a = 0) := by show Kw.len s a = _; rw [hu, if_pos d1]
      have d2 : ((Kw.len s (a + 1) : Int) == 0) = true := by simp; omega
      clear hu d1
      go_enter Tryz.func137, Tryz.ntmps137
      go_wp2_with fail
      refine (I1 _ _ (by omega)).mono ?_
      rintro e w1 ⟨rfl, hb1⟩
      go_wp2_with fail
      go_ret
      exact ⟨ret_i64 (by rw [hl.out]; rfl), hb1⟩
    · have hl : Hid (Kw.len s a = Kw.more (1 + Kw.len s (a + 1)) (Kw.len s (a + 1 + Kw.len s (a + 1)))) := by show Kw.len s a = _; rw [hu, if_neg d1]
      have d2 : ((Kw.len s (a + 1) : Int) == 0) = false := by simp; omega
      have I3 := IH.out (a + 1 + Kw.len s (a + 1)) (by omega)
      have hl3 := len_300 hs (a + 1 + Kw.len s (a + 1))
      clear hu d1
      go_enter Tryz.func137, Tryz.ntmps137
      go_wp2_with fail
      refine (I1 _ _ (by omega)).mono ?_
      rintro e w1 ⟨rfl, hb1⟩
      go_wp2_with fail
      refine (I3 _ _ (by omega)).mono ?_
      rintro e w2 ⟨rfl, hb2⟩
      go_wp2_with fail
      refine (l1More_any (1 + Kw.len s (a + 1)) (Kw.len s (a + 1 + Kw.len s (a + 1))) _ _ (by omega) rfl (by omega) (by omega) _).mono ?_
      rintro e w3 ⟨rfl, rfl⟩
      go_wp2_with fail
      go_ret
      exact ⟨ret_len hl.out.symm, hb1.trans (hb2.mono hb1.size)⟩
  have e5 : ((s[a].toNat : Int) == 101) = false := by simp; omega
  have hl : Hid (Kw.len s a = Kw.fresh s a) := Kw.len_else (by rw [hga.out]; exact c1) (by rw [hga.out]; exact c2) (by rw [hga.out]; exact c3) (by rw [hga.out]; exact c4) (by rw [hga.out]; exact c5)
  clear c1 c2 c3 c4 c5
  go_enter Tryz.func137, Tryz.ntmps137
  go_wp2_with fail
  refine (l1Fresh_any s a _ rfl hs ha _).mono ?_
  rintro e w1 ⟨rfl, hb1⟩
  go_wp2_with fail
  go_ret
  exact ⟨ret_len hl.out.symm, hb1⟩

theorem l1Size_all (s : ByteArray) (hs : s.size ≤ 300) : ∀ f a, s.size - a ≤ f → SizeAt s a := by
  intro f
  induction f with
  | zero => intro a h; exact l1Size_out s a (by omega)
  | succ f ih =>
    intro a h
    by_cases ha : a < s.size
    · exact l1Size_step s hs a ha (fun m h1 => ih m (by omega))
    · exact l1Size_out s a (by omega)

theorem ret_bool {a b : Bool} (h : a = b) : Ending.returned (.bool a) = .returned (.bool b) := by rw [h]
theorem isEmpty_no {s : ByteArray} (h : s.size ≠ 0) : s.toList.isEmpty = false := by
  rw [List.isEmpty_eq_false_iff]
  intro e
  apply h
  have := congrArg List.length e
  simpa [ByteArray.toList_eq] using this
set_option maxHeartbeats 400000 in
theorem sSecOk_any (s : ByteArray) (w : World) (hm : s.size ≤ maxLen) :
    Calls Tryz.prog 89 #[.string s] w fun e w' => e = .returned (.bool (Kw.ok s)) ∧ Below w.heap.size w w' := by
  unfold maxLen at hm
  by_cases h0 : s.size = 0
  · obtain rfl := empty_of h0
    rw [ok_empty]
    clear hm h0
    go_enter Tryz.func89, Tryz.ntmps89
    go_wp2_with fail
    go_ret
    exact ⟨rfl, Below.refl _ _⟩
  have he := isEmpty_no h0
  by_cases hs : s.size ≤ 300
  · have H := l1Size_all s hs s.size 0 (by omega)
    have hk : Hid (Kw.ok s = ((Kw.len s 0 : Int) == (s.size : Int))) := ok_eq hs h0
    clear h0
    go_enter Tryz.func89, Tryz.ntmps89
    go_wp2_with fail
    refine (H _ _ rfl).mono ?_
    rintro e w1 ⟨rfl, hb1⟩
    go_wp2_with fail
    go_ret
    exact ⟨ret_bool hk.out.symm, hb1⟩
  · have hk : Hid (Kw.ok s = false) := ok_long (by omega)
    have hd : decide ((s.size : Int) ≤ 300) = false := by simp; omega
    clear h0 hs
    go_enter Tryz.func89, Tryz.ntmps89
    go_wp2_with fail
    go_ret
    exact ⟨ret_bool hk.out.symm, Below.refl _ _⟩

set_option maxHeartbeats 400000 in
theorem l1Ok_any (s : ByteArray) (w : World) (hm : s.size ≤ maxLen) :
    Calls Tryz.prog 171 #[.string s] w fun e w' => e = .returned (.string (only s)) ∧ Below w.heap.size w w' := by
  have M := hide hm
  clear hm
  cases hk : Kw.ok s with
  | true =>
    rw [show only s = s by unfold only; rw [if_pos hk]]
    have K := hide hk
    clear hk
    go_enter Tryz.func171, Tryz.ntmps171
    go_wp2_with fail
    refine (sSecOk_any s _ M.out).mono ?_
    rw [K.out]
    rintro e w1 ⟨rfl, hb1⟩
    go_wp2_with fail
    go_ret
    exact ⟨rfl, hb1⟩
  | false =>
    rw [show only s = ⟨#[]⟩ by unfold only; rw [if_neg (by rw [hk]; simp)]]
    have K := hide hk
    clear hk
    go_enter Tryz.func171, Tryz.ntmps171
    go_wp2_with fail
    refine (sSecOk_any s _ M.out).mono ?_
    rw [K.out]
    rintro e w1 ⟨rfl, hb1⟩
    go_wp2_with fail
    go_ret
    exact ⟨rfl, hb1⟩
end Go.Proofs.YtabpaaahobakpaaGreat
/-
  What the specification tells of how a secret was made.
-/
namespace Go.Proofs.YtabpaaahobakpaaGreat
open Go.RowKit
open Kw (g len nv ok)

end Go.Proofs.YtabpaaahobakpaaGreat
/-
  The tree's places, plain: what is above them, beside them, where two meet. No Go function in it.
-/
namespace Go.Proofs.YtabpaaahobakpaaGreat

/-- The place of one. -/
def leafOf (who : Int) : Int := if 0 ≤ who ∧ who ≤ 7 then 7 + who else -1
/-- All places above one. -/
def upF : Nat → Nat → List Nat
  | 0, _ => []
  | f + 1, k => if k = 0 then [] else (k - 1) / 2 :: upF f ((k - 1) / 2)
def ups (k : Nat) : List Nat := upF 4 k
theorem ups_zero : ups 0 = [] := rfl
theorem ups_step : ∀ k, k < 15 → 0 < k → ups k = (k - 1) / 2 :: ups ((k - 1) / 2) := by decide
theorem ups_len : ∀ k, k < 15 → (ups k).length ≤ 3 := by decide
theorem ups_lt : ∀ k, k < 15 → ∀ p ∈ ups k, p < 7 := by decide
def upOf (n : Int) : List Int := if 0 ≤ n ∧ n ≤ 14 then (ups n.toNat).map (fun (k : Nat) => (k : Int)) else []
/-- Where two places meet. -/
def meetF : Nat → Nat → Nat → Nat
  | 0, a, _ => a
  | f + 1, a, b => if a = b then a else if b < a then meetF f ((a - 1) / 2) b else meetF f a ((b - 1) / 2)
def meets (a b : Nat) : Nat := meetF 6 a b
end Go.Proofs.YtabpaaahobakpaaGreat
/-
  The tree, plain: what covers, who is in, what is cleared. No Go function in it.
-/
namespace Go.Proofs.YtabpaaahobakpaaGreat

end Go.Proofs.YtabpaaahobakpaaGreat
/-
  The tree, plain: places, what is above them, beside them, where two meet; keys that are ok, who is in, what covers, what is cleared and set. No Go function in it.
-/
namespace Go.Proofs.YtabpaaahobakpaaGreat

/-- A key that is ok: none, or one. -/
def keyOk (x : ByteArray) : Bool := decide (x = ByteArray.empty) || (Kw.ok x && decide (mOp x = 3))
def treOk (xs : List ByteArray) : Bool := decide (xs.length = 15) && xs.all keyOk
/-- A tree with keys of some places, each made from the next secret. -/
def fill : List ByteArray → ByteArray → List Nat → List ByteArray
  | xs, _, [] => xs
  | xs, s, p :: ps => fill (xs.set p (mkKey s)) (mkNext s) ps
def setKeys (xs : List ByteArray) (who : Nat) (s : ByteArray) : List ByteArray := fill xs s ((7 + who) :: ups (7 + who))
end Go.Proofs.YtabpaaahobakpaaGreat
/-
  The tree, plain: from the last places up. No Go function in it.
-/
namespace Go.Proofs.YtabpaaahobakpaaGreat

/-- Whether a place has a key. -/
def keyed (xs : List ByteArray) (n : Nat) : Bool := decide (xs.getD n ByteArray.empty ≠ ByteArray.empty)
end Go.Proofs.YtabpaaahobakpaaGreat
/-
  Plain mathematics: what tells how a name was made makes just that name. Nothing of the program is in it.
-/
namespace Go.Proofs.YtabpaaahobakpaaGreat
open Kw

theorem cap_self {x : ByteArray} (h : ok x = true) : cap x = x := by unfold cap; rw [if_pos (ok_facts h).1]

end Go.Proofs.YtabpaaahobakpaaGreat
/-
  Plain mathematics: what is made from names tells how it was made.
-/
namespace Go.Proofs.YtabpaaahobakpaaGreat
open Kw

theorem ext_back (x y : ByteArray) : (x ++ y).extract x.size (x ++ y).size = y := by
  refine ext_g (by simp [ByteArray.size_extract, ByteArray.size_append]) ?_
  intro i hi
  have hi' : i < y.size := by simp [ByteArray.size_extract, ByteArray.size_append] at hi; omega
  rw [g_extract _ _ _ i (Nat.le_refl _) (by rw [ByteArray.size_append]; omega), g_shift]

/-- All that tells how a secret was made. -/
def Tells (s : ByteArray) (op who n : Int) (a b : ByteArray) : Prop := ok s = true ∧ mOp s = op ∧ mWho s = who ∧ mN s = n ∧ mA s = a ∧ mB s = b

theorem g0_next (s : ByteArray) : g (nextT s) 0 = 110 := by unfold nextT; rw [g_append]; rfl
theorem g0_key (s : ByteArray) : g (keyT s) 0 = 107 := by unfold keyT; rw [g_append]; rfl

theorem made_next {s : ByteArray} (h : ok s = true) (hs : s.size < 300) : Tells (nextT s) 2 0 0 s ⟨#[]⟩ := by
  have z := next_size s
  have hk : ok (nextT s) = true := ok_yes (by omega) (by rw [len_next h]; omega) (len_next h)
  have c := g0_next s
  have e : (nextT s).extract 1 (nextT s).size = s := ext_back ⟨#[110]⟩ s
  unfold Tells mOp mWho mN mA mB
  simp only [if_pos hk, if_pos c, e]
  exact ⟨hk, trivial, trivial, trivial, trivial, trivial⟩
theorem made_key {s : ByteArray} (h : ok s = true) (hs : s.size < 300) : Tells (keyT s) 3 0 0 s ⟨#[]⟩ := by
  have z := key_size s
  have hk : ok (keyT s) = true := ok_yes (by omega) (by rw [len_key h]; omega) (len_key h)
  have c := g0_key s
  have c1 : g (keyT s) 0 ≠ 110 := by omega
  have e : (keyT s).extract 1 (keyT s).size = s := ext_back ⟨#[107]⟩ s
  unfold Tells mOp mWho mN mA mB
  simp only [if_pos hk, if_neg c1, if_pos c, e]
  exact ⟨hk, trivial, trivial, trivial, trivial, trivial⟩
end Go.Proofs.YtabpaaahobakpaaGreat
/-
  The tree, plain: what covers covers each once; what is set, cleared, set again; trees that stay ok. No Go function in it.
-/
namespace Go.Proofs.YtabpaaahobakpaaGreat
open Kw

/-- How many of some places are above one, or it. -/
def above (ps : List Nat) (l : Nat) : Nat := (ps.filter fun p => decide (meets p l = p)).length
theorem getD_set (xs : List ByteArray) (p k : Nat) (y : ByteArray) : (xs.set p y).getD k ByteArray.empty = if p = k ∧ k < xs.length then y else xs.getD k ByteArray.empty := by
  rw [List.getD_eq_getElem?_getD, List.getD_eq_getElem?_getD, List.getElem?_set]
  by_cases h : p = k
  · subst h
    by_cases h2 : p < xs.length
    · simp [h2]
    · simp [h2]
  · simp [h]

theorem fill_len (ps : List Nat) : ∀ xs s, (fill xs s ps).length = xs.length := by
  induction ps with
  | nil => intro xs s; rfl
  | cons p ps ih => intro xs s; show (fill (xs.set p (mkKey s)) (mkNext s) ps).length = _; rw [ih]; simp
theorem all_getD {xs : List ByteArray} (p : ByteArray → Bool) : xs.all p = true ↔ ∀ k, k < xs.length → p (xs.getD k ByteArray.empty) = true := by
  rw [List.all_eq_true]
  constructor
  · intro h k hk; exact h _ (getD_mem hk)
  · intro h x hx
    obtain ⟨k, hk, rfl⟩ := mem_getD hx
    exact h k hk
theorem treOk_iff {xs : List ByteArray} : treOk xs = true ↔ xs.length = 15 ∧ ∀ k, k < xs.length → keyOk (xs.getD k ByteArray.empty) = true := by
  unfold treOk
  rw [Bool.and_eq_true, all_getD]
  simp
theorem keyOk_set {xs : List ByteArray} {p : Nat} {y : ByteArray} (h : treOk xs = true) (hy : keyOk y = true) : treOk (xs.set p y) = true := by
  obtain ⟨h1, h2⟩ := treOk_iff.1 h
  refine treOk_iff.2 ⟨by simpa using h1, fun k hk => ?_⟩
  rw [List.length_set] at hk
  rw [getD_set]
  split
  · exact hy
  · exact h2 k hk
theorem keyOk_key {s : ByteArray} (h : ok s = true) (hs : s.size < 300) : keyOk (mkKey s) = true := by
  have m := made_key h hs
  have e : mkKey s = keyT s := by unfold mkKey; rw [if_pos h, cap_self m.1]
  rw [e]
  unfold keyOk
  rw [m.1, m.2.1]
  simp
theorem next_ok {s : ByteArray} (h : ok s = true) (hs : s.size < 300) : ok (mkNext s) = true ∧ (mkNext s).size = s.size + 1 := by
  have m := made_next h hs
  have e : mkNext s = nextT s := by unfold mkNext; rw [if_pos h, cap_self m.1]
  rw [e]
  exact ⟨m.1, by have := next_size s; omega⟩
theorem treOk_fill (ps : List Nat) : ∀ xs s, treOk xs = true → ok s = true → s.size + ps.length ≤ 300 → treOk (fill xs s ps) = true := by
  induction ps with
  | nil => intro xs s h _ _; exact h
  | cons p ps ih =>
    intro xs s h hs hl
    simp only [List.length_cons] at hl
    obtain ⟨n1, n2⟩ := next_ok hs (by omega)
    exact ih _ _ (keyOk_set h (keyOk_key hs (by omega))) n1 (by omega)
end Go.Proofs.YtabpaaahobakpaaGreat
/-
  The spec's covers: l3Cover.
-/
namespace Go.Proofs.YtabpaaahobakpaaGreat
open Go.RowKit

def ints (ps : List Nat) : List Int := ps.map fun (k : Nat) => (k : Int)
theorem nil_text : (ByteArray.empty).toList = [] := by decide +kernel
theorem no_text {x : ByteArray} (h : ¬ x = ByteArray.empty) : ¬ x.toList = [] := by
  intro e
  exact h ((toList_eq (x := x) (y := ByteArray.empty)).1 (by rw [e, nil_text]; rfl))

end Go.Proofs.YtabpaaahobakpaaGreat
/-
  TreOk of both sides.
-/
namespace Go.Proofs.YtabpaaahobakpaaGreat
open Go.RowKit Kw

theorem keyOk_op (y : ByteArray) : keyOk y = (decide (y = ByteArray.empty) || decide (mOp y = 3)) := by
  unfold keyOk
  cases h : Kw.ok y with
  | true => simp
  | false =>
    have : mOp y = 0 := by unfold mOp; rw [if_neg (by rw [h]; simp)]
    rw [this]
    simp
theorem treOk_short {xs : List ByteArray} (h : xs.length ≠ 15) : treOk xs = false := by unfold treOk; simp [h]
theorem treOk_bad {xs : List ByteArray} {k : Nat} (hk : k < xs.length) (h : keyOk (xs.getD k ByteArray.empty) = false) : treOk xs = false := by
  cases q : treOk xs with
  | false => rfl
  | true => rw [(treOk_iff.1 q).2 k hk] at h; cases h
theorem treOk_good {xs : List ByteArray} (hl : xs.length = 15) (h : ∀ j, j < 15 → keyOk (xs.getD j ByteArray.empty) = true) : treOk xs = true := treOk_iff.2 ⟨hl, fun k hk => h k (by omega)⟩

set_option maxRecDepth 100000 in
set_option maxHeartbeats 400000 in
theorem isKey_any (s : ByteArray) (w : World) (hm : s.size ≤ maxLen) :
    Calls Tryz.prog 117 #[.string s] w fun e w' => e = .returned (.bool (decide (mOp s = 3))) ∧ Below w.heap.size w w' := by
  have M := hide hm
  clear hm
  go_enter Tryz.func117, Tryz.ntmps117
  go_wp2_with fail
  refine (iSecMade_any s _ M.out).mono ?_
  rw [how_field]
  rintro e w1 ⟨rfl, hb1⟩
  have hfl := field_op
  go_wp2_with fail
  go_ret
  refine ⟨ret_bool' ?_, hb1⟩
  rw [Bool.eq_iff_iff]
  simp

set_option maxRecDepth 100000 in
set_option maxHeartbeats 2000000 in
theorem iTreOk_any (v : Value) (xs : List ByteArray) (w : World) (h : SRow w v xs) (hx : ∀ x ∈ xs, x.size ≤ maxLen) :
    Calls Tryz.prog 53 #[.agg #[v]] w fun e w' => e = .returned (.bool (treOk xs)) ∧ Below w.heap.size w w' := by
  obtain ⟨ao, cap, rfl, h1, h2, _⟩ := h.form
  have HX := hide hx
  have hR : Hid (SRow (w.alloc (.cells #[.slice ao xs.length cap] 39)) (.slice ao xs.length cap) xs) := h.below ((Below.refl _ _).alloc (Nat.le_refl _) _)
  have hW : Hid (Below w.heap.size w (w.alloc (.cells #[.slice ao xs.length cap] 39))) := (Below.refl _ _).alloc (Nat.le_refl _) _
  unfold maxLen at h2
  clear h hx
  by_cases hl : xs.length = 15
  · rw [hl] at hR hW h1 ⊢
    have HL := hide hl
    clear hl
    go_enter Tryz.func53, Tryz.ntmps53
    go_wp2_with fail
    go_loopw [12] (fun i wr => ∃ k : Nat, k ≤ 15 ∧ i = .int .i64 (k : Int) ∧ Hid (∀ j, j < k → keyOk (xs.getD j ByteArray.empty) = true) ∧ Hid (Below (w.heap.size + 1) (w.alloc (.cells #[.slice ao 15 cap] 39)) wr)) (fun i _ => 15 - (intOf i).toNat)
    case atStart => exact ⟨0, by omega, rfl, fun j hj => by omega, Below.refl _ _⟩
    case round =>
      obtain ⟨k, hk, rfl, hN, hL⟩ := hrel
      have hle := hL.out.size
      rw [World.size_alloc] at hle
      by_cases hlt : k < 15
      · have hlt2 : (k : Int) < 15 := by omega
        have i3 : IntKind.i64.wrap ((k : Int) + 1) = (k : Int) + 1 := by simp [IntKind.wrap, IntKind.bits, IntKind.signed]; omega
        obtain ⟨ao', c1, q1, _, _, q2⟩ := (SRow.below (unhide hR) (by rw [World.size_alloc]; exact unhide hL)).form
        rw [HL.out] at q1 q2
        simp only [Value.slice.injEq] at q1
        obtain ⟨rfl, _, rfl⟩ := q1
        obtain ⟨a, rfl, hck⟩ := q2 k hlt
        clear q2
        have hsz : Hid ((xs.getD k ByteArray.empty).size ≤ maxLen) := HX.out _ (getD_mem (by have := HL.out; omega))
        have hYes : Hid (keyOk (xs.getD k ByteArray.empty) = true → ∀ j, j < k + 1 → keyOk (xs.getD j ByteArray.empty) = true) := by
          intro ht j hj
          by_cases hjk : j = k
          · subst hjk; exact ht
          · exact hN j (by omega)
        have hNo : Hid (keyOk (xs.getD k ByteArray.empty) = false → treOk xs = false) := treOk_bad (by have := HL.out; omega)
        have hKO := hide (keyOk_op (xs.getD k ByteArray.empty))
        generalize xs.getD k ByteArray.empty = y at hck hsz hYes hNo hKO
        by_cases hy : y = ByteArray.empty
        · have hN1 := hide (hYes.out (by rw [hKO.out]; simp [hy]))
          have hne : y.toList = [] := by rw [hy]; exact nil_text
          have hne2 : y.toList.isEmpty = true := by rw [hne]; rfl
          clear hy hYes hNo hKO
          go_wp2_with fail
          go_roundw
          case rel => exact ⟨k + 1, by omega, by simp, hN1, hL⟩
          case measure => simp [intOf]; omega
        · have hne : ¬ y.toList = [] := no_text hy
          have hne2 : y.toList.isEmpty = false := by simpa using hne
          have HY := hide hy
          clear hy
          go_wp2_with fail
          refine (isKey_any y _ hsz.out).mono ?_
          cases hd : decide (mOp y = 3) with
          | true =>
            rintro e w1 ⟨rfl, hb1⟩
            have hN1 := hide (hYes.out (by rw [hKO.out, hd]; simp))
            have hL1 := hide ((unhide hL).trans (hb1.mono hle))
            clear hd hb1 hL hYes hNo hKO
            go_wp2_with fail
            go_roundw
            case rel => exact ⟨k + 1, by omega, by simp, hN1, hL1⟩
            case measure => simp [intOf]; omega
          | false =>
            rintro e w1 ⟨rfl, hb1⟩
            have hF := hide (hNo.out (by rw [hKO.out, hd]; simpa using HY.out))
            have hL1 := hide ((unhide hL).trans (hb1.mono hle))
            clear hd hb1 hL hYes hNo hKO
            go_wp2_with fail
            go_ret
            exact ⟨ret_bool' hF.out.symm, (unhide hW).trans ((unhide hL1).mono (by omega))⟩
      · have hlt2 : decide ((k : Int) < 15) = false := by simp; omega
        have hF : Hid (treOk xs = true) := treOk_good HL.out (fun j hj => hN j (by omega))
        go_wp2_with fail
        go_ret
        exact ⟨ret_bool' hF.out.symm, (unhide hW).trans ((unhide hL).mono (by omega))⟩
  · have hl2 : ((xs.length : Int) == 15) = false := by simp; omega
    have hF : Hid (treOk xs = false) := treOk_short hl
    clear hl
    go_enter Tryz.func53, Tryz.ntmps53
    go_wp2_with fail
    go_ret
    exact ⟨ret_bool' hF.out.symm, unhide hW⟩

end Go.Proofs.YtabpaaahobakpaaGreat
/-
  What TreClear and TreSet answer, plain; stores into rows of texts. No Go function in it.
-/
namespace Go.Proofs.YtabpaaahobakpaaGreat
open Go.RowKit Kw

theorem keyOk_small {x : ByteArray} (h : keyOk x = true) : x.size ≤ 300 := by
  unfold keyOk at h
  by_cases he : x = ByteArray.empty
  · subst he; show (0 : Nat) ≤ 300; omega
  · simp [he] at h
    exact (ok_facts h.1).1
theorem treOk_small {xs : List ByteArray} (h : treOk xs = true) : ∀ x ∈ xs, x.size ≤ 300 := by
  intro x hx
  obtain ⟨k, hk, rfl⟩ := mem_getD hx
  exact keyOk_small ((treOk_iff.1 h).2 k hk)
/-- A row of fifteen texts, written out. -/
theorem row15 {B : Nat} {w : World} {v : Value} {zs : List Value} (h : w.ownsRow B 9 1 v 15 zs) : ∃ g cap, v = .slice (some ⟨g, 0, none⟩) 15 cap ∧ B ≤ g ∧ g < w.heap.size ∧ 15 ≤ cap ∧ cap ≤ maxLen := by
  have hh := h
  rcases h.2 with ⟨_, q⟩ | ⟨g, cap, cur, rfl, h1, h2, h3, h4, h5, h6⟩
  · omega
  · exact ⟨g, cap, rfl, h1, (hh.lt g rfl).2, h3, h4⟩
/-- What a store at a place of it wants, and leaves. -/
theorem row15_set {B : Nat} {w : World} {g cap : Nat} {xs : List ByteArray} (hl : xs.length = 15) (h : w.ownsRow B 9 1 (.slice (some ⟨g, 0, none⟩) 15 cap) 15 (xs.map Value.string)) (j : Nat) (hj : j < 15) (y : ByteArray) :
    w.cell? ⟨g, j, none⟩ = some (.string (xs.getD j ByteArray.empty)) ∧ w.frozen? ⟨g, j, none⟩ = false ∧ (w.setCell ⟨g, j, none⟩ (.string y)).ownsRow B 9 1 (.slice (some ⟨g, 0, none⟩) 15 cap) 15 ((xs.set j y).map Value.string) ∧ w.grownBy (w.setCell ⟨g, j, none⟩ (.string y)) (some g) := by
  refine ⟨?_, h.frozenAt j, ?_⟩
  · rw [h.cellAt j (by omega), List.getElem?_map, List.getElem?_eq_getElem (by omega), List.getD_eq_getElem?_getD, List.getElem?_eq_getElem (by omega)]; rfl
  · obtain ⟨s1, s2⟩ := h.stored j (.string y)
    rw [List.map_set]
    exact ⟨s1, s2⟩
theorem grown_drew {w w' : World} {r : Option Nat} (h : w.grownBy w' r) : w.grownBy w'.drew r := ⟨h.os, h.tape, h.output, h.size, h.block⟩
theorem grown_below0 {wr u u' : World} {r : Option Nat} (h : wr.grownBy u r) (hb : Below u.heap.size u u') : wr.grownBy u' r :=
  ⟨hb.os.trans h.os, hb.tape.trans h.tape, hb.output.trans h.output, Nat.le_trans h.size hb.size, fun k hk hr => (hb.block k (Nat.lt_of_lt_of_le hk h.size)).trans (h.block k hk hr)⟩
end Go.Proofs.YtabpaaahobakpaaGreat
/-
  What TreSet answers, plain. No Go function in it.
-/
namespace Go.Proofs.YtabpaaahobakpaaGreat
open Go.RowKit Kw

/-- The secret so many places above. -/
def nextN (s : ByteArray) : Nat → ByteArray
  | 0 => s
  | n + 1 => mkNext (nextN s n)
theorem nextN_in (s : ByteArray) : ∀ n, nextN (mkNext s) n = nextN s (n + 1)
  | 0 => rfl
  | n + 1 => by show mkNext (nextN (mkNext s) n) = mkNext (nextN s (n + 1)); rw [nextN_in s n]
theorem fill_snoc (ps : List Nat) (p : Nat) : ∀ xs s, fill xs s (ps ++ [p]) = (fill xs s ps).set p (mkKey (nextN s ps.length)) := by
  induction ps with
  | nil => intro xs s; rfl
  | cons q ps ih =>
    intro xs s
    show fill (xs.set q (mkKey s)) (mkNext s) (ps ++ [p]) = (fill (xs.set q (mkKey s)) (mkNext s) ps).set p (mkKey (nextN s (ps.length + 1)))
    rw [ih, nextN_in]
/-- What TreSet wants of a secret. -/
def maySet (s : ByteArray) : Bool := Kw.ok s && decide (s.size ≤ 292)
def setRes (xs : List ByteArray) (p : Int) (s : ByteArray) : List ByteArray := if (treOk xs = true ∧ 0 ≤ p ∧ p ≤ 7) ∧ maySet s = true then setKeys xs p.toNat s else []
theorem setKeys_len (xs : List ByteArray) (k : Nat) (s : ByteArray) : (setKeys xs k s).length = xs.length := fill_len _ _ _
theorem setRes_no {xs : List ByteArray} {p : Int} {s : ByteArray} (h : ¬ ((treOk xs = true ∧ 0 ≤ p ∧ p ≤ 7) ∧ maySet s = true)) : setRes xs p s = [] := by unfold setRes; rw [if_neg h]
theorem setRes_yes {xs : List ByteArray} {k : Nat} {s : ByteArray} (h : treOk xs = true) (hk : k < 8) (hs : maySet s = true) : setRes xs (k : Int) s = setKeys xs k s := by unfold setRes; rw [if_pos ⟨⟨h, by omega, by omega⟩, hs⟩]; rfl
theorem nextN_size (s : ByteArray) (hs : s.size ≤ 300) : ∀ n, (nextN s n).size ≤ 300
  | 0 => hs
  | n + 1 => by
    show (mkNext (nextN s n)).size ≤ 300
    unfold mkNext
    split
    · unfold cap; split
      · assumption
      · show (0 : Nat) ≤ 300; omega
    · show (0 : Nat) ≤ 300; omega
theorem treOk_set {xs : List ByteArray} {k : Nat} {s : ByteArray} (h : treOk xs = true) (hk : k < 8) (hs : maySet s = true) : treOk (setKeys xs k s) = true := by
  unfold maySet at hs
  simp at hs
  have := ups_len (7 + k) (by omega)
  exact treOk_fill _ _ _ h hs.1 (by simp; omega)
end Go.Proofs.YtabpaaahobakpaaGreat
