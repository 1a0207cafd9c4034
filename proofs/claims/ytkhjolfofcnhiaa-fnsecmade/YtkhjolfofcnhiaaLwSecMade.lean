/-
  Proved: at every code the law FnSecMade returns true (what SecMade tells of a secret's name makes just that name), and nothing that was there is written. No condition.
-/
import Derived.Test.YtkhjolfofcnhiaaFrame
import Derived.Test.YtkhjolfofcnhiaaMade2
import Derived.Test.YtkhjolfofcnhiaaNewI
import Derived.Test.YtkhjolfofcnhiaaDraw4
import Derived.Test.YtkhjolfofcnhiaaRemake
import Derived.Deep.RegionHeld3
namespace Go.Proofs.Ytkhjolfofcnhiaa
open Go.ChangeShapes Go.WideShapes Go.ChangeAt Go.RowKit
open Go.ChangeMaps (open_string shut_string)
set_option linter.unusedVariables false

/-- A block holds a struct that tells how a secret was made. -/
structure Has5 (b : Nat) (s : ByteArray) (w : World) : Prop where
  c0 : w.cell? ⟨b, 0, none⟩ = some (.int .i64 (mOp s))
  c1 : w.cell? ⟨b, 1, none⟩ = some (.int .i64 (mWho s))
  c2 : w.cell? ⟨b, 2, none⟩ = some (.int .i64 (mN s))
  c3 : w.cell? ⟨b, 3, none⟩ = some (.string (mA s))
  c4 : w.cell? ⟨b, 4, none⟩ = some (.string (mB s))
theorem Has5.keep {b : Nat} {s : ByteArray} {W w1 : World} (h : Has5 b s W) (hb : Below W.heap.size W w1) (hlt : b < W.heap.size) : Has5 b s w1 :=
  ⟨keep1 hb h.c0 hlt, keep1 hb h.c1 hlt, keep1 hb h.c2 hlt, keep1 hb h.c3 hlt, keep1 hb h.c4 hlt⟩

theorem how_cells (op who n : Int) (a b : ByteArray) : howV op who n a b = .agg #[.int .i64 op, .int .i64 who, .int .i64 n, .string a, .string b] := rfl

set_option maxRecDepth 100000 in
set_option maxHeartbeats 4000000 in
theorem walk_FnSecMade (a0 : Option Addr) (len0 cap0 : Nat) (z0 : List Int) (w : World) (w0 : IsRow .u8 w a0 len0 cap0 z0) :
    Calls Try.prog 4 #[.slice a0 len0 cap0] w fun e w' => e = .returned (.bool true) ∧ Below w.heap.size w w' := by
  have hR := hide w0
  clear w0
  by_cases h : (1048576 : Int) < (len0 : Int)
  · go_enter Try.func4, Try.ntmps4
    go_wp2_with fail
    go_ret
    exact ⟨rfl, Below.refl _ _⟩
  have h2 : decide ((1048576 : Int) < (len0 : Int)) = false := by simpa using h
  clear h
  go_enter Try.func4, Try.ntmps4
  go_wp2_with fail
  refine (DrawSecMade_any a0 len0 cap0 z0 _ (unhide hR)).mono ?_
  rintro e w1 ⟨s, rfl, hs, hb1⟩
  have M : Hid (s.size ≤ maxLen) := le_maxLen (by omega)
  have HB1 := hide hb1
  clear hb1
  go_wp2_with fail
  refine (iSecMade_any s _ M.out).mono ?_
  rintro e w2 ⟨rfl, hb2⟩
  have hbb := (unhide HB1).trans (hb2.mono (unhide HB1).size)
  have HB2 := hide hbb
  have hle2 := hbb.size
  clear hbb hb2 HB1
  rw [how_cells]
  go_wp2_with fail
  go_region_held3 (fun w' => w'.cell? ⟨w2.heap.size, 0, none⟩ = some (.int .i64 (mOp s)) ∧ w'.cell? ⟨w2.heap.size, 1, none⟩ = some (.int .i64 (mWho s)) ∧ w'.cell? ⟨w2.heap.size, 2, none⟩ = some (.int .i64 (mN s)) ∧ w'.cell? ⟨w2.heap.size, 3, none⟩ = some (.string (mA s)) ∧ w'.cell? ⟨w2.heap.size, 4, none⟩ = some (.string (mB s)))
    ((first | exact ⟨j0, j1, j2, j3, j4⟩ | exact ⟨k0, k1, k2, k3, k4⟩ | exact ⟨l0, l1, l2, l3, l4⟩ | (refine ⟨?_, ?_, ?_, ?_, ?_⟩ <;> simp [go_sem])))
    ((first
      | (go_at_call 15; refine (sSecMade_any s _ M.out).mono ?_; rintro e w3 ⟨rfl, hb3⟩; obtain ⟨j0, j1, j2, j3, j4⟩ := Has5.keep (b := w2.heap.size) (s := s) (by constructor <;> simp [go_sem]) hb3 (by simp); have hj : w2.heap.size < w3.heap.size := (by have := hb3.size; simp at this; omega); have HB3 : Hid (Below w.heap.size w w3) := ((unhide HB2).alloc hle2 _).drew.trans (hb3.mono (by simp; omega)); clear hb3; rw [how_cells])
      | (go_at_call 13; refine (iSecOk_any s _ M.out).mono ?_; rintro e w4 ⟨rfl, hb4⟩; obtain ⟨k0, k1, k2, k3, k4⟩ := Has5.keep (b := w2.heap.size) (s := s) ⟨j0, j1, j2, j3, j4⟩ hb4 hj; have hk : w2.heap.size < w4.heap.size := (by have := hb4.size; omega); have HB4 : Hid (Below w.heap.size w w4) := (unhide HB3).trans (hb4.mono (by omega)); clear hb4)
      | (go_at_call 16; refine (sSecOk_any s _ M.out).mono ?_; rintro e w5 ⟨rfl, hb5⟩; obtain ⟨l0, l1, l2, l3, l4⟩ := Has5.keep (b := w2.heap.size) (s := s) ⟨k0, k1, k2, k3, k4⟩ hb5 hk; have hl : w2.heap.size < w5.heap.size := (by have := hb5.size; omega); have HB5 : Hid (Below w.heap.size w w5) := (unhide HB4).trans (hb5.mono (by omega)); clear hb5)))
  go_wp2_with fail
  refine (sSecOk_any s _ M.out).mono ?_
  cases hk0 : Kw.ok s with
  | false =>
    obtain ⟨e1, e2, e3, e4, e5⟩ := made_not hk0
    clear hk0
    rintro e w6 ⟨rfl, hb6⟩
    obtain ⟨m0, m1, m2, m3, m4⟩ := Has5.keep (b := w2.heap.size) (s := s) ⟨l0, l1, l2, l3, l4⟩ hb6 hl
    rw [e1] at m0
    rw [e2] at m1
    rw [e3] at m2
    rw [e4] at m3
    rw [e5] at m4
    have HB6 : Hid (Below w.heap.size w w6) := (unhide HB5).trans (hb6.mono (by omega))
    have hle6 := HB6.out.size
    clear hb6 j0 j1 j2 j3 j4 k0 k1 k2 k3 k4 l0 l1 l2 l3 l4 e1 e2 e3 e4 e5
    go_wp2_with fail
    refine (keOk_any _).mono ?_
    rintro e w7 ⟨rfl, hb7⟩
    go_wp2_with fail
    go_ret
    exact ⟨rfl, (unhide HB6).trans (hb7.mono (by omega))⟩
  | true =>
    obtain ⟨h300, hne, hlen⟩ := ok_facts hk0
    rintro e w6 ⟨rfl, hb6⟩
    obtain ⟨m0, m1, m2, m3, m4⟩ := Has5.keep (b := w2.heap.size) (s := s) ⟨l0, l1, l2, l3, l4⟩ hb6 hl
    have HB6 : Hid (Below w.heap.size w w6) := (unhide HB5).trans (hb6.mono (by omega))
    have hle6 := HB6.out.size
    clear hb6 j0 j1 j2 j3 j4 k0 k1 k2 k3 k4 l0 l1 l2 l3 l4 hlen hne
    have hA : Hid ((mA s).size ≤ maxLen) := by
      show _ ≤ maxLen
      refine le_maxLen ?_
      unfold mA
      repeat' split
      all_goals first | exact Nat.le_trans (ext_le _ _ _ h300) (by omega) | (show 0 ≤ 100000; omega)
    have hB : Hid ((mB s).size ≤ maxLen) := by
      show _ ≤ maxLen
      refine le_maxLen ?_
      unfold mB
      repeat' split
      all_goals first | exact Nat.le_trans (ext_le _ _ _ h300) (by omega) | (show 0 ≤ 100000; omega)
    by_cases c1 : Kw.g s 0 = 110
    · have eop : mOp s = 2 := by unfold mOp; rw [if_pos hk0, if_pos c1]
      have ere : Hid (mkNext (mA s) = s) := by show mkNext (mA s) = s; unfold mA; simp only [if_pos hk0, if_pos c1]; exact re_next hk0 c1
      rw [eop] at m0
      clear eop hk0 c1
      go_wp2_with fail
      refine (iMakNext_any (mA s) _ hA.out).mono ?_
      rw [ere.out]
      rintro e w7 ⟨rfl, hb7⟩
      go_wp2_with fail
      go_ret
      exact ⟨ret_bool (by simp), (unhide HB6).trans (hb7.mono (by omega))⟩
    by_cases c2 : Kw.g s 0 = 107
    · have eop : mOp s = 3 := by unfold mOp; rw [if_pos hk0, if_neg c1, if_pos c2]
      have ere : Hid (mkKey (mA s) = s) := by show mkKey (mA s) = s; unfold mA; simp only [if_pos hk0, if_neg c1, if_pos c2]; exact re_key hk0 c2
      rw [eop] at m0
      clear eop hk0 c1 c2
      go_wp2_with fail
      refine (iMakKey_any (mA s) _ hA.out).mono ?_
      rw [ere.out]
      rintro e w7 ⟨rfl, hb7⟩
      go_wp2_with fail
      go_ret
      exact ⟨ret_bool (by simp), (unhide HB6).trans (hb7.mono (by omega))⟩
    by_cases c3 : Kw.g s 0 = 101
    · have eop : mOp s = 4 := by unfold mOp; rw [if_pos hk0, if_neg c1, if_neg c2, if_pos c3]
      have ere : Hid (mkEpoch (mA s) (mB s) = s) := by show mkEpoch (mA s) (mB s) = s; unfold mA mB; simp only [if_pos hk0, if_neg c1, if_neg c2, if_pos c3]; exact re_epoch hk0 c3
      rw [eop] at m0
      clear eop hk0 c1 c2 c3
      go_wp2_with fail
      refine (iMakEpoch_any (mA s) (mB s) _ hA.out hB.out).mono ?_
      rw [ere.out]
      rintro e w7 ⟨rfl, hb7⟩
      go_wp2_with fail
      go_ret
      exact ⟨ret_bool (by simp), (unhide HB6).trans (hb7.mono (by omega))⟩
    by_cases c4 : Kw.g s 0 = 109
    · have eop : mOp s = 5 := by unfold mOp; rw [if_pos hk0, if_neg c1, if_neg c2, if_neg c3, if_pos c4]
      have ere : Hid (mkSay (mA s) (mWho s) = s) := by show mkSay (mA s) (mWho s) = s; unfold mA mWho; simp only [if_pos hk0, if_neg c1, if_neg c2, if_neg c3, if_pos c4]; exact re_say hk0 c4
      rw [eop] at m0
      clear eop hk0 c1 c2 c3 c4
      go_wp2_with fail
      refine (iMakSay_any (mA s) (mWho s) _ hA.out).mono ?_
      rw [ere.out]
      rintro e w7 ⟨rfl, hb7⟩
      go_wp2_with fail
      go_ret
      exact ⟨ret_bool (by simp), (unhide HB6).trans (hb7.mono (by omega))⟩
    by_cases c5 : Kw.g s 0 = 114
    · have eop : mOp s = 6 := by unfold mOp; rw [if_pos hk0, if_neg c1, if_neg c2, if_neg c3, if_neg c4, if_pos c5]
      have ere : Hid (mkRoom (mA s) (mN s) = s) := by show mkRoom (mA s) (mN s) = s; unfold mA mN; simp only [if_pos hk0, if_neg c1, if_neg c2, if_neg c3, if_neg c4, if_pos c5]; exact re_room hk0 c5
      rw [eop] at m0
      clear eop hk0 c1 c2 c3 c4 c5
      go_wp2_with fail
      refine (iMakRoom_any (mA s) (mN s) _ hA.out).mono ?_
      rw [ere.out]
      rintro e w7 ⟨rfl, hb7⟩
      go_wp2_with fail
      go_ret
      exact ⟨ret_bool (by simp), (unhide HB6).trans (hb7.mono (by omega))⟩
    have eop : mOp s = 1 := by unfold mOp; rw [if_pos hk0, if_neg c1, if_neg c2, if_neg c3, if_neg c4, if_neg c5]
    have ere : Hid (mkNew (mWho s) (mN s) = s) := by show mkNew (mWho s) (mN s) = s; unfold mWho mN; simp only [if_pos hk0, if_neg c1, if_neg c2, if_neg c3, if_neg c4, if_neg c5]; exact re_new hk0 (parts_new hk0 c1 c2 c3 c4 c5)
    rw [eop] at m0
    clear eop hk0 c1 c2 c3 c4 c5
    go_wp2_with fail
    refine (iMakNew_any (mWho s) (mN s) _).mono ?_
    rw [ere.out]
    rintro e w7 ⟨rfl, hb7⟩
    go_wp2_with fail
    go_ret
    exact ⟨ret_bool (by simp), (unhide HB6).trans (hb7.mono (by omega))⟩

set_option maxRecDepth 100000 in
theorem lifted_FnSecMade (os : Os) (started : os.Started) (H : Type) (enc : TypeId × Value → H) :
    ReturnsInHanded {} Try.checked os 4 .any (Rows.fnSecMadeSpec.pre6 enc Try.prog Try.f4 Rows.fnSecMadeRow.domain false) (Rows.fnSecMadeSpec.post enc Try.prog Try.f4 false true false false) := by
  refine returnsInHanded_of_change (C := Try.checked) own started (by kernel_rfl) Try.func4
    (ChangeSpec.witness6 (enc := enc) (C := Try.checked) false ⟨#[], #[.slice none 0 0], []⟩ 8 (by kernel_rfl) (by kernel_rfl) (by kernel_rfl) (by kernel_rfl)) ?_
  intro W base args ds gs before hval0 hW hcnd _
  have hval : ∀ (j : Nat) t v, Try.f4.params[j]? = some t → args[j]? = some v → Value.okWide Try.prog W .any base t v := hval0
  have hW' := hW
  obtain ⟨p, q, hA0, hV, rfl, hfz, hnd⟩ := hW
  have hA : DataW.TrodAll enc Try.prog W 0 (fun _ => true) true Try.f4.params.toList args.toList ds p := hA0
  rw [Try.params4] at hA hval
  obtain ⟨v0, vs0, d0, ds0, p0, q0, hargs, rfl, rfl, h0, r0⟩ := trodAll_cons hA
  obtain ⟨rfl, rfl, rfl⟩ := trodAll_nil r0
  obtain rfl : args = #[v0] := by cases args; simp_all
  obtain ⟨rfl, rfl⟩ := trodVars_none hV
  obtain ⟨a0, len0, cap0, rfl⟩ := okWide_slice Try.underlying22 (hval 0 22 v0 rfl rfl)
  have k0 := h0
  have lt0 : ∀ x ∈ p0, x.block < W.heap.size := by obtain ⟨m, hm⟩ := k0; exact DataW.trod_lt m _ _ _ hm
  obtain ⟨z0, w0⟩ : ∃ zs, IsRow .u8 W a0 len0 cap0 zs := by
    obtain ⟨fuel, hf⟩ := h0
    rcases open_ints Try.underlying22 Try.underlying5 (by kernel_rfl) hf with ⟨hcs, _⟩ | ⟨x, l, c, zs, hcs, _, hl, hm, hz, _, hcell, hwz⟩
    · simp [Value.cells] at hcs
      obtain ⟨rfl, rfl, rfl⟩ := hcs
      exact ⟨[], .inl ⟨rfl, rfl, rfl, rfl⟩⟩
    · simp [Value.cells] at hcs
      obtain ⟨rfl, rfl, rfl⟩ := hcs
      exact ⟨zs, .inr ⟨_, rfl, hl, hm, by simpa using hz, hcell, hwz⟩⟩
  clear hA0 hval0
  refine (walk_FnSecMade a0 len0 cap0 z0 W w0).mono fun e W' ⟨he, bel⟩ => ?_
  subst he
  exact ⟨_, rfl, _, _, _, [], _, [], hW', trodAll_mk1 (shut_bool Try.underlying4 _), (trodAll_cons_mk (Below.trod laidOut (by kernel_rfl) (of_decide_eq_true (by kernel_rfl)) k0 bel lt0) trodAll_mk0), rfl, bel.frame _, fun h => by cases h⟩

theorem fnSecMade_holds : Rows.FnSecMadeSaid :=
  OpenClaim.holds_of_wide 4 Try.f4 rfl rfl rfl rfl rfl rfl rfl ⟨rfl, rfl, rfl, rfl, rfl⟩ rfl rfl rfl rfl rfl (by kernel_rfl) Try.func4 (by kernel_rfl)
    (of_decide_eq_true (by kernel_rfl)) (by unfold Func.isWrapper; first | (rw [if_pos (by decide +kernel)]; kernel_rfl) | (rw [if_neg (by decide +kernel)]; exact ⟨rfl, rfl⟩))
    (fun os started H enc _ => lifted_FnSecMade os started H enc)

#print axioms fnSecMade_holds
end Go.Proofs.Ytkhjolfofcnhiaa
