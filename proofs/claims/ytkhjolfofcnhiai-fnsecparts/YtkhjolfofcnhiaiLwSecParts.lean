/-
  Proved: at every code the law FnSecParts returns true (the names that SecMade tells are secrets' names, each shorter than what was made from it), and nothing that was there is written. No condition.
-/
import Derived.Test.YtkhjolfofcnhiaiFrame
import Derived.Test.YtkhjolfofcnhiaiMade2
import Derived.Test.YtkhjolfofcnhiaiMade3
import Derived.Test.YtkhjolfofcnhiaiHas5
import Derived.Test.YtkhjolfofcnhiaiDraw4
import Derived.Deep.RegionHeld3
namespace Go.Proofs.Ytkhjolfofcnhiai
open Go.ChangeShapes Go.WideShapes Go.ChangeAt Go.RowKit
open Go.ChangeMaps (open_string shut_string)
set_option linter.unusedVariables false

theorem parts_of {s : ByteArray} (hk : Kw.ok s = true) :
    (mOp s = 1 ∧ mA s = ⟨#[]⟩ ∧ mB s = ⟨#[]⟩) ∨ (mOp s ≠ 1 ∧ mOp s ≠ 4 ∧ Kw.ok (mA s) = true ∧ (mA s).size < s.size ∧ mB s = ⟨#[]⟩) ∨
    (mOp s = 4 ∧ Kw.ok (mA s) = true ∧ Kw.ok (mB s) = true ∧ (mA s).size + (mB s).size + 1 = s.size ∧ (mB s).size ≠ 0) := by
  obtain ⟨h1, h2, h3⟩ := ok_facts hk
  unfold mOp mA mB
  simp only [if_pos hk]
  by_cases c1 : Kw.g s 0 = 110
  · obtain ⟨q1, q2⟩ := parts_nk hk (.inl c1)
    simp only [if_pos c1]
    exact .inr (.inl ⟨by omega, by omega, rest_ok hk 1 (by omega) q1 q2, by simp [ByteArray.size_extract]; omega, trivial⟩)
  simp only [if_neg c1]
  by_cases c2 : Kw.g s 0 = 107
  · obtain ⟨q1, q2⟩ := parts_nk hk (.inr c2)
    simp only [if_pos c2]
    exact .inr (.inl ⟨by omega, by omega, rest_ok hk 1 (by omega) q1 q2, by simp [ByteArray.size_extract]; omega, trivial⟩)
  simp only [if_neg c2]
  by_cases c3 : Kw.g s 0 = 101
  · obtain ⟨q1, q2, q3⟩ := parts_e hk c3
    simp only [if_pos c3]
    exact .inr (.inr ⟨trivial, mid_ok hk 1 q1, rest_ok hk _ (by omega) q2 q3, by simp [ByteArray.size_extract]; omega, by simp [ByteArray.size_extract]; omega⟩)
  simp only [if_neg c3]
  by_cases c4 : Kw.g s 0 = 109
  · obtain ⟨_, _, q1, q2⟩ := parts_m hk c4
    simp only [if_pos c4]
    exact .inr (.inl ⟨by omega, by omega, rest_ok hk 2 (by omega) q1 q2, by simp [ByteArray.size_extract]; omega, trivial⟩)
  simp only [if_neg c4]
  by_cases c5 : Kw.g s 0 = 114
  · obtain ⟨_, _, q1, q2⟩ := parts_r hk c5
    simp only [if_pos c5]
    exact .inr (.inl ⟨by omega, by omega, rest_ok hk 2 (by omega) q1 q2, by simp [ByteArray.size_extract]; omega, trivial⟩)
  simp only [if_neg c5]
  exact .inl ⟨trivial, trivial, trivial⟩

set_option maxRecDepth 100000 in
set_option maxHeartbeats 4000000 in
theorem walk_FnSecParts (a0 : Option Addr) (len0 cap0 : Nat) (z0 : List Int) (w : World) (w0 : IsRow .u8 w a0 len0 cap0 z0) :
    Calls Try.prog 3 #[.slice a0 len0 cap0] w fun e w' => e = .returned (.bool true) ∧ Below w.heap.size w w' := by
  have hR := hide w0
  clear w0
  by_cases h : (1048576 : Int) < (len0 : Int)
  · go_enter Try.func3, Try.ntmps3
    go_wp2_with fail
    go_ret
    exact ⟨rfl, Below.refl _ _⟩
  have h2 : decide ((1048576 : Int) < (len0 : Int)) = false := by simpa using h
  clear h
  go_enter Try.func3, Try.ntmps3
  go_wp2_with fail
  refine (DrawSecMade_any a0 len0 cap0 z0 _ (unhide hR)).mono ?_
  rintro e w1 ⟨s, rfl, hs, hb1⟩
  have M : Hid (s.size ≤ maxLen) := le_maxLen (by omega)
  have HB1 := hide hb1
  clear hb1
  go_wp2_with fail
  refine (iSecMade_any s _ M.out).mono ?_
  rintro e w2 ⟨rfl, hb2⟩
  have hbb := (unhide HB1).trans (hb2.mono (unhide HB1).size)
  have HB2 := hide hbb
  have hle2 := hbb.size
  clear hbb hb2 HB1
  rw [how_cells]
  go_wp2_with fail
  go_region_held3 (fun w' => w'.cell? ⟨w2.heap.size, 0, none⟩ = some (.int .i64 (mOp s)) ∧ w'.cell? ⟨w2.heap.size, 1, none⟩ = some (.int .i64 (mWho s)) ∧ w'.cell? ⟨w2.heap.size, 2, none⟩ = some (.int .i64 (mN s)) ∧ w'.cell? ⟨w2.heap.size, 3, none⟩ = some (.string (mA s)) ∧ w'.cell? ⟨w2.heap.size, 4, none⟩ = some (.string (mB s)))
    ((first | exact ⟨p30, p31, p32, p33, p34⟩ | (refine ⟨?_, ?_, ?_, ?_, ?_⟩ <;> simp [go_sem])))
    ((go_at_call 8; refine (sSecMade_any s _ M.out).mono ?_; rintro e w3 ⟨rfl, hb3⟩; obtain ⟨p30, p31, p32, p33, p34⟩ := Has5.keep (b := w2.heap.size) (s := s) (by constructor <;> simp [go_sem]) hb3 (by simp); have hl3 : w2.heap.size < w3.heap.size := (by have := hb3.size; simp at this; omega); have HB3 : Hid (Below w.heap.size w w3) := ((unhide HB2).alloc hle2 _).drew.trans (hb3.mono (by simp; omega)); clear hb3; rw [how_cells]))
  go_wp2_with fail
  refine (sSecOk_any s _ M.out).mono ?_
  cases hk0 : Kw.ok s with
  | false =>
    obtain ⟨e1, e2, e3, e4, e5⟩ := made_not hk0
    rintro e w4 ⟨rfl, hb4⟩
    obtain ⟨p40, p41, p42, p43, p44⟩ := Has5.keep (b := w2.heap.size) (s := s) ⟨p30, p31, p32, p33, p34⟩ hb4 hl3
    rw [e4] at p43
    rw [e5] at p44
    have HB4 := hide ((unhide HB3).trans (hb4.mono (by omega)))
    have hle4 := HB4.out.size
    clear hb4 hk0 p30 p31 p32 p33 p34 e1 e2 e3 e4 e5
    go_wp2_with fail
    refine (keOk_any _).mono ?_
    rintro e w5 ⟨rfl, hb5⟩
    go_wp2_with fail
    go_ret
    exact ⟨rfl, (unhide HB4).trans (hb5.mono hle4)⟩
  | true =>
    have hP := parts_of hk0
    rintro e w4 ⟨rfl, hb4⟩
    obtain ⟨p40, p41, p42, p43, p44⟩ := Has5.keep (b := w2.heap.size) (s := s) ⟨p30, p31, p32, p33, p34⟩ hb4 hl3
    have hl4 : w2.heap.size < w4.heap.size := by have := hb4.size; omega
    have HB4 := hide ((unhide HB3).trans (hb4.mono (by omega)))
    have hle4 := HB4.out.size
    clear hb4 hk0 p30 p31 p32 p33 p34
    rcases hP with ⟨e1, e4, e5⟩ | ⟨n1, n4, hka, hsa, e5⟩ | ⟨e1, hka, hkb, hsz, hnb⟩
    · rw [e1] at p40
      rw [e4] at p43
      rw [e5] at p44
      clear e1 e4 e5
      go_wp2_with fail
      refine (keOk_any _).mono ?_
      rintro e w5 ⟨rfl, hb5⟩
      go_wp2_with fail
      go_ret
      exact ⟨rfl, (unhide HB4).trans (hb5.mono hle4)⟩
    · have f1 : (mOp s == 1) = false := by simpa using n1
      have f4 : (mOp s == 4) = false := by simpa using n4
      have fs : decide ((s.size : Int) ≤ ((mA s).size : Int)) = false := by simp; omega
      have fs2 : decide (s.size ≤ (mA s).size) = false := by simp; omega
      have fs3 : (mA s).size < s.size := by omega
      have HKA := hide hka
      have MA : Hid ((mA s).size ≤ maxLen) := le_maxLen (by omega)
      have P44 : w4.cell? ⟨w2.heap.size, 4, none⟩ = some (.string ⟨#[]⟩) := by rw [p44, e5]
      clear n1 n4 hka p44
      go_wp2_with fail
      refine (iSecOk_any (mA s) _ MA.out).mono ?_
      rw [HKA.out]
      rintro e w5 ⟨rfl, hb5⟩
      have q0 := keep1 hb5 p40 hl4
      have q3 := keep1 hb5 p43 hl4
      have q4 := keep1 hb5 P44 hl4
      have HB5 := hide ((unhide HB4).trans (hb5.mono hle4))
      clear hb5 p40 p41 p42 p43 P44 e5
      go_wp2_with fail
      go_ret
      exact ⟨rfl, unhide HB5⟩
    · rw [e1] at p40
      have fs : decide ((s.size : Int) ≤ ((mA s).size : Int)) = false := by simp; omega
      have fs2 : decide (s.size ≤ (mA s).size) = false := by simp; omega
      have fs3 : (mA s).size < s.size := by omega
      have HKA := hide hka
      have HKB := hide hkb
      have MA : Hid ((mA s).size ≤ maxLen) := le_maxLen (by omega)
      have MB : Hid ((mB s).size ≤ maxLen) := le_maxLen (by omega)
      have fe := isEmpty_no hnb
      have HSZ := hide hsz
      have bA : (mA s).size ≤ 700 := by omega
      have bB : (mB s).size ≤ 700 := by omega
      have feq : (((mA s).size : Int) + ((mB s).size : Int) == (s.size : Int) - 1) = true := by simp; omega
      clear e1 hka hkb hsz hnb
      go_wp2_with fail
      refine (iSecOk_any (mA s) _ MA.out).mono ?_
      rw [HKA.out]
      rintro e w5 ⟨rfl, hb5⟩
      have q0 := keep1 hb5 p40 hl4
      have q3 := keep1 hb5 p43 hl4
      have q4 := keep1 hb5 p44 hl4
      have hl5 : w2.heap.size < w5.heap.size := by have := hb5.size; omega
      have HB5 := hide ((unhide HB4).trans (hb5.mono hle4))
      have hle5 := HB5.out.size
      clear hb5 p40 p41 p42 p43 p44
      go_wp2_with fail
      refine (iSecOk_any (mB s) _ MB.out).mono ?_
      rw [HKB.out]
      rintro e w6 ⟨rfl, hb6⟩
      have r0 := keep1 hb6 q0 hl5
      have r3 := keep1 hb6 q3 hl5
      have r4 := keep1 hb6 q4 hl5
      have HB6 := hide ((unhide HB5).trans (hb6.mono hle5))
      clear hb6 q0 q3 q4
      go_wp2_with fail
      go_ret
      exact ⟨rfl, unhide HB6⟩

set_option maxRecDepth 100000 in
theorem lifted_FnSecParts (os : Os) (started : os.Started) (H : Type) (enc : TypeId × Value → H) :
    ReturnsInHanded {} Try.checked os 3 .any (Rows.fnSecPartsSpec.pre6 enc Try.prog Try.f3 Rows.fnSecPartsRow.domain false) (Rows.fnSecPartsSpec.post enc Try.prog Try.f3 false true false false) := by
  refine returnsInHanded_of_change (C := Try.checked) own started (by kernel_rfl) Try.func3
    (ChangeSpec.witness6 (enc := enc) (C := Try.checked) false ⟨#[], #[.slice none 0 0], []⟩ 8 (by kernel_rfl) (by kernel_rfl) (by kernel_rfl) (by kernel_rfl)) ?_
  intro W base args ds gs before hval0 hW hcnd _
  have hval : ∀ (j : Nat) t v, Try.f3.params[j]? = some t → args[j]? = some v → Value.okWide Try.prog W .any base t v := hval0
  have hW' := hW
  obtain ⟨p, q, hA0, hV, rfl, hfz, hnd⟩ := hW
  have hA : DataW.TrodAll enc Try.prog W 0 (fun _ => true) true Try.f3.params.toList args.toList ds p := hA0
  rw [Try.params3] at hA hval
  obtain ⟨v0, vs0, d0, ds0, p0, q0, hargs, rfl, rfl, h0, r0⟩ := trodAll_cons hA
  obtain ⟨rfl, rfl, rfl⟩ := trodAll_nil r0
  obtain rfl : args = #[v0] := by cases args; simp_all
  obtain ⟨rfl, rfl⟩ := trodVars_none hV
  obtain ⟨a0, len0, cap0, rfl⟩ := okWide_slice Try.underlying22 (hval 0 22 v0 rfl rfl)
  have k0 := h0
  have lt0 : ∀ x ∈ p0, x.block < W.heap.size := by obtain ⟨m, hm⟩ := k0; exact DataW.trod_lt m _ _ _ hm
  obtain ⟨z0, w0⟩ : ∃ zs, IsRow .u8 W a0 len0 cap0 zs := by
    obtain ⟨fuel, hf⟩ := h0
    rcases open_ints Try.underlying22 Try.underlying5 (by kernel_rfl) hf with ⟨hcs, _⟩ | ⟨x, l, c, zs, hcs, _, hl, hm, hz, _, hcell, hwz⟩
    · simp [Value.cells] at hcs
      obtain ⟨rfl, rfl, rfl⟩ := hcs
      exact ⟨[], .inl ⟨rfl, rfl, rfl, rfl⟩⟩
    · simp [Value.cells] at hcs
      obtain ⟨rfl, rfl, rfl⟩ := hcs
      exact ⟨zs, .inr ⟨_, rfl, hl, hm, by simpa using hz, hcell, hwz⟩⟩
  clear hA0 hval0
  refine (walk_FnSecParts a0 len0 cap0 z0 W w0).mono fun e W' ⟨he, bel⟩ => ?_
  subst he
  exact ⟨_, rfl, _, _, _, [], _, [], hW', trodAll_mk1 (shut_bool Try.underlying4 _), (trodAll_cons_mk (Below.trod laidOut (by kernel_rfl) (of_decide_eq_true (by kernel_rfl)) k0 bel lt0) trodAll_mk0), rfl, bel.frame _, fun h => by cases h⟩

theorem fnSecParts_holds : Rows.FnSecPartsSaid :=
  OpenClaim.holds_of_wide 3 Try.f3 rfl rfl rfl rfl rfl rfl rfl ⟨rfl, rfl, rfl, rfl, rfl⟩ rfl rfl rfl rfl rfl (by kernel_rfl) Try.func3 (by kernel_rfl)
    (of_decide_eq_true (by kernel_rfl)) (by unfold Func.isWrapper; first | (rw [if_pos (by decide +kernel)]; kernel_rfl) | (rw [if_neg (by decide +kernel)]; exact ⟨rfl, rfl⟩))
    (fun os started H enc _ => lifted_FnSecParts os started H enc)

#print axioms fnSecParts_holds
end Go.Proofs.Ytkhjolfofcnhiai
