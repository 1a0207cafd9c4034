/-
  Proved: at every code the law FnTagTwo returns true, and nothing that was there is written. No condition.
-/
import Derived.Test.YtdfpeaenbmgihaaGreatWB24
namespace Go.Proofs.YtdfpeaenbmgihaaGreat
set_option maxHeartbeats 64000000
set_option maxRecDepth 100000
open Go.ChangeShapes Go.WideShapes Go.ChangeAt Go.RowKit
open Go.ChangeMaps (open_string shut_string)
set_option linter.unusedVariables false
theorem pre_iff (s t : ByteArray) : preB s t = true ↔ t.size ≤ s.size ∧ s.extract 0 t.size = t := by
 unfold preB; split
 · rename_i h; exact ⟨fun q => ⟨h, toList_eq.1 q⟩, fun q => toList_eq.2 q.2⟩
 · rename_i h; simp only [Bool.false_eq_true, false_iff]; exact fun q => h q.1
theorem pre_head (s : ByteArray) (k : Nat) (hk : k ≤ s.size) : preB s (s.extract 0 k) = true := by rw [pre_iff]; (have e : (s.extract 0 k).size = k := by rw [ByteArray.size_extract]; omega); rw [e]; exact ⟨hk, rfl⟩
theorem pre_two (s t : ByteArray) (k : Nat) (hk : k ≤ s.size) (h : preB s t = true) : preB (s.extract 0 k) t = true ∨ preB t (s.extract 0 k) = true := by
 obtain ⟨h1, h2⟩ := (pre_iff s t).1 h; (have e : (s.extract 0 k).size = k := by rw [ByteArray.size_extract]; omega); by_cases q : t.size ≤ k
 · refine .inl ((pre_iff _ _).2 ⟨by omega, ?_⟩); rw [ByteArray.extract_extract]; rw [show min (0 + t.size) k = t.size by omega]; exact h2
 · refine .inr ((pre_iff _ _).2 ⟨by omega, ?_⟩); rw [e, ← h2, ByteArray.extract_extract, show min (0 + k) t.size = k by omega]
theorem walk_FnTagTwo (a0 : Option Addr) (len0 cap0 : Nat) (z0 : List Int) (a1 : Option Addr) (len1 cap1 : Nat) (z1 : List Int) (w : World) (w0 : IsRow .u8 w a0 len0 cap0 z0) (w1 : IsRow .u8 w a1 len1 cap1 z1) : Calls Tryz.prog 4 #[.slice a0 len0 cap0, .slice a1 len1 cap1] w fun e w' => e = .returned (.bool true) ∧ Below w.heap.size w w' := by
 have hR := hide w0; clear w0 w1; by_cases h : (1048576 : Int) < (len0 : Int)
 · go_enter Tryz.func4, Tryz.ntmps4; (go_wp2_with fail); go_ret; exact ⟨rfl, Below.refl _ _⟩
 (have h2 : decide ((1048576 : Int) < (len0 : Int)) = false := by simpa using h); clear h; by_cases h : (1048576 : Int) < (len1 : Int)
 · go_enter Tryz.func4, Tryz.ntmps4; (go_wp2_with fail); go_ret; exact ⟨rfl, Below.refl _ _⟩
 (have h3 : decide ((1048576 : Int) < (len1 : Int)) = false := by simpa using h); clear h; go_enter Tryz.func4, Tryz.ntmps4; (go_wp2_with fail); refine (DrawTagHas_any a0 len0 cap0 z0 _ hR.out).mono ?_; rintro e w1 ⟨s, t, rfl, hs, ht, hb1⟩; have HB := hide hb1; clear hb1 hR; obtain ⟨r, hr⟩ : ∃ r, preB s t = r := ⟨_, rfl⟩; have HR := hide hr; clear hr; obtain ⟨k, hk⟩ : ∃ k : Nat, len1 % (s.size + 1) = k := ⟨_, rfl⟩; (have hks : k ≤ s.size := by have := Nat.mod_lt len1 (show 0 < s.size + 1 by omega); omega); obtain ⟨d, hd⟩ : ∃ d : Nat, s.size + 1 = d := ⟨_, rfl⟩; rw [hd] at hk; (have i1 : IntKind.i64.wrap ((s.size : Int) + 1) = (d : Int) := by rw [show (s.size : Int) + 1 = (d : Int) by omega]; simp [IntKind.wrap, IntKind.bits, IntKind.signed]; omega); (have i2 : IntKind.i64.wrap ((len1 : Int).tmod (d : Int)) = (k : Int) := by rw [show (len1 : Int).tmod (d : Int) = (k : Int) by rw [← hk]; exact (Int.ofNat_tmod len1 d).symm]; simp [IntKind.wrap, IntKind.bits, IntKind.signed]; omega); (have i5 : (len1 : Int) % (d : Int) = (k : Int) := by rw [← hk]; exact (Int.natCast_emod len1 d).symm); (have hne : ¬ (d : Int) = 0 := by omega); (have hne2 : ¬ d = 0 := by omega); (have hdp : 0 < d := by omega); clear hd; (have h0 : (0 : Int) ≤ (k : Int) := by omega); (have h1 : (k : Int) ≤ (s.size : Int) := by omega); have HH := hide (pre_head s k hks); have HT := hide (pre_two s t k hks); clear hk; (go_wp2_with fail); refine (iTagHas_any s t _).mono ?_; rw [HR.out]; rintro e wz ⟨rfl, hz⟩; subst hz; (go_wp2_with fail); refine (sTagHas_any s t _).mono ?_; rw [HR.out]; rintro e wz ⟨rfl, hz⟩; subst hz; (have hrr : (r != r) = false := by cases r <;> rfl); (go_wp2_with fail); refine (iTagHas_any s (s.extract 0 k) _).mono ?_; rw [HH.out]; rintro e wz ⟨rfl, hz⟩; subst hz; (go_wp2_with fail); refine (iTagHas_any s t _).mono ?_; rw [HR.out]; rintro e wz ⟨rfl, hz⟩; subst hz
 cases r with
 | false =>
  (go_wp2_with fail); refine (keOk_any _).mono ?_; rintro e w6 ⟨rfl, hb6⟩; have HB6 := hide (HB.out.trans (hb6.mono HB.out.size)); clear hb6; (go_wp2_with fail); go_ret; exact ⟨rfl, unhide HB6⟩
 | true =>
  (go_wp2_with fail); refine (iTagHas_any (s.extract 0 k) t _).mono ?_; obtain ⟨x, hx⟩ : ∃ x, preB (s.extract 0 k) t = x := ⟨_, rfl⟩; rw [hx]; rintro e wz ⟨rfl, hz⟩; subst hz
  cases x with
  | true =>
   (go_wp2_with fail); go_ret; exact ⟨rfl, unhide HB⟩
  | false =>
   have HY := hide ((HT.out HR.out).resolve_left (by rw [hx]; decide)); (go_wp2_with fail); refine (iTagHas_any t (s.extract 0 k) _).mono ?_; rw [HY.out]; rintro e wz ⟨rfl, hz⟩; subst hz; (go_wp2_with fail); go_ret; exact ⟨rfl, unhide HB⟩
theorem lifted_FnTagTwo (os : Os) (started : os.Started) (H : Type) (enc : TypeId × Value → H) :
    ReturnsInHanded {} Tryz.checked os 4 .any (Rows.fnTagTwoSpec.pre6 enc Tryz.prog Tryz.f4 Rows.fnTagTwoRow.domain false) (Rows.fnTagTwoSpec.post enc Tryz.prog Tryz.f4 false true false false) := by
  refine returnsInHanded_of_change (C := Tryz.checked) own started (by kernel_rfl) Tryz.func4
    (ChangeSpec.witness6 (enc := enc) (C := Tryz.checked) false ⟨#[], #[.slice none 0 0, .slice none 0 0], []⟩ 8 (by kernel_rfl) (by kernel_rfl) (by kernel_rfl) (by kernel_rfl)) ?_
  intro W base args ds gs before hval0 hW hcnd _
  have hval : ∀ (j : Nat) t v, Tryz.f4.params[j]? = some t → args[j]? = some v → Value.okWide Tryz.prog W .any base t v := hval0
  have hW' := hW
  obtain ⟨p, q, hA0, hV, rfl, hfz, hnd⟩ := hW
  have hA : DataW.TrodAll enc Tryz.prog W 0 (fun _ => true) true Tryz.f4.params.toList args.toList ds p := hA0
  rw [Tryz.params4] at hA hval
  obtain ⟨v0, vs0, d0, ds0, p0, q0, hargs, rfl, rfl, h0, r0⟩ := trodAll_cons hA
  obtain ⟨v1, vs1, d1, ds1, p1, q1, rfl, rfl, rfl, h1, r1⟩ := trodAll_cons r0
  obtain ⟨rfl, rfl, rfl⟩ := trodAll_nil r1
  obtain rfl : args = #[v0, v1] := by cases args; simp_all
  obtain ⟨rfl, rfl⟩ := trodVars_none hV
  obtain ⟨a0, len0, cap0, rfl⟩ := okWide_slice Tryz.underlying22 (hval 0 22 v0 rfl rfl)
  have k0 := h0
  have lt0 : ∀ x ∈ p0, x.block < W.heap.size := by obtain ⟨m, hm⟩ := k0; exact DataW.trod_lt m _ _ _ hm
  obtain ⟨z0, w0⟩ : ∃ zs, IsRow .u8 W a0 len0 cap0 zs := by
    obtain ⟨fuel, hf⟩ := h0
    rcases open_ints Tryz.underlying22 Tryz.underlying5 (by kernel_rfl) hf with ⟨hcs, _⟩ | ⟨x, l, c, zs, hcs, _, hl, hm, hz, _, hcell, hwz⟩
    · simp [Value.cells] at hcs
      obtain ⟨rfl, rfl, rfl⟩ := hcs
      exact ⟨[], .inl ⟨rfl, rfl, rfl, rfl⟩⟩
    · simp [Value.cells] at hcs
      obtain ⟨rfl, rfl, rfl⟩ := hcs
      exact ⟨zs, .inr ⟨_, rfl, hl, hm, by simpa using hz, hcell, hwz⟩⟩
  obtain ⟨a1, len1, cap1, rfl⟩ := okWide_slice Tryz.underlying22 (hval 1 22 v1 rfl rfl)
  have k1 := h1
  have lt1 : ∀ x ∈ p1, x.block < W.heap.size := by obtain ⟨m, hm⟩ := k1; exact DataW.trod_lt m _ _ _ hm
  obtain ⟨z1, w1⟩ : ∃ zs, IsRow .u8 W a1 len1 cap1 zs := by
    obtain ⟨fuel, hf⟩ := h1
    rcases open_ints Tryz.underlying22 Tryz.underlying5 (by kernel_rfl) hf with ⟨hcs, _⟩ | ⟨x, l, c, zs, hcs, _, hl, hm, hz, _, hcell, hwz⟩
    · simp [Value.cells] at hcs
      obtain ⟨rfl, rfl, rfl⟩ := hcs
      exact ⟨[], .inl ⟨rfl, rfl, rfl, rfl⟩⟩
    · simp [Value.cells] at hcs
      obtain ⟨rfl, rfl, rfl⟩ := hcs
      exact ⟨zs, .inr ⟨_, rfl, hl, hm, by simpa using hz, hcell, hwz⟩⟩
  clear hA0 hval0
  refine (walk_FnTagTwo a0 len0 cap0 z0 a1 len1 cap1 z1 W w0 w1).mono fun e W' ⟨he, bel⟩ => ?_
  subst he
  exact ⟨_, rfl, _, _, _, [], _, [], hW', trodAll_mk1 (shut_bool Tryz.underlying4 _), (trodAll_cons_mk (Below.trod laidOut (by kernel_rfl) (of_decide_eq_true (by kernel_rfl)) k0 bel lt0) (trodAll_cons_mk (Below.trod laidOut (by kernel_rfl) (of_decide_eq_true (by kernel_rfl)) k1 bel lt1) trodAll_mk0)), rfl, bel.frame _, fun h => by cases h⟩
theorem fnTagTwo_holds : Rows.FnTagTwoSaid :=
  OpenClaim.holds_of_wide 4 Tryz.f4 rfl rfl rfl rfl rfl rfl rfl ⟨rfl, rfl, rfl, rfl, rfl⟩ rfl rfl rfl rfl rfl (by kernel_rfl) Tryz.func4 (by kernel_rfl)
    (of_decide_eq_true (by kernel_rfl)) (by unfold Func.isWrapper; first | (rw [if_pos (by decide +kernel)]; kernel_rfl) | (rw [if_neg (by decide +kernel)]; exact ⟨rfl, rfl⟩))
    (fun os started H enc _ => lifted_FnTagTwo os started H enc)
end Go.Proofs.YtdfpeaenbmgihaaGreat
