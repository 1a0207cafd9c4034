/-
  Proved: at every two codes the law FnMakNew returns true (MakNew of one and a number is a secret's name, made anew by that one, and that one; two that differ in one of both are two), and nothing that was there is written. No condition.
-/
import Derived.Test.YtkhjolfofcnhiaaFrame
import Derived.Test.YtkhjolfofcnhiaaNewI
import Derived.Test.YtkhjolfofcnhiaaMade2
import Derived.Test.YtkhjolfofcnhiaaMade3
import Derived.Test.YtkhjolfofcnhiaaDraw4
import Derived.Test.YtkhjolfofcnhiaaDraw8
namespace Go.Proofs.Ytkhjolfofcnhiaa
open Go.ChangeShapes Go.WideShapes Go.ChangeAt Go.RowKit
open Go.ChangeMaps (open_string shut_string)
set_option linter.unusedVariables false

theorem how_cells6 (op who n : Int) (a b : ByteArray) : howV op who n a b = .agg #[.int .i64 op, .int .i64 who, .int .i64 n, .string a, .string b] := rfl

theorem IsRow.below6 {k : IntKind} {w w' : World} {a : Option Addr} {len cap : Nat} {zs : List Int} (h : IsRow k w a len cap zs) (hb : Below w.heap.size w w') : IsRow k w' a len cap zs := by
  rcases h with h | ⟨x, h1, h2, h3, h4, h5, h6⟩
  · exact .inl h
  · exact .inr ⟨x, h1, h2, h3, h4, fun i hi => (hb.cell (p := x.add i) (below_lt (h5 i hi))).trans (h5 i hi), h6⟩

theorem new_fin : ∀ (a : Fin 8) (b : Fin 100), 1 ≤ b.val → Kw.ok (newName a.val b.val) = true ∧ mOp (newName a.val b.val) = 1 ∧ mWho (newName a.val b.val) = (a.val : Int) ∧ mN (newName a.val b.val) = (b.val : Int) ∧ mA (newName a.val b.val) = ⟨#[]⟩ ∧ mB (newName a.val b.val) = ⟨#[]⟩ := by
  decide +kernel

theorem new_tells {who n : Int} (h0 : 0 ≤ who) (h1 : who < 8) (h2 : 1 ≤ n) (h3 : n ≤ 99) : Tells (mkNew who n) 1 who n ⟨#[]⟩ ⟨#[]⟩ := by
  have h := new_fin ⟨who.toNat, by omega⟩ ⟨n.toNat, by omega⟩ (by show 1 ≤ n.toNat; omega)
  unfold mkNew
  rw [if_pos ⟨h0, h1, h2, h3⟩]
  obtain ⟨t0, t1, t2, t3, t4, t5⟩ := h
  have e1 : (who.toNat : Int) = who := by omega
  have e2 : (n.toNat : Int) = n := by omega
  exact ⟨t0, t1, t2.trans e1, t3.trans e2, t4, t5⟩

theorem new_bad {who n : Int} (h : who < 0 ∨ 8 ≤ who ∨ n < 1 ∨ 99 < n) : mkNew who n = ⟨#[]⟩ := by unfold mkNew; rw [if_neg (by omega)]

theorem new_inj {who n other m : Int} (h0 : 0 ≤ who) (h1 : who < 8) (h2 : 1 ≤ n) (h3 : n ≤ 99) (h : who ≠ other ∨ n ≠ m) : ((mkNew who n).toList == (mkNew other m).toList) = false := by
  cases q : ((mkNew who n).toList == (mkNew other m).toList) with
  | false => rfl
  | true =>
    exfalso
    have e := beq_list.1 q
    obtain ⟨t0, t1, t2, t3, t4, t5⟩ := new_tells h0 h1 h2 h3
    by_cases hb : other < 0 ∨ 8 ≤ other ∨ m < 1 ∨ 99 < m
    · rw [e, new_bad hb, ok_empty] at t0
      cases t0
    · obtain ⟨u0, u1, u2, u3, u4, u5⟩ := new_tells (who := other) (n := m) (by omega) (by omega) (by omega) (by omega)
      rw [e] at t2 t3
      omega

set_option maxRecDepth 100000 in
set_option maxHeartbeats 8000000 in
theorem walk_FnMakNew (a0 : Option Addr) (len0 cap0 : Nat) (z0 : List Int) (a1 : Option Addr) (len1 cap1 : Nat) (z1 : List Int) (w : World) (w0 : IsRow .u8 w a0 len0 cap0 z0) (w1 : IsRow .u8 w a1 len1 cap1 z1) :
    Calls Try.prog 3 #[.slice a0 len0 cap0, .slice a1 len1 cap1] w fun e w' => e = .returned (.bool true) ∧ Below w.heap.size w w' := by
  have hR := hide w0
  have hS := hide w1
  clear w0 w1
  by_cases h : (1048576 : Int) < (len0 : Int)
  · go_enter Try.func3, Try.ntmps3
    go_wp2_with fail
    go_ret
    exact ⟨rfl, Below.refl _ _⟩
  have h2 : decide ((1048576 : Int) < (len0 : Int)) = false := by simpa using h
  clear h
  by_cases h : (1048576 : Int) < (len1 : Int)
  · go_enter Try.func3, Try.ntmps3
    go_wp2_with fail
    go_ret
    exact ⟨rfl, Below.refl _ _⟩
  have h3 : decide ((1048576 : Int) < (len1 : Int)) = false := by simpa using h
  clear h
  go_enter Try.func3, Try.ntmps3
  go_wp2_with fail
  refine (DrawMakNew_any a0 len0 cap0 z0 _ (unhide hR)).mono ?_
  rintro e w0 ⟨who, n, rfl, hw1, hw2, hn1, hn2, hb0⟩
  have HB0 := hide hb0
  have hle0 := hb0.size
  have hS0 := hide (IsRow.below6 (unhide hS) hb0)
  clear hb0 hR hS
  go_wp2_with fail
  refine (DrawMakNew_any a1 len1 cap1 z1 _ (unhide hS0)).mono ?_
  rintro e w1 ⟨other, m, rfl, ho1, ho2, hm1, hm2, hb1⟩
  have HB1 := hide ((unhide HB0).trans (hb1.mono hle0))
  have hle1 := HB1.out.size
  clear hb1 hS0 HB0 hle0
  have hcase : (who < 0) ∨ (decide (who < 0) = false ∧ 8 ≤ who) ∨ (decide (who < 0) = false ∧ decide (8 ≤ who) = false ∧ n < 1) ∨ (decide (who < 0) = false ∧ decide (8 ≤ who) = false ∧ decide (n < 1) = false ∧ 99 < n) ∨ (decide (who < 0) = false ∧ decide (8 ≤ who) = false ∧ decide (n < 1) = false ∧ decide (99 < n) = false) := by
    simp only [decide_eq_false_iff_not]
    omega
  have hbad : who < 0 ∨ 8 ≤ who ∨ n < 1 ∨ 99 < n → Hid (mkNew who n = ⟨#[]⟩) := fun h => new_bad h
  rcases hcase with c1 | ⟨c1, c2⟩ | ⟨c1, c2, c3⟩ | ⟨c1, c2, c3, c4⟩ | ⟨c1, c2, c3, c4⟩
  case inr.inr.inr.inr =>
    obtain ⟨t0, t1, t2, t3, t4, t5⟩ := new_tells (who := who) (n := n) (by simpa using c1) (by simpa using c2) (by simpa using c3) (by simpa using c4)
    have T := hide (And.intro t1 (And.intro t2 (And.intro t3 (And.intro t4 t5))))
    have HK := hide t0
    have MS : Hid ((mkNew who n).size ≤ maxLen) := le_maxLen (by have := mkNew_300 who n; omega)
    have hlast : (who = other ∧ n = m) ∨ (who ≠ other ∧ ((mkNew who n).toList == (mkNew other m).toList) = false) ∨ (who = other ∧ n ≠ m ∧ ((mkNew who n).toList == (mkNew other m).toList) = false) := by
      have hi := fun h => new_inj (who := who) (n := n) (other := other) (m := m) (by simpa using c1) (by simpa using c2) (by simpa using c3) (by simpa using c4) h
      by_cases d1 : who = other
      · by_cases d2 : n = m
        · exact .inl ⟨d1, d2⟩
        · exact .inr (.inr ⟨d1, d2, hi (.inr d2)⟩)
      · exact .inr (.inl ⟨d1, hi (.inl d1)⟩)
    clear hbad hw1 hw2 hn1 hn2 ho1 ho2 hm1 hm2 t0 t1 t2 t3 t4 t5
    rcases hlast with ⟨rfl, rfl⟩ | ⟨d1, d3⟩ | ⟨rfl, d2, d3⟩
    case' inr.inl => have d1' : (who == other) = false := by simpa using d1
    case' inr.inr => have d2' : (n == m) = false := by simpa using d2
    all_goals
      go_wp2_with fail
      refine (iMakNew_any _ _ _).mono ?_
      rintro e w2 ⟨rfl, hb2⟩
      have HB2 := hide ((unhide HB1).trans (hb2.mono hle1))
      have hle2 := HB2.out.size
      clear hb2
      go_wp2_with fail
      refine (iMakNew_any _ _ _).mono ?_
      rintro e w3 ⟨rfl, hb3⟩
      have HB3 := hide ((unhide HB2).trans (hb3.mono hle2))
      have hle3 := HB3.out.size
      clear hb3
      go_wp2_with fail
      refine (sMakNew_any _ _ _).mono ?_
      rintro e w4 ⟨rfl, hb4⟩
      have HB4 := hide ((unhide HB3).trans (hb4.mono hle3))
      have hle4 := HB4.out.size
      clear hb4
      go_wp2_with fail
      refine (sMakNew_any _ _ _).mono ?_
      rintro e w5 ⟨rfl, hb5⟩
      have HB5 := hide ((unhide HB4).trans (hb5.mono hle4))
      have hle5 := HB5.out.size
      clear hb5
      go_wp2_with fail
      refine (iSecMade_any _ _ MS.out).mono ?_
      rw [T.out.1, T.out.2.1, T.out.2.2.1, T.out.2.2.2.1, T.out.2.2.2.2, how_cells6]
      rintro e w6 ⟨rfl, hb6⟩
      have HB6 := hide ((unhide HB5).trans (hb6.mono hle5))
      have hle6 := HB6.out.size
      clear hb6
      go_wp2_with fail
      refine (iSecOk_any _ _ MS.out).mono ?_
      rw [HK.out]
      rintro e w7 ⟨rfl, hb7⟩
      have q0 := keep1 (b := w6.heap.size) (o := 0) (v := .int .i64 1) hb7 (by simp [go_sem]) (by simp)
      have q1 := keep1 (b := w6.heap.size) (o := 1) (v := .int .i64 who) hb7 (by simp [go_sem]) (by simp)
      have q2 := keep1 (b := w6.heap.size) (o := 2) (v := .int .i64 n) hb7 (by simp [go_sem]) (by simp)
      have q3 := keep1 (b := w6.heap.size) (o := 3) (v := .string ⟨#[]⟩) hb7 (by simp [go_sem]) (by simp)
      have q4 := keep1 (b := w6.heap.size) (o := 4) (v := .string ⟨#[]⟩) hb7 (by simp [go_sem]) (by simp)
      have HB7 := hide (((unhide HB6).alloc hle6 _).trans (hb7.mono (by simp; omega)))
      have hle7 := HB7.out.size
      clear hb7
      go_wp2_with fail
      go_ret
      exact ⟨rfl, unhide HB7⟩
  all_goals
    have hE := hbad (by omega)
    clear hbad hw1 hw2 hn1 hn2 ho1 ho2 hm1 hm2
    go_wp2_with fail
    refine (iMakNew_any who n _).mono ?_
    rw [hE.out]
    rintro e w2 ⟨rfl, hb2⟩
    have HB2 := hide ((unhide HB1).trans (hb2.mono hle1))
    have hle2 := HB2.out.size
    clear hb2
    go_wp2_with fail
    refine (iMakNew_any other m _).mono ?_
    rintro e w3 ⟨rfl, hb3⟩
    have HB3 := hide ((unhide HB2).trans (hb3.mono hle2))
    have hle3 := HB3.out.size
    clear hb3
    go_wp2_with fail
    refine (sMakNew_any who n _).mono ?_
    rw [hE.out]
    rintro e w4 ⟨rfl, hb4⟩
    have HB4 := hide ((unhide HB3).trans (hb4.mono hle3))
    have hle4 := HB4.out.size
    clear hb4
    go_wp2_with fail
    refine (sMakNew_any other m _).mono ?_
    rintro e w5 ⟨rfl, hb5⟩
    have HB5 := hide ((unhide HB4).trans (hb5.mono hle4))
    have hle5 := HB5.out.size
    clear hb5
    go_wp2_with fail
    refine (keOk_any _).mono ?_
    rintro e w6 ⟨rfl, hb6⟩
    have HB6 := hide ((unhide HB5).trans (hb6.mono hle5))
    clear hb6
    go_wp2_with fail
    go_ret
    exact ⟨rfl, unhide HB6⟩

set_option maxRecDepth 100000 in
theorem lifted_FnMakNew (os : Os) (started : os.Started) (H : Type) (enc : TypeId × Value → H) :
    ReturnsInHanded {} Try.checked os 3 .any (Rows.fnMakNewSpec.pre6 enc Try.prog Try.f3 Rows.fnMakNewRow.domain false) (Rows.fnMakNewSpec.post enc Try.prog Try.f3 false true false false) := by
  refine returnsInHanded_of_change (C := Try.checked) own started (by kernel_rfl) Try.func3
    (ChangeSpec.witness6 (enc := enc) (C := Try.checked) false ⟨#[], #[.slice none 0 0, .slice none 0 0], []⟩ 8 (by kernel_rfl) (by kernel_rfl) (by kernel_rfl) (by kernel_rfl)) ?_
  intro W base args ds gs before hval0 hW hcnd _
  have hval : ∀ (j : Nat) t v, Try.f3.params[j]? = some t → args[j]? = some v → Value.okWide Try.prog W .any base t v := hval0
  have hW' := hW
  obtain ⟨p, q, hA0, hV, rfl, hfz, hnd⟩ := hW
  have hA : DataW.TrodAll enc Try.prog W 0 (fun _ => true) true Try.f3.params.toList args.toList ds p := hA0
  rw [Try.params3] at hA hval
  obtain ⟨v0, vs0, d0, ds0, p0, q0, hargs, rfl, rfl, h0, r0⟩ := trodAll_cons hA
  obtain ⟨v1, vs1, d1, ds1, p1, q1, rfl, rfl, rfl, h1, r1⟩ := trodAll_cons r0
  obtain ⟨rfl, rfl, rfl⟩ := trodAll_nil r1
  obtain rfl : args = #[v0, v1] := by cases args; simp_all
  obtain ⟨rfl, rfl⟩ := trodVars_none hV
  obtain ⟨a0, len0, cap0, rfl⟩ := okWide_slice Try.underlying22 (hval 0 22 v0 rfl rfl)
  have k0 := h0
  have lt0 : ∀ x ∈ p0, x.block < W.heap.size := by obtain ⟨m, hm⟩ := k0; exact DataW.trod_lt m _ _ _ hm
  obtain ⟨z0, w0⟩ : ∃ zs, IsRow .u8 W a0 len0 cap0 zs := by
    obtain ⟨fuel, hf⟩ := h0
    rcases open_ints Try.underlying22 Try.underlying5 (by kernel_rfl) hf with ⟨hcs, _⟩ | ⟨x, l, c, zs, hcs, _, hl, hm, hz, _, hcell, hwz⟩
    · simp [Value.cells] at hcs
      obtain ⟨rfl, rfl, rfl⟩ := hcs
      exact ⟨[], .inl ⟨rfl, rfl, rfl, rfl⟩⟩
    · simp [Value.cells] at hcs
      obtain ⟨rfl, rfl, rfl⟩ := hcs
      exact ⟨zs, .inr ⟨_, rfl, hl, hm, by simpa using hz, hcell, hwz⟩⟩
  obtain ⟨a1, len1, cap1, rfl⟩ := okWide_slice Try.underlying22 (hval 1 22 v1 rfl rfl)
  have k1 := h1
  have lt1 : ∀ x ∈ p1, x.block < W.heap.size := by obtain ⟨m, hm⟩ := k1; exact DataW.trod_lt m _ _ _ hm
  obtain ⟨z1, w1⟩ : ∃ zs, IsRow .u8 W a1 len1 cap1 zs := by
    obtain ⟨fuel, hf⟩ := h1
    rcases open_ints Try.underlying22 Try.underlying5 (by kernel_rfl) hf with ⟨hcs, _⟩ | ⟨x, l, c, zs, hcs, _, hl, hm, hz, _, hcell, hwz⟩
    · simp [Value.cells] at hcs
      obtain ⟨rfl, rfl, rfl⟩ := hcs
      exact ⟨[], .inl ⟨rfl, rfl, rfl, rfl⟩⟩
    · simp [Value.cells] at hcs
      obtain ⟨rfl, rfl, rfl⟩ := hcs
      exact ⟨zs, .inr ⟨_, rfl, hl, hm, by simpa using hz, hcell, hwz⟩⟩
  clear hA0 hval0
  refine (walk_FnMakNew a0 len0 cap0 z0 a1 len1 cap1 z1 W w0 w1).mono fun e W' ⟨he, bel⟩ => ?_
  subst he
  exact ⟨_, rfl, _, _, _, [], _, [], hW', trodAll_mk1 (shut_bool Try.underlying4 _), (trodAll_cons_mk (Below.trod laidOut (by kernel_rfl) (of_decide_eq_true (by kernel_rfl)) k0 bel lt0) (trodAll_cons_mk (Below.trod laidOut (by kernel_rfl) (of_decide_eq_true (by kernel_rfl)) k1 bel lt1) trodAll_mk0)), rfl, bel.frame _, fun h => by cases h⟩

theorem fnMakNew_holds : Rows.FnMakNewSaid :=
  OpenClaim.holds_of_wide 3 Try.f3 rfl rfl rfl rfl rfl rfl rfl ⟨rfl, rfl, rfl, rfl, rfl⟩ rfl rfl rfl rfl rfl (by kernel_rfl) Try.func3 (by kernel_rfl)
    (of_decide_eq_true (by kernel_rfl)) (by unfold Func.isWrapper; first | (rw [if_pos (by decide +kernel)]; kernel_rfl) | (rw [if_neg (by decide +kernel)]; exact ⟨rfl, rfl⟩))
    (fun os started H enc _ => lifted_FnMakNew os started H enc)

#print axioms fnMakNew_holds
end Go.Proofs.Ytkhjolfofcnhiaa
