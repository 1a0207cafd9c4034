/-
  Proved: at every two codes the law FnMakNext returns true (MakNext and MakKey of a secret's name are names, if they are not too long, tell that it is what they are made from, and are never the same, nor of two secrets one), and nothing that was there is written. No condition.
-/
import Derived.Test.YtkhjolfofcnhiaaFrame
import Derived.Test.YtkhjolfofcnhiaaMade2
import Derived.Test.YtkhjolfofcnhiaaMade3
import Derived.Test.YtkhjolfofcnhiaaDraw4
namespace Go.Proofs.Ytkhjolfofcnhiaa
open Go.ChangeShapes Go.WideShapes Go.ChangeAt Go.RowKit
open Go.ChangeMaps (open_string shut_string)
set_option linter.unusedVariables false

theorem how_cells5 (op who n : Int) (a b : ByteArray) : howV op who n a b = .agg #[.int .i64 op, .int .i64 who, .int .i64 n, .string a, .string b] := rfl

theorem IsRow.below {k : IntKind} {w w' : World} {a : Option Addr} {len cap : Nat} {zs : List Int} (h : IsRow k w a len cap zs) (hb : Below w.heap.size w w') : IsRow k w' a len cap zs := by
  rcases h with h | ⟨x, h1, h2, h3, h4, h5, h6⟩
  · exact .inl h
  · exact .inr ⟨x, h1, h2, h3, h4, fun i hi => (hb.cell (p := x.add i) (below_lt (h5 i hi))).trans (h5 i hi), h6⟩

theorem next_bad {s : ByteArray} (h : Kw.ok s = false ∨ 300 ≤ s.size) : mkNext s = ⟨#[]⟩ ∧ mkKey s = ⟨#[]⟩ := by
  have z1 := next_size s
  have z2 := key_size s
  unfold mkNext mkKey
  by_cases hk : Kw.ok s = true
  · have hs : 300 ≤ s.size := by
      rcases h with h | h
      · rw [hk] at h; cases h
      · exact h
    rw [if_pos hk, if_pos hk]
    unfold cap
    rw [if_neg (by omega), if_neg (by omega)]
    exact ⟨rfl, rfl⟩
  · rw [if_neg hk, if_neg hk]; exact ⟨rfl, rfl⟩
theorem next_good {s : ByteArray} (hk : Kw.ok s = true) (hs : s.size < 300) : mkNext s = nextT s ∧ mkKey s = keyT s := by
  unfold mkNext mkKey
  rw [if_pos hk, if_pos hk, cap_self (made_next hk hs).1, cap_self (made_key hk hs).1]
  exact ⟨rfl, rfl⟩
theorem next_swap {s t : ByteArray} (hk : Kw.ok s = true) (hs : s.size < 300) (ht : Kw.ok t = true) : (mkNext t = nextT s) ↔ s = t := by
  by_cases h : t.size < 300
  · rw [(next_good ht h).1]
    exact ⟨fun e => (next_inj e).symm, fun e => by rw [e]⟩
  · rw [(next_bad (s := t) (.inr (by omega))).1]
    constructor
    · intro e
      have := congrArg ByteArray.size e
      rw [next_size] at this
      have z : (⟨#[]⟩ : ByteArray).size = 0 := rfl
      omega
    · intro e; subst e; omega

set_option maxRecDepth 100000 in
set_option maxHeartbeats 8000000 in
theorem walk_FnMakNext (a0 : Option Addr) (len0 cap0 : Nat) (z0 : List Int) (a1 : Option Addr) (len1 cap1 : Nat) (z1 : List Int) (w : World) (w0 : IsRow .u8 w a0 len0 cap0 z0) (w1 : IsRow .u8 w a1 len1 cap1 z1) :
    Calls Try.prog 5 #[.slice a0 len0 cap0, .slice a1 len1 cap1] w fun e w' => e = .returned (.bool true) ∧ Below w.heap.size w w' := by
  have hR := hide w0
  have hS := hide w1
  clear w0 w1
  by_cases h : (1048576 : Int) < (len0 : Int)
  · go_enter Try.func5, Try.ntmps5
    go_wp2_with fail
    go_ret
    exact ⟨rfl, Below.refl _ _⟩
  have h2 : decide ((1048576 : Int) < (len0 : Int)) = false := by simpa using h
  clear h
  by_cases h : (1048576 : Int) < (len1 : Int)
  · go_enter Try.func5, Try.ntmps5
    go_wp2_with fail
    go_ret
    exact ⟨rfl, Below.refl _ _⟩
  have h3 : decide ((1048576 : Int) < (len1 : Int)) = false := by simpa using h
  clear h
  go_enter Try.func5, Try.ntmps5
  go_wp2_with fail
  refine (DrawMakNext_any a0 len0 cap0 z0 _ (unhide hR)).mono ?_
  rintro e w0 ⟨s, rfl, hs, hb0⟩
  have M : Hid (s.size ≤ maxLen) := le_maxLen (by omega)
  have HB0 := hide hb0
  have hle0 := hb0.size
  have hS0 := hide (IsRow.below (unhide hS) hb0)
  clear hb0 hR hS
  go_wp2_with fail
  refine (DrawMakKey_any a1 len1 cap1 z1 _ (unhide hS0)).mono ?_
  rintro e w1 ⟨t, rfl, ht, hb1⟩
  have N : Hid (t.size ≤ maxLen) := le_maxLen (by omega)
  have HB1 := hide ((unhide HB0).trans (hb1.mono hle0))
  have hle1 := HB1.out.size
  clear hb1 hS0
  by_cases hbad : Kw.ok s = false ∨ 300 ≤ s.size
  · have hE : Hid (mkNext s = ⟨#[]⟩ ∧ mkKey s = ⟨#[]⟩) := next_bad hbad
    have HBAD := hide hbad
    clear hbad
    go_wp2_with fail
    refine (iMakNext_any s _ M.out).mono ?_
    rw [hE.out.1]
    rintro e w2 ⟨rfl, hb2⟩
    have HB2 := hide ((unhide HB1).trans (hb2.mono hle1))
    have hle2 := HB2.out.size
    clear hb2
    go_wp2_with fail
    refine (iMakKey_any t _ N.out).mono ?_
    rintro e w3 ⟨rfl, hb3⟩
    have HB3 := hide ((unhide HB2).trans (hb3.mono hle2))
    have hle3 := HB3.out.size
    clear hb3
    go_wp2_with fail
    refine (sMakNext_any s _ M.out).mono ?_
    rw [hE.out.1]
    rintro e w4 ⟨rfl, hb4⟩
    have HB4 := hide ((unhide HB3).trans (hb4.mono hle3))
    have hle4 := HB4.out.size
    clear hb4
    go_wp2_with fail
    refine (sMakKey_any t _ N.out).mono ?_
    rintro e w5 ⟨rfl, hb5⟩
    have HB5 := hide ((unhide HB4).trans (hb5.mono hle4))
    have hle5 := HB5.out.size
    clear hb5
    go_wp2_with fail
    refine (iMakKey_any s _ M.out).mono ?_
    rw [hE.out.2]
    rintro e w6 ⟨rfl, hb6⟩
    have HB6 := hide ((unhide HB5).trans (hb6.mono hle5))
    have hle6 := HB6.out.size
    clear hb6
    go_wp2_with fail
    refine (sMakKey_any s _ M.out).mono ?_
    rw [hE.out.2]
    rintro e w7 ⟨rfl, hb7⟩
    have HB7 := hide ((unhide HB6).trans (hb7.mono hle6))
    have hle7 := HB7.out.size
    clear hb7
    go_wp2_with fail
    refine (sSecOk_any s _ M.out).mono ?_
    cases hk : Kw.ok s with
    | false =>
      rintro e w8 ⟨rfl, hb8⟩
      have HB8 := hide ((unhide HB7).trans (hb8.mono hle7))
      have hle8 := HB8.out.size
      clear hb8 hk
      go_wp2_with fail
      refine (iMakKey_any s _ M.out).mono ?_
      rw [hE.out.2]
      rintro e w9 ⟨rfl, hb9⟩
      have HB9 := hide ((unhide HB8).trans (hb9.mono hle8))
      have hle9 := HB9.out.size
      clear hb9
      go_wp2_with fail
      refine (keOk_any _).mono ?_
      rintro e w10 ⟨rfl, hb10⟩
      have HB10 := hide ((unhide HB9).trans (hb10.mono hle9))
      have hle10 := HB10.out.size
      clear hb10
      go_wp2_with fail
      go_ret
      exact ⟨rfl, unhide HB10⟩
    | true =>
      have hsz : (300 : Int) ≤ (s.size : Int) := by
        rcases HBAD.out with q | q
        · rw [hk] at q; cases q
        · omega
      rintro e w8 ⟨rfl, hb8⟩
      have HB8 := hide ((unhide HB7).trans (hb8.mono hle7))
      have hle8 := HB8.out.size
      clear hb8 hk
      go_wp2_with fail
      refine (iMakKey_any s _ M.out).mono ?_
      rw [hE.out.2]
      rintro e w9 ⟨rfl, hb9⟩
      have HB9 := hide ((unhide HB8).trans (hb9.mono hle8))
      have hle9 := HB9.out.size
      clear hb9
      go_wp2_with fail
      refine (keOk_any _).mono ?_
      rintro e w10 ⟨rfl, hb10⟩
      have HB10 := hide ((unhide HB9).trans (hb10.mono hle9))
      have hle10 := HB10.out.size
      clear hb10
      go_wp2_with fail
      go_ret
      exact ⟨rfl, unhide HB10⟩
  · have hk : Kw.ok s = true := by cases q : Kw.ok s with | true => rfl | false => exact absurd (.inl q) hbad
    have hsz : s.size < 300 := by omega
    have hE : Hid (mkNext s = nextT s ∧ mkKey s = keyT s) := next_good hk hsz
    obtain ⟨t0, t1, t2, t3, t4, t5⟩ := made_next hk hsz
    have T := hide (And.intro t1 (And.intro t2 (And.intro t3 (And.intro t4 t5))))
    obtain ⟨u0, u1, u2, u3, u4, u5⟩ := made_key hk hsz
    have U := hide (And.intro u1 (And.intro u2 (And.intro u3 (And.intro u4 u5))))
    have hz := next_size s
    have hy := key_size s
    have MS : Hid ((nextT s).size ≤ maxLen) := le_maxLen (by omega)
    have MK : Hid ((keyT s).size ≤ maxLen) := le_maxLen (by omega)
    have hsw : Hid (Kw.ok t = true → ((mkNext t = nextT s) ↔ s = t)) := fun q => next_swap hk hsz q
    have hnk : ((nextT s).toList == (keyT s).toList) = false := by
      cases q : ((nextT s).toList == (keyT s).toList) with
      | false => rfl
      | true => exact absurd (beq_list.1 q) (next_key s s)
    have HK := hide hk
    have hszd : decide ((300 : Int) ≤ (s.size : Int)) = false := by simp; omega
    clear hbad hk t0 t1 t2 t3 t4 t5 u0 u1 u2 u3 u4 u5 hz hy
    go_wp2_with fail
    refine (iMakNext_any s _ M.out).mono ?_
    rw [hE.out.1]
    rintro e w2 ⟨rfl, hb2⟩
    have HB2 := hide ((unhide HB1).trans (hb2.mono hle1))
    have hle2 := HB2.out.size
    clear hb2
    go_wp2_with fail
    refine (iMakKey_any t _ N.out).mono ?_
    rintro e w3 ⟨rfl, hb3⟩
    have HB3 := hide ((unhide HB2).trans (hb3.mono hle2))
    have hle3 := HB3.out.size
    clear hb3
    go_wp2_with fail
    refine (sMakNext_any s _ M.out).mono ?_
    rw [hE.out.1]
    rintro e w4 ⟨rfl, hb4⟩
    have HB4 := hide ((unhide HB3).trans (hb4.mono hle3))
    have hle4 := HB4.out.size
    clear hb4
    go_wp2_with fail
    refine (sMakKey_any t _ N.out).mono ?_
    rintro e w5 ⟨rfl, hb5⟩
    have HB5 := hide ((unhide HB4).trans (hb5.mono hle4))
    have hle5 := HB5.out.size
    clear hb5
    go_wp2_with fail
    refine (iMakKey_any s _ M.out).mono ?_
    rw [hE.out.2]
    rintro e w6 ⟨rfl, hb6⟩
    have HB6 := hide ((unhide HB5).trans (hb6.mono hle5))
    have hle6 := HB6.out.size
    clear hb6
    go_wp2_with fail
    refine (sMakKey_any s _ M.out).mono ?_
    rw [hE.out.2]
    rintro e w7 ⟨rfl, hb7⟩
    have HB7 := hide ((unhide HB6).trans (hb7.mono hle6))
    have hle7 := HB7.out.size
    clear hb7
    go_wp2_with fail
    refine (sSecOk_any s _ M.out).mono ?_
    rw [HK.out]
    rintro e w8 ⟨rfl, hb8⟩
    have HB8 := hide ((unhide HB7).trans (hb8.mono hle7))
    have hle8 := HB8.out.size
    clear hb8
    go_wp2_with fail
    refine (iSecMade_any (nextT s) _ MS.out).mono ?_
    rw [T.out.1, T.out.2.1, T.out.2.2.1, T.out.2.2.2.1, T.out.2.2.2.2, how_cells5]
    rintro e w9 ⟨rfl, hb9⟩
    have HB9 := hide ((unhide HB8).trans (hb9.mono hle8))
    have hle9 := HB9.out.size
    clear hb9
    go_wp2_with fail
    refine (iMakKey_any s _ M.out).mono ?_
    rw [hE.out.2]
    rintro e w10 ⟨rfl, hb10⟩
    have c0 := keep1 (b := w9.heap.size) (o := 0) (v := .int .i64 2) hb10 (by simp [go_sem]) (by simp)
    have c1 := keep1 (b := w9.heap.size) (o := 1) (v := .int .i64 0) hb10 (by simp [go_sem]) (by simp)
    have c2 := keep1 (b := w9.heap.size) (o := 2) (v := .int .i64 0) hb10 (by simp [go_sem]) (by simp)
    have c3 := keep1 (b := w9.heap.size) (o := 3) (v := .string s) hb10 (by simp [go_sem]) (by simp)
    have c4 := keep1 (b := w9.heap.size) (o := 4) (v := .string ⟨#[]⟩) hb10 (by simp [go_sem]) (by simp)
    have hlt10 : w9.heap.size < w10.heap.size := by have := hb10.size; simp at this; omega
    have HB10 := hide (((unhide HB9).alloc hle9 _).trans (hb10.mono (by simp; omega)))
    have hle10 := HB10.out.size
    clear hb10
    go_wp2_with fail
    refine (iSecMade_any (keyT s) _ MK.out).mono ?_
    rw [U.out.1, U.out.2.1, U.out.2.2.1, U.out.2.2.2.1, U.out.2.2.2.2, how_cells5]
    rintro e w11 ⟨rfl, hb11⟩
    have d0 := keep1 hb11 c0 hlt10
    have d1 := keep1 hb11 c1 hlt10
    have d2 := keep1 hb11 c2 hlt10
    have d3 := keep1 hb11 c3 hlt10
    have d4 := keep1 hb11 c4 hlt10
    have hlt11 : w9.heap.size < w11.heap.size := by have := hb11.size; omega
    have HB11 := hide ((unhide HB10).trans (hb11.mono hle10))
    have hle11 := HB11.out.size
    clear hb11 c0 c1 c2 c3 c4
    go_wp2_with fail
    refine (iMakKey_any s _ M.out).mono ?_
    rw [hE.out.2]
    rintro e w12 ⟨rfl, hb12⟩
    have HB12 := hide (((unhide HB11).alloc hle11 _).trans (hb12.mono (by simp; omega)))
    have hle12 := HB12.out.size
    clear hb12
    go_wp2_with fail
    refine (sSecOk_any t _ N.out).mono ?_
    cases hkt : Kw.ok t with
    | false =>
      rintro e w13 ⟨rfl, hb13⟩
      have HB13 := hide ((unhide HB12).trans (hb13.mono hle12))
      clear hb13 hkt
      go_wp2_with fail
      go_ret
      exact ⟨rfl, unhide HB13⟩
    | true =>
      have hSW := hide (hsw.out hkt)
      rintro e w13 ⟨rfl, hb13⟩
      have HB13 := hide ((unhide HB12).trans (hb13.mono hle12))
      have hle13 := HB13.out.size
      clear hb13 hkt
      go_wp2_with fail
      refine (iMakNext_any t _ N.out).mono ?_
      rintro e w14 ⟨rfl, hb14⟩
      have HB14 := hide ((unhide HB13).trans (hb14.mono hle13))
      have hle14 := HB14.out.size
      clear hb14
      go_wp2_with fail
      go_ret
      exact ⟨ret_bool (beq_beq hSW.out), unhide HB14⟩

set_option maxRecDepth 100000 in
theorem lifted_FnMakNext (os : Os) (started : os.Started) (H : Type) (enc : TypeId × Value → H) :
    ReturnsInHanded {} Try.checked os 5 .any (Rows.fnMakNextSpec.pre6 enc Try.prog Try.f5 Rows.fnMakNextRow.domain false) (Rows.fnMakNextSpec.post enc Try.prog Try.f5 false true false false) := by
  refine returnsInHanded_of_change (C := Try.checked) own started (by kernel_rfl) Try.func5
    (ChangeSpec.witness6 (enc := enc) (C := Try.checked) false ⟨#[], #[.slice none 0 0, .slice none 0 0], []⟩ 8 (by kernel_rfl) (by kernel_rfl) (by kernel_rfl) (by kernel_rfl)) ?_
  intro W base args ds gs before hval0 hW hcnd _
  have hval : ∀ (j : Nat) t v, Try.f5.params[j]? = some t → args[j]? = some v → Value.okWide Try.prog W .any base t v := hval0
  have hW' := hW
  obtain ⟨p, q, hA0, hV, rfl, hfz, hnd⟩ := hW
  have hA : DataW.TrodAll enc Try.prog W 0 (fun _ => true) true Try.f5.params.toList args.toList ds p := hA0
  rw [Try.params5] at hA hval
  obtain ⟨v0, vs0, d0, ds0, p0, q0, hargs, rfl, rfl, h0, r0⟩ := trodAll_cons hA
  obtain ⟨v1, vs1, d1, ds1, p1, q1, rfl, rfl, rfl, h1, r1⟩ := trodAll_cons r0
  obtain ⟨rfl, rfl, rfl⟩ := trodAll_nil r1
  obtain rfl : args = #[v0, v1] := by cases args; simp_all
  obtain ⟨rfl, rfl⟩ := trodVars_none hV
  obtain ⟨a0, len0, cap0, rfl⟩ := okWide_slice Try.underlying22 (hval 0 22 v0 rfl rfl)
  have k0 := h0
  have lt0 : ∀ x ∈ p0, x.block < W.heap.size := by obtain ⟨m, hm⟩ := k0; exact DataW.trod_lt m _ _ _ hm
  obtain ⟨z0, w0⟩ : ∃ zs, IsRow .u8 W a0 len0 cap0 zs := by
    obtain ⟨fuel, hf⟩ := h0
    rcases open_ints Try.underlying22 Try.underlying5 (by kernel_rfl) hf with ⟨hcs, _⟩ | ⟨x, l, c, zs, hcs, _, hl, hm, hz, _, hcell, hwz⟩
    · simp [Value.cells] at hcs
      obtain ⟨rfl, rfl, rfl⟩ := hcs
      exact ⟨[], .inl ⟨rfl, rfl, rfl, rfl⟩⟩
    · simp [Value.cells] at hcs
      obtain ⟨rfl, rfl, rfl⟩ := hcs
      exact ⟨zs, .inr ⟨_, rfl, hl, hm, by simpa using hz, hcell, hwz⟩⟩
  obtain ⟨a1, len1, cap1, rfl⟩ := okWide_slice Try.underlying22 (hval 1 22 v1 rfl rfl)
  have k1 := h1
  have lt1 : ∀ x ∈ p1, x.block < W.heap.size := by obtain ⟨m, hm⟩ := k1; exact DataW.trod_lt m _ _ _ hm
  obtain ⟨z1, w1⟩ : ∃ zs, IsRow .u8 W a1 len1 cap1 zs := by
    obtain ⟨fuel, hf⟩ := h1
    rcases open_ints Try.underlying22 Try.underlying5 (by kernel_rfl) hf with ⟨hcs, _⟩ | ⟨x, l, c, zs, hcs, _, hl, hm, hz, _, hcell, hwz⟩
    · simp [Value.cells] at hcs
      obtain ⟨rfl, rfl, rfl⟩ := hcs
      exact ⟨[], .inl ⟨rfl, rfl, rfl, rfl⟩⟩
    · simp [Value.cells] at hcs
      obtain ⟨rfl, rfl, rfl⟩ := hcs
      exact ⟨zs, .inr ⟨_, rfl, hl, hm, by simpa using hz, hcell, hwz⟩⟩
  clear hA0 hval0
  refine (walk_FnMakNext a0 len0 cap0 z0 a1 len1 cap1 z1 W w0 w1).mono fun e W' ⟨he, bel⟩ => ?_
  subst he
  exact ⟨_, rfl, _, _, _, [], _, [], hW', trodAll_mk1 (shut_bool Try.underlying4 _), (trodAll_cons_mk (Below.trod laidOut (by kernel_rfl) (of_decide_eq_true (by kernel_rfl)) k0 bel lt0) (trodAll_cons_mk (Below.trod laidOut (by kernel_rfl) (of_decide_eq_true (by kernel_rfl)) k1 bel lt1) trodAll_mk0)), rfl, bel.frame _, fun h => by cases h⟩

theorem fnMakNext_holds : Rows.FnMakNextSaid :=
  OpenClaim.holds_of_wide 5 Try.f5 rfl rfl rfl rfl rfl rfl rfl ⟨rfl, rfl, rfl, rfl, rfl⟩ rfl rfl rfl rfl rfl (by kernel_rfl) Try.func5 (by kernel_rfl)
    (of_decide_eq_true (by kernel_rfl)) (by unfold Func.isWrapper; first | (rw [if_pos (by decide +kernel)]; kernel_rfl) | (rw [if_neg (by decide +kernel)]; exact ⟨rfl, rfl⟩))
    (fun os started H enc _ => lifted_FnMakNext os started H enc)

#print axioms fnMakNext_holds
end Go.Proofs.Ytkhjolfofcnhiaa
