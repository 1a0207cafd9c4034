/-
  Proved: at every two codes the law FnMakSay returns true (MakSay of one secret for two is two, and MakRoom of one for two rooms is two; each tells whose, or of which room, it is, and from which secret), and nothing that was there is written. No condition.
-/
import Derived.Test.YtkhjolfofcnhiaaFrame
import Derived.Test.YtkhjolfofcnhiaaMade2
import Derived.Test.YtkhjolfofcnhiaaMade3
import Derived.Test.YtkhjolfofcnhiaaDraw4
import Derived.Test.YtkhjolfofcnhiaaDraw7
namespace Go.Proofs.Ytkhjolfofcnhiaa
open Go.ChangeShapes Go.WideShapes Go.ChangeAt Go.RowKit
open Go.ChangeMaps (open_string shut_string)
set_option linter.unusedVariables false

theorem how_cells7 (op who n : Int) (a b : ByteArray) : howV op who n a b = .agg #[.int .i64 op, .int .i64 who, .int .i64 n, .string a, .string b] := rfl

theorem IsRow.below7 {k : IntKind} {w w' : World} {a : Option Addr} {len cap : Nat} {zs : List Int} (h : IsRow k w a len cap zs) (hb : Below w.heap.size w w') : IsRow k w' a len cap zs := by
  rcases h with h | ⟨x, h1, h2, h3, h4, h5, h6⟩
  · exact .inl h
  · exact .inr ⟨x, h1, h2, h3, h4, fun i hi => (hb.cell (p := x.add i) (below_lt (h5 i hi))).trans (h5 i hi), h6⟩

theorem say_cases (s : ByteArray) (x : Int) : mkSay s x = ⟨#[]⟩ ∨ (Tells (mkSay s x) 5 x 0 s ⟨#[]⟩ ∧ 0 ≤ x ∧ x < 8) := by
  unfold mkSay
  by_cases h : Kw.ok s = true ∧ 0 ≤ x ∧ x < 8
  · rw [if_pos h]
    obtain ⟨h1, h2, h3⟩ := h
    by_cases hs : 2 + s.size ≤ 300
    · have T := made_say (who := x.toNat) h1 (by omega) hs
      rw [cap_self T.1]
      have e : (x.toNat : Int) = x := by omega
      rw [e] at T
      exact .inr ⟨T, h2, h3⟩
    · unfold cap
      rw [say_size, if_neg hs]
      exact .inl rfl
  · rw [if_neg h]; exact .inl rfl
theorem room_cases (s : ByteArray) (x : Int) : mkRoom s x = ⟨#[]⟩ ∨ (Tells (mkRoom s x) 6 0 x s ⟨#[]⟩ ∧ 1 ≤ x ∧ x ≤ 9) := by
  unfold mkRoom
  by_cases h : Kw.ok s = true ∧ 1 ≤ x ∧ x ≤ 9
  · rw [if_pos h]
    obtain ⟨h1, h2, h3⟩ := h
    by_cases hs : 2 + s.size ≤ 300
    · have T := made_room (room := x.toNat) h1 (by omega) (by omega) hs
      rw [cap_self T.1]
      have e : (x.toNat : Int) = x := by omega
      rw [e] at T
      exact .inr ⟨T, h2, h3⟩
    · unfold cap
      rw [if_neg (by rw [room_size, dec_size, if_pos (by omega)]; omega)]
      exact .inl rfl
  · rw [if_neg h]; exact .inl rfl
theorem neq_list {x y : ByteArray} (h : x ≠ y) : (x.toList == y.toList) = false := by
  cases q : (x.toList == y.toList) with
  | false => rfl
  | true => exact absurd (beq_list.1 q) h
theorem ok_ne {x : ByteArray} (h : Kw.ok x = true) : x ≠ ⟨#[]⟩ := by
  intro e
  rw [e, ok_empty] at h
  cases h
theorem nil_list : (⟨#[]⟩ : ByteArray).toList = [] := by decide +kernel
theorem ok_nil {x : ByteArray} (h : Kw.ok x = true) : ¬ x.toList = [] := by
  intro e
  refine ok_ne h (beq_list.1 ?_)
  rw [e, nil_list]
  rfl
theorem say_other {s : ByteArray} {x who : Int} (h : Kw.ok (mkSay s who) = true) (hx : x ≠ who) : mkSay s x ≠ mkSay s who := by
  intro e
  rcases say_cases s who with q | ⟨T, _, _⟩
  · exact ok_ne h q
  · rcases say_cases s x with q | ⟨U, _, _⟩
    · exact ok_ne h (e ▸ q)
    · have a := U.2.2.1
      have b := T.2.2.1
      rw [e] at a
      omega
theorem room_other {s : ByteArray} {x n : Int} (h : Kw.ok (mkRoom s n) = true) (hx : x ≠ n) : mkRoom s x ≠ mkRoom s n := by
  intro e
  rcases room_cases s n with q | ⟨T, _, _⟩
  · exact ok_ne h q
  · rcases room_cases s x with q | ⟨U, _, _⟩
    · exact ok_ne h (e ▸ q)
    · have a := U.2.2.2.1
      have b := T.2.2.2.1
      rw [e] at a
      omega

set_option maxRecDepth 100000 in
set_option maxHeartbeats 8000000 in
theorem walk_FnMakSay (a0 : Option Addr) (len0 cap0 : Nat) (z0 : List Int) (a1 : Option Addr) (len1 cap1 : Nat) (z1 : List Int) (w : World) (w0 : IsRow .u8 w a0 len0 cap0 z0) (w1 : IsRow .u8 w a1 len1 cap1 z1) :
    Calls Try.prog 7 #[.slice a0 len0 cap0, .slice a1 len1 cap1] w fun e w' => e = .returned (.bool true) ∧ Below w.heap.size w w' := by
  have hR := hide w0
  have hS := hide w1
  clear w0 w1
  by_cases h : (1048576 : Int) < (len0 : Int)
  · go_enter Try.func7, Try.ntmps7
    go_wp2_with fail
    go_ret
    exact ⟨rfl, Below.refl _ _⟩
  have h2 : decide ((1048576 : Int) < (len0 : Int)) = false := by simpa using h
  clear h
  by_cases h : (1048576 : Int) < (len1 : Int)
  · go_enter Try.func7, Try.ntmps7
    go_wp2_with fail
    go_ret
    exact ⟨rfl, Below.refl _ _⟩
  have h3 : decide ((1048576 : Int) < (len1 : Int)) = false := by simpa using h
  clear h
  go_enter Try.func7, Try.ntmps7
  go_wp2_with fail
  refine (DrawMakSay_any a0 len0 cap0 z0 _ (unhide hR)).mono ?_
  rintro e w0 ⟨s, who, rfl, hs, hw1, hw2, hb0⟩
  have HB0 := hide hb0
  have hle0 := hb0.size
  have hS0 := hide (IsRow.below7 (unhide hS) hb0)
  clear hb0 hR hS
  go_wp2_with fail
  refine (DrawMakRoom_any a1 len1 cap1 z1 _ (unhide hS0)).mono ?_
  rintro e w1 ⟨t, room, rfl, ht, hr1, hr2, hb1⟩
  have HB1 := hide ((unhide HB0).trans (hb1.mono hle0))
  have hle1 := HB1.out.size
  have M : Hid (s.size ≤ maxLen) := le_maxLen (by omega)
  have N : Hid (t.size ≤ maxLen) := le_maxLen (by omega)
  clear hb1 hS0 HB0 hle0
  rcases say_cases s who with ea | ⟨T, g1, g2⟩
  · rcases room_cases t room with eb | ⟨U, k1, k2⟩
    · have EA := hide ea
      have EB := hide eb
      clear ea eb
      go_wp2_with fail
      refine (iMakSay_any s who _ M.out).mono ?_
      rw [EA.out]
      rintro e w2 ⟨rfl, hb2⟩
      have HB2 := hide ((unhide HB1).trans (hb2.mono hle1))
      have hle2 := HB2.out.size
      clear hb2
      go_wp2_with fail
      refine (iMakRoom_any t room _ N.out).mono ?_
      rw [EB.out]
      rintro e w3 ⟨rfl, hb3⟩
      have HB3 := hide ((unhide HB2).trans (hb3.mono hle2))
      have hle3 := HB3.out.size
      clear hb3
      go_wp2_with fail
      refine (sMakSay_any s who _ M.out).mono ?_
      rw [EA.out]
      rintro e w4 ⟨rfl, hb4⟩
      have HB4 := hide ((unhide HB3).trans (hb4.mono hle3))
      have hle4 := HB4.out.size
      clear hb4
      go_wp2_with fail
      refine (sMakRoom_any t room _ N.out).mono ?_
      rw [EB.out]
      rintro e w5 ⟨rfl, hb5⟩
      have HB5 := hide ((unhide HB4).trans (hb5.mono hle4))
      have hle5 := HB5.out.size
      clear hb5
      go_wp2_with fail
      refine (keOk_any _).mono ?_
      rintro e w6 ⟨rfl, hb6⟩
      have HB6 := hide ((unhide HB5).trans (hb6.mono hle5))
      clear hb6
      go_wp2_with fail
      go_ret
      exact ⟨rfl, unhide HB6⟩
    · have EA := hide ea
      clear ea
      obtain ⟨u0, u1, u2, u3, u4, u5⟩ := U
      have UH := hide (And.intro u1 (And.intro u2 (And.intro u3 (And.intro u4 u5))))
      have MR : Hid ((mkRoom t room).size ≤ maxLen) := le_maxLen (by have := mkRoom_300 t room; omega)
      have HKR := hide u0
      have n1 := ok_nil u0
      have n2 := neq_list (room_other (x := 1 + room % 9) u0 (by omega))
      clear u0 u1 u2 u3 u4 u5
      go_wp2_with fail
      refine (iMakSay_any s who _ M.out).mono ?_
      rw [EA.out]
      rintro e w2 ⟨rfl, hb2⟩
      have HB2 := hide ((unhide HB1).trans (hb2.mono hle1))
      have hle2 := HB2.out.size
      clear hb2
      go_wp2_with fail
      refine (iMakRoom_any t room _ N.out).mono ?_
      rintro e w3 ⟨rfl, hb3⟩
      have HB3 := hide ((unhide HB2).trans (hb3.mono hle2))
      have hle3 := HB3.out.size
      clear hb3
      go_wp2_with fail
      refine (sMakSay_any s who _ M.out).mono ?_
      rw [EA.out]
      rintro e w4 ⟨rfl, hb4⟩
      have HB4 := hide ((unhide HB3).trans (hb4.mono hle3))
      have hle4 := HB4.out.size
      clear hb4
      go_wp2_with fail
      refine (sMakRoom_any t room _ N.out).mono ?_
      rintro e w5 ⟨rfl, hb5⟩
      have HB5 := hide ((unhide HB4).trans (hb5.mono hle4))
      have hle5 := HB5.out.size
      clear hb5
      go_wp2_with fail
      refine (iSecMade_any _ _ MR.out).mono ?_
      rw [UH.out.1, UH.out.2.1, UH.out.2.2.1, UH.out.2.2.2.1, UH.out.2.2.2.2, how_cells7]
      rintro e w6 ⟨rfl, hb6⟩
      have HB6 := hide ((unhide HB5).trans (hb6.mono hle5))
      have hle6 := HB6.out.size
      clear hb6
      go_wp2_with fail
      refine (iMakRoom_any _ _ _ N.out).mono ?_
      rintro e w7 ⟨rfl, hb7⟩
      have HB7 := hide ((unhide HB6).trans (hb7.mono hle6))
      have hle7 := HB7.out.size
      clear hb7
      go_wp2_with fail
      go_ret
      exact ⟨rfl, unhide HB7⟩
  · obtain ⟨t0, t1, t2, t3, t4, t5⟩ := T
    have TH := hide (And.intro t1 (And.intro t2 (And.intro t3 (And.intro t4 t5))))
    have MSy : Hid ((mkSay s who).size ≤ maxLen) := le_maxLen (by have := mkSay_300 s who; omega)
    have HKS := hide t0
    have m1 := ok_nil t0
    have m2 := neq_list (say_other (x := (who + 1) % 8) t0 (by omega))
    rcases room_cases t room with eb | ⟨U, k1, k2⟩
    · have EB := hide eb
      have m3 : ¬ [] = (mkSay s who).toList := fun e => m1 e.symm
      clear eb t0 t1 t2 t3 t4 t5
      go_wp2_with fail
      refine (iMakSay_any s who _ M.out).mono ?_
      rintro e w2 ⟨rfl, hb2⟩
      have HB2 := hide ((unhide HB1).trans (hb2.mono hle1))
      have hle2 := HB2.out.size
      clear hb2
      go_wp2_with fail
      refine (iMakRoom_any t room _ N.out).mono ?_
      rw [EB.out]
      rintro e w3 ⟨rfl, hb3⟩
      have HB3 := hide ((unhide HB2).trans (hb3.mono hle2))
      have hle3 := HB3.out.size
      clear hb3
      go_wp2_with fail
      refine (sMakSay_any s who _ M.out).mono ?_
      rintro e w4 ⟨rfl, hb4⟩
      have HB4 := hide ((unhide HB3).trans (hb4.mono hle3))
      have hle4 := HB4.out.size
      clear hb4
      go_wp2_with fail
      refine (sMakRoom_any t room _ N.out).mono ?_
      rw [EB.out]
      rintro e w5 ⟨rfl, hb5⟩
      have HB5 := hide ((unhide HB4).trans (hb5.mono hle4))
      have hle5 := HB5.out.size
      clear hb5
      go_wp2_with fail
      refine (iSecMade_any _ _ MSy.out).mono ?_
      rw [TH.out.1, TH.out.2.1, TH.out.2.2.1, TH.out.2.2.2.1, TH.out.2.2.2.2, how_cells7]
      rintro e w6 ⟨rfl, hb6⟩
      have HB6 := hide ((unhide HB5).trans (hb6.mono hle5))
      have hle6 := HB6.out.size
      clear hb6
      go_wp2_with fail
      refine (iMakSay_any _ _ _ M.out).mono ?_
      rintro e w7 ⟨rfl, hb7⟩
      have HB7 := hide ((unhide HB6).trans (hb7.mono hle6))
      have hle7 := HB7.out.size
      clear hb7
      go_wp2_with fail
      go_ret
      exact ⟨rfl, unhide HB7⟩
    · obtain ⟨u0, u1, u2, u3, u4, u5⟩ := U
      have UH := hide (And.intro u1 (And.intro u2 (And.intro u3 (And.intro u4 u5))))
      have MR : Hid ((mkRoom t room).size ≤ maxLen) := le_maxLen (by have := mkRoom_300 t room; omega)
      have HKR := hide u0
      have n1 := ok_nil u0
      have n2 := neq_list (room_other (x := 1 + room % 9) u0 (by omega))
      have m3 : ((mkSay s who).toList == (mkRoom t room).toList) = false := neq_list (fun e => by rw [e] at t1; omega)
      clear t0 t1 t2 t3 t4 t5 u0 u1 u2 u3 u4 u5
      go_wp2_with fail
      refine (iMakSay_any s who _ M.out).mono ?_
      rintro e w2 ⟨rfl, hb2⟩
      have HB2 := hide ((unhide HB1).trans (hb2.mono hle1))
      have hle2 := HB2.out.size
      clear hb2
      go_wp2_with fail
      refine (iMakRoom_any t room _ N.out).mono ?_
      rintro e w3 ⟨rfl, hb3⟩
      have HB3 := hide ((unhide HB2).trans (hb3.mono hle2))
      have hle3 := HB3.out.size
      clear hb3
      go_wp2_with fail
      refine (sMakSay_any s who _ M.out).mono ?_
      rintro e w4 ⟨rfl, hb4⟩
      have HB4 := hide ((unhide HB3).trans (hb4.mono hle3))
      have hle4 := HB4.out.size
      clear hb4
      go_wp2_with fail
      refine (sMakRoom_any t room _ N.out).mono ?_
      rintro e w5 ⟨rfl, hb5⟩
      have HB5 := hide ((unhide HB4).trans (hb5.mono hle4))
      have hle5 := HB5.out.size
      clear hb5
      go_wp2_with fail
      refine (iSecMade_any _ _ MSy.out).mono ?_
      rw [TH.out.1, TH.out.2.1, TH.out.2.2.1, TH.out.2.2.2.1, TH.out.2.2.2.2, how_cells7]
      rintro e w6 ⟨rfl, hb6⟩
      have HB6 := hide ((unhide HB5).trans (hb6.mono hle5))
      have hle6 := HB6.out.size
      clear hb6
      go_wp2_with fail
      refine (iMakSay_any _ _ _ M.out).mono ?_
      rintro e w7 ⟨rfl, hb7⟩
      have HB7 := hide ((unhide HB6).trans (hb7.mono hle6))
      have hle7 := HB7.out.size
      clear hb7
      go_wp2_with fail
      refine (iSecMade_any _ _ MR.out).mono ?_
      rw [UH.out.1, UH.out.2.1, UH.out.2.2.1, UH.out.2.2.2.1, UH.out.2.2.2.2, how_cells7]
      rintro e w8 ⟨rfl, hb8⟩
      have HB8 := hide ((unhide HB7).trans (hb8.mono hle7))
      have hle8 := HB8.out.size
      clear hb8
      go_wp2_with fail
      refine (iMakRoom_any _ _ _ N.out).mono ?_
      rintro e w9 ⟨rfl, hb9⟩
      have HB9 := hide ((unhide HB8).trans (hb9.mono hle8))
      have hle9 := HB9.out.size
      clear hb9
      go_wp2_with fail
      go_ret
      exact ⟨rfl, unhide HB9⟩

set_option maxRecDepth 100000 in
theorem lifted_FnMakSay (os : Os) (started : os.Started) (H : Type) (enc : TypeId × Value → H) :
    ReturnsInHanded {} Try.checked os 7 .any (Rows.fnMakSaySpec.pre6 enc Try.prog Try.f7 Rows.fnMakSayRow.domain false) (Rows.fnMakSaySpec.post enc Try.prog Try.f7 false true false false) := by
  refine returnsInHanded_of_change (C := Try.checked) own started (by kernel_rfl) Try.func7
    (ChangeSpec.witness6 (enc := enc) (C := Try.checked) false ⟨#[], #[.slice none 0 0, .slice none 0 0], []⟩ 8 (by kernel_rfl) (by kernel_rfl) (by kernel_rfl) (by kernel_rfl)) ?_
  intro W base args ds gs before hval0 hW hcnd _
  have hval : ∀ (j : Nat) t v, Try.f7.params[j]? = some t → args[j]? = some v → Value.okWide Try.prog W .any base t v := hval0
  have hW' := hW
  obtain ⟨p, q, hA0, hV, rfl, hfz, hnd⟩ := hW
  have hA : DataW.TrodAll enc Try.prog W 0 (fun _ => true) true Try.f7.params.toList args.toList ds p := hA0
  rw [Try.params7] at hA hval
  obtain ⟨v0, vs0, d0, ds0, p0, q0, hargs, rfl, rfl, h0, r0⟩ := trodAll_cons hA
  obtain ⟨v1, vs1, d1, ds1, p1, q1, rfl, rfl, rfl, h1, r1⟩ := trodAll_cons r0
  obtain ⟨rfl, rfl, rfl⟩ := trodAll_nil r1
  obtain rfl : args = #[v0, v1] := by cases args; simp_all
  obtain ⟨rfl, rfl⟩ := trodVars_none hV
  obtain ⟨a0, len0, cap0, rfl⟩ := okWide_slice Try.underlying22 (hval 0 22 v0 rfl rfl)
  have k0 := h0
  have lt0 : ∀ x ∈ p0, x.block < W.heap.size := by obtain ⟨m, hm⟩ := k0; exact DataW.trod_lt m _ _ _ hm
  obtain ⟨z0, w0⟩ : ∃ zs, IsRow .u8 W a0 len0 cap0 zs := by
    obtain ⟨fuel, hf⟩ := h0
    rcases open_ints Try.underlying22 Try.underlying5 (by kernel_rfl) hf with ⟨hcs, _⟩ | ⟨x, l, c, zs, hcs, _, hl, hm, hz, _, hcell, hwz⟩
    · simp [Value.cells] at hcs
      obtain ⟨rfl, rfl, rfl⟩ := hcs
      exact ⟨[], .inl ⟨rfl, rfl, rfl, rfl⟩⟩
    · simp [Value.cells] at hcs
      obtain ⟨rfl, rfl, rfl⟩ := hcs
      exact ⟨zs, .inr ⟨_, rfl, hl, hm, by simpa using hz, hcell, hwz⟩⟩
  obtain ⟨a1, len1, cap1, rfl⟩ := okWide_slice Try.underlying22 (hval 1 22 v1 rfl rfl)
  have k1 := h1
  have lt1 : ∀ x ∈ p1, x.block < W.heap.size := by obtain ⟨m, hm⟩ := k1; exact DataW.trod_lt m _ _ _ hm
  obtain ⟨z1, w1⟩ : ∃ zs, IsRow .u8 W a1 len1 cap1 zs := by
    obtain ⟨fuel, hf⟩ := h1
    rcases open_ints Try.underlying22 Try.underlying5 (by kernel_rfl) hf with ⟨hcs, _⟩ | ⟨x, l, c, zs, hcs, _, hl, hm, hz, _, hcell, hwz⟩
    · simp [Value.cells] at hcs
      obtain ⟨rfl, rfl, rfl⟩ := hcs
      exact ⟨[], .inl ⟨rfl, rfl, rfl, rfl⟩⟩
    · simp [Value.cells] at hcs
      obtain ⟨rfl, rfl, rfl⟩ := hcs
      exact ⟨zs, .inr ⟨_, rfl, hl, hm, by simpa using hz, hcell, hwz⟩⟩
  clear hA0 hval0
  refine (walk_FnMakSay a0 len0 cap0 z0 a1 len1 cap1 z1 W w0 w1).mono fun e W' ⟨he, bel⟩ => ?_
  subst he
  exact ⟨_, rfl, _, _, _, [], _, [], hW', trodAll_mk1 (shut_bool Try.underlying4 _), (trodAll_cons_mk (Below.trod laidOut (by kernel_rfl) (of_decide_eq_true (by kernel_rfl)) k0 bel lt0) (trodAll_cons_mk (Below.trod laidOut (by kernel_rfl) (of_decide_eq_true (by kernel_rfl)) k1 bel lt1) trodAll_mk0)), rfl, bel.frame _, fun h => by cases h⟩

theorem fnMakSay_holds : Rows.FnMakSaySaid :=
  OpenClaim.holds_of_wide 7 Try.f7 rfl rfl rfl rfl rfl rfl rfl ⟨rfl, rfl, rfl, rfl, rfl⟩ rfl rfl rfl rfl rfl (by kernel_rfl) Try.func7 (by kernel_rfl)
    (of_decide_eq_true (by kernel_rfl)) (by unfold Func.isWrapper; first | (rw [if_pos (by decide +kernel)]; kernel_rfl) | (rw [if_neg (by decide +kernel)]; exact ⟨rfl, rfl⟩))
    (fun os started H enc _ => lifted_FnMakSay os started H enc)

#print axioms fnMakSay_holds
end Go.Proofs.Ytkhjolfofcnhiaa
