/-
  Proved: at every number and two texts the program's MemFirst answers as the specification's, field by field; it writes into no argument and keeps nothing of one; its answer owns its memory, behind another call too. No condition.
-/
import Derived.Test.YtkcopldlobomhaaFnExactMemFirstB7
namespace Go.Proofs.Ytkcopldlobomhaa
open Go.ChangeShapes Go.WideShapes Go.ChangeAt Go.RowKit
open Go.ChangeMaps (open_string shut_string)
set_option linter.unusedVariables false

theorem fst_len (p : Int) (s t : ByteArray) : (fstOf p s t).keys.length ≤ 15 ∧ (fstOf p s t).own.length ≤ 4 := by
  by_cases h : fstOk p s t
  · rw [fst_yes h]
    refine ⟨?_, ?_⟩
    · show (setKeys bare p.toNat s).length ≤ 15
      rw [setKeys_len]
      exact Nat.le_refl _
    · show (pathOf (chainOf (7 + p)) s).length ≤ 4
      rw [pathOf_len]
      exact chain_len4 _
  · rw [fst_no h]
    exact ⟨Nat.zero_le _, Nat.zero_le _⟩

set_option maxRecDepth 100000 in
set_option maxHeartbeats 8000000 in
theorem walk_FnExactMemFirst (p : Int) (s t : ByteArray) (w : World) (w0 : (Lit.int .i64 p).wf = true) (hs : s.size ≤ maxLen) (ht : t.size ≤ maxLen) :
    Calls Try.prog 4 #[.int .i64 p, .string s, .string t] w fun e w' => e = .returned (.bool true) ∧ Below w.heap.size w w' := by
  clear w0
  have HS := hide hs
  have HT := hide ht
  unfold maxLen at hs ht
  by_cases hbig : (1048576 : Int) < (s.size : Int)
  · go_enter Try.func4, Try.ntmps4
    go_wp2_with fail
    go_ret
    exact ⟨rfl, Below.refl _ _⟩
  have hbig2 : decide ((1048576 : Int) < (s.size : Int)) = false := by simpa using hbig
  clear hbig
  by_cases hbig : (1048576 : Int) < (t.size : Int)
  · go_enter Try.func4, Try.ntmps4
    go_wp2_with fail
    go_ret
    exact ⟨rfl, Below.refl _ _⟩
  have hbig3 : decide ((1048576 : Int) < (t.size : Int)) = false := by simpa using hbig
  clear hbig
  obtain ⟨hl1, hl2⟩ := fst_len p s t
  obtain ⟨m, hm⟩ : ∃ m, fstOf p s t = m := ⟨_, rfl⟩
  rw [hm] at hl1 hl2
  have HM := hide hm
  clear hm
  obtain ⟨inn, who, keys, own, ep, init, tag⟩ := m
  simp only at hl1 hl2
  go_enter Try.func4, Try.ntmps4
  go_wp2_with fail
  refine (sMemFirst_any p s t _ HS.out HT.out).mono ?_
  rw [HM.out]
  rintro e w1 ⟨v1, rfl, ⟨ks, os, rfl, ho1, hp1⟩, hb1⟩
  obtain ⟨a1, c1, hv1⟩ := row_form' ho1
  obtain ⟨a2, c2, hv2⟩ := row_form' hp1
  subst hv1 hv2
  simp only at ho1 hp1 ⊢
  have W1 := hide (MemIn.of ho1 hp1)
  have HB1 := hide hb1
  have hs1 := hb1.size
  clear ho1 hp1 hb1
  go_wp2_with fail
  refine (iMemFirst_any p s t _ HS.out HT.out).mono ?_
  rw [HM.out]
  rintro e w2 ⟨v2, rfl, ⟨ks2, os2, rfl, ho2, hp2⟩, hb2⟩
  obtain ⟨a3, c3, hv3⟩ := row_form' ho2
  obtain ⟨a4, c4, hv4⟩ := row_form' hp2
  subst hv3 hv4
  simp only at ho2 hp2 ⊢
  have hs2 := hb2.size
  rw [World.size_alloc] at hs2 ho2 hp2
  have al : Below w2.heap.size w2 (w2.alloc (.cells (memC inn who (.slice a3 keys.length c3) (.slice a4 own.length c4) ep init tag) 30)) := (Below.refl _ _).alloc (Nat.le_refl _) _
  have A2 := hide (((Blk.new w1 30 (memC inn who (.slice a1 keys.length c1) (.slice a2 own.length c2) ep init tag)).below hb2).below al)
  have G2 := hide (MemIn.below (MemIn.of ho2 hp2) al)
  have C2 := hide (Blk.new w2 30 (memC inn who (.slice a3 keys.length c3) (.slice a4 own.length c4) ep init tag))
  have W2 := hide ((((unhide W1).below ((Below.refl _ _).alloc (Nat.le_refl _) (.cells (memC inn who (.slice a1 keys.length c1) (.slice a2 own.length c2) ep init tag) 30))).below hb2).below al)
  have HB2 : Hid (Below w.heap.size w (w2.alloc (.cells (memC inn who (.slice a3 keys.length c3) (.slice a4 own.length c4) ep init tag) 30))) := ((HB1.out.alloc HB1.out.size _).trans (hb2.mono (by rw [World.size_alloc]; omega))).alloc (by omega) _
  clear ho2 hp2 hb2 al W1 HB1
  have l1 := load_mm (unhide A2) rfl
  go_wp2_with (refine wpList_load_whole rfl 30 _ rfl ⟨w1.heap.size, 0, none⟩ rfl _ l1 ?_)
  refine (eqMemMember_same ⟨inn, who, keys, own, ep, init, tag⟩ _ _ _ _ _ (unhide G2).srow (unhide G2).mrow (unhide W2).srow (unhide W2).mrow).mono ?_
  rintro e w3 ⟨rfl, hb3⟩
  have hs3 := hb3.size
  rw [World.size_alloc] at hs3
  have A3 := hide ((unhide A2).below hb3)
  have C3 := hide ((unhide C2).below hb3)
  have G3 := hide ((unhide G2).below hb3)
  have W3 := hide ((unhide W2).below hb3)
  have HB3 := hide (HB2.out.trans (hb3.mono HB2.out.size))
  clear hb3 A2 C2 G2 W2 HB2 l1
  have l1 := load_mm (unhide C3) rfl
  go_wp2_with (refine wpList_load_whole rfl 30 _ rfl ⟨w2.heap.size, 0, none⟩ rfl _ l1 ?_)
  refine (markMemMember_any (w1.heap.size + 1) ⟨inn, who, keys, own, ep, init, tag⟩ _ _ 1 _ (unhide G3).1.1 (unhide G3).2.1 (by omega) (by omega) (by simp only; omega) (by simp only; omega)).mono ?_
  rintro e w4 ⟨rfl, ho4, hp4, hs4, u4, hg4, hg5⟩
  simp only at ho4 hp4
  have o1 := RowIn.out (unhide G3).1
  have o2 := RowIn.out (unhide G3).2
  have A4 := hide (((unhide A3).kept hg4 (fun q => by have := o1 _ q.symm; omega)).kept hg5 (fun q => by have := o2 _ q.symm; omega))
  have C4 := hide (((unhide C3).kept hg4 (fun q => by have := o1 _ q.symm; omega)).kept hg5 (fun q => by have := o2 _ q.symm; omega))
  have W4 := hide (((unhide W3).grown hg4 (fun k hk => .inr (by have := (o1 k hk).1; omega))).grown hg5 (fun k hk => .inr (by have := (o2 k hk).1; omega)))
  have HB4 : Hid (Below w.heap.size w w4) := ((unhide HB3).grown hg4 HB3.out.size (fun k hk => by have := (o1 k hk).1; omega)).grown hg5 (Nat.le_trans HB3.out.size hg4.size) (fun k hk => by have := (o2 k hk).1; omega)
  have q1 : RowIn (w1.heap.size + 1) w2.heap.size 9 1 w4 (.slice a3 keys.length c3) keys.length ((marks 1 keys.length).map Value.string) := ⟨by have := ho4; unfold Own at this; rw [marks_len] at this; exact this, fun g hg => (o1 g hg).2⟩
  have q2 : RowIn (w1.heap.size + 1) w2.heap.size 55 2 w4 (.slice a4 own.length c4) own.length (mcells (mmarks (1 + keys.length) own.length)) := ⟨by have := hp4; unfold OwnM at this; rw [mmarks_len] at this; exact this, fun g hg => (o2 g hg).2⟩
  have G4 := hide (And.intro q1 q2)
  clear ho4 hp4 hg4 hg5 o1 o2 q1 q2 A3 C3 G3 W3 HB3 l1
  obtain ⟨y, hy⟩ : ∃ y : Int, ((1 + keys.length + 2 * own.length : Nat) : Int) = y := ⟨_, rfl⟩
  rw [hy]
  have hy0 : decide (y < 0) = false := by simp; omega
  have HY := hide hy
  clear hy
  have HH : Hid (∀ u : World, Below w4.heap.size w4 u → Calls Try.prog 17 #[.agg (memC inn who (.slice a3 keys.length c3) (.slice a4 own.length c4) ep init tag), .int .i64 1] u fun e w' => e = .returned (.int .i64 y) ∧ Below u.heap.size u w') := fun u hu => by
    have r1 : SRow u (.slice a3 keys.length c3) (marks 1 keys.length) := own_srow (base := w1.heap.size + 1) (by rw [marks_len]; exact ((unhide G4).1.below hu).1)
    have r2 : MRow u (.slice a4 own.length c4) (mmarks (1 + keys.length) own.length) := OwnM.mrow (B := w1.heap.size + 1) (by unfold OwnM; rw [mmarks_len]; exact ((unhide G4).2.below hu).1)
    have := heldMemMember_any inn who ep init tag keys.length own.length _ _ 1 u r1 r2 (by omega) (by omega) (by omega) (by omega)
    rw [HY.out] at this
    exact this
  have l1 := load_mm (unhide C4) rfl
  go_wp2_with (refine wpList_load_whole rfl 30 _ rfl ⟨w2.heap.size, 0, none⟩ rfl _ l1 ?_)
  refine (HH.out _ (Below.refl _ _)).mono ?_
  rintro e w5 ⟨rfl, hb5⟩
  have hs5 := hb5.size
  have A5 := hide ((unhide A4).below hb5)
  have C5 := hide ((unhide C4).below hb5)
  have W5 := hide ((unhide W4).below hb5)
  have HB5 := hide (HB4.out.trans (hb5.mono HB4.out.size))
  have H45 := hide hb5
  clear hb5 A4 C4 W4 HB4 l1
  go_wp2_with fail
  refine (iMemFirst_any p s t _ HS.out HT.out).mono ?_
  rw [HM.out]
  rintro e w6 ⟨v6, rfl, ⟨ks6, os6, rfl, ho6, hp6⟩, hb6⟩
  obtain ⟨a5, c5, hv5⟩ := row_form' ho6
  obtain ⟨a6, c6, hv6⟩ := row_form' hp6
  subst hv5 hv6
  simp only at ho6 hp6 ⊢
  have hs6 := hb6.size
  have al : Below w6.heap.size w6 (w6.alloc (.cells (memC inn who (.slice a5 keys.length c5) (.slice a6 own.length c6) ep init tag) 30)) := (Below.refl _ _).alloc (Nat.le_refl _) _
  have A6 := hide (((unhide A5).below hb6).below al)
  have C6 := hide (((unhide C5).below hb6).below al)
  have S6 := hide (ho6.srow.below al)
  have T6 := hide (hp6.mrow.below al)
  have W6 := hide (((unhide W5).below hb6).below al)
  have H46 := hide (((unhide H45).trans (hb6.mono hs5)).alloc (by omega) (.cells (memC inn who (.slice a5 keys.length c5) (.slice a6 own.length c6) ep init tag) 30))
  have HB6 : Hid (Below w.heap.size w (w6.alloc (.cells (memC inn who (.slice a5 keys.length c5) (.slice a6 own.length c6) ep init tag) 30))) := (HB5.out.trans (hb6.mono HB5.out.size)).alloc (by have := HB5.out.size; omega) _
  clear ho6 hp6 hb6 al A5 C5 W5 HB5 H45
  have l1 := load_mm (unhide A6) rfl
  go_wp2_with (refine wpList_load_whole rfl 30 _ rfl ⟨w1.heap.size, 0, none⟩ rfl _ l1 ?_)
  refine (eqMemMember_same ⟨inn, who, keys, own, ep, init, tag⟩ _ _ _ _ _ (unhide S6) (unhide T6) (unhide W6).srow (unhide W6).mrow).mono ?_
  rintro e w7 ⟨rfl, hb7⟩
  have C7 := hide ((unhide C6).below hb7)
  have HB7 := hide (HB6.out.trans (hb7.mono HB6.out.size))
  have H47 := hide ((unhide H46).trans (hb7.mono H46.out.size))
  clear hb7 A6 C6 S6 T6 W6 HB6 H46 l1
  have l1 := load_mm (unhide C7) rfl
  go_wp2_with (refine wpList_load_whole rfl 30 _ rfl ⟨w2.heap.size, 0, none⟩ rfl _ l1 ?_)
  refine (HH.out _ (unhide H47)).mono ?_
  rintro e w8 ⟨rfl, hb8⟩
  have HB8 := hide (HB7.out.trans (hb8.mono HB7.out.size))
  clear hb8 C7 HB7 l1 H47
  go_wp2_with fail
  go_ret
  exact ⟨rfl, unhide HB8⟩

set_option maxRecDepth 100000 in
theorem lifted_FnExactMemFirst (os : Os) (started : os.Started) (H : Type) (enc : TypeId × Value → H) :
    ReturnsInHanded {} Try.checked os 4 .any (Rows.fnExactMemFirstSpec.pre6 enc Try.prog Try.f4 Rows.fnExactMemFirstRow.domain false) (Rows.fnExactMemFirstSpec.post enc Try.prog Try.f4 false true false false) := by
  refine returnsInHanded_of_change (C := Try.checked) own started (by kernel_rfl) Try.func4
    (ChangeSpec.witness6 (enc := enc) (C := Try.checked) false ⟨#[], #[.int .i64 0, .string ByteArray.empty, .string ByteArray.empty], []⟩ 8 (by kernel_rfl) (by kernel_rfl) (by kernel_rfl) (by kernel_rfl)) ?_
  intro W base args ds gs before hval0 hW hcnd _
  have hval : ∀ (j : Nat) t v, Try.f4.params[j]? = some t → args[j]? = some v → Value.okWide Try.prog W .any base t v := hval0
  have hW' := hW
  obtain ⟨p, q, hA0, hV, rfl, hfz, hnd⟩ := hW
  have hA : DataW.TrodAll enc Try.prog W 0 (fun _ => true) true Try.f4.params.toList args.toList ds p := hA0
  rw [Try.params4] at hA hval
  obtain ⟨v0, vs0, d0, ds0, p0, q0, hargs, rfl, rfl, h0, r0⟩ := trodAll_cons hA
  obtain ⟨v1, vs1, d1, ds1, p1, q1, rfl, rfl, rfl, h1, r1⟩ := trodAll_cons r0
  obtain ⟨v2, vs2, d2, ds2, p2, q2, rfl, rfl, rfl, h2, r2⟩ := trodAll_cons r1
  obtain ⟨rfl, rfl, rfl⟩ := trodAll_nil r2
  obtain rfl : args = #[v0, v1, v2] := by cases args; simp_all
  obtain ⟨rfl, rfl⟩ := trodVars_none hV
  obtain ⟨a0, rfl, rfl, rfl, w0⟩ := open_int Try.underlying3 (hval 0 3 v0 rfl rfl) h0
  obtain ⟨a1, rfl, rfl, rfl, w1⟩ := open_string Try.underlying9 (hval 1 9 v1 rfl rfl) h1
  obtain ⟨a2, rfl, rfl, rfl, w2⟩ := open_string Try.underlying9 (hval 2 9 v2 rfl rfl) h2
  clear hA0 hval0
  refine (walk_FnExactMemFirst a0 a1 a2 W w0 w1 w2).mono fun e W' ⟨he, bel⟩ => ?_
  subst he
  exact ⟨_, rfl, _, _, _, [], _, [], hW', trodAll_mk1 (shut_bool Try.underlying4 _), (trodAll_cons_mk (shut_int Try.underlying3 w0) (trodAll_cons_mk (shut_string Try.underlying9 w1) (trodAll_cons_mk (shut_string Try.underlying9 w2) trodAll_mk0))), rfl, bel.frame _, fun h => by cases h⟩

theorem fnExactMemFirst_holds : Rows.FnExactMemFirstSaid :=
  OpenClaim.holds_of_wide 4 Try.f4 rfl rfl rfl rfl rfl rfl rfl ⟨rfl, rfl, rfl, rfl, rfl⟩ rfl rfl rfl rfl rfl (by kernel_rfl) Try.func4 (by kernel_rfl)
    (of_decide_eq_true (by kernel_rfl)) (by unfold Func.isWrapper; first | (rw [if_pos (by decide +kernel)]; kernel_rfl) | (rw [if_neg (by decide +kernel)]; exact ⟨rfl, rfl⟩))
    (fun os started H enc _ => lifted_FnExactMemFirst os started H enc)

#print axioms fnExactMemFirst_holds
end Go.Proofs.Ytkcopldlobomhaa
