/-
  The specification's l4Path.
-/
import Derived.Test.YtkcopldlobomhaaMOwn
import Derived.Test.YtkcopldlobomhaaTreS
import Derived.Test.YtkcopldlobomhaaMak
namespace Go.Proofs.Ytkcopldlobomhaa
open Go.RowKit Go.Shelf

theorem two_new (w : World) (x y : Value) (t : TypeId) : ∀ j u, [x, y][j]? = some u → (w.alloc (.cells #[x, y] t)).cell? (Addr.add ⟨w.heap.size, 0, none⟩ j) = some u := by
  intro j u hj
  match j, hj with
  | 0, hj => simp at hj; subst hj; simp [Addr.add, go_sem]
  | 1, hj => simp at hj; subst hj; simp [Addr.add, go_sem]

set_option maxRecDepth 100000 in
set_option maxHeartbeats 4000000 in
theorem l4Path_any (n : Nat) (hn : n < 15) (s : ByteArray) (hss : s.size ≤ 300) (w : World) :
    Calls Try.prog 34 #[.int .i64 (n : Int), .string s] w fun e w' => ∃ v, e = .returned v ∧ OwnM w.heap.size w' v (pathOf (chainOf (n : Int)) s) ∧ Below w.heap.size w w' := by
  obtain ⟨i0, hi, hz0, hz1, hz2⟩ := info_parts info_mo
  have hI := hide (And.intro hi (And.intro hz0 (And.intro hz1 hz2)))
  clear hi hz0 hz1 hz2
  have HCH : Hid (chainOf (n : Int) = (n : Int) :: upOf (n : Int)) := by show _ = _; unfold chainOf; rw [if_pos (by omega)]
  have HUL : Hid ((upOf (n : Int)).length ≤ 4) := by show _ ≤ _; rw [upOf_nat n hn, List.length_map]; have := ups_len n hn; omega
  have hO0 : Hid (OwnM w.heap.size (w.alloc (.cells #[.int .i64 (n : Int), .string s] 55)) (.slice (some ⟨w.heap.size, 0, none⟩) 1 1) (pathOf ((n : Int) :: (upOf (n : Int)).take 0) s)) := World.ownsRow_lit (base := w.heap.size) (e := 55) (size := 2) w #[.int .i64 (n : Int), .string s] 1 (Nat.le_refl _) (by unfold maxLen; omega) rfl
  have hB0 : Hid (Below w.heap.size w (w.alloc (.cells #[.int .i64 (n : Int), .string s] 55))) := (Below.refl _ _).alloc (Nat.le_refl _) _
  go_enter Try.func34, Try.ntmps34
  go_wp2_with fail
  refine (sTreUp_any _ _).mono ?_
  rintro e w2 ⟨u2, rfl, ho2, hb2⟩
  generalize upOf (n : Int) = N at *
  have U2 := hide ho2
  have O2 : Hid (OwnM w.heap.size w2 _ _) := own_below' (unhide hO0) hb2
  have HB2 := hide (hB0.out.trans (hb2.mono hB0.out.size))
  obtain ⟨uo, uc, rfl⟩ := row_form' ho2
  generalize (w.alloc (.cells #[.int .i64 (n : Int), .string s] 55)).heap.size = Bu at U2
  clear ho2 hb2 hO0 hB0
  go_wp2_with fail
  go_loopw [1, 5, 7] (fun sv o i wr => ∃ j : Nat, j ≤ N.length ∧ i = .int .i64 (j : Int) ∧ sv = .string (nextN s j) ∧ (∃ oo oc, o = .slice oo (j + 1) oc) ∧ Hid (OwnM w.heap.size wr o (pathOf ((n : Int) :: N.take j) s)) ∧ Hid (OwnI Bu wr (.slice uo N.length uc) N) ∧ Hid (Below w.heap.size w wr)) (fun _ _ i _ => N.length - (intOf i).toNat)
  case atStart => exact ⟨0, by omega, rfl, rfl, ⟨_, _, rfl⟩, O2, U2, HB2⟩
  case round =>
    clear O2 U2 HB2
    obtain ⟨j, hj, rfl, rfl, ⟨oo, oc, rfl⟩, hO, hU, hB⟩ := hrel
    by_cases hlt : j < N.length
    · have hlt2 : (j : Int) < (N.length : Int) := by omega
      have i3 : IntKind.i64.wrap ((j : Int) + 1) = (j : Int) + 1 := by have := HUL.out; simp [IntKind.wrap, IntKind.bits, IntKind.signed]; omega
      have hns := nextN_size s hss j
      have HNX : Hid (nextN s (j + 1) = mkNext (nextN s j)) := rfl
      have HTK : Hid (pathOf ((n : Int) :: N.take (j + 1)) s = pathOf ((n : Int) :: N.take j) s ++ [(N.getD j 0, nextN s (j + 1))]) := by
        show _ = _
        rw [List.take_succ_eq_append_getElem hlt, ← List.cons_append, pathOf_snoc, List.getD_eq_getElem?_getD, List.getElem?_eq_getElem hlt]
        simp [Nat.min_eq_left (Nat.le_of_lt hlt)]
      have HPL : Hid ((pathOf ((n : Int) :: N.take j) s).length = j + 1) := by show _ = _; rw [pathOf_len]; simp [Nat.min_eq_left (Nat.le_of_lt hlt)]
      generalize pathOf ((n : Int) :: N.take j) s = P at *
      generalize hsc : nextN s j = sc at *
      go_wp2_with fail
      refine (sMakNext_any sc _ (le_maxLen (by omega))).mono ?_
      rw [← HNX.out]
      rintro e wn ⟨rfl, hbn⟩
      have hUn := hide (own_below' (unhide hU) hbn)
      have hO1 : wn.ownsRow w.heap.size 55 2 (.slice oo (j + 1) oc) P.length (mcells P) := own_below' (unhide hO) hbn
      rw [HPL.out] at hO1
      have hOn := hide hO1
      have hBn := hide (hB.out.trans (hbn.mono hB.out.size))
      have hsz := hBn.out.size
      clear hbn hO hU hB hO1 HNX hsc
      obtain ⟨q0, q1, q2, _, _, q5⟩ := (OwnI.irow (unhide hUn)).form
      simp only [Value.slice.injEq] at q2
      obtain ⟨rfl, _, rfl⟩ := q2
      obtain ⟨ad, rfl, hck⟩ := q5 j hlt
      clear q5
      have HUL2 := HUL.out
      generalize N.getD j 0 = x at *
      generalize hsn : nextN s (j + 1) = sn at *
      have HSN := hide hsn
      clear hsn
      go_wp2_with (at_builtin; refine wpList_append_own _ rfl _ _ 28 rfl w.heap.size 55 i0 (.agg #[.int .i64 0, .string ⟨#[]⟩]) 2 24 underMo (unhide hI).1 (unhide hI).2.1 (unhide hI).2.2.1 (unhide hI).2.2.2 rfl (by decide) _ _ _ rfl (World.ownsRow.alloc (unhide hOn) _) ⟨wn.heap.size, 0, none⟩ 1 1 [.int .i64 x, .string sn] rfl rfl (two_new _ _ _ _) (by intro u hu; simp at hu; rcases hu with rfl | rfl <;> rfl) (by unfold maxLen; omega) (by omega) (by simp; omega) ?_)
      intro v' w3 hown' hgrow _
      have hU3 : Hid (OwnI Bu w3 (.slice (some ad) N.length uc) N) := World.ownsRow.kept (World.ownsRow.alloc (unhide hUn) (.cells #[.int .i64 x, .string sn] 55)) hgrow (row_apart (World.ownsRow.alloc (unhide hUn) (.cells #[.int .i64 x, .string sn] 55)) (World.ownsRow.alloc (unhide hOn) (.cells #[.int .i64 x, .string sn] 55)) (by decide))
      have hB3 : Hid (Below w.heap.size w w3) := ((unhide hBn).alloc hsz _).grown hgrow (by simp; omega) (fun k hk => (World.ownsRow.lt (unhide hOn) k hk).1)
      have hO3 : Hid (OwnM w.heap.size w3 v' (P ++ [(x, sn)])) := by
        show OwnM _ _ _ _
        unfold OwnM
        rw [List.length_append, HPL.out, mcells_snoc]
        exact hown'
      obtain ⟨vo, vc, rfl⟩ := row_form' hown'
      clear hown' hgrow hOn hUn hBn
      go_wp2_with fail
      go_roundw
      case rel => exact ⟨j + 1, by omega, by simp, by rw [HSN.out], ⟨_, _, rfl⟩, by rw [HTK.out]; exact unhide hO3, hU3, hB3⟩
      case measure => simp [intOf]; omega
    · have hlt2 : decide ((j : Int) < (N.length : Int)) = false := by simp; omega
      have hjn : j = N.length := by omega
      subst hjn
      go_wp2_with fail
      go_ret
      refine ⟨_, rfl, ?_, unhide hB⟩
      have q := unhide hO
      rw [List.take_length, ← HCH.out] at q
      exact q
#print axioms l4Path_any
end Go.Proofs.Ytkcopldlobomhaa
