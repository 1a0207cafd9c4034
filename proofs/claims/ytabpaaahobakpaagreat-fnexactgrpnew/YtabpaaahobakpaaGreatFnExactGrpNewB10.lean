/-
  The program's TreSet.
-/
import Derived.Test.YtabpaaahobakpaaGreatFnExactGrpNewB4
import Derived.Test.YtabpaaahobakpaaGreatFnExactGrpNewB9
import Derived.Test.YtabpaaahobakpaaGreatFnExactGrpNewB6
import Derived.Test.YtabpaaahobakpaaGreatFnExactGrpNewB3
import Derived.Test.YtabpaaahobakpaaGreatFnExactGrpNewB7
import Derived.Test.YtabpaaahobakpaaGreatFnExactGrpNewB2
import Derived.Test.YtabpaaahobakpaaGreatFnExactGrpNewB8
import Derived.Test.YtabpaaahobakpaaGreatFnExactGrpNewB5
namespace Go.Proofs.YtabpaaahobakpaaGreat
open Go.RowKit Go.Shelf
attribute [local go_sem] Oper.semAt_some

theorem keepsOthers_below {w w' : World} (h : Below w.heap.size w w') : KeepsOthers w w' := ⟨h.size, fun k _ hk _ => (h.block k (Array.getElem?_eq_some_iff.1 hk).1).trans hk⟩

set_option maxRecDepth 100000 in
set_option maxHeartbeats 1000000 in
theorem mayBeSet_any (s : ByteArray) (w : World) (hm : s.size ≤ maxLen) :
    Calls Tryz.prog 82 #[.string s] w fun e w' => e = .returned (.bool (maySet s)) ∧ Below w.heap.size w w' := by
  have M := hide hm
  unfold maxLen at hm
  have HE : Hid (maySet s = (Kw.ok s && decide (s.size ≤ 292))) := rfl
  go_enter Tryz.func82, Tryz.ntmps82
  go_wp2_with fail
  refine (iSecOk_any s _ M.out).mono ?_
  cases hk : Kw.ok s with
  | false =>
    rintro e w1 ⟨rfl, hb1⟩
    have HK := hide hk
    clear hk
    go_wp2_with fail
    go_ret
    exact ⟨ret_bool' (by rw [HE.out, HK.out]; rfl), hb1⟩
  | true =>
    rintro e w1 ⟨rfl, hb1⟩
    have HK := hide hk
    clear hk
    by_cases h2 : s.size ≤ 292
    · have h3 : (s.size : Int) ≤ 292 := by omega
      go_wp2_with fail
      go_ret
      exact ⟨ret_bool' (by rw [HE.out, HK.out]; simp [h2]), hb1⟩
    · have h3 : decide ((s.size : Int) ≤ 292) = false := by simp; omega
      go_wp2_with fail
      go_ret
      exact ⟨ret_bool' (by rw [HE.out, HK.out]; simp [h2]), hb1⟩

set_option maxRecDepth 100000 in
set_option maxHeartbeats 2000000 in
theorem iTreSet_no (v : Value) (xs : List ByteArray) (p : Int) (s : ByteArray) (w : World) (h : SRow w v xs) (hx : ∀ x ∈ xs, x.size ≤ maxLen) (hs : s.size ≤ maxLen) (hno : ¬ ((treOk xs = true ∧ 0 ≤ p ∧ p ≤ 7) ∧ maySet s = true)) :
    Calls Tryz.prog 83 #[.agg #[v], .int .i64 p, .string s] w fun e w' => ∃ u, e = .returned (.agg #[u]) ∧ Own w.heap.size w' u [] ∧ Below w.heap.size w w' := by
  obtain ⟨ao, cap, rfl, h1, h2, _⟩ := h.form
  have HX := hide hx
  have HS := hide hs
  have hR := hide h
  have HN := hide hno
  clear h hx hno hs
  go_enter Tryz.func83, Tryz.ntmps83
  go_wp2_with fail
  refine (iTreOk_any _ xs _ ((((unhide hR).below ((Below.refl _ _).alloc (Nat.le_refl _) _)).below ((Below.refl _ _).alloc (Nat.le_refl _) _)).below ((Below.refl _ _).alloc (Nat.le_refl _) _)) (unhide HX)).mono ?_
  rintro e w1 ⟨rfl, hb1⟩
  have S1 := hide (box_below ((Boxed.new (w.alloc (.cells #[.slice ao xs.length cap] 39)) 9 (.string s)).alloc (.cells #[.slice none 0 0] 39)) hb1)
  have B1 := hide (box_below (Boxed.new ((w.alloc (.cells #[.slice ao xs.length cap] 39)).alloc (.cells #[.string s] 9)) 39 (.slice none 0 0)) hb1)
  simp only [World.size_alloc] at B1 S1
  have HB1 : Hid (Below w.heap.size w w1) := ((((Below.refl _ _).alloc (Nat.le_refl _) _).alloc (by simp) _).alloc (by simp; omega) _).trans (hb1.mono (by simp; omega))
  have l0 := (unhide S1).cell
  clear hb1
  cases hk : treOk xs with
  | false =>
    have HB2 := hide (below_box (unhide HB1) (b := w.heap.size + 1 + 1) (by omega) (.slice none 0 0))
    have l1 := (unhide B1).cell
    have l2 := (unhide B1).frozen
    have l3 := ((unhide B1).set (.slice none 0 0)).cell
    clear hk
    go_wp2_with fail
    refine bodyPost_ret (v := .agg #[.slice none 0 0]) (by simp [results, Tryz.results83, go_sem, l3]) rfl ⟨_, rfl, World.ownsRow_nil _ _ _ _, unhide HB2⟩
  | true =>
    by_cases hp : 0 ≤ p ∧ p ≤ 7
    · have hms : Hid (maySet s = false) := by
        show _ = _
        cases q : maySet s with
        | false => rfl
        | true => exact absurd ⟨⟨hk, hp⟩, q⟩ HN.out
      have HP := hide hp
      clear hk hp
      go_wp2_with fail
      refine (isOne_yes _ _ HP.out.1 (by have := HP.out; omega)).mono ?_
      rintro e wq ⟨rfl, rfl⟩
      go_wp2_with fail
      refine (mayBeSet_any s _ HS.out).mono ?_
      rw [hms.out]
      rintro e w2 ⟨rfl, hb2⟩
      have HB3 := hide (HB1.out.trans (hb2.mono HB1.out.size))
      have B2 := box_below (unhide B1) hb2
      have HB2 := hide (below_box (unhide HB3) (b := w.heap.size + 1 + 1) (by omega) (.slice none 0 0))
      have l1 := B2.cell
      have l2 := B2.frozen
      have l3 := (B2.set (.slice none 0 0)).cell
      clear hb2 B2 l0
      go_wp2_with fail
      refine bodyPost_ret (v := .agg #[.slice none 0 0]) (by simp [results, Tryz.results83, go_sem, l3]) rfl ⟨_, rfl, World.ownsRow_nil _ _ _ _, unhide HB2⟩
    · have HB2 := hide (below_box (unhide HB1) (b := w.heap.size + 1 + 1) (by omega) (.slice none 0 0))
      have l1 := (unhide B1).cell
      have l2 := (unhide B1).frozen
      have l3 := ((unhide B1).set (.slice none 0 0)).cell
      have HP := hide hp
      clear hk hp
      go_wp2_with fail
      refine (isOne_no _ _ (by have := HP.out; omega)).mono ?_
      rintro e wq ⟨rfl, rfl⟩
      go_wp2_with fail
      refine bodyPost_ret (v := .agg #[.slice none 0 0]) (by simp [results, Tryz.results83, go_sem, l3]) rfl ⟨_, rfl, World.ownsRow_nil _ _ _ _, unhide HB2⟩

set_option maxRecDepth 100000 in
set_option maxHeartbeats 8000000 in
theorem iTreSet_ok (v : Value) (xs : List ByteArray) (k : Nat) (hk : k < 8) (s : ByteArray) (hms : maySet s = true) (w : World) (h : SRow w v xs) (hok : treOk xs = true) (n : Nat) (hn : 4 ≤ n) :
    CallsIn Fence.wide n Tryz.prog 83 #[.agg #[v], .int .i64 (k : Int), .string s] w fun e w' => ∃ u, e = .returned (.agg #[u]) ∧ Own w.heap.size w' u (setKeys xs k s) ∧ Below w.heap.size w w' := by
  have hl : xs.length = 15 := (treOk_iff.1 hok).1
  have hsm := treOk_small hok
  obtain ⟨ao, cap, rfl, h1, h2, _⟩ := h.form
  rw [hl] at h ⊢
  have h1' : 1 ≤ n := by omega
  have h2' : 1 ≤ n - 1 := by omega
  have hro : Fence.wide.round = none := rfl
  have HSM := hide hsm
  have HOK := hide hok
  have HMS := hide hms
  have hss : s.size ≤ 300 := by
    unfold maySet at hms
    simp at hms
    omega
  have hR := hide h
  have hLf : Hid (leafOf (k : Int) = ((7 + k : Nat) : Int)) := by show _ = _; unfold leafOf; rw [if_pos (by omega)]; omega
  have HL := hide hl
  clear h hok hsm h1 h2 hl hms
  refine callsIn_of_wp_marks Tryz.func83 rfl trivial ?_ hro
  simp only [Tryz.ntmps83, List.size_toArray, List.length_cons, List.length_nil, Nat.reduceAdd, Nat.reduceSub, Array.replicate_succ, Array.replicate_zero, List.push_toArray, List.append_toArray, List.nil_append, List.cons_append]
  gi_wp2_with (first
    | (refine ⟨trivial, ?_⟩; gi_at_call 53; refine (callsIn_wide.2 (iTreOk_any _ xs _ ((((unhide hR).below ((Below.refl _ _).alloc (Nat.le_refl _) _)).below ((Below.refl _ _).alloc (Nat.le_refl _) _)).below ((Below.refl _ _).alloc (Nat.le_refl _) _)) (fun x hx => Nat.le_trans (HSM.out x hx) (by unfold maxLen; omega)))).mono ?_; rw [HOK.out]; rintro e w1 ⟨rfl, hb1⟩; have A1 := box_below (((Boxed.new w 39 (.slice ao 15 cap)).alloc (.cells #[.string s] 9)).alloc (.cells #[.slice none 0 0] 39)) hb1; have C1 := box_below ((Boxed.new (w.alloc (.cells #[.slice ao 15 cap] 39)) 9 (.string s)).alloc (.cells #[.slice none 0 0] 39)) hb1; have B1 := box_below (Boxed.new ((w.alloc (.cells #[.slice ao 15 cap] 39)).alloc (.cells #[.string s] 9)) 39 (.slice none 0 0)) hb1; simp only [World.size_alloc] at B1 C1; have HA1 := A1.cell; have HC1 := C1.cell; have HB1 : Hid (Below w.heap.size w w1) := ((((Below.refl _ _).alloc (Nat.le_refl _) _).alloc (by simp) _).alloc (by simp; omega) _).trans (hb1.mono (by simp; omega)); have A1h := hide A1; have B1h := hide B1; have C1h := hide C1; have hs1 := hb1.size; simp only [World.size_alloc] at hs1; clear hb1 A1 B1 C1)
    | (refine ⟨trivial, ?_⟩; gi_at_call 18; refine (callsIn_wide.2 (isOne_yes (k : Int) _ (by omega) (by omega))).mono ?_; rintro e wq ⟨rfl, rfl⟩)
    | (refine ⟨trivial, ?_⟩; gi_at_call 82; refine (callsIn_wide.2 (mayBeSet_any s _ (by unfold maxLen; omega))).mono ?_; rw [HMS.out]; rintro e w5 ⟨rfl, hb5⟩; have A5h := hide (box_below (unhide A1h) hb5); have B5h := hide (box_below (unhide B1h) hb5); have C5h := hide (box_below (unhide C1h) hb5); have HB5 := hide (HB1.out.trans (hb5.mono HB1.out.size)); have hs5 := hb5.size; have HA5 := (unhide A5h).cell; clear hb5 HA1 HC1)
    | (refine ⟨trivial, ?_⟩; gi_at_call 132; refine (callsIn_wide.2 (cloneNames_any _ xs _ ((unhide hR).below (unhide HB5)) (by have := HL.out; omega) (fun x hx => Nat.le_trans (HSM.out x hx) (by omega)))).mono ?_; rw [HL.out]; rintro e w2 ⟨v2, rfl, ho2, hb2⟩; obtain ⟨g, c2, rfl, hg1, hg2, hg3, hg4⟩ := row15 ho2; have O2 := hide ho2; have HB2 := hide (HB5.out.trans (hb2.mono HB5.out.size)); have B2h := hide (box_below (unhide B5h) hb2); have C2h := hide (box_below (unhide C5h) hb2); have hs2 := hb2.size; clear ho2 hb2 HA5)
    | (refine ⟨trivial, ?_⟩; gi_at_call 54; refine (callsIn_wide.2 (placeOf_any (k : Int) _)).mono ?_; rw [hLf.out]; rintro e wz ⟨rfl, rfl⟩)
    | (refine ⟨trivial, ?_⟩; gi_at_call 133; refine (upward_in _ _ _).mono ?_; rintro e wz ⟨rfl, rfl⟩))
  have bK := (Boxed.new w2 28 (.slice (some ⟨g, 0, none⟩) 15 c2)).alloc (.cells #[.int .i64 (7 + (k : Int))] 105)
  have bN := Boxed.new (w2.alloc (.cells #[.slice (some ⟨g, 0, none⟩) 15 c2] 28)) 105 (.int .i64 (7 + (k : Int)))
  have bR := ((unhide B2h).alloc (.cells #[.slice (some ⟨g, 0, none⟩) 15 c2] 28)).alloc (.cells #[.int .i64 (7 + (k : Int))] 105)
  have bS := ((unhide C2h).alloc (.cells #[.slice (some ⟨g, 0, none⟩) 15 c2] 28)).alloc (.cells #[.int .i64 (7 + (k : Int))] 105)
  rw [World.size_alloc] at bN
  have hO3 := own_below' (own_below' (unhide O2) ((Below.refl _ _).alloc (Nat.le_refl _) (.cells #[.slice (some ⟨g, 0, none⟩) 15 c2] 28))) ((Below.refl _ _).alloc (Nat.le_refl _) (.cells #[.int .i64 (7 + (k : Int))] 105))
  have hB3 : Below w.heap.size w ((w2.alloc (.cells #[.slice (some ⟨g, 0, none⟩) 15 c2] 28)).alloc (.cells #[.int .i64 (7 + (k : Int))] 105)) := ((unhide HB2).alloc HB2.out.size _).alloc (by simp; have := HB2.out.size; omega) _
  have hsz : ((w2.alloc (.cells #[.slice (some ⟨g, 0, none⟩) 15 c2] 28)).alloc (.cells #[.int .i64 (7 + (k : Int))] 105)).heap.size = w2.heap.size + 2 := by simp
  have hw2 := HB2.out.size
  have hw5 := HB5.out.size
  obtain ⟨W0, hW0⟩ : ∃ W0, (w2.alloc (.cells #[.slice (some ⟨g, 0, none⟩) 15 c2] 28)).alloc (.cells #[.int .i64 (7 + (k : Int))] 105) = W0 := ⟨_, rfl⟩
  rw [hW0] at bK bN bR bS hO3 hB3 hsz ⊢
  clear hW0
  refine wpIn_rangeFunc_ownG hro h1' (gf := 166) (lb := #[.pointer (some ⟨w2.heap.size + 1, 0, none⟩)]) rfl trivial (enters_of Tryz.func166 (by kernel_rfl) rfl)
    (upwardF_stops (n - 1) h2' (w2.heap.size + 1) w.heap.size (7 + (k : Int)) W0 (by omega) bN.cell) belowK_t (belowK_b (by omega)) (Below.refl _ _) (fun _ => rfl)
    (fun pre W => (((∃ u, Boxed W w2.heap.size 28 u ∧ W.ownsRow w5.heap.size 9 1 u 15 ((fill xs s (vals pre)).map Value.string) ∧ u = .slice (some ⟨g, 0, none⟩) 15 c2) ∧ Boxed W (w.heap.size + 1) 9 (.string (nextN s pre.length))) ∧ Boxed W (w.heap.size + 1 + 1) 39 (.slice none 0 0)) ∧ Below w.heap.size w W)
    (fun _ _ _ => False)
    (OwnFrom.and (OwnFrom.and (OwnFrom.and (Own.from (holdsRow_own w5.heap.size w2.heap.size 28 9 1 (fun (_ : List (Fin 15)) => 15) (fun (pre : List (Fin 15)) => (fill xs s (vals pre)).map Value.string) (fun _ u => u = .slice (some ⟨g, 0, none⟩) 15 c2)) _) (Own.from (boxed_own _ _ (fun (pre : List (Fin 15)) => Value.string (nextN s pre.length))) _)) (Own.from (boxed_own _ _ _) _)) (ownFrom_below (Nat.le_refl _) (by omega)))
    (fun _ _ _ _ _ hs _ _ => hs)
    ⟨⟨⟨⟨_, bK, hO3, rfl⟩, bS⟩, bR⟩, hB3⟩
    (fun x => { tmps := #[.agg #[.slice ao 15 cap], .int .i64 (k : Int), .string s, .pointer (some ⟨w.heap.size, 0, none⟩), undef, .pointer (some ⟨w.heap.size + 1, 0, none⟩), .pointer (some ⟨w.heap.size + 1 + 1, 0, none⟩), .pointer (some ⟨w2.heap.size, 0, none⟩), .int .i64 ((x.val : Nat) : Int), .agg #[.slice ao 15 cap], .bool true, .bool false, .bool false, .int .i64 (k : Int), .bool true, .bool false, .bool false, .bool false, .string s, .bool true, .bool false, .bool false, undef, .pointer (some ⟨w.heap.size, 0, none⟩), .slice ao 15 cap, .slice (some ⟨g, 0, none⟩) 15 c2, .int .i64 (k : Int), .int .i64 (7 + (k : Int)), .func (.func 166) #[] #[.pointer (some ⟨w2.heap.size + 1, 0, none⟩)], .int .i64 ((x.val : Nat) : Int), undef, undef, undef, undef, undef, undef, undef, undef, undef], defers := [] }) ?assign ?body ?done ?stop
  case assign =>
    intro l x W K hK
    gi_wp2
    exact hK
  case body =>
    rintro l pre x W ⟨⟨⟨⟨u, hu, hrow, rfl⟩, hbS⟩, hbR⟩, hB⟩ hlt
    have hj := x.isLt
    have hc := hu.cell
    have hcs := hbS.cell
    have j1 : ((x.val : Nat) : Int) < 15 := by omega
    have h3' : 1 ≤ n - 1 - 1 := by omega
    have hns := nextN_size s hss pre.length
    have HW : Hid (fill xs s (vals (pre ++ [x])) = (fill xs s (vals pre)).set x.val (mkKey (nextN s pre.length))) := by show _ = _; rw [vals_snoc, fill_snoc]; simp [vals]
    have HNX : Hid (nextN s (pre ++ [x]).length = mkNext (nextN s pre.length)) := by show _ = _; rw [List.length_append]; rfl
    generalize nextN s pre.length = sc at hcs hbS HW HNX hns
    have HROW := hide hrow
    have HU := hide hu
    have HS := hide hbS
    have HR := hide hbR
    clear hrow hu hbS hbR
    gi_wp2
    have hmx : Tryz.prog.follows .mixedOrders = true := by kernel_rfl
    gi_region_with_o (refine ⟨trivial, ?_⟩; gi_at_call 134; refine (CallsIn.inRound l (callsIn_wide.2 (iMakKey_any sc _ (le_maxLen (by omega))))).mono ?_; rintro e wk ⟨rfl, hbk⟩; have o1 := own_below' (w := W.drew) (unhide HROW) hbk; obtain ⟨s1, s2, s3, s4⟩ := row15_set (by rw [fill_len]; exact HL.out) o1 x.val hj (mkKey sc); have k1 := box_below (w := W.drew) (unhide HU) hbk; have k2 := hide (box_grown k1 o1 (by decide) s4); have r2 := hide (box_grown (box_below (w := W.drew) (unhide HR) hbk) o1 (by decide) s4); have c1 := box_below (w := W.drew) (unhide HS) hbk; have c2' := c1.kept s4 (fun q => by cases q; omega); have C2 := hide c2'; have k1c := k1.cell; have c2c := c2'.cell; have S3 := hide s3; have KO := hide ((keepsOthers_below hbk).trans (KeepsOthers.setCell wk ⟨g, x.val, none⟩ (.string (mkKey sc)))); have BW : Hid (Below w.heap.size W (wk.setCell ⟨g, x.val, none⟩ (.string (mkKey sc)))) := ((Below.refl w.heap.size W).drew.trans (hbk.mono hB.size)).setCell (p := ⟨g, x.val, none⟩) (by show w.heap.size ≤ g; omega) _; clear o1 s3 s4 k1 c1 c2' hbk; generalize (fill xs s (vals pre)).getD x.val ByteArray.empty = old at s1; generalize mkKey sc = ky at *)
    all_goals gi_wp2_with (refine ⟨trivial, ?_⟩; gi_at_call 135; refine (CallsIn.inRound l (callsIn_wide.2 (iMakNext_any sc _ (le_maxLen (by omega))))).mono ?_; rintro e wm ⟨rfl, hbm⟩; have c3 := box_below (unhide C2) hbm; have c3c := c3.cell; have c3f := c3.frozen; have F1 : Hid (Boxed (wm.setCell ⟨w.heap.size + 1, 0, none⟩ (.string (mkNext sc))) (w.heap.size + 1) 9 (.string (mkNext sc))) := c3.set _; have F2 : Hid (Boxed (wm.setCell ⟨w.heap.size + 1, 0, none⟩ (.string (mkNext sc))) w2.heap.size 28 (.slice (some ⟨g, 0, none⟩) 15 c2)) := (box_below (unhide k2) hbm).other (by omega) _; have F3 : Hid (Boxed (wm.setCell ⟨w.heap.size + 1, 0, none⟩ (.string (mkNext sc))) (w.heap.size + 1 + 1) 39 (.slice none 0 0)) := (box_below (unhide r2) hbm).other (by omega) _; have F4 := hide (World.ownsRow.kept (own_below' (unhide S3) hbm) (grownBy_setCell' wm (w.heap.size + 1) (.string (mkNext sc))) (.inr (by simp [Value.ownBlock]; omega))); have F5 := hide ((unhide KO).trans ((keepsOthers_below hbm).trans (KeepsOthers.setCell wm ⟨w.heap.size + 1, 0, none⟩ (.string (mkNext sc))))); have F6 : Hid (Below w.heap.size W (wm.setCell ⟨w.heap.size + 1, 0, none⟩ (.string (mkNext sc)))) := ((unhide BW).trans (hbm.mono (Nat.le_trans hB.size (unhide BW).size))).setCell (p := ⟨w.heap.size + 1, 0, none⟩) (by simp) _; clear c3 hbm)
    all_goals exact ⟨((KeepsOthers.drew W).trans (unhide F5)).from _, unhide F6, ⟨⟨⟨_, unhide F2, by rw [HW.out]; exact unhide F4, rfl⟩, by rw [HNX.out]; exact unhide F1⟩, unhide F3⟩, hB.trans (unhide F6)⟩
  case done =>
    rintro D ys W hD rfl ⟨⟨⟨⟨u, hu, hrow, rfl⟩, hbS⟩, hbR⟩, hB⟩ hK
    have hc := hu.cell
    have hc2 := hbR.cell
    have hc3 := hbR.frozen
    have HE : Hid (fill xs s (vals (chainF (7 + (k : Int)))) = setKeys xs k s) := by
      show _ = _
      have q := vals_chain k hk
      rw [show (((7 + k : Nat) : Int)) = 7 + (k : Int) by omega] at q
      rw [q]
      rfl
    have R1 := row_box hrow hbR (by decide) (.slice (some ⟨g, 0, none⟩) 15 c2)
    gi_wp2
    have hK' := (KeepsOthers.setCell W ⟨w.heap.size + 1 + 1, 0, none⟩ (.slice (some ⟨g, 0, none⟩) 15 c2)).same D _ hK rfl
    refine ⟨by simp, .inl ⟨_, _, rfl, run_takeDeferred hK', ?_⟩⟩
    have hc5 := cell_kept (hbR.set (.slice (some ⟨g, 0, none⟩) 15 c2)).cell (grownBy_putObj' _ D (.deferred none)) (fun r e => by cases e; exact ⟨_, hK', rfl⟩)
    refine ⟨.agg #[.slice (some ⟨g, 0, none⟩) 15 c2], ?_, _, rfl, ?_, (hB.setCell (p := ⟨w.heap.size + 1 + 1, 0, none⟩) (by simp; omega) _).trans (belowK_b (w := w) (Nat.le_refl _) _ D _ _ (by omega) hK' rfl rfl)⟩
    · simp [results, Tryz.f83, go_sem, hc5]
    · have q := ownsRow_putObj R1 (.deferred none) hK' rfl
      rw [HE.out] at q
      unfold Own
      rw [setKeys_len, HL.out]
      exact row_lowB q hw5
  case stop =>
    rintro D c pre W _ _ h _
    exact h.elim

theorem iTreSet_any (v : Value) (xs : List ByteArray) (p : Int) (s : ByteArray) (w : World) (h : SRow w v xs) (hx : ∀ x ∈ xs, x.size ≤ maxLen) (hs : s.size ≤ maxLen) :
    Calls Tryz.prog 83 #[.agg #[v], .int .i64 p, .string s] w fun e w' => ∃ u, e = .returned (.agg #[u]) ∧ Own w.heap.size w' u (setRes xs p s) ∧ Below w.heap.size w w' := by
  by_cases hy : (treOk xs = true ∧ 0 ≤ p ∧ p ≤ 7) ∧ maySet s = true
  · obtain ⟨k, rfl⟩ : ∃ k : Nat, p = (k : Int) := ⟨p.toNat, by omega⟩
    rw [setRes_yes hy.1.1 (by omega) hy.2]
    exact callsIn_wide.1 (iTreSet_ok v xs k (by omega) s hy.2 w h hy.1.1 4 (Nat.le_refl _))
  · rw [setRes_no hy]
    exact iTreSet_no v xs p s w h hx hs hy
end Go.Proofs.YtabpaaahobakpaaGreat
/-
  Trees without keys: TreNew of the program.
-/
namespace Go.Proofs.YtabpaaahobakpaaGreat
open Go.RowKit

set_option maxRecDepth 100000 in
set_option maxHeartbeats 1000000 in
theorem iTreNew_any (w : World) : Calls Tryz.prog 84 #[] w fun e w' => ∃ v, e = .returned (.agg #[v]) ∧ Own w.heap.size w' v bare ∧ Below w.heap.size w w' := by
  obtain ⟨i0, hi, hz0, hz1, hz2⟩ := info_parts info_str2
  have hI := hide (And.intro hi (And.intro hz0 hz1))
  have hB2 : Hid (i0.bytes * 15 ≤ 281474976710656) := by show _ ≤ _; rw [hz2]; omega
  clear hi hz0 hz1 hz2
  go_enter Tryz.func84, Tryz.ntmps84
  go_wp2_with (at_make; refine wpList_make_full _ rfl _ _ 28 rfl w.heap.size 9 i0 (.string ⟨#[]⟩) 1 Tryz.underlying28 (unhide hI).1 (unhide hI).2.1 (unhide hI).2.2 _ _ _ _ 15 rfl rfl rfl rfl (unhide hB2) (by unfold maxLen; omega) (by simp) ?_)
  intro w1 hown hgrow
  have hO1 : Hid (Own w.heap.size w1 (.slice (some ⟨w.heap.size + 1, 0, none⟩) 15 15) bare) := by
    have e : (madeCells #[Value.string ⟨#[]⟩] 15).toList = bare.map Value.string := by
      simp [madeCells, Nat.mod_one, List.map_const', bare]; rfl
    rw [e] at hown
    exact hown
  have hL1 : Hid (Below w.heap.size w w1) := ((Below.refl _ _).alloc (Nat.le_refl _) _).grown hgrow (by simp) (fun k hk => by cases hk)
  have hblk : w1.heap[w.heap.size]? = some (.cells #[.slice none 0 0] 39) := (hgrow.block w.heap.size (by simp) (by simp)).trans (World.alloc_heap_new w _)
  have hc : w1.cell? ⟨w.heap.size, 0, none⟩ = some (.slice none 0 0) := by simp [World.cell?, hblk]
  have hf : w1.frozen? ⟨w.heap.size, 0, none⟩ = false := by simp [World.frozen?, hblk]
  clear hown hgrow
  go_wp2_with fail
  refine bodyPost_ret (v := .agg #[.slice (some ⟨w.heap.size + 1, 0, none⟩) 15 15]) (by simp [results, Tryz.results84, go_sem, hc]) rfl ⟨_, rfl, ?_, (unhide hL1).setCell (p := ⟨w.heap.size, 0, none⟩) (Nat.le_refl _) _⟩
  refine World.ownsRow.kept (unhide hO1) (grownBy_setCell0 w1 w.heap.size _) (.inr ?_)
  simp [Value.ownBlock]

end Go.Proofs.YtabpaaahobakpaaGreat
/-
  The program's MemFirst.
-/
namespace Go.Proofs.YtabpaaahobakpaaGreat
open Go.RowKit

theorem treOk_bare : treOk bare = true := by decide

set_option maxRecDepth 100000 in
set_option maxHeartbeats 4000000 in
theorem iMemFirst_any (p : Int) (s t : ByteArray) (w : World) (hs : s.size ≤ maxLen) (ht : t.size ≤ maxLen) :
    Calls Tryz.prog 22 #[.int .i64 p, .string s, .string t] w fun e w' => ∃ v, e = .returned v ∧ MemO w.heap.size w' v (fstOf p s t) ∧ Below w.heap.size w w' := by
  have HS := hide hs
  have HT := hide ht
  unfold maxLen at hs ht
  have HB0 : Hid (Below w.heap.size w (w.alloc (.cells noMem 42))) := (Below.refl _ _).alloc (Nat.le_refl _) _
  have A0 := hide (Blk.new w 42 noMem)
  have hs0 : (w.alloc (.cells noMem 42)).heap.size = w.heap.size + 1 := by simp
  by_cases hp : 0 ≤ p ∧ p ≤ 7
  · obtain ⟨k, rfl⟩ : ∃ k : Nat, p = (k : Int) := ⟨p.toNat, by omega⟩
    have hk8 : k < 8 := by omega
    have HK8 := hide hk8
    clear hp
    go_enter Tryz.func22, Tryz.ntmps22
    go_wp2_with fail
    refine (isOne_yes _ _ (by omega) (by omega)).mono ?_
    rintro e wa ⟨rfl, rfl⟩
    go_wp2_with fail
    refine (mayBeSet_any s _ HS.out).mono ?_
    rintro e w1 ⟨rfl, hb1⟩
    have A1 := hide ((unhide A0).below hb1)
    have HB1 := hide (HB0.out.trans (hb1.mono HB0.out.size))
    have hs1 := hb1.size
    rw [hs0] at hs1
    clear hb1 A0 HB0 hs0
    cases hos : maySet s with
    | false =>
      have HE : Hid (¬ fstOk (k : Int) s t) := by show ¬ _; unfold fstOk; rw [hos]; simp
      have l1 := load_mm ((unhide A1).set noMem) rfl
      have HB2 := hide (below_blk (unhide HB1) (Nat.le_refl _) noMem)
      clear hos
      go_wp2_with (refine wpList_store_whole rfl 42 _ _ rfl w.heap.size noMem rfl rfl 42 _ (unhide A1) info_mm rfl (one_mm _ _ _ _ _ _ _ _ _ _ _) ?_)
      refine bodyPost_ret (v := .agg noMem) (results_cell rfl rfl l1) rfl ⟨_, rfl, ?_, unhide HB2⟩
      rw [fst_no HE.out]
      exact MemO.none _ _
    | true =>
      have HOS := hide hos
      have HSZ : Hid (s.size ≤ 292) := by show _ ≤ _; unfold maySet at hos; simp at hos; exact hos.2
      clear hos
      go_wp2_with fail
      refine (iSecOk_any t _ HT.out).mono ?_
      rintro e w2 ⟨rfl, hb2⟩
      have A2 := hide ((unhide A1).below hb2)
      have HB2 := hide (HB1.out.trans (hb2.mono HB1.out.size))
      have hs2 := hb2.size
      clear hb2 A1 HB1
      cases hot : Kw.ok t with
      | false =>
        have HE : Hid (¬ fstOk (k : Int) s t) := by show ¬ _; unfold fstOk; rw [hot]; simp
        have l1 := load_mm ((unhide A2).set noMem) rfl
        have HB3 := hide (below_blk (unhide HB2) (Nat.le_refl _) noMem)
        clear hot
        go_wp2_with (refine wpList_store_whole rfl 42 _ _ rfl w.heap.size noMem rfl rfl 42 _ (unhide A2) info_mm rfl (one_mm _ _ _ _ _ _ _ _ _ _ _) ?_)
        refine bodyPost_ret (v := .agg noMem) (results_cell rfl rfl l1) rfl ⟨_, rfl, ?_, unhide HB3⟩
        rw [fst_no HE.out]
        exact MemO.none _ _
      | true =>
        have HOT := hide hot
        have HTZ : Hid (t.size ≤ 300) := (ok_facts hot).1
        clear hot
        have HE : Hid (fstOk (k : Int) s t) := ⟨by have := HK8.out; omega, HOS.out, HOT.out⟩
        go_wp2_with fail
        refine (iTreNew_any _).mono ?_
        rintro e w3 ⟨v3, rfl, ho3, hb3⟩
        have A3 := hide ((unhide A2).below hb3)
        have HB3 := hide (HB2.out.trans (hb3.mono HB2.out.size))
        have hs3 := hb3.size
        have R3 := hide ho3.srow
        clear ho3 hb3 A2 HB2
        go_wp2_with fail
        refine (iTreSet_any _ bare (k : Int) s _ (unhide R3) (fun x hx => by rw [List.eq_of_mem_replicate hx]; exact Nat.zero_le _) HS.out).mono ?_
        rw [setRes_yes treOk_bare HK8.out HOS.out]
        rintro e w5 ⟨u5, rfl, ho5, hb5⟩
        obtain ⟨go, c, hu5⟩ := row_form' ho5
        subst hu5
        rw [show (setKeys bare k s).length = 15 from setKeys_len _ _ _] at *
        have A5 := hide ((unhide A3).below hb5)
        have HB5 := hide (HB3.out.trans (hb5.mono HB3.out.size))
        have O5 := hide ho5
        have hs5 := hb5.size
        clear ho5 hb5 A3 HB3 R3
        go_wp2_with fail
        refine (placeOf_any _ _).mono ?_
        rw [show leafOf (k : Int) = 7 + (k : Int) by unfold leafOf; rw [if_pos (by have := HK8.out; omega)]]
        rintro e wz ⟨rfl, rfl⟩
        go_wp2_with fail
        refine (ownUpward_any (7 + (k : Int)) s (by have := HSZ.out; omega) _).mono ?_
        rintro e w6 ⟨v6, rfl, ho6, hb6⟩
        obtain ⟨oo, oc, hv6⟩ := row_form' ho6
        subst hv6
        generalize hPL : (pathOf (chainOf (7 + (k : Int))) s).length = PL at *
        have A6 := hide ((unhide A5).below hb6)
        have HB6 := hide (HB5.out.trans (hb6.mono HB5.out.size))
        have O6 := hide ((unhide O5).below hb6)
        have M6 := hide ho6
        have hs6 := hb6.size
        have HPL := hide hPL
        clear ho6 hb6 A5 HB5 O5 hPL
        go_wp2_with fail
        refine (clone_any t _ (by have := HTZ.out; omega)).mono ?_
        rintro e w7 ⟨rfl, hb7⟩
        have A7 := hide ((unhide A6).below hb7)
        have HB7 := hide (HB6.out.trans (hb7.mono HB6.out.size))
        have O7 := hide ((unhide O6).below hb7)
        have M7 := hide (own_below' (unhide M6) hb7)
        clear hb7 A6 HB6 O6 M6
        have l1 := load_mm ((unhide A7).set (memC true (k : Int) (.slice go 15 c) (.slice oo PL oc) 0 t ⟨#[]⟩)) rfl
        have HB8 := hide (below_blk (unhide HB7) (Nat.le_refl _) (memC true (k : Int) (.slice go 15 c) (.slice oo PL oc) 0 t ⟨#[]⟩))
        have O8 : Hid _ := row_blk (unhide O7) (unhide A7) (by decide) (memC true (k : Int) (.slice go 15 c) (.slice oo PL oc) 0 t ⟨#[]⟩)
        have M8 : Hid _ := row_blk (unhide M7) (unhide A7) (by decide) (memC true (k : Int) (.slice go 15 c) (.slice oo PL oc) 0 t ⟨#[]⟩)
        go_wp2_with (refine wpList_store_whole rfl 42 _ _ rfl w.heap.size (memC true (k : Int) (.slice go 15 c) (.slice oo PL oc) 0 t ⟨#[]⟩) rfl rfl 42 _ (unhide A7) info_mm rfl (one_mm _ _ _ _ _ _ _ _ _ _ _) ?_)
        refine bodyPost_ret (v := .agg (memC true (k : Int) (.slice go 15 c) (.slice oo PL oc) 0 t ⟨#[]⟩)) (results_cell rfl rfl l1) rfl ⟨_, rfl, ?_, unhide HB8⟩
        rw [fst_yes HE.out]
        exact ⟨_, _, rfl, row_lowB (unhide O8) (by omega), row_lowB (unhide M8) (by omega)⟩
  · have HE : Hid (¬ fstOk p s t) := fun q => hp q.1
    have l1 := load_mm ((unhide A0).set noMem) rfl
    have HB3 := hide (below_blk (unhide HB0) (Nat.le_refl _) noMem)
    have HP := hide hp
    clear hp
    go_enter Tryz.func22, Tryz.ntmps22
    go_wp2_with fail
    refine (isOne_no _ _ (by have := HP.out; omega)).mono ?_
    rintro e wa ⟨rfl, rfl⟩
    go_wp2_with (refine wpList_store_whole rfl 42 _ _ rfl w.heap.size noMem rfl rfl 42 _ (unhide A0) info_mm rfl (one_mm _ _ _ _ _ _ _ _ _ _ _) ?_)
    refine bodyPost_ret (v := .agg noMem) (results_cell rfl rfl l1) rfl ⟨_, rfl, ?_, unhide HB3⟩
    rw [fst_no HE.out]
    exact MemO.none _ _
end Go.Proofs.YtabpaaahobakpaaGreat
/-
  The program's MakNew: its contract.
-/
namespace Go.Proofs.YtabpaaahobakpaaGreat
open Go.RowKit

set_option maxHeartbeats 400000 in
theorem iMakNew_any (who n : Int) (w : World) :
    Calls Tryz.prog 23 #[.int .i64 who, .int .i64 n] w fun e w' => e = .returned (.string (mkNew who n)) ∧ Below w.heap.size w w' := by
  by_cases h1 : who < 0 ∨ 8 ≤ who
  · have e1 : mkNew who n = ⟨#[]⟩ := by unfold mkNew; rw [if_neg (by omega)]
    rw [e1]
    go_enter Tryz.func23, Tryz.ntmps23
    go_wp2_with (go_at_call 18; refine (isOne_no _ _ h1).mono ?_; rintro e w' ⟨rfl, rfl⟩)
    go_ret
    exact ⟨rfl, Below.refl _ _⟩
  have g0 : 0 ≤ who := by omega
  have g1 : who < 8 := by omega
  by_cases h2 : n < 1
  · have e1 : mkNew who n = ⟨#[]⟩ := by unfold mkNew; rw [if_neg (by omega)]
    rw [e1]
    clear h1
    go_enter Tryz.func23, Tryz.ntmps23
    go_wp2_with (go_at_call 18; refine (isOne_yes _ _ g0 g1).mono ?_; rintro e w' ⟨rfl, rfl⟩)
    go_ret
    exact ⟨rfl, Below.refl _ _⟩
  have g2 : 1 ≤ n := by omega
  have d2 : decide (n < 1) = false := by simp; omega
  by_cases h3 : 99 < n
  · have e1 : mkNew who n = ⟨#[]⟩ := by unfold mkNew; rw [if_neg (by omega)]
    rw [e1]
    clear h1 h2
    go_enter Tryz.func23, Tryz.ntmps23
    go_wp2_with (go_at_call 18; refine (isOne_yes _ _ g0 g1).mono ?_; rintro e w' ⟨rfl, rfl⟩)
    go_ret
    exact ⟨rfl, Below.refl _ _⟩
  have d3 : decide (99 < n) = false := by simp; omega
  have e1 : mkNew who n = newName who.toNat n.toNat := by unfold mkNew; rw [if_pos (by omega)]
  rw [e1]
  have g3 : n < 100 := by omega
  have g4 : 0 ≤ n := by omega
  clear h1 h2 h3 e1
  go_enter Tryz.func23, Tryz.ntmps23
  go_wp2_with (first | (go_at_call 18; refine (isOne_yes _ _ g0 g1).mono ?_; rintro e w' ⟨rfl, rfl⟩) | (go_at_call 87; refine (nameOf_new _ _ _ g0 g1 g4 g3).mono ?_; rintro e w' ⟨rfl, hb⟩))
  go_ret
  exact ⟨rfl, hb⟩

end Go.Proofs.YtabpaaahobakpaaGreat
/-
  The program's GrpNew.
-/
namespace Go.Proofs.YtabpaaahobakpaaGreat
open Go.RowKit

theorem info_partsN {t : TypeId} {z : Value} {s b : Nat} (h : (Tryz.prog.info? t).map (fun i => (i.zero, i.size, i.bytes)) = some (some z, s, b)) : ∃ i0, Tryz.prog.info? t = some i0 ∧ i0.zero = some z ∧ i0.size = s ∧ i0.bytes = b := by
  cases hi : Tryz.prog.info? t with
  | none => rw [hi] at h; cases h
  | some i0 => rw [hi] at h; simp at h; exact ⟨i0, rfl, h.1, h.2.1, h.2.2⟩
theorem seats0 : (madeCells noMem 56).toList = scells (List.replicate 8 sx0) := by kernel_rfl
theorem ints0 : (madeCells #[Value.int .i64 0] 8).toList = List.replicate 8 (.int .i64 0) := by kernel_rfl
theorem wins0 : (madeCells #[Value.slice none 0 0] 8).toList = List.replicate 8 (.slice none 0 0) := by kernel_rfl
theorem info_m3 : (Tryz.prog.info? 42).map (fun i => (i.zero, i.size, i.bytes)) = some (some (.agg noMem), 7, 104) := by kernel_rfl
theorem info_i3 : (Tryz.prog.info? 3).map (fun i => (i.zero, i.size, i.bytes)) = some (some (.int .i64 0), 1, 8) := by kernel_rfl
theorem info_w3 : (Tryz.prog.info? 58).map (fun i => (i.zero, i.size, i.bytes)) = some (some (.slice none 0 0), 1, 24) := by kernel_rfl
set_option maxHeartbeats 400000 in
theorem newSeatsM_any (w : World) : Calls Tryz.prog 19 #[] w fun e w' => e = .returned (.slice (some ⟨w.heap.size, 0, none⟩) 8 8) ∧ w'.ownsRow w.heap.size 42 7 (.slice (some ⟨w.heap.size, 0, none⟩) 8 8) 8 (scells (List.replicate 8 sx0)) ∧ Below w.heap.size w w' := by
  obtain ⟨i0, hi, hz0, hz1, hz2⟩ := info_partsN info_m3
  go_enter Tryz.func19, Tryz.ntmps19
  go_wp2_with (at_make; refine wpList_make_full _ rfl _ _ 52 rfl w.heap.size 42 i0 (.agg noMem) 7 Tryz.underlying52 hi hz0 hz1 _ _ _ _ 8 rfl rfl rfl rfl (by rw [hz2]; decide) (by unfold maxLen; omega) (Nat.le_refl _) ?_)
  intro w1 hown hgrow
  rw [seats0] at hown
  have hO := hide hown
  have hB : Hid (Below w.heap.size w w1) := (Below.refl _ _).grown hgrow (Nat.le_refl _) (fun k hk => by cases hk)
  clear hown hgrow
  go_wp2_with fail
  go_ret
  exact ⟨rfl, unhide hO, unhide hB⟩
set_option maxHeartbeats 400000 in
theorem newSeatsI_any (w : World) : Calls Tryz.prog 20 #[] w fun e w' => e = .returned (.slice (some ⟨w.heap.size, 0, none⟩) 8 8) ∧ w'.ownsRow w.heap.size 3 1 (.slice (some ⟨w.heap.size, 0, none⟩) 8 8) 8 (List.replicate 8 (.int .i64 0)) ∧ Below w.heap.size w w' := by
  obtain ⟨i0, hi, hz0, hz1, hz2⟩ := info_partsN info_i3
  go_enter Tryz.func20, Tryz.ntmps20
  go_wp2_with (at_make; refine wpList_make_full _ rfl _ _ 54 rfl w.heap.size 3 i0 (.int .i64 0) 1 Tryz.underlying54 hi hz0 hz1 _ _ _ _ 8 rfl rfl rfl rfl (by rw [hz2]; decide) (by unfold maxLen; omega) (Nat.le_refl _) ?_)
  intro w1 hown hgrow
  replace hown := ints0 ▸ hown
  have hO : Hid (w1.ownsRow w.heap.size 3 1 (.slice (some ⟨w.heap.size, 0, none⟩) 8 8) 8 (List.replicate 8 (.int .i64 0))) := hown
  have hB : Hid (Below w.heap.size w w1) := (Below.refl _ _).grown hgrow (Nat.le_refl _) (fun k hk => by cases hk)
  clear hown hgrow
  go_wp2_with fail
  go_ret
  exact ⟨rfl, unhide hO, unhide hB⟩
set_option maxHeartbeats 400000 in
theorem newSeatsW_any (w : World) : Calls Tryz.prog 21 #[] w fun e w' => e = .returned (.slice (some ⟨w.heap.size, 0, none⟩) 8 8) ∧ w'.ownsRow w.heap.size 58 1 (.slice (some ⟨w.heap.size, 0, none⟩) 8 8) 8 (List.replicate 8 (.slice none 0 0)) ∧ Below w.heap.size w w' := by
  obtain ⟨i0, hi, hz0, hz1, hz2⟩ := info_partsN info_w3
  go_enter Tryz.func21, Tryz.ntmps21
  go_wp2_with (at_make; refine wpList_make_full _ rfl _ _ 56 rfl w.heap.size 58 i0 (.slice none 0 0) 1 Tryz.underlying56 hi hz0 hz1 _ _ _ _ 8 rfl rfl rfl rfl (by rw [hz2]; decide) (by unfold maxLen; omega) (Nat.le_refl _) ?_)
  intro w1 hown hgrow
  replace hown := wins0 ▸ hown
  have hO : Hid (w1.ownsRow w.heap.size 58 1 (.slice (some ⟨w.heap.size, 0, none⟩) 8 8) 8 (List.replicate 8 (.slice none 0 0))) := hown
  have hB : Hid (Below w.heap.size w w1) := (Below.refl _ _).grown hgrow (Nat.le_refl _) (fun k hk => by cases hk)
  clear hown hgrow
  go_wp2_with fail
  go_ret
  exact ⟨rfl, unhide hO, unhide hB⟩

/-- The three kinds of seats, with their numbers. -/
theorem newSeatsM_own (w : World) : Calls Tryz.prog 19 #[] w fun e w' => ∃ g, e = .returned (.slice (some ⟨g, 0, none⟩) 8 8) ∧ w.heap.size ≤ g ∧ g < w'.heap.size ∧ w'.ownsRow w.heap.size 42 7 (.slice (some ⟨g, 0, none⟩) 8 8) 8 (scells (List.replicate 8 sx0)) ∧ Below w.heap.size w w' :=
  (newSeatsM_any w).mono fun _ _ ⟨h1, h2, h3⟩ => ⟨_, h1, Nat.le_refl _, (h2.lt _ rfl).2, h2, h3⟩
theorem newSeatsI_own (w : World) : Calls Tryz.prog 20 #[] w fun e w' => ∃ g, e = .returned (.slice (some ⟨g, 0, none⟩) 8 8) ∧ w.heap.size ≤ g ∧ g < w'.heap.size ∧ w'.ownsRow w.heap.size 3 1 (.slice (some ⟨g, 0, none⟩) 8 8) 8 (List.replicate 8 (.int .i64 0)) ∧ Below w.heap.size w w' :=
  (newSeatsI_any w).mono fun _ _ ⟨h1, h2, h3⟩ => ⟨_, h1, Nat.le_refl _, (h2.lt _ rfl).2, h2, h3⟩
theorem newSeatsW_own (w : World) : Calls Tryz.prog 21 #[] w fun e w' => ∃ g, e = .returned (.slice (some ⟨g, 0, none⟩) 8 8) ∧ w.heap.size ≤ g ∧ g < w'.heap.size ∧ w'.ownsRow w.heap.size 58 1 (.slice (some ⟨g, 0, none⟩) 8 8) 8 (List.replicate 8 (.slice none 0 0)) ∧ Below w.heap.size w w' :=
  (newSeatsW_any w).mono fun _ _ ⟨h1, h2, h3⟩ => ⟨_, h1, Nat.le_refl _, (h2.lt _ rfl).2, h2, h3⟩
theorem mkNew_mx (a b : Int) : (mkNew a b).size ≤ maxLen := by
  unfold mkNew maxLen
  split
  · have := newName_sizes a.toNat b.toNat; omega
  · show 0 ≤ _; omega
theorem info_wd : (Tryz.prog.info? 60).map (·.size) = some 10 := by kernel_rfl
theorem info_wld2 : (Tryz.prog.info? 34).map (·.size) = some 10 := by kernel_rfl
theorem one_w10 (a0 a1 a2 a3 a4 a5 a6 a7 a8 a9 : Option Addr) (l0 l1 l2 l3 l4 l5 l6 l7 l8 l9 c0 c1 c2 c3 c4 c5 c6 c7 c8 c9 : Nat) : (wldC (.slice a0 l0 c0) (.slice a1 l1 c1) (.slice a2 l2 c2) (.slice a3 l3 c3) (.slice a4 l4 c4) (.slice a5 l5 c5) (.slice a6 l6 c6) (.slice a7 l7 c7) (.slice a8 l8 c8) (.slice a9 l9 c9)).all (·.oneCell') = true := by simp [Value.oneCell']
end Go.Proofs.YtabpaaahobakpaaGreat
/-
 The program's GrpNew, of one of the group.
-/
namespace Go.Proofs.YtabpaaahobakpaaGreat
open Go.RowKit
set_option maxRecDepth 100000 in
set_option maxHeartbeats 8000000 in
theorem handedOut_any (b : Nat) (a0 a1 a2 a3 a4 a5 a6 a7 a8 a9 : Option Addr) (l0 l1 l2 l3 l4 l5 l6 l7 l8 l9 c0 c1 c2 c3 c4 c5 c6 c7 c8 c9 : Nat) (w : World)
 (h : Blk w b 60 (wldC (.slice a0 l0 c0) (.slice a1 l1 c1) (.slice a2 l2 c2) (.slice a3 l3 c3) (.slice a4 l4 c4) (.slice a5 l5 c5) (.slice a6 l6 c6) (.slice a7 l7 c7) (.slice a8 l8 c8) (.slice a9 l9 c9))) :
 Calls Tryz.prog 24 #[.pointer (some ⟨b, 0, none⟩)] w fun e w' => e = .returned (.agg (wldC (.slice a0 l0 c0) (.slice a1 l1 c1) (.slice a2 l2 c2) (.slice a3 l3 c3) (.slice a4 l4 c4) (.slice a5 l5 c5) (.slice a6 l6 c6) (.slice a7 l7 c7) (.slice a8 l8 c8) (.slice a9 l9 c9))) ∧ Below w.heap.size w w' := by
 have V := hide h
 have HV := hide h.lt
 clear h
 have HB : Hid (Below w.heap.size w w) := Below.refl _ _
 have HN : Hid (True) := trivial
 go_enter Tryz.func24, Tryz.ntmps24
 replace HN : Hid (b < w.heap.size) := HV
 clear HV
 -- #1
 repeat ((fail_if_success (refine pl_id ?_)); go_step)
 refine w_i ?_
 refine w_1 (fun K hK => ?_)
 refine op_alloc (cs := noWld) (t := 34) ?_ (fun bR wc R hb hbn => ?_)
 · go_simp
   try rfl
 refine hK.out _ _ ?_
 clear hK
 replace R := hide R
 replace V := hide ((unhide V).below hb)
 have hsz := hb.size
 have hsz2 := HB.out.size
 replace HN := hide (And.intro HN.out (And.intro hsz hbn))
 clear hsz hsz2
 replace HB := hide (HB.out.trans (hb.mono HB.out.size))
 clear hb
 clear hbn
 try simp only [Act.put, List.setIfInBounds_toArray, List.set_cons_zero, List.set_cons_succ]
 refine w_e ?_
 -- #2
 repeat go_step
 refine r_i (KeepL ([b, bR] : List Nat)) ?_
 have hb : Below wc.heap.size wc wc.drew := (Below.refl _ _).drew
 have hsq : wc.drew.heap.size = wc.heap.size := rfl
 generalize wc.drew = wc at *
 replace V := hide ((unhide V).below hb)
 replace R := hide ((unhide R).below hb)
 have hsz := hb.size
 have hsz2 := HB.out.size
 replace HN := hide (And.intro HN.out (And.intro hsz hsq))
 clear hsz hsz2
 replace HB := hide (HB.out.trans (hb.mono HB.out.size))
 clear hb
 clear hsq
 refine r_q 0 ?_; refine r_q 1 ?_; refine r_q 2 ?_
 refine r_q 3 ?_ (h := by intro w' hw'; have x := (Blk.keepL (unhide V) hw' (by simp)).g 0; go_simp; all_goals rfl)
 refine r_q 4 ?_; refine r_q 5 ?_; refine r_q 6 ?_
 refine r_q 7 ?_ (h := by intro w' hw'; have x := (Blk.keepL (unhide V) hw' (by simp)).g 1; go_simp; all_goals rfl)
 refine r_q 8 ?_; refine r_q 9 ?_; refine r_q 10 ?_
 refine r_q 11 ?_ (h := by intro w' hw'; have x := (Blk.keepL (unhide V) hw' (by simp)).g 2; go_simp; all_goals rfl)
 refine r_q 12 ?_; refine r_q 13 ?_; refine r_q 14 ?_
 refine r_q 15 ?_ (h := by intro w' hw'; have x := (Blk.keepL (unhide V) hw' (by simp)).g 3; go_simp; all_goals rfl)
 refine r_q 16 ?_; refine r_q 17 ?_; refine r_q 18 ?_
 refine r_q 19 ?_ (h := by intro w' hw'; have x := (Blk.keepL (unhide V) hw' (by simp)).g 4; go_simp; all_goals rfl)
 refine r_q 20 ?_; refine r_q 21 ?_; refine r_q 22 ?_
 refine r_q 23 ?_ (h := by intro w' hw'; have x := (Blk.keepL (unhide V) hw' (by simp)).g 5; go_simp; all_goals rfl)
 refine r_q 24 ?_; refine r_q 25 ?_; refine r_q 26 ?_
 refine r_q 27 ?_ (h := by intro w' hw'; have x := (Blk.keepL (unhide V) hw' (by simp)).g 6; go_simp; all_goals rfl)
 refine r_q 28 ?_; refine r_q 29 ?_; refine r_q 30 ?_
 refine r_q 31 ?_ (h := by intro w' hw'; have x := (Blk.keepL (unhide V) hw' (by simp)).g 7; go_simp; all_goals rfl)
 refine r_q 32 ?_; refine r_q 33 ?_; refine r_q 34 ?_
 refine r_q 35 ?_ (h := by intro w' hw'; have x := (Blk.keepL (unhide V) hw' (by simp)).g 8; go_simp; all_goals rfl)
 refine r_q 36 ?_; refine r_q 37 ?_; refine r_q 38 ?_
 refine r_q 39 ?_ (h := by intro w' hw'; have x := (Blk.keepL (unhide V) hw' (by simp)).g 9; go_simp; all_goals rfl)
 refine r_q 40 ?_
 refine r_l 41 (fun K hK => ?_)
 have OLD := R
 refine op_row 34 (.tmp 2) (.tmp 43) rfl bR (wldC (.slice a0 l0 c0) (.slice a1 l1 c1) (.slice a2 l2 c2) (.slice a3 l3 c3) (.slice a4 l4 c4) (.slice a5 l5 c5) (.slice a6 l6 c6) (.slice a7 l7 c7) (.slice a8 l8 c8) (.slice a9 l9 c9)) _ 34 rfl rfl (unhide R) info_wld2 rfl (one_w10 _ _ _ _ _ _ _ _ _ _ _ _ _ _ _ _ _ _ _ _ _ _ _ _ _ _ _ _ _ _) (fun wc NEW hg hs => ?_)
 refine hK.out _ _ ?_
 clear hK
 replace R := hide NEW
 clear NEW
 replace V := hide (blk_grown (unhide V) hg (by have q := HN.out; omega))
 replace HB := hide (below_grown HB.out hg HB.out.size (by have q := HN.out; omega))
 replace HN := hide (And.intro HN.out hs)
 clear hg hs OLD
 try simp only [Act.put]
 have lw := load_wld (unhide R) rfl
 go_wp2_with fail
 refine bodyPost_ret (v := .agg (wldC (.slice a0 l0 c0) (.slice a1 l1 c1) (.slice a2 l2 c2) (.slice a3 l3 c3) (.slice a4 l4 c4) (.slice a5 l5 c5) (.slice a6 l6 c6) (.slice a7 l7 c7) (.slice a8 l8 c8) (.slice a9 l9 c9))) (results_cell rfl rfl lw) rfl ?_
 exact ⟨rfl, HB.out⟩
set_option maxRecDepth 100000 in
set_option maxHeartbeats 8000000 in
theorem iGrpNew_any (who : Nat) (w : World) (hw : who < 8) (m : Mem) (hm : fstOf (who : Int) (mkNew (who : Int) 1) (mkNew (who : Int) 2) = m) :
 Calls Tryz.prog 6 #[.int .i64 (who : Int)] w fun e w' => ∃ (g0 g3 g7 g8 : Nat) (ks os : Value), e = .returned (.agg (wldC (.slice (some ⟨g0, 0, none⟩) 8 8) (.slice none 0 0) (.slice none 0 0) (.slice (some ⟨g3, 0, none⟩) 8 8) (.slice none 0 0) (.slice none 0 0) (.slice none 0 0) (.slice (some ⟨g7, 0, none⟩) 8 8) (.slice (some ⟨g8, 0, none⟩) 8 8) (.slice none 0 0))) ∧
  w'.ownsRow w.heap.size 42 7 (.slice (some ⟨g0, 0, none⟩) 8 8) 8 (scells ((List.replicate 8 sx0).set who (m.inn, m.who, ks, os, m.ep, m.init, m.tag))) ∧ Own w.heap.size w' ks m.keys ∧ OwnM w.heap.size w' os m.own ∧
  w'.ownsRow w.heap.size 3 1 (.slice (some ⟨g3, 0, none⟩) 8 8) 8 ((List.replicate 8 (.int .i64 0)).set who (.int .i64 2)) ∧ w'.ownsRow w.heap.size 3 1 (.slice (some ⟨g7, 0, none⟩) 8 8) 8 (List.replicate 8 (.int .i64 0)) ∧ w'.ownsRow w.heap.size 58 1 (.slice (some ⟨g8, 0, none⟩) 8 8) 8 (List.replicate 8 (.slice none 0 0)) ∧
  g3 ≠ g7 ∧ Below w.heap.size w w' := by
 have HM := hide hm
 have HWH := hide hw
 clear hm hw
 have HB : Hid (Below w.heap.size w w) := Below.refl _ _
 have HN : Hid (True) := trivial
 go_enter Tryz.func6, Tryz.ntmps6
 -- #1
 repeat ((fail_if_success (refine pl_id ?_)); go_step)
 refine w_i ?_
 refine w_1 (fun K hK => ?_)
 refine op_alloc (cs := noWld) (t := 34) ?_ (fun bR wc R hb hbn => ?_)
 · go_simp
   try rfl
 refine hK.out _ _ ?_
 clear hK
 replace R := hide R
 have hsz := hb.size
 have hsz2 := HB.out.size
 replace HN := hide (And.intro HN.out (And.intro hsz hbn))
 clear hsz hsz2
 replace HB := hide (HB.out.trans (hb.mono HB.out.size))
 clear hb
 clear hbn
 try simp only [Act.put, List.setIfInBounds_toArray, List.set_cons_zero, List.set_cons_succ]
 refine w_e ?_
 -- #2
 repeat ((fail_if_success (refine pl_id ?_)); go_step)
 refine w_i ?_
 refine w_q ?_
 refine w_1 (fun K hK => ?_)
 go_simp
 refine (isOne_yes (who : Int) _ (by omega) (by have := HWH.out; omega)).mono ?_
 rintro e wz ⟨rfl, hz⟩
 replace hz := hz.symm
 subst hz
 go_simp
 refine hK.out _ _ ?_
 clear hK
 try simp only [Act.put, List.setIfInBounds_toArray, List.set_cons_zero, List.set_cons_succ]
 refine w_q ?_
 refine w_e ?_
 -- #3
 repeat ((fail_if_success (refine pl_id ?_)); go_step)
 refine w_i ?_
 refine w_1 (fun K hK => ?_)
 go_simp
 refine (newSeatsM_own _).mono ?_
 rintro e wc ⟨g0, rfl, q1, q2, ho, hb⟩
 have S := hide (row_lowB ho HB.out.size)
 go_simp
 refine hK.out _ _ ?_
 clear hK
 replace R := hide ((unhide R).below hb)
 have hsz := hb.size
 have hsz2 := HB.out.size
 replace HN := hide (And.intro HN.out (And.intro hsz (And.intro q1 q2)))
 clear hsz hsz2
 replace HB := hide (HB.out.trans (hb.mono HB.out.size))
 clear hb
 clear ho q1 q2
 try simp only [Act.put, List.setIfInBounds_toArray, List.set_cons_zero, List.set_cons_succ]
 refine w_1 (fun K hK => ?_)
 go_simp
 refine (newSeatsI_own _).mono ?_
 rintro e wc ⟨g3, rfl, q1, q2, ho, hb⟩
 have I3 := hide (row_lowB ho HB.out.size)
 go_simp
 refine hK.out _ _ ?_
 clear hK
 replace R := hide ((unhide R).below hb)
 replace S := hide (own_below' (unhide S) hb)
 have hsz := hb.size
 have hsz2 := HB.out.size
 replace HN := hide (And.intro HN.out (And.intro hsz (And.intro q1 q2)))
 clear hsz hsz2
 replace HB := hide (HB.out.trans (hb.mono HB.out.size))
 clear hb
 clear ho q1 q2
 try simp only [Act.put, List.setIfInBounds_toArray, List.set_cons_zero, List.set_cons_succ]
 refine w_1 (fun K hK => ?_)
 go_simp
 refine (newSeatsI_own _).mono ?_
 rintro e wc ⟨g7, rfl, q1, q2, ho, hb⟩
 have I7 := hide (row_lowB ho HB.out.size)
 go_simp
 refine hK.out _ _ ?_
 clear hK
 replace R := hide ((unhide R).below hb)
 replace S := hide (own_below' (unhide S) hb)
 replace I3 := hide (own_below' (unhide I3) hb)
 have hsz := hb.size
 have hsz2 := HB.out.size
 replace HN := hide (And.intro HN.out (And.intro hsz (And.intro q1 q2)))
 clear hsz hsz2
 replace HB := hide (HB.out.trans (hb.mono HB.out.size))
 clear hb
 clear ho q1 q2
 try simp only [Act.put, List.setIfInBounds_toArray, List.set_cons_zero, List.set_cons_succ]
 refine w_1 (fun K hK => ?_)
 go_simp
 refine (newSeatsW_own _).mono ?_
 rintro e wc ⟨g8, rfl, q1, q2, ho, hb⟩
 have W8 := hide (row_lowB ho HB.out.size)
 go_simp
 refine hK.out _ _ ?_
 clear hK
 replace R := hide ((unhide R).below hb)
 replace S := hide (own_below' (unhide S) hb)
 replace I3 := hide (own_below' (unhide I3) hb)
 replace I7 := hide (own_below' (unhide I7) hb)
 have hsz := hb.size
 have hsz2 := HB.out.size
 replace HN := hide (And.intro HN.out (And.intro hsz (And.intro q1 q2)))
 clear hsz hsz2
 replace HB := hide (HB.out.trans (hb.mono HB.out.size))
 clear hb
 clear ho q1 q2
 try simp only [Act.put, List.setIfInBounds_toArray, List.set_cons_zero, List.set_cons_succ]
 refine w_q ?_
 refine w_1 (fun K hK => ?_)
 refine op_alloc (cs := noWld) (t := 60) ?_ (fun bV wc V hb hbn => ?_)
 · go_simp
   try rfl
 refine hK.out _ _ ?_
 clear hK
 replace V := hide V
 replace R := hide ((unhide R).below hb)
 replace S := hide (own_below' (unhide S) hb)
 replace I3 := hide (own_below' (unhide I3) hb)
 replace I7 := hide (own_below' (unhide I7) hb)
 replace W8 := hide (own_below' (unhide W8) hb)
 have hsz := hb.size
 have hsz2 := HB.out.size
 replace HN := hide (And.intro HN.out (And.intro hsz hbn))
 clear hsz hsz2
 replace HB := hide (HB.out.trans (hb.mono HB.out.size))
 clear hb
 clear hbn
 try simp only [Act.put, List.setIfInBounds_toArray, List.set_cons_zero, List.set_cons_succ]
 refine w_1 (fun K hK => ?_)
 have OLD := V
 refine op_row 60 (.tmp 3) (.tmp 12) rfl bV (wldC (.slice (some ⟨g0, 0, none⟩) 8 8) (.slice none 0 0) (.slice none 0 0) (.slice (some ⟨g3, 0, none⟩) 8 8) (.slice none 0 0) (.slice none 0 0) (.slice none 0 0) (.slice (some ⟨g7, 0, none⟩) 8 8) (.slice (some ⟨g8, 0, none⟩) 8 8) (.slice none 0 0)) _ 60 rfl rfl (unhide V) info_wd rfl (one_w10 _ _ _ _ _ _ _ _ _ _ _ _ _ _ _ _ _ _ _ _ _ _ _ _ _ _ _ _ _ _) (fun wc NEW hg hs => ?_)
 refine hK.out _ _ ?_
 clear hK
 replace V := hide NEW
 clear NEW
 replace R := hide (blk_grown (unhide R) hg (by have q := HN.out; omega))
 replace S := hide (row_grown (unhide S) hg (unhide OLD) (by decide))
 replace I3 := hide (row_grown (unhide I3) hg (unhide OLD) (by decide))
 replace I7 := hide (row_grown (unhide I7) hg (unhide OLD) (by decide))
 replace W8 := hide (row_grown (unhide W8) hg (unhide OLD) (by decide))
 replace HB := hide (below_grown HB.out hg HB.out.size (by have q := HN.out; omega))
 replace HN := hide (And.intro HN.out hs)
 clear hg hs OLD
 try simp only [Act.put]
 refine w_e ?_
 -- #4
 repeat go_step
 refine r_i (Later) ?_
 have hb : Below wc.heap.size wc wc.drew := (Below.refl _ _).drew
 have hsq : wc.drew.heap.size = wc.heap.size := rfl
 generalize wc.drew = wc at *
 replace R := hide ((unhide R).below hb)
 replace V := hide ((unhide V).below hb)
 replace S := hide (own_below' (unhide S) hb)
 replace I3 := hide (own_below' (unhide I3) hb)
 replace I7 := hide (own_below' (unhide I7) hb)
 replace W8 := hide (own_below' (unhide W8) hb)
 have hsz := hb.size
 have hsz2 := HB.out.size
 replace HN := hide (And.intro HN.out (And.intro hsz hsq))
 clear hsz hsz2
 replace HB := hide (HB.out.trans (hb.mono HB.out.size))
 clear hb
 clear hsq
 refine r_q 0 ?_
 refine r_q 1 ?_ (h := by intro w' hw'; have x := (V.out.below hw').g 0; go_simp; all_goals rfl)
 refine r_q 2 ?_; refine r_q 3 ?_; refine r_q 4 ?_; refine r_q 6 ?_
 refine r_1 5 (fun K hK => ?_)
 go_simp
 refine (iMakNew_any (who : Int) 1 _).mono ?_
 rintro e wc ⟨rfl, hb⟩
 go_simp
 refine hK.out _ _ (hb) ?_
 clear hK
 replace R := hide ((unhide R).below hb)
 replace V := hide ((unhide V).below hb)
 replace S := hide (own_below' (unhide S) hb)
 replace I3 := hide (own_below' (unhide I3) hb)
 replace I7 := hide (own_below' (unhide I7) hb)
 replace W8 := hide (own_below' (unhide W8) hb)
 have hsz := hb.size
 have hsz2 := HB.out.size
 replace HN := hide (And.intro HN.out hsz)
 clear hsz hsz2
 replace HB := hide (HB.out.trans (hb.mono HB.out.size))
 clear hb
 try simp only [Act.put, List.setIfInBounds_toArray, List.set_cons_zero, List.set_cons_succ]
 refine r_1 7 (fun K hK => ?_)
 go_simp
 refine (iMakNew_any (who : Int) 2 _).mono ?_
 rintro e wc ⟨rfl, hb⟩
 go_simp
 refine hK.out _ _ (hb) ?_
 clear hK
 replace R := hide ((unhide R).below hb)
 replace V := hide ((unhide V).below hb)
 replace S := hide (own_below' (unhide S) hb)
 replace I3 := hide (own_below' (unhide I3) hb)
 replace I7 := hide (own_below' (unhide I7) hb)
 replace W8 := hide (own_below' (unhide W8) hb)
 have hsz := hb.size
 have hsz2 := HB.out.size
 replace HN := hide (And.intro HN.out hsz)
 clear hsz hsz2
 replace HB := hide (HB.out.trans (hb.mono HB.out.size))
 clear hb
 try simp only [Act.put, List.setIfInBounds_toArray, List.set_cons_zero, List.set_cons_succ]
 refine r_1 8 (fun K hK => ?_)
 go_simp
 refine (iMemFirst_any (who : Int) (mkNew (who : Int) 1) (mkNew (who : Int) 2) _ (mkNew_mx _ _) (mkNew_mx _ _)).mono ?_
 rw [HM.out]
 rintro e wc ⟨v, rfl, ⟨ks, os, rfl, h1, h2⟩, hb⟩
 have KS := hide (row_lowB h1 HB.out.size)
 have OS := hide (row_lowB h2 HB.out.size)
 obtain ⟨ko, kc, rfl⟩ := row_form' h1
 obtain ⟨oo, oc, rfl⟩ := row_form' h2
 obtain ⟨kl, hkl⟩ : ∃ n, m.keys.length = n := ⟨_, rfl⟩
 obtain ⟨ol, hol⟩ : ∃ n, m.own.length = n := ⟨_, rfl⟩
 rw [hkl, hol]
 rw [hkl] at KS
 rw [hol] at OS
 have HKL := hide hkl
 have HOL := hide hol
 go_simp
 refine hK.out _ _ (hb) ?_
 clear hK
 replace R := hide ((unhide R).below hb)
 replace V := hide ((unhide V).below hb)
 replace S := hide (own_below' (unhide S) hb)
 replace I3 := hide (own_below' (unhide I3) hb)
 replace I7 := hide (own_below' (unhide I7) hb)
 replace W8 := hide (own_below' (unhide W8) hb)
 have hsz := hb.size
 have hsz2 := HB.out.size
 replace HN := hide (And.intro HN.out hsz)
 clear hsz hsz2
 replace HB := hide (HB.out.trans (hb.mono HB.out.size))
 clear hb
 clear h1 h2 hkl hol
 try simp only [Act.put, List.setIfInBounds_toArray, List.set_cons_zero, List.set_cons_succ]
 refine r_q 9 ?_ (h := by intro w' hw'; have hi8 : (who : Int) < 8 := (by have := HWH.out; omega); go_simp; all_goals rfl)
 refine r_l 10 (fun K hK => ?_)
 have hth := row_there (unhide S) (who * 7) 7 (by have := HWH.out; omega)
 refine Go.wp_store_mid 42 (.tmp 22) (.tmp 21) rfl g0 (who * 7) (memC m.inn m.who (.slice ko kl kc) (.slice oo ol oc) m.ep m.init m.tag) rfl rfl hth info_mm (one_mm _ _ _ _ _ _ _ _ _ _ _) ?_
 refine hK.out _ _ ?_
 clear hK hth
 have hg := grown_setCells g0 (memC m.inn m.who (.slice ko kl kc) (.slice oo ol oc) m.ep m.init m.tag).toList (who * 7) wc
 have hs := row_setMany (memC m.inn m.who (.slice ko kl kc) (.slice oo ol oc) m.ep m.init m.tag).toList (who * 7) (unhide S)
 have hs2 := size_cellsAt g0 (memC m.inn m.who (.slice ko kl kc) (.slice oo ol oc) m.ep m.init m.tag).toList (who * 7) wc
 rw [setMany_eq _ _ _ (by rw [scells_len]; show who * 7 + 7 ≤ _; simp; have := HWH.out; omega)] at hs
 have hcut := scells_cut (List.replicate 8 sx0) who (m.inn, m.who, .slice ko kl kc, .slice oo ol oc, m.ep, m.init, m.tag) (by simp; exact HWH.out)
 have hs3 : ((scells (List.replicate 8 sx0)).take (who * 7) ++ (memC m.inn m.who (.slice ko kl kc) (.slice oo ol oc) m.ep m.init m.tag).toList ++ (scells (List.replicate 8 sx0)).drop (who * 7 + (memC m.inn m.who (.slice ko kl kc) (.slice oo ol oc) m.ep m.init m.tag).toList.length)) = scells ((List.replicate 8 sx0).set who (m.inn, m.who, .slice ko kl kc, .slice oo ol oc, m.ep, m.init, m.tag)) := hcut
 rw [hs3] at hs
 clear hcut hs3
 generalize wc.setCells g0 (who * 7) (memC m.inn m.who (.slice ko kl kc) (.slice oo ol oc) m.ep m.init m.tag).toList = wx at *
 have hap1 := row_apart (unhide KS) (unhide S) (by decide)
 have hap2 := row_apart (unhide OS) (unhide S) (by decide)
 replace R := hide (blk_grown (unhide R) hg (by have q := HN.out; omega))
 replace V := hide (blk_grown (unhide V) hg (by have q := HN.out; omega))
 replace I3 := hide (row_kept (unhide I3) hg (by have q := HN.out; omega))
 replace I7 := hide (row_kept (unhide I7) hg (by have q := HN.out; omega))
 replace W8 := hide (row_kept (unhide W8) hg (by have q := HN.out; omega))
 replace KS := hide (World.ownsRow.kept (unhide KS) hg hap1)
 replace OS := hide (World.ownsRow.kept (unhide OS) hg hap2)
 replace S := hide hs
 replace HB := hide (below_grown HB.out hg HB.out.size (by have q := HN.out; omega))
 replace HN := hide (And.intro HN.out hs2)
 clear hg hs hs2 hap1 hap2
 try simp only [Act.put]
 -- #5
 repeat ((fail_if_success (refine pl_id ?_)); go_step)
 refine w_i ?_
 refine w_q ?_
 refine w_q ?_ (h := by have x := V.out.g 3; go_simp; all_goals rfl)
 refine w_q ?_
 refine w_q ?_ (h := by have hi8 : (who : Int) < 8 := (by have := HWH.out; omega); go_simp; all_goals rfl)
 refine w_1 (fun K hK => ?_)
 have hx : who < 8 := HWH.out
 have e0 := (unhide I3).cellAt who (by omega)
 have f0 := (unhide I3).frozenAt who
 have e1 : (List.replicate 8 (Value.int .i64 0))[who]? = some (.int .i64 0) := by rw [List.getElem?_replicate, if_pos hx]
 rw [e1] at e0
 refine op_rowset who (.int .i64 2) (unhide I3) ?_ (fun wx ho hg hs => ?_)
 · go_simp
 refine hK.out _ _ ?_
 clear hK e0 e1 f0 hx
 replace R := hide (blk_grown (unhide R) hg (by have q := HN.out; omega))
 replace V := hide (blk_grown (unhide V) hg (by have q := HN.out; omega))
 replace S := hide (row_kept (unhide S) hg (by have q := HN.out; omega))
 replace I7 := hide (row_kept (unhide I7) hg (by have q := HN.out; omega))
 replace W8 := hide (row_kept (unhide W8) hg (by have q := HN.out; omega))
 replace KS := hide (World.ownsRow.kept (unhide KS) hg (row_apart (unhide KS) (unhide I3) (by decide)))
 replace OS := hide (World.ownsRow.kept (unhide OS) hg (row_apart (unhide OS) (unhide I3) (by decide)))
 replace HB := hide (below_grown HB.out hg HB.out.size (by have q := HN.out; omega))
 replace I3 := hide ho
 replace HN := hide (And.intro HN.out hs)
 clear hg hs ho
 try simp only [Act.put]
 refine w_e ?_
 -- #6
 repeat ((fail_if_success (refine pl_id ?_)); go_step)
 refine w_i ?_
 refine w_1 (fun K hK => ?_)
 go_simp
 refine (handedOut_any bV _ _ _ _ _ _ _ _ _ _ _ _ _ _ _ _ _ _ _ _ _ _ _ _ _ _ _ _ _ _ _ (unhide V)).mono ?_
 rintro e wc ⟨rfl, hb⟩
 go_simp
 refine hK.out _ _ ?_
 clear hK
 replace R := hide ((unhide R).below hb)
 replace V := hide ((unhide V).below hb)
 replace KS := hide (own_below' (unhide KS) hb)
 replace OS := hide (own_below' (unhide OS) hb)
 replace S := hide (own_below' (unhide S) hb)
 replace I3 := hide (own_below' (unhide I3) hb)
 replace I7 := hide (own_below' (unhide I7) hb)
 replace W8 := hide (own_below' (unhide W8) hb)
 have hsz := hb.size
 have hsz2 := HB.out.size
 replace HN := hide (And.intro HN.out hsz)
 clear hsz hsz2
 replace HB := hide (HB.out.trans (hb.mono HB.out.size))
 clear hb
 try simp only [Act.put, List.setIfInBounds_toArray, List.set_cons_zero, List.set_cons_succ]
 refine w_1 (fun K hK => ?_)
 have OLD := R
 refine op_row 34 (.tmp 2) (.tmp 27) rfl bR (wldC (.slice (some ⟨g0, 0, none⟩) 8 8) (.slice none 0 0) (.slice none 0 0) (.slice (some ⟨g3, 0, none⟩) 8 8) (.slice none 0 0) (.slice none 0 0) (.slice none 0 0) (.slice (some ⟨g7, 0, none⟩) 8 8) (.slice (some ⟨g8, 0, none⟩) 8 8) (.slice none 0 0)) _ 34 rfl rfl (unhide R) info_wld2 rfl (one_w10 _ _ _ _ _ _ _ _ _ _ _ _ _ _ _ _ _ _ _ _ _ _ _ _ _ _ _ _ _ _) (fun wc NEW hg hs => ?_)
 refine hK.out _ _ ?_
 clear hK
 replace R := hide NEW
 clear NEW
 replace V := hide (blk_grown (unhide V) hg (by have q := HN.out; omega))
 replace KS := hide (row_grown (unhide KS) hg (unhide OLD) (by decide))
 replace OS := hide (row_grown (unhide OS) hg (unhide OLD) (by decide))
 replace S := hide (row_grown (unhide S) hg (unhide OLD) (by decide))
 replace I3 := hide (row_grown (unhide I3) hg (unhide OLD) (by decide))
 replace I7 := hide (row_grown (unhide I7) hg (unhide OLD) (by decide))
 replace W8 := hide (row_grown (unhide W8) hg (unhide OLD) (by decide))
 replace HB := hide (below_grown HB.out hg HB.out.size (by have q := HN.out; omega))
 replace HN := hide (And.intro HN.out hs)
 clear hg hs OLD
 try simp only [Act.put]
 refine w_e ?_
 have lw := load_wld (unhide R) rfl
 go_wp2_with fail
 refine bodyPost_ret (v := .agg (wldC (.slice (some ⟨g0, 0, none⟩) 8 8) (.slice none 0 0) (.slice none 0 0) (.slice (some ⟨g3, 0, none⟩) 8 8) (.slice none 0 0) (.slice none 0 0) (.slice none 0 0) (.slice (some ⟨g7, 0, none⟩) 8 8) (.slice (some ⟨g8, 0, none⟩) 8 8) (.slice none 0 0))) (results_cell rfl rfl lw) rfl ?_
 exact ⟨g0, g3, g7, g8, _, _, rfl, unhide S, by unfold Own; rw [HKL.out]; exact unhide KS, by unfold OwnM; rw [HOL.out]; exact unhide OS, unhide I3, unhide I7, unhide W8, by have q := HN.out; omega, HB.out⟩
end Go.Proofs.YtabpaaahobakpaaGreat
