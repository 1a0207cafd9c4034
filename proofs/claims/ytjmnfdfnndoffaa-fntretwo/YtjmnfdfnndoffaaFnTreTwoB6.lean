/-
  The program's TreSet.
-/
import Derived.Test.YtjmnfdfnndoffaaFnTreTwoB5
import Derived.Test.YtjmnfdfnndoffaaFnTreTwoB3
import Derived.Test.YtjmnfdfnndoffaaFnTreTwoB2
import Derived.Test.YtjmnfdfnndoffaaFnTreTwoB4
import Derived.Deep.RegionHeld3
import Derived.Laws.OwnMore
import Derived.Lib.AppendZeros
import Derived.Test.YtjmnfdfnndoffaaFnTreTwoB1
import Derived.OrdersHeld
namespace Go.Proofs.Ytjmnfdfnndoffaa
open Go.RowKit Go.Shelf
attribute [local go_sem] Oper.semAt_some

theorem keepsOthers_below {w w' : World} (h : Below w.heap.size w w') : KeepsOthers w w' := ⟨h.size, fun k _ hk _ => (h.block k (Array.getElem?_eq_some_iff.1 hk).1).trans hk⟩

set_option maxRecDepth 100000 in
set_option maxHeartbeats 1000000 in
theorem mayBeSet_any (s : ByteArray) (w : World) (hm : s.size ≤ maxLen) :
    Calls Try.prog 39 #[.string s] w fun e w' => e = .returned (.bool (maySet s)) ∧ Below w.heap.size w w' := by
  have M := hide hm
  unfold maxLen at hm
  have HE : Hid (maySet s = (Kw.ok s && decide (s.size ≤ 292))) := rfl
  go_enter Try.func39, Try.ntmps39
  go_wp2_with fail
  refine (iSecOk_any s _ M.out).mono ?_
  cases hk : Kw.ok s with
  | false =>
    rintro e w1 ⟨rfl, hb1⟩
    have HK := hide hk
    clear hk
    go_wp2_with fail
    go_ret
    exact ⟨ret_bool' (by rw [HE.out, HK.out]; rfl), hb1⟩
  | true =>
    rintro e w1 ⟨rfl, hb1⟩
    have HK := hide hk
    clear hk
    by_cases h2 : s.size ≤ 292
    · have h3 : (s.size : Int) ≤ 292 := by omega
      go_wp2_with fail
      go_ret
      exact ⟨ret_bool' (by rw [HE.out, HK.out]; simp [h2]), hb1⟩
    · have h3 : decide ((s.size : Int) ≤ 292) = false := by simp; omega
      go_wp2_with fail
      go_ret
      exact ⟨ret_bool' (by rw [HE.out, HK.out]; simp [h2]), hb1⟩

set_option maxRecDepth 100000 in
set_option maxHeartbeats 2000000 in
theorem iTreSet_no (v : Value) (xs : List ByteArray) (p : Int) (s : ByteArray) (w : World) (h : SRow w v xs) (hx : ∀ x ∈ xs, x.size ≤ maxLen) (hs : s.size ≤ maxLen) (hno : ¬ ((treOk xs = true ∧ 0 ≤ p ∧ p ≤ 7) ∧ maySet s = true)) :
    Calls Try.prog 16 #[.agg #[v], .int .i64 p, .string s] w fun e w' => ∃ u, e = .returned (.agg #[u]) ∧ Own w.heap.size w' u [] ∧ Below w.heap.size w w' := by
  obtain ⟨ao, cap, rfl, h1, h2, _⟩ := h.form
  have HX := hide hx
  have HS := hide hs
  have hR := hide h
  have HN := hide hno
  clear h hx hno hs
  go_enter Try.func16, Try.ntmps16
  go_wp2_with fail
  refine (iTreOk_any _ xs _ ((((unhide hR).below ((Below.refl _ _).alloc (Nat.le_refl _) _)).below ((Below.refl _ _).alloc (Nat.le_refl _) _)).below ((Below.refl _ _).alloc (Nat.le_refl _) _)) (unhide HX)).mono ?_
  rintro e w1 ⟨rfl, hb1⟩
  have S1 := hide (box_below ((Boxed.new (w.alloc (.cells #[.slice ao xs.length cap] 25)) 9 (.string s)).alloc (.cells #[.slice none 0 0] 25)) hb1)
  have B1 := hide (box_below (Boxed.new ((w.alloc (.cells #[.slice ao xs.length cap] 25)).alloc (.cells #[.string s] 9)) 25 (.slice none 0 0)) hb1)
  simp only [World.size_alloc] at B1 S1
  have HB1 : Hid (Below w.heap.size w w1) := ((((Below.refl _ _).alloc (Nat.le_refl _) _).alloc (by simp) _).alloc (by simp; omega) _).trans (hb1.mono (by simp; omega))
  have l0 := (unhide S1).cell
  clear hb1
  cases hk : treOk xs with
  | false =>
    have HB2 := hide (below_box (unhide HB1) (b := w.heap.size + 1 + 1) (by omega) (.slice none 0 0))
    have l1 := (unhide B1).cell
    have l2 := (unhide B1).frozen
    have l3 := ((unhide B1).set (.slice none 0 0)).cell
    clear hk
    go_wp2_with fail
    refine bodyPost_ret (v := .agg #[.slice none 0 0]) (by simp [results, Try.results16, go_sem, l3]) rfl ⟨_, rfl, World.ownsRow_nil _ _ _ _, unhide HB2⟩
  | true =>
    by_cases hp : 0 ≤ p ∧ p ≤ 7
    · have hms : Hid (maySet s = false) := by
        show _ = _
        cases q : maySet s with
        | false => rfl
        | true => exact absurd ⟨⟨hk, hp⟩, q⟩ HN.out
      have HP := hide hp
      clear hk hp
      go_wp2_with fail
      refine (isOne_yes _ _ HP.out.1 (by have := HP.out; omega)).mono ?_
      rintro e wq ⟨rfl, rfl⟩
      go_wp2_with fail
      refine (mayBeSet_any s _ HS.out).mono ?_
      rw [hms.out]
      rintro e w2 ⟨rfl, hb2⟩
      have HB3 := hide (HB1.out.trans (hb2.mono HB1.out.size))
      have B2 := box_below (unhide B1) hb2
      have HB2 := hide (below_box (unhide HB3) (b := w.heap.size + 1 + 1) (by omega) (.slice none 0 0))
      have l1 := B2.cell
      have l2 := B2.frozen
      have l3 := (B2.set (.slice none 0 0)).cell
      clear hb2 B2 l0
      go_wp2_with fail
      refine bodyPost_ret (v := .agg #[.slice none 0 0]) (by simp [results, Try.results16, go_sem, l3]) rfl ⟨_, rfl, World.ownsRow_nil _ _ _ _, unhide HB2⟩
    · have HB2 := hide (below_box (unhide HB1) (b := w.heap.size + 1 + 1) (by omega) (.slice none 0 0))
      have l1 := (unhide B1).cell
      have l2 := (unhide B1).frozen
      have l3 := ((unhide B1).set (.slice none 0 0)).cell
      have HP := hide hp
      clear hk hp
      go_wp2_with fail
      refine (isOne_no _ _ (by have := HP.out; omega)).mono ?_
      rintro e wq ⟨rfl, rfl⟩
      go_wp2_with fail
      refine bodyPost_ret (v := .agg #[.slice none 0 0]) (by simp [results, Try.results16, go_sem, l3]) rfl ⟨_, rfl, World.ownsRow_nil _ _ _ _, unhide HB2⟩

set_option maxRecDepth 100000 in
set_option maxHeartbeats 8000000 in
theorem iTreSet_ok (v : Value) (xs : List ByteArray) (k : Nat) (hk : k < 8) (s : ByteArray) (hms : maySet s = true) (w : World) (h : SRow w v xs) (hok : treOk xs = true) (n : Nat) (hn : 4 ≤ n) :
    CallsIn Fence.wide n Try.prog 16 #[.agg #[v], .int .i64 (k : Int), .string s] w fun e w' => ∃ u, e = .returned (.agg #[u]) ∧ Own w.heap.size w' u (setKeys xs k s) ∧ Below w.heap.size w w' := by
  have hl : xs.length = 15 := (treOk_iff.1 hok).1
  have hsm := treOk_small hok
  obtain ⟨ao, cap, rfl, h1, h2, _⟩ := h.form
  rw [hl] at h ⊢
  have h1' : 1 ≤ n := by omega
  have h2' : 1 ≤ n - 1 := by omega
  have hro : Fence.wide.round = none := rfl
  have HSM := hide hsm
  have HOK := hide hok
  have HMS := hide hms
  have hss : s.size ≤ 300 := by
    unfold maySet at hms
    simp at hms
    omega
  have hR := hide h
  have hLf : Hid (leafOf (k : Int) = ((7 + k : Nat) : Int)) := by show _ = _; unfold leafOf; rw [if_pos (by omega)]; omega
  have HL := hide hl
  clear h hok hsm h1 h2 hl hms
  refine callsIn_of_wp_marks Try.func16 rfl trivial ?_ hro
  simp only [Try.ntmps16, List.size_toArray, List.length_cons, List.length_nil, Nat.reduceAdd, Nat.reduceSub, Array.replicate_succ, Array.replicate_zero, List.push_toArray, List.append_toArray, List.nil_append, List.cons_append]
  gi_wp2_with (first
    | (refine ⟨trivial, ?_⟩; gi_at_call 27; refine (callsIn_wide.2 (iTreOk_any _ xs _ ((((unhide hR).below ((Below.refl _ _).alloc (Nat.le_refl _) _)).below ((Below.refl _ _).alloc (Nat.le_refl _) _)).below ((Below.refl _ _).alloc (Nat.le_refl _) _)) (fun x hx => Nat.le_trans (HSM.out x hx) (by unfold maxLen; omega)))).mono ?_; rw [HOK.out]; rintro e w1 ⟨rfl, hb1⟩; have A1 := box_below (((Boxed.new w 25 (.slice ao 15 cap)).alloc (.cells #[.string s] 9)).alloc (.cells #[.slice none 0 0] 25)) hb1; have C1 := box_below ((Boxed.new (w.alloc (.cells #[.slice ao 15 cap] 25)) 9 (.string s)).alloc (.cells #[.slice none 0 0] 25)) hb1; have B1 := box_below (Boxed.new ((w.alloc (.cells #[.slice ao 15 cap] 25)).alloc (.cells #[.string s] 9)) 25 (.slice none 0 0)) hb1; simp only [World.size_alloc] at B1 C1; have HA1 := A1.cell; have HC1 := C1.cell; have HB1 : Hid (Below w.heap.size w w1) := ((((Below.refl _ _).alloc (Nat.le_refl _) _).alloc (by simp) _).alloc (by simp; omega) _).trans (hb1.mono (by simp; omega)); have A1h := hide A1; have B1h := hide B1; have C1h := hide C1; have hs1 := hb1.size; simp only [World.size_alloc] at hs1; clear hb1 A1 B1 C1)
    | (refine ⟨trivial, ?_⟩; gi_at_call 38; refine (callsIn_wide.2 (isOne_yes (k : Int) _ (by omega) (by omega))).mono ?_; rintro e wq ⟨rfl, rfl⟩)
    | (refine ⟨trivial, ?_⟩; gi_at_call 39; refine (callsIn_wide.2 (mayBeSet_any s _ (by unfold maxLen; omega))).mono ?_; rw [HMS.out]; rintro e w5 ⟨rfl, hb5⟩; have A5h := hide (box_below (unhide A1h) hb5); have B5h := hide (box_below (unhide B1h) hb5); have C5h := hide (box_below (unhide C1h) hb5); have HB5 := hide (HB1.out.trans (hb5.mono HB1.out.size)); have hs5 := hb5.size; have HA5 := (unhide A5h).cell; clear hb5 HA1 HC1)
    | (refine ⟨trivial, ?_⟩; gi_at_call 40; refine (callsIn_wide.2 (cloneNames_any _ xs _ ((unhide hR).below (unhide HB5)) (by have := HL.out; omega) (fun x hx => Nat.le_trans (HSM.out x hx) (by omega)))).mono ?_; rw [HL.out]; rintro e w2 ⟨v2, rfl, ho2, hb2⟩; obtain ⟨g, c2, rfl, hg1, hg2, hg3, hg4⟩ := row15 ho2; have O2 := hide ho2; have HB2 := hide (HB5.out.trans (hb2.mono HB5.out.size)); have B2h := hide (box_below (unhide B5h) hb2); have C2h := hide (box_below (unhide C5h) hb2); have hs2 := hb2.size; clear ho2 hb2 HA5)
    | (refine ⟨trivial, ?_⟩; gi_at_call 35; refine (callsIn_wide.2 (placeOf_any (k : Int) _)).mono ?_; rw [hLf.out]; rintro e wz ⟨rfl, rfl⟩)
    | (refine ⟨trivial, ?_⟩; gi_at_call 41; refine (upward_in _ _ _).mono ?_; rintro e wz ⟨rfl, rfl⟩))
  have bK := (Boxed.new w2 23 (.slice (some ⟨g, 0, none⟩) 15 c2)).alloc (.cells #[.int .i64 (7 + (k : Int))] 50)
  have bN := Boxed.new (w2.alloc (.cells #[.slice (some ⟨g, 0, none⟩) 15 c2] 23)) 50 (.int .i64 (7 + (k : Int)))
  have bR := ((unhide B2h).alloc (.cells #[.slice (some ⟨g, 0, none⟩) 15 c2] 23)).alloc (.cells #[.int .i64 (7 + (k : Int))] 50)
  have bS := ((unhide C2h).alloc (.cells #[.slice (some ⟨g, 0, none⟩) 15 c2] 23)).alloc (.cells #[.int .i64 (7 + (k : Int))] 50)
  rw [World.size_alloc] at bN
  have hO3 := own_below' (own_below' (unhide O2) ((Below.refl _ _).alloc (Nat.le_refl _) (.cells #[.slice (some ⟨g, 0, none⟩) 15 c2] 23))) ((Below.refl _ _).alloc (Nat.le_refl _) (.cells #[.int .i64 (7 + (k : Int))] 50))
  have hB3 : Below w.heap.size w ((w2.alloc (.cells #[.slice (some ⟨g, 0, none⟩) 15 c2] 23)).alloc (.cells #[.int .i64 (7 + (k : Int))] 50)) := ((unhide HB2).alloc HB2.out.size _).alloc (by simp; have := HB2.out.size; omega) _
  have hsz : ((w2.alloc (.cells #[.slice (some ⟨g, 0, none⟩) 15 c2] 23)).alloc (.cells #[.int .i64 (7 + (k : Int))] 50)).heap.size = w2.heap.size + 2 := by simp
  have hw2 := HB2.out.size
  have hw5 := HB5.out.size
  obtain ⟨W0, hW0⟩ : ∃ W0, (w2.alloc (.cells #[.slice (some ⟨g, 0, none⟩) 15 c2] 23)).alloc (.cells #[.int .i64 (7 + (k : Int))] 50) = W0 := ⟨_, rfl⟩
  rw [hW0] at bK bN bR bS hO3 hB3 hsz ⊢
  clear hW0
  refine wpIn_rangeFunc_ownG hro h1' (gf := 59) (lb := #[.pointer (some ⟨w2.heap.size + 1, 0, none⟩)]) rfl trivial (enters_of Try.func59 (by kernel_rfl) rfl)
    (upwardF_stops (n - 1) h2' (w2.heap.size + 1) w.heap.size (7 + (k : Int)) W0 (by omega) bN.cell) belowK_t (belowK_b (by omega)) (Below.refl _ _) (fun _ => rfl)
    (fun pre W => (((∃ u, Boxed W w2.heap.size 23 u ∧ W.ownsRow w5.heap.size 9 1 u 15 ((fill xs s (vals pre)).map Value.string) ∧ u = .slice (some ⟨g, 0, none⟩) 15 c2) ∧ Boxed W (w.heap.size + 1) 9 (.string (nextN s pre.length))) ∧ Boxed W (w.heap.size + 1 + 1) 25 (.slice none 0 0)) ∧ Below w.heap.size w W)
    (fun _ _ _ => False)
    (OwnFrom.and (OwnFrom.and (OwnFrom.and (Own.from (holdsRow_own w5.heap.size w2.heap.size 23 9 1 (fun (_ : List (Fin 15)) => 15) (fun (pre : List (Fin 15)) => (fill xs s (vals pre)).map Value.string) (fun _ u => u = .slice (some ⟨g, 0, none⟩) 15 c2)) _) (Own.from (boxed_own _ _ (fun (pre : List (Fin 15)) => Value.string (nextN s pre.length))) _)) (Own.from (boxed_own _ _ _) _)) (ownFrom_below (Nat.le_refl _) (by omega)))
    (fun _ _ _ _ _ hs _ _ => hs)
    ⟨⟨⟨⟨_, bK, hO3, rfl⟩, bS⟩, bR⟩, hB3⟩
    (fun x => { tmps := #[.agg #[.slice ao 15 cap], .int .i64 (k : Int), .string s, .pointer (some ⟨w.heap.size, 0, none⟩), undef, .pointer (some ⟨w.heap.size + 1, 0, none⟩), .pointer (some ⟨w.heap.size + 1 + 1, 0, none⟩), .pointer (some ⟨w2.heap.size, 0, none⟩), .int .i64 ((x.val : Nat) : Int), .agg #[.slice ao 15 cap], .bool true, .bool false, .bool false, .int .i64 (k : Int), .bool true, .bool false, .bool false, .bool false, .string s, .bool true, .bool false, .bool false, undef, .pointer (some ⟨w.heap.size, 0, none⟩), .slice ao 15 cap, .slice (some ⟨g, 0, none⟩) 15 c2, .int .i64 (k : Int), .int .i64 (7 + (k : Int)), .func (.func 59) #[] #[.pointer (some ⟨w2.heap.size + 1, 0, none⟩)], .int .i64 ((x.val : Nat) : Int), undef, undef, undef, undef, undef, undef, undef, undef, undef], defers := [] }) ?assign ?body ?done ?stop
  case assign =>
    intro l x W K hK
    gi_wp2
    exact hK
  case body =>
    rintro l pre x W ⟨⟨⟨⟨u, hu, hrow, rfl⟩, hbS⟩, hbR⟩, hB⟩ hlt
    have hj := x.isLt
    have hc := hu.cell
    have hcs := hbS.cell
    have j1 : ((x.val : Nat) : Int) < 15 := by omega
    have h3' : 1 ≤ n - 1 - 1 := by omega
    have hns := nextN_size s hss pre.length
    have HW : Hid (fill xs s (vals (pre ++ [x])) = (fill xs s (vals pre)).set x.val (mkKey (nextN s pre.length))) := by show _ = _; rw [vals_snoc, fill_snoc]; simp [vals]
    have HNX : Hid (nextN s (pre ++ [x]).length = mkNext (nextN s pre.length)) := by show _ = _; rw [List.length_append]; rfl
    generalize nextN s pre.length = sc at hcs hbS HW HNX hns
    have HROW := hide hrow
    have HU := hide hu
    have HS := hide hbS
    have HR := hide hbR
    clear hrow hu hbS hbR
    gi_wp2
    have hmx : Try.prog.follows .mixedOrders = true := by kernel_rfl
    gi_region_with_o (refine ⟨trivial, ?_⟩; gi_at_call 42; refine (CallsIn.inRound l (callsIn_wide.2 (iMakKey_any sc _ (le_maxLen (by omega))))).mono ?_; rintro e wk ⟨rfl, hbk⟩; have o1 := own_below' (w := W.drew) (unhide HROW) hbk; obtain ⟨s1, s2, s3, s4⟩ := row15_set (by rw [fill_len]; exact HL.out) o1 x.val hj (mkKey sc); have k1 := box_below (w := W.drew) (unhide HU) hbk; have k2 := hide (box_grown k1 o1 (by decide) s4); have r2 := hide (box_grown (box_below (w := W.drew) (unhide HR) hbk) o1 (by decide) s4); have c1 := box_below (w := W.drew) (unhide HS) hbk; have c2' := c1.kept s4 (fun q => by cases q; omega); have C2 := hide c2'; have k1c := k1.cell; have c2c := c2'.cell; have S3 := hide s3; have KO := hide ((keepsOthers_below hbk).trans (KeepsOthers.setCell wk ⟨g, x.val, none⟩ (.string (mkKey sc)))); have BW : Hid (Below w.heap.size W (wk.setCell ⟨g, x.val, none⟩ (.string (mkKey sc)))) := ((Below.refl w.heap.size W).drew.trans (hbk.mono hB.size)).setCell (p := ⟨g, x.val, none⟩) (by show w.heap.size ≤ g; omega) _; clear o1 s3 s4 k1 c1 c2' hbk; generalize (fill xs s (vals pre)).getD x.val ByteArray.empty = old at s1; generalize mkKey sc = ky at *)
    all_goals gi_wp2_with (refine ⟨trivial, ?_⟩; gi_at_call 43; refine (CallsIn.inRound l (callsIn_wide.2 (iMakNext_any sc _ (le_maxLen (by omega))))).mono ?_; rintro e wm ⟨rfl, hbm⟩; have c3 := box_below (unhide C2) hbm; have c3c := c3.cell; have c3f := c3.frozen; have F1 : Hid (Boxed (wm.setCell ⟨w.heap.size + 1, 0, none⟩ (.string (mkNext sc))) (w.heap.size + 1) 9 (.string (mkNext sc))) := c3.set _; have F2 : Hid (Boxed (wm.setCell ⟨w.heap.size + 1, 0, none⟩ (.string (mkNext sc))) w2.heap.size 23 (.slice (some ⟨g, 0, none⟩) 15 c2)) := (box_below (unhide k2) hbm).other (by omega) _; have F3 : Hid (Boxed (wm.setCell ⟨w.heap.size + 1, 0, none⟩ (.string (mkNext sc))) (w.heap.size + 1 + 1) 25 (.slice none 0 0)) := (box_below (unhide r2) hbm).other (by omega) _; have F4 := hide (World.ownsRow.kept (own_below' (unhide S3) hbm) (grownBy_setCell' wm (w.heap.size + 1) (.string (mkNext sc))) (.inr (by simp [Value.ownBlock]; omega))); have F5 := hide ((unhide KO).trans ((keepsOthers_below hbm).trans (KeepsOthers.setCell wm ⟨w.heap.size + 1, 0, none⟩ (.string (mkNext sc))))); have F6 : Hid (Below w.heap.size W (wm.setCell ⟨w.heap.size + 1, 0, none⟩ (.string (mkNext sc)))) := ((unhide BW).trans (hbm.mono (Nat.le_trans hB.size (unhide BW).size))).setCell (p := ⟨w.heap.size + 1, 0, none⟩) (by simp) _; clear c3 hbm)
    all_goals exact ⟨((KeepsOthers.drew W).trans (unhide F5)).from _, unhide F6, ⟨⟨⟨_, unhide F2, by rw [HW.out]; exact unhide F4, rfl⟩, by rw [HNX.out]; exact unhide F1⟩, unhide F3⟩, hB.trans (unhide F6)⟩
  case done =>
    rintro D ys W hD rfl ⟨⟨⟨⟨u, hu, hrow, rfl⟩, hbS⟩, hbR⟩, hB⟩ hK
    have hc := hu.cell
    have hc2 := hbR.cell
    have hc3 := hbR.frozen
    have HE : Hid (fill xs s (vals (chainF (7 + (k : Int)))) = setKeys xs k s) := by
      show _ = _
      have q := vals_chain k hk
      rw [show (((7 + k : Nat) : Int)) = 7 + (k : Int) by omega] at q
      rw [q]
      rfl
    have R1 := row_box hrow hbR (by decide) (.slice (some ⟨g, 0, none⟩) 15 c2)
    gi_wp2
    have hK' := (KeepsOthers.setCell W ⟨w.heap.size + 1 + 1, 0, none⟩ (.slice (some ⟨g, 0, none⟩) 15 c2)).same D _ hK rfl
    refine ⟨by simp, .inl ⟨_, _, rfl, run_takeDeferred hK', ?_⟩⟩
    have hc5 := cell_kept (hbR.set (.slice (some ⟨g, 0, none⟩) 15 c2)).cell (grownBy_putObj' _ D (.deferred none)) (fun r e => by cases e; exact ⟨_, hK', rfl⟩)
    refine ⟨.agg #[.slice (some ⟨g, 0, none⟩) 15 c2], ?_, _, rfl, ?_, (hB.setCell (p := ⟨w.heap.size + 1 + 1, 0, none⟩) (by simp; omega) _).trans (belowK_b (w := w) (Nat.le_refl _) _ D _ _ (by omega) hK' rfl rfl)⟩
    · simp [results, Try.f16, go_sem, hc5]
    · have q := ownsRow_putObj R1 (.deferred none) hK' rfl
      rw [HE.out] at q
      unfold Own
      rw [setKeys_len, HL.out]
      exact row_lowB q hw5
  case stop =>
    rintro D c pre W _ _ h _
    exact h.elim

theorem iTreSet_any (v : Value) (xs : List ByteArray) (p : Int) (s : ByteArray) (w : World) (h : SRow w v xs) (hx : ∀ x ∈ xs, x.size ≤ maxLen) (hs : s.size ≤ maxLen) :
    Calls Try.prog 16 #[.agg #[v], .int .i64 p, .string s] w fun e w' => ∃ u, e = .returned (.agg #[u]) ∧ Own w.heap.size w' u (setRes xs p s) ∧ Below w.heap.size w w' := by
  by_cases hy : (treOk xs = true ∧ 0 ≤ p ∧ p ≤ 7) ∧ maySet s = true
  · obtain ⟨k, rfl⟩ : ∃ k : Nat, p = (k : Int) := ⟨p.toNat, by omega⟩
    rw [setRes_yes hy.1.1 (by omega) hy.2]
    exact callsIn_wide.1 (iTreSet_ok v xs k (by omega) s hy.2 w h hy.1.1 4 (Nat.le_refl _))
  · rw [setRes_no hy]
    exact iTreSet_no v xs p s w h hx hs hy
#print axioms iTreSet_any
end Go.Proofs.Ytjmnfdfnndoffaa
/-
  The spec's places: TreLeaf, TreSide, TreMeet, TreUp.
-/
namespace Go.Proofs.Ytjmnfdfnndoffaa
open Go.RowKit

set_option maxHeartbeats 400000 in
theorem sTreLeaf_any (who : Int) (w : World) :
    Calls Try.prog 62 #[.int .i64 who] w fun e w' => e = .returned (.int .i64 (leafOf who)) ∧ w' = w := by
  by_cases h : 0 ≤ who ∧ who ≤ 7
  · obtain ⟨h1, h2⟩ := h
    have hl : leafOf who = 7 + who := by unfold leafOf; rw [if_pos ⟨h1, h2⟩]
    rw [hl]
    have HH := hide hl
    clear hl
    have i3 : IntKind.i64.wrap (7 + who) = 7 + who := by simp [IntKind.wrap, IntKind.bits, IntKind.signed]; omega
    go_enter Try.func62, Try.ntmps62
    go_wp2_with fail
    refine (l1In_yes _ _ _ _ (by omega) (by omega)).mono ?_
    rintro e w1 ⟨rfl, rfl⟩
    go_wp2_with fail
    go_ret
    exact ⟨rfl, rfl⟩
  · have hl : leafOf who = -1 := by unfold leafOf; rw [if_neg h]
    rw [hl]
    have HH := hide h
    clear hl h
    go_enter Try.func62, Try.ntmps62
    go_wp2_with fail
    refine (l1In_no _ _ _ _ (by have := HH.out; omega)).mono ?_
    rintro e w1 ⟨rfl, rfl⟩
    go_wp2_with fail
    go_ret
    exact ⟨rfl, rfl⟩

theorem half_wrap (x : Nat) (h0 : 0 < x) (h : x < 15) : IntKind.i64.wrap ((x : Int) - 1) = (x : Int) - 1 ∧ IntKind.i64.wrap (((x : Int) - 1).tdiv 2) = (((x - 1) / 2 : Nat) : Int) := by
  constructor
  · simp [IntKind.wrap, IntKind.bits, IntKind.signed]; omega
  · rw [show ((x : Int) - 1) = ((x - 1 : Nat) : Int) by omega, Int.tdiv_eq_ediv_of_nonneg (by omega)]
    have : ((x - 1 : Nat) : Int) / 2 = (((x - 1) / 2 : Nat) : Int) := by omega
    rw [this]
    simp [IntKind.wrap, IntKind.bits, IntKind.signed]
    omega

set_option maxRecDepth 100000 in
set_option maxHeartbeats 4000000 in
theorem sTreUp_any (n : Int) (w : World) :
    Calls Try.prog 64 #[.int .i64 n] w fun e w' => ∃ v, e = .returned v ∧ OwnI w.heap.size w' v (upOf n) ∧ Below w.heap.size w w' := by
  obtain ⟨i0, hi, hz0, hz1, hz2⟩ := info_parts info_int2
  have hI := hide (And.intro hi (And.intro hz0 (And.intro hz1 hz2)))
  clear hi hz0 hz1 hz2
  have hO0 : Hid (OwnI w.heap.size (w.alloc (Obj.cells #[] 3)) (.slice (some ⟨w.heap.size, 0, none⟩) 0 0) []) := by
    have h := World.ownsRow_lit (base := w.heap.size) (e := 3) (size := 1) w #[] 0 (Nat.le_refl _) (by unfold maxLen; omega) rfl
    exact h
  have hL0 := hide ((Below.refl w.heap.size w).alloc (Nat.le_refl _) (Obj.cells #[] 3))
  by_cases h : 0 ≤ n ∧ n ≤ 14
  · obtain ⟨x, rfl⟩ : ∃ k : Nat, n = (k : Int) := ⟨n.toNat, by omega⟩
    have hx : x < 15 := by omega
    have hl : Hid (upOf (x : Int) = (ups x).map (fun (k : Nat) => (k : Int))) := by show upOf (x : Int) = _; unfold upOf; rw [if_pos h]; rfl
    clear h
    go_enter Try.func64, Try.ntmps64
    go_wp2_with fail
    refine (l1In_yes _ _ _ _ (by omega) (by omega)).mono ?_
    rintro e w1 ⟨rfl, rfl⟩
    go_wp2_with fail
    go_loopw [3, 4] (fun o i wr => ∃ (k : Nat) (out : List Int), k < 15 ∧ i = .int .i64 (k : Int) ∧ Hid (OwnI w.heap.size wr o out) ∧ Hid (Below w.heap.size w wr) ∧ Hid (out ++ (ups k).map (fun (k : Nat) => (k : Int)) = (ups x).map (fun (k : Nat) => (k : Int)))) (fun _ i _ => (intOf i).toNat)
    case atStart => exact ⟨x, [], hx, rfl, hO0, hL0, rfl⟩
    case round =>
      clear hO0 hL0
      obtain ⟨k, out, hk, rfl, hO, hL, hU⟩ := hrel
      have hle := hL.out.size
      have hol : out.length ≤ 3 := by
        have q := congrArg List.length hU.out
        rw [List.length_append, List.length_map, List.length_map] at q
        have := ups_len x hx
        omega
      by_cases h0 : 0 < k
      · have h02 : (0 : Int) < (k : Int) := by omega
        obtain ⟨i1, i2⟩ := half_wrap k h0 hk
        have hs := hide (ups_step k hk h0)
        have hp : (k - 1) / 2 < 15 := by omega
        have hpk : (k - 1) / 2 < k := by omega
        generalize (k - 1) / 2 = p at i2 hs hp hpk
        go_wp2_with (at_builtin; refine wpList_append_own _ rfl _ _ 28 rfl w.heap.size 3 i0 (.int .i64 0) 1 8 Try.underlying28 (unhide hI).1 (unhide hI).2.1 (unhide hI).2.2.1 (unhide hI).2.2.2 rfl (by decide) _ _ _ rfl ((unhide hO).alloc _) ⟨wr.heap.size, 0, none⟩ 1 1 [.int .i64 (p : Int)] rfl rfl ?c1 ?c2 ?c3 ?c4 ?c5 ?_)
        case c1 =>
          intro j u hj
          match j, hj with
          | 0, hj => simp at hj; subst hj; simp [Addr.add]
        case c2 => intro u hu; simp at hu; subst hu; rfl
        case c3 => unfold maxLen; omega
        case c4 => omega
        case c5 => simp; omega
        intro v' w7 hown' hgrow _
        have R := OwnI.grow (unhide hO) (unhide hL) (Nat.le_refl _) hown' hgrow
        have R1 := hide R.1
        have R2 := hide R.2
        have R3 : Hid ((out ++ [(p : Int)]) ++ (ups p).map (fun (k : Nat) => (k : Int)) = (ups x).map (fun (k : Nat) => (k : Int))) := by
          show (out ++ [(p : Int)]) ++ _ = _
          rw [← hU.out, hs.out, List.map_cons, List.append_assoc]
          rfl
        clear R hown' hgrow hO hL hU
        go_wp2_with fail
        go_roundw
        case rel => exact ⟨p, out ++ [(p : Int)], hp, rfl, R1, R2, R3⟩
        case measure => simp [intOf]; omega
      · have h02 : decide ((0 : Int) < (k : Int)) = false := by simp; omega
        have hk0 : k = 0 := by omega
        subst hk0
        have hU2 : Hid (out = upOf (x : Int)) := by
          show out = _
          have q := hU.out
          rw [ups_zero, List.map_nil, List.append_nil] at q
          rw [hl.out]
          exact q
        clear hU h0 hk
        go_wp2_with fail
        go_ret
        exact ⟨_, rfl, by rw [← hU2.out]; exact unhide hO, unhide hL⟩
  · have hl : Hid (upOf n = []) := by show upOf n = []; unfold upOf; rw [if_neg h]
    have HH := hide h
    clear h
    go_enter Try.func64, Try.ntmps64
    go_wp2_with fail
    refine (l1In_no _ _ _ _ (by have := HH.out; omega)).mono ?_
    rintro e w1 ⟨rfl, rfl⟩
    go_wp2_with fail
    go_ret
    exact ⟨_, rfl, by rw [hl.out]; exact unhide hO0, unhide hL0⟩
#print axioms sTreUp_any
end Go.Proofs.Ytjmnfdfnndoffaa
/-
  append of all of one row onto a slice of the call's own, whatever the row is, none too. No Go function in it.
-/
namespace Go.Proofs.Ytjmnfdfnndoffaa
open Go.RowKit

section
variable {P : Program} (w : World)
theorem grownBy_refl (r : Option Nat) : w.grownBy w r := ⟨rfl, rfl, rfl, Nat.le_refl _, fun _ _ _ => rfl⟩
theorem wpList_append_row {ops : Array Oper} {rest : List Oper} {o : Oper} {a : Act} {Q : Exit → Act → World → Prop} (hgd : o.guard = none) (s x : Operand) (t : TypeId)
    (ho : o.op = .call { callee := .builtin .append, args := #[s, x], argTypes := #[t, t] })
    (base : Nat) (e : TypeId) (i : TypeInfo) (z : Value) (size bytes : Nat) (ht : P.underlying t = some (.slice e)) (hi : P.info? e = some i) (hz : i.zero = some z)
    (hsize : i.size = size) (hby : i.bytes = bytes) (hzs : z.cells.size = size) (hsz : 0 < size)
    (v : Value) (n : Nat) (xs : List Value) (hs : a.eval s = v) (hown : w.ownsRow base e size v n xs)
    (y : Value) (m : Nat) (news : List Value) (hx : a.eval x = y)
    (hy : (y = .slice none 0 0 ∧ m = 0 ∧ news = []) ∨ ∃ ad c, y = .slice (some ad) m c ∧ news.length = m * size ∧ ∀ j u, news[j]? = some u → w.cell? (ad.add j) = some u) (h1 : ∀ u ∈ news, u.oneCell' = true)
    (h63 : n + m ≤ maxLen) (hbytes : (n + m) * bytes ≤ 140737488355328) (hbase : base ≤ w.heap.size)
    (h : ∀ v' w', w'.ownsRow base e size v' (n + m) (xs ++ news) → w.grownBy w' v.ownBlock → wpList P ops Q rest (a.put o.dst v') w') : wpList P ops Q (o :: rest) a w := by
  rcases hy with ⟨rfl, rfl, rfl⟩ | ⟨ad, c, rfl, hl, hnews⟩
  · refine wpList_plain hgd fun _ hK => ?_
    refine Go.Lib.wp_append_run w s x t t ho v (.slice none 0 0) hs hx v w (run_append_owned_none _ base t o.type e i size ht hi v n xs hown) (hK _ _ (h v w (by simpa using hown) (grownBy_refl w _)))
  · exact wpList_append_own _ hgd s x t ho base e i z size bytes ht hi hz hsize hby hzs hsz v n xs hs hown ad m c news hx hl hnews h1 h63 hbytes hbase (fun v' w' h2 h3 _ => h v' w' h2 h3)
end

section
variable {P : Program} (w : World)
theorem wp_append_row {o : Oper} {a : Act} {K : Act → World → Prop} {Q : Exit → Act → World → Prop} (s x : Operand) (t : TypeId)
    (ho : o.op = .call { callee := .builtin .append, args := #[s, x], argTypes := #[t, t] })
    (base : Nat) (e : TypeId) (i : TypeInfo) (z : Value) (size bytes : Nat) (ht : P.underlying t = some (.slice e)) (hi : P.info? e = some i) (hz : i.zero = some z)
    (hsize : i.size = size) (hby : i.bytes = bytes) (hzs : z.cells.size = size) (hsz : 0 < size)
    (v : Value) (n : Nat) (xs : List Value) (hs : a.eval s = v) (hown : w.ownsRow base e size v n xs)
    (y : Value) (m : Nat) (news : List Value) (hx : a.eval x = y)
    (hy : (y = .slice none 0 0 ∧ m = 0 ∧ news = []) ∨ ∃ ad c, y = .slice (some ad) m c ∧ news.length = m * size ∧ ∀ j u, news[j]? = some u → w.cell? (ad.add j) = some u) (h1 : ∀ u ∈ news, u.oneCell' = true)
    (h63 : n + m ≤ maxLen) (hbytes : (n + m) * bytes ≤ 140737488355328) (hbase : base ≤ w.heap.size)
    (h : ∀ v' w', w'.ownsRow base e size v' (n + m) (xs ++ news) → w.grownBy w' v.ownBlock → K (a.put o.dst v') w') : o.wp P a w K Q := by
  rcases hy with ⟨rfl, rfl, rfl⟩ | ⟨ad, c, rfl, hl, hnews⟩
  · exact Go.Lib.wp_append_run w s x t t ho v (.slice none 0 0) hs hx v w (run_append_owned_none _ base t o.type e i size ht hi v n xs hown) (h v w (by simpa using hown) (grownBy_refl w _))
  · exact wp_append_own w s x t ho base e i z size bytes ht hi hz hsize hby hzs hsz v n xs hs hown ad m c news hx hl hnews h1 h63 hbytes hbase (fun v' w' h2 h3 _ => h v' w' h2 h3)
end

/-- A row of numbers as what is appended. -/
theorem IRow.news {w : World} {v : Value} {xs : List Int} (h : IRow w v xs) :
    (v = .slice none 0 0 ∧ xs.length = 0 ∧ xs.map (Value.int .i64) = []) ∨ ∃ ad c, v = .slice (some ad) xs.length c ∧ (xs.map (Value.int .i64)).length = xs.length * 1 ∧ ∀ j u, (xs.map (Value.int .i64))[j]? = some u → w.cell? (ad.add j) = some u := by
  rcases h with ⟨rfl, rfl⟩ | ⟨a, cap, rfl, h1, h2, h3⟩
  · exact .inl ⟨rfl, rfl, rfl⟩
  · refine .inr ⟨a, cap, rfl, by simp, fun j u hj => ?_⟩
    rw [List.getElem?_map] at hj
    cases hx : xs[j]? with
    | none => rw [hx] at hj; cases hj
    | some x =>
      rw [hx] at hj
      have hlt := (List.getElem?_eq_some_iff.1 hx).1
      rw [h3 j hlt, List.getD_eq_getElem?_getD, hx]
      simpa using hj
/-- A row of texts as what is appended. -/
theorem SRow.news {w : World} {v : Value} {xs : List ByteArray} (h : SRow w v xs) :
    (v = .slice none 0 0 ∧ xs.length = 0 ∧ xs.map Value.string = []) ∨ ∃ ad c, v = .slice (some ad) xs.length c ∧ (xs.map Value.string).length = xs.length * 1 ∧ ∀ j u, (xs.map Value.string)[j]? = some u → w.cell? (ad.add j) = some u := by
  rcases h with ⟨rfl, rfl⟩ | ⟨a, cap, rfl, h1, h2, h3⟩
  · exact .inl ⟨rfl, rfl, rfl⟩
  · refine .inr ⟨a, cap, rfl, by simp, fun j u hj => ?_⟩
    rw [List.getElem?_map] at hj
    cases hx : xs[j]? with
    | none => rw [hx] at hj; cases hj
    | some x =>
      rw [hx] at hj
      have hlt := (List.getElem?_eq_some_iff.1 hx).1
      rw [h3 j hlt, List.getD_eq_getElem?_getD, hx]
      simpa using hj
theorem texts_one (xs : List ByteArray) : ∀ u ∈ xs.map Value.string, u.oneCell' = true := by
  intro u hu
  obtain ⟨x, _, rfl⟩ := List.mem_map.1 hu
  rfl
theorem ints_one (xs : List Int) : ∀ u ∈ xs.map (Value.int .i64), u.oneCell' = true := by
  intro u hu
  obtain ⟨x, _, rfl⟩ := List.mem_map.1 hu
  rfl
#print axioms IRow.news
end Go.Proofs.Ytjmnfdfnndoffaa
/-
  A region that draws its order: whatever yields its value in every later world may be taken first; so what makes or writes memory alone comes up, one by one; what waits for all others may write what it likes.
-/
namespace Go.Proofs.Ytjmnfdfnndoffaa
open Go.RowKit

/-- An order of worlds. -/
structure Pre (R : World → World → Prop) : Prop where
  refl : ∀ w, R w w
  trans : ∀ u v w, R u v → R v w → R u w

section
variable {P : Program} {ops : Array Oper} {Q : Exit → Act → World → Prop} {md : Region.Mode} {R : World → World → Prop}

/-- Operation j waits for all others. -/
def waitsB (md : Region.Mode) (ops : Array Oper) (j : Nat) : Bool :=
  (List.range ops.size).all fun k => k == j || ((ops[j]?).map (fun o => o.after.any fun e => Region.binds md e && e.on == k)).getD false

/-- Whatever order is picked from here on, and each operation leads from a world to a later one, but one that waits for all others. -/
def wpAnyR (P : Program) (md : Region.Mode) (ops : Array Oper) (Q : Exit → Act → World → Prop) (R : World → World → Prop) : Nat → Array Bool → Act → World → Prop
  | 0, listed, a, w => Region.ready md ops listed = [] ∧ Q .normal a w
  | fuel + 1, listed, a, w =>
    (Region.ready md ops listed = [] → Q .normal a w) ∧
    ∀ i ∈ Region.ready md ops listed, wpOp P ops Q i (fun a' w' => (waitsB md ops i = true ∧ Region.ready md ops (listed.setIfInBounds i true) = [] ∧ Q .normal a' w') ∨ (R w w' ∧ wpAnyR P md ops Q R fuel (listed.setIfInBounds i true) a' w')) a w

theorem wpAny_of_R : ∀ (fuel : Nat) (listed : Array Bool) (a : Act) (w : World), wpAnyR P md ops Q R fuel listed a w → wpAny P md ops Q fuel listed a w
  | 0, _, _, _, h => h
  | fuel + 1, _, _, _, h => ⟨h.1, fun i hi => wpOp_mono (fun a' w' h' => by
      rcases h' with ⟨_, h1, h2⟩ | h'
      · cases fuel with
        | zero => exact ⟨h1, h2⟩
        | succ f => exact ⟨fun _ => h2, by rw [h1]; simp⟩
      · exact wpAny_of_R fuel _ a' w' h'.2) (h.2 i hi)⟩

theorem YieldsIf.later {S S' : World → Prop} {o : Oper} {v : Value} {a : Act} (h : YieldsIf P ops S o v a) (hs : ∀ w, S' w → S w) : YieldsIf P ops S' o v a :=
  h.imp (fun ⟨hw, hv⟩ => ⟨hw, fun w hS => hv w (hs w hS)⟩) id

theorem waits_spec {j i : Nat} {oj : Oper} (hj : ops[j]? = some oj) (h : waitsB md ops j = true) (hi : i < ops.size) (hne : i ≠ j) : ∃ e ∈ oj.after, Region.binds md e = true ∧ e.on = i := by
  unfold waitsB at h
  rw [List.all_eq_true] at h
  have h1 := h i (by rw [List.mem_range]; exact hi)
  rw [hj] at h1
  simp only [Option.map_some, Option.getD_some, Bool.or_eq_true, beq_iff_eq, hne, false_or, Array.any_eq_true', Bool.and_eq_true] at h1
  exact h1

theorem wpAnyR_first (hP : Pre R) {i : Nat} {oi : Oper} {v : Value} (hi : ops[i]? = some oi) (hsel : ∀ (j : Nat) (o : Oper) cs b, ops[j]? = some o → o.op ≠ .select cs b)
    (hQ : ∀ c a w, Q (.panic c) (a.put oi.dst v) w → Q (.panic c) a w) :
    ∀ (fuel : Nat) (listed : Array Bool) (a : Act) (w : World),
      (∀ j oj, ops[j]? = some oj → j ≠ i → listed.getD j true = false → (∀ e ∈ oj.after, Region.binds md e = true → e.on ≠ i) → oi.apart ops oj = true) →
      i ∈ Region.ready md ops listed → YieldsIf P ops (R w) oi v a →
      wpAnyR P md ops Q R fuel (listed.setIfInBounds i true) (a.put oi.dst v) w → wpAnyR P md ops Q R (fuel + 1) listed a w := by
  intro fuel
  induction fuel with
  | zero =>
    intro listed a w _ hr hy H
    refine ⟨fun h => (by rw [h] at hr; cases hr), fun j hj => ?_⟩
    by_cases hji : j = i
    · subst hji; exact hy.wpOp hi (hP.refl w) (.inr ⟨hP.refl w, H⟩)
    · have := ready_mono hj hji
      rw [H.1] at this
      cases this
  | succ fuel ih =>
    intro listed a w hfree hr hy H
    refine ⟨fun h => (by rw [h] at hr; cases hr), fun j hj => ?_⟩
    by_cases hji : j = i
    · subst hji; exact hy.wpOp hi (hP.refl w) (.inr ⟨hP.refl w, H⟩)
    · have h1 := H.2 j (ready_mono hj hji)
      obtain ⟨hjun, oj, hoj, hall⟩ := mem_ready.1 hj
      have hnot : ∀ e ∈ oj.after, Region.binds md e = true → e.on ≠ i := fun e he hb heq => by
        have h1 := hall e he hb
        have h0 := (mem_ready.1 hr).1
        rw [heq] at h1
        rcases Nat.lt_or_ge i listed.size with h' | h'
        · simp [h'] at h0 h1; rw [h0] at h1; cases h1
        · simp [Array.getElem?_eq_none h'] at h1
      have hnw : ¬ waitsB md ops j = true := fun q => by
        obtain ⟨e, he, hb, heq⟩ := waits_spec hoj q (Array.getElem?_eq_some_iff.1 hi).1 (Ne.symm hji)
        exact hnot e he hb heq
      have h2 := wpOp_putIf hoj (hfree j oj hoj hji hjun hnot) (fun cs b => hsel i oi cs b hi) (fun cs b => hsel j oj cs b hoj) hQ hy h1
      have hfree' : ∀ k ok, ops[k]? = some ok → k ≠ i → (listed.setIfInBounds j true).getD k true = false →
          (∀ e ∈ ok.after, Region.binds md e = true → e.on ≠ i) → oi.apart ops ok = true := fun k ok hk hki hun hno => by
        refine hfree k ok hk hki ?_ hno
        by_cases hjk : j = k
        · subst hjk; exact hjun
        · rw [getD_set_ne true hjk] at hun; exact hun
      refine wpOp_mono (fun a' w' h3 => ?_) h2
      rcases h3.2 with ⟨q, _⟩ | ⟨h4, h5⟩
      · exact absurd q hnw
      refine .inr ⟨h4, ih (listed.setIfInBounds j true) a' w' hfree' (ready_mono hr (Ne.symm hji)) (YieldsIf.later h3.1 (fun u hu => hP.trans _ _ _ h4 hu)) ?_⟩
      rw [Array.setIfInBounds_comm _ _ hji]
      exact h5

/-- Take number i first: it yields v in every later world. -/
theorem ord_take (hP : Pre R) {i d : Nat} {v : Value} {fuel : Nat} {listed : Array Bool} {a : Act} {w : World}
    (hs : Region.noSelect ops = true) (hf : Region.free md ops listed i = true) (hr : (Region.ready md ops listed).contains i = true) (hd : (ops[i]?).bind (·.dst) = some d)
    (hQ : ∀ c a w, Q (.panic c) (a.put (some d) v) w → Q (.panic c) a w)
    (hy : ∀ oi, ops[i]? = some oi → Region.wanted oi (yielded ops a.tmps) = true ∧ ∀ w', R w w' → (execOp a.eval oi).run P w' = .ok (.value v) w')
    (h : wpAnyR P md ops Q R fuel (listed.setIfInBounds i true) (a.put (some d) v) w) : wpAnyR P md ops Q R (fuel + 1) listed a w := by
  cases hi : ops[i]? with
  | none => rw [hi] at hd; cases hd
  | some oi =>
    rw [hi] at hd
    have hd' : oi.dst = some d := hd
    rw [← hd'] at h hQ
    exact wpAnyR_first hP hi (Region.noSelect_spec hs) hQ fuel listed a w (Region.free_spec hi hf) (by simpa using hr) (.inl (hy oi hi)) h
/-- Take number i first: it is not wanted. -/
theorem ord_skip (hP : Pre R) {i d : Nat} {fuel : Nat} {listed : Array Bool} {a : Act} {w : World}
    (hs : Region.noSelect ops = true) (hf : Region.free md ops listed i = true) (hr : (Region.ready md ops listed).contains i = true) (hd : (ops[i]?).bind (·.dst) = some d)
    (hQ : ∀ c a w, Q (.panic c) (a.put (some d) undef) w → Q (.panic c) a w)
    (hy : ((ops[i]?).map fun oi => Region.wanted oi (yielded ops a.tmps)) = some false)
    (h : wpAnyR P md ops Q R fuel (listed.setIfInBounds i true) (a.put (some d) undef) w) : wpAnyR P md ops Q R (fuel + 1) listed a w := by
  cases hi : ops[i]? with
  | none => rw [hi] at hd; cases hd
  | some oi =>
    rw [hi] at hd hy
    have hd' : oi.dst = some d := hd
    rw [← hd'] at h hQ
    exact wpAnyR_first hP hi (Region.noSelect_spec hs) hQ fuel listed a w (Region.free_spec hi hf) (by simpa using hr) (.inr ⟨by simpa using hy, rfl⟩) h
/-- Number i alone comes up. -/
theorem ord_one {i : Nat} {fuel : Nat} {listed : Array Bool} {a : Act} {w : World} (hr : Region.ready md ops listed = [i])
    (h : ∀ oi K, ops[i]? = some oi → Shut (∀ a' w', R w w' → wpAnyR P md ops Q R fuel (listed.setIfInBounds i true) a' w' → K a' w') → Region.wanted oi (yielded ops a.tmps) = true ∧ oi.wp P a w K Q) : wpAnyR P md ops Q R (fuel + 1) listed a w := by
  refine ⟨fun h0 => (by rw [hr] at h0; cases h0), fun j hj => ?_⟩
  rw [hr] at hj
  obtain rfl : j = i := by simpa using hj
  unfold wpOp
  cases hi : ops[j]? with
  | none =>
    have : j ∈ Region.ready md ops listed := by rw [hr]; simp
    obtain ⟨_, o, ho, _⟩ := mem_ready.1 this
    rw [hi] at ho
    cases ho
  | some oi =>
    obtain ⟨hw, hwp⟩ := h oi (fun a' w' => (waitsB md ops j = true ∧ Region.ready md ops (listed.setIfInBounds j true) = [] ∧ Q .normal a' w') ∨ (R w w' ∧ wpAnyR P md ops Q R fuel (listed.setIfInBounds j true) a' w')) hi (fun a' w' hl hk => .inr (And.intro hl hk))
    simp only [hw, if_true]
    exact .inl hwp
/-- Number i comes up last: it waits for all others. -/
theorem ord_last {i : Nat} {fuel : Nat} {listed : Array Bool} {a : Act} {w : World} (hr : Region.ready md ops listed = [i]) (hwt : waitsB md ops i = true) (he : Region.ready md ops (listed.setIfInBounds i true) = [])
    (h : ∀ oi K, ops[i]? = some oi → Shut (∀ a' w', Q .normal a' w' → K a' w') → Region.wanted oi (yielded ops a.tmps) = true ∧ oi.wp P a w K Q) : wpAnyR P md ops Q R (fuel + 1) listed a w := by
  refine ⟨fun h0 => (by rw [hr] at h0; cases h0), fun j hj => ?_⟩
  rw [hr] at hj
  obtain rfl : j = i := by simpa using hj
  unfold wpOp
  cases hi : ops[j]? with
  | none =>
    have : j ∈ Region.ready md ops listed := by rw [hr]; simp
    obtain ⟨_, o, ho, _⟩ := mem_ready.1 this
    rw [hi] at ho
    cases ho
  | some oi =>
    obtain ⟨hw, hwp⟩ := h oi (fun a' w' => (waitsB md ops j = true ∧ Region.ready md ops (listed.setIfInBounds j true) = [] ∧ Q .normal a' w') ∨ (R w w' ∧ wpAnyR P md ops Q R fuel (listed.setIfInBounds j true) a' w')) hi (fun a' w' hl => .inl ⟨hwt, he, hl⟩)
    simp only [hw, if_true]
    exact .inl hwp
/-- All have come up. -/
theorem later_done {listed : Array Bool} {a : Act} {w : World} (hr : Region.ready md ops listed = []) (h : Q .normal a w) : ∀ fuel, wpAnyR P md ops Q R fuel listed a w
  | 0 => ⟨hr, h⟩
  | _ + 1 => ⟨fun _ => h, by rw [hr]; simp⟩
/-- The beginning. -/
theorem wp_region_ord (R : World → World → Prop) {id : Nat} {a : Act} {w : World} (hm : P.follows .mixedOrders = true)
    (h : wpAnyR P .any ops Q R ops.size (Array.replicate ops.size false) a w.drew) : (Code.region id ops true).wp P Q a w :=
  wp_region_any hm (wpAny_of_R _ _ _ _ h)
end

/-- Later worlds: what was there is as it was. -/
def Later (w w' : World) : Prop := Below w.heap.size w w'
theorem laterPre : Pre Later := ⟨fun _ => Below.refl _ _, fun _ _ _ h k => Below.trans h (Below.mono k h.size)⟩
/-- Worlds in which what lay below B is as it was. -/
theorem belowPre (B : Nat) : Pre (Below B) := ⟨fun _ => Below.refl _ _, fun _ _ _ h k => Below.trans h k⟩

section
variable {P : Program} {ops : Array Oper} {Q : Exit → Act → World → Prop} {md : Region.Mode}
theorem later_take {i d : Nat} {v : Value} {fuel : Nat} {listed : Array Bool} {a : Act} {w : World}
    (hs : Region.noSelect ops = true) (hf : Region.free md ops listed i = true) (hr : (Region.ready md ops listed).contains i = true) (hd : (ops[i]?).bind (·.dst) = some d)
    (hQ : ∀ c a w, Q (.panic c) (a.put (some d) v) w → Q (.panic c) a w)
    (hy : ∀ oi, ops[i]? = some oi → Region.wanted oi (yielded ops a.tmps) = true ∧ ∀ w', Later w w' → (execOp a.eval oi).run P w' = .ok (.value v) w')
    (h : wpAnyR P md ops Q Later fuel (listed.setIfInBounds i true) (a.put (some d) v) w) : wpAnyR P md ops Q Later (fuel + 1) listed a w := ord_take laterPre hs hf hr hd hQ hy h
theorem later_skip {i d : Nat} {fuel : Nat} {listed : Array Bool} {a : Act} {w : World}
    (hs : Region.noSelect ops = true) (hf : Region.free md ops listed i = true) (hr : (Region.ready md ops listed).contains i = true) (hd : (ops[i]?).bind (·.dst) = some d)
    (hQ : ∀ c a w, Q (.panic c) (a.put (some d) undef) w → Q (.panic c) a w)
    (hy : ((ops[i]?).map fun oi => Region.wanted oi (yielded ops a.tmps)) = some false)
    (h : wpAnyR P md ops Q Later fuel (listed.setIfInBounds i true) (a.put (some d) undef) w) : wpAnyR P md ops Q Later (fuel + 1) listed a w := ord_skip laterPre hs hf hr hd hQ hy h
theorem later_one {i : Nat} {fuel : Nat} {listed : Array Bool} {a : Act} {w : World} (hr : Region.ready md ops listed = [i])
    (h : ∀ oi K, ops[i]? = some oi → Shut (∀ a' w', Later w w' → wpAnyR P md ops Q Later fuel (listed.setIfInBounds i true) a' w' → K a' w') → Region.wanted oi (yielded ops a.tmps) = true ∧ oi.wp P a w K Q) : wpAnyR P md ops Q Later (fuel + 1) listed a w := ord_one hr h
theorem wp_region_later {id : Nat} {a : Act} {w : World} (hm : P.follows .mixedOrders = true)
    (h : wpAnyR P .any ops Q Later ops.size (Array.replicate ops.size false) a w.drew) : (Code.region id ops true).wp P Q a w := wp_region_ord Later hm h
end
#print axioms wp_region_later
end Go.Proofs.Ytjmnfdfnndoffaa
/-
  Slices of numbers of the call's own, their rows between two numbers. No Go function in it.
-/
namespace Go.Proofs.Ytjmnfdfnndoffaa
open Go.RowKit

/-- Numbers, so. -/
def IIn (lo hi : Nat) (w : World) (v : Value) (xs : List Int) : Prop := RowIn lo hi 3 1 w v xs.length (xs.map (Value.int .i64))
theorem IIn.of {lo : Nat} {w : World} {v : Value} {xs : List Int} (h : OwnI lo w v xs) : IIn lo w.heap.size w v xs := RowIn.of h
theorem IIn.irow {lo hi : Nat} {w : World} {v : Value} {xs : List Int} (h : IIn lo hi w v xs) : IRow w v xs := OwnI.irow h.1
theorem IIn.below {lo hi : Nat} {w w' : World} {v : Value} {xs : List Int} (h : IIn lo hi w v xs) (hb : Below w.heap.size w w') : IIn lo hi w' v xs := RowIn.below h hb
theorem IIn.grown {lo hi : Nat} {w w' : World} {v : Value} {xs : List Int} {r : Option Nat} (h : IIn lo hi w v xs) (hg : w.grownBy w' r) (hr : ∀ k, r = some k → k < lo ∨ hi ≤ k) : IIn lo hi w' v xs := RowIn.grown h hg hr
theorem IIn.drew {lo hi : Nat} {w : World} {v : Value} {xs : List Int} (h : IIn lo hi w v xs) : IIn lo hi w.drew v xs := h.below (Below.refl _ _).drew
end Go.Proofs.Ytjmnfdfnndoffaa
