/-
  The program's ownUpward: a secret at a place, and at each place above the one made from that below.
-/
import Derived.Test.YtkcopldlobomhaaMOwn
import Derived.Test.YtkcopldlobomhaaPlcI
import Derived.Test.YtkcopldlobomhaaCloneN
import Derived.Test.YtkcopldlobomhaaMak
import Derived.Maps.AppendAt
namespace Go.Proofs.Ytkcopldlobomhaa
open Go.RowKit Go.Shelf
attribute [local go_sem] Oper.semAt_some

theorem chain_len4 (p : Int) : (chainOf p).length ≤ 4 := by
  unfold chainOf
  split
  · next h =>
    obtain ⟨k, rfl⟩ : ∃ k : Nat, p = (k : Int) := ⟨p.toNat, by omega⟩
    rw [List.length_cons, upOf_nat k (by omega), List.length_map]
    have := ups_len k (by omega)
    omega
  · simp
theorem keepsOthers_belowU {w w' : World} (h : Below w.heap.size w w') : KeepsOthers w w' := ⟨h.size, fun k _ hk _ => (h.block k (Array.getElem?_eq_some_iff.1 hk).1).trans hk⟩
theorem two_newI (w : World) (x y : Value) (t : TypeId) : ∀ j u, [x, y][j]? = some u → (w.alloc (.cells #[x, y] t)).cell? (Addr.add ⟨w.heap.size, 0, none⟩ j) = some u := by
  intro j u hj
  match j, hj with
  | 0, hj => simp at hj; subst hj; simp [Addr.add, go_sem]
  | 1, hj => simp at hj; subst hj; simp [Addr.add, go_sem]

set_option maxRecDepth 100000 in
set_option maxHeartbeats 4000000 in
theorem ownUpward_in (n : Nat) (hn : 3 ≤ n) (p : Int) (s : ByteArray) (hss : s.size ≤ 300) (w : World) :
    CallsIn Fence.wide n Try.prog 26 #[.int .i64 p, .string s] w fun e W' => ∃ v, e = .returned v ∧ OwnM w.heap.size W' v (pathOf (chainOf p) s) ∧ Below w.heap.size w W' := by
  have h1 : 1 ≤ n := by omega
  have h2 : 1 ≤ n - 1 := by omega
  have hro : Fence.wide.round = none := rfl
  have hcl := chain_len4 p
  obtain ⟨i0, hi, hz0, hz1, hz2⟩ := info_parts info_mo
  have hI := hide (And.intro hi (And.intro hz0 (And.intro hz1 hz2)))
  clear hi hz0 hz1 hz2
  have bS0 := hide ((Boxed.new w 9 (.string s)).alloc (.cells #[.slice none 0 0] 28))
  have bO0 := Boxed.new (w.alloc (.cells #[.string s] 9)) 28 (.slice none 0 0)
  rw [World.size_alloc] at bO0
  have BO0 := hide bO0
  have HB0 : Hid (Below w.heap.size w ((w.alloc (.cells #[.string s] 9)).alloc (.cells #[.slice none 0 0] 28))) := ((Below.refl _ w).alloc (Nat.le_refl _) _).alloc (by simp) _
  clear bO0
  refine callsIn_of_wp_marks Try.func26 rfl trivial ?_ hro
  simp only [Try.ntmps26, List.size_toArray, List.length_cons, List.length_nil, Nat.reduceAdd, Nat.reduceSub, Array.replicate_succ, Array.replicate_zero, List.push_toArray, List.append_toArray, List.nil_append, List.cons_append]
  gi_wp2_with (first
    | (refine ⟨trivial, ?_⟩; gi_at_call 28; refine (callsIn_wide.2 (clone_any s _ (by omega))).mono ?_; rintro e w1 ⟨rfl, hb1⟩; have bS1 := box_below (unhide bS0) hb1; have BO1 := hide ((box_below (unhide BO0) hb1).other (B' := w.heap.size) (by omega) (.string s)); have c1 := bS1.cell; have c2 := bS1.frozen; have BS1 := hide (bS1.set (.string s)); have HB1 := hide (below_box (HB0.out.trans (hb1.mono HB0.out.size)) (Nat.le_refl _) (.string s)); have hs1 : w.heap.size + 2 ≤ (w1.setCell ⟨w.heap.size, 0, none⟩ (.string s)).heap.size := (by have := hb1.size; simp [World.setCell] at this ⊢; omega); clear hb1 bS1)
    | (refine ⟨trivial, ?_⟩; gi_at_call 51; refine (upward_in _ _ _).mono ?_; rintro e wz ⟨rfl, rfl⟩))
  have hq2 : (w1.setCell ⟨w.heap.size, 0, none⟩ (.string s)).heap.size = w1.heap.size := by simp [World.setCell]
  generalize w1.setCell ⟨w.heap.size, 0, none⟩ (.string s) = w2 at *
  rw [← hq2]
  clear hq2
  clear c1 c2 bS0 BO0 HB0
  have bS := (unhide BS1).alloc (.cells #[.int .i64 p] 51)
  have bO := (unhide BO1).alloc (.cells #[.int .i64 p] 51)
  have bN := Boxed.new w2 51 (.int .i64 p)
  have hB3 : Below w.heap.size w (w2.alloc (.cells #[.int .i64 p] 51)) := (unhide HB1).alloc HB1.out.size _
  have hsz : (w2.alloc (.cells #[.int .i64 p] 51)).heap.size = w2.heap.size + 1 := by simp
  obtain ⟨W0, hW0⟩ : ∃ W0, w2.alloc (.cells #[.int .i64 p] 51) = W0 := ⟨_, rfl⟩
  rw [hW0] at bS bO bN hB3 hsz ⊢
  clear hW0 BS1 BO1 HB1
  refine wpIn_rangeFunc_ownG hro h1 (gf := 70) (lb := #[.pointer (some ⟨w2.heap.size, 0, none⟩)]) rfl trivial (enters_of Try.func70 (by kernel_rfl) rfl)
    (upward_stops (n - 1) h2 w2.heap.size w.heap.size p W0 (by omega) bN.cell) belowK_t (belowK_b (by omega)) (Below.refl _ _) (fun _ => rfl)
    (fun pre W => ((∃ v, Boxed W (w.heap.size + 1) 28 v ∧ W.ownsRow w.heap.size 55 2 v pre.length (mcells (pathOf pre s)) ∧ True) ∧ Boxed W w.heap.size 9 (.string (nextN s pre.length))) ∧ Below w.heap.size w W)
    (fun _ _ _ => False)
    (OwnFrom.and (OwnFrom.and (Own.from (holdsRow_own w.heap.size (w.heap.size + 1) 28 55 2 (fun (pre : List Int) => pre.length) (fun (pre : List Int) => mcells (pathOf pre s)) (fun _ _ => True)) _) (Own.from (boxed_own _ _ (fun (pre : List Int) => Value.string (nextN s pre.length))) _)) (ownFrom_below (Nat.le_refl _) (by omega)))
    (fun _ _ _ _ _ hs _ _ => hs)
    ⟨⟨⟨_, bO, World.ownsRow_nil _ _ _ _, trivial⟩, bS⟩, hB3⟩
    (fun x => { tmps := #[.int .i64 p, .string s, undef, .pointer (some ⟨w.heap.size, 0, none⟩), .slice none 0 0, .pointer (some ⟨w.heap.size + 1, 0, none⟩), .int .i64 x, .string s, .string s, .int .i64 p, .func (.func 70) #[] #[.pointer (some ⟨w2.heap.size, 0, none⟩)], .int .i64 x, undef, undef, undef, undef, undef, undef, undef, undef, undef], defers := [] }) ?assign ?body ?done ?stop
  case assign =>
    intro l x W K hK
    gi_wp2
    exact hK
  case body =>
    rintro l pre x W ⟨⟨⟨v, hv, hrow, _⟩, hbS⟩, hB⟩ hlt
    have hc := hv.cell
    have hcs := hbS.cell
    have h3' : 1 ≤ n - 1 - 1 := by omega
    have hns := nextN_size s hss pre.length
    have HW : Hid (mcells (pathOf (pre ++ [x]) s) = mcells (pathOf pre s) ++ [.int .i64 x, .string (nextN s pre.length)]) := by show _ = _; rw [pathOf_snoc, mcells_snoc]
    have HNX : Hid (nextN s (pre ++ [x]).length = mkNext (nextN s pre.length)) := by show _ = _; rw [List.length_append]; rfl
    generalize nextN s pre.length = sc at hcs hbS HW HNX hns
    have HS := hide hbS
    clear hbS
    gi_wp2_with (gi_at_builtin; refine wpListIn_append_own _ rfl _ _ 28 rfl w.heap.size 55 i0 (.agg #[.int .i64 0, .string ⟨#[]⟩]) 2 24 underMo (unhide hI).1 (unhide hI).2.1 (unhide hI).2.2.1 (unhide hI).2.2.2 rfl (by decide) _ _ _ rfl (hrow.alloc _) ⟨W.heap.size, 0, none⟩ 1 1 [.int .i64 x, .string sc] rfl rfl (two_newI _ _ _ _) (by simp [Value.oneCell']) (by unfold maxLen; omega) (by omega) (by have := hB.size; simp; omega) ?_; intro v' w1 hown' hgrow _; obtain ⟨g', cap', rfl⟩ := ownsRow_succ hown'; obtain ⟨hv1, hv2, hr2, hk2, hb2⟩ := hv.appended (by decide) hrow hB.size (Nat.le_succ _) hown' hgrow; have hc1 := hv1.cell; have hf1 := hv1.frozen; have s1 := ((unhide HS).alloc (.cells #[.int .i64 x, .string sc] 55)).kept hgrow (Boxed.not_row ((unhide HS).alloc (.cells #[.int .i64 x, .string sc] 55)) (by decide) (hrow.alloc _)); have s2 := s1.other (B' := w.heap.size + 1) (by omega) (.slice (some ⟨g', 0, none⟩) (pre.length + 1) cap'); have hs2 := s2.cell; have S2 := hide s2; have V2 := hide hv2; have R2 := hide hr2; have K2 := hide hk2; have B2 := hide hb2; clear hown' hgrow s1 s2 hr2 hk2 hb2 hv2 hv)
    gi_wp2_with (refine ⟨trivial, ?_⟩; gi_at_call 52; refine (CallsIn.inRound l (callsIn_wide.2 (iMakNext_any sc _ (le_maxLen (by omega))))).mono ?_; rintro e wm ⟨rfl, hbm⟩; have c3 := box_below (unhide S2) hbm; have c3c := c3.cell; have c3f := c3.frozen; have F1 : Hid (Boxed (wm.setCell ⟨w.heap.size, 0, none⟩ (.string (mkNext sc))) w.heap.size 9 (.string (mkNext sc))) := c3.set _; have F2 := hide ((box_below (unhide V2) hbm).other (B' := w.heap.size) (by omega) (.string (mkNext sc))); have F4 := hide (row_box (own_below' (unhide R2) hbm) c3 (by decide) (.string (mkNext sc))); have F5 := hide ((unhide K2).trans ((keepsOthers_belowU hbm).trans (KeepsOthers.setCell wm ⟨w.heap.size, 0, none⟩ (.string (mkNext sc))))); have F6 : Hid (Below w.heap.size W (wm.setCell ⟨w.heap.size, 0, none⟩ (.string (mkNext sc)))) := ((unhide B2).trans (hbm.mono (Nat.le_trans hB.size (unhide B2).size))).setCell (p := ⟨w.heap.size, 0, none⟩) (Nat.le_refl _) _; clear c3 hbm)
    refine ⟨(unhide F5).from _, unhide F6, ⟨⟨_, unhide F2, ?_, trivial⟩, by rw [HNX.out]; exact unhide F1⟩, hB.trans (unhide F6)⟩
    rw [HW.out, List.length_append]
    exact unhide F4
  case done =>
    rintro D ys W hD rfl ⟨⟨⟨v, hv, hrow, _⟩, _⟩, hB⟩ hK
    have hc := hv.cell
    gi_wp2
    refine ⟨by simp, .inl ⟨_, _, rfl, run_takeDeferred hK, ?_⟩⟩
    refine ⟨_, results_tmp rfl _ _ _, v, rfl, ?_, hB.trans (belowK_b (w := w) (Nat.le_refl _) W D _ _ (by omega) hK rfl rfl)⟩
    unfold OwnM
    rw [pathOf_len]
    exact ownsRow_putObj hrow _ hK rfl
  case stop =>
    rintro D c pre W _ _ h _
    exact h.elim
theorem ownUpward_any (p : Int) (s : ByteArray) (hss : s.size ≤ 300) (w : World) :
    Calls Try.prog 26 #[.int .i64 p, .string s] w fun e W' => ∃ v, e = .returned v ∧ OwnM w.heap.size W' v (pathOf (chainOf p) s) ∧ Below w.heap.size w W' := callsIn_wide.1 (ownUpward_in 3 (by omega) p s hss w)
#print axioms ownUpward_any
end Go.Proofs.Ytkcopldlobomhaa
