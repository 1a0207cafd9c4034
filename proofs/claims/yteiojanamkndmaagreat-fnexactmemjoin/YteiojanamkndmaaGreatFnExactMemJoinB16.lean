/-
  The program's copy of names.
-/
import Derived.Test.YteiojanamkndmaaGreatFnExactMemJoinB2
import Derived.Test.YteiojanamkndmaaGreatFnExactMemJoinB6
import Derived.Test.YteiojanamkndmaaGreatFnExactMemJoinB7
import Derived.Test.YteiojanamkndmaaGreatFnExactMemJoinB8
import Derived.Maps.AppendAt
import Derived.Lib.Bytealg
import Derived.Lib.CountLaws
import Derived.Lib.Strings
import Derived.Test.YteiojanamkndmaaGreatFnExactMemJoinB12
import Derived.Test.YteiojanamkndmaaGreatFnExactMemJoinB15
import Derived.Test.YteiojanamkndmaaGreatRows
import Derived.WalkKit
import Derived.Orders
namespace Go.Proofs.YteiojanamkndmaaGreat
open Go.RowKit

set_option maxHeartbeats 2000000 in
theorem cloneNames_any (v : Value) (xs : List ByteArray) (w : World) (h : SRow w v xs) (hl : xs.length ≤ 1048576) (hy : ∀ x ∈ xs, x.size ≤ 1000000) :
    Calls Tryz.prog 60 #[v] w fun e w' => ∃ v' : Value, e = .returned v' ∧ w'.ownsRow w.heap.size 9 1 v' xs.length (xs.map Value.string) ∧ Below w.heap.size w w' := by
  obtain ⟨ao, cap, rfl, h1, h2, hc⟩ := h.form
  have hR := hide h
  unfold maxLen at h2
  have HY := hide hy
  clear h hc hy
  obtain ⟨i0, hi, hz0, hz1, hz2⟩ := info_parts info_str'
  have hI := hide (And.intro hi (And.intro hz0 (And.intro hz1 hz2)))
  have hB2 : Hid (i0.bytes * xs.length ≤ 281474976710656) := by show _ ≤ _; rw [hz2]; omega
  clear hi hz0 hz1 hz2
  go_enter Tryz.func60, Tryz.ntmps60
  go_wp2_with (at_make; refine wpList_make_full _ rfl _ _ 22 rfl w.heap.size 9 i0 (.string ⟨#[]⟩) 1 Tryz.underlying22 (unhide hI).1 (unhide hI).2.1 (unhide hI).2.2.1 _ _ _ _ xs.length rfl rfl rfl rfl (unhide hB2) (by unfold maxLen; omega) (Nat.le_refl _) ?_)
  intro w1 hown hgrow
  have hO1 : Hid (w1.ownsRow w.heap.size 9 1 (.slice (some ⟨w.heap.size, 0, none⟩) xs.length xs.length) xs.length (part xs 0)) := by
    rw [part_zero]
    have e : (madeCells #[Value.string ⟨#[]⟩] xs.length).toList = List.replicate xs.length (Value.string ⟨#[]⟩) := by
      simp [madeCells, Nat.mod_one, List.map_const']
    rw [← e]
    exact hown
  have hL1 : Hid (Below w.heap.size w w1) := (Below.refl _ _).grown hgrow (Nat.le_refl _) (fun k hk => by cases hk)
  clear hown hgrow
  go_wp2_with fail
  go_loopw [11] (fun i wr => ∃ k : Nat, k ≤ xs.length ∧ i = .int .i64 (k : Int) ∧ Hid (wr.ownsRow w.heap.size 9 1 (.slice (some ⟨w.heap.size, 0, none⟩) xs.length xs.length) xs.length (part xs k)) ∧ Hid (Below w.heap.size w wr)) (fun i _ => xs.length - (intOf i).toNat)
  case atStart => exact ⟨0, by omega, rfl, hO1, hL1⟩
  case round =>
    clear hO1 hL1
    obtain ⟨k, hk, rfl, hO, hL⟩ := hrel
    by_cases hlt : k < xs.length
    · have hlt2 : (k : Int) < (xs.length : Int) := by omega
      obtain ⟨ao', c1, q1, _, _, q2⟩ := (SRow.below (unhide hR) (unhide hL)).form
      simp only [Value.slice.injEq] at q1
      obtain ⟨rfl, _, rfl⟩ := q1
      obtain ⟨a, rfl, hck⟩ := q2 k hlt
      clear q2
      have i3 : IntKind.i64.wrap ((k : Int) + 1) = (k : Int) + 1 := by simp [IntKind.wrap, IntKind.bits, IntKind.signed]; omega
      have hY : Hid ((xs.getD k ByteArray.empty).size ≤ 1000000) := HY.out _ (getD_mem hlt)
      have hps := hide (part_set xs k hlt)
      generalize xs.getD k ByteArray.empty = y at hck hY hps
      have hle := hL.out.size
      go_wp2_with fail
      refine (clone_any y _ hY.out).mono ?_
      rintro e w2 ⟨rfl, hb2⟩
      have hO2 := own_below' (unhide hO) hb2
      have hL2 := (unhide hL).trans (hb2.mono hle)
      have hle2 := hL2.size
      have hfz := hO2.frozenAt k
      have hcell : w2.cell? ⟨w.heap.size, k, none⟩ = some (.string ⟨#[]⟩) := (hO2.cellAt k (by omega)).trans (part_at xs k hlt)
      have hS1 := hO2.stored k (.string y)
      rw [hps.out] at hS1
      have hS2 := hide hS1
      have hL3 := hide hL2
      clear hS1 hO2 hL2 hb2 hck
      go_wp2_with fail
      go_roundw
      case rel => exact ⟨k + 1, by omega, by simp, hS2.out.1, (unhide hL3).grown hS2.out.2 hle2 (fun j hj => by cases hj; exact Nat.le_refl _)⟩
      case measure => simp [intOf]; omega
    · have hlt2 : decide ((k : Int) < (xs.length : Int)) = false := by simp; omega
      have hkn : k = xs.length := by omega
      subst hkn
      rw [part_all] at hO
      go_wp2_with fail
      go_ret
      exact ⟨_, rfl, unhide hO, unhide hL⟩
end Go.Proofs.YteiojanamkndmaaGreat
/-
  The program's ownUpward: a secret at a place, and at each place above the one made from that below.
-/
namespace Go.Proofs.YteiojanamkndmaaGreat
open Go.RowKit Go.Shelf
attribute [local go_sem] Oper.semAt_some

theorem chain_len4 (p : Int) : (chainOf p).length ≤ 4 := by
  unfold chainOf
  split
  · next h =>
    obtain ⟨k, rfl⟩ : ∃ k : Nat, p = (k : Int) := ⟨p.toNat, by omega⟩
    rw [List.length_cons, upOf_nat k (by omega), List.length_map]
    have := ups_len k (by omega)
    omega
  · simp
theorem keepsOthers_belowU {w w' : World} (h : Below w.heap.size w w') : KeepsOthers w w' := ⟨h.size, fun k _ hk _ => (h.block k (Array.getElem?_eq_some_iff.1 hk).1).trans hk⟩
theorem two_newI (w : World) (x y : Value) (t : TypeId) : ∀ j u, [x, y][j]? = some u → (w.alloc (.cells #[x, y] t)).cell? (Addr.add ⟨w.heap.size, 0, none⟩ j) = some u := by
  intro j u hj
  match j, hj with
  | 0, hj => simp at hj; subst hj; simp [Addr.add, go_sem]
  | 1, hj => simp at hj; subst hj; simp [Addr.add, go_sem]

set_option maxRecDepth 100000 in
set_option maxHeartbeats 4000000 in
theorem ownUpward_in (n : Nat) (hn : 3 ≤ n) (p : Int) (s : ByteArray) (hss : s.size ≤ 300) (w : World) :
    CallsIn Fence.wide n Tryz.prog 61 #[.int .i64 p, .string s] w fun e W' => ∃ v, e = .returned v ∧ OwnM w.heap.size W' v (pathOf (chainOf p) s) ∧ Below w.heap.size w W' := by
  have h1 : 1 ≤ n := by omega
  have h2 : 1 ≤ n - 1 := by omega
  have hro : Fence.wide.round = none := rfl
  have hcl := chain_len4 p
  obtain ⟨i0, hi, hz0, hz1, hz2⟩ := info_parts info_mo
  have hI := hide (And.intro hi (And.intro hz0 (And.intro hz1 hz2)))
  clear hi hz0 hz1 hz2
  have bS0 := hide ((Boxed.new w 9 (.string s)).alloc (.cells #[.slice none 0 0] 33))
  have bO0 := Boxed.new (w.alloc (.cells #[.string s] 9)) 33 (.slice none 0 0)
  rw [World.size_alloc] at bO0
  have BO0 := hide bO0
  have HB0 : Hid (Below w.heap.size w ((w.alloc (.cells #[.string s] 9)).alloc (.cells #[.slice none 0 0] 33))) := ((Below.refl _ w).alloc (Nat.le_refl _) _).alloc (by simp) _
  clear bO0
  refine callsIn_of_wp_marks Tryz.func61 rfl trivial ?_ hro
  simp only [Tryz.ntmps61, List.size_toArray, List.length_cons, List.length_nil, Nat.reduceAdd, Nat.reduceSub, Array.replicate_succ, Array.replicate_zero, List.push_toArray, List.append_toArray, List.nil_append, List.cons_append]
  gi_wp2_with (first
    | (refine ⟨trivial, ?_⟩; gi_at_call 65; refine (callsIn_wide.2 (clone_any s _ (by omega))).mono ?_; rintro e w1 ⟨rfl, hb1⟩; have bS1 := box_below (unhide bS0) hb1; have BO1 := hide ((box_below (unhide BO0) hb1).other (B' := w.heap.size) (by omega) (.string s)); have c1 := bS1.cell; have c2 := bS1.frozen; have BS1 := hide (bS1.set (.string s)); have HB1 := hide (below_box (HB0.out.trans (hb1.mono HB0.out.size)) (Nat.le_refl _) (.string s)); have hs1 : w.heap.size + 2 ≤ (w1.setCell ⟨w.heap.size, 0, none⟩ (.string s)).heap.size := (by have := hb1.size; simp [World.setCell] at this ⊢; omega); clear hb1 bS1)
    | (refine ⟨trivial, ?_⟩; gi_at_call 84; refine (upward_in _ _ _).mono ?_; rintro e wz ⟨rfl, rfl⟩))
  have hq2 : (w1.setCell ⟨w.heap.size, 0, none⟩ (.string s)).heap.size = w1.heap.size := by simp [World.setCell]
  generalize w1.setCell ⟨w.heap.size, 0, none⟩ (.string s) = w2 at *
  rw [← hq2]
  clear hq2
  clear c1 c2 bS0 BO0 HB0
  have bS := (unhide BS1).alloc (.cells #[.int .i64 p] 95)
  have bO := (unhide BO1).alloc (.cells #[.int .i64 p] 95)
  have bN := Boxed.new w2 95 (.int .i64 p)
  have hB3 : Below w.heap.size w (w2.alloc (.cells #[.int .i64 p] 95)) := (unhide HB1).alloc HB1.out.size _
  have hsz : (w2.alloc (.cells #[.int .i64 p] 95)).heap.size = w2.heap.size + 1 := by simp
  obtain ⟨W0, hW0⟩ : ∃ W0, w2.alloc (.cells #[.int .i64 p] 95) = W0 := ⟨_, rfl⟩
  rw [hW0] at bS bO bN hB3 hsz ⊢
  clear hW0 BS1 BO1 HB1
  refine wpIn_rangeFunc_ownG hro h1 (gf := 94) (lb := #[.pointer (some ⟨w2.heap.size, 0, none⟩)]) rfl trivial (enters_of Tryz.func94 (by kernel_rfl) rfl)
    (upward_stops (n - 1) h2 w2.heap.size w.heap.size p W0 (by omega) bN.cell) belowK_t (belowK_b (by omega)) (Below.refl _ _) (fun _ => rfl)
    (fun pre W => ((∃ v, Boxed W (w.heap.size + 1) 33 v ∧ W.ownsRow w.heap.size 60 2 v pre.length (mcells (pathOf pre s)) ∧ True) ∧ Boxed W w.heap.size 9 (.string (nextN s pre.length))) ∧ Below w.heap.size w W)
    (fun _ _ _ => False)
    (OwnFrom.and (OwnFrom.and (Own.from (holdsRow_own w.heap.size (w.heap.size + 1) 33 60 2 (fun (pre : List Int) => pre.length) (fun (pre : List Int) => mcells (pathOf pre s)) (fun _ _ => True)) _) (Own.from (boxed_own _ _ (fun (pre : List Int) => Value.string (nextN s pre.length))) _)) (ownFrom_below (Nat.le_refl _) (by omega)))
    (fun _ _ _ _ _ hs _ _ => hs)
    ⟨⟨⟨_, bO, World.ownsRow_nil _ _ _ _, trivial⟩, bS⟩, hB3⟩
    (fun x => { tmps := #[.int .i64 p, .string s, undef, .pointer (some ⟨w.heap.size, 0, none⟩), .slice none 0 0, .pointer (some ⟨w.heap.size + 1, 0, none⟩), .int .i64 x, .string s, .string s, .int .i64 p, .func (.func 94) #[] #[.pointer (some ⟨w2.heap.size, 0, none⟩)], .int .i64 x, undef, undef, undef, undef, undef, undef, undef, undef, undef], defers := [] }) ?assign ?body ?done ?stop
  case assign =>
    intro l x W K hK
    gi_wp2
    exact hK
  case body =>
    rintro l pre x W ⟨⟨⟨v, hv, hrow, _⟩, hbS⟩, hB⟩ hlt
    have hc := hv.cell
    have hcs := hbS.cell
    have h3' : 1 ≤ n - 1 - 1 := by omega
    have hns := nextN_size s hss pre.length
    have HW : Hid (mcells (pathOf (pre ++ [x]) s) = mcells (pathOf pre s) ++ [.int .i64 x, .string (nextN s pre.length)]) := by show _ = _; rw [pathOf_snoc, mcells_snoc]
    have HNX : Hid (nextN s (pre ++ [x]).length = mkNext (nextN s pre.length)) := by show _ = _; rw [List.length_append]; rfl
    generalize nextN s pre.length = sc at hcs hbS HW HNX hns
    have HS := hide hbS
    clear hbS
    gi_wp2_with (gi_at_builtin; refine wpListIn_append_own _ rfl _ _ 33 rfl w.heap.size 60 i0 (.agg #[.int .i64 0, .string ⟨#[]⟩]) 2 24 underMo (unhide hI).1 (unhide hI).2.1 (unhide hI).2.2.1 (unhide hI).2.2.2 rfl (by decide) _ _ _ rfl (hrow.alloc _) ⟨W.heap.size, 0, none⟩ 1 1 [.int .i64 x, .string sc] rfl rfl (two_newI _ _ _ _) (by simp [Value.oneCell']) (by unfold maxLen; omega) (by omega) (by have := hB.size; simp; omega) ?_; intro v' w1 hown' hgrow _; obtain ⟨g', cap', rfl⟩ := ownsRow_succ hown'; obtain ⟨hv1, hv2, hr2, hk2, hb2⟩ := hv.appended (by decide) hrow hB.size (Nat.le_succ _) hown' hgrow; have hc1 := hv1.cell; have hf1 := hv1.frozen; have s1 := ((unhide HS).alloc (.cells #[.int .i64 x, .string sc] 60)).kept hgrow (Boxed.not_row ((unhide HS).alloc (.cells #[.int .i64 x, .string sc] 60)) (by decide) (hrow.alloc _)); have s2 := s1.other (B' := w.heap.size + 1) (by omega) (.slice (some ⟨g', 0, none⟩) (pre.length + 1) cap'); have hs2 := s2.cell; have S2 := hide s2; have V2 := hide hv2; have R2 := hide hr2; have K2 := hide hk2; have B2 := hide hb2; clear hown' hgrow s1 s2 hr2 hk2 hb2 hv2 hv)
    gi_wp2_with (refine ⟨trivial, ?_⟩; gi_at_call 85; refine (CallsIn.inRound l (callsIn_wide.2 (iMakNext_any sc _ (le_maxLen (by omega))))).mono ?_; rintro e wm ⟨rfl, hbm⟩; have c3 := box_below (unhide S2) hbm; have c3c := c3.cell; have c3f := c3.frozen; have F1 : Hid (Boxed (wm.setCell ⟨w.heap.size, 0, none⟩ (.string (mkNext sc))) w.heap.size 9 (.string (mkNext sc))) := c3.set _; have F2 := hide ((box_below (unhide V2) hbm).other (B' := w.heap.size) (by omega) (.string (mkNext sc))); have F4 := hide (row_box (own_below' (unhide R2) hbm) c3 (by decide) (.string (mkNext sc))); have F5 := hide ((unhide K2).trans ((keepsOthers_belowU hbm).trans (KeepsOthers.setCell wm ⟨w.heap.size, 0, none⟩ (.string (mkNext sc))))); have F6 : Hid (Below w.heap.size W (wm.setCell ⟨w.heap.size, 0, none⟩ (.string (mkNext sc)))) := ((unhide B2).trans (hbm.mono (Nat.le_trans hB.size (unhide B2).size))).setCell (p := ⟨w.heap.size, 0, none⟩) (Nat.le_refl _) _; clear c3 hbm)
    refine ⟨(unhide F5).from _, unhide F6, ⟨⟨_, unhide F2, ?_, trivial⟩, by rw [HNX.out]; exact unhide F1⟩, hB.trans (unhide F6)⟩
    rw [HW.out, List.length_append]
    exact unhide F4
  case done =>
    rintro D ys W hD rfl ⟨⟨⟨v, hv, hrow, _⟩, _⟩, hB⟩ hK
    have hc := hv.cell
    gi_wp2
    refine ⟨by simp, .inl ⟨_, _, rfl, run_takeDeferred hK, ?_⟩⟩
    refine ⟨_, results_tmp rfl _ _ _, v, rfl, ?_, hB.trans (belowK_b (w := w) (Nat.le_refl _) W D _ _ (by omega) hK rfl rfl)⟩
    unfold OwnM
    rw [pathOf_len]
    exact ownsRow_putObj hrow _ hK rfl
  case stop =>
    rintro D c pre W _ _ h _
    exact h.elim
theorem ownUpward_any (p : Int) (s : ByteArray) (hss : s.size ≤ 300) (w : World) :
    Calls Tryz.prog 61 #[.int .i64 p, .string s] w fun e W' => ∃ v, e = .returned v ∧ OwnM w.heap.size W' v (pathOf (chainOf p) s) ∧ Below w.heap.size w W' := callsIn_wide.1 (ownUpward_in 3 (by omega) p s hss w)
#print axioms ownUpward_any
end Go.Proofs.YteiojanamkndmaaGreat
/-
  The program's TreMeet: the first place above one that is above the other, too.
-/
namespace Go.Proofs.YteiojanamkndmaaGreat
open Go.RowKit Go.Shelf
attribute [local go_sem] Oper.semAt_some

/-- The first of some that is one of others. -/
def firstOf (xs ys : List Int) : Int := (xs.find? fun x => decide (x ∈ ys)).getD (-1)
theorem firstOf_none {xs ys : List Int} (h : ∀ x ∈ xs, x ∉ ys) : firstOf xs ys = -1 := by
  unfold firstOf
  rw [List.find?_eq_none.2 (fun x hx => by simpa using h x hx)]
  rfl
theorem firstOf_at {ys pre rest : List Int} {x : Int} (h : ∀ z ∈ pre, z ∉ ys) (hx : x ∈ ys) : firstOf (pre ++ [x] ++ rest) ys = x := by
  unfold firstOf
  rw [List.append_assoc, List.find?_append, List.find?_eq_none.2 (fun z hz => by simpa using h z hz)]
  simp [hx]
theorem chain_nat (k : Nat) (h : k < 15) : chainOf (k : Int) = (k :: ups k).map (fun (k : Nat) => (k : Int)) := by
  unfold chainOf; rw [if_pos (by omega), upOf_nat k h]; rfl
theorem chain_meet (a b : Int) : firstOf (chainOf a) (chainOf b) = meetOf a b := by
  by_cases h : (0 ≤ a ∧ a ≤ 14) ∧ 0 ≤ b ∧ b ≤ 14
  · obtain ⟨x, rfl⟩ : ∃ k : Nat, a = (k : Int) := ⟨a.toNat, by omega⟩
    obtain ⟨y, rfl⟩ : ∃ k : Nat, b = (k : Int) := ⟨b.toNat, by omega⟩
    have hm : meetOf (x : Int) (y : Int) = (meets x y : Int) := by unfold meetOf; rw [if_pos h]; rfl
    rw [hm, chain_nat x (by omega), chain_nat y (by omega)]
    have hf := meets_above x (by omega) y (by omega)
    have hf2 : (x :: ups x).find? (fun z => (y :: ups y).contains z) = some (meets x y) := by
      rw [← List.head?_filter, hf]; rfl
    unfold firstOf
    rw [List.find?_map]
    have e : ((fun z : Int => decide (z ∈ List.map (fun (k : Nat) => (k : Int)) (y :: ups y))) ∘ fun (k : Nat) => (k : Int)) = fun z => (y :: ups y).contains z := by
      funext z
      rw [Bool.eq_iff_iff]
      simp only [Function.comp, decide_eq_true_eq, List.mem_map, List.contains_iff_mem]
      constructor
      · rintro ⟨k, hk, e⟩
        obtain rfl : k = z := by omega
        exact hk
      · intro hk; exact ⟨z, hk, rfl⟩
    rw [e, hf2]
    rfl
  · have hm : meetOf a b = -1 := by unfold meetOf; rw [if_neg h]
    rw [hm]
    apply firstOf_none
    intro x hx hy
    apply h
    constructor
    · apply Classical.byContradiction
      intro hn
      rw [chain_nil a hn] at hx
      cases hx
    · apply Classical.byContradiction
      intro hn
      rw [chain_nil b hn] at hy
      cases hy

/-- A part whose last one is the first that is one of others. -/
def Hits (ys pre : List Int) : Prop := ∃ pre0 x, pre = pre0 ++ [x] ∧ (∀ z ∈ pre0, z ∉ ys) ∧ x ∈ ys
theorem Hits.first {ys pre xs : List Int} (h : Hits ys pre) (hp : pre <+: xs) : firstOf xs ys = pre.getLastD (-1) := by
  obtain ⟨pre0, x, rfl, h1, h2⟩ := h
  obtain ⟨rest, rfl⟩ := hp
  rw [firstOf_at h1 h2]
  simp

set_option maxRecDepth 100000 in
set_option maxHeartbeats 4000000 in
theorem meet_in (n : Nat) (hn : 6 ≤ n) (p q : Int) (w : World) :
    CallsIn Fence.wide n Tryz.prog 63 #[.int .i64 p, .int .i64 q] w fun e W' => e = .returned (.int .i64 (firstOf (chainOf p) (chainOf q))) ∧ Below w.heap.size w W' := by
  have h1 : 1 ≤ n := by omega
  have hro : Fence.wide.round = none := rfl
  generalize hxs : chainOf p = xs
  generalize hys : chainOf q = ys
  refine callsIn_of_wp_marks Tryz.func63 rfl trivial ?_ hro
  simp only [Tryz.ntmps63, List.size_toArray, List.length_cons, List.length_nil, Nat.reduceAdd, Nat.reduceSub, Array.replicate_succ, Array.replicate_zero, List.push_toArray, List.append_toArray, List.nil_append, List.cons_append]
  gi_wp2_with (refine ⟨trivial, ?_⟩; gi_at_call 84; refine (upward_in (n - 1) p _).mono ?_; rintro e w' ⟨rfl, rfl⟩)
  have bB := ((Boxed.new w 95 (.int .i64 q)).alloc (.cells #[.int .i64 0] 95)).alloc (.cells #[.int .i64 p] 95)
  have bR := (Boxed.new (w.alloc (.cells #[.int .i64 q] 95)) 95 (.int .i64 0)).alloc (.cells #[.int .i64 p] 95)
  have bA := Boxed.new ((w.alloc (.cells #[.int .i64 q] 95)).alloc (.cells #[.int .i64 0] 95)) 95 (.int .i64 p)
  simp only [World.size_alloc] at bR bA
  have hB0 : Below w.heap.size w (((w.alloc (.cells #[.int .i64 q] 95)).alloc (.cells #[.int .i64 0] 95)).alloc (.cells #[.int .i64 p] 95)) := (((Below.refl _ w).alloc (Nat.le_refl _) _).alloc (by simp) _).alloc (by simp; omega) _
  have hsz : (((w.alloc (.cells #[.int .i64 q] 95)).alloc (.cells #[.int .i64 0] 95)).alloc (.cells #[.int .i64 p] 95)).heap.size = w.heap.size + 3 := by simp
  obtain ⟨W0, hW0⟩ : ∃ W0, ((w.alloc (.cells #[.int .i64 q] 95)).alloc (.cells #[.int .i64 0] 95)).alloc (.cells #[.int .i64 p] 95) = W0 := ⟨_, rfl⟩
  rw [hW0] at bB bR bA hB0 hsz ⊢
  clear hW0
  refine wpIn_rangeFunc_ownH hro h1 (gf := 94) (lb := #[.pointer (some ⟨w.heap.size + 1 + 1, 0, none⟩)]) rfl trivial (enters_of Tryz.func94 (by kernel_rfl) rfl)
    (upward_stops (n - 1) (by omega) (w.heap.size + 1 + 1) w.heap.size p W0 (by omega) bA.cell) belowK_t (belowK_b (by omega)) (Below.refl _ _) (fun _ => rfl)
    (fun pre W => (((∀ x ∈ pre, x ∉ ys) ∧ Boxed W (w.heap.size + 1) 95 (.int .i64 0)) ∧ Boxed W w.heap.size 95 (.int .i64 q)) ∧ Below w.heap.size w W)
    (fun c pre W => ((c = .ret ∧ Hits ys pre) ∧ Boxed W (w.heap.size + 1) 95 (.int .i64 (pre.getLastD (-1)))) ∧ Below w.heap.size w W)
    (OwnFrom.and (OwnFrom.and (OwnFrom.and (ownFrom_pure _ _) (Own.from (boxed_own _ _ _) _)) (Own.from (boxed_own _ _ _) _)) (ownFrom_below (Nat.le_refl _) (by omega)))
    (fun c => OwnFrom.and (OwnFrom.and (ownFrom_pure _ _) (Own.from (boxed_own _ _ (fun (pre : List Int) => Value.int .i64 (pre.getLastD (-1)))) _)) (ownFrom_below (Nat.le_refl _) (by omega)))
    ⟨⟨⟨by simp, bR⟩, bB⟩, hB0⟩
    (fun x a' W => ∃ Bx, w.heap.size + 1 < Bx ∧ Boxed W Bx 95 (.int .i64 x) ∧ a' = { tmps := #[.int .i64 p, .int .i64 q, undef, .pointer (some ⟨w.heap.size, 0, none⟩), .pointer (some ⟨w.heap.size + 1, 0, none⟩), .pointer (some ⟨Bx, 0, none⟩), undef, .int .i64 p, .func (.func 94) #[] #[.pointer (some ⟨w.heap.size + 1 + 1, 0, none⟩)], .int .i64 x, undef, undef, undef, undef, undef, undef, undef], defers := [] })
    (fun x a' _ X Y row hs hg hr => by obtain ⟨Bx, e1, e2, e3⟩ := hs; exact ⟨Bx, e1, boxed_own Bx 95 (fun (_ : Unit) => Value.int .i64 x) () X Y row e2 hg (fun r e => (hr r e).2), e3⟩)
    ?assign ?body ?done ?stop
  case assign =>
    rintro l pre x W K ⟨⟨⟨hp, bR1⟩, bB1⟩, hB1⟩ hK
    gi_wp2
    exact hK _ _ ((KeepsOthers.alloc _ _).from _) ((Below.refl _ W).alloc hB1.size _) ⟨⟨⟨hp, bR1.alloc _⟩, bB1.alloc _⟩, hB1.alloc hB1.size _⟩ ⟨W.heap.size, bR1.lt, Boxed.new W 95 _, rfl⟩
  case body =>
    rintro l pre x a' W hl ⟨r, hr⟩ ⟨⟨⟨hp, bR1⟩, bB1⟩, hB1⟩ ⟨Bx, hBx, bX, rfl⟩ hlt
    have cB := bB1.cell
    have h1' : 1 ≤ n - 1 - 1 := by omega
    gi_wp2_with (refine ⟨trivial, ?_⟩; gi_at_call 84; refine (CallsIn.inRound l (upward_in (n - 1 - 1 - 1) _ _)).mono ?_; rintro e w' ⟨rfl, rfl⟩)
    have hsW := hB1.size
    have bN := Boxed.new W 95 (.int .i64 q)
    have hr' : (W.alloc (.cells #[.int .i64 q] 95)).heap[l]? = some (.loop r) := (Below.heap_alloc W _ l (Array.getElem?_eq_some_iff.1 hr).1).trans hr
    refine wpIn_rangeFunc_ownN (l₀ := l) (r₀ := r) rfl hr' h1' (gf := 94) (lb := #[.pointer (some ⟨W.heap.size, 0, none⟩)]) rfl trivial (enters_of Tryz.func94 (by kernel_rfl) rfl)
      ((upward_stops (n - 1 - 1 - 1) (by omega) W.heap.size w.heap.size q _ (by simp) bN.cell).inRound l) belowK_t (belowK_b (by simp; omega)) (Below.refl _ _) (fun _ => rfl)
      (fun pre' W' => ((((∀ y ∈ pre', x ≠ y) ∧ Boxed W' (w.heap.size + 1) 95 (.int .i64 0)) ∧ Boxed W' Bx 95 (.int .i64 x)) ∧ Boxed W' w.heap.size 95 (.int .i64 q)) ∧ (Below w.heap.size W W' ∧ KeepsFrom W0.heap.size W W'))
      (fun c pre' W' => ((c = .ret ∧ x ∈ pre') ∧ Boxed W' (w.heap.size + 1) 95 (.int .i64 x)) ∧ (Below w.heap.size W W' ∧ KeepsFrom W0.heap.size W W'))
      (OwnFrom.and (OwnFrom.and (OwnFrom.and (OwnFrom.and (ownFrom_pure _ _) (Own.from (boxed_own _ _ _) _)) (Own.from (boxed_own _ _ _) _)) (Own.from (boxed_own _ _ _) _)) (OwnFrom.and (ownFrom_below hsW (by simp; omega)) (ownFrom_keepsFrom (by simp))))
      (fun c => OwnFrom.and (OwnFrom.and (ownFrom_pure _ _) (Own.from (boxed_own _ _ _) _)) (OwnFrom.and (ownFrom_below hsW (by simp; omega)) (ownFrom_keepsFrom (by simp))))
      ⟨⟨⟨⟨by simp, bR1.alloc _⟩, bX.alloc _⟩, bB1.alloc _⟩, (Below.refl _ W).alloc hsW _, (KeepsOthers.alloc _ _).from _⟩
      (fun y a'' _ => a'' = { tmps := #[.int .i64 p, .int .i64 q, undef, .pointer (some ⟨w.heap.size, 0, none⟩), .pointer (some ⟨w.heap.size + 1, 0, none⟩), .pointer (some ⟨Bx, 0, none⟩), .int .i64 y, .int .i64 p, .func (.func 94) #[] #[.pointer (some ⟨w.heap.size + 1 + 1, 0, none⟩)], .int .i64 x, .int .i64 q, .func (.func 94) #[] #[.pointer (some ⟨W.heap.size, 0, none⟩)], .int .i64 y, undef, undef, undef, undef], defers := [] })
      (fun _ _ _ _ _ _ hs _ _ => hs)
      ?assign2 ?body2 ?done2 ?stop2
    case assign2 =>
      rintro l2 pre' y W' K hi hK
      gi_wp2
      exact hK _ _ (KeepsFrom.refl _ _) (Below.refl _ _) hi rfl
    case body2 =>
      rintro l2 pre' y a'' W' _ _ ⟨⟨⟨⟨hq, bR2⟩, bX2⟩, bB2⟩, hBW, hKF⟩ rfl _
      have cR := bR2.cell
      have fR := bR2.frozen
      have cX := bX2.cell
      gi_wp2
      · rename_i hxy
        obtain rfl : x = y := eq_of_beq hxy
        exact ⟨(KeepsOthers.setCell _ _ _).from _, ⟨⟨rfl, List.mem_append.2 (.inr (by simp))⟩, bR2.set _⟩, hBW.setCell (p := ⟨w.heap.size + 1, 0, none⟩) (by simp) _, hKF.trans ((KeepsOthers.setCell _ _ _).from _)⟩
      · rename_i hxy
        exact ⟨KeepsFrom.refl _ _, Below.refl _ _, ⟨⟨⟨fun z hz => (List.mem_append.1 hz).elim (hq z) (fun e e' => by simp at e; subst e; subst e'; simp at hxy), bR2⟩, bX2⟩, bB2⟩, hBW, hKF⟩
    case done2 =>
      rintro ys' W' rfl ⟨⟨⟨⟨hq, bR2⟩, bX2⟩, bB2⟩, hBW, hKF⟩
      gi_wp2
      exact ⟨hKF, hBW, ⟨⟨fun z hz => (List.mem_append.1 hz).elim (hp z) (fun e hin => by simp at e; subst e; rw [← hys] at hin; exact hq _ hin rfl), bR2⟩, bB2⟩, hB1.trans hBW⟩
    case stop2 =>
      rintro c pre' W' hpre ⟨⟨⟨rfl, hin⟩, bR2⟩, hBW, hKF⟩
      gi_wp2
      exact ⟨hKF, ⟨⟨rfl, pre, x, rfl, hp, by rw [← hys]; exact hpre.subset hin⟩, by simpa using bR2⟩, hB1.trans hBW⟩
  case done =>
    rintro D zs W hD rfl ⟨⟨⟨hp, bR1⟩, bB1⟩, hB1⟩ hK
    have cR := bR1.cell
    have fR := bR1.frozen
    gi_wp2
    have hK' := (KeepsOthers.setCell W ⟨w.heap.size + 1, 0, none⟩ (.int .i64 (-1))).same D _ hK rfl
    refine ⟨by simp, .inl ⟨_, _, rfl, run_takeDeferred hK', ?_⟩⟩
    have hc5 := cell_kept (bR1.set (.int .i64 (-1))).cell (grownBy_putObj' _ D (.deferred none)) (fun r e => by cases e; exact ⟨_, hK', rfl⟩)
    refine ⟨.int .i64 (-1), ?_, by rw [← hxs, firstOf_none hp], (hB1.setCell (p := ⟨w.heap.size + 1, 0, none⟩) (by simp) _).trans (belowK_b (w := w) (Nat.le_refl _) _ D _ _ (by omega) hK' rfl rfl)⟩
    simp [results, Tryz.f63, go_sem, hc5]
  case stop =>
    rintro D c pre W hD hpre ⟨⟨⟨rfl, hx⟩, bR1⟩, hB1⟩ hK
    gi_wp2
    refine ⟨by simp, .inl ⟨_, _, rfl, run_takeDeferred hK, ?_⟩⟩
    have hc5 := cell_kept bR1.cell (grownBy_putObj' _ D (.deferred none)) (fun r e => by cases e; exact ⟨_, hK, rfl⟩)
    refine ⟨.int .i64 (pre.getLastD (-1)), ?_, by rw [← hxs, hx.first hpre], hB1.trans (belowK_b (w := w) (Nat.le_refl _) W D _ _ (by omega) hK rfl rfl)⟩
    simp [results, Tryz.f63, go_sem, hc5]

theorem meet_any (p q : Int) (w : World) : Calls Tryz.prog 63 #[.int .i64 p, .int .i64 q] w fun e w' => e = .returned (.int .i64 (meetOf p q)) ∧ Below w.heap.size w w' := by
  have h := callsIn_wide.1 (meet_in 6 (by omega) p q w)
  rw [chain_meet] at h
  exact h

end Go.Proofs.YteiojanamkndmaaGreat
/-
  The program's TreClear.
-/
namespace Go.Proofs.YteiojanamkndmaaGreat
open Go.RowKit Go.Shelf
attribute [local go_sem] Oper.semAt_some

def vals (ps : List (Fin 15)) : List Nat := ps.map (·.val)
theorem vals_snoc (ps : List (Fin 15)) (x : Fin 15) : vals (ps ++ [x]) = vals ps ++ [x.val] := by simp [vals]
theorem vals_chain (k : Nat) (h : k < 8) : vals (chainF ((7 + k : Nat) : Int)) = (7 + k) :: ups (7 + k) := by
  rw [chainF_nat (7 + k) (by omega)]
  exact chainT_val _

end Go.Proofs.YteiojanamkndmaaGreat
/-
  The program's TreSet.
-/
namespace Go.Proofs.YteiojanamkndmaaGreat
open Go.RowKit Go.Shelf
attribute [local go_sem] Oper.semAt_some

theorem keepsOthers_below {w w' : World} (h : Below w.heap.size w w') : KeepsOthers w w' := ⟨h.size, fun k _ hk _ => (h.block k (Array.getElem?_eq_some_iff.1 hk).1).trans hk⟩

set_option maxRecDepth 100000 in
set_option maxHeartbeats 1000000 in
theorem mayBeSet_any (s : ByteArray) (w : World) (hm : s.size ≤ maxLen) :
    Calls Tryz.prog 57 #[.string s] w fun e w' => e = .returned (.bool (maySet s)) ∧ Below w.heap.size w w' := by
  have M := hide hm
  unfold maxLen at hm
  have HE : Hid (maySet s = (Kw.ok s && decide (s.size ≤ 292))) := rfl
  go_enter Tryz.func57, Tryz.ntmps57
  go_wp2_with fail
  refine (iSecOk_any s _ M.out).mono ?_
  cases hk : Kw.ok s with
  | false =>
    rintro e w1 ⟨rfl, hb1⟩
    have HK := hide hk
    clear hk
    go_wp2_with fail
    go_ret
    exact ⟨ret_bool' (by rw [HE.out, HK.out]; rfl), hb1⟩
  | true =>
    rintro e w1 ⟨rfl, hb1⟩
    have HK := hide hk
    clear hk
    by_cases h2 : s.size ≤ 292
    · have h3 : (s.size : Int) ≤ 292 := by omega
      go_wp2_with fail
      go_ret
      exact ⟨ret_bool' (by rw [HE.out, HK.out]; simp [h2]), hb1⟩
    · have h3 : decide ((s.size : Int) ≤ 292) = false := by simp; omega
      go_wp2_with fail
      go_ret
      exact ⟨ret_bool' (by rw [HE.out, HK.out]; simp [h2]), hb1⟩

end Go.Proofs.YteiojanamkndmaaGreat
/-
  The program's count of names: the library's Count of one byte.
-/
namespace Go.Proofs.YteiojanamkndmaaGreat
open Go.RowKit

set_option maxRecDepth 100000 in
set_option maxHeartbeats 400000 in
theorem count_any (s : ByteArray) (w : World) :
    Calls Tryz.prog 86 #[.string s, .string ⟨#[59]⟩] w fun e w' => e = .returned (.int .i64 ((countN s : Nat) : Int)) ∧ w' = w := by
  go_enter Tryz.func86, Tryz.ntmps86
  go_wp2
  rw [run_callFunc_extern Tryz.func98 (by kernel_rfl) (by kernel_rfl) (by kernel_rfl) (e := Extern.BytealgCount.count) (by kernel_rfl), Go.Lib.run_countString]
  simp only [Result.andThen]
  rw [Oper.upon_value]
  go_wp2
  go_ret
  exact ⟨rfl, rfl⟩

set_option maxHeartbeats 400000 in
theorem namesIn_any (s : ByteArray) (w : World) : Calls Tryz.prog 64 #[.string s] w fun e w' => e = .returned (.int .i64 ((countN s : Nat) : Int)) ∧ w' = w := by
  go_enter Tryz.func64, Tryz.ntmps64
  go_wp2_with fail
  refine (count_any s _).mono ?_
  rintro e w1 ⟨rfl, rfl⟩
  go_wp2_with fail
  go_ret
  exact ⟨rfl, rfl⟩
#print axioms namesIn_any
end Go.Proofs.YteiojanamkndmaaGreat
/-
  Who comes by a commit: the program's test is the specification's. Helpers of the program: copies of a secret with its place, the names up to a commit.
-/
namespace Go.Proofs.YteiojanamkndmaaGreat
open Go.RowKit Kw

/-- What the program asks of who comes. -/
def joinI (who : Int) (leaf key : ByteArray) (c : Cmt) : Bool := cmtOk c && (oneB who && decide (c.add = who)) && (decide (mkKey leaf = c.leaf) && decide (mkKey key = c.wel.key)) && maySet c.wel.ss
theorem next_grow (s : ByteArray) : (mkNext s).size ≤ s.size + 1 := by
  unfold mkNext
  split
  · unfold cap
    split
    · have e : (nextT s).size = 1 + s.size := by unfold nextT; rw [ByteArray.size_append]; rfl
      omega
    · show 0 ≤ _; omega
  · show 0 ≤ _; omega
theorem path_lt : ∀ (ps : List Int) (s : ByteArray) (n : Nat), s.size + ps.length ≤ n → ∀ o ∈ pathOf ps s, o.2.size < n
  | [], _, _, _, o, ho => by cases ho
  | p :: ps, s, n, hs, o, ho => by
    rw [List.length_cons] at hs
    rcases List.mem_cons.1 ho with rfl | q
    · show s.size < n; omega
    · have := next_grow s
      exact path_lt ps (mkNext s) n (by omega) o q
theorem key_fits {s : ByteArray} (h : mkKey s ≠ ByteArray.empty) : s.size < 300 := by
  apply Classical.byContradiction
  intro hn
  refine h ?_
  unfold mkKey
  split
  · unfold cap
    have e : (keyT s).size = 1 + s.size := by unfold keyT; rw [ByteArray.size_append]; rfl
    rw [if_neg (by omega)]
    rfl
  · rfl
theorem okB_le {s : ByteArray} (h : Kw.ok s = true) : s.size ≤ 300 := by
  unfold Kw.ok at h
  simp only [Bool.and_eq_true, decide_eq_true_eq] at h
  exact h.1
theorem treOk_le {xs : List ByteArray} (h : treOk xs = true) : ∀ x ∈ xs, x.size ≤ 300 := by
  intro x hx
  obtain ⟨k, hk, rfl⟩ := mem_getD hx
  have := (treOk_iff.1 h).2 k hk
  unfold keyOk at this
  simp only [Bool.or_eq_true, Bool.and_eq_true, decide_eq_true_eq] at this
  rcases this with q | q
  · rw [q]; decide
  · exact okB_le q.1
theorem mOp_empty : mOp ByteArray.empty = 0 := by decide
theorem cmtOk_keysOf {c : Cmt} (h : cmtOk c = true) (ha : 0 ≤ c.add) : c.leaf ≠ ByteArray.empty ∧ c.wel.key ≠ ByteArray.empty := by
  unfold cmtOk at h
  simp only [Bool.and_eq_true] at h
  have := h.1.2
  unfold keysOfB at this
  rw [if_neg (by omega)] at this
  simp only [Bool.and_eq_true, decide_eq_true_eq] at this
  refine ⟨fun q => ?_, fun q => ?_⟩
  · rw [q, mOp_empty] at this; exact absurd this.1.1 (by decide)
  · rw [q, mOp_empty] at this; exact absurd this.1.2 (by decide)
theorem join_agree (who : Int) (leaf key : ByteArray) (c : Cmt) : (joinI who leaf key c && memOkI (joinM who leaf c)) = joinB who leaf key c := by
  rw [joinB_eq]
  unfold joinI
  cases h1 : cmtOk c with
  | false => rfl
  | true =>
    by_cases h3 : c.add = who
    · by_cases ha : c.add < 0
      · have : oneB who = false := by unfold oneB; rw [← h3]; simp; omega
        simp [this, ha]
      · have hb := cmtOk_add h1
        have h4 : oneB who = true := by unfold oneB; rw [← h3]; simp; omega
        have hk := cmtOk_keysOf h1 (by omega)
        by_cases h5 : mkKey leaf = c.leaf
        · by_cases h6 : mkKey key = c.wel.key
          · have k1 : Kw.ok leaf = true := key_okS (by rw [h5]; exact hk.1)
            have k2 : Kw.ok key = true := key_okS (by rw [h6]; exact hk.2)
            have k3 : leaf.size < 300 := key_fits (by rw [h5]; exact hk.1)
            have hw := cmtOk_wel h1 (by omega)
            by_cases h7 : c.wel.ss.size ≤ 292
            · have hag : memOkI (joinM who leaf c) = memOkS (joinM who leaf c) := by
                refine mem_agree _ (fun o ho _ => ?_)
                have hs := cmtOk_sender h1
                obtain ⟨np, hnp, hmp⟩ := meet_place (a := who) (b := c.sender) (by omega) hs
                have ho' : o ∈ (leafOf who, leaf) :: pathOf (chainOf (meetOf (leafOf who) (leafOf c.sender))) c.wel.ss := ho
                rcases List.mem_cons.1 ho' with rfl | q
                · exact k3
                · rw [hmp] at q
                  have := chain_len np hnp
                  exact path_lt _ _ 300 (by omega) o q
              unfold maySet
              simp [h3, h4, h5, h6, k1, k2, h7, hw.2, hag]
              intro q
              omega
            · unfold maySet
              simp [h7]
          · simp [h6]
        · simp [h5]
    · simp [h3]

set_option maxRecDepth 100000 in
set_option maxHeartbeats 1000000 in
theorem tagBehind_any (c : Cmt) (ks bs : Value) (w : World) (hk : ∃ a l p, ks = .slice a l p) (hb : ∃ a l p, bs = .slice a l p) (hz : c.tag.size + c.name.size ≤ 300) :
    Calls Tryz.prog 66 #[.agg (c.cells ks bs)] w fun e w' => e = .returned (.string (c.tag ++ c.name)) ∧ Below w.heap.size w w' := by
  obtain ⟨se, tag, name, add, rem, leaf, keys, boxes, wk, ik, is, sk, ss⟩ := c
  obtain ⟨a1, l1, p1, rfl⟩ := hk
  obtain ⟨a2, l2, p2, rfl⟩ := hb
  simp only at hz ⊢
  have h2 : ¬ 9223372036854775807 < tag.size + name.size := by omega
  have HZ : Hid ((tag ++ name).size ≤ 1000000) := by show _ ≤ _; rw [ByteArray.size_append]; omega
  have HB : Hid (Below w.heap.size w (w.alloc (.cells (cmtC se tag name add rem leaf (.slice a1 l1 p1) (.slice a2 l2 p2) wk ik is sk ss) 43))) := (Below.refl _ _).alloc (Nat.le_refl _) _
  go_enter Tryz.func66, Tryz.ntmps66
  go_wp2_with fail
  refine (clone_any (tag ++ name) _ HZ.out).mono ?_
  rintro e w1 ⟨rfl, hb⟩
  have HB1 := hide (HB.out.trans (hb.mono HB.out.size))
  clear hb
  go_wp2_with fail
  go_ret
  exact ⟨rfl, unhide HB1⟩
#print axioms join_agree
#print axioms tagBehind_any
end Go.Proofs.YteiojanamkndmaaGreat
/-
  A region that draws its order: if each operation that may come up keeps an invariant, the region leaves it, whatever order is drawn.
-/
namespace Go.Proofs.YteiojanamkndmaaGreat

/-- How many operations have not come up yet. -/
def open_ (l : Array Bool) : Nat := l.toList.count false

theorem count_set {l : List Bool} : ∀ {i : Nat}, l[i]? = some false → (l.set i true).count false + 1 = l.count false := by
  induction l with
  | nil => intro i h; simp at h
  | cons x l ih =>
    intro i h
    cases i with
    | zero =>
      simp at h
      subst h
      simp
    | succ i =>
      simp at h
      have := ih h
      simp only [List.set_cons_succ, List.count_cons]
      omega

theorem open_set {l : Array Bool} {i : Nat} (h : l.getD i true = false) : open_ (l.setIfInBounds i true) + 1 = open_ l := by
  unfold open_
  have hi : l.toList[i]? = some false := by
    rcases Nat.lt_or_ge i l.size with h' | h'
    · simp [h'] at h
      simp [h', h]
    · simp [h'] at h
  have := count_set hi
  simpa using this

theorem wpAny_inv {P : Program} {md : Region.Mode} {ops : Array Oper} {Q : Exit → Act → World → Prop} (I : Array Bool → Act → World → Prop)
    (hstep : ∀ listed a w i, I listed a w → i ∈ Region.ready md ops listed → wpOp P ops Q i (fun a' w' => I (listed.setIfInBounds i true) a' w') a w)
    (hend : ∀ listed a w, I listed a w → Region.ready md ops listed = [] → Q .normal a w) :
    ∀ (fuel : Nat) (listed : Array Bool) (a : Act) (w : World), open_ listed ≤ fuel → I listed a w → wpAny P md ops Q fuel listed a w := by
  intro fuel
  induction fuel with
  | zero =>
    intro listed a w hc hI
    have hr : Region.ready md ops listed = [] := by
      cases hr : Region.ready md ops listed with
      | nil => rfl
      | cons i r =>
        exfalso
        have hm : i ∈ Region.ready md ops listed := by rw [hr]; simp
        have := open_set (mem_ready.1 hm).1
        omega
    exact ⟨hr, hend _ _ _ hI hr⟩
  | succ fuel ih =>
    intro listed a w hc hI
    refine ⟨fun hr => hend _ _ _ hI hr, fun i hi => ?_⟩
    refine wpOp_mono (fun a' w' h' => ih _ a' w' ?_ h') (hstep listed a w i hI hi)
    have := open_set (mem_ready.1 hi).1
    omega

theorem wp_region_inv {P : Program} {ops : Array Oper} {Q : Exit → Act → World → Prop} {id : Nat} {a : Act} {w : World} (hm : P.follows .mixedOrders = true) (I : Array Bool → Act → World → Prop)
    (h0 : I (Array.replicate ops.size false) a { w with drawn := w.drawn + 1 })
    (hstep : ∀ listed a w i, I listed a w → i ∈ Region.ready .any ops listed → wpOp P ops Q i (fun a' w' => I (listed.setIfInBounds i true) a' w') a w)
    (hend : ∀ listed a w, I listed a w → Region.ready .any ops listed = [] → Q .normal a w) : (Code.region id ops true).wp P Q a w := by
  refine wp_region_any hm (wpAny_inv I hstep hend _ _ _ _ ?_ h0)
  unfold open_
  simp

/-- No two operations of a region write one slot, and none is guarded. -/
def plainB (ops : Array Oper) : Bool :=
  (List.range ops.size).all fun i => (List.range ops.size).all fun j => i == j || ((ops[i]?).bind (·.dst)) == none || ((ops[i]?).bind (·.dst)) != ((ops[j]?).bind (·.dst))

/-- Every operation waits for earlier ones alone. -/
def lowB (ops : Array Oper) : Bool := (List.range ops.size).all fun i => ((ops[i]?).map (·.after.all fun e => !Region.binds .any e || decide (e.on < i))).getD true

/-- What holds of the slots of those operations that have come up. -/
def Slots (ops : Array Oper) (T : Nat → Value → World → Prop) (listed : Array Bool) (a : Act) (w : World) : Prop :=
  ∀ i o d, ops[i]? = some o → o.dst = some d → listed.getD i false = true → T d (a.tmps.getD d undef) w

theorem wp_region_slots {P : Program} {ops : Array Oper} {Q : Exit → Act → World → Prop} {id : Nat} {a0 : Act} {w0 : World} (hm : P.follows .mixedOrders = true)
    (T : Nat → Value → World → Prop) (R : World → World → Prop) (J : Nat → World → Prop) (B : Act → Prop)
    (hplain : plainB ops = true) (hlow : lowB ops = true) (hg : ∀ (i : Nat) (o : Oper), ops[i]? = some o → o.guard = none)
    (hT : ∀ d v w w', T d v w → R w w' → T d v w') (hR0 : R w0 w0.drew) (hRt : ∀ u v w, R u v → R v w → R u w) (hJ0 : J 0 w0.drew)
    (hB0 : B a0) (hBput : ∀ (i : Nat) (o : Oper) (a : Act) (v : Value), ops[i]? = some o → B a → B (a.put o.dst v)) (hBsz : ∀ (i : Nat) (o : Oper) (a : Act) d, ops[i]? = some o → o.dst = some d → B a → d < a.tmps.size)
    (hops : ∀ (i : Nat) (o : Oper) (a : Act) (w : World) (k : Nat), ops[i]? = some o → B a → J k w → k < ops.size →
      (∀ e ∈ o.after, Region.binds .any e = true → ∀ oe d, ops[e.on]? = some oe → oe.dst = some d → T d (a.tmps.getD d undef) w) →
      o.wp P a w (fun a' w' => ∃ v, a' = a.put o.dst v ∧ (∀ d, o.dst = some d → T d v w') ∧ R w w' ∧ J (k + 1) w') Q)
    (hend : ∀ (a : Act) (w : World), B a → R w0 w → J ops.size w → (∀ (i : Nat) (o : Oper) d, ops[i]? = some o → o.dst = some d → T d (a.tmps.getD d undef) w) → Q .normal a w) :
    (Code.region id ops true).wp P Q a0 w0 := by
  refine wp_region_inv hm (fun listed a w => listed.size = ops.size ∧ B a ∧ R w0 w ∧ J (ops.size - open_ listed) w ∧ Slots ops T listed a w) ?_ ?_ ?_
  · refine ⟨by simp, hB0, hR0, ?_, ?_⟩
    · have : ops.size - open_ (Array.replicate ops.size false) = 0 := by unfold open_; simp
      rw [this]; exact hJ0
    · intro i o d hi hd hl
      exfalso
      rw [Array.getD_eq_getD_getElem?, Array.getElem?_replicate] at hl
      split at hl <;> simp at hl
  · rintro listed a w i ⟨hsz, hB, hR, hJ, hS⟩ hi
    obtain ⟨hun, o, ho, hall⟩ := mem_ready.1 hi
    have hop := open_set hun
    have hlt : i < ops.size := (Array.getElem?_eq_some_iff.1 ho).1
    have hle : open_ listed ≤ ops.size := by
      unfold open_; rw [← hsz, ← Array.length_toList]; exact List.count_le_length
    unfold wpOp
    rw [ho]
    have hw : Region.wanted o (yielded ops a.tmps) = true := by unfold Region.wanted; rw [hg i o ho]
    simp only [hw, if_true]
    refine .inl (Oper.wp_mono ?_ (hops i o a w (ops.size - open_ listed) ho hB hJ (by omega) (fun e he hb oe d hoe hd => hS e.on oe d hoe hd (hall e he hb))))
    rintro a' w' ⟨v, rfl, hv, hRw, hJw⟩
    refine ⟨by simpa using hsz, hBput i o a v ho hB, hRt _ _ _ hR hRw, ?_, ?_⟩
    · rw [show ops.size - open_ (listed.setIfInBounds i true) = ops.size - open_ listed + 1 by omega]; exact hJw
    · intro j oj d hj hd hl
      by_cases hij : j = i
      · subst hij
        rw [ho] at hj
        cases hj
        have hdsz := hBsz _ _ _ d ho hd hB
        have e : (a.put o.dst v).tmps.getD d undef = v := by rw [hd]; simp [Act.put, hdsz]
        rw [e]
        exact hv d hd
      · have hl' : listed.getD j false = true := by
          simpa [Array.getD_eq_getD_getElem?, Array.getElem?_setIfInBounds, Ne.symm hij] using hl
        have hne : o.dst ≠ some d := by
          intro e
          have hp := hplain
          unfold plainB at hp
          rw [List.all_eq_true] at hp
          have h1 := hp j (by rw [List.mem_range]; exact (Array.getElem?_eq_some_iff.1 hj).1)
          rw [List.all_eq_true] at h1
          have h2 := h1 i (by rw [List.mem_range]; exact hlt)
          simp [hj, ho, hd, e, hij] at h2
        have e : (a.put o.dst v).tmps.getD d undef = a.tmps.getD d undef := by
          cases ho' : o.dst with
          | none => simp [Act.put]
          | some c =>
            have hcd : c ≠ d := fun e => hne (by rw [ho', e])
            simp [Act.put, Array.getD_eq_getD_getElem?, hcd]
        rw [e]
        exact hT _ _ _ _ (hS j oj d hj hd hl') hRw
  · rintro listed a w ⟨hsz, hB, hR, hJ, hS⟩ hr
    have hlow' : ∀ (i : Nat) (o : Oper), ops[i]? = some o → ∀ e ∈ o.after, Region.binds .any e = true → e.on < i := by
      intro i o hi e he hbi
      have h1 := hlow
      unfold lowB at h1
      rw [List.all_eq_true] at h1
      have h2 := h1 i (by rw [List.mem_range]; exact (Array.getElem?_eq_some_iff.1 hi).1)
      rw [hi] at h2
      simp only [Option.map_some, Option.getD_some, Array.all_eq_true_iff_forall_mem] at h2
      have h3 := h2 e he
      rw [hbi] at h3
      simpa using h3
    have hall : ∀ n i, i ≤ n → i < ops.size → listed.getD i false = true := by
      intro n
      induction n using Nat.strongRecOn with
      | _ n ih =>
        intro i hin hi
        apply Classical.byContradiction
        intro hn
        have hun : listed.getD i true = false := by
          have hlt : i < listed.size := by omega
          simp [hlt] at hn ⊢
          exact hn
        obtain ⟨o, ho⟩ : ∃ o, ops[i]? = some o := ⟨ops[i], Array.getElem?_eq_getElem hi⟩
        have : i ∈ Region.ready .any ops listed := mem_ready.2 ⟨hun, o, ho, fun e he hbi => by
          have hlt := hlow' i o ho e he hbi
          exact ih e.on (by omega) e.on (Nat.le_refl _) (by omega)⟩
        rw [hr] at this
        cases this
    have h0 : open_ listed = 0 := by
      unfold open_
      rw [List.count_eq_zero]
      intro hmem
      obtain ⟨i, hi, he⟩ := List.getElem_of_mem hmem
      have hi' : i < listed.size := by simpa using hi
      have := hall i i (Nat.le_refl _) (by omega)
      simp [hi'] at this he
      rw [this] at he
      cases he
    rw [h0, Nat.sub_zero] at hJ
    exact hend a w hB hR hJ (fun i o d hi hd => hS i o d hi hd (hall i i (Nat.le_refl _) (Array.getElem?_eq_some_iff.1 hi).1))

/-- Every slot that is written is another one than p0, and below n; nothing is guarded. -/
def slotsB (ops : Array Oper) (p0 n : Nat) : Bool := ops.all fun o => o.guard.isNone && (match o.dst with | some d => d != p0 && decide (d < n) | none => true)

def BB (p0 n : Nat) (v0 : Value) (a : Act) : Prop := a.tmps.size = n ∧ a.tmps.getD p0 undef = v0 ∧ a.defers = []

theorem wp_region_reader {P : Program} {ops : Array Oper} {Q : Exit → Act → World → Prop} {id : Nat} {a0 : Act} {w0 : World} (hm : P.follows .mixedOrders = true)
    (T : Nat → Value → World → Prop) (R : World → World → Prop) (J : Nat → World → Prop) (p0 n : Nat) (v0 : Value)
    (hplain : plainB ops = true) (hlow : lowB ops = true) (hs : slotsB ops p0 n = true)
    (hT : ∀ d v w w', T d v w → R w w' → T d v w') (hR0 : R w0 w0.drew) (hRt : ∀ u v w, R u v → R v w → R u w) (hJ0 : J 0 w0.drew) (hB0 : BB p0 n v0 a0)
    (hops : ∀ (i : Nat) (o : Oper) (a : Act) (w : World) (k : Nat), ops[i]? = some o → BB p0 n v0 a → J k w → k < ops.size →
      (∀ e ∈ o.after, Region.binds .any e = true → ∀ oe d, ops[e.on]? = some oe → oe.dst = some d → T d (a.tmps.getD d undef) w) →
      o.wp P a w (fun a' w' => ∃ v, a' = a.put o.dst v ∧ (∀ d, o.dst = some d → T d v w') ∧ R w w' ∧ J (k + 1) w') Q)
    (hend : ∀ (a : Act) (w : World), BB p0 n v0 a → R w0 w → J ops.size w → (∀ (i : Nat) (o : Oper) d, ops[i]? = some o → o.dst = some d → T d (a.tmps.getD d undef) w) → Q .normal a w) :
    (Code.region id ops true).wp P Q a0 w0 := by
  have hsl : ∀ (i : Nat) (o : Oper), ops[i]? = some o → o.guard = none ∧ ∀ d, o.dst = some d → d ≠ p0 ∧ d < n := by
    intro i o hi
    have h1 := hs
    unfold slotsB at h1
    rw [Array.all_eq_true_iff_forall_mem] at h1
    have h2 := h1 o (Array.mem_of_getElem? hi)
    rw [Bool.and_eq_true] at h2
    refine ⟨by simpa using h2.1, fun d hd => ?_⟩
    have h3 := h2.2
    rw [hd] at h3
    simpa using h3
  refine wp_region_slots hm T R J (BB p0 n v0) hplain hlow (fun i o hi => (hsl i o hi).1) hT hR0 hRt hJ0 hB0 ?_ ?_ hops hend
  · rintro i o a v hi ⟨h1, h2, h3⟩
    cases hd : o.dst with
    | none => exact ⟨h1, h2, h3⟩
    | some d =>
      have hne := ((hsl i o hi).2 d hd).1
      refine ⟨by simpa [Act.put] using h1, ?_, h3⟩
      rw [← h2]
      simp [Act.put, Array.getD_eq_getD_getElem?, hne]
  · rintro i o a d hi hd ⟨h1, h2, h3⟩
    rw [h1]
    exact ((hsl i o hi).2 d hd).2

#print axioms wp_region_reader
end Go.Proofs.YteiojanamkndmaaGreat
