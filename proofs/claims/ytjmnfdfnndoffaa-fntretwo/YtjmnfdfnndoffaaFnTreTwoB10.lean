/-
  The program's TreMeet: the first place above one that is above the other, too.
-/
import Derived.Test.YtjmnfdfnndoffaaFnTreTwoB5
import Derived.Test.YtjmnfdfnndoffaaFnTreTwoB4
import Derived.Maps.AppendAt
namespace Go.Proofs.Ytjmnfdfnndoffaa
open Go.RowKit Go.Shelf
attribute [local go_sem] Oper.semAt_some

/-- The first of some that is one of others. -/
def firstOf (xs ys : List Int) : Int := (xs.find? fun x => decide (x ∈ ys)).getD (-1)
theorem firstOf_none {xs ys : List Int} (h : ∀ x ∈ xs, x ∉ ys) : firstOf xs ys = -1 := by
  unfold firstOf
  rw [List.find?_eq_none.2 (fun x hx => by simpa using h x hx)]
  rfl
theorem firstOf_at {ys pre rest : List Int} {x : Int} (h : ∀ z ∈ pre, z ∉ ys) (hx : x ∈ ys) : firstOf (pre ++ [x] ++ rest) ys = x := by
  unfold firstOf
  rw [List.append_assoc, List.find?_append, List.find?_eq_none.2 (fun z hz => by simpa using h z hz)]
  simp [hx]
theorem chain_nat (k : Nat) (h : k < 15) : chainOf (k : Int) = (k :: ups k).map (fun (k : Nat) => (k : Int)) := by
  unfold chainOf; rw [if_pos (by omega), upOf_nat k h]; rfl
theorem chain_meet (a b : Int) : firstOf (chainOf a) (chainOf b) = meetOf a b := by
  by_cases h : (0 ≤ a ∧ a ≤ 14) ∧ 0 ≤ b ∧ b ≤ 14
  · obtain ⟨x, rfl⟩ : ∃ k : Nat, a = (k : Int) := ⟨a.toNat, by omega⟩
    obtain ⟨y, rfl⟩ : ∃ k : Nat, b = (k : Int) := ⟨b.toNat, by omega⟩
    have hm : meetOf (x : Int) (y : Int) = (meets x y : Int) := by unfold meetOf; rw [if_pos h]; rfl
    rw [hm, chain_nat x (by omega), chain_nat y (by omega)]
    have hf := meets_above x (by omega) y (by omega)
    have hf2 : (x :: ups x).find? (fun z => (y :: ups y).contains z) = some (meets x y) := by
      rw [← List.head?_filter, hf]; rfl
    unfold firstOf
    rw [List.find?_map]
    have e : ((fun z : Int => decide (z ∈ List.map (fun (k : Nat) => (k : Int)) (y :: ups y))) ∘ fun (k : Nat) => (k : Int)) = fun z => (y :: ups y).contains z := by
      funext z
      rw [Bool.eq_iff_iff]
      simp only [Function.comp, decide_eq_true_eq, List.mem_map, List.contains_iff_mem]
      constructor
      · rintro ⟨k, hk, e⟩
        obtain rfl : k = z := by omega
        exact hk
      · intro hk; exact ⟨z, hk, rfl⟩
    rw [e, hf2]
    rfl
  · have hm : meetOf a b = -1 := by unfold meetOf; rw [if_neg h]
    rw [hm]
    apply firstOf_none
    intro x hx hy
    apply h
    constructor
    · apply Classical.byContradiction
      intro hn
      rw [chain_nil a hn] at hx
      cases hx
    · apply Classical.byContradiction
      intro hn
      rw [chain_nil b hn] at hy
      cases hy

/-- A part whose last one is the first that is one of others. -/
def Hits (ys pre : List Int) : Prop := ∃ pre0 x, pre = pre0 ++ [x] ∧ (∀ z ∈ pre0, z ∉ ys) ∧ x ∈ ys
theorem Hits.first {ys pre xs : List Int} (h : Hits ys pre) (hp : pre <+: xs) : firstOf xs ys = pre.getLastD (-1) := by
  obtain ⟨pre0, x, rfl, h1, h2⟩ := h
  obtain ⟨rest, rfl⟩ := hp
  rw [firstOf_at h1 h2]
  simp

set_option maxRecDepth 100000 in
set_option maxHeartbeats 4000000 in
theorem meet_in (n : Nat) (hn : 6 ≤ n) (p q : Int) (w : World) :
    CallsIn Fence.wide n Try.prog 34 #[.int .i64 p, .int .i64 q] w fun e W' => e = .returned (.int .i64 (firstOf (chainOf p) (chainOf q))) ∧ Below w.heap.size w W' := by
  have h1 : 1 ≤ n := by omega
  have hro : Fence.wide.round = none := rfl
  generalize hxs : chainOf p = xs
  generalize hys : chainOf q = ys
  refine callsIn_of_wp_marks Try.func34 rfl trivial ?_ hro
  simp only [Try.ntmps34, List.size_toArray, List.length_cons, List.length_nil, Nat.reduceAdd, Nat.reduceSub, Array.replicate_succ, Array.replicate_zero, List.push_toArray, List.append_toArray, List.nil_append, List.cons_append]
  gi_wp2_with (refine ⟨trivial, ?_⟩; gi_at_call 41; refine (upward_in (n - 1) p _).mono ?_; rintro e w' ⟨rfl, rfl⟩)
  have bB := ((Boxed.new w 50 (.int .i64 q)).alloc (.cells #[.int .i64 0] 50)).alloc (.cells #[.int .i64 p] 50)
  have bR := (Boxed.new (w.alloc (.cells #[.int .i64 q] 50)) 50 (.int .i64 0)).alloc (.cells #[.int .i64 p] 50)
  have bA := Boxed.new ((w.alloc (.cells #[.int .i64 q] 50)).alloc (.cells #[.int .i64 0] 50)) 50 (.int .i64 p)
  simp only [World.size_alloc] at bR bA
  have hB0 : Below w.heap.size w (((w.alloc (.cells #[.int .i64 q] 50)).alloc (.cells #[.int .i64 0] 50)).alloc (.cells #[.int .i64 p] 50)) := (((Below.refl _ w).alloc (Nat.le_refl _) _).alloc (by simp) _).alloc (by simp; omega) _
  have hsz : (((w.alloc (.cells #[.int .i64 q] 50)).alloc (.cells #[.int .i64 0] 50)).alloc (.cells #[.int .i64 p] 50)).heap.size = w.heap.size + 3 := by simp
  obtain ⟨W0, hW0⟩ : ∃ W0, ((w.alloc (.cells #[.int .i64 q] 50)).alloc (.cells #[.int .i64 0] 50)).alloc (.cells #[.int .i64 p] 50) = W0 := ⟨_, rfl⟩
  rw [hW0] at bB bR bA hB0 hsz ⊢
  clear hW0
  refine wpIn_rangeFunc_ownH hro h1 (gf := 59) (lb := #[.pointer (some ⟨w.heap.size + 1 + 1, 0, none⟩)]) rfl trivial (enters_of Try.func59 (by kernel_rfl) rfl)
    (upward_stops (n - 1) (by omega) (w.heap.size + 1 + 1) w.heap.size p W0 (by omega) bA.cell) belowK_t (belowK_b (by omega)) (Below.refl _ _) (fun _ => rfl)
    (fun pre W => (((∀ x ∈ pre, x ∉ ys) ∧ Boxed W (w.heap.size + 1) 50 (.int .i64 0)) ∧ Boxed W w.heap.size 50 (.int .i64 q)) ∧ Below w.heap.size w W)
    (fun c pre W => ((c = .ret ∧ Hits ys pre) ∧ Boxed W (w.heap.size + 1) 50 (.int .i64 (pre.getLastD (-1)))) ∧ Below w.heap.size w W)
    (OwnFrom.and (OwnFrom.and (OwnFrom.and (ownFrom_pure _ _) (Own.from (boxed_own _ _ _) _)) (Own.from (boxed_own _ _ _) _)) (ownFrom_below (Nat.le_refl _) (by omega)))
    (fun c => OwnFrom.and (OwnFrom.and (ownFrom_pure _ _) (Own.from (boxed_own _ _ (fun (pre : List Int) => Value.int .i64 (pre.getLastD (-1)))) _)) (ownFrom_below (Nat.le_refl _) (by omega)))
    ⟨⟨⟨by simp, bR⟩, bB⟩, hB0⟩
    (fun x a' W => ∃ Bx, w.heap.size + 1 < Bx ∧ Boxed W Bx 50 (.int .i64 x) ∧ a' = { tmps := #[.int .i64 p, .int .i64 q, undef, .pointer (some ⟨w.heap.size, 0, none⟩), .pointer (some ⟨w.heap.size + 1, 0, none⟩), .pointer (some ⟨Bx, 0, none⟩), undef, .int .i64 p, .func (.func 59) #[] #[.pointer (some ⟨w.heap.size + 1 + 1, 0, none⟩)], .int .i64 x, undef, undef, undef, undef, undef, undef, undef], defers := [] })
    (fun x a' _ X Y row hs hg hr => by obtain ⟨Bx, e1, e2, e3⟩ := hs; exact ⟨Bx, e1, boxed_own Bx 50 (fun (_ : Unit) => Value.int .i64 x) () X Y row e2 hg (fun r e => (hr r e).2), e3⟩)
    ?assign ?body ?done ?stop
  case assign =>
    rintro l pre x W K ⟨⟨⟨hp, bR1⟩, bB1⟩, hB1⟩ hK
    gi_wp2
    exact hK _ _ ((KeepsOthers.alloc _ _).from _) ((Below.refl _ W).alloc hB1.size _) ⟨⟨⟨hp, bR1.alloc _⟩, bB1.alloc _⟩, hB1.alloc hB1.size _⟩ ⟨W.heap.size, bR1.lt, Boxed.new W 50 _, rfl⟩
  case body =>
    rintro l pre x a' W hl ⟨r, hr⟩ ⟨⟨⟨hp, bR1⟩, bB1⟩, hB1⟩ ⟨Bx, hBx, bX, rfl⟩ hlt
    have cB := bB1.cell
    have h1' : 1 ≤ n - 1 - 1 := by omega
    gi_wp2_with (refine ⟨trivial, ?_⟩; gi_at_call 41; refine (CallsIn.inRound l (upward_in (n - 1 - 1 - 1) _ _)).mono ?_; rintro e w' ⟨rfl, rfl⟩)
    have hsW := hB1.size
    have bN := Boxed.new W 50 (.int .i64 q)
    have hr' : (W.alloc (.cells #[.int .i64 q] 50)).heap[l]? = some (.loop r) := (Below.heap_alloc W _ l (Array.getElem?_eq_some_iff.1 hr).1).trans hr
    refine wpIn_rangeFunc_ownN (l₀ := l) (r₀ := r) rfl hr' h1' (gf := 59) (lb := #[.pointer (some ⟨W.heap.size, 0, none⟩)]) rfl trivial (enters_of Try.func59 (by kernel_rfl) rfl)
      ((upward_stops (n - 1 - 1 - 1) (by omega) W.heap.size w.heap.size q _ (by simp) bN.cell).inRound l) belowK_t (belowK_b (by simp; omega)) (Below.refl _ _) (fun _ => rfl)
      (fun pre' W' => ((((∀ y ∈ pre', x ≠ y) ∧ Boxed W' (w.heap.size + 1) 50 (.int .i64 0)) ∧ Boxed W' Bx 50 (.int .i64 x)) ∧ Boxed W' w.heap.size 50 (.int .i64 q)) ∧ (Below w.heap.size W W' ∧ KeepsFrom W0.heap.size W W'))
      (fun c pre' W' => ((c = .ret ∧ x ∈ pre') ∧ Boxed W' (w.heap.size + 1) 50 (.int .i64 x)) ∧ (Below w.heap.size W W' ∧ KeepsFrom W0.heap.size W W'))
      (OwnFrom.and (OwnFrom.and (OwnFrom.and (OwnFrom.and (ownFrom_pure _ _) (Own.from (boxed_own _ _ _) _)) (Own.from (boxed_own _ _ _) _)) (Own.from (boxed_own _ _ _) _)) (OwnFrom.and (ownFrom_below hsW (by simp; omega)) (ownFrom_keepsFrom (by simp))))
      (fun c => OwnFrom.and (OwnFrom.and (ownFrom_pure _ _) (Own.from (boxed_own _ _ _) _)) (OwnFrom.and (ownFrom_below hsW (by simp; omega)) (ownFrom_keepsFrom (by simp))))
      ⟨⟨⟨⟨by simp, bR1.alloc _⟩, bX.alloc _⟩, bB1.alloc _⟩, (Below.refl _ W).alloc hsW _, (KeepsOthers.alloc _ _).from _⟩
      (fun y a'' _ => a'' = { tmps := #[.int .i64 p, .int .i64 q, undef, .pointer (some ⟨w.heap.size, 0, none⟩), .pointer (some ⟨w.heap.size + 1, 0, none⟩), .pointer (some ⟨Bx, 0, none⟩), .int .i64 y, .int .i64 p, .func (.func 59) #[] #[.pointer (some ⟨w.heap.size + 1 + 1, 0, none⟩)], .int .i64 x, .int .i64 q, .func (.func 59) #[] #[.pointer (some ⟨W.heap.size, 0, none⟩)], .int .i64 y, undef, undef, undef, undef], defers := [] })
      (fun _ _ _ _ _ _ hs _ _ => hs)
      ?assign2 ?body2 ?done2 ?stop2
    case assign2 =>
      rintro l2 pre' y W' K hi hK
      gi_wp2
      exact hK _ _ (KeepsFrom.refl _ _) (Below.refl _ _) hi rfl
    case body2 =>
      rintro l2 pre' y a'' W' _ _ ⟨⟨⟨⟨hq, bR2⟩, bX2⟩, bB2⟩, hBW, hKF⟩ rfl _
      have cR := bR2.cell
      have fR := bR2.frozen
      have cX := bX2.cell
      gi_wp2
      · rename_i hxy
        obtain rfl : x = y := eq_of_beq hxy
        exact ⟨(KeepsOthers.setCell _ _ _).from _, ⟨⟨rfl, List.mem_append.2 (.inr (by simp))⟩, bR2.set _⟩, hBW.setCell (p := ⟨w.heap.size + 1, 0, none⟩) (by simp) _, hKF.trans ((KeepsOthers.setCell _ _ _).from _)⟩
      · rename_i hxy
        exact ⟨KeepsFrom.refl _ _, Below.refl _ _, ⟨⟨⟨fun z hz => (List.mem_append.1 hz).elim (hq z) (fun e e' => by simp at e; subst e; subst e'; simp at hxy), bR2⟩, bX2⟩, bB2⟩, hBW, hKF⟩
    case done2 =>
      rintro ys' W' rfl ⟨⟨⟨⟨hq, bR2⟩, bX2⟩, bB2⟩, hBW, hKF⟩
      gi_wp2
      exact ⟨hKF, hBW, ⟨⟨fun z hz => (List.mem_append.1 hz).elim (hp z) (fun e hin => by simp at e; subst e; rw [← hys] at hin; exact hq _ hin rfl), bR2⟩, bB2⟩, hB1.trans hBW⟩
    case stop2 =>
      rintro c pre' W' hpre ⟨⟨⟨rfl, hin⟩, bR2⟩, hBW, hKF⟩
      gi_wp2
      exact ⟨hKF, ⟨⟨rfl, pre, x, rfl, hp, by rw [← hys]; exact hpre.subset hin⟩, by simpa using bR2⟩, hB1.trans hBW⟩
  case done =>
    rintro D zs W hD rfl ⟨⟨⟨hp, bR1⟩, bB1⟩, hB1⟩ hK
    have cR := bR1.cell
    have fR := bR1.frozen
    gi_wp2
    have hK' := (KeepsOthers.setCell W ⟨w.heap.size + 1, 0, none⟩ (.int .i64 (-1))).same D _ hK rfl
    refine ⟨by simp, .inl ⟨_, _, rfl, run_takeDeferred hK', ?_⟩⟩
    have hc5 := cell_kept (bR1.set (.int .i64 (-1))).cell (grownBy_putObj' _ D (.deferred none)) (fun r e => by cases e; exact ⟨_, hK', rfl⟩)
    refine ⟨.int .i64 (-1), ?_, by rw [← hxs, firstOf_none hp], (hB1.setCell (p := ⟨w.heap.size + 1, 0, none⟩) (by simp) _).trans (belowK_b (w := w) (Nat.le_refl _) _ D _ _ (by omega) hK' rfl rfl)⟩
    simp [results, Try.f34, go_sem, hc5]
  case stop =>
    rintro D c pre W hD hpre ⟨⟨⟨rfl, hx⟩, bR1⟩, hB1⟩ hK
    gi_wp2
    refine ⟨by simp, .inl ⟨_, _, rfl, run_takeDeferred hK, ?_⟩⟩
    have hc5 := cell_kept bR1.cell (grownBy_putObj' _ D (.deferred none)) (fun r e => by cases e; exact ⟨_, hK, rfl⟩)
    refine ⟨.int .i64 (pre.getLastD (-1)), ?_, by rw [← hxs, hx.first hpre], hB1.trans (belowK_b (w := w) (Nat.le_refl _) W D _ _ (by omega) hK rfl rfl)⟩
    simp [results, Try.f34, go_sem, hc5]

theorem meet_any (p q : Int) (w : World) : Calls Try.prog 34 #[.int .i64 p, .int .i64 q] w fun e w' => e = .returned (.int .i64 (meetOf p q)) ∧ Below w.heap.size w w' := by
  have h := callsIn_wide.1 (meet_in 6 (by omega) p q w)
  rw [chain_meet] at h
  exact h

set_option maxHeartbeats 400000 in
theorem iTreMeet_any (p q : Int) (w : World) : Calls Try.prog 12 #[.int .i64 p, .int .i64 q] w fun e w' => e = .returned (.int .i64 (meetOf p q)) ∧ Below w.heap.size w w' := by
  go_enter Try.func12, Try.ntmps12
  go_wp2_with fail
  refine (meet_any _ _ _).mono ?_
  rintro e w1 ⟨rfl, hb⟩
  go_wp2_with fail
  go_ret
  exact ⟨rfl, hb⟩
#print axioms iTreMeet_any
end Go.Proofs.Ytjmnfdfnndoffaa
/-
  The program's TreUp: the places above, one by one.
-/
namespace Go.Proofs.Ytjmnfdfnndoffaa
open Go.RowKit Go.Shelf
attribute [local go_sem] Oper.semAt_some

theorem chain_len (p : Int) : (chainOf p).length ≤ 4 := by
  unfold chainOf
  split
  · next h =>
    obtain ⟨k, rfl⟩ : ∃ k : Nat, p = (k : Int) := ⟨p.toNat, by omega⟩
    rw [List.length_cons, upOf_nat k (by omega), List.length_map]
    have := ups_len k (by omega)
    omega
  · simp

set_option maxRecDepth 100000 in
set_option maxHeartbeats 2000000 in
theorem iTreUp_in (n : Nat) (hn : 3 ≤ n) (p : Int) (w : World) :
    CallsIn Fence.wide n Try.prog 19 #[.int .i64 p] w fun e W' => ∃ v, e = .returned v ∧ OwnI w.heap.size W' v (upOf p) ∧ Below w.heap.size w W' := by
  have h1 : 1 ≤ n := by omega
  have h2 : 1 ≤ n - 1 := by omega
  have hro : Fence.wide.round = none := rfl
  have hcl := chain_len (overOf p)
  obtain ⟨i0, hi, hz0, hz1, hz2⟩ := info_parts info_int2
  refine callsIn_of_wp_marks Try.func19 rfl trivial ?_ hro
  simp only [Try.ntmps19, List.size_toArray, List.length_cons, List.length_nil, Nat.reduceAdd, Nat.reduceSub, Array.replicate_succ, Array.replicate_zero, List.push_toArray, List.append_toArray, List.nil_append, List.cons_append]
  gi_wp2_with (refine ⟨trivial, ?_⟩; gi_at_call 46; refine (above_in _ h2 p _).mono ?_; rintro e w' ⟨rfl, rfl⟩)
  have bO := Boxed.new w 28 (.slice none 0 0)
  have bN := Boxed.new (w.alloc (.cells #[.slice none 0 0] 28)) 50 (.int .i64 (overOf p))
  rw [World.size_alloc] at bN
  have hB0 : Below w.heap.size w ((w.alloc (.cells #[.slice none 0 0] 28)).alloc (.cells #[.int .i64 (overOf p)] 50)) := ((Below.refl _ w).alloc (Nat.le_refl _) _).alloc (by simp) _
  refine wpIn_rangeFunc_ownG hro h1 (gf := 59) (lb := #[.pointer (some ⟨w.heap.size + 1, 0, none⟩)]) rfl trivial (enters_of Try.func59 (by kernel_rfl) rfl)
    (upward_stops (n - 1) h2 (w.heap.size + 1) w.heap.size (overOf p) _ (by simp) bN.cell) belowK_t (belowK_b (by simp; omega)) (Below.refl _ _) (fun _ => rfl)
    (fun pre W => (∃ v, Boxed W w.heap.size 28 v ∧ W.ownsRow w.heap.size 3 1 v pre.length (pre.map (Value.int .i64)) ∧ True) ∧ Below w.heap.size w W)
    (fun _ _ _ => False)
    (OwnFrom.and (Own.from (holdsRow_own w.heap.size w.heap.size 28 3 1 (fun (pre : List Int) => pre.length) (fun (pre : List Int) => pre.map (Value.int .i64)) (fun _ _ => True)) _) (ownFrom_below (Nat.le_refl _) (by simp; omega)))
    (fun _ _ _ _ _ hs _ _ => hs)
    ⟨⟨_, bO.alloc _, World.ownsRow_nil _ _ _ _, trivial⟩, hB0⟩
    (fun x => { tmps := #[.int .i64 p, undef, .slice none 0 0, .pointer (some ⟨w.heap.size, 0, none⟩), .int .i64 x, .int .i64 p, .func (.func 59) #[] #[.pointer (some ⟨w.heap.size + 1, 0, none⟩)], .int .i64 x, undef, undef, undef, undef, undef], defers := [] }) ?assign ?body ?done ?stop
  case assign =>
    intro l x W K hK
    gi_wp2
    exact hK
  case body =>
    rintro l pre x W ⟨⟨v, hv, hrow, _⟩, hB⟩ hlt
    have hc := hv.cell
    gi_wp2_with (gi_at_builtin; refine wpListIn_append_own _ rfl _ _ 28 rfl w.heap.size 3 i0 (.int .i64 0) 1 8 Try.underlying28 hi hz0 hz1 hz2 rfl (by decide) _ _ _ rfl (hrow.alloc _) ⟨W.heap.size, 0, none⟩ 1 1 [.int .i64 x] rfl rfl (cell_one_new _ _ _) (by simp [Value.oneCell']) (by unfold maxLen; omega) (by omega) (by have := hB.size; simp; omega) ?_; intro v' w1 hown' hgrow _; obtain ⟨g', cap', rfl⟩ := ownsRow_succ hown'; obtain ⟨hv1, hv2, hr2, hk2, hb2⟩ := hv.appended (by decide) hrow hB.size (Nat.le_refl _) hown' hgrow; have hc1 := hv1.cell; have hf1 := hv1.frozen)
    exact ⟨hk2.from _, hb2, ⟨_, hv2, by simpa using hr2, trivial⟩, hB.trans hb2⟩
  case done =>
    rintro D ys W hD rfl ⟨⟨v, hv, hrow, _⟩, hB⟩ hK
    have hc := hv.cell
    gi_wp2
    refine ⟨by simp, .inl ⟨_, _, rfl, run_takeDeferred hK, ?_⟩⟩
    refine ⟨_, results_tmp rfl _ _ _, v, rfl, ?_, hB.trans (belowK_b (w := w) (Nat.le_refl _) W D _ _ (by simp at hD; omega) hK rfl rfl)⟩
    rw [upOf_chain]
    exact ownsRow_putObj hrow _ hK rfl
  case stop =>
    rintro D c pre W _ _ h _
    exact h.elim

theorem iTreUp_any (p : Int) (w : World) :
    Calls Try.prog 19 #[.int .i64 p] w fun e w' => ∃ v, e = .returned v ∧ OwnI w.heap.size w' v (upOf p) ∧ Below w.heap.size w w' := callsIn_wide.1 (iTreUp_in 3 (by omega) p w)
#print axioms iTreUp_any
end Go.Proofs.Ytjmnfdfnndoffaa
