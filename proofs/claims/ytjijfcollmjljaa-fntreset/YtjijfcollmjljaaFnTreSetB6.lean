/-
  The laws' own helpers over rows of texts: how great one is, a copy of one, whether two are the same.
-/
import Derived.Test.YtjijfcollmjljaaFnTreSetB5
import Derived.Test.YtjijfcollmjljaaFnTreSetB2
import Derived.RangeFuncNested
import Derived.RangeFuncBound
import Derived.RangeFuncCalls
import Derived.RangeFuncLeaves
import Derived.Shelf.Abstract
import Derived.Shelf.RegionOpen
import Derived.WalkKit
import Derived.OwnWalkIn
import Derived.TacticsInMore
import Derived.LoopNIn
import Derived.LoopIn
import Derived.Test.YtjijfcollmjljaaFnTreSetB4
import Derived.Test.YtjijfcollmjljaaFnTreSetB3
namespace Go.Proofs.Ytjijfcollmjljaa
open Go.RowKit

/-- The first k of some texts, and as many empty ones as there are more. -/
def part (xs : List ByteArray) (k : Nat) : List Value := (xs.take k).map Value.string ++ List.replicate (xs.length - k) (Value.string ⟨#[]⟩)
theorem part_zero (xs : List ByteArray) : part xs 0 = List.replicate xs.length (Value.string ⟨#[]⟩) := by unfold part; simp
theorem part_all (xs : List ByteArray) : part xs xs.length = xs.map Value.string := by unfold part; simp
theorem part_set (xs : List ByteArray) (k : Nat) (h : k < xs.length) : (part xs k).set k (.string (xs.getD k ByteArray.empty)) = part xs (k + 1) := by
  unfold part
  apply List.ext_getElem?
  intro i
  rw [List.getElem?_set]
  simp only [List.length_append, List.length_map, List.length_take, List.length_replicate]
  by_cases hik : k = i
  · subst hik
    rw [if_pos rfl, if_pos (by omega), List.getElem?_append_left (by simp; omega)]
    simp [h]
  · rw [if_neg hik]
    by_cases hlt : i < k
    · rw [List.getElem?_append_left (by simp; omega), List.getElem?_append_left (by simp; omega)]
      simp [hlt, show i < k + 1 by omega]
    · rw [List.getElem?_append_right (by simp; omega), List.getElem?_append_right (by simp; omega)]
      simp only [List.length_map, List.length_take, List.getElem?_replicate]
      congr 1
      simp
      omega

theorem part_at (xs : List ByteArray) (k : Nat) (h : k < xs.length) : (part xs k)[k]? = some (.string ⟨#[]⟩) := by
  unfold part
  rw [List.getElem?_append_right (by simp; omega)]
  simp only [List.length_map, List.length_take, List.getElem?_replicate]
  rw [if_pos (by omega)]

theorem info_str' : (Try.prog.info? 9).map (fun i => (i.zero, i.size, i.bytes)) = some (some (.string ⟨#[]⟩), 1, 16) := by kernel_rfl

end Go.Proofs.Ytjijfcollmjljaa
/-
  The program's copy of names.
-/
namespace Go.Proofs.Ytjijfcollmjljaa
open Go.RowKit

set_option maxHeartbeats 2000000 in
theorem cloneNames_any (v : Value) (xs : List ByteArray) (w : World) (h : SRow w v xs) (hl : xs.length ≤ 1048576) (hy : ∀ x ∈ xs, x.size ≤ 1000000) :
    Calls Try.prog 38 #[v] w fun e w' => ∃ v' : Value, e = .returned v' ∧ w'.ownsRow w.heap.size 9 1 v' xs.length (xs.map Value.string) ∧ Below w.heap.size w w' := by
  obtain ⟨ao, cap, rfl, h1, h2, hc⟩ := h.form
  have hR := hide h
  unfold maxLen at h2
  have HY := hide hy
  clear h hc hy
  obtain ⟨i0, hi, hz0, hz1, hz2⟩ := info_parts info_str'
  have hI := hide (And.intro hi (And.intro hz0 (And.intro hz1 hz2)))
  have hB2 : Hid (i0.bytes * xs.length ≤ 281474976710656) := by show _ ≤ _; rw [hz2]; omega
  clear hi hz0 hz1 hz2
  go_enter Try.func38, Try.ntmps38
  go_wp2_with (at_make; refine wpList_make_full _ rfl _ _ 23 rfl w.heap.size 9 i0 (.string ⟨#[]⟩) 1 Try.underlying23 (unhide hI).1 (unhide hI).2.1 (unhide hI).2.2.1 _ _ _ _ xs.length rfl rfl rfl rfl (unhide hB2) (by unfold maxLen; omega) (Nat.le_refl _) ?_)
  intro w1 hown hgrow
  have hO1 : Hid (w1.ownsRow w.heap.size 9 1 (.slice (some ⟨w.heap.size, 0, none⟩) xs.length xs.length) xs.length (part xs 0)) := by
    rw [part_zero]
    have e : (madeCells #[Value.string ⟨#[]⟩] xs.length).toList = List.replicate xs.length (Value.string ⟨#[]⟩) := by
      simp [madeCells, Nat.mod_one, List.map_const']
    rw [← e]
    exact hown
  have hL1 : Hid (Below w.heap.size w w1) := (Below.refl _ _).grown hgrow (Nat.le_refl _) (fun k hk => by cases hk)
  clear hown hgrow
  go_wp2_with fail
  go_loopw [11] (fun i wr => ∃ k : Nat, k ≤ xs.length ∧ i = .int .i64 (k : Int) ∧ Hid (wr.ownsRow w.heap.size 9 1 (.slice (some ⟨w.heap.size, 0, none⟩) xs.length xs.length) xs.length (part xs k)) ∧ Hid (Below w.heap.size w wr)) (fun i _ => xs.length - (intOf i).toNat)
  case atStart => exact ⟨0, by omega, rfl, hO1, hL1⟩
  case round =>
    clear hO1 hL1
    obtain ⟨k, hk, rfl, hO, hL⟩ := hrel
    by_cases hlt : k < xs.length
    · have hlt2 : (k : Int) < (xs.length : Int) := by omega
      obtain ⟨ao', c1, q1, _, _, q2⟩ := (SRow.below (unhide hR) (unhide hL)).form
      simp only [Value.slice.injEq] at q1
      obtain ⟨rfl, _, rfl⟩ := q1
      obtain ⟨a, rfl, hck⟩ := q2 k hlt
      clear q2
      have i3 : IntKind.i64.wrap ((k : Int) + 1) = (k : Int) + 1 := by simp [IntKind.wrap, IntKind.bits, IntKind.signed]; omega
      have hY : Hid ((xs.getD k ByteArray.empty).size ≤ 1000000) := HY.out _ (getD_mem hlt)
      have hps := hide (part_set xs k hlt)
      generalize xs.getD k ByteArray.empty = y at hck hY hps
      have hle := hL.out.size
      go_wp2_with fail
      refine (clone_any y _ hY.out).mono ?_
      rintro e w2 ⟨rfl, hb2⟩
      have hO2 := own_below' (unhide hO) hb2
      have hL2 := (unhide hL).trans (hb2.mono hle)
      have hle2 := hL2.size
      have hfz := hO2.frozenAt k
      have hcell : w2.cell? ⟨w.heap.size, k, none⟩ = some (.string ⟨#[]⟩) := (hO2.cellAt k (by omega)).trans (part_at xs k hlt)
      have hS1 := hO2.stored k (.string y)
      rw [hps.out] at hS1
      have hS2 := hide hS1
      have hL3 := hide hL2
      clear hS1 hO2 hL2 hb2 hck
      go_wp2_with fail
      go_roundw
      case rel => exact ⟨k + 1, by omega, by simp, hS2.out.1, (unhide hL3).grown hS2.out.2 hle2 (fun j hj => by cases hj; exact Nat.le_refl _)⟩
      case measure => simp [intOf]; omega
    · have hlt2 : decide ((k : Int) < (xs.length : Int)) = false := by simp; omega
      have hkn : k = xs.length := by omega
      subst hkn
      rw [part_all] at hO
      go_wp2_with fail
      go_ret
      exact ⟨_, rfl, unhide hO, unhide hL⟩
end Go.Proofs.Ytjijfcollmjljaa
/-
  The program's iterators: upward, above.
-/
namespace Go.Proofs.Ytjijfcollmjljaa
open Go.RowKit Go.Shelf
attribute [local go_sem] Oper.semAt_some

set_option maxRecDepth 100000 in
set_option maxHeartbeats 1000000 in
theorem upward1_in (n : Nat) (hn : 1 ≤ n) (l Bn n₀ : Nat) (p : Int) (J Jx : List Int → World → Prop)
    (hY : ∀ pre x W, J pre W → pre.length < (chainOf p).length → YieldAt Fence.wide (n - 1) Try.prog l #[.int .i64 x] W fun e W' =>
      (e = .returned (.bool true) ∧ J (pre ++ [x]) W' ∧ Below n₀ W W') ∨ (e = .returned (.bool false) ∧ Jx (pre ++ [x]) W'))
    (W : World) (hBn : W.cell? ⟨Bn, 0, none⟩ = some (.int .i64 p)) (h0 : J [] W) :
    CallsIn Fence.wide n Try.prog 59 #[.func (.yield l) #[] #[], .pointer (some ⟨Bn, 0, none⟩)] W fun e W' => (∃ v, e = .returned v) ∧
      ((∃ ys, ys = chainOf p ∧ J ys W') ∨ (∃ pre, pre <+: chainOf p ∧ Jx pre W')) := by
  refine callsIn_of_wp Try.func59 rfl trivial ?_ rfl
  simp only [Try.ntmps59, List.size_toArray, List.length_cons, List.length_nil, Nat.reduceAdd, Nat.reduceSub, Array.replicate_succ, Array.replicate_zero, List.push_toArray, List.append_toArray, List.nil_append, List.cons_append]
  gi_wp2
  gi_loopw [3] (fun q wr => ∃ (pre : List Int) (x : Int), q = .int .i64 x ∧ chainOf p = pre ++ chainOf x ∧ J pre wr)
    (fun q _ => (intOf q + 1).toNat)
  case atStart => exact ⟨[], p, rfl, rfl, h0⟩
  case round =>
    obtain ⟨pre, x, rfl, hx, hJs⟩ := hrel
    by_cases ht : 0 ≤ x ∧ x ≤ 14
    · have hc := chain_cons x ht
      obtain ⟨fn, tmps, assign, body, hy, hR⟩ := hY pre x wr hJs (by rw [hx, hc]; simp)
      have hh := hide ht
      gi_wp2_with (refine ⟨trivial, ?_⟩; gi_at_call 60; refine (callsIn_wide.2 (isThere_yes x _ hh.out.1 (by have := hh.out; omega))).mono ?_; rintro e w' ⟨rfl, rfl⟩)
      refine hR.mono ?_
      clear hR hy
      rintro e W3 (⟨rfl, hJ3, hk3⟩ | ⟨rfl, hJx3⟩)
      · gi_wp2_with (refine ⟨trivial, ?_⟩; gi_at_call 61; refine (callsIn_wide.2 (over_any x _)).mono ?_; rintro e w' ⟨rfl, rfl⟩)
        go_roundw
        case rel => exact ⟨pre ++ [x], overOf x, rfl, by rw [hx, hc]; simp, hJ3⟩
        case measure => have := over_lt x ht.1; simp [intOf]; omega
      · gi_wp2
        go_end0
        exact ⟨⟨_, rfl⟩, .inr ⟨pre ++ [x], ⟨chainOf (overOf x), by rw [hx, hc]; simp⟩, hJx3⟩⟩
    · have hc := chain_nil x ht
      have hh := hide ht
      gi_wp2_with (refine ⟨trivial, ?_⟩; gi_at_call 60; refine (callsIn_wide.2 (isThere_no x _ (by have := hh.out; omega))).mono ?_; rintro e w' ⟨rfl, rfl⟩)
      refine ⟨fun _ h => (by cases h), ?_⟩
      gi_wp2
      go_end0
      exact ⟨⟨_, rfl⟩, .inl ⟨pre, by rw [hx, hc]; simp, hJs⟩⟩

set_option maxHeartbeats 1000000 in
theorem upward_in (n : Nat) (p : Int) (w : World) :
    CallsIn Fence.wide n Try.prog 40 #[.int .i64 p] w fun e w' => e = .returned (.func (.func 59) #[] #[.pointer (some ⟨w.heap.size, 0, none⟩)]) ∧ w' = w.alloc (.cells #[.int .i64 p] 57) := by
  refine callsIn_of_wp Try.func40 rfl trivial ?_ rfl
  simp only [Try.ntmps40, List.size_toArray, List.length_cons, List.length_nil, Nat.reduceAdd, Nat.reduceSub, Array.replicate_succ, Array.replicate_zero, List.push_toArray, List.append_toArray, List.nil_append, List.cons_append]
  gi_wp2
  go_ret
  exact ⟨rfl, rfl⟩

set_option maxHeartbeats 1000000 in
theorem above_in (n : Nat) (hn : 1 ≤ n) (p : Int) (w : World) :
    CallsIn Fence.wide n Try.prog 46 #[.int .i64 p] w fun e w' => e = .returned (.func (.func 59) #[] #[.pointer (some ⟨w.heap.size, 0, none⟩)]) ∧ w' = w.alloc (.cells #[.int .i64 (overOf p)] 57) := by
  refine callsIn_of_wp Try.func46 rfl trivial ?_ rfl
  simp only [Try.ntmps46, List.size_toArray, List.length_cons, List.length_nil, Nat.reduceAdd, Nat.reduceSub, Array.replicate_succ, Array.replicate_zero, List.push_toArray, List.append_toArray, List.nil_append, List.cons_append]
  gi_wp2_with (first | (refine ⟨trivial, ?_⟩; gi_at_call 61; refine (callsIn_wide.2 (over_any p _)).mono ?_; rintro e w' ⟨rfl, rfl⟩) | (refine ⟨trivial, ?_⟩; gi_at_call 40; refine (upward_in _ _ _).mono ?_; rintro e w' ⟨rfl, rfl⟩))
  go_ret
  exact ⟨rfl, rfl⟩

/-- What upward hands back tells a place, and all above it; or, where a round says 'no more', the first of these. -/
theorem upward_stops (n : Nat) (hn : 1 ≤ n) (Bn n₀ : Nat) (p : Int) (w : World) (hBn : Bn < w.heap.size) (hc : w.cell? ⟨Bn, 0, none⟩ = some (.int .i64 p)) :
    SeqStopsK Fence.wide n Try.prog 59 #[.pointer (some ⟨Bn, 0, none⟩)] (fun x : Int => #[Value.int .i64 x]) (Below n₀) (fun ys => ys = chainOf p) (fun pre => pre <+: chainOf p) (chainOf p).length w := fun l J Jx W hW _ _ hY h0 =>
  upward1_in n hn l Bn n₀ p J Jx hY W ((hW.cell (p := ⟨Bn, 0, none⟩) hBn).trans hc) h0
#print axioms upward_stops
end Go.Proofs.Ytjijfcollmjljaa
/-
  The program's iterator upward, told of places that are there.
-/
namespace Go.Proofs.Ytjijfcollmjljaa
open Go.RowKit Go.Shelf
attribute [local go_sem] Oper.semAt_some

/-- A place, and all above it, as places that are there. -/
def chainT (k : Fin 15) : List (Fin 15) := k :: (ups k.val).map (fun j => Fin.ofNat 15 j)
theorem chainT_val : ∀ k : Fin 15, (chainT k).map (·.val) = k.val :: ups k.val := by decide
theorem chainT_zero : chainT 0 = [0] := by decide
theorem chainT_step : ∀ k : Fin 15, 0 < k.val → chainT k = k :: chainT (Fin.ofNat 15 ((k.val - 1) / 2)) := by decide
theorem chainT_len : ∀ k : Fin 15, (chainT k).length ≤ 4 := by decide
def chainF (p : Int) : List (Fin 15) := if h : 0 ≤ p ∧ p ≤ 14 then chainT ⟨p.toNat, by omega⟩ else []
theorem chainF_nil (p : Int) (h : ¬ (0 ≤ p ∧ p ≤ 14)) : chainF p = [] := by unfold chainF; rw [dif_neg h]
theorem chainF_nat (k : Nat) (h : k < 15) : chainF (k : Int) = chainT ⟨k, h⟩ := by unfold chainF; rw [dif_pos (by omega)]; rfl
theorem chainF_cons (k : Nat) (h : k < 15) : chainF (k : Int) = ⟨k, h⟩ :: chainF (overOf (k : Int)) := by
  rw [chainF_nat k h]
  by_cases h0 : 0 < k
  · have e : overOf (k : Int) = (((k - 1) / 2 : Nat) : Int) := by unfold overOf; rw [if_pos (by omega)]; omega
    rw [e, chainF_nat _ (by omega), chainT_step ⟨k, h⟩ h0]
    congr 2
    apply Fin.ext
    show ((k - 1) / 2) % 15 = (k - 1) / 2
    omega
  · obtain rfl : k = 0 := by omega
    rfl

set_option maxRecDepth 100000 in
set_option maxHeartbeats 1000000 in
theorem upwardF_in (n : Nat) (hn : 1 ≤ n) (l Bn n₀ : Nat) (p : Int) (J Jx : List (Fin 15) → World → Prop)
    (hY : ∀ pre (x : Fin 15) W, J pre W → pre.length < (chainF p).length → YieldAt Fence.wide (n - 1) Try.prog l #[.int .i64 ((x.val : Nat) : Int)] W fun e W' =>
      (e = .returned (.bool true) ∧ J (pre ++ [x]) W' ∧ Below n₀ W W') ∨ (e = .returned (.bool false) ∧ Jx (pre ++ [x]) W'))
    (W : World) (hBn : W.cell? ⟨Bn, 0, none⟩ = some (.int .i64 p)) (h0 : J [] W) :
    CallsIn Fence.wide n Try.prog 59 #[.func (.yield l) #[] #[], .pointer (some ⟨Bn, 0, none⟩)] W fun e W' => (∃ v, e = .returned v) ∧
      ((∃ ys, ys = chainF p ∧ J ys W') ∨ (∃ pre, pre <+: chainF p ∧ Jx pre W')) := by
  refine callsIn_of_wp Try.func59 rfl trivial ?_ rfl
  simp only [Try.ntmps59, List.size_toArray, List.length_cons, List.length_nil, Nat.reduceAdd, Nat.reduceSub, Array.replicate_succ, Array.replicate_zero, List.push_toArray, List.append_toArray, List.nil_append, List.cons_append]
  gi_wp2
  gi_loopw [3] (fun q wr => ∃ (pre : List (Fin 15)) (x : Int), q = .int .i64 x ∧ chainF p = pre ++ chainF x ∧ J pre wr)
    (fun q _ => (intOf q + 1).toNat)
  case atStart => exact ⟨[], p, rfl, rfl, h0⟩
  case round =>
    obtain ⟨pre, x, rfl, hx, hJs⟩ := hrel
    by_cases ht : 0 ≤ x ∧ x ≤ 14
    · obtain ⟨k, rfl⟩ : ∃ k : Nat, x = (k : Int) := ⟨x.toNat, by omega⟩
      have hk : k < 15 := by omega
      have hc := chainF_cons k hk
      obtain ⟨fn, tmps, assign, body, hy, hR⟩ := hY pre ⟨k, hk⟩ wr hJs (by rw [hx, hc]; simp)
      dsimp only at hy
      have hh := hide ht
      gi_wp2_with (refine ⟨trivial, ?_⟩; gi_at_call 60; refine (callsIn_wide.2 (isThere_yes (k : Int) _ hh.out.1 (by have := hh.out; omega))).mono ?_; rintro e w' ⟨rfl, rfl⟩)
      refine hR.mono ?_
      clear hR hy
      rintro e W3 (⟨rfl, hJ3, hk3⟩ | ⟨rfl, hJx3⟩)
      · gi_wp2_with (refine ⟨trivial, ?_⟩; gi_at_call 61; refine (callsIn_wide.2 (over_any (k : Int) _)).mono ?_; rintro e w' ⟨rfl, rfl⟩)
        go_roundw
        case rel => exact ⟨pre ++ [⟨k, hk⟩], overOf (k : Int), rfl, by rw [hx, hc]; simp, hJ3⟩
        case measure => have := over_lt (k : Int) ht.1; simp [intOf]; omega
      · gi_wp2
        go_end0
        exact ⟨⟨_, rfl⟩, .inr ⟨pre ++ [⟨k, hk⟩], ⟨chainF (overOf (k : Int)), by rw [hx, hc]; simp⟩, hJx3⟩⟩
    · have hc := chainF_nil x ht
      have hh := hide ht
      gi_wp2_with (refine ⟨trivial, ?_⟩; gi_at_call 60; refine (callsIn_wide.2 (isThere_no x _ (by have := hh.out; omega))).mono ?_; rintro e w' ⟨rfl, rfl⟩)
      refine ⟨fun _ h => (by cases h), ?_⟩
      gi_wp2
      go_end0
      exact ⟨⟨_, rfl⟩, .inl ⟨pre, by rw [hx, hc]; simp, hJs⟩⟩

theorem upwardF_stops (n : Nat) (hn : 1 ≤ n) (Bn n₀ : Nat) (p : Int) (w : World) (hBn : Bn < w.heap.size) (hc : w.cell? ⟨Bn, 0, none⟩ = some (.int .i64 p)) :
    SeqStopsK Fence.wide n Try.prog 59 #[.pointer (some ⟨Bn, 0, none⟩)] (fun x : Fin 15 => #[Value.int .i64 ((x.val : Nat) : Int)]) (Below n₀) (fun ys => ys = chainF p) (fun pre => pre <+: chainF p) (chainF p).length w := fun l J Jx W hW _ _ hY h0 =>
  upwardF_in n hn l Bn n₀ p J Jx hY W ((hW.cell (p := ⟨Bn, 0, none⟩) hBn).trans hc) h0
#print axioms upwardF_stops
end Go.Proofs.Ytjijfcollmjljaa
/-
  The program's TreClear.
-/
namespace Go.Proofs.Ytjijfcollmjljaa
open Go.RowKit Go.Shelf
attribute [local go_sem] Oper.semAt_some

def vals (ps : List (Fin 15)) : List Nat := ps.map (·.val)
theorem vals_snoc (ps : List (Fin 15)) (x : Fin 15) : vals (ps ++ [x]) = vals ps ++ [x.val] := by simp [vals]
theorem vals_chain (k : Nat) (h : k < 8) : vals (chainF ((7 + k : Nat) : Int)) = (7 + k) :: ups (7 + k) := by
  rw [chainF_nat (7 + k) (by omega)]
  exact chainT_val _

set_option maxRecDepth 100000 in
set_option maxHeartbeats 2000000 in
theorem iTreClear_no (v : Value) (xs : List ByteArray) (p : Int) (w : World) (h : SRow w v xs) (hx : ∀ x ∈ xs, x.size ≤ maxLen) (hno : ¬ (treOk xs = true ∧ 0 ≤ p ∧ p ≤ 7)) :
    Calls Try.prog 10 #[.agg #[v], .int .i64 p] w fun e w' => ∃ u, e = .returned (.agg #[u]) ∧ Own w.heap.size w' u [] ∧ Below w.heap.size w w' := by
  obtain ⟨ao, cap, rfl, h1, h2, _⟩ := h.form
  have HX := hide hx
  have hR := hide h
  have HN := hide hno
  clear h hx hno
  go_enter Try.func10, Try.ntmps10
  go_wp2_with fail
  refine (iTreOk_any _ xs _ (((unhide hR).below ((Below.refl _ _).alloc (Nat.le_refl _) _)).below ((Below.refl _ _).alloc (Nat.le_refl _) _)) (unhide HX)).mono ?_
  rintro e w1 ⟨rfl, hb1⟩
  have B1 := hide (box_below (Boxed.new (w.alloc (.cells #[.slice ao xs.length cap] 25)) 25 (.slice none 0 0)) hb1)
  rw [World.size_alloc] at B1
  have HB1 : Hid (Below w.heap.size w w1) := (((Below.refl _ _).alloc (Nat.le_refl _) _).alloc (by simp) _).trans (hb1.mono (by simp; omega))
  have HB2 := hide (below_box (unhide HB1) (b := w.heap.size + 1) (by omega) (.slice none 0 0))
  have l1 := (unhide B1).cell
  have l2 := (unhide B1).frozen
  have l3 := ((unhide B1).set (.slice none 0 0)).cell
  clear hb1
  cases hk : treOk xs with
  | false =>
    clear hk
    go_wp2_with fail
    refine bodyPost_ret (v := .agg #[.slice none 0 0]) (by simp [results, Try.results10, go_sem, l3]) rfl ⟨_, rfl, World.ownsRow_nil _ _ _ _, unhide HB2⟩
  | true =>
    have hp : p < 0 ∨ 8 ≤ p := by
      have q := HN.out
      rw [hk] at q
      simp at q
      omega
    clear hk
    go_wp2_with fail
    refine (isOne_no _ _ hp).mono ?_
    rintro e wq ⟨rfl, rfl⟩
    go_wp2_with fail
    refine bodyPost_ret (v := .agg #[.slice none 0 0]) (by simp [results, Try.results10, go_sem, l3]) rfl ⟨_, rfl, World.ownsRow_nil _ _ _ _, unhide HB2⟩

set_option maxRecDepth 100000 in
set_option maxHeartbeats 8000000 in
theorem iTreClear_ok (v : Value) (xs : List ByteArray) (k : Nat) (hk : k < 8) (w : World) (h : SRow w v xs) (hok : treOk xs = true) (n : Nat) (hn : 4 ≤ n) :
    CallsIn Fence.wide n Try.prog 10 #[.agg #[v], .int .i64 (k : Int)] w fun e w' => ∃ u, e = .returned (.agg #[u]) ∧ Own w.heap.size w' u (clearOf xs k) ∧ Below w.heap.size w w' := by
  have hl : xs.length = 15 := (treOk_iff.1 hok).1
  have hsm := treOk_small hok
  obtain ⟨ao, cap, rfl, h1, h2, _⟩ := h.form
  rw [hl] at h ⊢
  have h1' : 1 ≤ n := by omega
  have h2' : 1 ≤ n - 1 := by omega
  have hro : Fence.wide.round = none := rfl
  have HSM := hide hsm
  have HOK := hide hok
  have hR := hide h
  have hLf : Hid (leafOf (k : Int) = ((7 + k : Nat) : Int)) := by show _ = _; unfold leafOf; rw [if_pos (by omega)]; omega
  have HL := hide hl
  clear h hok hsm h1 h2 hl
  refine callsIn_of_wp_marks Try.func10 rfl trivial ?_ hro
  simp only [Try.ntmps10, List.size_toArray, List.length_cons, List.length_nil, Nat.reduceAdd, Nat.reduceSub, Array.replicate_succ, Array.replicate_zero, List.push_toArray, List.append_toArray, List.nil_append, List.cons_append]
  gi_wp2_with (first
    | (refine ⟨trivial, ?_⟩; gi_at_call 20; refine (callsIn_wide.2 (iTreOk_any _ xs _ (((unhide hR).below ((Below.refl _ _).alloc (Nat.le_refl _) _)).below ((Below.refl _ _).alloc (Nat.le_refl _) _)) (fun x hx => Nat.le_trans (HSM.out x hx) (by unfold maxLen; omega)))).mono ?_; rw [HOK.out]; rintro e w1 ⟨rfl, hb1⟩; have A1 := box_below ((Boxed.new w 25 (.slice ao 15 cap)).alloc (.cells #[.slice none 0 0] 25)) hb1; have B1 := box_below (Boxed.new (w.alloc (.cells #[.slice ao 15 cap] 25)) 25 (.slice none 0 0)) hb1; rw [World.size_alloc] at B1; have HA1 := A1.cell; have HB1 : Hid (Below w.heap.size w w1) := (((Below.refl _ _).alloc (Nat.le_refl _) _).alloc (by simp) _).trans (hb1.mono (by simp; omega)); have A1h := hide A1; have B1h := hide B1; have hs1 := hb1.size; rw [World.size_alloc, World.size_alloc] at hs1; clear hb1 A1 B1)
    | (refine ⟨trivial, ?_⟩; gi_at_call 36; refine (callsIn_wide.2 (isOne_yes (k : Int) _ (by omega) (by omega))).mono ?_; rintro e wq ⟨rfl, rfl⟩)
    | (refine ⟨trivial, ?_⟩; gi_at_call 38; refine (callsIn_wide.2 (cloneNames_any _ xs _ ((unhide hR).below (unhide HB1)) (by have := HL.out; omega) (fun x hx => Nat.le_trans (HSM.out x hx) (by omega)))).mono ?_; rw [HL.out]; rintro e w2 ⟨v2, rfl, ho2, hb2⟩; obtain ⟨g, c2, rfl, hg1, hg2, hg3, hg4⟩ := row15 ho2; have O2 := hide ho2; have HB2 := hide (HB1.out.trans (hb2.mono HB1.out.size)); have B2h := hide (box_below (unhide B1h) hb2); have hs2 := hb2.size; clear ho2 hb2 HA1)
    | (refine ⟨trivial, ?_⟩; gi_at_call 39; refine (callsIn_wide.2 (placeOf_any (k : Int) _)).mono ?_; rw [hLf.out]; rintro e wq ⟨rfl, rfl⟩)
    | (refine ⟨trivial, ?_⟩; gi_at_call 40; refine (upward_in _ _ _).mono ?_; rintro e wq ⟨rfl, rfl⟩))
  have bK := (Boxed.new w2 23 (.slice (some ⟨g, 0, none⟩) 15 c2)).alloc (.cells #[.int .i64 (7 + (k : Int))] 57)
  have bN := Boxed.new (w2.alloc (.cells #[.slice (some ⟨g, 0, none⟩) 15 c2] 23)) 57 (.int .i64 (7 + (k : Int)))
  have bR := ((unhide B2h).alloc (.cells #[.slice (some ⟨g, 0, none⟩) 15 c2] 23)).alloc (.cells #[.int .i64 (7 + (k : Int))] 57)
  rw [World.size_alloc] at bN
  have hO3 := own_below' (own_below' (unhide O2) ((Below.refl _ _).alloc (Nat.le_refl _) (.cells #[.slice (some ⟨g, 0, none⟩) 15 c2] 23))) ((Below.refl _ _).alloc (Nat.le_refl _) (.cells #[.int .i64 (7 + (k : Int))] 57))
  have hB3 : Below w.heap.size w ((w2.alloc (.cells #[.slice (some ⟨g, 0, none⟩) 15 c2] 23)).alloc (.cells #[.int .i64 (7 + (k : Int))] 57)) := ((unhide HB2).alloc HB2.out.size _).alloc (by simp; have := HB2.out.size; omega) _
  have hsz : ((w2.alloc (.cells #[.slice (some ⟨g, 0, none⟩) 15 c2] 23)).alloc (.cells #[.int .i64 (7 + (k : Int))] 57)).heap.size = w2.heap.size + 2 := by simp
  have hw2 := HB2.out.size
  have hw1 := HB1.out.size
  obtain ⟨W0, hW0⟩ : ∃ W0, (w2.alloc (.cells #[.slice (some ⟨g, 0, none⟩) 15 c2] 23)).alloc (.cells #[.int .i64 (7 + (k : Int))] 57) = W0 := ⟨_, rfl⟩
  rw [hW0] at bK bN bR hO3 hB3 hsz ⊢
  clear hW0
  refine wpIn_rangeFunc_ownG hro h1' (gf := 59) (lb := #[.pointer (some ⟨w2.heap.size + 1, 0, none⟩)]) rfl trivial (enters_of Try.func59 (by kernel_rfl) rfl)
    (upwardF_stops (n - 1) h2' (w2.heap.size + 1) w.heap.size (7 + (k : Int)) W0 (by omega) bN.cell) belowK_t (belowK_b (by omega)) (Below.refl _ _) (fun _ => rfl)
    (fun pre W => ((∃ u, Boxed W w2.heap.size 23 u ∧ W.ownsRow wq.heap.size 9 1 u 15 ((wipe xs (vals pre)).map Value.string) ∧ u = .slice (some ⟨g, 0, none⟩) 15 c2) ∧ Boxed W (w.heap.size + 1) 25 (.slice none 0 0)) ∧ Below w.heap.size w W)
    (fun _ _ _ => False)
    (OwnFrom.and (OwnFrom.and (Own.from (holdsRow_own wq.heap.size w2.heap.size 23 9 1 (fun (_ : List (Fin 15)) => 15) (fun (pre : List (Fin 15)) => (wipe xs (vals pre)).map Value.string) (fun _ u => u = .slice (some ⟨g, 0, none⟩) 15 c2)) _) (Own.from (boxed_own _ _ _) _)) (ownFrom_below (Nat.le_refl _) (by omega)))
    (fun _ _ _ _ _ hs _ _ => hs)
    ⟨⟨⟨_, bK, hO3, rfl⟩, bR⟩, hB3⟩
    (fun x => { tmps := #[.agg #[.slice ao 15 cap], .int .i64 (k : Int), .pointer (some ⟨w.heap.size, 0, none⟩), undef, .pointer (some ⟨w.heap.size + 1, 0, none⟩), .pointer (some ⟨w2.heap.size, 0, none⟩), .int .i64 ((x.val : Nat) : Int), .agg #[.slice ao 15 cap], .bool true, .bool false, .bool false, .int .i64 (k : Int), .bool true, .bool false, .bool false, undef, .pointer (some ⟨w.heap.size, 0, none⟩), .slice ao 15 cap, .slice (some ⟨g, 0, none⟩) 15 c2, .int .i64 (k : Int), .int .i64 (7 + (k : Int)), .func (.func 59) #[] #[.pointer (some ⟨w2.heap.size + 1, 0, none⟩)], .int .i64 ((x.val : Nat) : Int), undef, undef, undef, undef, undef], defers := [] }) ?assign ?body ?done ?stop
  case assign =>
    intro l x W K hK
    gi_wp2
    exact hK
  case body =>
    rintro l pre x W ⟨⟨⟨u, hu, hrow, rfl⟩, hbR⟩, hB⟩ hlt
    have hj := x.isLt
    obtain ⟨s1, s2, s3, s4⟩ := row15_set (by rw [wipe_len]; exact HL.out) hrow x.val hj ByteArray.empty
    have hc := hu.cell
    have j1 : ((x.val : Nat) : Int) < 15 := by omega
    have S3 := hide s3
    have S4 := hide s4
    have HU2 : Hid (Boxed (W.setCell ⟨g, x.val, none⟩ (.string ByteArray.empty)) w2.heap.size 23 (.slice (some ⟨g, 0, none⟩) 15 c2)) := box_grown hu hrow (by decide) s4
    have HR2 : Hid (Boxed (W.setCell ⟨g, x.val, none⟩ (.string ByteArray.empty)) (w.heap.size + 1) 25 (.slice none 0 0)) := box_grown hbR hrow (by decide) s4
    have HW : Hid (wipe xs (vals (pre ++ [x])) = (wipe xs (vals pre)).set x.val ByteArray.empty) := by show _ = _; rw [vals_snoc, wipe_snoc]
    have HBW : Hid (Below w.heap.size W (W.setCell ⟨g, x.val, none⟩ (.string ByteArray.empty))) := (Below.refl _ _).setCell (p := ⟨g, x.val, none⟩) (by show w.heap.size ≤ g; omega) _
    clear s3 s4
    generalize (wipe xs (vals pre)).getD x.val ByteArray.empty = old at s1
    gi_wp2
    exact ⟨(KeepsOthers.setCell _ _ _).from _, unhide HBW, ⟨⟨_, unhide HU2, by rw [HW.out]; exact unhide S3, rfl⟩, unhide HR2⟩, hB.trans (unhide HBW)⟩
  case done =>
    rintro D ys W hD rfl ⟨⟨⟨u, hu, hrow, rfl⟩, hbR⟩, hB⟩ hK
    have hc := hu.cell
    have hc2 := hbR.cell
    have hc3 := hbR.frozen
    have HE : Hid (wipe xs (vals (chainF (7 + (k : Int)))) = clearOf xs k) := by
      show _ = _
      have q := vals_chain k hk
      rw [show (((7 + k : Nat) : Int)) = 7 + (k : Int) by omega] at q
      rw [q]
      rfl
    have R1 := row_box hrow hbR (by decide) (.slice (some ⟨g, 0, none⟩) 15 c2)
    gi_wp2
    have hK' := (KeepsOthers.setCell W ⟨w.heap.size + 1, 0, none⟩ (.slice (some ⟨g, 0, none⟩) 15 c2)).same D _ hK rfl
    refine ⟨by simp, .inl ⟨_, _, rfl, run_takeDeferred hK', ?_⟩⟩
    have hc5 := cell_kept (hbR.set (.slice (some ⟨g, 0, none⟩) 15 c2)).cell (grownBy_putObj' _ D (.deferred none)) (fun r e => by cases e; exact ⟨_, hK', rfl⟩)
    refine ⟨.agg #[.slice (some ⟨g, 0, none⟩) 15 c2], ?_, _, rfl, ?_, (hB.setCell (p := ⟨w.heap.size + 1, 0, none⟩) (by simp) _).trans (belowK_b (w := w) (Nat.le_refl _) _ D _ _ (by omega) hK' rfl rfl)⟩
    · simp [results, Try.f10, go_sem, hc5]
    · have q := ownsRow_putObj R1 (.deferred none) hK' rfl
      rw [HE.out] at q
      unfold Own
      rw [clearOf_len, HL.out]
      exact row_lowB q hw1
  case stop =>
    rintro D c pre W _ _ h _
    exact h.elim

theorem iTreClear_any (v : Value) (xs : List ByteArray) (p : Int) (w : World) (h : SRow w v xs) (hx : ∀ x ∈ xs, x.size ≤ maxLen) :
    Calls Try.prog 10 #[.agg #[v], .int .i64 p] w fun e w' => ∃ u, e = .returned (.agg #[u]) ∧ Own w.heap.size w' u (clrRes xs p) ∧ Below w.heap.size w w' := by
  by_cases hy : treOk xs = true ∧ 0 ≤ p ∧ p ≤ 7
  · obtain ⟨k, rfl⟩ : ∃ k : Nat, p = (k : Int) := ⟨p.toNat, by omega⟩
    rw [clrRes_yes hy.1 (by omega)]
    exact callsIn_wide.1 (iTreClear_ok v xs k (by omega) w h hy.1 4 (Nat.le_refl _))
  · rw [clrRes_no hy]
    exact iTreClear_no v xs p w h hx hy
#print axioms iTreClear_any
end Go.Proofs.Ytjijfcollmjljaa
/-
  Contracts of MakNext, MakKey and MakEpoch, the program's and the specification's.
-/
namespace Go.Proofs.Ytjijfcollmjljaa
open Go.RowKit

theorem cap_yes {x : ByteArray} (h : x.size ≤ 300) : cap x = x := by unfold cap; rw [if_pos h]
theorem cap_no {x : ByteArray} (h : 300 < x.size) : cap x = ⟨#[]⟩ := by unfold cap; rw [if_neg (by omega)]

theorem method_next (x : Value) (w : World) : (method 238 65 x "loop.example/keyward/impl.name").run Try.prog w = .ok (104, x) w := by kernel_rfl
theorem method_key (x : Value) (w : World) : (method 238 64 x "loop.example/keyward/impl.name").run Try.prog w = .ok (103, x) w := by kernel_rfl
theorem method_epoch (x : Value) (w : World) : (method 238 100 x "loop.example/keyward/impl.name").run Try.prog w = .ok (121, x) w := by kernel_rfl

set_option maxHeartbeats 400000 in
theorem nextName_any (s : ByteArray) (w : World) (hs : s.size ≤ 300) :
    Calls Try.prog 104 #[.agg #[.string s]] w fun e w' => e = .returned (.string (nextT s)) ∧ Below w.heap.size w w' := by
  go_enter Try.func104, Try.ntmps104
  go_wp2
  go_ret
  exact ⟨ret_str rfl, (Below.refl _ _).alloc (Nat.le_refl _) _⟩

set_option maxHeartbeats 400000 in
theorem keyName_any (s : ByteArray) (w : World) (hs : s.size ≤ 300) :
    Calls Try.prog 103 #[.agg #[.string s]] w fun e w' => e = .returned (.string (keyT s)) ∧ Below w.heap.size w w' := by
  go_enter Try.func103, Try.ntmps103
  go_wp2
  go_ret
  exact ⟨ret_str rfl, (Below.refl _ _).alloc (Nat.le_refl _) _⟩

set_option maxHeartbeats 400000 in
theorem epochName_any (a b : ByteArray) (w : World) (ha : a.size ≤ 300) (hb : b.size ≤ 300) :
    Calls Try.prog 121 #[.agg #[.string a, .string b]] w fun e w' => e = .returned (.string (epochT a b)) ∧ Below w.heap.size w w' := by
  go_enter Try.func121, Try.ntmps121
  go_wp2
  go_ret
  exact ⟨ret_str rfl, (Below.refl _ _).alloc (Nat.le_refl _) _⟩

set_option maxRecDepth 100000 in
set_option maxHeartbeats 400000 in
theorem nameOf_next (s : ByteArray) (w : World) (hs : s.size ≤ 300) :
    Calls Try.prog 48 #[.iface 65 (.agg #[.string s])] w fun e w' => e = .returned (.string (cap (nextT s))) ∧ Below w.heap.size w w' := by
  have hm := method_next
  have hz := next_size s
  by_cases hc : (nextT s).size ≤ 300
  · rw [cap_yes hc]
    have hd : decide ((300 : Int) < ((nextT s).size : Int)) = false := by simp; omega
    clear hz hc
    go_enter Try.func48, Try.ntmps48
    go_wp2_with (go_at_call 104; refine (nextName_any _ _ hs).mono ?_; rintro e w' ⟨rfl, hb⟩)
    go_ret
    exact ⟨rfl, hb⟩
  · rw [cap_no (by omega)]
    have hd : (300 : Int) < ((nextT s).size : Int) := by omega
    clear hz hc
    go_enter Try.func48, Try.ntmps48
    go_wp2_with (go_at_call 104; refine (nextName_any _ _ hs).mono ?_; rintro e w' ⟨rfl, hb⟩)
    go_ret
    exact ⟨rfl, hb⟩

set_option maxHeartbeats 400000 in
theorem iMakNext_any (s : ByteArray) (w : World) (hm : s.size ≤ maxLen) :
    Calls Try.prog 19 #[.string s] w fun e w' => e = .returned (.string (mkNext s)) ∧ Below w.heap.size w w' := by
  have M := hide hm
  clear hm
  cases hk : Kw.ok s with
  | false =>
    rw [show mkNext s = ⟨#[]⟩ by unfold mkNext; rw [if_neg (by rw [hk]; simp)]]
    have K := hide hk
    clear hk
    go_enter Try.func19, Try.ntmps19
    go_wp2_with fail
    refine (iSecOk_any s _ M.out).mono ?_
    rw [K.out]
    rintro e w1 ⟨rfl, hb1⟩
    go_wp2_with fail
    go_ret
    exact ⟨rfl, hb1⟩
  | true =>
    rw [show mkNext s = cap (nextT s) by unfold mkNext; rw [if_pos hk]]
    have hs := (ok_facts hk).1
    have K := hide hk
    clear hk
    go_enter Try.func19, Try.ntmps19
    go_wp2_with fail
    refine (iSecOk_any s _ M.out).mono ?_
    rw [K.out]
    rintro e w1 ⟨rfl, hb1⟩
    go_wp2_with fail
    refine (nameOf_next s _ hs).mono ?_
    rintro e w2 ⟨rfl, hb2⟩
    go_wp2_with fail
    go_ret
    exact ⟨rfl, hb1.trans (hb2.mono hb1.size)⟩

set_option maxHeartbeats 400000 in
theorem sMakNext_any (s : ByteArray) (w : World) (hm : s.size ≤ maxLen) :
    Calls Try.prog 65 #[.string s] w fun e w' => e = .returned (.string (mkNext s)) ∧ Below w.heap.size w w' := by
  have M := hide hm
  clear hm
  cases hk : Kw.ok s with
  | false =>
    rw [show mkNext s = ⟨#[]⟩ by unfold mkNext; rw [if_neg (by rw [hk]; simp)]]
    have K := hide hk
    clear hk
    go_enter Try.func65, Try.ntmps65
    go_wp2_with fail
    refine (sSecOk_any s _ M.out).mono ?_
    rw [K.out]
    rintro e w1 ⟨rfl, hb1⟩
    go_wp2_with fail
    go_ret
    exact ⟨rfl, hb1⟩
  | true =>
    have hz := next_size s
    have hs := (ok_facts hk).1
    rw [show mkNext s = only (nextT s) by unfold mkNext; rw [if_pos hk, only_cap (by omega) (len_next hk)]]
    have M2 : Hid ((nextT s).size ≤ maxLen) := by show _ ≤ maxLen; unfold maxLen; omega
    have K := hide hk
    clear hk hz
    go_enter Try.func65, Try.ntmps65
    go_wp2_with fail
    refine (sSecOk_any s _ M.out).mono ?_
    rw [K.out]
    rintro e w1 ⟨rfl, hb1⟩
    go_wp2_with fail
    refine (l1Ok_any (nextT s) _ M2.out).mono ?_
    rintro e w2 ⟨rfl, hb2⟩
    go_wp2_with fail
    go_ret
    exact ⟨rfl, hb1.trans (hb2.mono hb1.size)⟩
set_option maxRecDepth 100000 in
set_option maxHeartbeats 400000 in
theorem nameOf_key (s : ByteArray) (w : World) (hs : s.size ≤ 300) :
    Calls Try.prog 48 #[.iface 64 (.agg #[.string s])] w fun e w' => e = .returned (.string (cap (keyT s))) ∧ Below w.heap.size w w' := by
  have hm := method_key
  have hz := key_size s
  by_cases hc : (keyT s).size ≤ 300
  · rw [cap_yes hc]
    have hd : decide ((300 : Int) < ((keyT s).size : Int)) = false := by simp; omega
    clear hz hc
    go_enter Try.func48, Try.ntmps48
    go_wp2_with (go_at_call 103; refine (keyName_any _ _ hs).mono ?_; rintro e w' ⟨rfl, hb⟩)
    go_ret
    exact ⟨rfl, hb⟩
  · rw [cap_no (by omega)]
    have hd : (300 : Int) < ((keyT s).size : Int) := by omega
    clear hz hc
    go_enter Try.func48, Try.ntmps48
    go_wp2_with (go_at_call 103; refine (keyName_any _ _ hs).mono ?_; rintro e w' ⟨rfl, hb⟩)
    go_ret
    exact ⟨rfl, hb⟩

set_option maxHeartbeats 400000 in
theorem iMakKey_any (s : ByteArray) (w : World) (hm : s.size ≤ maxLen) :
    Calls Try.prog 18 #[.string s] w fun e w' => e = .returned (.string (mkKey s)) ∧ Below w.heap.size w w' := by
  have M := hide hm
  clear hm
  cases hk : Kw.ok s with
  | false =>
    rw [show mkKey s = ⟨#[]⟩ by unfold mkKey; rw [if_neg (by rw [hk]; simp)]]
    have K := hide hk
    clear hk
    go_enter Try.func18, Try.ntmps18
    go_wp2_with fail
    refine (iSecOk_any s _ M.out).mono ?_
    rw [K.out]
    rintro e w1 ⟨rfl, hb1⟩
    go_wp2_with fail
    go_ret
    exact ⟨rfl, hb1⟩
  | true =>
    rw [show mkKey s = cap (keyT s) by unfold mkKey; rw [if_pos hk]]
    have hs := (ok_facts hk).1
    have K := hide hk
    clear hk
    go_enter Try.func18, Try.ntmps18
    go_wp2_with fail
    refine (iSecOk_any s _ M.out).mono ?_
    rw [K.out]
    rintro e w1 ⟨rfl, hb1⟩
    go_wp2_with fail
    refine (nameOf_key s _ hs).mono ?_
    rintro e w2 ⟨rfl, hb2⟩
    go_wp2_with fail
    go_ret
    exact ⟨rfl, hb1.trans (hb2.mono hb1.size)⟩

set_option maxHeartbeats 400000 in
theorem sMakKey_any (s : ByteArray) (w : World) (hm : s.size ≤ maxLen) :
    Calls Try.prog 63 #[.string s] w fun e w' => e = .returned (.string (mkKey s)) ∧ Below w.heap.size w w' := by
  have M := hide hm
  clear hm
  cases hk : Kw.ok s with
  | false =>
    rw [show mkKey s = ⟨#[]⟩ by unfold mkKey; rw [if_neg (by rw [hk]; simp)]]
    have K := hide hk
    clear hk
    go_enter Try.func63, Try.ntmps63
    go_wp2_with fail
    refine (sSecOk_any s _ M.out).mono ?_
    rw [K.out]
    rintro e w1 ⟨rfl, hb1⟩
    go_wp2_with fail
    go_ret
    exact ⟨rfl, hb1⟩
  | true =>
    have hz := key_size s
    have hs := (ok_facts hk).1
    rw [show mkKey s = only (keyT s) by unfold mkKey; rw [if_pos hk, only_cap (by omega) (len_key hk)]]
    have M2 : Hid ((keyT s).size ≤ maxLen) := by show _ ≤ maxLen; unfold maxLen; omega
    have K := hide hk
    clear hk hz
    go_enter Try.func63, Try.ntmps63
    go_wp2_with fail
    refine (sSecOk_any s _ M.out).mono ?_
    rw [K.out]
    rintro e w1 ⟨rfl, hb1⟩
    go_wp2_with fail
    refine (l1Ok_any (keyT s) _ M2.out).mono ?_
    rintro e w2 ⟨rfl, hb2⟩
    go_wp2_with fail
    go_ret
    exact ⟨rfl, hb1.trans (hb2.mono hb1.size)⟩
set_option maxRecDepth 100000 in
set_option maxHeartbeats 400000 in
theorem nameOf_epoch (a b : ByteArray) (w : World) (ha : a.size ≤ 300) (hb : b.size ≤ 300) :
    Calls Try.prog 48 #[.iface 100 (.agg #[.string a, .string b])] w fun e w' => e = .returned (.string (cap (epochT a b))) ∧ Below w.heap.size w w' := by
  have hm := method_epoch
  have hz := epoch_size a b
  by_cases hc : (epochT a b).size ≤ 300
  · rw [cap_yes hc]
    have hd : decide ((300 : Int) < ((epochT a b).size : Int)) = false := by simp; omega
    clear hz hc
    go_enter Try.func48, Try.ntmps48
    go_wp2_with (go_at_call 121; refine (epochName_any _ _ _ ha hb).mono ?_; rintro e w' ⟨rfl, hb⟩)
    go_ret
    exact ⟨rfl, hb⟩
  · rw [cap_no (by omega)]
    have hd : (300 : Int) < ((epochT a b).size : Int) := by omega
    have hd2 : ((epochT a b).size : Int) ≤ 1000 := by omega
    clear hz hc
    go_enter Try.func48, Try.ntmps48
    go_wp2_with (go_at_call 121; refine (epochName_any _ _ _ ha hb).mono ?_; rintro e w' ⟨rfl, hb⟩)
    go_ret
    exact ⟨rfl, hb⟩

set_option maxHeartbeats 400000 in
theorem sMakEpoch_any (a b : ByteArray) (w : World) (hm : a.size ≤ maxLen) (hn : b.size ≤ maxLen) :
    Calls Try.prog 71 #[.string a, .string b] w fun e w' => e = .returned (.string (mkEpoch a b)) ∧ Below w.heap.size w w' := by
  have M := hide hm
  have N := hide hn
  clear hm hn
  cases hk : Kw.ok a with
  | false =>
    rw [show mkEpoch a b = ⟨#[]⟩ by unfold mkEpoch; rw [if_neg (by rw [hk]; simp)]]
    have K := hide hk
    clear hk
    go_enter Try.func71, Try.ntmps71
    go_wp2_with fail
    refine (sSecOk_any a _ M.out).mono ?_
    rw [K.out]
    rintro e w1 ⟨rfl, hb1⟩
    go_wp2_with fail
    go_ret
    exact ⟨rfl, hb1⟩
  | true =>
    cases hj : Kw.ok b with
    | false =>
      rw [show mkEpoch a b = ⟨#[]⟩ by unfold mkEpoch; rw [if_neg (by rw [hj]; simp)]]
      have K := hide hk
      have J := hide hj
      clear hk hj
      go_enter Try.func71, Try.ntmps71
      go_wp2_with fail
      refine (sSecOk_any a _ M.out).mono ?_
      rw [K.out]
      rintro e w1 ⟨rfl, hb1⟩
      go_wp2_with fail
      refine (sSecOk_any b _ N.out).mono ?_
      rw [J.out]
      rintro e w2 ⟨rfl, hb2⟩
      go_wp2_with fail
      go_ret
      exact ⟨rfl, hb1.trans (hb2.mono hb1.size)⟩
    | true =>
      have ha := (ok_facts hk).1
      have hb := (ok_facts hj).1
      have hz := epoch_size a b
      rw [show mkEpoch a b = only (epochT a b) by unfold mkEpoch; rw [if_pos ⟨hk, hj⟩, only_cap (by omega) (len_epoch hk hj)]]
      have M2 : Hid ((epochT a b).size ≤ maxLen) := by show _ ≤ maxLen; unfold maxLen; omega
      have K := hide hk
      have J := hide hj
      clear hk hj hz
      go_enter Try.func71, Try.ntmps71
      go_wp2_with fail
      refine (sSecOk_any a _ M.out).mono ?_
      rw [K.out]
      rintro e w1 ⟨rfl, hb1⟩
      go_wp2_with fail
      refine (sSecOk_any b _ N.out).mono ?_
      rw [J.out]
      rintro e w2 ⟨rfl, hb2⟩
      go_wp2_with fail
      refine (l1Ok_any (epochT a b) _ M2.out).mono ?_
      rintro e w3 ⟨rfl, hb3⟩
      go_wp2_with fail
      go_ret
      have hb12 := hb1.trans (hb2.mono hb1.size)
      exact ⟨rfl, hb12.trans (hb3.mono hb12.size)⟩

#print axioms sMakNext_any
#print axioms sMakKey_any
#print axioms sMakEpoch_any
end Go.Proofs.Ytjijfcollmjljaa
/-
  The program's TreSet.
-/
namespace Go.Proofs.Ytjijfcollmjljaa
open Go.RowKit Go.Shelf
attribute [local go_sem] Oper.semAt_some

theorem keepsOthers_below {w w' : World} (h : Below w.heap.size w w') : KeepsOthers w w' := ⟨h.size, fun k _ hk _ => (h.block k (Array.getElem?_eq_some_iff.1 hk).1).trans hk⟩

set_option maxRecDepth 100000 in
set_option maxHeartbeats 1000000 in
theorem mayBeSet_any (s : ByteArray) (w : World) (hm : s.size ≤ maxLen) :
    Calls Try.prog 37 #[.string s] w fun e w' => e = .returned (.bool (maySet s)) ∧ Below w.heap.size w w' := by
  have M := hide hm
  unfold maxLen at hm
  have HE : Hid (maySet s = (Kw.ok s && decide (s.size ≤ 292))) := rfl
  go_enter Try.func37, Try.ntmps37
  go_wp2_with fail
  refine (iSecOk_any s _ M.out).mono ?_
  cases hk : Kw.ok s with
  | false =>
    rintro e w1 ⟨rfl, hb1⟩
    have HK := hide hk
    clear hk
    go_wp2_with fail
    go_ret
    exact ⟨ret_bool' (by rw [HE.out, HK.out]; rfl), hb1⟩
  | true =>
    rintro e w1 ⟨rfl, hb1⟩
    have HK := hide hk
    clear hk
    by_cases h2 : s.size ≤ 292
    · have h3 : (s.size : Int) ≤ 292 := by omega
      go_wp2_with fail
      go_ret
      exact ⟨ret_bool' (by rw [HE.out, HK.out]; simp [h2]), hb1⟩
    · have h3 : decide ((s.size : Int) ≤ 292) = false := by simp; omega
      go_wp2_with fail
      go_ret
      exact ⟨ret_bool' (by rw [HE.out, HK.out]; simp [h2]), hb1⟩

set_option maxRecDepth 100000 in
set_option maxHeartbeats 2000000 in
theorem iTreSet_no (v : Value) (xs : List ByteArray) (p : Int) (s : ByteArray) (w : World) (h : SRow w v xs) (hx : ∀ x ∈ xs, x.size ≤ maxLen) (hs : s.size ≤ maxLen) (hno : ¬ ((treOk xs = true ∧ 0 ≤ p ∧ p ≤ 7) ∧ maySet s = true)) :
    Calls Try.prog 9 #[.agg #[v], .int .i64 p, .string s] w fun e w' => ∃ u, e = .returned (.agg #[u]) ∧ Own w.heap.size w' u [] ∧ Below w.heap.size w w' := by
  obtain ⟨ao, cap, rfl, h1, h2, _⟩ := h.form
  have HX := hide hx
  have HS := hide hs
  have hR := hide h
  have HN := hide hno
  clear h hx hno hs
  go_enter Try.func9, Try.ntmps9
  go_wp2_with fail
  refine (iTreOk_any _ xs _ ((((unhide hR).below ((Below.refl _ _).alloc (Nat.le_refl _) _)).below ((Below.refl _ _).alloc (Nat.le_refl _) _)).below ((Below.refl _ _).alloc (Nat.le_refl _) _)) (unhide HX)).mono ?_
  rintro e w1 ⟨rfl, hb1⟩
  have S1 := hide (box_below ((Boxed.new (w.alloc (.cells #[.slice ao xs.length cap] 25)) 9 (.string s)).alloc (.cells #[.slice none 0 0] 25)) hb1)
  have B1 := hide (box_below (Boxed.new ((w.alloc (.cells #[.slice ao xs.length cap] 25)).alloc (.cells #[.string s] 9)) 25 (.slice none 0 0)) hb1)
  simp only [World.size_alloc] at B1 S1
  have HB1 : Hid (Below w.heap.size w w1) := ((((Below.refl _ _).alloc (Nat.le_refl _) _).alloc (by simp) _).alloc (by simp; omega) _).trans (hb1.mono (by simp; omega))
  have l0 := (unhide S1).cell
  clear hb1
  cases hk : treOk xs with
  | false =>
    have HB2 := hide (below_box (unhide HB1) (b := w.heap.size + 1 + 1) (by omega) (.slice none 0 0))
    have l1 := (unhide B1).cell
    have l2 := (unhide B1).frozen
    have l3 := ((unhide B1).set (.slice none 0 0)).cell
    clear hk
    go_wp2_with fail
    refine bodyPost_ret (v := .agg #[.slice none 0 0]) (by simp [results, Try.results9, go_sem, l3]) rfl ⟨_, rfl, World.ownsRow_nil _ _ _ _, unhide HB2⟩
  | true =>
    by_cases hp : 0 ≤ p ∧ p ≤ 7
    · have hms : Hid (maySet s = false) := by
        show _ = _
        cases q : maySet s with
        | false => rfl
        | true => exact absurd ⟨⟨hk, hp⟩, q⟩ HN.out
      have HP := hide hp
      clear hk hp
      go_wp2_with fail
      refine (isOne_yes _ _ HP.out.1 (by have := HP.out; omega)).mono ?_
      rintro e wq ⟨rfl, rfl⟩
      go_wp2_with fail
      refine (mayBeSet_any s _ HS.out).mono ?_
      rw [hms.out]
      rintro e w2 ⟨rfl, hb2⟩
      have HB3 := hide (HB1.out.trans (hb2.mono HB1.out.size))
      have B2 := box_below (unhide B1) hb2
      have HB2 := hide (below_box (unhide HB3) (b := w.heap.size + 1 + 1) (by omega) (.slice none 0 0))
      have l1 := B2.cell
      have l2 := B2.frozen
      have l3 := (B2.set (.slice none 0 0)).cell
      clear hb2 B2 l0
      go_wp2_with fail
      refine bodyPost_ret (v := .agg #[.slice none 0 0]) (by simp [results, Try.results9, go_sem, l3]) rfl ⟨_, rfl, World.ownsRow_nil _ _ _ _, unhide HB2⟩
    · have HB2 := hide (below_box (unhide HB1) (b := w.heap.size + 1 + 1) (by omega) (.slice none 0 0))
      have l1 := (unhide B1).cell
      have l2 := (unhide B1).frozen
      have l3 := ((unhide B1).set (.slice none 0 0)).cell
      have HP := hide hp
      clear hk hp
      go_wp2_with fail
      refine (isOne_no _ _ (by have := HP.out; omega)).mono ?_
      rintro e wq ⟨rfl, rfl⟩
      go_wp2_with fail
      refine bodyPost_ret (v := .agg #[.slice none 0 0]) (by simp [results, Try.results9, go_sem, l3]) rfl ⟨_, rfl, World.ownsRow_nil _ _ _ _, unhide HB2⟩

set_option maxRecDepth 100000 in
set_option maxHeartbeats 8000000 in
theorem iTreSet_ok (v : Value) (xs : List ByteArray) (k : Nat) (hk : k < 8) (s : ByteArray) (hms : maySet s = true) (w : World) (h : SRow w v xs) (hok : treOk xs = true) (n : Nat) (hn : 4 ≤ n) :
    CallsIn Fence.wide n Try.prog 9 #[.agg #[v], .int .i64 (k : Int), .string s] w fun e w' => ∃ u, e = .returned (.agg #[u]) ∧ Own w.heap.size w' u (setKeys xs k s) ∧ Below w.heap.size w w' := by
  have hl : xs.length = 15 := (treOk_iff.1 hok).1
  have hsm := treOk_small hok
  obtain ⟨ao, cap, rfl, h1, h2, _⟩ := h.form
  rw [hl] at h ⊢
  have h1' : 1 ≤ n := by omega
  have h2' : 1 ≤ n - 1 := by omega
  have hro : Fence.wide.round = none := rfl
  have HSM := hide hsm
  have HOK := hide hok
  have HMS := hide hms
  have hss : s.size ≤ 300 := by
    unfold maySet at hms
    simp at hms
    omega
  have hR := hide h
  have hLf : Hid (leafOf (k : Int) = ((7 + k : Nat) : Int)) := by show _ = _; unfold leafOf; rw [if_pos (by omega)]; omega
  have HL := hide hl
  clear h hok hsm h1 h2 hl hms
  refine callsIn_of_wp_marks Try.func9 rfl trivial ?_ hro
  simp only [Try.ntmps9, List.size_toArray, List.length_cons, List.length_nil, Nat.reduceAdd, Nat.reduceSub, Array.replicate_succ, Array.replicate_zero, List.push_toArray, List.append_toArray, List.nil_append, List.cons_append]
  gi_wp2_with (first
    | (refine ⟨trivial, ?_⟩; gi_at_call 20; refine (callsIn_wide.2 (iTreOk_any _ xs _ ((((unhide hR).below ((Below.refl _ _).alloc (Nat.le_refl _) _)).below ((Below.refl _ _).alloc (Nat.le_refl _) _)).below ((Below.refl _ _).alloc (Nat.le_refl _) _)) (fun x hx => Nat.le_trans (HSM.out x hx) (by unfold maxLen; omega)))).mono ?_; rw [HOK.out]; rintro e w1 ⟨rfl, hb1⟩; have A1 := box_below (((Boxed.new w 25 (.slice ao 15 cap)).alloc (.cells #[.string s] 9)).alloc (.cells #[.slice none 0 0] 25)) hb1; have C1 := box_below ((Boxed.new (w.alloc (.cells #[.slice ao 15 cap] 25)) 9 (.string s)).alloc (.cells #[.slice none 0 0] 25)) hb1; have B1 := box_below (Boxed.new ((w.alloc (.cells #[.slice ao 15 cap] 25)).alloc (.cells #[.string s] 9)) 25 (.slice none 0 0)) hb1; simp only [World.size_alloc] at B1 C1; have HA1 := A1.cell; have HC1 := C1.cell; have HB1 : Hid (Below w.heap.size w w1) := ((((Below.refl _ _).alloc (Nat.le_refl _) _).alloc (by simp) _).alloc (by simp; omega) _).trans (hb1.mono (by simp; omega)); have A1h := hide A1; have B1h := hide B1; have C1h := hide C1; have hs1 := hb1.size; simp only [World.size_alloc] at hs1; clear hb1 A1 B1 C1)
    | (refine ⟨trivial, ?_⟩; gi_at_call 36; refine (callsIn_wide.2 (isOne_yes (k : Int) _ (by omega) (by omega))).mono ?_; rintro e wq ⟨rfl, rfl⟩)
    | (refine ⟨trivial, ?_⟩; gi_at_call 37; refine (callsIn_wide.2 (mayBeSet_any s _ (by unfold maxLen; omega))).mono ?_; rw [HMS.out]; rintro e w5 ⟨rfl, hb5⟩; have A5h := hide (box_below (unhide A1h) hb5); have B5h := hide (box_below (unhide B1h) hb5); have C5h := hide (box_below (unhide C1h) hb5); have HB5 := hide (HB1.out.trans (hb5.mono HB1.out.size)); have hs5 := hb5.size; have HA5 := (unhide A5h).cell; clear hb5 HA1 HC1)
    | (refine ⟨trivial, ?_⟩; gi_at_call 38; refine (callsIn_wide.2 (cloneNames_any _ xs _ ((unhide hR).below (unhide HB5)) (by have := HL.out; omega) (fun x hx => Nat.le_trans (HSM.out x hx) (by omega)))).mono ?_; rw [HL.out]; rintro e w2 ⟨v2, rfl, ho2, hb2⟩; obtain ⟨g, c2, rfl, hg1, hg2, hg3, hg4⟩ := row15 ho2; have O2 := hide ho2; have HB2 := hide (HB5.out.trans (hb2.mono HB5.out.size)); have B2h := hide (box_below (unhide B5h) hb2); have C2h := hide (box_below (unhide C5h) hb2); have hs2 := hb2.size; clear ho2 hb2 HA5)
    | (refine ⟨trivial, ?_⟩; gi_at_call 39; refine (callsIn_wide.2 (placeOf_any (k : Int) _)).mono ?_; rw [hLf.out]; rintro e wz ⟨rfl, rfl⟩)
    | (refine ⟨trivial, ?_⟩; gi_at_call 40; refine (upward_in _ _ _).mono ?_; rintro e wz ⟨rfl, rfl⟩))
  have bK := (Boxed.new w2 23 (.slice (some ⟨g, 0, none⟩) 15 c2)).alloc (.cells #[.int .i64 (7 + (k : Int))] 57)
  have bN := Boxed.new (w2.alloc (.cells #[.slice (some ⟨g, 0, none⟩) 15 c2] 23)) 57 (.int .i64 (7 + (k : Int)))
  have bR := ((unhide B2h).alloc (.cells #[.slice (some ⟨g, 0, none⟩) 15 c2] 23)).alloc (.cells #[.int .i64 (7 + (k : Int))] 57)
  have bS := ((unhide C2h).alloc (.cells #[.slice (some ⟨g, 0, none⟩) 15 c2] 23)).alloc (.cells #[.int .i64 (7 + (k : Int))] 57)
  rw [World.size_alloc] at bN
  have hO3 := own_below' (own_below' (unhide O2) ((Below.refl _ _).alloc (Nat.le_refl _) (.cells #[.slice (some ⟨g, 0, none⟩) 15 c2] 23))) ((Below.refl _ _).alloc (Nat.le_refl _) (.cells #[.int .i64 (7 + (k : Int))] 57))
  have hB3 : Below w.heap.size w ((w2.alloc (.cells #[.slice (some ⟨g, 0, none⟩) 15 c2] 23)).alloc (.cells #[.int .i64 (7 + (k : Int))] 57)) := ((unhide HB2).alloc HB2.out.size _).alloc (by simp; have := HB2.out.size; omega) _
  have hsz : ((w2.alloc (.cells #[.slice (some ⟨g, 0, none⟩) 15 c2] 23)).alloc (.cells #[.int .i64 (7 + (k : Int))] 57)).heap.size = w2.heap.size + 2 := by simp
  have hw2 := HB2.out.size
  have hw5 := HB5.out.size
  obtain ⟨W0, hW0⟩ : ∃ W0, (w2.alloc (.cells #[.slice (some ⟨g, 0, none⟩) 15 c2] 23)).alloc (.cells #[.int .i64 (7 + (k : Int))] 57) = W0 := ⟨_, rfl⟩
  rw [hW0] at bK bN bR bS hO3 hB3 hsz ⊢
  clear hW0
  refine wpIn_rangeFunc_ownG hro h1' (gf := 59) (lb := #[.pointer (some ⟨w2.heap.size + 1, 0, none⟩)]) rfl trivial (enters_of Try.func59 (by kernel_rfl) rfl)
    (upwardF_stops (n - 1) h2' (w2.heap.size + 1) w.heap.size (7 + (k : Int)) W0 (by omega) bN.cell) belowK_t (belowK_b (by omega)) (Below.refl _ _) (fun _ => rfl)
    (fun pre W => (((∃ u, Boxed W w2.heap.size 23 u ∧ W.ownsRow w5.heap.size 9 1 u 15 ((fill xs s (vals pre)).map Value.string) ∧ u = .slice (some ⟨g, 0, none⟩) 15 c2) ∧ Boxed W (w.heap.size + 1) 9 (.string (nextN s pre.length))) ∧ Boxed W (w.heap.size + 1 + 1) 25 (.slice none 0 0)) ∧ Below w.heap.size w W)
    (fun _ _ _ => False)
    (OwnFrom.and (OwnFrom.and (OwnFrom.and (Own.from (holdsRow_own w5.heap.size w2.heap.size 23 9 1 (fun (_ : List (Fin 15)) => 15) (fun (pre : List (Fin 15)) => (fill xs s (vals pre)).map Value.string) (fun _ u => u = .slice (some ⟨g, 0, none⟩) 15 c2)) _) (Own.from (boxed_own _ _ (fun (pre : List (Fin 15)) => Value.string (nextN s pre.length))) _)) (Own.from (boxed_own _ _ _) _)) (ownFrom_below (Nat.le_refl _) (by omega)))
    (fun _ _ _ _ _ hs _ _ => hs)
    ⟨⟨⟨⟨_, bK, hO3, rfl⟩, bS⟩, bR⟩, hB3⟩
    (fun x => { tmps := #[.agg #[.slice ao 15 cap], .int .i64 (k : Int), .string s, .pointer (some ⟨w.heap.size, 0, none⟩), undef, .pointer (some ⟨w.heap.size + 1, 0, none⟩), .pointer (some ⟨w.heap.size + 1 + 1, 0, none⟩), .pointer (some ⟨w2.heap.size, 0, none⟩), .int .i64 ((x.val : Nat) : Int), .agg #[.slice ao 15 cap], .bool true, .bool false, .bool false, .int .i64 (k : Int), .bool true, .bool false, .bool false, .bool false, .string s, .bool true, .bool false, .bool false, undef, .pointer (some ⟨w.heap.size, 0, none⟩), .slice ao 15 cap, .slice (some ⟨g, 0, none⟩) 15 c2, .int .i64 (k : Int), .int .i64 (7 + (k : Int)), .func (.func 59) #[] #[.pointer (some ⟨w2.heap.size + 1, 0, none⟩)], .int .i64 ((x.val : Nat) : Int), undef, undef, undef, undef, undef, undef, undef, undef, undef], defers := [] }) ?assign ?body ?done ?stop
  case assign =>
    intro l x W K hK
    gi_wp2
    exact hK
  case body =>
    rintro l pre x W ⟨⟨⟨⟨u, hu, hrow, rfl⟩, hbS⟩, hbR⟩, hB⟩ hlt
    have hj := x.isLt
    have hc := hu.cell
    have hcs := hbS.cell
    have j1 : ((x.val : Nat) : Int) < 15 := by omega
    have h3' : 1 ≤ n - 1 - 1 := by omega
    have hns := nextN_size s hss pre.length
    have HW : Hid (fill xs s (vals (pre ++ [x])) = (fill xs s (vals pre)).set x.val (mkKey (nextN s pre.length))) := by show _ = _; rw [vals_snoc, fill_snoc]; simp [vals]
    have HNX : Hid (nextN s (pre ++ [x]).length = mkNext (nextN s pre.length)) := by show _ = _; rw [List.length_append]; rfl
    generalize nextN s pre.length = sc at hcs hbS HW HNX hns
    have HROW := hide hrow
    have HU := hide hu
    have HS := hide hbS
    have HR := hide hbR
    clear hrow hu hbS hbR
    gi_wp2
    have hmx : Try.prog.follows .mixedOrders = true := by kernel_rfl
    gi_region_with_o (refine ⟨trivial, ?_⟩; gi_at_call 18; refine (CallsIn.inRound l (callsIn_wide.2 (iMakKey_any sc _ (le_maxLen (by omega))))).mono ?_; rintro e wk ⟨rfl, hbk⟩; have o1 := own_below' (w := W.drew) (unhide HROW) hbk; obtain ⟨s1, s2, s3, s4⟩ := row15_set (by rw [fill_len]; exact HL.out) o1 x.val hj (mkKey sc); have k1 := box_below (w := W.drew) (unhide HU) hbk; have k2 := hide (box_grown k1 o1 (by decide) s4); have r2 := hide (box_grown (box_below (w := W.drew) (unhide HR) hbk) o1 (by decide) s4); have c1 := box_below (w := W.drew) (unhide HS) hbk; have c2' := c1.kept s4 (fun q => by cases q; omega); have C2 := hide c2'; have k1c := k1.cell; have c2c := c2'.cell; have S3 := hide s3; have KO := hide ((keepsOthers_below hbk).trans (KeepsOthers.setCell wk ⟨g, x.val, none⟩ (.string (mkKey sc)))); have BW : Hid (Below w.heap.size W (wk.setCell ⟨g, x.val, none⟩ (.string (mkKey sc)))) := ((Below.refl w.heap.size W).drew.trans (hbk.mono hB.size)).setCell (p := ⟨g, x.val, none⟩) (by show w.heap.size ≤ g; omega) _; clear o1 s3 s4 k1 c1 c2' hbk; generalize (fill xs s (vals pre)).getD x.val ByteArray.empty = old at s1; generalize mkKey sc = ky at *)
    all_goals gi_wp2_with (refine ⟨trivial, ?_⟩; gi_at_call 19; refine (CallsIn.inRound l (callsIn_wide.2 (iMakNext_any sc _ (le_maxLen (by omega))))).mono ?_; rintro e wm ⟨rfl, hbm⟩; have c3 := box_below (unhide C2) hbm; have c3c := c3.cell; have c3f := c3.frozen; have F1 : Hid (Boxed (wm.setCell ⟨w.heap.size + 1, 0, none⟩ (.string (mkNext sc))) (w.heap.size + 1) 9 (.string (mkNext sc))) := c3.set _; have F2 : Hid (Boxed (wm.setCell ⟨w.heap.size + 1, 0, none⟩ (.string (mkNext sc))) w2.heap.size 23 (.slice (some ⟨g, 0, none⟩) 15 c2)) := (box_below (unhide k2) hbm).other (by omega) _; have F3 : Hid (Boxed (wm.setCell ⟨w.heap.size + 1, 0, none⟩ (.string (mkNext sc))) (w.heap.size + 1 + 1) 25 (.slice none 0 0)) := (box_below (unhide r2) hbm).other (by omega) _; have F4 := hide (World.ownsRow.kept (own_below' (unhide S3) hbm) (grownBy_setCell' wm (w.heap.size + 1) (.string (mkNext sc))) (.inr (by simp [Value.ownBlock]; omega))); have F5 := hide ((unhide KO).trans ((keepsOthers_below hbm).trans (KeepsOthers.setCell wm ⟨w.heap.size + 1, 0, none⟩ (.string (mkNext sc))))); have F6 : Hid (Below w.heap.size W (wm.setCell ⟨w.heap.size + 1, 0, none⟩ (.string (mkNext sc)))) := ((unhide BW).trans (hbm.mono (Nat.le_trans hB.size (unhide BW).size))).setCell (p := ⟨w.heap.size + 1, 0, none⟩) (by simp) _; clear c3 hbm)
    all_goals exact ⟨((KeepsOthers.drew W).trans (unhide F5)).from _, unhide F6, ⟨⟨⟨_, unhide F2, by rw [HW.out]; exact unhide F4, rfl⟩, by rw [HNX.out]; exact unhide F1⟩, unhide F3⟩, hB.trans (unhide F6)⟩
  case done =>
    rintro D ys W hD rfl ⟨⟨⟨⟨u, hu, hrow, rfl⟩, hbS⟩, hbR⟩, hB⟩ hK
    have hc := hu.cell
    have hc2 := hbR.cell
    have hc3 := hbR.frozen
    have HE : Hid (fill xs s (vals (chainF (7 + (k : Int)))) = setKeys xs k s) := by
      show _ = _
      have q := vals_chain k hk
      rw [show (((7 + k : Nat) : Int)) = 7 + (k : Int) by omega] at q
      rw [q]
      rfl
    have R1 := row_box hrow hbR (by decide) (.slice (some ⟨g, 0, none⟩) 15 c2)
    gi_wp2
    have hK' := (KeepsOthers.setCell W ⟨w.heap.size + 1 + 1, 0, none⟩ (.slice (some ⟨g, 0, none⟩) 15 c2)).same D _ hK rfl
    refine ⟨by simp, .inl ⟨_, _, rfl, run_takeDeferred hK', ?_⟩⟩
    have hc5 := cell_kept (hbR.set (.slice (some ⟨g, 0, none⟩) 15 c2)).cell (grownBy_putObj' _ D (.deferred none)) (fun r e => by cases e; exact ⟨_, hK', rfl⟩)
    refine ⟨.agg #[.slice (some ⟨g, 0, none⟩) 15 c2], ?_, _, rfl, ?_, (hB.setCell (p := ⟨w.heap.size + 1 + 1, 0, none⟩) (by simp; omega) _).trans (belowK_b (w := w) (Nat.le_refl _) _ D _ _ (by omega) hK' rfl rfl)⟩
    · simp [results, Try.f9, go_sem, hc5]
    · have q := ownsRow_putObj R1 (.deferred none) hK' rfl
      rw [HE.out] at q
      unfold Own
      rw [setKeys_len, HL.out]
      exact row_lowB q hw5
  case stop =>
    rintro D c pre W _ _ h _
    exact h.elim

theorem iTreSet_any (v : Value) (xs : List ByteArray) (p : Int) (s : ByteArray) (w : World) (h : SRow w v xs) (hx : ∀ x ∈ xs, x.size ≤ maxLen) (hs : s.size ≤ maxLen) :
    Calls Try.prog 9 #[.agg #[v], .int .i64 p, .string s] w fun e w' => ∃ u, e = .returned (.agg #[u]) ∧ Own w.heap.size w' u (setRes xs p s) ∧ Below w.heap.size w w' := by
  by_cases hy : (treOk xs = true ∧ 0 ≤ p ∧ p ≤ 7) ∧ maySet s = true
  · obtain ⟨k, rfl⟩ : ∃ k : Nat, p = (k : Int) := ⟨p.toNat, by omega⟩
    rw [setRes_yes hy.1.1 (by omega) hy.2]
    exact callsIn_wide.1 (iTreSet_ok v xs k (by omega) s hy.2 w h hy.1.1 4 (Nat.le_refl _))
  · rw [setRes_no hy]
    exact iTreSet_no v xs p s w h hx hs hy
#print axioms iTreSet_any
end Go.Proofs.Ytjijfcollmjljaa
