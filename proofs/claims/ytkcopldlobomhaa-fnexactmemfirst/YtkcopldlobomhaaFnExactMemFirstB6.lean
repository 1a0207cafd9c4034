/-
  Trees without keys: TreNew of the specification.
-/
import Derived.Test.YtkcopldlobomhaaFnExactMemFirstB1
import Derived.RangeFuncRecord
import Derived.Test.YtkcopldlobomhaaFnExactMemFirstB4
import Derived.Test.YtkcopldlobomhaaFnExactMemFirstB5
import Derived.Test.YtkcopldlobomhaaFnExactMemFirstB3
import Derived.RangeFuncNested
import Derived.RangeFuncBound
import Derived.RangeFuncCalls
import Derived.RangeFuncLeaves
import Derived.Shelf.Abstract
import Derived.Shelf.RegionOpen
import Derived.WalkKit
import Derived.OwnWalkIn
import Derived.TacticsInMore
import Derived.LoopNIn
import Derived.LoopIn
import Derived.Test.YtkcopldlobomhaaFnExactMemFirstB2
import Derived.Maps.AppendAt
namespace Go.Proofs.Ytkcopldlobomhaa
open Go.RowKit

/-- No keys. -/
def bare : List ByteArray := List.replicate 15 ByteArray.empty
theorem grownBy_setCell0 (W : World) (b : Nat) (v : Value) : W.grownBy (W.setCell ⟨b, 0, none⟩ v) (some b) :=
  ⟨rfl, rfl, rfl, by simp [World.setCell], fun k _ hk => Below.heap_setCell _ _ _ k (fun e => hk (by rw [e]))⟩

set_option maxRecDepth 100000 in
set_option maxHeartbeats 1000000 in
theorem sTreNew_any (w : World) : Calls Try.prog 33 #[] w fun e w' => ∃ v, e = .returned (.agg #[v]) ∧ Own w.heap.size w' v bare ∧ Below w.heap.size w w' := by
  obtain ⟨i0, hi, hz0, hz1, hz2⟩ := info_parts info_str2
  have hI := hide (And.intro hi (And.intro hz0 hz1))
  have hB2 : Hid (i0.bytes * 15 ≤ 281474976710656) := by show _ ≤ _; rw [hz2]; omega
  clear hi hz0 hz1 hz2
  go_enter Try.func33, Try.ntmps33
  go_wp2_with (at_make; refine wpList_make_full _ rfl _ _ 25 rfl w.heap.size 9 i0 (.string ⟨#[]⟩) 1 Try.underlying25 (unhide hI).1 (unhide hI).2.1 (unhide hI).2.2 _ _ _ _ 15 rfl rfl rfl rfl (unhide hB2) (by unfold maxLen; omega) (by simp) ?_)
  intro w1 hown hgrow
  have hO1 : Hid (Own w.heap.size w1 (.slice (some ⟨w.heap.size + 1, 0, none⟩) 15 15) bare) := by
    have e : (madeCells #[Value.string ⟨#[]⟩] 15).toList = bare.map Value.string := by
      simp [madeCells, Nat.mod_one, List.map_const', bare]; rfl
    rw [e] at hown
    exact hown
  have hL1 : Hid (Below w.heap.size w w1) := ((Below.refl _ _).alloc (Nat.le_refl _) _).grown hgrow (by simp) (fun k hk => by cases hk)
  have hblk : w1.heap[w.heap.size]? = some (.cells #[.slice none 0 0] 27) := (hgrow.block w.heap.size (by simp) (by simp)).trans (World.alloc_heap_new w _)
  have hc : w1.cell? ⟨w.heap.size, 0, none⟩ = some (.slice none 0 0) := by simp [World.cell?, hblk]
  have hf : w1.frozen? ⟨w.heap.size, 0, none⟩ = false := by simp [World.frozen?, hblk]
  clear hown hgrow
  go_wp2_with fail
  refine bodyPost_ret (v := .agg #[.slice (some ⟨w.heap.size + 1, 0, none⟩) 15 15]) (by simp [results, Try.results33, go_sem, hc]) rfl ⟨_, rfl, ?_, (unhide hL1).setCell (p := ⟨w.heap.size, 0, none⟩) (Nat.le_refl _) _⟩
  refine World.ownsRow.kept (unhide hO1) (grownBy_setCell0 w1 w.heap.size _) (.inr ?_)
  simp [Value.ownBlock]

#print axioms sTreNew_any
end Go.Proofs.Ytkcopldlobomhaa
/-
  The specification's MemFirst.
-/
namespace Go.Proofs.Ytkcopldlobomhaa
open Go.RowKit

/-- Whether MemFirst makes one. -/
def fstOk (p : Int) (s t : ByteArray) : Prop := (0 ≤ p ∧ p ≤ 7) ∧ maySet s = true ∧ Kw.ok t = true
instance (p : Int) (s t : ByteArray) : Decidable (fstOk p s t) := by unfold fstOk; infer_instance
/-- What MemFirst answers. -/
def fstOf (p : Int) (s t : ByteArray) : Mem := if fstOk p s t then ⟨true, p, setKeys bare p.toNat s, pathOf (chainOf (7 + p)) s, 0, t, ⟨#[]⟩⟩ else Mem.none
theorem fst_no {p : Int} {s t : ByteArray} (h : ¬ fstOk p s t) : fstOf p s t = Mem.none := by unfold fstOf; rw [if_neg h]
theorem fst_yes {p : Int} {s t : ByteArray} (h : fstOk p s t) : fstOf p s t = ⟨true, p, setKeys bare p.toNat s, pathOf (chainOf (7 + p)) s, 0, t, ⟨#[]⟩⟩ := by unfold fstOf; rw [if_pos h]

set_option maxRecDepth 100000 in
set_option maxHeartbeats 4000000 in
theorem sMemFirst_any (p : Int) (s t : ByteArray) (w : World) (hs : s.size ≤ maxLen) (ht : t.size ≤ maxLen) :
    Calls Try.prog 8 #[.int .i64 p, .string s, .string t] w fun e w' => ∃ v, e = .returned v ∧ MemO w.heap.size w' v (fstOf p s t) ∧ Below w.heap.size w w' := by
  have HS := hide hs
  have HT := hide ht
  unfold maxLen at hs ht
  have HB0 : Hid (Below w.heap.size w (w.alloc (.cells noMem 30))) := (Below.refl _ _).alloc (Nat.le_refl _) _
  have A0 := hide (Blk.new w 30 noMem)
  have hs0 : (w.alloc (.cells noMem 30)).heap.size = w.heap.size + 1 := by simp
  by_cases hp : 0 ≤ p ∧ p ≤ 7
  · obtain ⟨k, rfl⟩ : ∃ k : Nat, p = (k : Int) := ⟨p.toNat, by omega⟩
    have hk8 : k < 8 := by omega
    have HK8 := hide hk8
    clear hp
    go_enter Try.func8, Try.ntmps8
    go_wp2_with fail
    refine (l1In_yes _ _ _ _ (by omega) (by omega)).mono ?_
    rintro e wa ⟨rfl, rfl⟩
    go_wp2_with fail
    refine (sSecOk_any s _ HS.out).mono ?_
    rintro e w1 ⟨rfl, hb1⟩
    have A1 := hide ((unhide A0).below hb1)
    have HB1 := hide (HB0.out.trans (hb1.mono HB0.out.size))
    have hs1 := hb1.size
    rw [hs0] at hs1
    clear hb1 A0 HB0 hs0
    cases hos : Kw.ok s with
    | false =>
      have HE : Hid (¬ fstOk (k : Int) s t) := by show ¬ _; unfold fstOk maySet; rw [hos]; simp
      have l1 := load_mm ((unhide A1).set noMem) rfl
      have HB2 := hide (below_blk (unhide HB1) (Nat.le_refl _) noMem)
      clear hos
      go_wp2_with (refine wpList_store_whole rfl 30 _ _ rfl w.heap.size noMem rfl rfl 30 _ (unhide A1) info_mm rfl (one_mm _ _ _ _ _ _ _ _ _ _ _) ?_)
      refine bodyPost_ret (v := .agg noMem) (results_cell rfl rfl l1) rfl ⟨_, rfl, ?_, unhide HB2⟩
      rw [fst_no HE.out]
      exact MemO.none _ _
    | true =>
      have HOS := hide hos
      clear hos
      go_wp2_with fail
      refine (sSecOk_any t _ HT.out).mono ?_
      rintro e w2 ⟨rfl, hb2⟩
      have A2 := hide ((unhide A1).below hb2)
      have HB2 := hide (HB1.out.trans (hb2.mono HB1.out.size))
      have hs2 := hb2.size
      clear hb2 A1 HB1
      cases hot : Kw.ok t with
      | false =>
        have HE : Hid (¬ fstOk (k : Int) s t) := by show ¬ _; unfold fstOk; rw [hot]; simp
        have l1 := load_mm ((unhide A2).set noMem) rfl
        have HB3 := hide (below_blk (unhide HB2) (Nat.le_refl _) noMem)
        clear hot
        go_wp2_with (refine wpList_store_whole rfl 30 _ _ rfl w.heap.size noMem rfl rfl 30 _ (unhide A2) info_mm rfl (one_mm _ _ _ _ _ _ _ _ _ _ _) ?_)
        refine bodyPost_ret (v := .agg noMem) (results_cell rfl rfl l1) rfl ⟨_, rfl, ?_, unhide HB3⟩
        rw [fst_no HE.out]
        exact MemO.none _ _
      | true =>
        have HOT := hide hot
        clear hot
        by_cases hsz : s.size ≤ 292
        · have hsz2 : decide ((292 : Int) < (s.size : Int)) = false := by simp; omega
          have HE : Hid (fstOk (k : Int) s t) := ⟨by have := HK8.out; omega, by unfold maySet; rw [HOS.out]; simpa using hsz, HOT.out⟩
          go_wp2_with fail
          refine (sTreNew_any _).mono ?_
          rintro e w3 ⟨v3, rfl, ho3, hb3⟩
          have A3 := hide ((unhide A2).below hb3)
          have HB3 := hide (HB2.out.trans (hb3.mono HB2.out.size))
          have hs3 := hb3.size
          obtain ⟨g, c, rfl, hg1, hg2, hg3, hg4⟩ := row15 (show w3.ownsRow w2.heap.size 9 1 v3 15 (bare.map Value.string) from ho3)
          have O3 : Hid (w3.ownsRow w2.heap.size 9 1 (.slice (some ⟨g, 0, none⟩) 15 c) 15 (bare.map Value.string)) := ho3
          clear ho3 hb3 A2 HB2
          go_wp2_with fail
          refine (l3Set_any w2.heap.size g c bare rfl k HK8.out s (by omega) _ (unhide O3)).mono ?_
          rintro e w5 ⟨rfl, ho5, hg⟩
          have A5 := hide ((unhide A3).kept hg (Blk.not_row (unhide A3) (by decide) (unhide O3)))
          have HB5 : Hid (Below w.heap.size w w5) := (unhide HB3).grown hg HB3.out.size (fun z hz => by cases hz; omega)
          have O5 := hide ho5
          have hs5 := hg.size
          clear ho5 hg A3 HB3 O3
          go_wp2_with fail
          refine (sTreLeaf_any _ _).mono ?_
          rw [show leafOf (k : Int) = ((7 + k : Nat) : Int) by unfold leafOf; rw [if_pos (by have := HK8.out; omega)]; omega]
          rintro e wz ⟨rfl, rfl⟩
          go_wp2_with fail
          refine (l4Path_any (7 + k) (by have := HK8.out; omega) s (by omega) _).mono ?_
          rintro e w6 ⟨v6, rfl, ho6, hb6⟩
          obtain ⟨oo, oc, hv6⟩ := row_form' ho6
          subst hv6
          generalize hPL : (pathOf (chainOf ((7 + k : Nat) : Int)) s).length = PL at *
          have A6 := hide ((unhide A5).below hb6)
          have HB6 := hide (HB5.out.trans (hb6.mono HB5.out.size))
          have O6 := hide (own_below' (unhide O5) hb6)
          have M6 := hide ho6
          have hs6 := hb6.size
          have HPL := hide hPL
          clear ho6 hb6 A5 HB5 O5 hPL
          have l1 := load_mm ((unhide A6).set (memC true (k : Int) (.slice (some ⟨g, 0, none⟩) 15 c) (.slice oo PL oc) 0 t ⟨#[]⟩)) rfl
          have HB7 := hide (below_blk (unhide HB6) (Nat.le_refl _) (memC true (k : Int) (.slice (some ⟨g, 0, none⟩) 15 c) (.slice oo PL oc) 0 t ⟨#[]⟩))
          have O7 := hide (row_blk (unhide O6) (unhide A6) (by decide) (memC true (k : Int) (.slice (some ⟨g, 0, none⟩) 15 c) (.slice oo PL oc) 0 t ⟨#[]⟩))
          have M7 := hide (row_blk (unhide M6) (unhide A6) (by decide) (memC true (k : Int) (.slice (some ⟨g, 0, none⟩) 15 c) (.slice oo PL oc) 0 t ⟨#[]⟩))
          go_wp2_with (refine wpList_store_whole rfl 30 _ _ rfl w.heap.size (memC true (k : Int) (.slice (some ⟨g, 0, none⟩) 15 c) (.slice oo PL oc) 0 t ⟨#[]⟩) rfl rfl 30 _ (unhide A6) info_mm rfl (one_mm _ _ _ _ _ _ _ _ _ _ _) ?_)
          refine bodyPost_ret (v := .agg (memC true (k : Int) (.slice (some ⟨g, 0, none⟩) 15 c) (.slice oo PL oc) 0 t ⟨#[]⟩)) (results_cell rfl rfl l1) rfl ⟨_, rfl, ?_, unhide HB7⟩
          rw [fst_yes HE.out]
          refine ⟨_, _, rfl, ?_, ?_⟩
          · unfold Own
            rw [setKeys_len, show ((k : Int)).toNat = k from rfl]
            exact row_lowB (unhide O7) (by omega)
          · rw [show (7 + (k : Int)) = ((7 + k : Nat) : Int) by omega]
            exact row_lowB (unhide M7) (by omega)
        · have hsz2 : (292 : Int) < (s.size : Int) := by omega
          have HE : Hid (¬ fstOk (k : Int) s t) := by show ¬ _; unfold fstOk maySet; rw [HOS.out]; simp; omega
          have l1 := load_mm ((unhide A2).set noMem) rfl
          have HB3 := hide (below_blk (unhide HB2) (Nat.le_refl _) noMem)
          go_wp2_with (refine wpList_store_whole rfl 30 _ _ rfl w.heap.size noMem rfl rfl 30 _ (unhide A2) info_mm rfl (one_mm _ _ _ _ _ _ _ _ _ _ _) ?_)
          refine bodyPost_ret (v := .agg noMem) (results_cell rfl rfl l1) rfl ⟨_, rfl, ?_, unhide HB3⟩
          rw [fst_no HE.out]
          exact MemO.none _ _
  · have HE : Hid (¬ fstOk p s t) := fun q => hp q.1
    have l1 := load_mm ((unhide A0).set noMem) rfl
    have HB3 := hide (below_blk (unhide HB0) (Nat.le_refl _) noMem)
    have HP := hide hp
    clear hp
    go_enter Try.func8, Try.ntmps8
    go_wp2_with fail
    refine (l1In_no _ _ _ _ (by have := HP.out; omega)).mono ?_
    rintro e wa ⟨rfl, rfl⟩
    go_wp2_with (refine wpList_store_whole rfl 30 _ _ rfl w.heap.size noMem rfl rfl 30 _ (unhide A0) info_mm rfl (one_mm _ _ _ _ _ _ _ _ _ _ _) ?_)
    refine bodyPost_ret (v := .agg noMem) (results_cell rfl rfl l1) rfl ⟨_, rfl, ?_, unhide HB3⟩
    rw [fst_no HE.out]
    exact MemO.none _ _
#print axioms sMemFirst_any
end Go.Proofs.Ytkcopldlobomhaa
/-
  The program's iterators: upward, above.
-/
namespace Go.Proofs.Ytkcopldlobomhaa
open Go.RowKit Go.Shelf
attribute [local go_sem] Oper.semAt_some

set_option maxRecDepth 100000 in
set_option maxHeartbeats 1000000 in
theorem upward1_in (n : Nat) (hn : 1 ≤ n) (l Bn n₀ : Nat) (p : Int) (J Jx : List Int → World → Prop)
    (hY : ∀ pre x W, J pre W → pre.length < (chainOf p).length → YieldAt Fence.wide (n - 1) Try.prog l #[.int .i64 x] W fun e W' =>
      (e = .returned (.bool true) ∧ J (pre ++ [x]) W' ∧ Below n₀ W W') ∨ (e = .returned (.bool false) ∧ Jx (pre ++ [x]) W'))
    (W : World) (hBn : W.cell? ⟨Bn, 0, none⟩ = some (.int .i64 p)) (h0 : J [] W) :
    CallsIn Fence.wide n Try.prog 70 #[.func (.yield l) #[] #[], .pointer (some ⟨Bn, 0, none⟩)] W fun e W' => (∃ v, e = .returned v) ∧
      ((∃ ys, ys = chainOf p ∧ J ys W') ∨ (∃ pre, pre <+: chainOf p ∧ Jx pre W')) := by
  refine callsIn_of_wp Try.func70 rfl trivial ?_ rfl
  simp only [Try.ntmps70, List.size_toArray, List.length_cons, List.length_nil, Nat.reduceAdd, Nat.reduceSub, Array.replicate_succ, Array.replicate_zero, List.push_toArray, List.append_toArray, List.nil_append, List.cons_append]
  gi_wp2
  gi_loopw [3] (fun q wr => ∃ (pre : List Int) (x : Int), q = .int .i64 x ∧ chainOf p = pre ++ chainOf x ∧ J pre wr)
    (fun q _ => (intOf q + 1).toNat)
  case atStart => exact ⟨[], p, rfl, rfl, h0⟩
  case round =>
    obtain ⟨pre, x, rfl, hx, hJs⟩ := hrel
    by_cases ht : 0 ≤ x ∧ x ≤ 14
    · have hc := chain_cons x ht
      obtain ⟨fn, tmps, assign, body, hy, hR⟩ := hY pre x wr hJs (by rw [hx, hc]; simp)
      have hh := hide ht
      gi_wp2_with (refine ⟨trivial, ?_⟩; gi_at_call 71; refine (callsIn_wide.2 (isThere_yes x _ hh.out.1 (by have := hh.out; omega))).mono ?_; rintro e w' ⟨rfl, rfl⟩)
      refine hR.mono ?_
      clear hR hy
      rintro e W3 (⟨rfl, hJ3, hk3⟩ | ⟨rfl, hJx3⟩)
      · gi_wp2_with (refine ⟨trivial, ?_⟩; gi_at_call 72; refine (callsIn_wide.2 (over_any x _)).mono ?_; rintro e w' ⟨rfl, rfl⟩)
        go_roundw
        case rel => exact ⟨pre ++ [x], overOf x, rfl, by rw [hx, hc]; simp, hJ3⟩
        case measure => have := over_lt x ht.1; simp [intOf]; omega
      · gi_wp2
        go_end0
        exact ⟨⟨_, rfl⟩, .inr ⟨pre ++ [x], ⟨chainOf (overOf x), by rw [hx, hc]; simp⟩, hJx3⟩⟩
    · have hc := chain_nil x ht
      have hh := hide ht
      gi_wp2_with (refine ⟨trivial, ?_⟩; gi_at_call 71; refine (callsIn_wide.2 (isThere_no x _ (by have := hh.out; omega))).mono ?_; rintro e w' ⟨rfl, rfl⟩)
      refine ⟨fun _ h => (by cases h), ?_⟩
      gi_wp2
      go_end0
      exact ⟨⟨_, rfl⟩, .inl ⟨pre, by rw [hx, hc]; simp, hJs⟩⟩

set_option maxHeartbeats 1000000 in
theorem upward_in (n : Nat) (p : Int) (w : World) :
    CallsIn Fence.wide n Try.prog 51 #[.int .i64 p] w fun e w' => e = .returned (.func (.func 70) #[] #[.pointer (some ⟨w.heap.size, 0, none⟩)]) ∧ w' = w.alloc (.cells #[.int .i64 p] 51) := by
  refine callsIn_of_wp Try.func51 rfl trivial ?_ rfl
  simp only [Try.ntmps51, List.size_toArray, List.length_cons, List.length_nil, Nat.reduceAdd, Nat.reduceSub, Array.replicate_succ, Array.replicate_zero, List.push_toArray, List.append_toArray, List.nil_append, List.cons_append]
  gi_wp2
  go_ret
  exact ⟨rfl, rfl⟩

/-- What upward hands back tells a place, and all above it; or, where a round says 'no more', the first of these. -/
theorem upward_stops (n : Nat) (hn : 1 ≤ n) (Bn n₀ : Nat) (p : Int) (w : World) (hBn : Bn < w.heap.size) (hc : w.cell? ⟨Bn, 0, none⟩ = some (.int .i64 p)) :
    SeqStopsK Fence.wide n Try.prog 70 #[.pointer (some ⟨Bn, 0, none⟩)] (fun x : Int => #[Value.int .i64 x]) (Below n₀) (fun ys => ys = chainOf p) (fun pre => pre <+: chainOf p) (chainOf p).length w := fun l J Jx W hW _ _ hY h0 =>
  upward1_in n hn l Bn n₀ p J Jx hY W ((hW.cell (p := ⟨Bn, 0, none⟩) hBn).trans hc) h0
#print axioms upward_stops
end Go.Proofs.Ytkcopldlobomhaa
/-
  The laws' own look whether two rows of texts are the same.
-/
namespace Go.Proofs.Ytkcopldlobomhaa
open Go.RowKit

set_option maxHeartbeats 1000000 in
theorem eqStringS_any (v u : Value) (xs ys : List ByteArray) (w : World) (h : SRow w v xs) (k : SRow w u ys) :
    Calls Try.prog 60 #[v, u] w fun e w' => e = .returned (.bool (decide (xs = ys))) ∧ Below w.heap.size w w' := by
  obtain ⟨ao, cap, rfl, h1, h2, hc⟩ := h.form
  obtain ⟨bo, cap', rfl, h1', h2', hc'⟩ := k.form
  have hR := hide h
  have hS := hide k
  unfold maxLen at h2 h2'
  clear h k hc hc'
  by_cases hl : xs.length = ys.length
  · rw [← hl] at hS h1' ⊢
    have HL := hide hl
    clear hl
    go_enter Try.func60, Try.ntmps60
    go_wp2_with fail
    go_loopw [5] (fun i wr => ∃ k : Nat, k ≤ xs.length ∧ i = .int .i64 (k : Int) ∧ Hid (∀ j, j < k → xs.getD j ByteArray.empty = ys.getD j ByteArray.empty) ∧ Hid (Below w.heap.size w wr)) (fun i _ => xs.length - (intOf i).toNat)
    case atStart => exact ⟨0, by omega, rfl, fun j hj => by omega, Below.refl _ _⟩
    case round =>
      obtain ⟨k, hk, rfl, hN, hL⟩ := hrel
      by_cases hlt : k < xs.length
      · have hlt2 : (k : Int) < (xs.length : Int) := by omega
        obtain ⟨ao', c1, q1, _, _, q2⟩ := (SRow.below (unhide hR) (unhide hL)).form
        simp only [Value.slice.injEq] at q1
        obtain ⟨rfl, _, rfl⟩ := q1
        obtain ⟨bo', c2, q3, _, _, q4⟩ := (SRow.below (unhide hS) (unhide hL)).form
        simp only [Value.slice.injEq] at q3
        obtain ⟨rfl, z3, rfl⟩ := q3
        clear z3
        obtain ⟨a, rfl, hck⟩ := q2 k hlt
        obtain ⟨b, rfl, hck'⟩ := q4 k (by have := HL.out; omega)
        clear q2 q4
        have i3 : IntKind.i64.wrap ((k : Int) + 1) = (k : Int) + 1 := by simp [IntKind.wrap, IntKind.bits, IntKind.signed]; omega
        have hYes : Hid (xs.getD k ByteArray.empty = ys.getD k ByteArray.empty → ∀ j, j < k + 1 → xs.getD j ByteArray.empty = ys.getD j ByteArray.empty) := by
          intro ht j hj
          by_cases hjk : j = k
          · subst hjk; exact ht
          · exact hN j (by omega)
        have hNo : Hid (xs.getD k ByteArray.empty ≠ ys.getD k ByteArray.empty → decide (xs = ys) = false) := by
          intro ht
          simp
          intro e
          exact ht (by rw [e])
        generalize xs.getD k ByteArray.empty = y at hck hYes hNo
        generalize ys.getD k ByteArray.empty = z at hck' hYes hNo
        by_cases he : y = z
        · have hN1 := hide (hYes.out he)
          subst he
          go_wp2_with fail
          go_quiet (fail)
          go_wp2_with fail
          go_roundw
          case rel => exact ⟨k + 1, by omega, by simp, hN1, below_drewN (unhide hL) _⟩
          case measure => simp [intOf]; omega
        · have hE := hNo.out he
          have hnk : (y.toList == z.toList) = false := by
            cases q : (y.toList == z.toList) with
            | false => rfl
            | true => exact absurd (toList_eq.1 q) he
          go_wp2_with fail
          go_quiet (fail)
          go_wp2_with fail
          go_ret
          exact ⟨ret_bool' hE.symm, below_drewN (unhide hL) _⟩
      · have hlt2 : decide ((k : Int) < (xs.length : Int)) = false := by simp; omega
        have hE : decide (xs = ys) = true := by
          simp
          exact rows_eq HL.out (fun j hj => hN j (by omega))
        go_wp2_with fail
        go_ret
        exact ⟨ret_bool' hE.symm, unhide hL⟩
  · have hl2 : ((xs.length : Int) == (ys.length : Int)) = false := by simp; omega
    have hE : decide (xs = ys) = false := by
      simp
      intro e
      exact hl (by rw [e])
    go_enter Try.func60, Try.ntmps60
    go_wp2_with fail
    go_ret
    exact ⟨ret_bool' hE.symm, Below.refl _ _⟩
end Go.Proofs.Ytkcopldlobomhaa
/-
  The laws' own helpers over rows of texts: how great one is, a copy of one, whether two are the same.
-/
namespace Go.Proofs.Ytkcopldlobomhaa
open Go.RowKit

/-- The first k of some texts, and as many empty ones as there are more. -/
def part (xs : List ByteArray) (k : Nat) : List Value := (xs.take k).map Value.string ++ List.replicate (xs.length - k) (Value.string ⟨#[]⟩)
theorem part_zero (xs : List ByteArray) : part xs 0 = List.replicate xs.length (Value.string ⟨#[]⟩) := by unfold part; simp
theorem part_all (xs : List ByteArray) : part xs xs.length = xs.map Value.string := by unfold part; simp
theorem part_set (xs : List ByteArray) (k : Nat) (h : k < xs.length) : (part xs k).set k (.string (xs.getD k ByteArray.empty)) = part xs (k + 1) := by
  unfold part
  apply List.ext_getElem?
  intro i
  rw [List.getElem?_set]
  simp only [List.length_append, List.length_map, List.length_take, List.length_replicate]
  by_cases hik : k = i
  · subst hik
    rw [if_pos rfl, if_pos (by omega), List.getElem?_append_left (by simp; omega)]
    simp [h]
  · rw [if_neg hik]
    by_cases hlt : i < k
    · rw [List.getElem?_append_left (by simp; omega), List.getElem?_append_left (by simp; omega)]
      simp [hlt, show i < k + 1 by omega]
    · rw [List.getElem?_append_right (by simp; omega), List.getElem?_append_right (by simp; omega)]
      simp only [List.length_map, List.length_take, List.getElem?_replicate]
      congr 1
      simp
      omega

theorem part_at (xs : List ByteArray) (k : Nat) (h : k < xs.length) : (part xs k)[k]? = some (.string ⟨#[]⟩) := by
  unfold part
  rw [List.getElem?_append_right (by simp; omega)]
  simp only [List.length_map, List.length_take, List.getElem?_replicate]
  rw [if_pos (by omega)]

theorem info_str' : (Try.prog.info? 9).map (fun i => (i.zero, i.size, i.bytes)) = some (some (.string ⟨#[]⟩), 1, 16) := by kernel_rfl

#print axioms eqStringS_any
end Go.Proofs.Ytkcopldlobomhaa
/-
  The program's copy of names.
-/
namespace Go.Proofs.Ytkcopldlobomhaa
open Go.RowKit

set_option maxHeartbeats 2000000 in
theorem cloneNames_any (v : Value) (xs : List ByteArray) (w : World) (h : SRow w v xs) (hl : xs.length ≤ 1048576) (hy : ∀ x ∈ xs, x.size ≤ 1000000) :
    Calls Try.prog 50 #[v] w fun e w' => ∃ v' : Value, e = .returned v' ∧ w'.ownsRow w.heap.size 9 1 v' xs.length (xs.map Value.string) ∧ Below w.heap.size w w' := by
  obtain ⟨ao, cap, rfl, h1, h2, hc⟩ := h.form
  have hR := hide h
  unfold maxLen at h2
  have HY := hide hy
  clear h hc hy
  obtain ⟨i0, hi, hz0, hz1, hz2⟩ := info_parts info_str'
  have hI := hide (And.intro hi (And.intro hz0 (And.intro hz1 hz2)))
  have hB2 : Hid (i0.bytes * xs.length ≤ 281474976710656) := by show _ ≤ _; rw [hz2]; omega
  clear hi hz0 hz1 hz2
  go_enter Try.func50, Try.ntmps50
  go_wp2_with (at_make; refine wpList_make_full _ rfl _ _ 25 rfl w.heap.size 9 i0 (.string ⟨#[]⟩) 1 Try.underlying25 (unhide hI).1 (unhide hI).2.1 (unhide hI).2.2.1 _ _ _ _ xs.length rfl rfl rfl rfl (unhide hB2) (by unfold maxLen; omega) (Nat.le_refl _) ?_)
  intro w1 hown hgrow
  have hO1 : Hid (w1.ownsRow w.heap.size 9 1 (.slice (some ⟨w.heap.size, 0, none⟩) xs.length xs.length) xs.length (part xs 0)) := by
    rw [part_zero]
    have e : (madeCells #[Value.string ⟨#[]⟩] xs.length).toList = List.replicate xs.length (Value.string ⟨#[]⟩) := by
      simp [madeCells, Nat.mod_one, List.map_const']
    rw [← e]
    exact hown
  have hL1 : Hid (Below w.heap.size w w1) := (Below.refl _ _).grown hgrow (Nat.le_refl _) (fun k hk => by cases hk)
  clear hown hgrow
  go_wp2_with fail
  go_loopw [11] (fun i wr => ∃ k : Nat, k ≤ xs.length ∧ i = .int .i64 (k : Int) ∧ Hid (wr.ownsRow w.heap.size 9 1 (.slice (some ⟨w.heap.size, 0, none⟩) xs.length xs.length) xs.length (part xs k)) ∧ Hid (Below w.heap.size w wr)) (fun i _ => xs.length - (intOf i).toNat)
  case atStart => exact ⟨0, by omega, rfl, hO1, hL1⟩
  case round =>
    clear hO1 hL1
    obtain ⟨k, hk, rfl, hO, hL⟩ := hrel
    by_cases hlt : k < xs.length
    · have hlt2 : (k : Int) < (xs.length : Int) := by omega
      obtain ⟨ao', c1, q1, _, _, q2⟩ := (SRow.below (unhide hR) (unhide hL)).form
      simp only [Value.slice.injEq] at q1
      obtain ⟨rfl, _, rfl⟩ := q1
      obtain ⟨a, rfl, hck⟩ := q2 k hlt
      clear q2
      have i3 : IntKind.i64.wrap ((k : Int) + 1) = (k : Int) + 1 := by simp [IntKind.wrap, IntKind.bits, IntKind.signed]; omega
      have hY : Hid ((xs.getD k ByteArray.empty).size ≤ 1000000) := HY.out _ (getD_mem hlt)
      have hps := hide (part_set xs k hlt)
      generalize xs.getD k ByteArray.empty = y at hck hY hps
      have hle := hL.out.size
      go_wp2_with fail
      refine (clone_any y _ hY.out).mono ?_
      rintro e w2 ⟨rfl, hb2⟩
      have hO2 := own_below' (unhide hO) hb2
      have hL2 := (unhide hL).trans (hb2.mono hle)
      have hle2 := hL2.size
      have hfz := hO2.frozenAt k
      have hcell : w2.cell? ⟨w.heap.size, k, none⟩ = some (.string ⟨#[]⟩) := (hO2.cellAt k (by omega)).trans (part_at xs k hlt)
      have hS1 := hO2.stored k (.string y)
      rw [hps.out] at hS1
      have hS2 := hide hS1
      have hL3 := hide hL2
      clear hS1 hO2 hL2 hb2 hck
      go_wp2_with fail
      go_roundw
      case rel => exact ⟨k + 1, by omega, by simp, hS2.out.1, (unhide hL3).grown hS2.out.2 hle2 (fun j hj => by cases hj; exact Nat.le_refl _)⟩
      case measure => simp [intOf]; omega
    · have hlt2 : decide ((k : Int) < (xs.length : Int)) = false := by simp; omega
      have hkn : k = xs.length := by omega
      subst hkn
      rw [part_all] at hO
      go_wp2_with fail
      go_ret
      exact ⟨_, rfl, unhide hO, unhide hL⟩
end Go.Proofs.Ytkcopldlobomhaa
/-
  The program's ownUpward: a secret at a place, and at each place above the one made from that below.
-/
namespace Go.Proofs.Ytkcopldlobomhaa
open Go.RowKit Go.Shelf
attribute [local go_sem] Oper.semAt_some

theorem chain_len4 (p : Int) : (chainOf p).length ≤ 4 := by
  unfold chainOf
  split
  · next h =>
    obtain ⟨k, rfl⟩ : ∃ k : Nat, p = (k : Int) := ⟨p.toNat, by omega⟩
    rw [List.length_cons, upOf_nat k (by omega), List.length_map]
    have := ups_len k (by omega)
    omega
  · simp
theorem keepsOthers_belowU {w w' : World} (h : Below w.heap.size w w') : KeepsOthers w w' := ⟨h.size, fun k _ hk _ => (h.block k (Array.getElem?_eq_some_iff.1 hk).1).trans hk⟩
theorem two_newI (w : World) (x y : Value) (t : TypeId) : ∀ j u, [x, y][j]? = some u → (w.alloc (.cells #[x, y] t)).cell? (Addr.add ⟨w.heap.size, 0, none⟩ j) = some u := by
  intro j u hj
  match j, hj with
  | 0, hj => simp at hj; subst hj; simp [Addr.add, go_sem]
  | 1, hj => simp at hj; subst hj; simp [Addr.add, go_sem]

set_option maxRecDepth 100000 in
set_option maxHeartbeats 4000000 in
theorem ownUpward_in (n : Nat) (hn : 3 ≤ n) (p : Int) (s : ByteArray) (hss : s.size ≤ 300) (w : World) :
    CallsIn Fence.wide n Try.prog 26 #[.int .i64 p, .string s] w fun e W' => ∃ v, e = .returned v ∧ OwnM w.heap.size W' v (pathOf (chainOf p) s) ∧ Below w.heap.size w W' := by
  have h1 : 1 ≤ n := by omega
  have h2 : 1 ≤ n - 1 := by omega
  have hro : Fence.wide.round = none := rfl
  have hcl := chain_len4 p
  obtain ⟨i0, hi, hz0, hz1, hz2⟩ := info_parts info_mo
  have hI := hide (And.intro hi (And.intro hz0 (And.intro hz1 hz2)))
  clear hi hz0 hz1 hz2
  have bS0 := hide ((Boxed.new w 9 (.string s)).alloc (.cells #[.slice none 0 0] 28))
  have bO0 := Boxed.new (w.alloc (.cells #[.string s] 9)) 28 (.slice none 0 0)
  rw [World.size_alloc] at bO0
  have BO0 := hide bO0
  have HB0 : Hid (Below w.heap.size w ((w.alloc (.cells #[.string s] 9)).alloc (.cells #[.slice none 0 0] 28))) := ((Below.refl _ w).alloc (Nat.le_refl _) _).alloc (by simp) _
  clear bO0
  refine callsIn_of_wp_marks Try.func26 rfl trivial ?_ hro
  simp only [Try.ntmps26, List.size_toArray, List.length_cons, List.length_nil, Nat.reduceAdd, Nat.reduceSub, Array.replicate_succ, Array.replicate_zero, List.push_toArray, List.append_toArray, List.nil_append, List.cons_append]
  gi_wp2_with (first
    | (refine ⟨trivial, ?_⟩; gi_at_call 28; refine (callsIn_wide.2 (clone_any s _ (by omega))).mono ?_; rintro e w1 ⟨rfl, hb1⟩; have bS1 := box_below (unhide bS0) hb1; have BO1 := hide ((box_below (unhide BO0) hb1).other (B' := w.heap.size) (by omega) (.string s)); have c1 := bS1.cell; have c2 := bS1.frozen; have BS1 := hide (bS1.set (.string s)); have HB1 := hide (below_box (HB0.out.trans (hb1.mono HB0.out.size)) (Nat.le_refl _) (.string s)); have hs1 : w.heap.size + 2 ≤ (w1.setCell ⟨w.heap.size, 0, none⟩ (.string s)).heap.size := (by have := hb1.size; simp [World.setCell] at this ⊢; omega); clear hb1 bS1)
    | (refine ⟨trivial, ?_⟩; gi_at_call 51; refine (upward_in _ _ _).mono ?_; rintro e wz ⟨rfl, rfl⟩))
  have hq2 : (w1.setCell ⟨w.heap.size, 0, none⟩ (.string s)).heap.size = w1.heap.size := by simp [World.setCell]
  generalize w1.setCell ⟨w.heap.size, 0, none⟩ (.string s) = w2 at *
  rw [← hq2]
  clear hq2
  clear c1 c2 bS0 BO0 HB0
  have bS := (unhide BS1).alloc (.cells #[.int .i64 p] 51)
  have bO := (unhide BO1).alloc (.cells #[.int .i64 p] 51)
  have bN := Boxed.new w2 51 (.int .i64 p)
  have hB3 : Below w.heap.size w (w2.alloc (.cells #[.int .i64 p] 51)) := (unhide HB1).alloc HB1.out.size _
  have hsz : (w2.alloc (.cells #[.int .i64 p] 51)).heap.size = w2.heap.size + 1 := by simp
  obtain ⟨W0, hW0⟩ : ∃ W0, w2.alloc (.cells #[.int .i64 p] 51) = W0 := ⟨_, rfl⟩
  rw [hW0] at bS bO bN hB3 hsz ⊢
  clear hW0 BS1 BO1 HB1
  refine wpIn_rangeFunc_ownG hro h1 (gf := 70) (lb := #[.pointer (some ⟨w2.heap.size, 0, none⟩)]) rfl trivial (enters_of Try.func70 (by kernel_rfl) rfl)
    (upward_stops (n - 1) h2 w2.heap.size w.heap.size p W0 (by omega) bN.cell) belowK_t (belowK_b (by omega)) (Below.refl _ _) (fun _ => rfl)
    (fun pre W => ((∃ v, Boxed W (w.heap.size + 1) 28 v ∧ W.ownsRow w.heap.size 55 2 v pre.length (mcells (pathOf pre s)) ∧ True) ∧ Boxed W w.heap.size 9 (.string (nextN s pre.length))) ∧ Below w.heap.size w W)
    (fun _ _ _ => False)
    (OwnFrom.and (OwnFrom.and (Own.from (holdsRow_own w.heap.size (w.heap.size + 1) 28 55 2 (fun (pre : List Int) => pre.length) (fun (pre : List Int) => mcells (pathOf pre s)) (fun _ _ => True)) _) (Own.from (boxed_own _ _ (fun (pre : List Int) => Value.string (nextN s pre.length))) _)) (ownFrom_below (Nat.le_refl _) (by omega)))
    (fun _ _ _ _ _ hs _ _ => hs)
    ⟨⟨⟨_, bO, World.ownsRow_nil _ _ _ _, trivial⟩, bS⟩, hB3⟩
    (fun x => { tmps := #[.int .i64 p, .string s, undef, .pointer (some ⟨w.heap.size, 0, none⟩), .slice none 0 0, .pointer (some ⟨w.heap.size + 1, 0, none⟩), .int .i64 x, .string s, .string s, .int .i64 p, .func (.func 70) #[] #[.pointer (some ⟨w2.heap.size, 0, none⟩)], .int .i64 x, undef, undef, undef, undef, undef, undef, undef, undef, undef], defers := [] }) ?assign ?body ?done ?stop
  case assign =>
    intro l x W K hK
    gi_wp2
    exact hK
  case body =>
    rintro l pre x W ⟨⟨⟨v, hv, hrow, _⟩, hbS⟩, hB⟩ hlt
    have hc := hv.cell
    have hcs := hbS.cell
    have h3' : 1 ≤ n - 1 - 1 := by omega
    have hns := nextN_size s hss pre.length
    have HW : Hid (mcells (pathOf (pre ++ [x]) s) = mcells (pathOf pre s) ++ [.int .i64 x, .string (nextN s pre.length)]) := by show _ = _; rw [pathOf_snoc, mcells_snoc]
    have HNX : Hid (nextN s (pre ++ [x]).length = mkNext (nextN s pre.length)) := by show _ = _; rw [List.length_append]; rfl
    generalize nextN s pre.length = sc at hcs hbS HW HNX hns
    have HS := hide hbS
    clear hbS
    gi_wp2_with (gi_at_builtin; refine wpListIn_append_own _ rfl _ _ 28 rfl w.heap.size 55 i0 (.agg #[.int .i64 0, .string ⟨#[]⟩]) 2 24 underMo (unhide hI).1 (unhide hI).2.1 (unhide hI).2.2.1 (unhide hI).2.2.2 rfl (by decide) _ _ _ rfl (hrow.alloc _) ⟨W.heap.size, 0, none⟩ 1 1 [.int .i64 x, .string sc] rfl rfl (two_newI _ _ _ _) (by simp [Value.oneCell']) (by unfold maxLen; omega) (by omega) (by have := hB.size; simp; omega) ?_; intro v' w1 hown' hgrow _; obtain ⟨g', cap', rfl⟩ := ownsRow_succ hown'; obtain ⟨hv1, hv2, hr2, hk2, hb2⟩ := hv.appended (by decide) hrow hB.size (Nat.le_succ _) hown' hgrow; have hc1 := hv1.cell; have hf1 := hv1.frozen; have s1 := ((unhide HS).alloc (.cells #[.int .i64 x, .string sc] 55)).kept hgrow (Boxed.not_row ((unhide HS).alloc (.cells #[.int .i64 x, .string sc] 55)) (by decide) (hrow.alloc _)); have s2 := s1.other (B' := w.heap.size + 1) (by omega) (.slice (some ⟨g', 0, none⟩) (pre.length + 1) cap'); have hs2 := s2.cell; have S2 := hide s2; have V2 := hide hv2; have R2 := hide hr2; have K2 := hide hk2; have B2 := hide hb2; clear hown' hgrow s1 s2 hr2 hk2 hb2 hv2 hv)
    gi_wp2_with (refine ⟨trivial, ?_⟩; gi_at_call 52; refine (CallsIn.inRound l (callsIn_wide.2 (iMakNext_any sc _ (le_maxLen (by omega))))).mono ?_; rintro e wm ⟨rfl, hbm⟩; have c3 := box_below (unhide S2) hbm; have c3c := c3.cell; have c3f := c3.frozen; have F1 : Hid (Boxed (wm.setCell ⟨w.heap.size, 0, none⟩ (.string (mkNext sc))) w.heap.size 9 (.string (mkNext sc))) := c3.set _; have F2 := hide ((box_below (unhide V2) hbm).other (B' := w.heap.size) (by omega) (.string (mkNext sc))); have F4 := hide (row_box (own_below' (unhide R2) hbm) c3 (by decide) (.string (mkNext sc))); have F5 := hide ((unhide K2).trans ((keepsOthers_belowU hbm).trans (KeepsOthers.setCell wm ⟨w.heap.size, 0, none⟩ (.string (mkNext sc))))); have F6 : Hid (Below w.heap.size W (wm.setCell ⟨w.heap.size, 0, none⟩ (.string (mkNext sc)))) := ((unhide B2).trans (hbm.mono (Nat.le_trans hB.size (unhide B2).size))).setCell (p := ⟨w.heap.size, 0, none⟩) (Nat.le_refl _) _; clear c3 hbm)
    refine ⟨(unhide F5).from _, unhide F6, ⟨⟨_, unhide F2, ?_, trivial⟩, by rw [HNX.out]; exact unhide F1⟩, hB.trans (unhide F6)⟩
    rw [HW.out, List.length_append]
    exact unhide F4
  case done =>
    rintro D ys W hD rfl ⟨⟨⟨v, hv, hrow, _⟩, _⟩, hB⟩ hK
    have hc := hv.cell
    gi_wp2
    refine ⟨by simp, .inl ⟨_, _, rfl, run_takeDeferred hK, ?_⟩⟩
    refine ⟨_, results_tmp rfl _ _ _, v, rfl, ?_, hB.trans (belowK_b (w := w) (Nat.le_refl _) W D _ _ (by omega) hK rfl rfl)⟩
    unfold OwnM
    rw [pathOf_len]
    exact ownsRow_putObj hrow _ hK rfl
  case stop =>
    rintro D c pre W _ _ h _
    exact h.elim
theorem ownUpward_any (p : Int) (s : ByteArray) (hss : s.size ≤ 300) (w : World) :
    Calls Try.prog 26 #[.int .i64 p, .string s] w fun e W' => ∃ v, e = .returned v ∧ OwnM w.heap.size W' v (pathOf (chainOf p) s) ∧ Below w.heap.size w W' := callsIn_wide.1 (ownUpward_in 3 (by omega) p s hss w)
#print axioms ownUpward_any
end Go.Proofs.Ytkcopldlobomhaa
/-
  The program's iterator upward, told of places that are there.
-/
namespace Go.Proofs.Ytkcopldlobomhaa
open Go.RowKit Go.Shelf
attribute [local go_sem] Oper.semAt_some

/-- A place, and all above it, as places that are there. -/
def chainT (k : Fin 15) : List (Fin 15) := k :: (ups k.val).map (fun j => Fin.ofNat 15 j)
theorem chainT_val : ∀ k : Fin 15, (chainT k).map (·.val) = k.val :: ups k.val := by decide
theorem chainT_zero : chainT 0 = [0] := by decide
theorem chainT_step : ∀ k : Fin 15, 0 < k.val → chainT k = k :: chainT (Fin.ofNat 15 ((k.val - 1) / 2)) := by decide
theorem chainT_len : ∀ k : Fin 15, (chainT k).length ≤ 4 := by decide
def chainF (p : Int) : List (Fin 15) := if h : 0 ≤ p ∧ p ≤ 14 then chainT ⟨p.toNat, by omega⟩ else []
theorem chainF_nil (p : Int) (h : ¬ (0 ≤ p ∧ p ≤ 14)) : chainF p = [] := by unfold chainF; rw [dif_neg h]
theorem chainF_nat (k : Nat) (h : k < 15) : chainF (k : Int) = chainT ⟨k, h⟩ := by unfold chainF; rw [dif_pos (by omega)]; rfl
theorem chainF_cons (k : Nat) (h : k < 15) : chainF (k : Int) = ⟨k, h⟩ :: chainF (overOf (k : Int)) := by
  rw [chainF_nat k h]
  by_cases h0 : 0 < k
  · have e : overOf (k : Int) = (((k - 1) / 2 : Nat) : Int) := by unfold overOf; rw [if_pos (by omega)]; omega
    rw [e, chainF_nat _ (by omega), chainT_step ⟨k, h⟩ h0]
    congr 2
    apply Fin.ext
    show ((k - 1) / 2) % 15 = (k - 1) / 2
    omega
  · obtain rfl : k = 0 := by omega
    rfl

set_option maxRecDepth 100000 in
set_option maxHeartbeats 1000000 in
theorem upwardF_in (n : Nat) (hn : 1 ≤ n) (l Bn n₀ : Nat) (p : Int) (J Jx : List (Fin 15) → World → Prop)
    (hY : ∀ pre (x : Fin 15) W, J pre W → pre.length < (chainF p).length → YieldAt Fence.wide (n - 1) Try.prog l #[.int .i64 ((x.val : Nat) : Int)] W fun e W' =>
      (e = .returned (.bool true) ∧ J (pre ++ [x]) W' ∧ Below n₀ W W') ∨ (e = .returned (.bool false) ∧ Jx (pre ++ [x]) W'))
    (W : World) (hBn : W.cell? ⟨Bn, 0, none⟩ = some (.int .i64 p)) (h0 : J [] W) :
    CallsIn Fence.wide n Try.prog 70 #[.func (.yield l) #[] #[], .pointer (some ⟨Bn, 0, none⟩)] W fun e W' => (∃ v, e = .returned v) ∧
      ((∃ ys, ys = chainF p ∧ J ys W') ∨ (∃ pre, pre <+: chainF p ∧ Jx pre W')) := by
  refine callsIn_of_wp Try.func70 rfl trivial ?_ rfl
  simp only [Try.ntmps70, List.size_toArray, List.length_cons, List.length_nil, Nat.reduceAdd, Nat.reduceSub, Array.replicate_succ, Array.replicate_zero, List.push_toArray, List.append_toArray, List.nil_append, List.cons_append]
  gi_wp2
  gi_loopw [3] (fun q wr => ∃ (pre : List (Fin 15)) (x : Int), q = .int .i64 x ∧ chainF p = pre ++ chainF x ∧ J pre wr)
    (fun q _ => (intOf q + 1).toNat)
  case atStart => exact ⟨[], p, rfl, rfl, h0⟩
  case round =>
    obtain ⟨pre, x, rfl, hx, hJs⟩ := hrel
    by_cases ht : 0 ≤ x ∧ x ≤ 14
    · obtain ⟨k, rfl⟩ : ∃ k : Nat, x = (k : Int) := ⟨x.toNat, by omega⟩
      have hk : k < 15 := by omega
      have hc := chainF_cons k hk
      obtain ⟨fn, tmps, assign, body, hy, hR⟩ := hY pre ⟨k, hk⟩ wr hJs (by rw [hx, hc]; simp)
      dsimp only at hy
      have hh := hide ht
      gi_wp2_with (refine ⟨trivial, ?_⟩; gi_at_call 71; refine (callsIn_wide.2 (isThere_yes (k : Int) _ hh.out.1 (by have := hh.out; omega))).mono ?_; rintro e w' ⟨rfl, rfl⟩)
      refine hR.mono ?_
      clear hR hy
      rintro e W3 (⟨rfl, hJ3, hk3⟩ | ⟨rfl, hJx3⟩)
      · gi_wp2_with (refine ⟨trivial, ?_⟩; gi_at_call 72; refine (callsIn_wide.2 (over_any (k : Int) _)).mono ?_; rintro e w' ⟨rfl, rfl⟩)
        go_roundw
        case rel => exact ⟨pre ++ [⟨k, hk⟩], overOf (k : Int), rfl, by rw [hx, hc]; simp, hJ3⟩
        case measure => have := over_lt (k : Int) ht.1; simp [intOf]; omega
      · gi_wp2
        go_end0
        exact ⟨⟨_, rfl⟩, .inr ⟨pre ++ [⟨k, hk⟩], ⟨chainF (overOf (k : Int)), by rw [hx, hc]; simp⟩, hJx3⟩⟩
    · have hc := chainF_nil x ht
      have hh := hide ht
      gi_wp2_with (refine ⟨trivial, ?_⟩; gi_at_call 71; refine (callsIn_wide.2 (isThere_no x _ (by have := hh.out; omega))).mono ?_; rintro e w' ⟨rfl, rfl⟩)
      refine ⟨fun _ h => (by cases h), ?_⟩
      gi_wp2
      go_end0
      exact ⟨⟨_, rfl⟩, .inl ⟨pre, by rw [hx, hc]; simp, hJs⟩⟩

theorem upwardF_stops (n : Nat) (hn : 1 ≤ n) (Bn n₀ : Nat) (p : Int) (w : World) (hBn : Bn < w.heap.size) (hc : w.cell? ⟨Bn, 0, none⟩ = some (.int .i64 p)) :
    SeqStopsK Fence.wide n Try.prog 70 #[.pointer (some ⟨Bn, 0, none⟩)] (fun x : Fin 15 => #[Value.int .i64 ((x.val : Nat) : Int)]) (Below n₀) (fun ys => ys = chainF p) (fun pre => pre <+: chainF p) (chainF p).length w := fun l J Jx W hW _ _ hY h0 =>
  upwardF_in n hn l Bn n₀ p J Jx hY W ((hW.cell (p := ⟨Bn, 0, none⟩) hBn).trans hc) h0
#print axioms upwardF_stops
end Go.Proofs.Ytkcopldlobomhaa
/-
  The program's TreClear.
-/
namespace Go.Proofs.Ytkcopldlobomhaa
open Go.RowKit Go.Shelf
attribute [local go_sem] Oper.semAt_some

def vals (ps : List (Fin 15)) : List Nat := ps.map (·.val)
theorem vals_snoc (ps : List (Fin 15)) (x : Fin 15) : vals (ps ++ [x]) = vals ps ++ [x.val] := by simp [vals]
theorem vals_chain (k : Nat) (h : k < 8) : vals (chainF ((7 + k : Nat) : Int)) = (7 + k) :: ups (7 + k) := by
  rw [chainF_nat (7 + k) (by omega)]
  exact chainT_val _

end Go.Proofs.Ytkcopldlobomhaa
/-
  The program's TreSet.
-/
namespace Go.Proofs.Ytkcopldlobomhaa
open Go.RowKit Go.Shelf
attribute [local go_sem] Oper.semAt_some

theorem keepsOthers_below {w w' : World} (h : Below w.heap.size w w') : KeepsOthers w w' := ⟨h.size, fun k _ hk _ => (h.block k (Array.getElem?_eq_some_iff.1 hk).1).trans hk⟩

set_option maxRecDepth 100000 in
set_option maxHeartbeats 1000000 in
theorem mayBeSet_any (s : ByteArray) (w : World) (hm : s.size ≤ maxLen) :
    Calls Try.prog 22 #[.string s] w fun e w' => e = .returned (.bool (maySet s)) ∧ Below w.heap.size w w' := by
  have M := hide hm
  unfold maxLen at hm
  have HE : Hid (maySet s = (Kw.ok s && decide (s.size ≤ 292))) := rfl
  go_enter Try.func22, Try.ntmps22
  go_wp2_with fail
  refine (iSecOk_any s _ M.out).mono ?_
  cases hk : Kw.ok s with
  | false =>
    rintro e w1 ⟨rfl, hb1⟩
    have HK := hide hk
    clear hk
    go_wp2_with fail
    go_ret
    exact ⟨ret_bool' (by rw [HE.out, HK.out]; rfl), hb1⟩
  | true =>
    rintro e w1 ⟨rfl, hb1⟩
    have HK := hide hk
    clear hk
    by_cases h2 : s.size ≤ 292
    · have h3 : (s.size : Int) ≤ 292 := by omega
      go_wp2_with fail
      go_ret
      exact ⟨ret_bool' (by rw [HE.out, HK.out]; simp [h2]), hb1⟩
    · have h3 : decide ((s.size : Int) ≤ 292) = false := by simp; omega
      go_wp2_with fail
      go_ret
      exact ⟨ret_bool' (by rw [HE.out, HK.out]; simp [h2]), hb1⟩

set_option maxRecDepth 100000 in
set_option maxHeartbeats 2000000 in
theorem iTreSet_no (v : Value) (xs : List ByteArray) (p : Int) (s : ByteArray) (w : World) (h : SRow w v xs) (hx : ∀ x ∈ xs, x.size ≤ maxLen) (hs : s.size ≤ maxLen) (hno : ¬ ((treOk xs = true ∧ 0 ≤ p ∧ p ≤ 7) ∧ maySet s = true)) :
    Calls Try.prog 24 #[.agg #[v], .int .i64 p, .string s] w fun e w' => ∃ u, e = .returned (.agg #[u]) ∧ Own w.heap.size w' u [] ∧ Below w.heap.size w w' := by
  obtain ⟨ao, cap, rfl, h1, h2, _⟩ := h.form
  have HX := hide hx
  have HS := hide hs
  have hR := hide h
  have HN := hide hno
  clear h hx hno hs
  go_enter Try.func24, Try.ntmps24
  go_wp2_with fail
  refine (iTreOk_any _ xs _ ((((unhide hR).below ((Below.refl _ _).alloc (Nat.le_refl _) _)).below ((Below.refl _ _).alloc (Nat.le_refl _) _)).below ((Below.refl _ _).alloc (Nat.le_refl _) _)) (unhide HX)).mono ?_
  rintro e w1 ⟨rfl, hb1⟩
  have S1 := hide (box_below ((Boxed.new (w.alloc (.cells #[.slice ao xs.length cap] 27)) 9 (.string s)).alloc (.cells #[.slice none 0 0] 27)) hb1)
  have B1 := hide (box_below (Boxed.new ((w.alloc (.cells #[.slice ao xs.length cap] 27)).alloc (.cells #[.string s] 9)) 27 (.slice none 0 0)) hb1)
  simp only [World.size_alloc] at B1 S1
  have HB1 : Hid (Below w.heap.size w w1) := ((((Below.refl _ _).alloc (Nat.le_refl _) _).alloc (by simp) _).alloc (by simp; omega) _).trans (hb1.mono (by simp; omega))
  have l0 := (unhide S1).cell
  clear hb1
  cases hk : treOk xs with
  | false =>
    have HB2 := hide (below_box (unhide HB1) (b := w.heap.size + 1 + 1) (by omega) (.slice none 0 0))
    have l1 := (unhide B1).cell
    have l2 := (unhide B1).frozen
    have l3 := ((unhide B1).set (.slice none 0 0)).cell
    clear hk
    go_wp2_with fail
    refine bodyPost_ret (v := .agg #[.slice none 0 0]) (by simp [results, Try.results24, go_sem, l3]) rfl ⟨_, rfl, World.ownsRow_nil _ _ _ _, unhide HB2⟩
  | true =>
    by_cases hp : 0 ≤ p ∧ p ≤ 7
    · have hms : Hid (maySet s = false) := by
        show _ = _
        cases q : maySet s with
        | false => rfl
        | true => exact absurd ⟨⟨hk, hp⟩, q⟩ HN.out
      have HP := hide hp
      clear hk hp
      go_wp2_with fail
      refine (isOne_yes _ _ HP.out.1 (by have := HP.out; omega)).mono ?_
      rintro e wq ⟨rfl, rfl⟩
      go_wp2_with fail
      refine (mayBeSet_any s _ HS.out).mono ?_
      rw [hms.out]
      rintro e w2 ⟨rfl, hb2⟩
      have HB3 := hide (HB1.out.trans (hb2.mono HB1.out.size))
      have B2 := box_below (unhide B1) hb2
      have HB2 := hide (below_box (unhide HB3) (b := w.heap.size + 1 + 1) (by omega) (.slice none 0 0))
      have l1 := B2.cell
      have l2 := B2.frozen
      have l3 := (B2.set (.slice none 0 0)).cell
      clear hb2 B2 l0
      go_wp2_with fail
      refine bodyPost_ret (v := .agg #[.slice none 0 0]) (by simp [results, Try.results24, go_sem, l3]) rfl ⟨_, rfl, World.ownsRow_nil _ _ _ _, unhide HB2⟩
    · have HB2 := hide (below_box (unhide HB1) (b := w.heap.size + 1 + 1) (by omega) (.slice none 0 0))
      have l1 := (unhide B1).cell
      have l2 := (unhide B1).frozen
      have l3 := ((unhide B1).set (.slice none 0 0)).cell
      have HP := hide hp
      clear hk hp
      go_wp2_with fail
      refine (isOne_no _ _ (by have := HP.out; omega)).mono ?_
      rintro e wq ⟨rfl, rfl⟩
      go_wp2_with fail
      refine bodyPost_ret (v := .agg #[.slice none 0 0]) (by simp [results, Try.results24, go_sem, l3]) rfl ⟨_, rfl, World.ownsRow_nil _ _ _ _, unhide HB2⟩

set_option maxRecDepth 100000 in
set_option maxHeartbeats 8000000 in
theorem iTreSet_ok (v : Value) (xs : List ByteArray) (k : Nat) (hk : k < 8) (s : ByteArray) (hms : maySet s = true) (w : World) (h : SRow w v xs) (hok : treOk xs = true) (n : Nat) (hn : 4 ≤ n) :
    CallsIn Fence.wide n Try.prog 24 #[.agg #[v], .int .i64 (k : Int), .string s] w fun e w' => ∃ u, e = .returned (.agg #[u]) ∧ Own w.heap.size w' u (setKeys xs k s) ∧ Below w.heap.size w w' := by
  have hl : xs.length = 15 := (treOk_iff.1 hok).1
  have hsm := treOk_small hok
  obtain ⟨ao, cap, rfl, h1, h2, _⟩ := h.form
  rw [hl] at h ⊢
  have h1' : 1 ≤ n := by omega
  have h2' : 1 ≤ n - 1 := by omega
  have hro : Fence.wide.round = none := rfl
  have HSM := hide hsm
  have HOK := hide hok
  have HMS := hide hms
  have hss : s.size ≤ 300 := by
    unfold maySet at hms
    simp at hms
    omega
  have hR := hide h
  have hLf : Hid (leafOf (k : Int) = ((7 + k : Nat) : Int)) := by show _ = _; unfold leafOf; rw [if_pos (by omega)]; omega
  have HL := hide hl
  clear h hok hsm h1 h2 hl hms
  refine callsIn_of_wp_marks Try.func24 rfl trivial ?_ hro
  simp only [Try.ntmps24, List.size_toArray, List.length_cons, List.length_nil, Nat.reduceAdd, Nat.reduceSub, Array.replicate_succ, Array.replicate_zero, List.push_toArray, List.append_toArray, List.nil_append, List.cons_append]
  gi_wp2_with (first
    | (refine ⟨trivial, ?_⟩; gi_at_call 37; refine (callsIn_wide.2 (iTreOk_any _ xs _ ((((unhide hR).below ((Below.refl _ _).alloc (Nat.le_refl _) _)).below ((Below.refl _ _).alloc (Nat.le_refl _) _)).below ((Below.refl _ _).alloc (Nat.le_refl _) _)) (fun x hx => Nat.le_trans (HSM.out x hx) (by unfold maxLen; omega)))).mono ?_; rw [HOK.out]; rintro e w1 ⟨rfl, hb1⟩; have A1 := box_below (((Boxed.new w 27 (.slice ao 15 cap)).alloc (.cells #[.string s] 9)).alloc (.cells #[.slice none 0 0] 27)) hb1; have C1 := box_below ((Boxed.new (w.alloc (.cells #[.slice ao 15 cap] 27)) 9 (.string s)).alloc (.cells #[.slice none 0 0] 27)) hb1; have B1 := box_below (Boxed.new ((w.alloc (.cells #[.slice ao 15 cap] 27)).alloc (.cells #[.string s] 9)) 27 (.slice none 0 0)) hb1; simp only [World.size_alloc] at B1 C1; have HA1 := A1.cell; have HC1 := C1.cell; have HB1 : Hid (Below w.heap.size w w1) := ((((Below.refl _ _).alloc (Nat.le_refl _) _).alloc (by simp) _).alloc (by simp; omega) _).trans (hb1.mono (by simp; omega)); have A1h := hide A1; have B1h := hide B1; have C1h := hide C1; have hs1 := hb1.size; simp only [World.size_alloc] at hs1; clear hb1 A1 B1 C1)
    | (refine ⟨trivial, ?_⟩; gi_at_call 21; refine (callsIn_wide.2 (isOne_yes (k : Int) _ (by omega) (by omega))).mono ?_; rintro e wq ⟨rfl, rfl⟩)
    | (refine ⟨trivial, ?_⟩; gi_at_call 22; refine (callsIn_wide.2 (mayBeSet_any s _ (by unfold maxLen; omega))).mono ?_; rw [HMS.out]; rintro e w5 ⟨rfl, hb5⟩; have A5h := hide (box_below (unhide A1h) hb5); have B5h := hide (box_below (unhide B1h) hb5); have C5h := hide (box_below (unhide C1h) hb5); have HB5 := hide (HB1.out.trans (hb5.mono HB1.out.size)); have hs5 := hb5.size; have HA5 := (unhide A5h).cell; clear hb5 HA1 HC1)
    | (refine ⟨trivial, ?_⟩; gi_at_call 50; refine (callsIn_wide.2 (cloneNames_any _ xs _ ((unhide hR).below (unhide HB5)) (by have := HL.out; omega) (fun x hx => Nat.le_trans (HSM.out x hx) (by omega)))).mono ?_; rw [HL.out]; rintro e w2 ⟨v2, rfl, ho2, hb2⟩; obtain ⟨g, c2, rfl, hg1, hg2, hg3, hg4⟩ := row15 ho2; have O2 := hide ho2; have HB2 := hide (HB5.out.trans (hb2.mono HB5.out.size)); have B2h := hide (box_below (unhide B5h) hb2); have C2h := hide (box_below (unhide C5h) hb2); have hs2 := hb2.size; clear ho2 hb2 HA5)
    | (refine ⟨trivial, ?_⟩; gi_at_call 27; refine (callsIn_wide.2 (placeOf_any (k : Int) _)).mono ?_; rw [hLf.out]; rintro e wz ⟨rfl, rfl⟩)
    | (refine ⟨trivial, ?_⟩; gi_at_call 51; refine (upward_in _ _ _).mono ?_; rintro e wz ⟨rfl, rfl⟩))
  have bK := (Boxed.new w2 25 (.slice (some ⟨g, 0, none⟩) 15 c2)).alloc (.cells #[.int .i64 (7 + (k : Int))] 51)
  have bN := Boxed.new (w2.alloc (.cells #[.slice (some ⟨g, 0, none⟩) 15 c2] 25)) 51 (.int .i64 (7 + (k : Int)))
  have bR := ((unhide B2h).alloc (.cells #[.slice (some ⟨g, 0, none⟩) 15 c2] 25)).alloc (.cells #[.int .i64 (7 + (k : Int))] 51)
  have bS := ((unhide C2h).alloc (.cells #[.slice (some ⟨g, 0, none⟩) 15 c2] 25)).alloc (.cells #[.int .i64 (7 + (k : Int))] 51)
  rw [World.size_alloc] at bN
  have hO3 := own_below' (own_below' (unhide O2) ((Below.refl _ _).alloc (Nat.le_refl _) (.cells #[.slice (some ⟨g, 0, none⟩) 15 c2] 25))) ((Below.refl _ _).alloc (Nat.le_refl _) (.cells #[.int .i64 (7 + (k : Int))] 51))
  have hB3 : Below w.heap.size w ((w2.alloc (.cells #[.slice (some ⟨g, 0, none⟩) 15 c2] 25)).alloc (.cells #[.int .i64 (7 + (k : Int))] 51)) := ((unhide HB2).alloc HB2.out.size _).alloc (by simp; have := HB2.out.size; omega) _
  have hsz : ((w2.alloc (.cells #[.slice (some ⟨g, 0, none⟩) 15 c2] 25)).alloc (.cells #[.int .i64 (7 + (k : Int))] 51)).heap.size = w2.heap.size + 2 := by simp
  have hw2 := HB2.out.size
  have hw5 := HB5.out.size
  obtain ⟨W0, hW0⟩ : ∃ W0, (w2.alloc (.cells #[.slice (some ⟨g, 0, none⟩) 15 c2] 25)).alloc (.cells #[.int .i64 (7 + (k : Int))] 51) = W0 := ⟨_, rfl⟩
  rw [hW0] at bK bN bR bS hO3 hB3 hsz ⊢
  clear hW0
  refine wpIn_rangeFunc_ownG hro h1' (gf := 70) (lb := #[.pointer (some ⟨w2.heap.size + 1, 0, none⟩)]) rfl trivial (enters_of Try.func70 (by kernel_rfl) rfl)
    (upwardF_stops (n - 1) h2' (w2.heap.size + 1) w.heap.size (7 + (k : Int)) W0 (by omega) bN.cell) belowK_t (belowK_b (by omega)) (Below.refl _ _) (fun _ => rfl)
    (fun pre W => (((∃ u, Boxed W w2.heap.size 25 u ∧ W.ownsRow w5.heap.size 9 1 u 15 ((fill xs s (vals pre)).map Value.string) ∧ u = .slice (some ⟨g, 0, none⟩) 15 c2) ∧ Boxed W (w.heap.size + 1) 9 (.string (nextN s pre.length))) ∧ Boxed W (w.heap.size + 1 + 1) 27 (.slice none 0 0)) ∧ Below w.heap.size w W)
    (fun _ _ _ => False)
    (OwnFrom.and (OwnFrom.and (OwnFrom.and (Own.from (holdsRow_own w5.heap.size w2.heap.size 25 9 1 (fun (_ : List (Fin 15)) => 15) (fun (pre : List (Fin 15)) => (fill xs s (vals pre)).map Value.string) (fun _ u => u = .slice (some ⟨g, 0, none⟩) 15 c2)) _) (Own.from (boxed_own _ _ (fun (pre : List (Fin 15)) => Value.string (nextN s pre.length))) _)) (Own.from (boxed_own _ _ _) _)) (ownFrom_below (Nat.le_refl _) (by omega)))
    (fun _ _ _ _ _ hs _ _ => hs)
    ⟨⟨⟨⟨_, bK, hO3, rfl⟩, bS⟩, bR⟩, hB3⟩
    (fun x => { tmps := #[.agg #[.slice ao 15 cap], .int .i64 (k : Int), .string s, .pointer (some ⟨w.heap.size, 0, none⟩), undef, .pointer (some ⟨w.heap.size + 1, 0, none⟩), .pointer (some ⟨w.heap.size + 1 + 1, 0, none⟩), .pointer (some ⟨w2.heap.size, 0, none⟩), .int .i64 ((x.val : Nat) : Int), .agg #[.slice ao 15 cap], .bool true, .bool false, .bool false, .int .i64 (k : Int), .bool true, .bool false, .bool false, .bool false, .string s, .bool true, .bool false, .bool false, undef, .pointer (some ⟨w.heap.size, 0, none⟩), .slice ao 15 cap, .slice (some ⟨g, 0, none⟩) 15 c2, .int .i64 (k : Int), .int .i64 (7 + (k : Int)), .func (.func 70) #[] #[.pointer (some ⟨w2.heap.size + 1, 0, none⟩)], .int .i64 ((x.val : Nat) : Int), undef, undef, undef, undef, undef, undef, undef, undef, undef], defers := [] }) ?assign ?body ?done ?stop
  case assign =>
    intro l x W K hK
    gi_wp2
    exact hK
  case body =>
    rintro l pre x W ⟨⟨⟨⟨u, hu, hrow, rfl⟩, hbS⟩, hbR⟩, hB⟩ hlt
    have hj := x.isLt
    have hc := hu.cell
    have hcs := hbS.cell
    have j1 : ((x.val : Nat) : Int) < 15 := by omega
    have h3' : 1 ≤ n - 1 - 1 := by omega
    have hns := nextN_size s hss pre.length
    have HW : Hid (fill xs s (vals (pre ++ [x])) = (fill xs s (vals pre)).set x.val (mkKey (nextN s pre.length))) := by show _ = _; rw [vals_snoc, fill_snoc]; simp [vals]
    have HNX : Hid (nextN s (pre ++ [x]).length = mkNext (nextN s pre.length)) := by show _ = _; rw [List.length_append]; rfl
    generalize nextN s pre.length = sc at hcs hbS HW HNX hns
    have HROW := hide hrow
    have HU := hide hu
    have HS := hide hbS
    have HR := hide hbR
    clear hrow hu hbS hbR
    gi_wp2
    have hmx : Try.prog.follows .mixedOrders = true := by kernel_rfl
    gi_region_with_o (refine ⟨trivial, ?_⟩; gi_at_call 14; refine (CallsIn.inRound l (callsIn_wide.2 (iMakKey_any sc _ (le_maxLen (by omega))))).mono ?_; rintro e wk ⟨rfl, hbk⟩; have o1 := own_below' (w := W.drew) (unhide HROW) hbk; obtain ⟨s1, s2, s3, s4⟩ := row15_set (by rw [fill_len]; exact HL.out) o1 x.val hj (mkKey sc); have k1 := box_below (w := W.drew) (unhide HU) hbk; have k2 := hide (box_grown k1 o1 (by decide) s4); have r2 := hide (box_grown (box_below (w := W.drew) (unhide HR) hbk) o1 (by decide) s4); have c1 := box_below (w := W.drew) (unhide HS) hbk; have c2' := c1.kept s4 (fun q => by cases q; omega); have C2 := hide c2'; have k1c := k1.cell; have c2c := c2'.cell; have S3 := hide s3; have KO := hide ((keepsOthers_below hbk).trans (KeepsOthers.setCell wk ⟨g, x.val, none⟩ (.string (mkKey sc)))); have BW : Hid (Below w.heap.size W (wk.setCell ⟨g, x.val, none⟩ (.string (mkKey sc)))) := ((Below.refl w.heap.size W).drew.trans (hbk.mono hB.size)).setCell (p := ⟨g, x.val, none⟩) (by show w.heap.size ≤ g; omega) _; clear o1 s3 s4 k1 c1 c2' hbk; generalize (fill xs s (vals pre)).getD x.val ByteArray.empty = old at s1; generalize mkKey sc = ky at *)
    all_goals gi_wp2_with (refine ⟨trivial, ?_⟩; gi_at_call 52; refine (CallsIn.inRound l (callsIn_wide.2 (iMakNext_any sc _ (le_maxLen (by omega))))).mono ?_; rintro e wm ⟨rfl, hbm⟩; have c3 := box_below (unhide C2) hbm; have c3c := c3.cell; have c3f := c3.frozen; have F1 : Hid (Boxed (wm.setCell ⟨w.heap.size + 1, 0, none⟩ (.string (mkNext sc))) (w.heap.size + 1) 9 (.string (mkNext sc))) := c3.set _; have F2 : Hid (Boxed (wm.setCell ⟨w.heap.size + 1, 0, none⟩ (.string (mkNext sc))) w2.heap.size 25 (.slice (some ⟨g, 0, none⟩) 15 c2)) := (box_below (unhide k2) hbm).other (by omega) _; have F3 : Hid (Boxed (wm.setCell ⟨w.heap.size + 1, 0, none⟩ (.string (mkNext sc))) (w.heap.size + 1 + 1) 27 (.slice none 0 0)) := (box_below (unhide r2) hbm).other (by omega) _; have F4 := hide (World.ownsRow.kept (own_below' (unhide S3) hbm) (grownBy_setCell' wm (w.heap.size + 1) (.string (mkNext sc))) (.inr (by simp [Value.ownBlock]; omega))); have F5 := hide ((unhide KO).trans ((keepsOthers_below hbm).trans (KeepsOthers.setCell wm ⟨w.heap.size + 1, 0, none⟩ (.string (mkNext sc))))); have F6 : Hid (Below w.heap.size W (wm.setCell ⟨w.heap.size + 1, 0, none⟩ (.string (mkNext sc)))) := ((unhide BW).trans (hbm.mono (Nat.le_trans hB.size (unhide BW).size))).setCell (p := ⟨w.heap.size + 1, 0, none⟩) (by simp) _; clear c3 hbm)
    all_goals exact ⟨((KeepsOthers.drew W).trans (unhide F5)).from _, unhide F6, ⟨⟨⟨_, unhide F2, by rw [HW.out]; exact unhide F4, rfl⟩, by rw [HNX.out]; exact unhide F1⟩, unhide F3⟩, hB.trans (unhide F6)⟩
  case done =>
    rintro D ys W hD rfl ⟨⟨⟨⟨u, hu, hrow, rfl⟩, hbS⟩, hbR⟩, hB⟩ hK
    have hc := hu.cell
    have hc2 := hbR.cell
    have hc3 := hbR.frozen
    have HE : Hid (fill xs s (vals (chainF (7 + (k : Int)))) = setKeys xs k s) := by
      show _ = _
      have q := vals_chain k hk
      rw [show (((7 + k : Nat) : Int)) = 7 + (k : Int) by omega] at q
      rw [q]
      rfl
    have R1 := row_box hrow hbR (by decide) (.slice (some ⟨g, 0, none⟩) 15 c2)
    gi_wp2
    have hK' := (KeepsOthers.setCell W ⟨w.heap.size + 1 + 1, 0, none⟩ (.slice (some ⟨g, 0, none⟩) 15 c2)).same D _ hK rfl
    refine ⟨by simp, .inl ⟨_, _, rfl, run_takeDeferred hK', ?_⟩⟩
    have hc5 := cell_kept (hbR.set (.slice (some ⟨g, 0, none⟩) 15 c2)).cell (grownBy_putObj' _ D (.deferred none)) (fun r e => by cases e; exact ⟨_, hK', rfl⟩)
    refine ⟨.agg #[.slice (some ⟨g, 0, none⟩) 15 c2], ?_, _, rfl, ?_, (hB.setCell (p := ⟨w.heap.size + 1 + 1, 0, none⟩) (by simp; omega) _).trans (belowK_b (w := w) (Nat.le_refl _) _ D _ _ (by omega) hK' rfl rfl)⟩
    · simp [results, Try.f24, go_sem, hc5]
    · have q := ownsRow_putObj R1 (.deferred none) hK' rfl
      rw [HE.out] at q
      unfold Own
      rw [setKeys_len, HL.out]
      exact row_lowB q hw5
  case stop =>
    rintro D c pre W _ _ h _
    exact h.elim

theorem iTreSet_any (v : Value) (xs : List ByteArray) (p : Int) (s : ByteArray) (w : World) (h : SRow w v xs) (hx : ∀ x ∈ xs, x.size ≤ maxLen) (hs : s.size ≤ maxLen) :
    Calls Try.prog 24 #[.agg #[v], .int .i64 p, .string s] w fun e w' => ∃ u, e = .returned (.agg #[u]) ∧ Own w.heap.size w' u (setRes xs p s) ∧ Below w.heap.size w w' := by
  by_cases hy : (treOk xs = true ∧ 0 ≤ p ∧ p ≤ 7) ∧ maySet s = true
  · obtain ⟨k, rfl⟩ : ∃ k : Nat, p = (k : Int) := ⟨p.toNat, by omega⟩
    rw [setRes_yes hy.1.1 (by omega) hy.2]
    exact callsIn_wide.1 (iTreSet_ok v xs k (by omega) s hy.2 w h hy.1.1 4 (Nat.le_refl _))
  · rw [setRes_no hy]
    exact iTreSet_no v xs p s w h hx hs hy
#print axioms iTreSet_any
end Go.Proofs.Ytkcopldlobomhaa
