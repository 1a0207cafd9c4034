/-
  The program's iterator upward, told of places that are there.
-/
import Derived.Test.YtkcopldlobomhaaPlcI
namespace Go.Proofs.Ytkcopldlobomhaa
open Go.RowKit Go.Shelf
attribute [local go_sem] Oper.semAt_some

/-- A place, and all above it, as places that are there. -/
def chainT (k : Fin 15) : List (Fin 15) := k :: (ups k.val).map (fun j => Fin.ofNat 15 j)
theorem chainT_val : ∀ k : Fin 15, (chainT k).map (·.val) = k.val :: ups k.val := by decide
theorem chainT_zero : chainT 0 = [0] := by decide
theorem chainT_step : ∀ k : Fin 15, 0 < k.val → chainT k = k :: chainT (Fin.ofNat 15 ((k.val - 1) / 2)) := by decide
theorem chainT_len : ∀ k : Fin 15, (chainT k).length ≤ 4 := by decide
def chainF (p : Int) : List (Fin 15) := if h : 0 ≤ p ∧ p ≤ 14 then chainT ⟨p.toNat, by omega⟩ else []
theorem chainF_nil (p : Int) (h : ¬ (0 ≤ p ∧ p ≤ 14)) : chainF p = [] := by unfold chainF; rw [dif_neg h]
theorem chainF_nat (k : Nat) (h : k < 15) : chainF (k : Int) = chainT ⟨k, h⟩ := by unfold chainF; rw [dif_pos (by omega)]; rfl
theorem chainF_cons (k : Nat) (h : k < 15) : chainF (k : Int) = ⟨k, h⟩ :: chainF (overOf (k : Int)) := by
  rw [chainF_nat k h]
  by_cases h0 : 0 < k
  · have e : overOf (k : Int) = (((k - 1) / 2 : Nat) : Int) := by unfold overOf; rw [if_pos (by omega)]; omega
    rw [e, chainF_nat _ (by omega), chainT_step ⟨k, h⟩ h0]
    congr 2
    apply Fin.ext
    show ((k - 1) / 2) % 15 = (k - 1) / 2
    omega
  · obtain rfl : k = 0 := by omega
    rfl

set_option maxRecDepth 100000 in
set_option maxHeartbeats 1000000 in
theorem upwardF_in (n : Nat) (hn : 1 ≤ n) (l Bn n₀ : Nat) (p : Int) (J Jx : List (Fin 15) → World → Prop)
    (hY : ∀ pre (x : Fin 15) W, J pre W → pre.length < (chainF p).length → YieldAt Fence.wide (n - 1) Try.prog l #[.int .i64 ((x.val : Nat) : Int)] W fun e W' =>
      (e = .returned (.bool true) ∧ J (pre ++ [x]) W' ∧ Below n₀ W W') ∨ (e = .returned (.bool false) ∧ Jx (pre ++ [x]) W'))
    (W : World) (hBn : W.cell? ⟨Bn, 0, none⟩ = some (.int .i64 p)) (h0 : J [] W) :
    CallsIn Fence.wide n Try.prog 70 #[.func (.yield l) #[] #[], .pointer (some ⟨Bn, 0, none⟩)] W fun e W' => (∃ v, e = .returned v) ∧
      ((∃ ys, ys = chainF p ∧ J ys W') ∨ (∃ pre, pre <+: chainF p ∧ Jx pre W')) := by
  refine callsIn_of_wp Try.func70 rfl trivial ?_ rfl
  simp only [Try.ntmps70, List.size_toArray, List.length_cons, List.length_nil, Nat.reduceAdd, Nat.reduceSub, Array.replicate_succ, Array.replicate_zero, List.push_toArray, List.append_toArray, List.nil_append, List.cons_append]
  gi_wp2
  gi_loopw [3] (fun q wr => ∃ (pre : List (Fin 15)) (x : Int), q = .int .i64 x ∧ chainF p = pre ++ chainF x ∧ J pre wr)
    (fun q _ => (intOf q + 1).toNat)
  case atStart => exact ⟨[], p, rfl, rfl, h0⟩
  case round =>
    obtain ⟨pre, x, rfl, hx, hJs⟩ := hrel
    by_cases ht : 0 ≤ x ∧ x ≤ 14
    · obtain ⟨k, rfl⟩ : ∃ k : Nat, x = (k : Int) := ⟨x.toNat, by omega⟩
      have hk : k < 15 := by omega
      have hc := chainF_cons k hk
      obtain ⟨fn, tmps, assign, body, hy, hR⟩ := hY pre ⟨k, hk⟩ wr hJs (by rw [hx, hc]; simp)
      dsimp only at hy
      have hh := hide ht
      gi_wp2_with (refine ⟨trivial, ?_⟩; gi_at_call 71; refine (callsIn_wide.2 (isThere_yes (k : Int) _ hh.out.1 (by have := hh.out; omega))).mono ?_; rintro e w' ⟨rfl, rfl⟩)
      refine hR.mono ?_
      clear hR hy
      rintro e W3 (⟨rfl, hJ3, hk3⟩ | ⟨rfl, hJx3⟩)
      · gi_wp2_with (refine ⟨trivial, ?_⟩; gi_at_call 72; refine (callsIn_wide.2 (over_any (k : Int) _)).mono ?_; rintro e w' ⟨rfl, rfl⟩)
        go_roundw
        case rel => exact ⟨pre ++ [⟨k, hk⟩], overOf (k : Int), rfl, by rw [hx, hc]; simp, hJ3⟩
        case measure => have := over_lt (k : Int) ht.1; simp [intOf]; omega
      · gi_wp2
        go_end0
        exact ⟨⟨_, rfl⟩, .inr ⟨pre ++ [⟨k, hk⟩], ⟨chainF (overOf (k : Int)), by rw [hx, hc]; simp⟩, hJx3⟩⟩
    · have hc := chainF_nil x ht
      have hh := hide ht
      gi_wp2_with (refine ⟨trivial, ?_⟩; gi_at_call 71; refine (callsIn_wide.2 (isThere_no x _ (by have := hh.out; omega))).mono ?_; rintro e w' ⟨rfl, rfl⟩)
      refine ⟨fun _ h => (by cases h), ?_⟩
      gi_wp2
      go_end0
      exact ⟨⟨_, rfl⟩, .inl ⟨pre, by rw [hx, hc]; simp, hJs⟩⟩

theorem upwardF_stops (n : Nat) (hn : 1 ≤ n) (Bn n₀ : Nat) (p : Int) (w : World) (hBn : Bn < w.heap.size) (hc : w.cell? ⟨Bn, 0, none⟩ = some (.int .i64 p)) :
    SeqStopsK Fence.wide n Try.prog 70 #[.pointer (some ⟨Bn, 0, none⟩)] (fun x : Fin 15 => #[Value.int .i64 ((x.val : Nat) : Int)]) (Below n₀) (fun ys => ys = chainF p) (fun pre => pre <+: chainF p) (chainF p).length w := fun l J Jx W hW _ _ hY h0 =>
  upwardF_in n hn l Bn n₀ p J Jx hY W ((hW.cell (p := ⟨Bn, 0, none⟩) hBn).trans hc) h0
#print axioms upwardF_stops
end Go.Proofs.Ytkcopldlobomhaa
