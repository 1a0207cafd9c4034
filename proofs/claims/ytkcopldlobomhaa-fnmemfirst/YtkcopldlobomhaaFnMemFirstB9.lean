/-
  A drawn one, and two drawn texts: the draw returns, and nothing that was there is written.
-/
import Derived.Test.YtkcopldlobomhaaFnMemFirstB8
import Derived.Test.YtkcopldlobomhaaFnMemFirstB5
namespace Go.Proofs.Ytkcopldlobomhaa
open Go.RowKit

set_option maxHeartbeats 400000 in
theorem DrawMemFirst_any (a : Option Addr) (len cap : Nat) (zs : List Int) (w : World) (h : IsRow .u8 w a len cap zs) :
    Calls Try.prog 5 #[.slice a len cap] w fun e w' => ∃ (p : Int) (s t : ByteArray), e = .returned (.tuple #[.int .i64 p, .string s, .string t]) ∧ -1 ≤ p ∧ p ≤ 8 ∧ s.size ≤ 700 ∧ t.size ≤ 700 ∧ Below w.heap.size w w' := by
  have hR := hide h
  clear h
  go_enter Try.func5, Try.ntmps5
  go_wp2_with fail
  refine (l20Open_any a len cap zs _ (unhide hR)).mono ?_
  rintro e w1 ⟨C, rfl, d1, hb1⟩
  have D1 := hide d1
  clear d1
  go_wp2_with fail
  refine (pick_any w.heap.size C 0 10 _ rfl _ (unhide D1) (by omega) (by omega) (by omega)).mono ?_
  rintro e w2 ⟨v, rfl, hv, d2, x2⟩
  have D2 := hide d2
  have i1 : IntKind.i64.wrap ((v : Int) - 1) = (v : Int) - 1 := by simp [IntKind.wrap, IntKind.bits, IntKind.signed]; omega
  clear d2
  go_wp2_with fail
  refine (l20SecretOr_any w.heap.size C _ 6 _ rfl _ (unhide D2) (by omega) (by omega) (by omega)).mono ?_
  rintro e w3 ⟨s, q, rfl, hs, hq, d3, x3⟩
  have D3 := hide d3
  clear d3
  go_wp2_with fail
  refine (l20SecretOr_any w.heap.size C q 6 _ rfl _ (unhide D3) (by omega) (by omega) (by omega)).mono ?_
  rintro e w4 ⟨t, q4, rfl, ht, hq4, d4, x4⟩
  go_wp2_with fail
  go_ret3
  exact ⟨(v : Int) - 1, s, t, rfl, by omega, by omega, hs, ht, hb1.trans (((x2.trans x3).trans x4).below (Nat.le_refl _) hb1.size)⟩
#print axioms DrawMemFirst_any
end Go.Proofs.Ytkcopldlobomhaa
/-
  A region that draws its order: two that make memory may come up, one ahead of the other.
-/
namespace Go.Proofs.Ytkcopldlobomhaa
open Go.RowKit
section
variable {P : Program} {ops : Array Oper} {Q : Exit → Act → World → Prop} {md : Region.Mode} {R : World → World → Prop}
theorem ord_two {i j : Nat} {fuel : Nat} {listed : Array Bool} {a : Act} {w : World} (hr : Region.ready md ops listed = [i, j])
    (h : ∀ oi K, ops[i]? = some oi → Shut (∀ a' w', R w w' → wpAnyR P md ops Q R fuel (listed.setIfInBounds i true) a' w' → K a' w') → Region.wanted oi (yielded ops a.tmps) = true ∧ oi.wp P a w K Q)
    (k : ∀ oi K, ops[j]? = some oi → Shut (∀ a' w', R w w' → wpAnyR P md ops Q R fuel (listed.setIfInBounds j true) a' w' → K a' w') → Region.wanted oi (yielded ops a.tmps) = true ∧ oi.wp P a w K Q) : wpAnyR P md ops Q R (fuel + 1) listed a w := by
  refine ⟨fun h0 => (by rw [hr] at h0; cases h0), fun z hz => ?_⟩
  have step : ∀ z, z ∈ Region.ready md ops listed → (∀ oi K, ops[z]? = some oi → Shut (∀ a' w', R w w' → wpAnyR P md ops Q R fuel (listed.setIfInBounds z true) a' w' → K a' w') → Region.wanted oi (yielded ops a.tmps) = true ∧ oi.wp P a w K Q) →
      wpOp P ops Q z (fun a' w' => (waitsB md ops z = true ∧ Region.ready md ops (listed.setIfInBounds z true) = [] ∧ Q .normal a' w') ∨ (R w w' ∧ wpAnyR P md ops Q R fuel (listed.setIfInBounds z true) a' w')) a w := by
    intro z hm hh
    unfold wpOp
    cases hi : ops[z]? with
    | none =>
      obtain ⟨_, o, ho, _⟩ := mem_ready.1 hm
      rw [hi] at ho
      cases ho
    | some oi =>
      obtain ⟨hw, hwp⟩ := hh oi (fun a' w' => (waitsB md ops z = true ∧ Region.ready md ops (listed.setIfInBounds z true) = [] ∧ Q .normal a' w') ∨ (R w w' ∧ wpAnyR P md ops Q R fuel (listed.setIfInBounds z true) a' w')) hi (fun a' w' hl hk => .inr (And.intro hl hk))
      simp only [hw, if_true]
      exact .inl hwp
  rw [hr] at hz
  rcases (by simpa using hz : z = i ∨ z = j) with rfl | rfl
  · exact step z (by rw [hr]; simp) h
  · exact step z (by rw [hr]; simp) k
theorem later_two {i j : Nat} {fuel : Nat} {listed : Array Bool} {a : Act} {w : World} (hr : Region.ready md ops listed = [i, j])
    (h : ∀ oi K, ops[i]? = some oi → Shut (∀ a' w', Later w w' → wpAnyR P md ops Q Later fuel (listed.setIfInBounds i true) a' w' → K a' w') → Region.wanted oi (yielded ops a.tmps) = true ∧ oi.wp P a w K Q)
    (k : ∀ oi K, ops[j]? = some oi → Shut (∀ a' w', Later w w' → wpAnyR P md ops Q Later fuel (listed.setIfInBounds j true) a' w' → K a' w') → Region.wanted oi (yielded ops a.tmps) = true ∧ oi.wp P a w K Q) : wpAnyR P md ops Q Later (fuel + 1) listed a w := ord_two hr h k
end
end Go.Proofs.Ytkcopldlobomhaa
