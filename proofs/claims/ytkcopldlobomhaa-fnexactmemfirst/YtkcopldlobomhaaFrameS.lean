/-
  A slice of texts that came in: what it holds.
-/
import Derived.Test.YtkcopldlobomhaaFrame
import Derived.Test.YtkcopldlobomhaaStr0
import Derived.SliceStrings
namespace Go.Proofs.Ytkcopldlobomhaa
open Go.ChangeShapes Go.WideShapes Go.RowKit

theorem open_srow {H : Type} {enc : TypeId × Value → H} {W : World} {held : Bool} {fuel : Nat} {a : Option Addr} {len cap : Nat} {x : DataW H × List MemPlace}
    (hf : DataW.trod enc Try.prog W 0 (fun _ => true) held fuel 25 (Value.cells (.slice a len cap)).toList = some x) : ∃ zs, SRow W (.slice a len cap) zs ∧ ∀ y ∈ zs, y.size ≤ maxLen := by
  rcases open_strings Try.underlying25 Try.underlying9 (by kernel_rfl) hf with ⟨hcs, _⟩ | ⟨p, l, c, ss, hcs, _, hl, hm, hz, _, hcell, hsz⟩
  · simp [Value.cells] at hcs
    obtain ⟨rfl, rfl, rfl⟩ := hcs
    exact ⟨[], .inl ⟨rfl, rfl⟩, fun y hy => by cases hy⟩
  · simp [Value.cells] at hcs
    obtain ⟨rfl, rfl, rfl⟩ := hcs
    simp at hz
    have hlen : (ss.take len).length = len := by simp; omega
    refine ⟨ss.take len, .inr ⟨p, cap, by rw [hlen], by omega, hm, fun i hi => ?_⟩, fun y hy => hsz y (List.mem_of_mem_take hy)⟩
    rw [hcell i (by omega)]
    have hi' : i < len := by omega
    simp [List.getD_eq_getElem?_getD, hi']
#print axioms open_srow
end Go.Proofs.Ytkcopldlobomhaa
