/-
  A tree that came in: what it holds.
-/
import Derived.Test.YtggdmdfebmcegaaFrameS
namespace Go.Proofs.Ytggdmdfebmcegaa
open Go.ChangeShapes Go.WideShapes Go.ChangeAt Go.RowKit

theorem cellsLT : Try.prog.cellsOf 45 = 1 := by kernel_rfl
theorem cellsSS : Try.prog.cellsOf 23 = 1 := by kernel_rfl
theorem structLT : ∃ f0 : Field, Try.prog.underlying 45 = some (.struct #[f0]) ∧ f0.type = 23 ∧ f0.offset = 0 := ⟨_, Try.underlying45, rfl, rfl⟩

theorem open_tree {H : Type} {enc : TypeId × Value → H} {W : World} {held : Bool} {fuel : Nat} {cs : Array Value} {x : DataW H × List MemPlace} (hs : cs.size = Try.prog.cellsOf 45)
    (hf : DataW.trod enc Try.prog W 0 (fun _ => true) held fuel 45 (Value.cells (.agg cs)).toList = some x) : ∃ u zs, cs = #[u] ∧ SRow W u zs ∧ ∀ y ∈ zs, y.size ≤ maxLen := by
  rw [cellsLT] at hs
  obtain ⟨u, rfl⟩ : ∃ u, cs = #[u] := by
    cases cs with
    | mk l =>
      match l, hs with
      | [u], _ => exact ⟨u, rfl⟩
  obtain ⟨f0, s0, s1, s2⟩ := structLT
  obtain ⟨y0, n', h1, h2, t0⟩ := trod_struct1 s0 hf
  rw [s1, s2, cellsSS] at t0
  simp [Value.cells] at t0
  have t1 := t0
  rcases open_strings Try.underlying23 Try.underlying9 (by kernel_rfl) t1 with ⟨hcs, _⟩ | ⟨p, l, c, ss, hcs, _⟩
  · simp at hcs
    subst hcs
    obtain ⟨zs, h3, h4⟩ := open_srow (a := none) (len := 0) (cap := 0) (by simpa [Value.cells] using t0)
    exact ⟨_, zs, rfl, h3, h4⟩
  · simp at hcs
    subst hcs
    obtain ⟨zs, h3, h4⟩ := open_srow (a := some p) (len := l) (cap := c) (by simpa [Value.cells] using t0)
    exact ⟨_, zs, rfl, h3, h4⟩
#print axioms open_tree
end Go.Proofs.Ytggdmdfebmcegaa
