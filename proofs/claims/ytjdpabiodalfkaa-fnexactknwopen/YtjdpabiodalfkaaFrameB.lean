/-
  A slice of boxes that came in: what it holds.
-/
import Derived.Test.YtjdpabiodalfkaaFrameS
import Derived.Test.YtjdpabiodalfkaaBox
import Derived.Deep.Slices
namespace Go.Proofs.Ytjdpabiodalfkaa
open Go.ChangeShapes Go.WideShapes Go.RowKit

theorem two_cells {w : World} {base : Nat} {a : Addr} {cs : List Value} (h : w.cells? base a 2 = some cs) : ∃ c0 c1, cs = [c0, c1] ∧ w.cell? (a.add 0) = some c0 ∧ w.cell? (a.add 1) = some c1 := by
  unfold World.cells? at h
  split at h
  · simp only [List.range, List.range.loop, List.mapM_cons, List.mapM_nil] at h
    cases h0 : w.cell? (a.add 0) with
    | none => rw [h0] at h; cases h
    | some c0 =>
      cases h1 : w.cell? (a.add 1) with
      | none => rw [h0, h1] at h; cases h
      | some c1 =>
        rw [h0, h1] at h
        cases h
        exact ⟨c0, c1, rfl, rfl, rfl⟩
  · cases h

theorem underLB : Try.prog.underlying 52 = some (.slice 97) := by kernel_rfl
theorem cellsLB : Try.prog.cellsOf 97 = 2 := by kernel_rfl
theorem cellsS9 : Try.prog.cellsOf 9 = 1 := by kernel_rfl
theorem structLB : ∃ f0 f1 : Field, Try.prog.underlying 97 = some (.struct #[f0, f1]) ∧ f0.type = 9 ∧ f1.type = 9 ∧ f0.offset = 0 ∧ f1.offset = 1 :=
  ⟨_, _, Try.underlying97, rfl, rfl, rfl, rfl⟩
theorem underS9 : Try.prog.underlying 9 = some .string := by kernel_rfl

theorem open_brow {H : Type} {enc : TypeId × Value → H} {W : World} {held : Bool} {fuel : Nat} {a : Option Addr} {len cap : Nat} {x : DataW H × List MemPlace}
    (hf : DataW.trod enc Try.prog W 0 (fun _ => true) held fuel 52 (Value.cells (.slice a len cap)).toList = some x) : ∃ zs, BRow W (.slice a len cap) zs ∧ ∀ y ∈ zs, y.1.size ≤ maxLen ∧ y.2.size ≤ maxLen := by
  rcases Deep.open_slice underLB hf with ⟨hcs, _⟩ | ⟨p, l, c, m, n, D, Pl, hcs, _, hl, hm, hmm, _, hel⟩
  · simp [Value.cells] at hcs
    obtain ⟨rfl, rfl, rfl⟩ := hcs
    exact ⟨[], ⟨none, 0, rfl, Nat.le_refl _, by omega, fun i hi => absurd hi (Nat.not_lt_zero _)⟩, fun y hy => by cases hy⟩
  · simp [Value.cells] at hcs
    obtain ⟨rfl, rfl, rfl⟩ := hcs
    simp at hmm
    have key : ∀ i, i < len → ∃ b : Bx, W.cell? (p.add (i * 2)) = some (.string b.1) ∧ W.cell? ((p.add (i * 2)).add 1) = some (.string b.2) ∧ b.1.size ≤ maxLen ∧ b.2.size ≤ maxLen := by
      intro i hi
      obtain ⟨cs', h1, h2⟩ := hel i (by omega)
      rw [cellsLB] at h1
      obtain ⟨c0, c1, rfl, k0, k1⟩ := two_cells h1
      obtain ⟨f0, f1, s0, s1, s2, s3, s4⟩ := structLB
      obtain ⟨y0, y1, n', _, _, t0, t1⟩ := trod_struct2 s0 h2
      rw [s1, s3, cellsS9] at t0
      rw [s2, s4, cellsS9] at t1
      simp at t0 t1
      obtain ⟨b0, e0, _, z0⟩ := DataW.trod_string underS9 t0
      obtain ⟨b1, e1, _, z1⟩ := DataW.trod_string underS9 t1
      simp at e0 e1
      subst e0
      subst e1
      exact ⟨(b0, b1), by rw [← Addr.add_zero' (p.add (i * 2))]; exact k0, k1, z0, z1⟩
    refine ⟨(List.range len).map fun i => if h : i < len then Classical.choose (key i h) else noBx, ⟨some p, cap, by simp, by simp; omega, hm, fun i hi => ?_⟩, fun y hy => ?_⟩
    · simp at hi
      have e : ((List.range len).map fun i => if h : i < len then Classical.choose (key i h) else noBx).getD i noBx = Classical.choose (key i hi) := by
        rw [List.getD_eq_getElem?_getD]
        simp [hi]
      rw [e]
      have := Classical.choose_spec (key i hi)
      exact ⟨p, rfl, this.1, this.2.1⟩
    · obtain ⟨i, hi, rfl⟩ := List.mem_map.1 hy
      have hi' : i < len := by simpa using hi
      rw [dif_pos hi']
      exact (Classical.choose_spec (key i hi')).2.2
#print axioms open_brow
end Go.Proofs.Ytjdpabiodalfkaa
