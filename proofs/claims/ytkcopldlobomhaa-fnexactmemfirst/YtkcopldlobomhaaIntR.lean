/-
  Rows of numbers: what a slice of numbers holds; slices of the call's own. No Go function in it.
-/
import Derived.Test.YtkcopldlobomhaaStr0
namespace Go.Proofs.Ytkcopldlobomhaa
open Go.RowKit

/-- A slice holds these numbers. -/
def IRow (w : World) (v : Value) (xs : List Int) : Prop :=
  (v = .slice none 0 0 ∧ xs = []) ∨ ∃ (a : Addr) (cap : Nat), v = .slice (some a) xs.length cap ∧ xs.length ≤ cap ∧ cap ≤ maxLen ∧ ∀ i, i < xs.length → w.cell? (a.add i) = some (.int .i64 (xs.getD i 0))
theorem IRow.below {w w' : World} {v : Value} {xs : List Int} (h : IRow w v xs) (hb : Below w.heap.size w w') : IRow w' v xs := by
  rcases h with h | ⟨a, cap, h1, h2, h3, h4⟩
  · exact .inl h
  · exact .inr ⟨a, cap, h1, h2, h3, fun i hi => (hb.cell (p := a.add i) (cell_lt (h4 i hi))).trans (h4 i hi)⟩
theorem IRow.drew {w : World} {v : Value} {xs : List Int} (h : IRow w v xs) : IRow w.drew v xs := h
theorem IRow.form {w : World} {v : Value} {xs : List Int} (h : IRow w v xs) :
    ∃ (ao : Option Addr) (cap : Nat), v = .slice ao xs.length cap ∧ xs.length ≤ cap ∧ cap ≤ maxLen ∧ ∀ i, i < xs.length → ∃ a, ao = some a ∧ w.cell? (a.add i) = some (.int .i64 (xs.getD i 0)) := by
  rcases h with ⟨rfl, rfl⟩ | ⟨a, cap, rfl, h1, h2, h3⟩
  · exact ⟨none, 0, rfl, Nat.le_refl _, by omega, fun i hi => absurd hi (Nat.not_lt_zero _)⟩
  · exact ⟨some a, cap, rfl, h1, h2, fun i hi => ⟨a, rfl, h3 i hi⟩⟩

/-- A slice of the call's own holds these numbers. -/
def OwnI (B : Nat) (w : World) (v : Value) (xs : List Int) : Prop := w.ownsRow B 3 1 v xs.length (xs.map (Value.int .i64))
theorem OwnI.below {B : Nat} {w w' : World} {v : Value} {xs : List Int} (h : OwnI B w v xs) (hb : Below w.heap.size w w') : OwnI B w' v xs := own_below' h hb
theorem OwnI.irow {B : Nat} {w : World} {v : Value} {xs : List Int} (h : OwnI B w v xs) : IRow w v xs := by
  unfold OwnI at h
  have hh := h
  rcases h.2 with ⟨h1, h2⟩ | ⟨g, cap, cur, h1, h2, h3, h4, h5, h6, h7⟩
  · exact .inl ⟨h1, List.eq_nil_of_length_eq_zero h2⟩
  · subst h1
    refine .inr ⟨⟨g, 0, none⟩, cap, rfl, h4, h5, fun i hi => ?_⟩
    have hc := hh.cellAt i (by omega)
    rw [Addr.add_lit, Nat.zero_add, hc]
    simp [hi]
theorem OwnI.len {B : Nat} {w : World} {v : Value} {xs : List Int} (h : OwnI B w v xs) : lenOf v = xs.length := by
  rcases h.2 with ⟨h1, h2⟩ | ⟨g, cap, cur, h1, _⟩
  · rw [h1, h2]; rfl
  · rw [h1]; rfl
theorem OwnI.grow {B : Nat} {w w6 w7 : World} {o : Obj} {v v' : Value} {xs : List Int} {y : Int} (hO : OwnI B w6 v xs) (hbl : Below B w w6) (hB : B ≤ w.heap.size)
    (hown' : w7.ownsRow B 3 1 v' (xs.length + 1) (xs.map (Value.int .i64) ++ [.int .i64 y])) (hg : (w6.alloc o).grownBy w7 v.ownBlock) : OwnI B w7 v' (xs ++ [y]) ∧ Below B w w7 := by
  have hs := hbl.size
  refine ⟨?_, (hbl.alloc (by omega) o).grown hg (by simp; omega) (fun k hk => (hO.lt k hk).1)⟩
  unfold OwnI
  rw [List.length_append, List.map_append]
  exact hown'
theorem info_int2 : (Try.prog.info? 3).map (fun i => (i.zero, i.size, i.bytes)) = some (some (.int .i64 0), 1, 8) := by kernel_rfl
end Go.Proofs.Ytkcopldlobomhaa
