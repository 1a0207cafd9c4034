/-
  Variables in blocks of their own, beside rows. No Go function in it.
-/
import Derived.Test.YtkcopldlobomhaaStr0
import Derived.Test.YtkcopldlobomhaaRowIn
import Derived.RangeFuncNested
namespace Go.Proofs.Ytkcopldlobomhaa
open Go.RowKit

theorem box_below {w w' : World} {b : Nat} {t : TypeId} {v : Value} (h : Boxed w b t v) (hb : Below w.heap.size w w') : Boxed w' b t v := (hb.block b h.lt).trans h
theorem box_below0 {w w' : World} {b B : Nat} {t : TypeId} {v : Value} (h : Boxed w b t v) (hb : Below B w w') (hlt : b < B) : Boxed w' b t v := (hb.block b hlt).trans h
/-- A row is not a variable's block: what is stored there leaves it. -/
theorem row_box {B : Nat} {w : World} {e t : TypeId} {size n b : Nat} {v u : Value} {xs : List Value} (h : w.ownsRow B e size v n xs) (hx : Boxed w b t u) (hte : t ≠ e) (x : Value) : (w.setCell ⟨b, 0, none⟩ x).ownsRow B e size v n xs :=
  h.kept (grownBy_setCell' w b x) (.inr (hx.not_row hte h).symm)
/-- A store into a variable's block leaves what lies below. -/
theorem below_box {B : Nat} {w w' : World} {b : Nat} (h : Below B w w') (hb : B ≤ b) (x : Value) : Below B w (w'.setCell ⟨b, 0, none⟩ x) := h.setCell (p := ⟨b, 0, none⟩) hb x
/-- A row that grows or turns leaves a variable's block of another type. -/
theorem box_grown {B : Nat} {w w' : World} {e t : TypeId} {size n b : Nat} {v u : Value} {xs : List Value} (hx : Boxed w b t u) (h : w.ownsRow B e size v n xs) (hte : t ≠ e) (hg : w.grownBy w' v.ownBlock) : Boxed w' b t u := hx.kept hg (hx.not_row hte h)
theorem row_lowB {B B' : Nat} {w : World} {e : TypeId} {size : Nat} {v : Value} {n : Nat} {xs : List Value} (h : w.ownsRow B e size v n xs) (hB : B' ≤ B) : w.ownsRow B' e size v n xs := by
  refine ⟨h.1, h.2.imp id ?_⟩
  rintro ⟨g, cap, cur, h1, h2, h3⟩
  exact ⟨g, cap, cur, h1, by omega, h3⟩
end Go.Proofs.Ytkcopldlobomhaa
