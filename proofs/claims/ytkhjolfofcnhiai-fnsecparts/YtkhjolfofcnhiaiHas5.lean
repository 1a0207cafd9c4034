/-
  A block that holds a struct that tells how a secret was made.
-/
import Derived.Test.YtkhjolfofcnhiaiMadeI
namespace Go.Proofs.Ytkhjolfofcnhiai
open Go.RowKit

/-- A block holds a struct that tells how a secret was made. -/
structure Has5 (b : Nat) (s : ByteArray) (w : World) : Prop where
  c0 : w.cell? ⟨b, 0, none⟩ = some (.int .i64 (mOp s))
  c1 : w.cell? ⟨b, 1, none⟩ = some (.int .i64 (mWho s))
  c2 : w.cell? ⟨b, 2, none⟩ = some (.int .i64 (mN s))
  c3 : w.cell? ⟨b, 3, none⟩ = some (.string (mA s))
  c4 : w.cell? ⟨b, 4, none⟩ = some (.string (mB s))
theorem Has5.keep {b : Nat} {s : ByteArray} {W w1 : World} (h : Has5 b s W) (hb : Below W.heap.size W w1) (hlt : b < W.heap.size) : Has5 b s w1 :=
  ⟨keep1 hb h.c0 hlt, keep1 hb h.c1 hlt, keep1 hb h.c2 hlt, keep1 hb h.c3 hlt, keep1 hb h.c4 hlt⟩

theorem how_cells (op who n : Int) (a b : ByteArray) : howV op who n a b = .agg #[.int .i64 op, .int .i64 who, .int .i64 n, .string a, .string b] := rfl
end Go.Proofs.Ytkhjolfofcnhiai
