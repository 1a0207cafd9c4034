/-
  Rows that came in stay as they are. No Go function in it.
-/
import Derived.Test.YticmbajfdpchnaaDrOpen
namespace Go.Proofs.Yticmbajfdpchnaa
open Go.RowKit

theorem IsRow.belowR {k : IntKind} {w w' : World} {a : Option Addr} {len cap : Nat} {zs : List Int} (h : IsRow k w a len cap zs) (hb : Below w.heap.size w w') : IsRow k w' a len cap zs := by
  rcases h with h | ⟨x, h1, h2, h3, h4, h5, h6⟩
  · exact .inl h
  · exact .inr ⟨x, h1, h2, h3, h4, fun i hi => (hb.cell (p := x.add i) (below_lt (h5 i hi))).trans (h5 i hi), h6⟩
end Go.Proofs.Yticmbajfdpchnaa
