/-
  A byte as a text. No Go function in it.
-/
import Derived.Test.YtkcopldlobomhaaBase
namespace Go.Proofs.Ytkcopldlobomhaa
open Go.RowKit

theorem conv1 (W : World) (a : Addr) (n : Int) (h : W.cell? a = some (.int .u8 n)) :
    (convert 22 9 (.slice (some a) 1 1)).run Try.prog W = .ok (.string (by1 n.toNat)) W := by
  rw [run_convert_bytes_string W 22 9 5 _ _ _ Try.underlying22 Try.underlying5 Try.underlying9]
  rw [run_bytesToString W a 1 1 [n] ?_]
  · rfl
  · exact run_loadCells_list W a [.int .u8 n] (fun j v hj => by
      match j, hj with
      | 0, hj => simp at hj; subst hj; simpa [Addr.add] using h)
end Go.Proofs.Ytkcopldlobomhaa
