/-
  What a reader leaves of rows; what a row leaves of a reader. No Go function in it.
-/
import Derived.Test.YticmbajfdpchnaaDraw
import Derived.Test.YticmbajfdpchnaaStr0
namespace Go.Proofs.Yticmbajfdpchnaa
open Go.RowKit

theorem row_ex {b B : Nat} {w w' : World} {e : TypeId} {size : Nat} {v : Value} {n : Nat} {xs : List Value} (h : w.ownsRow B e size v n xs) (x : Ex b w w') (hb : b < B) : w'.ownsRow B e size v n xs := by
  refine ⟨h.1, h.2.imp id ?_⟩
  rintro ⟨g, cap, cur, h1, h2, h3, h4⟩
  exact ⟨g, cap, cur, h1, h2, (x.block g (Array.getElem?_eq_some_iff.1 h3).1 (by omega)).trans h3, h4⟩
theorem Own.ex {b B : Nat} {w w' : World} {v : Value} {xs : List ByteArray} (h : Own B w v xs) (x : Ex b w w') (hb : b < B) : Own B w' v xs := row_ex h x hb
theorem DrC.grown {b : Nat} {C : Code} {p : Nat} {w w' : World} {r : Option Nat} (h : DrC b C p w) (hg : w.grownBy w' r) (hr : ∀ k, r = some k → b < k) : DrC b C p w' := by
  have hblk : ∀ k, k ≤ b → k < w.heap.size → w'.heap[k]? = w.heap[k]? := fun k hk hl => hg.block k hl (fun e => by have := hr k e.symm; omega)
  obtain ⟨c0, c1, f1, lt, le, row⟩ := h
  have hb := hblk b (Nat.le_refl _) lt
  refine ⟨(World.cell?_of_block (a := ⟨b, 0, none⟩) hb).trans c0, (World.cell?_of_block (a := ⟨b, 1, none⟩) hb).trans c1, (World.frozen?_of_block (a := ⟨b, 1, none⟩) hb).trans f1, Nat.lt_of_lt_of_le lt hg.size, le, ?_⟩
  rcases row with h0 | ⟨x, hx, hxb, hrw⟩
  · exact .inl h0
  · refine .inr ⟨x, hx, hxb, fun i hi => ⟨?_, (hrw i hi).2⟩⟩
    have : (x.add i).block < b := by rw [add_block]; exact hxb
    exact (World.cell?_of_block (a := x.add i) (hblk _ (by omega) (by omega))).trans (hrw i hi).1
theorem Ex.grown {b : Nat} {w0 w w' : World} {r : Option Nat} (h : Ex b w0 w) (hg : w.grownBy w' r) (hr : ∀ k, r = some k → w0.heap.size ≤ k) : Ex b w0 w' :=
  ⟨hg.os.trans h.os, hg.tape.trans h.tape, hg.output.trans h.output, Nat.le_trans h.size hg.size, fun k hk hn => (hg.block k (Nat.lt_of_lt_of_le hk h.size) (fun e => by have := hr k e.symm; omega)).trans (h.block k hk hn)⟩
end Go.Proofs.Yticmbajfdpchnaa
