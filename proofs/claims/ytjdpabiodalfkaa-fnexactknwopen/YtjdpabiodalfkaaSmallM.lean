/-
  Small texts are texts; what a slice of the call's own holds, cell by cell.
-/
import Derived.Test.YtjdpabiodalfkaaDrawB
namespace Go.Proofs.Ytjdpabiodalfkaa
open Go.RowKit
theorem smallm {xs : List ByteArray} (h : small 700 xs) : ∀ x ∈ xs, x.size ≤ maxLen := fun x hx => by
  have := h x hx
  unfold maxLen; omega
theorem row_nn {w : World} {B : Nat} {e : TypeId} {size : Nat} {v : Value} {n : Nat} {xs : List Value} (hn : NN v) (h : w.ownsRow B e size v n xs) :
    ∃ g cap, v = .slice (some ⟨g, 0, none⟩) n cap ∧ ∀ j u, xs[j]? = some u → w.cell? ((⟨g, 0, none⟩ : Addr).add j) = some u := by
  obtain ⟨g, m, c, rfl⟩ := hn
  rcases h.2 with ⟨h1, _⟩ | ⟨g', cap, cur, h1, _⟩
  · cases h1
  · cases h1
    exact ⟨g, c, rfl, fun j u hu => h.cells (g := g) rfl j u hu⟩
theorem strs_one (xs : List ByteArray) : ∀ u ∈ xs.map Value.string, u.oneCell' = true := by
  intro u hu
  obtain ⟨x, _, rfl⟩ := List.mem_map.1 hu
  rfl
theorem bcells_one (bs : List Bx) : ∀ u ∈ bcells bs, u.oneCell' = true := by
  intro u hu
  unfold bcells at hu
  obtain ⟨b, _, hb⟩ := List.mem_flatMap.1 hu
  simp at hb
  rcases hb with rfl | rfl <;> rfl
theorem bcells_len (bs : List Bx) : (bcells bs).length = bs.length * 2 := by
  induction bs with
  | nil => rfl
  | cons b bs ih => simp [bcells] at ih ⊢; omega
theorem own_empty (B : Nat) (w : World) (h : B ≤ w.heap.size) : Own B (w.alloc (Obj.cells #[] 9)) (.slice (some ⟨w.heap.size, 0, none⟩) 0 0) [] :=
  World.ownsRow_made w #[] 0 h (by omega) rfl
end Go.Proofs.Ytjdpabiodalfkaa
