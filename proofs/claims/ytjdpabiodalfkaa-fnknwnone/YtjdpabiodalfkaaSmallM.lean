/-
  Small texts are texts.
-/
import Derived.Test.YtjdpabiodalfkaaDrawK
namespace Go.Proofs.Ytjdpabiodalfkaa
theorem smallm {xs : List ByteArray} (h : small 700 xs) : ∀ x ∈ xs, x.size ≤ maxLen := fun x hx => by
  have := h x hx
  unfold maxLen; omega
end Go.Proofs.Ytjdpabiodalfkaa
