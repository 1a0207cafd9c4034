/-
  What TreSet answers, plain. No Go function in it.
-/
import Derived.Test.YtkcopldlobomhaaTClr0
namespace Go.Proofs.Ytkcopldlobomhaa
open Go.RowKit Kw

/-- The secret so many places above. -/
def nextN (s : ByteArray) : Nat → ByteArray
  | 0 => s
  | n + 1 => mkNext (nextN s n)
theorem nextN_in (s : ByteArray) : ∀ n, nextN (mkNext s) n = nextN s (n + 1)
  | 0 => rfl
  | n + 1 => by show mkNext (nextN (mkNext s) n) = mkNext (nextN s (n + 1)); rw [nextN_in s n]
theorem fill_snoc (ps : List Nat) (p : Nat) : ∀ xs s, fill xs s (ps ++ [p]) = (fill xs s ps).set p (mkKey (nextN s ps.length)) := by
  induction ps with
  | nil => intro xs s; rfl
  | cons q ps ih =>
    intro xs s
    show fill (xs.set q (mkKey s)) (mkNext s) (ps ++ [p]) = (fill (xs.set q (mkKey s)) (mkNext s) ps).set p (mkKey (nextN s (ps.length + 1)))
    rw [ih, nextN_in]
/-- What TreSet wants of a secret. -/
def maySet (s : ByteArray) : Bool := Kw.ok s && decide (s.size ≤ 292)
def setRes (xs : List ByteArray) (p : Int) (s : ByteArray) : List ByteArray := if (treOk xs = true ∧ 0 ≤ p ∧ p ≤ 7) ∧ maySet s = true then setKeys xs p.toNat s else []
theorem setKeys_len (xs : List ByteArray) (k : Nat) (s : ByteArray) : (setKeys xs k s).length = xs.length := fill_len _ _ _
theorem setRes_len (xs : List ByteArray) (p : Int) (s : ByteArray) : (setRes xs p s).length ≤ 15 := by
  unfold setRes
  split
  · next h => rw [setKeys_len, (treOk_iff.1 h.1.1).1]; omega
  · simp
theorem setRes_no {xs : List ByteArray} {p : Int} {s : ByteArray} (h : ¬ ((treOk xs = true ∧ 0 ≤ p ∧ p ≤ 7) ∧ maySet s = true)) : setRes xs p s = [] := by unfold setRes; rw [if_neg h]
theorem setRes_yes {xs : List ByteArray} {k : Nat} {s : ByteArray} (h : treOk xs = true) (hk : k < 8) (hs : maySet s = true) : setRes xs (k : Int) s = setKeys xs k s := by unfold setRes; rw [if_pos ⟨⟨h, by omega, by omega⟩, hs⟩]; rfl
theorem nextN_size (s : ByteArray) (hs : s.size ≤ 300) : ∀ n, (nextN s n).size ≤ 300
  | 0 => hs
  | n + 1 => by
    show (mkNext (nextN s n)).size ≤ 300
    unfold mkNext
    split
    · unfold cap; split
      · assumption
      · show (0 : Nat) ≤ 300; omega
    · show (0 : Nat) ≤ 300; omega
theorem treOk_set {xs : List ByteArray} {k : Nat} {s : ByteArray} (h : treOk xs = true) (hk : k < 8) (hs : maySet s = true) : treOk (setKeys xs k s) = true := by
  unfold maySet at hs
  simp at hs
  have := ups_len (7 + k) (by omega)
  exact treOk_fill _ _ _ h hs.1 (by simp; omega)
theorem treOk_clear {xs : List ByteArray} {k : Nat} (h : treOk xs = true) : treOk (clearOf xs k) = true := treOk_wipe _ _ h
end Go.Proofs.Ytkcopldlobomhaa
