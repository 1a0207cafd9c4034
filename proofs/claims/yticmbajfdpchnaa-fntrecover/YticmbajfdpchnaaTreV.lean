/-
  The spec's covers: l3Cover.
-/
import Derived.Test.YticmbajfdpchnaaTreD
import Derived.Test.YticmbajfdpchnaaIntR
import Derived.Deep.RegionHeld3
namespace Go.Proofs.Yticmbajfdpchnaa
open Go.RowKit

def ints (ps : List Nat) : List Int := ps.map fun (k : Nat) => (k : Int)
/-- What l3Cover leaves. -/
def Covers (xs : List ByteArray) (n : Nat) (w : World) (e : Ending) (w' : World) : Prop := ∃ u, e = .returned u ∧ OwnI w.heap.size w' u (ints (cover xs n)) ∧ Below w.heap.size w w'

theorem nil_text : (ByteArray.empty).toList = [] := by decide +kernel
theorem no_text {x : ByteArray} (h : ¬ x = ByteArray.empty) : ¬ x.toList = [] := by
  intro e
  exact h ((toList_eq (x := x) (y := ByteArray.empty)).1 (by rw [e, nil_text]; rfl))

set_option maxRecDepth 100000 in
set_option maxHeartbeats 4000000 in
/-- A place with a key. -/
theorem cov_keyed (xs : List ByteArray) (hl : xs.length = 15) (n : Nat) (hn : n < 15) (q : keyed xs n = true) (v : Value) (w : World) (h : SRow w v xs) : Calls Try.prog 40 #[.agg #[v], .int .i64 (n : Int)] w (Covers xs n w) := by
  obtain ⟨ao, cap, rfl, h1, h2, h3⟩ := h.form
  obtain ⟨a, rfl, hc0⟩ := h3 n (by omega)
  have hc := (((Below.refl w.heap.size w).alloc (Nat.le_refl _) (Obj.cells #[.slice (some a) xs.length cap] 25)).cell (cell_lt hc0)).trans hc0
  have hne : ¬ (xs.getD n ByteArray.empty).toList = [] := no_text (by simpa [keyed] using q)
  have hne2 : (xs.getD n ByteArray.empty).toList.isEmpty = false := by simpa using hne
  have HC := hide (cover_keyed xs n q)
  clear q h3 hc0 h
  rw [hl] at h1 hc ⊢
  generalize xs.getD n ByteArray.empty = y at hc hne hne2
  have hB := hide (((Below.refl w.heap.size w).alloc (Nat.le_refl _) (Obj.cells #[.slice (some a) 15 cap] 25)).alloc (by simp) (Obj.cells #[.int .i64 (n : Int)] 3))
  have hO := World.ownsRow_lit (base := w.heap.size) (e := 3) (size := 1) (w.alloc (Obj.cells #[.slice (some a) 15 cap] 25)) #[.int .i64 (n : Int)] 1 (by simp) (by unfold maxLen; omega) rfl
  have HO := hide hO
  clear hO
  go_enter Try.func40, Try.ntmps40
  go_wp2_with fail
  go_ret
  refine ⟨_, rfl, ?_, unhide hB⟩
  rw [HC.out]
  have r := unhide HO
  rw [show (w.alloc (Obj.cells #[.slice (some a) 15 cap] 25)).heap.size = w.heap.size + 1 by simp] at r
  exact r

set_option maxRecDepth 100000 in
set_option maxHeartbeats 4000000 in
/-- A place of one's own without one. -/
theorem cov_bare (xs : List ByteArray) (hl : xs.length = 15) (n : Nat) (h7 : 7 ≤ n) (hn : n < 15) (q : keyed xs n = false) (v : Value) (w : World) (h : SRow w v xs) : Calls Try.prog 40 #[.agg #[v], .int .i64 (n : Int)] w (Covers xs n w) := by
  obtain ⟨ao, cap, rfl, h1, h2, h3⟩ := h.form
  obtain ⟨a, rfl, hc0⟩ := h3 n (by omega)
  have hc := (((Below.refl w.heap.size w).alloc (Nat.le_refl _) (Obj.cells #[.slice (some a) xs.length cap] 25)).cell (cell_lt hc0)).trans hc0
  have hne : (xs.getD n ByteArray.empty).toList = [] := by
    have e : xs.getD n ByteArray.empty = ByteArray.empty := by simpa [keyed] using q
    rw [e]; exact nil_text
  have hne2 : (xs.getD n ByteArray.empty).toList.isEmpty = true := by rw [hne]; rfl
  have HC := hide (cover_bare xs n q h7)
  have h72 : (7 : Int) ≤ (n : Int) := by omega
  clear q h3 hc0 h
  rw [hl] at h1 hc ⊢
  generalize xs.getD n ByteArray.empty = y at hc hne hne2
  have hB := hide (((Below.refl w.heap.size w).alloc (Nat.le_refl _) (Obj.cells #[.slice (some a) 15 cap] 25)).alloc (by simp) (Obj.cells #[] 3))
  have hO := World.ownsRow_lit (base := w.heap.size) (e := 3) (size := 1) (w.alloc (Obj.cells #[.slice (some a) 15 cap] 25)) #[] 0 (by simp) (by unfold maxLen; omega) rfl
  have HO := hide hO
  clear hO
  go_enter Try.func40, Try.ntmps40
  go_wp2_with fail
  go_ret
  refine ⟨_, rfl, ?_, unhide hB⟩
  rw [HC.out]
  have r := unhide HO
  rw [show (w.alloc (Obj.cells #[.slice (some a) 15 cap] 25)).heap.size = w.heap.size + 1 by simp] at r
  exact r
end Go.Proofs.Yticmbajfdpchnaa
