/-
  What can be made from some: plainly, and as the spec has it.
-/
import Derived.Test.YtjdpabiodalfkaaMade2
import Derived.Test.YtjdpabiodalfkaaStr
namespace Go.Proofs.Ytjdpabiodalfkaa
open Go.RowKit

/-- All of some are secrets' names, and they are not too many. -/
def okAll (xs : List ByteArray) : Bool := decide (xs.length ≤ 400) && xs.all Kw.ok

theorem okAll_iff {xs : List ByteArray} : okAll xs = true ↔ xs.length ≤ 400 ∧ ∀ x ∈ xs, Kw.ok x = true := by
  unfold okAll; simp

set_option maxHeartbeats 1000000 in
theorem l2Ok_any (v : Value) (xs : List ByteArray) (w : World) (h : SRow w v xs) (hx : ∀ x ∈ xs, x.size ≤ maxLen) :
    Calls Try.prog 52 #[v] w fun e w' => e = .returned (.bool (okAll xs)) ∧ Below w.heap.size w w' := by
  rcases h with ⟨rfl, rfl⟩ | ⟨a, cap, rfl, hlc, hm, hc⟩
  · go_enter Try.func52, Try.ntmps52
    go_wp2_with fail
    go_loop [3] (fun i => i = .int .i64 0) (fun _ => 0)
    case atStart => rfl
    case round =>
      subst hrel
      go_wp2_with fail
      go_ret
      exact ⟨rfl, Below.refl _ _⟩
  · have hR : Hid (SRow w (.slice (some a) xs.length cap) xs) := .inr ⟨a, cap, rfl, hlc, hm, hc⟩
    have hX := hide hx
    unfold maxLen at hm
    clear hc hx
    by_cases hmost : 400 < xs.length
    · have h1 : (400 : Int) < (xs.length : Int) := by omega
      have he : okAll xs = false := by
        cases q : okAll xs with
        | false => rfl
        | true => have := (okAll_iff.1 q).1; omega
      go_enter Try.func52, Try.ntmps52
      go_wp2_with fail
      go_ret
      exact ⟨ret_bool' he.symm, Below.refl _ _⟩
    have h1 : decide ((400 : Int) < (xs.length : Int)) = false := by simp; omega
    go_enter Try.func52, Try.ntmps52
    go_wp2_with fail
    go_loopw [3] (fun i wr => ∃ k : Nat, k ≤ xs.length ∧ i = .int .i64 (k : Int) ∧ Hid (∀ j, j < k → Kw.ok (xs.getD j ByteArray.empty) = true) ∧ Hid (Below w.heap.size w wr)) (fun i _ => xs.length - (intOf i).toNat)
    case atStart => exact ⟨0, by omega, rfl, fun j hj => by omega, Below.refl _ _⟩
    case round =>
      obtain ⟨k, hk, rfl, hN, hL⟩ := hrel
      by_cases hlt : k < xs.length
      · have hlt2 : (k : Int) < (xs.length : Int) := by omega
        have hck : wr.cell? (a.add k) = some (.string (xs.getD k ByteArray.empty)) := by
          rcases (SRow.below (unhide hR) (unhide hL)) with ⟨q, _⟩ | ⟨a', cap', q, _, _, hc⟩
          · cases q
          · cases q; exact hc k hlt
        have hmem : xs.getD k ByteArray.empty ∈ xs := by
          rw [List.getD_eq_getElem?_getD, List.getElem?_eq_getElem hlt]
          exact List.getElem_mem hlt
        have M : Hid ((xs.getD k ByteArray.empty).size ≤ maxLen) := hX.out _ hmem
        have hle := hL.out.size
        have i3 : IntKind.i64.wrap ((k : Int) + 1) = (k : Int) + 1 := by simp [IntKind.wrap, IntKind.bits, IntKind.signed]; omega
        have hNo : Hid (Kw.ok (xs.getD k ByteArray.empty) = false → okAll xs = false) := by
          intro hf
          cases q : okAll xs with
          | false => rfl
          | true => have := (okAll_iff.1 q).2 _ hmem; rw [hf] at this; cases this
        have hYes : Hid (Kw.ok (xs.getD k ByteArray.empty) = true → ∀ j, j < k + 1 → Kw.ok (xs.getD j ByteArray.empty) = true) := by
          intro ht j hj
          by_cases hjk : j = k
          · subst hjk; exact ht
          · exact hN j (by omega)
        clear hmem
        generalize xs.getD k ByteArray.empty = y at hck M hNo hYes
        go_wp2_with fail
        refine (sSecOk_any y _ M.out).mono ?_
        cases hy : Kw.ok y with
        | false =>
          have he := hNo.out hy
          rintro e w1 ⟨rfl, hb1⟩
          have hL1 := hide ((unhide hL).trans (hb1.mono hle))
          clear hb1 hy
          go_wp2_with fail
          go_ret
          exact ⟨ret_bool' he.symm, unhide hL1⟩
        | true =>
          have hN1 := hide (hYes.out hy)
          rintro e w1 ⟨rfl, hb1⟩
          have hL1 := hide ((unhide hL).trans (hb1.mono hle))
          clear hb1 hy
          go_wp2_with fail
          go_roundw
          case rel => exact ⟨k + 1, by omega, by simp, hN1, hL1⟩
          case measure => simp [intOf]; omega
      · have hlt2 : decide ((k : Int) < (xs.length : Int)) = false := by simp; omega
        have he : okAll xs = true := okAll_iff.2 ⟨by omega, fun x hx => by
          obtain ⟨j, hj, e⟩ := List.getElem_of_mem hx
          have := hN.out j (by omega)
          rw [List.getD_eq_getElem?_getD, List.getElem?_eq_getElem hj] at this
          rw [← e]; exact this⟩
        go_wp2_with fail
        go_ret
        exact ⟨ret_bool' he.symm, unhide hL⟩
#print axioms l2Ok_any
end Go.Proofs.Ytjdpabiodalfkaa
