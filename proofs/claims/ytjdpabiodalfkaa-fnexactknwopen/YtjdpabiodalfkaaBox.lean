/-
  Rows of boxes; the spec's test of one.
-/
import Derived.Test.YtjdpabiodalfkaaHelps
import Derived.Test.YtjdpabiodalfkaaMade2
namespace Go.Proofs.Ytjdpabiodalfkaa
open Go.RowKit

abbrev Bx := ByteArray × ByteArray
def noBx : Bx := (ByteArray.empty, ByteArray.empty)

/-- A slice holds these boxes: each its key, and what is in it. -/
def BRow (w : World) (v : Value) (bs : List Bx) : Prop :=
  ∃ (ao : Option Addr) (cap : Nat), v = .slice ao bs.length cap ∧ bs.length ≤ cap ∧ cap ≤ maxLen ∧ ∀ i, i < bs.length → ∃ a, ao = some a ∧ w.cell? (a.add (i * 2)) = some (.string (bs.getD i noBx).1) ∧ w.cell? ((a.add (i * 2)).add 1) = some (.string (bs.getD i noBx).2)

theorem BRow.below {w w' : World} {v : Value} {bs : List Bx} (h : BRow w v bs) (hb : Below w.heap.size w w') : BRow w' v bs := by
  obtain ⟨ao, cap, h1, h2, h3, h4⟩ := h
  refine ⟨ao, cap, h1, h2, h3, fun i hi => ?_⟩
  obtain ⟨a, q1, q2, q3⟩ := h4 i hi
  exact ⟨a, q1, (hb.cell (cell_lt q2)).trans q2, (hb.cell (cell_lt q3)).trans q3⟩

theorem add_one (x : Addr) : x.add 1 = ⟨x.block, x.off + 1, none⟩ := Addr.add_succ' x 0

def okBoxes (bs : List Bx) : Bool := decide (bs.length ≤ 400) && bs.all fun b => Kw.ok b.1 && Kw.ok b.2
theorem okBoxes_iff {bs : List Bx} : okBoxes bs = true ↔ bs.length ≤ 400 ∧ ∀ b ∈ bs, Kw.ok b.1 = true ∧ Kw.ok b.2 = true := by
  unfold okBoxes; simp
theorem getB_mem {bs : List Bx} {k : Nat} (h : k < bs.length) : bs.getD k noBx ∈ bs := by
  rw [List.getD_eq_getElem?_getD, List.getElem?_eq_getElem h]
  exact List.getElem_mem h

set_option maxRecDepth 100000 in
set_option maxHeartbeats 2000000 in
theorem l2Boxes_any (v : Value) (bs : List Bx) (w : World) (h : BRow w v bs) (hx : ∀ b ∈ bs, b.1.size ≤ maxLen ∧ b.2.size ≤ maxLen) :
    Calls Try.prog 62 #[v] w fun e w' => e = .returned (.bool (okBoxes bs)) ∧ Below w.heap.size w w' := by
  have hR := hide h
  have hX := hide hx
  obtain ⟨ao, cap, rfl, h1, h2, _⟩ := h
  unfold maxLen at h2
  clear hx
  by_cases hmost : 400 < bs.length
  · have h1 : (400 : Int) < (bs.length : Int) := by omega
    have he : okBoxes bs = false := by
      cases q : okBoxes bs with
      | false => rfl
      | true => have := (okBoxes_iff.1 q).1; omega
    go_enter Try.func62, Try.ntmps62
    go_wp2_with fail
    go_ret
    exact ⟨ret_bool' he.symm, Below.refl _ _⟩
  have h1 : decide ((400 : Int) < (bs.length : Int)) = false := by simp; omega
  go_enter Try.func62, Try.ntmps62
  go_wp2_with fail
  go_loopw [3] (fun i wr => ∃ k : Nat, k ≤ bs.length ∧ i = .int .i64 (k : Int) ∧ Hid (∀ j, j < k → Kw.ok (bs.getD j noBx).1 = true ∧ Kw.ok (bs.getD j noBx).2 = true) ∧ Hid (Below w.heap.size w wr)) (fun i _ => bs.length - (intOf i).toNat)
  case atStart => exact ⟨0, by omega, rfl, fun j hj => by omega, Below.refl _ _⟩
  case round =>
    obtain ⟨k, hk, rfl, hN, hL⟩ := hrel
    by_cases hlt : k < bs.length
    · have hlt2 : (k : Int) < (bs.length : Int) := by omega
      obtain ⟨ao', c1, q1, _, _, q2⟩ := BRow.below (unhide hR) (unhide hL)
      simp only [Value.slice.injEq] at q1
      obtain ⟨rfl, z1, rfl⟩ := q1
      clear z1
      obtain ⟨a, rfl, hca, hcb⟩ := q2 k hlt
      clear q2
      have hmem := getB_mem hlt
      have M : Hid ((bs.getD k noBx).1.size ≤ maxLen ∧ (bs.getD k noBx).2.size ≤ maxLen) := hX.out _ hmem
      have hle := hL.out.size
      have i3 : IntKind.i64.wrap ((k : Int) + 1) = (k : Int) + 1 := by simp [IntKind.wrap, IntKind.bits, IntKind.signed]; omega
      have hNo : Hid (Kw.ok (bs.getD k noBx).1 = false ∨ Kw.ok (bs.getD k noBx).2 = false → okBoxes bs = false) := by
        intro hf
        cases q : okBoxes bs with
        | false => rfl
        | true =>
          have := (okBoxes_iff.1 q).2 _ hmem
          rcases hf with hf | hf
          · rw [hf] at this; cases this.1
          · rw [hf] at this; cases this.2
      have hYes : Hid (Kw.ok (bs.getD k noBx).1 = true → Kw.ok (bs.getD k noBx).2 = true → ∀ j, j < k + 1 → Kw.ok (bs.getD j noBx).1 = true ∧ Kw.ok (bs.getD j noBx).2 = true) := by
        intro ha hb j hj
        by_cases hjk : j = k
        · subst hjk; exact ⟨ha, hb⟩
        · exact hN j (by omega)
      clear hmem
      generalize bs.getD k noBx = y at hca hcb M hNo hYes
      go_wp2_with fail
      refine (sSecOk_any y.1 _ M.out.1).mono ?_
      cases hy : Kw.ok y.1 with
      | false =>
        have he := hNo.out (.inl hy)
        rintro e w1 ⟨rfl, hb1⟩
        have hL1 := hide ((unhide hL).trans (hb1.mono hle))
        clear hb1 hy
        go_wp2_with fail
        go_ret
        exact ⟨ret_bool' he.symm, unhide hL1⟩
      | true =>
        have HY := hide hy
        rintro e w1 ⟨rfl, hb1⟩
        have hcb1 := (hb1.cell (cell_lt hcb)).trans hcb
        rw [add_one] at hcb1
        have hL1 := hide ((unhide hL).trans (hb1.mono hle))
        have hle1 := hL1.out.size
        clear hb1 hy hca hcb
        go_wp2_with fail
        refine (sSecOk_any y.2 _ M.out.2).mono ?_
        cases hz : Kw.ok y.2 with
        | false =>
          have he := hNo.out (.inr hz)
          rintro e w2 ⟨rfl, hb2⟩
          have hL2 := hide ((unhide hL1).trans (hb2.mono hle1))
          clear hb2 hz
          go_wp2_with fail
          go_ret
          exact ⟨ret_bool' he.symm, unhide hL2⟩
        | true =>
          have hN1 := hide (hYes.out HY.out hz)
          rintro e w2 ⟨rfl, hb2⟩
          have hL2 := hide ((unhide hL1).trans (hb2.mono hle1))
          clear hb2 hz
          go_wp2_with fail
          go_roundw
          case rel => exact ⟨k + 1, by omega, by simp, hN1, hL2⟩
          case measure => simp [intOf]; omega
    · have hlt2 : decide ((k : Int) < (bs.length : Int)) = false := by simp; omega
      have he : okBoxes bs = true := okBoxes_iff.2 ⟨by omega, fun b hb => by
        obtain ⟨j, hj, e⟩ := List.getElem_of_mem hb
        have := hN.out j (by omega)
        rw [List.getD_eq_getElem?_getD, List.getElem?_eq_getElem hj] at this
        rw [← e]; exact this⟩
      go_wp2_with fail
      go_ret
      exact ⟨ret_bool' he.symm, unhide hL⟩
#print axioms l2Boxes_any
end Go.Proofs.Ytjdpabiodalfkaa
