/-
  The laws' own marks: texts that are written into rows, and looked up again.
-/
import Derived.Test.YtkcopldlobomhaaStr0
import Derived.Test.YtkcopldlobomhaaConv
namespace Go.Proofs.Ytkcopldlobomhaa
open Go.RowKit

theorem grown_below' {wr u u' : World} {r : Option Nat} (h : wr.grownBy u r) (hb : Below u.heap.size u u') : wr.grownBy u' r :=
  ⟨hb.os.trans h.os, hb.tape.trans h.tape, hb.output.trans h.output, Nat.le_trans h.size hb.size, fun k hk hr => (hb.block k (Nat.lt_of_lt_of_le hk h.size)).trans (h.block k hk hr)⟩

/-- The digits of a number, ahead of some. -/
def mtd (k : Nat) (t : ByteArray) : ByteArray := if _h : k = 0 then t else mtd (k / 10) (by1 (48 + k % 10) ++ t)
termination_by k
decreasing_by omega
theorem mtd_zero (t : ByteArray) : mtd 0 t = t := by unfold mtd; simp
theorem mtd_pos {k : Nat} (h : k ≠ 0) (t : ByteArray) : mtd k t = mtd (k / 10) (by1 (48 + k % 10) ++ t) := by rw [mtd]; simp [h]
/-- The mark of a number. -/
def mt (k : Nat) : ByteArray := ⟨#[109]⟩ ++ mtd k ⟨#[]⟩

set_option maxRecDepth 100000 in
set_option maxHeartbeats 1000000 in
theorem markText_any (n : Nat) (w : World) (h0 : 0 < n) (h : n ≤ 10000000) :
    Calls Try.prog 63 #[.int .i64 (n : Int)] w fun e w' => e = .returned (.string (mt n)) ∧ Below w.heap.size w w' := by
  have hc := conv1
  have hp : decide ((n : Int) ≤ 0) = false := by simp; omega
  go_enter Try.func63, Try.ntmps63
  go_wp2_with fail
  go_loopw [0, 3] (fun a s wr => ∃ (k : Nat) (t : ByteArray), a = .int .i64 (k : Int) ∧ s = .string t ∧ k + t.size ≤ n ∧ Hid (mtd k t = mtd n ⟨#[]⟩) ∧ Hid (Below w.heap.size w wr)) (fun a _ _ => (intOf a).toNat)
  case atStart => exact ⟨n, ⟨#[]⟩, rfl, rfl, Nat.le_refl _, rfl, Below.refl _ _⟩
  case round =>
    obtain ⟨k, t, rfl, rfl, hk, hm, hL⟩ := hrel
    have hle := hL.out.size
    by_cases hpos : 0 < k
    · have hpos2 : (0 : Int) < (k : Int) := by omega
      have e10 : (k : Int).tmod 10 = ((k % 10 : Nat) : Int) := by rw [Int.tmod_eq_emod_of_nonneg (by omega)]; omega
      have d10 : (k : Int).tdiv 10 = ((k / 10 : Nat) : Int) := by rw [Int.tdiv_eq_ediv_of_nonneg (by omega)]; omega
      have hr : k % 10 < 10 := Nat.mod_lt _ (by omega)
      have hm1 : Hid (mtd (k / 10) (by1 (48 + k % 10) ++ t) = mtd n ⟨#[]⟩) := by show _ = _; rw [← mtd_pos (by omega)]; exact hm.out
      have hd : k / 10 < k := by omega
      generalize k % 10 = r at e10 hr hm1
      generalize k / 10 = q at d10 hm1 hd
      have u8 : IntKind.u8.wrap (48 + (r : Int)) = 48 + (r : Int) := by simp [IntKind.wrap, IntKind.bits, IntKind.signed]; omega
      have hnat : ((48 : Int) + (r : Int)).toNat = 48 + r := by omega
      have hs1 : (by1 (48 + r)).size = 1 := rfl
      have hts : t.size ≤ 10000000 := by omega
      have hHA : Hid (Below w.heap.size w (wr.alloc (.cells #[.int .u8 (48 + (r : Int))] 5))) := (unhide hL).alloc hle _
      go_wp2_with fail
      go_roundw
      case rel => exact ⟨q, by1 (48 + r) ++ t, rfl, rfl, by rw [ByteArray.size_append, hs1]; omega, hm1, hHA⟩
      case measure => simp [intOf]; omega
    · have hpos2 : decide ((0 : Int) < (k : Int)) = false := by simp; omega
      have hk0 : k = 0 := by omega
      subst hk0
      have he : Hid (⟨#[109]⟩ ++ t = mt n) := by show _ = _; unfold mt; rw [← hm.out, mtd_zero]
      go_wp2_with fail
      go_ret
      exact ⟨congrArg (fun x => Ending.returned (.string x)) he.out, unhide hL⟩
/-- The marks from one on. -/
def marks (k n : Nat) : List ByteArray := (List.range n).map fun i => mt (k + i)
theorem marks_len (k n : Nat) : (marks k n).length = n := by unfold marks; simp
theorem marks_get {k n i : Nat} (h : i < n) : (marks k n).getD i ByteArray.empty = mt (k + i) := by
  unfold marks
  rw [List.getD_eq_getElem?_getD]
  simp [h]

/-- The first j marked, the rest as they were. -/
def markd (k : Nat) (xs : List ByteArray) (j : Nat) : List ByteArray := marks k j ++ xs.drop j
theorem markd_zero (k : Nat) (xs : List ByteArray) : markd k xs 0 = xs := by unfold markd marks; simp
theorem markd_all (k : Nat) (xs : List ByteArray) : markd k xs xs.length = marks k xs.length := by unfold markd; simp
theorem markd_len {k : Nat} {xs : List ByteArray} {j : Nat} (h : j ≤ xs.length) : (markd k xs j).length = xs.length := by unfold markd; rw [List.length_append, marks_len, List.length_drop]; omega
theorem markd_set {k : Nat} {xs : List ByteArray} {j : Nat} (h : j < xs.length) : (markd k xs j).set j (mt (k + j)) = markd k xs (j + 1) := by
  unfold markd marks
  rw [List.range_succ, List.map_append, List.set_append_right _ _ (by simp)]
  have e : (xs.drop j).set 0 (mt (k + j)) = mt (k + j) :: xs.drop (j + 1) := by rw [List.drop_eq_getElem_cons h]; rfl
  simp [e]

set_option maxRecDepth 100000 in
set_option maxHeartbeats 1000000 in
theorem markStringS_any (B : Nat) (v : Value) (xs : List ByteArray) (k : Nat) (w : World) (h : Own B w v xs) (hk : 0 < k) (hk2 : k ≤ 4000000) (hl : xs.length ≤ 1048576) :
    Calls Try.prog 62 #[v, .int .i64 (k : Int)] w fun e w' => e = .returned (.int .i64 ((k + xs.length : Nat) : Int)) ∧ Own B w' v (marks k xs.length) ∧ w.grownBy w' v.ownBlock := by
  have hO := hide h
  obtain ⟨ao, cap, hv⟩ := row_form' h
  subst hv
  clear h
  go_enter Try.func62, Try.ntmps62
  go_wp2_with fail
  go_loopw [1, 5] (fun c i wr => ∃ j : Nat, j ≤ xs.length ∧ i = .int .i64 (j : Int) ∧ c = .int .i64 ((k + j : Nat) : Int) ∧ Hid (wr.ownsRow B 9 1 (.slice ao xs.length cap) xs.length ((markd k xs j).map Value.string)) ∧ Hid (w.grownBy wr (Value.ownBlock (.slice ao xs.length cap)))) (fun _ i _ => xs.length - (intOf i).toNat)
  case atStart => exact ⟨0, by omega, rfl, by simp, by rw [markd_zero]; exact unhide hO, ⟨rfl, rfl, rfl, Nat.le_refl _, fun _ _ _ => rfl⟩⟩
  case round =>
    obtain ⟨j, hj, rfl, rfl, hOj, hG⟩ := hrel
    by_cases hlt : j < xs.length
    · have hlt2 : (j : Int) < (xs.length : Int) := by omega
      have i3 : IntKind.i64.wrap ((j : Int) + 1) = (j : Int) + 1 := by simp [IntKind.wrap, IntKind.bits, IntKind.signed]; omega
      obtain ⟨z, hz⟩ : ∃ z : Nat, z = k + j := ⟨_, rfl⟩
      rw [← hz]
      have hz1 : 0 < z := by omega
      have hz2 : z ≤ 6000000 := by omega
      have HZ := hide hz
      clear hz
      have i4 : IntKind.i64.wrap ((z : Int) + 1) = (z : Int) + 1 := by simp [IntKind.wrap, IntKind.bits, IntKind.signed]; omega
      rcases (unhide hOj).2 with ⟨q, _⟩ | ⟨g, cap', cur, hq, hBg, hcur, _⟩
      · simp at q; omega
      simp only [Value.slice.injEq] at hq
      obtain ⟨rfl, _, rfl⟩ := hq
      clear hcur
      go_wp2_with fail
      refine (markText_any z _ (by omega) (by omega)).mono ?_
      rintro e w2 ⟨rfl, hb2⟩
      have hO2 := own_below' (unhide hOj) hb2
      have hG2 := hide (grown_below' (unhide hG) hb2)
      have hml := markd_len (k := k) (xs := xs) (j := j) hj
      have hfz := hO2.frozenAt j
      have hcell : w2.cell? ⟨g, j, none⟩ = some (.string ((markd k xs j).getD j ByteArray.empty)) := by
        rw [hO2.cellAt j (by omega), List.getElem?_map, List.getElem?_eq_getElem (by omega), List.getD_eq_getElem?_getD, List.getElem?_eq_getElem (by omega)]; rfl
      obtain ⟨s1, s2⟩ := hO2.stored j (.string (mt z))
      rw [← List.map_set, HZ.out, markd_set hlt] at s1
      have HS1 := hide s1
      have HG3 : Hid (w.grownBy (w2.setCell ⟨g, j, none⟩ (.string (mt z))) (some g)) := (unhide hG2).trans s2
      clear s1 s2 hO2 hb2 hOj hG hG2 hml
      generalize (markd k xs j).getD j ByteArray.empty = old at hcell
      rw [← HZ.out] at HS1
      generalize mt z = y at HS1 HG3 ⊢
      go_wp2_with fail
      go_roundw
      case rel => exact ⟨j + 1, by omega, by simp, by rw [show ((k + (j + 1) : Nat) : Int) = (z : Int) + 1 by have := HZ.out; omega], HS1, HG3⟩
      case measure => simp [intOf]; omega
    · have hlt2 : decide ((j : Int) < (xs.length : Int)) = false := by simp; omega
      have hjn : j = xs.length := by omega
      subst hjn
      rw [markd_all] at hOj
      go_wp2_with fail
      go_ret
      refine ⟨rfl, ?_, unhide hG⟩
      unfold Own
      rw [marks_len]
      exact unhide hOj

#print axioms markStringS_any
end Go.Proofs.Ytkcopldlobomhaa
