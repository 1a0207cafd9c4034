/-
  The laws' own marks: texts that are written into rows, and looked up again.
-/
import Derived.Test.YteiojanamkndmaaGreatFnExactMemJoinB1
import Derived.Test.YteiojanamkndmaaGreatFnExactMemJoinB3
import Derived.Deep.RegionHeld3
import Derived.Test.YteiojanamkndmaaGreatFnExactMemJoinB6
import Derived.Test.YteiojanamkndmaaGreatFnExactMemJoinB5
import Derived.RangeFuncNested
import Derived.RangeFuncBound
import Derived.RangeFuncCalls
import Derived.RangeFuncLeaves
import Derived.Shelf.Abstract
import Derived.Shelf.RegionOpen
import Derived.WalkKit
import Derived.OwnWalkIn
import Derived.TacticsInMore
import Derived.LoopNIn
import Derived.LoopIn
namespace Go.Proofs.YteiojanamkndmaaGreat
open Go.RowKit

theorem grown_below' {wr u u' : World} {r : Option Nat} (h : wr.grownBy u r) (hb : Below u.heap.size u u') : wr.grownBy u' r :=
  ⟨hb.os.trans h.os, hb.tape.trans h.tape, hb.output.trans h.output, Nat.le_trans h.size hb.size, fun k hk hr => (hb.block k (Nat.lt_of_lt_of_le hk h.size)).trans (h.block k hk hr)⟩

/-- The digits of a number, ahead of some. -/
def mtd (k : Nat) (t : ByteArray) : ByteArray := if _h : k = 0 then t else mtd (k / 10) (by1 (48 + k % 10) ++ t)
termination_by k
decreasing_by omega
theorem mtd_zero (t : ByteArray) : mtd 0 t = t := by unfold mtd; simp
theorem mtd_pos {k : Nat} (h : k ≠ 0) (t : ByteArray) : mtd k t = mtd (k / 10) (by1 (48 + k % 10) ++ t) := by rw [mtd]; simp [h]
/-- The mark of a number. -/
def mt (k : Nat) : ByteArray := ⟨#[109]⟩ ++ mtd k ⟨#[]⟩

set_option maxRecDepth 100000 in
set_option maxHeartbeats 1000000 in
theorem markText_any (n : Nat) (w : World) (h0 : 0 < n) (h : n ≤ 10000000) :
    Calls Tryz.prog 70 #[.int .i64 (n : Int)] w fun e w' => e = .returned (.string (mt n)) ∧ Below w.heap.size w w' := by
  have hc := conv1
  have hp : decide ((n : Int) ≤ 0) = false := by simp; omega
  go_enter Tryz.func70, Tryz.ntmps70
  go_wp2_with fail
  go_loopw [0, 3] (fun a s wr => ∃ (k : Nat) (t : ByteArray), a = .int .i64 (k : Int) ∧ s = .string t ∧ k + t.size ≤ n ∧ Hid (mtd k t = mtd n ⟨#[]⟩) ∧ Hid (Below w.heap.size w wr)) (fun a _ _ => (intOf a).toNat)
  case atStart => exact ⟨n, ⟨#[]⟩, rfl, rfl, Nat.le_refl _, rfl, Below.refl _ _⟩
  case round =>
    obtain ⟨k, t, rfl, rfl, hk, hm, hL⟩ := hrel
    have hle := hL.out.size
    by_cases hpos : 0 < k
    · have hpos2 : (0 : Int) < (k : Int) := by omega
      have e10 : (k : Int).tmod 10 = ((k % 10 : Nat) : Int) := by rw [Int.tmod_eq_emod_of_nonneg (by omega)]; omega
      have d10 : (k : Int).tdiv 10 = ((k / 10 : Nat) : Int) := by rw [Int.tdiv_eq_ediv_of_nonneg (by omega)]; omega
      have hr : k % 10 < 10 := Nat.mod_lt _ (by omega)
      have hm1 : Hid (mtd (k / 10) (by1 (48 + k % 10) ++ t) = mtd n ⟨#[]⟩) := by show _ = _; rw [← mtd_pos (by omega)]; exact hm.out
      have hd : k / 10 < k := by omega
      generalize k % 10 = r at e10 hr hm1
      generalize k / 10 = q at d10 hm1 hd
      have u8 : IntKind.u8.wrap (48 + (r : Int)) = 48 + (r : Int) := by simp [IntKind.wrap, IntKind.bits, IntKind.signed]; omega
      have hnat : ((48 : Int) + (r : Int)).toNat = 48 + r := by omega
      have hs1 : (by1 (48 + r)).size = 1 := rfl
      have hts : t.size ≤ 10000000 := by omega
      have hHA : Hid (Below w.heap.size w (wr.alloc (.cells #[.int .u8 (48 + (r : Int))] 5))) := (unhide hL).alloc hle _
      go_wp2_with fail
      go_roundw
      case rel => exact ⟨q, by1 (48 + r) ++ t, rfl, rfl, by rw [ByteArray.size_append, hs1]; omega, hm1, hHA⟩
      case measure => simp [intOf]; omega
    · have hpos2 : decide ((0 : Int) < (k : Int)) = false := by simp; omega
      have hk0 : k = 0 := by omega
      subst hk0
      have he : Hid (⟨#[109]⟩ ++ t = mt n) := by show _ = _; unfold mt; rw [← hm.out, mtd_zero]
      go_wp2_with fail
      go_ret
      exact ⟨congrArg (fun x => Ending.returned (.string x)) he.out, unhide hL⟩
/-- The marks from one on. -/
def marks (k n : Nat) : List ByteArray := (List.range n).map fun i => mt (k + i)
theorem marks_len (k n : Nat) : (marks k n).length = n := by unfold marks; simp
theorem marks_get {k n i : Nat} (h : i < n) : (marks k n).getD i ByteArray.empty = mt (k + i) := by
  unfold marks
  rw [List.getD_eq_getElem?_getD]
  simp [h]

/-- The first j marked, the rest as they were. -/
def markd (k : Nat) (xs : List ByteArray) (j : Nat) : List ByteArray := marks k j ++ xs.drop j
theorem markd_zero (k : Nat) (xs : List ByteArray) : markd k xs 0 = xs := by unfold markd marks; simp
theorem markd_all (k : Nat) (xs : List ByteArray) : markd k xs xs.length = marks k xs.length := by unfold markd; simp
theorem markd_len {k : Nat} {xs : List ByteArray} {j : Nat} (h : j ≤ xs.length) : (markd k xs j).length = xs.length := by unfold markd; rw [List.length_append, marks_len, List.length_drop]; omega
theorem markd_set {k : Nat} {xs : List ByteArray} {j : Nat} (h : j < xs.length) : (markd k xs j).set j (mt (k + j)) = markd k xs (j + 1) := by
  unfold markd marks
  rw [List.range_succ, List.map_append, List.set_append_right _ _ (by simp)]
  have e : (xs.drop j).set 0 (mt (k + j)) = mt (k + j) :: xs.drop (j + 1) := by rw [List.drop_eq_getElem_cons h]; rfl
  simp [e]

set_option maxRecDepth 100000 in
set_option maxHeartbeats 1000000 in
theorem markStringS_any (B : Nat) (v : Value) (xs : List ByteArray) (k : Nat) (w : World) (h : Own B w v xs) (hk : 0 < k) (hk2 : k ≤ 4000000) (hl : xs.length ≤ 1048576) :
    Calls Tryz.prog 33 #[v, .int .i64 (k : Int)] w fun e w' => e = .returned (.int .i64 ((k + xs.length : Nat) : Int)) ∧ Own B w' v (marks k xs.length) ∧ w.grownBy w' v.ownBlock := by
  have hO := hide h
  obtain ⟨ao, cap, hv⟩ := row_form' h
  subst hv
  clear h
  go_enter Tryz.func33, Tryz.ntmps33
  go_wp2_with fail
  go_loopw [1, 5] (fun c i wr => ∃ j : Nat, j ≤ xs.length ∧ i = .int .i64 (j : Int) ∧ c = .int .i64 ((k + j : Nat) : Int) ∧ Hid (wr.ownsRow B 9 1 (.slice ao xs.length cap) xs.length ((markd k xs j).map Value.string)) ∧ Hid (w.grownBy wr (Value.ownBlock (.slice ao xs.length cap)))) (fun _ i _ => xs.length - (intOf i).toNat)
  case atStart => exact ⟨0, by omega, rfl, by simp, by rw [markd_zero]; exact unhide hO, ⟨rfl, rfl, rfl, Nat.le_refl _, fun _ _ _ => rfl⟩⟩
  case round =>
    obtain ⟨j, hj, rfl, rfl, hOj, hG⟩ := hrel
    by_cases hlt : j < xs.length
    · have hlt2 : (j : Int) < (xs.length : Int) := by omega
      have i3 : IntKind.i64.wrap ((j : Int) + 1) = (j : Int) + 1 := by simp [IntKind.wrap, IntKind.bits, IntKind.signed]; omega
      obtain ⟨z, hz⟩ : ∃ z : Nat, z = k + j := ⟨_, rfl⟩
      rw [← hz]
      have hz1 : 0 < z := by omega
      have hz2 : z ≤ 6000000 := by omega
      have HZ := hide hz
      clear hz
      have i4 : IntKind.i64.wrap ((z : Int) + 1) = (z : Int) + 1 := by simp [IntKind.wrap, IntKind.bits, IntKind.signed]; omega
      rcases (unhide hOj).2 with ⟨q, _⟩ | ⟨g, cap', cur, hq, hBg, hcur, _⟩
      · simp at q; omega
      simp only [Value.slice.injEq] at hq
      obtain ⟨rfl, _, rfl⟩ := hq
      clear hcur
      go_wp2_with fail
      refine (markText_any z _ (by omega) (by omega)).mono ?_
      rintro e w2 ⟨rfl, hb2⟩
      have hO2 := own_below' (unhide hOj) hb2
      have hG2 := hide (grown_below' (unhide hG) hb2)
      have hml := markd_len (k := k) (xs := xs) (j := j) hj
      have hfz := hO2.frozenAt j
      have hcell : w2.cell? ⟨g, j, none⟩ = some (.string ((markd k xs j).getD j ByteArray.empty)) := by
        rw [hO2.cellAt j (by omega), List.getElem?_map, List.getElem?_eq_getElem (by omega), List.getD_eq_getElem?_getD, List.getElem?_eq_getElem (by omega)]; rfl
      obtain ⟨s1, s2⟩ := hO2.stored j (.string (mt z))
      rw [← List.map_set, HZ.out, markd_set hlt] at s1
      have HS1 := hide s1
      have HG3 : Hid (w.grownBy (w2.setCell ⟨g, j, none⟩ (.string (mt z))) (some g)) := (unhide hG2).trans s2
      clear s1 s2 hO2 hb2 hOj hG hG2 hml
      generalize (markd k xs j).getD j ByteArray.empty = old at hcell
      rw [← HZ.out] at HS1
      generalize mt z = y at HS1 HG3 ⊢
      go_wp2_with fail
      go_roundw
      case rel => exact ⟨j + 1, by omega, by simp, by rw [show ((k + (j + 1) : Nat) : Int) = (z : Int) + 1 by have := HZ.out; omega], HS1, HG3⟩
      case measure => simp [intOf]; omega
    · have hlt2 : decide ((j : Int) < (xs.length : Int)) = false := by simp; omega
      have hjn : j = xs.length := by omega
      subst hjn
      rw [markd_all] at hOj
      go_wp2_with fail
      go_ret
      refine ⟨rfl, ?_, unhide hG⟩
      unfold Own
      rw [marks_len]
      exact unhide hOj

#print axioms markStringS_any
end Go.Proofs.YteiojanamkndmaaGreat
/-
  The laws' own marks: texts that are looked up again.
-/
namespace Go.Proofs.YteiojanamkndmaaGreat
open Go.RowKit

set_option maxRecDepth 100000 in
set_option maxHeartbeats 2000000 in
theorem heldStringS_any (v : Value) (n k : Nat) (w : World) (h : SRow w v (marks k n)) (hk : 0 < k) (hk2 : k ≤ 4000000) (hl : n ≤ 1048576) :
    Calls Tryz.prog 71 #[v, .int .i64 (k : Int)] w fun e w' => e = .returned (.int .i64 ((k + n : Nat) : Int)) ∧ Below w.heap.size w w' := by
  have hR := hide h
  obtain ⟨ao, cap, rfl, h1, h2, _⟩ := h.form
  rw [marks_len] at h1 hR ⊢
  unfold maxLen at h2
  clear h
  go_enter Tryz.func71, Tryz.ntmps71
  go_wp2_with fail
  go_loopw [1, 5] (fun c i wr => ∃ j : Nat, j ≤ n ∧ i = .int .i64 (j : Int) ∧ c = .int .i64 ((k + j : Nat) : Int) ∧ Hid (Below w.heap.size w wr)) (fun _ i _ => n - (intOf i).toNat)
  case atStart => exact ⟨0, by omega, rfl, by simp, Below.refl _ _⟩
  case round =>
    obtain ⟨j, hj, rfl, rfl, hL⟩ := hrel
    have hle := hL.out.size
    by_cases hlt : j < n
    · have hlt2 : (j : Int) < (n : Int) := by omega
      have i3 : IntKind.i64.wrap ((j : Int) + 1) = (j : Int) + 1 := by simp [IntKind.wrap, IntKind.bits, IntKind.signed]; omega
      obtain ⟨ao', c1, q1, _, _, q2⟩ := (SRow.below (unhide hR) (unhide hL)).form
      rw [marks_len] at q1 q2
      simp only [Value.slice.injEq] at q1
      obtain ⟨rfl, _, rfl⟩ := q1
      obtain ⟨ad, rfl, hck⟩ := q2 j hlt
      rw [marks_get hlt] at hck
      clear q2
      obtain ⟨z, hz⟩ : ∃ z : Nat, z = k + j := ⟨_, rfl⟩
      rw [← hz] at hck ⊢
      have hz1 : 0 < z := by omega
      have hz2 : z ≤ 6000000 := by omega
      have HZ := hide hz
      clear hz
      have i4 : IntKind.i64.wrap ((z : Int) + 1) = (z : Int) + 1 := by simp [IntKind.wrap, IntKind.bits, IntKind.signed]; omega
      have HM : Hid (∀ u : World, Calls Tryz.prog 70 #[.int .i64 (z : Int)] u fun e w' => e = .returned (.string (mt z)) ∧ Below u.heap.size u w') := fun u => markText_any z u hz1 (by omega)
      generalize mt z = y at hck HM
      go_wp2_with fail
      go_region_held3 (fun w' => w'.cell? (ad.add j) = some (.string y))
        ((first | exact hck | exact pck))
        ((go_at_call 70; refine (HM.out wr.drew).mono ?_; rintro e w2 ⟨rfl, hb2⟩; have pck := (hb2.cell (cell_lt hck)).trans hck; have hL2 : Hid (Below w.heap.size w w2) := ((unhide hL).drew).trans (hb2.mono hle); clear hb2))
      go_wp2_with fail
      go_roundw
      case rel => exact ⟨j + 1, by omega, by simp, by rw [show ((k + (j + 1) : Nat) : Int) = (z : Int) + 1 by have := HZ.out; omega], hL2⟩
      case measure => simp [intOf]; omega
    · have hlt2 : decide ((j : Int) < (n : Int)) = false := by simp; omega
      have hjn : j = n := by omega
      subst hjn
      go_wp2_with fail
      go_ret
      exact ⟨rfl, unhide hL⟩
end Go.Proofs.YteiojanamkndmaaGreat
/-
  The laws' own helpers over secrets with their places: whether two rows are the same; marks in one, looked up again.
-/
namespace Go.Proofs.YteiojanamkndmaaGreat
open Go.RowKit

set_option maxHeartbeats 400000 in
theorem eqMemOwn_same (b : Mo) (w : World) : Calls Tryz.prog 68 #[.agg #[.int .i64 b.1, .string b.2], .agg #[.int .i64 b.1, .string b.2]] w fun e w' => e = .returned (.bool true) ∧ Below w.heap.size w w' := by
  have HBA : Hid (Below w.heap.size w ((w.alloc (.cells #[.int .i64 b.1, .string b.2] 60)).alloc (.cells #[.int .i64 b.1, .string b.2] 60))) := ((Below.refl _ _).alloc (Nat.le_refl _) _).alloc (by simp) _
  obtain ⟨b1, b2⟩ := b
  simp only
  go_enter Tryz.func68, Tryz.ntmps68
  go_wp2_with fail
  go_ret
  exact ⟨rfl, unhide HBA⟩

set_option maxRecDepth 100000 in
set_option maxHeartbeats 2000000 in
theorem eqMemOwnS_same (v u : Value) (bs : List Mo) (w : World) (h : MRow w v bs) (k : MRow w u bs) :
    Calls Tryz.prog 29 #[v, u] w fun e w' => e = .returned (.bool true) ∧ Below w.heap.size w w' := by
  have hR := hide h
  have hS := hide k
  obtain ⟨ao, cap, rfl, h1, h2, _⟩ := h
  obtain ⟨bo, cap', rfl, h1', h2', _⟩ := k
  unfold maxLen at h2 h2'
  go_enter Tryz.func29, Tryz.ntmps29
  go_wp2_with fail
  go_loopw [5] (fun i wr => ∃ k : Nat, k ≤ bs.length ∧ i = .int .i64 (k : Int) ∧ Hid (Below w.heap.size w wr)) (fun i _ => bs.length - (intOf i).toNat)
  case atStart => exact ⟨0, by omega, rfl, Below.refl _ _⟩
  case round =>
    obtain ⟨k, hk, rfl, hL⟩ := hrel
    have hle := hL.out.size
    by_cases hlt : k < bs.length
    · have hlt2 : (k : Int) < (bs.length : Int) := by omega
      obtain ⟨ao', c1, q1, _, _, q2⟩ := (MRow.below (unhide hR) (unhide hL)).form
      simp only [Value.slice.injEq] at q1
      obtain ⟨rfl, z1, rfl⟩ := q1
      obtain ⟨bo', c2, q3, _, _, q4⟩ := (MRow.below (unhide hS) (unhide hL)).form
      simp only [Value.slice.injEq] at q3
      obtain ⟨rfl, z3, rfl⟩ := q3
      clear z1 z3
      obtain ⟨a, rfl, hca, hcb⟩ := q2 k hlt
      obtain ⟨b, rfl, hda, hdb⟩ := q4 k hlt
      clear q2 q4
      have i3 : IntKind.i64.wrap ((k : Int) + 1) = (k : Int) + 1 := by simp [IntKind.wrap, IntKind.bits, IntKind.signed]; omega
      generalize bs.getD k noMo = y at hca hcb hda hdb
      go_wp2_with fail
      go_region_held3 (fun w' => w'.cell? (a.add (k * 2)) = some (.int .i64 y.1) ∧ w'.cell? ⟨(a.add (k * 2)).block, (a.add (k * 2)).off + 1, none⟩ = some (.string y.2) ∧ w'.cell? (b.add (k * 2)) = some (.int .i64 y.1) ∧ w'.cell? ⟨(b.add (k * 2)).block, (b.add (k * 2)).off + 1, none⟩ = some (.string y.2))
        ((first | exact ⟨hca, hcb, hda, hdb⟩ | exact ⟨pca, pcb, pda, pdb⟩))
        ((go_at_call 68; refine (eqMemOwn_same y wr.drew).mono ?_; rintro e w2 ⟨rfl, hb2⟩; have pca := (hb2.cell (cell_lt hca)).trans hca; have pcb := (hb2.cell (cell_lt hcb)).trans hcb; have pda := (hb2.cell (cell_lt hda)).trans hda; have pdb := (hb2.cell (cell_lt hdb)).trans hdb; have hL2 : Hid (Below w.heap.size w w2) := ((unhide hL).drew).trans (hb2.mono hle); clear hb2))
      go_wp2_with fail
      go_roundw
      case rel => exact ⟨k + 1, by omega, by simp, hL2⟩
      case measure => simp [intOf]; omega
    · have hlt2 : decide ((k : Int) < (bs.length : Int)) = false := by simp; omega
      go_wp2_with fail
      go_ret
      exact ⟨rfl, unhide hL⟩

/-- The marks from one on, two a secret. -/
def mmarks (k n : Nat) : List Mo := (List.range n).map fun i => (((k + 2 * i : Nat) : Int), mt (k + 2 * i + 1))
theorem mmarks_len (k n : Nat) : (mmarks k n).length = n := by unfold mmarks; simp
theorem mmarks_get {k n i : Nat} (h : i < n) : (mmarks k n).getD i noMo = (((k + 2 * i : Nat) : Int), mt (k + 2 * i + 1)) := by
  unfold mmarks
  rw [List.getD_eq_getElem?_getD]
  simp [h]
/-- The first j marked, the rest as they were. -/
def mmarkd (k : Nat) (xs : List Mo) (j : Nat) : List Mo := mmarks k j ++ xs.drop j
theorem mmarkd_zero (k : Nat) (xs : List Mo) : mmarkd k xs 0 = xs := by unfold mmarkd mmarks; simp
theorem mmarkd_all (k : Nat) (xs : List Mo) : mmarkd k xs xs.length = mmarks k xs.length := by unfold mmarkd; simp
theorem mmarkd_len {k : Nat} {xs : List Mo} {j : Nat} (h : j ≤ xs.length) : (mmarkd k xs j).length = xs.length := by unfold mmarkd; rw [List.length_append, mmarks_len, List.length_drop]; omega
theorem mmarkd_set {k : Nat} {xs : List Mo} {j : Nat} (h : j < xs.length) : (mmarkd k xs j).set j (((k + 2 * j : Nat) : Int), mt (k + 2 * j + 1)) = mmarkd k xs (j + 1) := by
  unfold mmarkd mmarks
  rw [List.range_succ, List.map_append, List.set_append_right _ _ (by simp)]
  have e : (xs.drop j).set 0 ((((k + 2 * j : Nat) : Int), mt (k + 2 * j + 1)) : Mo) = (((k + 2 * j : Nat) : Int), mt (k + 2 * j + 1)) :: xs.drop (j + 1) := by rw [List.drop_eq_getElem_cons h]; rfl
  simpa using e
theorem mcells_set : ∀ (cs : List Mo) (k : Nat) (b : Mo), k < cs.length → ((mcells cs).set (k * 2) (.int .i64 b.1)).set (k * 2 + 1) (.string b.2) = mcells (cs.set k b)
  | [], k, _, h => absurd h (Nat.not_lt_zero _)
  | c :: cs, 0, b, _ => by simp [mcells]
  | c :: cs, k + 1, b, h => by
    have := mcells_set cs k b (by simpa using h)
    rw [show (k + 1) * 2 = k * 2 + 1 + 1 by omega]
    simpa [mcells] using this

set_option maxRecDepth 100000 in
set_option maxHeartbeats 2000000 in
theorem markMemOwnS_any (B : Nat) (v : Value) (bs : List Mo) (k : Nat) (w : World) (h : OwnM B w v bs) (hk : 0 < k) (hk2 : k ≤ 2000000) (hl : bs.length ≤ 1048576) :
    Calls Tryz.prog 36 #[v, .int .i64 (k : Int)] w fun e w' => e = .returned (.int .i64 ((k + 2 * bs.length : Nat) : Int)) ∧ OwnM B w' v (mmarks k bs.length) ∧ w.grownBy w' v.ownBlock := by
  have hO := hide h
  obtain ⟨ao, cap, hv⟩ := row_form' h
  subst hv
  clear h
  go_enter Tryz.func36, Tryz.ntmps36
  go_wp2_with fail
  go_loopw [1, 5] (fun c i wr => ∃ (j z : Nat), j ≤ bs.length ∧ i = .int .i64 (j : Int) ∧ c = .int .i64 (z : Int) ∧ 0 < z ∧ z = k + 2 * j ∧ Hid (wr.ownsRow B 60 2 (.slice ao bs.length cap) bs.length (mcells (mmarkd k bs j))) ∧ Hid (w.grownBy wr (Value.ownBlock (.slice ao bs.length cap)))) (fun _ i _ => bs.length - (intOf i).toNat)
  case atStart => exact ⟨0, k, by omega, rfl, rfl, hk, by omega, by rw [mmarkd_zero]; exact unhide hO, ⟨rfl, rfl, rfl, Nat.le_refl _, fun _ _ _ => rfl⟩⟩
  case round =>
    obtain ⟨j, z, hj, rfl, rfl, hz1, hz, hOj, hG⟩ := hrel
    have hz2 : z ≤ 5000000 := by omega
    have HZ := hide hz
    clear hz
    by_cases hlt : j < bs.length
    · have hlt2 : (j : Int) < (bs.length : Int) := by omega
      have HCL : Hid ((mmarkd k bs j).length = bs.length) := mmarkd_len hj
      have HST : Hid ((mmarkd k bs j).set j ((z : Int), mt (z + 1)) = mmarkd k bs (j + 1)) := by show _ = _; rw [HZ.out]; exact mmarkd_set hlt
      generalize mmarkd k bs j = cs at *
      have hjc : j < cs.length := by have := HCL.out; omega
      have i3 : IntKind.i64.wrap ((j : Int) + 1) = (j : Int) + 1 := by simp [IntKind.wrap, IntKind.bits, IntKind.signed]; omega
      have i4 : IntKind.i64.wrap ((z : Int) + 1) = (z : Int) + 1 := by simp [IntKind.wrap, IntKind.bits, IntKind.signed]; omega
      have i5 : IntKind.i64.wrap ((z : Int) + 1 + 1) = (z : Int) + 1 + 1 := by simp [IntKind.wrap, IntKind.bits, IntKind.signed]; omega
      rcases (unhide hOj).2 with ⟨q, _⟩ | ⟨g, cap', cur, hq, hBg, hcur, _⟩
      · simp at q; omega
      simp only [Value.slice.injEq] at hq
      obtain ⟨rfl, _, rfl⟩ := hq
      clear hcur
      obtain ⟨p1, p2⟩ := mcells_get cs j hjc
      have P1 := hide p1
      have P2 := hide p2
      have hlen2 := (unhide hOj).1
      have HM : Hid (∀ (zz : Nat) (u : World), 0 < zz → zz ≤ 10000000 → Calls Tryz.prog 70 #[.int .i64 (zz : Int)] u fun e w' => e = .returned (.string (mt zz)) ∧ Below u.heap.size u w') := fun zz u q1 q2 => markText_any zz u q1 q2
      clear p1 p2
      have f0 := (unhide hOj).frozenAt (j * 2)
      have e0 : wr.cell? ⟨g, j * 2, none⟩ = some (.int .i64 (cs.getD j noMo).1) := ((unhide hOj).cellAt (j * 2) (by omega)).trans P1.out
      obtain ⟨s1, s2⟩ := (unhide hOj).stored (j * 2) (.int .i64 (z : Int))
      have HS1 := hide s1
      have HG1 := hide ((unhide hG).trans s2)
      clear s1 s2 hOj hG
      go_wp2_with fail
      have hcast : (z : Int) + 1 = ((z + 1 : Nat) : Int) := by omega
      rw [hcast]
      refine (HM.out (z + 1) _ (by omega) (by omega)).mono ?_
      rw [← hcast]
      rintro e w3 ⟨rfl, hb3⟩
      have hO3 := own_below' (unhide HS1) hb3
      have hG3 := grown_below' (unhide HG1) hb3
      have f1 := hO3.frozenAt (j * 2 + 1)
      have e1 : w3.cell? ⟨g, j * 2 + 1, none⟩ = some (.string (cs.getD j noMo).2) := by
        rw [hO3.cellAt (j * 2 + 1) (by omega), List.getElem?_set_ne (by omega)]; exact P2.out
      obtain ⟨s1, s2⟩ := hO3.stored (j * 2 + 1) (.string (mt (z + 1)))
      rw [mcells_set cs j ((z : Int), mt (z + 1)) hjc, HST.out] at s1
      generalize mt (z + 1) = y2 at s1 s2 ⊢
      have HS3 := hide s1
      have HG3' := hide (hG3.trans s2)
      clear s1 s2 hO3 hG3 hb3 HS1 HG1 hcast e0 f0
      go_wp2_with fail
      go_roundw
      case rel => exact ⟨j + 1, z + 2, by omega, by simp, by rw [show ((z + 2 : Nat) : Int) = (z : Int) + 1 + 1 by omega], by omega, by have := HZ.out; omega, HS3, HG3'⟩
      case measure => simp [intOf]; omega
    · have hlt2 : decide ((j : Int) < (bs.length : Int)) = false := by simp; omega
      have hjn : j = bs.length := by omega
      subst hjn
      rw [mmarkd_all] at hOj
      go_wp2_with fail
      go_ret
      refine ⟨congrArg (fun (t : Nat) => Ending.returned (.int .i64 (t : Int))) HZ.out, ?_, unhide hG⟩
      unfold OwnM
      rw [mmarks_len]
      exact unhide hOj

set_option maxRecDepth 100000 in
set_option maxHeartbeats 2000000 in
theorem heldMemOwnS_any (v : Value) (n k : Nat) (w : World) (h : MRow w v (mmarks k n)) (hk : 0 < k) (hk2 : k ≤ 2000000) (hl : n ≤ 1048576) :
    Calls Tryz.prog 38 #[v, .int .i64 (k : Int)] w fun e w' => e = .returned (.int .i64 ((k + 2 * n : Nat) : Int)) ∧ Below w.heap.size w w' := by
  have hR := hide h
  obtain ⟨ao, cap, rfl, h1, h2, _⟩ := h.form
  rw [mmarks_len] at h1 hR ⊢
  unfold maxLen at h2
  clear h
  go_enter Tryz.func38, Tryz.ntmps38
  go_wp2_with fail
  go_loopw [1, 5] (fun c i wr => ∃ j : Nat, j ≤ n ∧ i = .int .i64 (j : Int) ∧ c = .int .i64 ((k + 2 * j : Nat) : Int) ∧ Hid (Below w.heap.size w wr)) (fun _ i _ => n - (intOf i).toNat)
  case atStart => exact ⟨0, by omega, rfl, by simp, Below.refl _ _⟩
  case round =>
    obtain ⟨j, hj, rfl, rfl, hL⟩ := hrel
    have hle := hL.out.size
    by_cases hlt : j < n
    · have hlt2 : (j : Int) < (n : Int) := by omega
      have i3 : IntKind.i64.wrap ((j : Int) + 1) = (j : Int) + 1 := by simp [IntKind.wrap, IntKind.bits, IntKind.signed]; omega
      obtain ⟨ao', c1, q1, _, _, q2⟩ := (MRow.below (unhide hR) (unhide hL)).form
      rw [mmarks_len] at q1 q2
      simp only [Value.slice.injEq] at q1
      obtain ⟨rfl, _, rfl⟩ := q1
      obtain ⟨ad, rfl, hck, hcs⟩ := q2 j hlt
      rw [mmarks_get hlt] at hck hcs
      clear q2
      obtain ⟨z, hz⟩ : ∃ z : Nat, z = k + 2 * j := ⟨_, rfl⟩
      rw [← hz] at hck hcs ⊢
      dsimp only at hck hcs
      have hz1 : 0 < z := by omega
      have hz2 : z ≤ 6000000 := by omega
      have HZ := hide hz
      clear hz
      have i4 : IntKind.i64.wrap ((z : Int) + 1) = (z : Int) + 1 := by simp [IntKind.wrap, IntKind.bits, IntKind.signed]; omega
      have i5 : IntKind.i64.wrap ((z : Int) + 1 + 1) = (z : Int) + 1 + 1 := by simp [IntKind.wrap, IntKind.bits, IntKind.signed]; omega
      have HM : Hid (∀ u : World, Calls Tryz.prog 70 #[.int .i64 ((z : Int) + 1)] u fun e w' => e = .returned (.string (mt (z + 1))) ∧ Below u.heap.size u w') := fun u => by
        have := markText_any (z + 1) u (by omega) (by omega)
        rw [show ((z + 1 : Nat) : Int) = (z : Int) + 1 by omega] at this
        exact this
      generalize mt (z + 1) = y at hcs HM
      go_wp2_with fail
      go_region_held3 (fun w' => w'.cell? ⟨(ad.add (j * 2)).block, (ad.add (j * 2)).off + 1, none⟩ = some (.string y))
        ((first | exact hcs | exact pcs))
        ((go_at_call 70; refine (HM.out wr.drew).mono ?_; rintro e w2 ⟨rfl, hb2⟩; have pcs := (hb2.cell (cell_lt hcs)).trans hcs; have hL2 : Hid (Below w.heap.size w w2) := ((unhide hL).drew).trans (hb2.mono hle); clear hb2))
      go_wp2_with fail
      go_roundw
      case rel => exact ⟨j + 1, by omega, by simp, by rw [show ((k + 2 * (j + 1) : Nat) : Int) = (z : Int) + 1 + 1 by have := HZ.out; omega], hL2⟩
      case measure => simp [intOf]; omega
    · have hlt2 : decide ((j : Int) < (n : Int)) = false := by simp; omega
      have hjn : j = n := by omega
      subst hjn
      go_wp2_with fail
      go_ret
      exact ⟨rfl, unhide hL⟩
#print axioms heldMemOwnS_any
end Go.Proofs.YteiojanamkndmaaGreat
/-
  The laws' own helpers over trees: whether two are the same; marks in one, looked up again.
-/
namespace Go.Proofs.YteiojanamkndmaaGreat
open Go.RowKit

theorem SRow.alloc {w : World} {v : Value} {xs : List ByteArray} (h : SRow w v xs) (o : Obj) : SRow (w.alloc o) v xs := h.below ((Below.refl _ _).alloc (Nat.le_refl _) _)

set_option maxHeartbeats 1000000 in
theorem eqTreTree_any (v u : Value) (xs ys : List ByteArray) (w : World) (h : SRow w v xs) (k : SRow w u ys) :
    Calls Tryz.prog 28 #[.agg #[v], .agg #[u]] w fun e w' => e = .returned (.bool (decide (xs = ys))) ∧ Below w.heap.size w w' := by
  have hR := hide h
  have hS := hide k
  obtain ⟨ao, cap, rfl, _, _, _⟩ := h.form
  obtain ⟨bo, cap', rfl, _, _, _⟩ := k.form
  clear h k
  go_enter Tryz.func28, Tryz.ntmps28
  go_wp2_with fail
  refine (eqStringS_any _ _ xs ys _ (((unhide hR).alloc _).alloc _) (((unhide hS).alloc _).alloc _)).mono ?_
  rintro e w1 ⟨rfl, hb1⟩
  have HB1 : Hid (Below w.heap.size w w1) := (((Below.refl _ _).alloc (Nat.le_refl _) _).alloc (by simp) _).trans (hb1.mono (by simp; omega))
  clear hb1
  cases hd : decide (xs = ys) with
  | true =>
    have HD := hide hd
    clear hd
    go_wp2_with fail
    go_ret
    exact ⟨ret_bool' HD.out.symm, unhide HB1⟩
  | false =>
    have HD := hide hd
    clear hd
    go_wp2_with fail
    go_ret
    exact ⟨ret_bool' HD.out.symm, unhide HB1⟩

set_option maxHeartbeats 1000000 in
theorem markTreTree_any (B : Nat) (v : Value) (xs : List ByteArray) (k : Nat) (w : World) (h : Own B w v xs) (hk : 0 < k) (hk2 : k ≤ 4000000) (hl : xs.length ≤ 1048576) :
    Calls Tryz.prog 35 #[.agg #[v], .int .i64 (k : Int)] w fun e w' => e = .returned (.int .i64 ((k + xs.length : Nat) : Int)) ∧ Own B w' v (marks k xs.length) ∧ w.grownBy w' v.ownBlock := by
  have hO := hide h
  obtain ⟨ao, cap, hv⟩ := row_form' h
  subst hv
  clear h
  go_enter Tryz.func35, Tryz.ntmps35
  go_wp2_with fail
  refine (markStringS_any B _ xs k _ ((unhide hO).below ((Below.refl _ _).alloc (Nat.le_refl _) _)) hk hk2 hl).mono ?_
  rintro e w1 ⟨rfl, ho1, hg1⟩
  have H1 := hide ho1
  have G1 := hide ((World.grownBy_alloc w _ _).trans hg1)
  clear ho1 hg1
  go_wp2_with fail
  go_ret
  exact ⟨rfl, unhide H1, unhide G1⟩

set_option maxHeartbeats 1000000 in
theorem heldTreTree_any (v : Value) (n k : Nat) (w : World) (h : SRow w v (marks k n)) (hk : 0 < k) (hk2 : k ≤ 4000000) (hl : n ≤ 1048576) :
    Calls Tryz.prog 37 #[.agg #[v], .int .i64 (k : Int)] w fun e w' => e = .returned (.int .i64 ((k + n : Nat) : Int)) ∧ Below w.heap.size w w' := by
  have hR := hide h
  obtain ⟨ao, cap, rfl, _, _, _⟩ := h.form
  clear h
  go_enter Tryz.func37, Tryz.ntmps37
  go_wp2_with fail
  refine (heldStringS_any _ n k _ ((unhide hR).alloc _) hk hk2 hl).mono ?_
  rintro e w1 ⟨rfl, hb1⟩
  have HB1 : Hid (Below w.heap.size w w1) := ((Below.refl _ _).alloc (Nat.le_refl _) _).trans (hb1.mono (by simp))
  clear hb1
  obtain ⟨z, hz⟩ : ∃ z : Nat, z = k + n := ⟨_, rfl⟩
  rw [← hz]
  have hz0 : decide ((z : Int) < 0) = false := by simp
  have HZ := hide hz
  clear hz
  go_wp2_with fail
  go_ret
  exact ⟨congrArg (fun (t : Nat) => Ending.returned (.int .i64 (t : Int))) HZ.out, unhide HB1⟩
#print axioms heldTreTree_any
end Go.Proofs.YteiojanamkndmaaGreat
/-
  The laws' own helpers over one in a group: whether two are the same; marks in one, looked up again.
-/
namespace Go.Proofs.YteiojanamkndmaaGreat
open Go.RowKit

set_option maxRecDepth 100000 in
set_option maxHeartbeats 2000000 in
theorem eqMemMember_same (m : Mem) (ks os ks' os' : Value) (w : World) (h1 : SRow w ks m.keys) (h2 : MRow w os m.own) (h3 : SRow w ks' m.keys) (h4 : MRow w os' m.own) :
    Calls Tryz.prog 8 #[.agg (m.cells ks os), .agg (m.cells ks' os')] w fun e w' => e = .returned (.bool true) ∧ Below w.heap.size w w' := by
  obtain ⟨inn, who, keys, own, ep, init, tag⟩ := m
  have H1 := hide h1
  have H2 := hide h2
  have H3 := hide h3
  have H4 := hide h4
  obtain ⟨a1, p1, rfl, _, _, _⟩ := h1.form
  obtain ⟨a2, p2, rfl, _, _, _⟩ := h2
  obtain ⟨a3, p3, rfl, _, _, _⟩ := h3.form
  obtain ⟨a4, p4, rfl, _, _, _⟩ := h4
  clear h1 h3
  simp only at H1 H2 H3 H4 ⊢
  generalize hkl : keys.length = kl at *
  generalize hol : own.length = ol at *
  have HBA : Hid (Below w.heap.size w ((w.alloc (.cells (memC inn who (.slice a1 kl p1) (.slice a2 ol p2) ep init tag) 35)).alloc (.cells (memC inn who (.slice a3 kl p3) (.slice a4 ol p4) ep init tag) 35))) := ((Below.refl _ _).alloc (Nat.le_refl _) _).alloc (by simp) _
  have A0 := hide ((Blk.new w 35 (memC inn who (.slice a1 kl p1) (.slice a2 ol p2) ep init tag)).alloc (.cells (memC inn who (.slice a3 kl p3) (.slice a4 ol p4) ep init tag) 35))
  have b0 := Blk.new (w.alloc (.cells (memC inn who (.slice a1 kl p1) (.slice a2 ol p2) ep init tag) 35)) 35 (memC inn who (.slice a3 kl p3) (.slice a4 ol p4) ep init tag)
  rw [World.size_alloc] at b0
  have B0 := hide b0
  clear b0
  go_enter Tryz.func8, Tryz.ntmps8
  cases inn with
  | true => _
  | false => _
  all_goals
    go_wp2_with fail
    refine (eqTreTree_any _ _ keys keys _ (((unhide H1).alloc _).alloc _) (((unhide H3).alloc _).alloc _)).mono ?_
    rw [show decide (keys = keys) = true by simp]
    rintro e w1 ⟨rfl, hb1⟩
    have A1 := hide ((unhide A0).below hb1)
    have B1 := hide ((unhide B0).below hb1)
    have HB1 := hide (HBA.out.trans (hb1.mono HBA.out.size))
    have c1 := (unhide A1).cell 3
    have c2 := (unhide B1).cell 3
    simp only [List.getElem?_toArray, List.getElem?_cons_succ, List.getElem?_cons_zero] at c1 c2
    clear hb1 A0 B0 HBA
    go_wp2_with fail
    refine (eqMemOwnS_same _ _ own _ ((unhide H2).below (unhide HB1)) ((unhide H4).below (unhide HB1))).mono ?_
    rintro e w2 ⟨rfl, hb2⟩
    have A2 := hide ((unhide A1).below hb2)
    have B2 := hide ((unhide B1).below hb2)
    have HB2 := hide (HB1.out.trans (hb2.mono HB1.out.size))
    have c3 := (unhide A2).cell 4
    have c4 := (unhide B2).cell 4
    have c5 := (unhide A2).cell 5
    have c6 := (unhide B2).cell 5
    have c7 := (unhide A2).cell 6
    have c8 := (unhide B2).cell 6
    simp only [List.getElem?_toArray, List.getElem?_cons_succ, List.getElem?_cons_zero] at c3 c4 c5 c6 c7 c8
    clear hb2 A1 B1 HB1 c1 c2
    go_wp2_with fail
    go_ret
    exact ⟨rfl, unhide HB2⟩

set_option maxRecDepth 100000 in
set_option maxHeartbeats 2000000 in
theorem markMemMember_any (B : Nat) (m : Mem) (ks os : Value) (k : Nat) (w : World) (h1 : Own B w ks m.keys) (h2 : OwnM B w os m.own) (hk : 0 < k) (hk2 : k ≤ 100000) (hl : m.keys.length ≤ 1000) (hl2 : m.own.length ≤ 1000) :
    Calls Tryz.prog 11 #[.agg (m.cells ks os), .int .i64 (k : Int)] w fun e w' => e = .returned (.int .i64 ((k + m.keys.length + 2 * m.own.length : Nat) : Int)) ∧ Own B w' ks (marks k m.keys.length) ∧ OwnM B w' os (mmarks (k + m.keys.length) m.own.length) ∧ w.heap.size ≤ w'.heap.size ∧ ∃ u, w.grownBy u ks.ownBlock ∧ u.grownBy w' os.ownBlock := by
  obtain ⟨inn, who, keys, own, ep, init, tag⟩ := m
  have H1 := hide h1
  have H2 := hide h2
  obtain ⟨a1, p1, hv1⟩ := row_form' h1
  obtain ⟨a2, p2, hv2⟩ := row_form' h2
  subst hv1 hv2
  clear h1 h2
  simp only at H1 H2 hl hl2 ⊢
  have A0 := hide (Blk.new w 35 (memC inn who (.slice a1 keys.length p1) (.slice a2 own.length p2) ep init tag))
  have O0 := hide (Own.below (unhide H1) ((Below.refl w.heap.size w).alloc (Nat.le_refl _) (.cells (memC inn who (.slice a1 keys.length p1) (.slice a2 own.length p2) ep init tag) 35)))
  have M0 := hide (own_below' (unhide H2) ((Below.refl w.heap.size w).alloc (Nat.le_refl _) (.cells (memC inn who (.slice a1 keys.length p1) (.slice a2 own.length p2) ep init tag) 35)))
  have G0 := hide (World.grownBy_alloc w (.cells (memC inn who (.slice a1 keys.length p1) (.slice a2 own.length p2) ep init tag) 35) (Value.slice a1 keys.length p1).ownBlock)
  go_enter Tryz.func11, Tryz.ntmps11
  go_wp2_with fail
  refine (markTreTree_any B _ keys k _ (unhide O0) hk (by omega) (by omega)).mono ?_
  rintro e w1 ⟨rfl, ho1, hg1⟩
  have A1 := hide ((unhide A0).kept hg1 (Blk.not_row (unhide A0) (by decide) (unhide O0)))
  have M1 := hide (World.ownsRow.kept (unhide M0) hg1 (row_apart (unhide M0) (unhide O0) (by decide)))
  have O1 := hide ho1
  have G1 := hide ((unhide G0).trans hg1)
  have c1 := (unhide A1).cell 3
  simp only [List.getElem?_toArray, List.getElem?_cons_succ, List.getElem?_cons_zero] at c1
  clear ho1 hg1 A0 M0 O0 G0
  go_wp2_with fail
  refine (markMemOwnS_any B _ own (k + keys.length) _ (unhide M1) (by omega) (by omega) (by omega)).mono ?_
  rintro e w2 ⟨rfl, ho2, hg2⟩
  have hap := row_apart (unhide O1) (unhide M1) (by decide)
  have O2 : Hid (Own B w2 (.slice a1 keys.length p1) (marks k keys.length)) := World.ownsRow.kept (unhide O1) hg2 (by rcases hap with q | q; exact .inl q; exact .inr q)
  have M2 := hide ho2
  have G2 := hide hg2
  clear ho2 hg2 hap M1 O1 A1 c1
  go_wp2_with fail
  go_ret
  exact ⟨rfl, unhide O2, unhide M2, Nat.le_trans G1.out.size G2.out.size, _, unhide G1, unhide G2⟩

set_option maxRecDepth 100000 in
set_option maxHeartbeats 2000000 in
theorem heldMemMember_any (inn : Bool) (who ep : Int) (init tag : ByteArray) (n n' : Nat) (ks os : Value) (k : Nat) (w : World) (h1 : SRow w ks (marks k n)) (h2 : MRow w os (mmarks (k + n) n')) (hk : 0 < k) (hk2 : k ≤ 100000) (hl : n ≤ 1000) (hl2 : n' ≤ 1000) :
    Calls Tryz.prog 12 #[.agg (memC inn who ks os ep init tag), .int .i64 (k : Int)] w fun e w' => e = .returned (.int .i64 ((k + n + 2 * n' : Nat) : Int)) ∧ Below w.heap.size w w' := by
  have H1 := hide h1
  have H2 := hide h2
  obtain ⟨a1, p1, rfl, _, _, _⟩ := h1.form
  obtain ⟨a2, p2, rfl, _, _, _⟩ := h2
  rw [marks_len] at H1 ⊢
  rw [mmarks_len] at H2 ⊢
  clear h1
  have A0 := hide (Blk.new w 35 (memC inn who (.slice a1 n p1) (.slice a2 n' p2) ep init tag))
  have HB0 : Hid (Below w.heap.size w (w.alloc (.cells (memC inn who (.slice a1 n p1) (.slice a2 n' p2) ep init tag) 35))) := (Below.refl _ _).alloc (Nat.le_refl _) _
  go_enter Tryz.func12, Tryz.ntmps12
  go_wp2_with fail
  refine (heldTreTree_any _ n k _ ((unhide H1).alloc _) hk (by omega) (by omega)).mono ?_
  rintro e w1 ⟨rfl, hb1⟩
  have A1 := hide ((unhide A0).below hb1)
  have HB1 := hide (HB0.out.trans (hb1.mono HB0.out.size))
  have c1 := (unhide A1).cell 3
  simp only [List.getElem?_toArray, List.getElem?_cons_succ, List.getElem?_cons_zero] at c1
  clear hb1 A0 HB0
  obtain ⟨z, hz⟩ : ∃ z : Nat, z = k + n := ⟨_, rfl⟩
  rw [← hz] at H2 ⊢
  have hz0 : decide ((z : Int) < 0) = false := by simp
  have hz1 : 0 < z ∧ z ≤ 200000 := by omega
  have HZ := hide hz
  clear hz
  go_wp2_with fail
  refine (heldMemOwnS_any _ n' z _ ((unhide H2).below (unhide HB1)) hz1.1 (by omega) (by omega)).mono ?_
  rintro e w2 ⟨rfl, hb2⟩
  have HB2 := hide (HB1.out.trans (hb2.mono HB1.out.size))
  clear hb2 A1 HB1 c1
  obtain ⟨y, hy⟩ : ∃ y : Nat, y = z + 2 * n' := ⟨_, rfl⟩
  rw [← hy]
  have hy0 : decide ((y : Int) < 0) = false := by simp
  have HY := hide hy
  clear hy
  go_wp2_with fail
  go_ret
  exact ⟨congrArg (fun (t : Nat) => Ending.returned (.int .i64 (t : Int))) (by have := HY.out; have := HZ.out; omega), unhide HB2⟩
#print axioms heldMemMember_any
end Go.Proofs.YteiojanamkndmaaGreat
/-
  The laws' own marks: looked up again; written into boxes.
-/
namespace Go.Proofs.YteiojanamkndmaaGreat
open Go.RowKit


set_option maxRecDepth 100000 in
set_option maxHeartbeats 2000000 in
theorem markKnwBoxS_any (B : Nat) (v : Value) (bs : List Bx) (k : Nat) (w : World) (h : OwnB B w v bs) (hk : 0 < k) (hk2 : k ≤ 2000000) (hl : bs.length ≤ 1048576) :
    Calls Tryz.prog 34 #[v, .int .i64 (k : Int)] w fun e w' => (∃ r : Nat, e = .returned (.int .i64 (r : Int)) ∧ r ≤ 5000000) ∧ w.grownBy w' v.ownBlock := by
  have hO := hide h
  obtain ⟨ao, cap, hv⟩ := row_form' h
  subst hv
  clear h
  go_enter Tryz.func34, Tryz.ntmps34
  go_wp2_with fail
  go_loopw [1, 5] (fun c i wr => ∃ (j z : Nat) (cs : List Bx), j ≤ bs.length ∧ i = .int .i64 (j : Int) ∧ c = .int .i64 (z : Int) ∧ 0 < z ∧ z = k + 2 * j ∧ cs.length = bs.length ∧ Hid (wr.ownsRow B 39 2 (.slice ao bs.length cap) bs.length (bcells cs)) ∧ Hid (w.grownBy wr (Value.ownBlock (.slice ao bs.length cap)))) (fun _ i _ => bs.length - (intOf i).toNat)
  case atStart => exact ⟨0, k, bs, by omega, rfl, rfl, hk, by omega, rfl, unhide hO, ⟨rfl, rfl, rfl, Nat.le_refl _, fun _ _ _ => rfl⟩⟩
  case round =>
    obtain ⟨j, z, cs, hj, rfl, rfl, hz1, hz, hcl, hOj, hG⟩ := hrel
    have hz2 : z ≤ 5000000 := by omega
    have HZ := hide hz
    have HCL := hide hcl
    clear hz hcl
    by_cases hlt : j < bs.length
    · have hlt2 : (j : Int) < (bs.length : Int) := by omega
      have hjc : j < cs.length := by have := HCL.out; omega
      have i3 : IntKind.i64.wrap ((j : Int) + 1) = (j : Int) + 1 := by simp [IntKind.wrap, IntKind.bits, IntKind.signed]; omega
      have i4 : IntKind.i64.wrap ((z : Int) + 1) = (z : Int) + 1 := by simp [IntKind.wrap, IntKind.bits, IntKind.signed]; omega
      have i5 : IntKind.i64.wrap ((z : Int) + 1 + 1) = (z : Int) + 1 + 1 := by simp [IntKind.wrap, IntKind.bits, IntKind.signed]; omega
      rcases (unhide hOj).2 with ⟨q, _⟩ | ⟨g, cap', cur, hq, hBg, hcur, _⟩
      · simp at q; omega
      simp only [Value.slice.injEq] at hq
      obtain ⟨rfl, _, rfl⟩ := hq
      clear hcur
      obtain ⟨p1, p2⟩ := bcells_get cs j hjc
      have P1 := hide p1
      have P2 := hide p2
      have hlen2 := (unhide hOj).1
      have HM : Hid (∀ (zz : Nat) (u : World), 0 < zz → zz ≤ 10000000 → Calls Tryz.prog 70 #[.int .i64 (zz : Int)] u fun e w' => e = .returned (.string (mt zz)) ∧ Below u.heap.size u w') := fun zz u q1 q2 => markText_any zz u q1 q2
      clear p1 p2
      go_wp2_with fail
      refine (HM.out z _ hz1 (by omega)).mono ?_
      rintro e w2 ⟨rfl, hb2⟩
      have hO2 := own_below' (unhide hOj) hb2
      have hG2 := grown_below' (unhide hG) hb2
      have f0 := hO2.frozenAt (j * 2)
      have e0 : w2.cell? ⟨g, j * 2, none⟩ = some (.string (cs.getD j noBx).1) := (hO2.cellAt (j * 2) (by omega)).trans P1.out
      obtain ⟨s1, s2⟩ := hO2.stored (j * 2) (.string (mt z))
      have HS1 := hide s1
      have HG1 := hide (hG2.trans s2)
      clear s1 s2 hO2 hG2 hb2 hOj hG
      generalize mt z = y1 at HS1 HG1 ⊢
      go_wp2_with fail
      have hcast : (z : Int) + 1 = ((z + 1 : Nat) : Int) := by omega
      rw [hcast]
      refine (HM.out (z + 1) _ (by omega) (by omega)).mono ?_
      rw [← hcast]
      rintro e w3 ⟨rfl, hb3⟩
      have hO3 := own_below' (unhide HS1) hb3
      have hG3 := grown_below' (unhide HG1) hb3
      have f1 := hO3.frozenAt (j * 2 + 1)
      have e1 : w3.cell? ⟨g, j * 2 + 1, none⟩ = some (.string (cs.getD j noBx).2) := by
        rw [hO3.cellAt (j * 2 + 1) (by omega), List.getElem?_set_ne (by omega)]; exact P2.out
      obtain ⟨s1, s2⟩ := hO3.stored (j * 2 + 1) (.string (mt (z + 1)))
      generalize mt (z + 1) = y2 at s1 s2 ⊢
      rw [bcells_set cs j (y1, y2) hjc] at s1
      have HS3 := hide s1
      have HG3' := hide (hG3.trans s2)
      have hcl3 : Hid ((cs.set j (y1, y2)).length = bs.length) := by show _ = _; rw [List.length_set]; exact HCL.out
      clear s1 s2 hO3 hG3 hb3 HS1 HG1 hcast e0 f0
      go_wp2_with fail
      go_roundw
      case rel => exact ⟨j + 1, z + 2, cs.set j (y1, y2), by omega, by simp, by rw [show ((z + 2 : Nat) : Int) = (z : Int) + 1 + 1 by omega], by omega, by have := HZ.out; omega, hcl3.out, HS3, HG3'⟩
      case measure => simp [intOf]; omega
    · have hlt2 : decide ((j : Int) < (bs.length : Int)) = false := by simp; omega
      go_wp2_with fail
      go_ret
      exact ⟨⟨z, rfl, by omega⟩, unhide hG⟩
#print axioms heldStringS_any
#print axioms markKnwBoxS_any
end Go.Proofs.YteiojanamkndmaaGreat
/-
  The laws' own marks in a commit.
-/
namespace Go.Proofs.YteiojanamkndmaaGreat
open Go.RowKit

set_option maxRecDepth 100000 in
set_option maxHeartbeats 2000000 in
theorem markCmtCommit_any (B : Nat) (c : Cmt) (ks bs : Value) (w : World) (h1 : Own B w ks c.keys) (h2 : OwnB B w bs c.boxes) (hl : c.keys.length ≤ 1048576) (hl2 : c.boxes.length ≤ 1048576) :
    Calls Tryz.prog 10 #[.agg (c.cells ks bs), .int .i64 1] w fun e w' => (∃ r : Nat, e = .returned (.int .i64 (r : Int))) ∧ ∃ u, w.grownBy u ks.ownBlock ∧ u.grownBy w' bs.ownBlock := by
  obtain ⟨se, tag, name, add, rem, lf, keys, boxes, wk, ik, is, sk, ss⟩ := c
  have H1 := hide h1
  have H2 := hide h2
  obtain ⟨a1, p1, hv1⟩ := row_form' h1
  obtain ⟨a2, p2, hv2⟩ := row_form' h2
  subst hv1 hv2
  clear h1 h2
  simp only at H1 H2 hl hl2 ⊢
  have A0 := hide (Blk.new w 43 (cmtC se tag name add rem lf (.slice a1 keys.length p1) (.slice a2 boxes.length p2) wk ik is sk ss))
  have O0 := hide (Own.below (unhide H1) ((Below.refl w.heap.size w).alloc (Nat.le_refl _) (.cells (cmtC se tag name add rem lf (.slice a1 keys.length p1) (.slice a2 boxes.length p2) wk ik is sk ss) 43)))
  have M0 := hide (own_below' (unhide H2) ((Below.refl w.heap.size w).alloc (Nat.le_refl _) (.cells (cmtC se tag name add rem lf (.slice a1 keys.length p1) (.slice a2 boxes.length p2) wk ik is sk ss) 43)))
  have G0 := hide (World.grownBy_alloc w (.cells (cmtC se tag name add rem lf (.slice a1 keys.length p1) (.slice a2 boxes.length p2) wk ik is sk ss) 43) (Value.slice a1 keys.length p1).ownBlock)
  go_enter Tryz.func10, Tryz.ntmps10
  go_wp2_with fail
  refine (markStringS_any B _ keys 1 _ (unhide O0) (by omega) (by omega) (by omega)).mono ?_
  rintro e w1 ⟨rfl, ho1, hg1⟩
  have A1 := hide ((unhide A0).kept hg1 (Blk.not_row (unhide A0) (by decide) (unhide O0)))
  have M1 := hide (World.ownsRow.kept (unhide M0) hg1 (row_apart (unhide M0) (unhide O0) (by decide)))
  have G1 := hide ((unhide G0).trans hg1)
  have c1 := (unhide A1).cell 7
  simp only [List.getElem?_toArray, List.getElem?_cons_succ, List.getElem?_cons_zero] at c1
  clear ho1 hg1 A0 M0 O0 G0
  go_wp2_with fail
  refine (markKnwBoxS_any B _ boxes (1 + keys.length) _ (unhide M1) (by omega) (by omega) (by omega)).mono ?_
  rintro e w2 ⟨⟨r, rfl, _⟩, hg2⟩
  have G2 := hide hg2
  clear hg2 M1 A1 c1
  go_wp2_with fail
  go_ret
  exact ⟨⟨r, rfl⟩, _, unhide G1, unhide G2⟩
#print axioms markCmtCommit_any
end Go.Proofs.YteiojanamkndmaaGreat
/-
  The specification's l5Count.
-/
namespace Go.Proofs.YteiojanamkndmaaGreat
open Go.RowKit

/-- How many names of commits a text tells. -/
def countN (s : ByteArray) : Nat := s.data.toList.count 59
theorem countN_le (s : ByteArray) : countN s ≤ s.size := by
  unfold countN
  have := List.count_le_length (a := (59 : UInt8)) (l := s.data.toList)
  simpa using this
theorem take_cnt (s : ByteArray) (k : Nat) (h : k < s.size) : (s.data.toList.take (k + 1)).count 59 = (s.data.toList.take k).count 59 + if s[k] = 59 then 1 else 0 := by
  rw [List.take_succ_eq_append_getElem (by simpa using h), List.count_append]
  have e : s.data.toList[k]'(by simpa using h) = s[k] := rfl
  rw [e, List.count_singleton]
  by_cases q : s[k] = 59
  · simp [q]
  · simp [q]

set_option maxHeartbeats 400000 in
theorem l5Count_any (s : ByteArray) (w : World) (hs : s.size ≤ 2000000) :
    Calls Tryz.prog 22 #[.string s] w fun e w' => e = .returned (.int .i64 ((countN s : Nat) : Int)) ∧ w' = w := by
  go_enter Tryz.func22, Tryz.ntmps22
  go_wp2_with fail
  go_loop [3, 4] (fun n i => ∃ k : Nat, k ≤ s.size ∧ i = .int .i64 (k : Int) ∧ n = .int .i64 (((s.data.toList.take k).count 59 : Nat) : Int)) (fun _ i => s.size - (intOf i).toNat)
  case atStart => exact ⟨0, Nat.zero_le _, rfl, rfl⟩
  case round =>
    obtain ⟨k, hk, rfl, rfl⟩ := hrel
    have hcl : (s.data.toList.take k).count 59 ≤ k := Nat.le_trans List.count_le_length (List.length_take_le _ _)
    by_cases hlt : k < s.size
    · have HT := hide (take_cnt s k hlt)
      have i3 : IntKind.i64.wrap ((k : Int) + 1) = (k : Int) + 1 := by simp [IntKind.wrap, IntKind.bits, IntKind.signed]; omega
      generalize (s.data.toList.take k).count 59 = c at *
      have i4 : IntKind.i64.wrap ((c : Int) + 1) = (c : Int) + 1 := by simp [IntKind.wrap, IntKind.bits, IntKind.signed]; omega
      have hlt2 : (k : Int) < (s.size : Int) := by omega
      by_cases hq : s[k] = 59
      · rw [if_pos hq] at HT
        have hz : s[k].toNat = 59 := by rw [hq]; rfl
        go_wp2_with fail
        all_goals
          go_round
          case rel => exact ⟨k + 1, by omega, by simp, by rw [HT.out]; simp⟩
          case measure => simp [intOf]; omega
      · rw [if_neg hq] at HT
        have hz : ¬ s[k].toNat = 59 := fun q => hq (by rw [← UInt8.toNat_inj]; exact q)
        go_wp2_with fail
        all_goals
          go_round
          case rel => exact ⟨k + 1, by omega, by simp, by rw [HT.out]; simp⟩
          case measure => simp [intOf]; omega
    · have hlt2 : decide ((k : Int) < (s.size : Int)) = false := by simp; omega
      obtain rfl : k = s.size := by omega
      have HE : Hid ((s.data.toList.take s.size).count 59 = countN s) := by show _ = _; unfold countN; rw [List.take_of_length_le (by simp)]
      rw [HE.out]
      go_wp2_with fail
      go_ret
      exact ⟨rfl, rfl⟩
#print axioms l5Count_any
end Go.Proofs.YteiojanamkndmaaGreat
/-
  The program's iterators: upward, above.
-/
namespace Go.Proofs.YteiojanamkndmaaGreat
open Go.RowKit Go.Shelf
attribute [local go_sem] Oper.semAt_some

set_option maxRecDepth 100000 in
set_option maxHeartbeats 1000000 in
theorem upward1_in (n : Nat) (hn : 1 ≤ n) (l Bn n₀ : Nat) (p : Int) (J Jx : List Int → World → Prop)
    (hY : ∀ pre x W, J pre W → pre.length < (chainOf p).length → YieldAt Fence.wide (n - 1) Tryz.prog l #[.int .i64 x] W fun e W' =>
      (e = .returned (.bool true) ∧ J (pre ++ [x]) W' ∧ Below n₀ W W') ∨ (e = .returned (.bool false) ∧ Jx (pre ++ [x]) W'))
    (W : World) (hBn : W.cell? ⟨Bn, 0, none⟩ = some (.int .i64 p)) (h0 : J [] W) :
    CallsIn Fence.wide n Tryz.prog 94 #[.func (.yield l) #[] #[], .pointer (some ⟨Bn, 0, none⟩)] W fun e W' => (∃ v, e = .returned v) ∧
      ((∃ ys, ys = chainOf p ∧ J ys W') ∨ (∃ pre, pre <+: chainOf p ∧ Jx pre W')) := by
  refine callsIn_of_wp Tryz.func94 rfl trivial ?_ rfl
  simp only [Tryz.ntmps94, List.size_toArray, List.length_cons, List.length_nil, Nat.reduceAdd, Nat.reduceSub, Array.replicate_succ, Array.replicate_zero, List.push_toArray, List.append_toArray, List.nil_append, List.cons_append]
  gi_wp2
  gi_loopw [3] (fun q wr => ∃ (pre : List Int) (x : Int), q = .int .i64 x ∧ chainOf p = pre ++ chainOf x ∧ J pre wr)
    (fun q _ => (intOf q + 1).toNat)
  case atStart => exact ⟨[], p, rfl, rfl, h0⟩
  case round =>
    obtain ⟨pre, x, rfl, hx, hJs⟩ := hrel
    by_cases ht : 0 ≤ x ∧ x ≤ 14
    · have hc := chain_cons x ht
      obtain ⟨fn, tmps, assign, body, hy, hR⟩ := hY pre x wr hJs (by rw [hx, hc]; simp)
      have hh := hide ht
      gi_wp2_with (refine ⟨trivial, ?_⟩; gi_at_call 95; refine (callsIn_wide.2 (isThere_yes x _ hh.out.1 (by have := hh.out; omega))).mono ?_; rintro e w' ⟨rfl, rfl⟩)
      refine hR.mono ?_
      clear hR hy
      rintro e W3 (⟨rfl, hJ3, hk3⟩ | ⟨rfl, hJx3⟩)
      · gi_wp2_with (refine ⟨trivial, ?_⟩; gi_at_call 96; refine (callsIn_wide.2 (over_any x _)).mono ?_; rintro e w' ⟨rfl, rfl⟩)
        go_roundw
        case rel => exact ⟨pre ++ [x], overOf x, rfl, by rw [hx, hc]; simp, hJ3⟩
        case measure => have := over_lt x ht.1; simp [intOf]; omega
      · gi_wp2
        go_end0
        exact ⟨⟨_, rfl⟩, .inr ⟨pre ++ [x], ⟨chainOf (overOf x), by rw [hx, hc]; simp⟩, hJx3⟩⟩
    · have hc := chain_nil x ht
      have hh := hide ht
      gi_wp2_with (refine ⟨trivial, ?_⟩; gi_at_call 95; refine (callsIn_wide.2 (isThere_no x _ (by have := hh.out; omega))).mono ?_; rintro e w' ⟨rfl, rfl⟩)
      refine ⟨fun _ h => (by cases h), ?_⟩
      gi_wp2
      go_end0
      exact ⟨⟨_, rfl⟩, .inl ⟨pre, by rw [hx, hc]; simp, hJs⟩⟩

set_option maxHeartbeats 1000000 in
theorem upward_in (n : Nat) (p : Int) (w : World) :
    CallsIn Fence.wide n Tryz.prog 84 #[.int .i64 p] w fun e w' => e = .returned (.func (.func 94) #[] #[.pointer (some ⟨w.heap.size, 0, none⟩)]) ∧ w' = w.alloc (.cells #[.int .i64 p] 95) := by
  refine callsIn_of_wp Tryz.func84 rfl trivial ?_ rfl
  simp only [Tryz.ntmps84, List.size_toArray, List.length_cons, List.length_nil, Nat.reduceAdd, Nat.reduceSub, Array.replicate_succ, Array.replicate_zero, List.push_toArray, List.append_toArray, List.nil_append, List.cons_append]
  gi_wp2
  go_ret
  exact ⟨rfl, rfl⟩

/-- What upward hands back tells a place, and all above it; or, where a round says 'no more', the first of these. -/
theorem upward_stops (n : Nat) (hn : 1 ≤ n) (Bn n₀ : Nat) (p : Int) (w : World) (hBn : Bn < w.heap.size) (hc : w.cell? ⟨Bn, 0, none⟩ = some (.int .i64 p)) :
    SeqStopsK Fence.wide n Tryz.prog 94 #[.pointer (some ⟨Bn, 0, none⟩)] (fun x : Int => #[Value.int .i64 x]) (Below n₀) (fun ys => ys = chainOf p) (fun pre => pre <+: chainOf p) (chainOf p).length w := fun l J Jx W hW _ _ hY h0 =>
  upward1_in n hn l Bn n₀ p J Jx hY W ((hW.cell (p := ⟨Bn, 0, none⟩) hBn).trans hc) h0
#print axioms upward_stops
end Go.Proofs.YteiojanamkndmaaGreat
/-
  The program's iterator upward, told of places that are there.
-/
namespace Go.Proofs.YteiojanamkndmaaGreat
open Go.RowKit Go.Shelf
attribute [local go_sem] Oper.semAt_some

/-- A place, and all above it, as places that are there. -/
def chainT (k : Fin 15) : List (Fin 15) := k :: (ups k.val).map (fun j => Fin.ofNat 15 j)
theorem chainT_val : ∀ k : Fin 15, (chainT k).map (·.val) = k.val :: ups k.val := by decide
theorem chainT_zero : chainT 0 = [0] := by decide
theorem chainT_step : ∀ k : Fin 15, 0 < k.val → chainT k = k :: chainT (Fin.ofNat 15 ((k.val - 1) / 2)) := by decide
theorem chainT_len : ∀ k : Fin 15, (chainT k).length ≤ 4 := by decide
def chainF (p : Int) : List (Fin 15) := if h : 0 ≤ p ∧ p ≤ 14 then chainT ⟨p.toNat, by omega⟩ else []
theorem chainF_nil (p : Int) (h : ¬ (0 ≤ p ∧ p ≤ 14)) : chainF p = [] := by unfold chainF; rw [dif_neg h]
theorem chainF_nat (k : Nat) (h : k < 15) : chainF (k : Int) = chainT ⟨k, h⟩ := by unfold chainF; rw [dif_pos (by omega)]; rfl
theorem chainF_cons (k : Nat) (h : k < 15) : chainF (k : Int) = ⟨k, h⟩ :: chainF (overOf (k : Int)) := by
  rw [chainF_nat k h]
  by_cases h0 : 0 < k
  · have e : overOf (k : Int) = (((k - 1) / 2 : Nat) : Int) := by unfold overOf; rw [if_pos (by omega)]; omega
    rw [e, chainF_nat _ (by omega), chainT_step ⟨k, h⟩ h0]
    congr 2
    apply Fin.ext
    show ((k - 1) / 2) % 15 = (k - 1) / 2
    omega
  · obtain rfl : k = 0 := by omega
    rfl

set_option maxRecDepth 100000 in
set_option maxHeartbeats 1000000 in
theorem upwardF_in (n : Nat) (hn : 1 ≤ n) (l Bn n₀ : Nat) (p : Int) (J Jx : List (Fin 15) → World → Prop)
    (hY : ∀ pre (x : Fin 15) W, J pre W → pre.length < (chainF p).length → YieldAt Fence.wide (n - 1) Tryz.prog l #[.int .i64 ((x.val : Nat) : Int)] W fun e W' =>
      (e = .returned (.bool true) ∧ J (pre ++ [x]) W' ∧ Below n₀ W W') ∨ (e = .returned (.bool false) ∧ Jx (pre ++ [x]) W'))
    (W : World) (hBn : W.cell? ⟨Bn, 0, none⟩ = some (.int .i64 p)) (h0 : J [] W) :
    CallsIn Fence.wide n Tryz.prog 94 #[.func (.yield l) #[] #[], .pointer (some ⟨Bn, 0, none⟩)] W fun e W' => (∃ v, e = .returned v) ∧
      ((∃ ys, ys = chainF p ∧ J ys W') ∨ (∃ pre, pre <+: chainF p ∧ Jx pre W')) := by
  refine callsIn_of_wp Tryz.func94 rfl trivial ?_ rfl
  simp only [Tryz.ntmps94, List.size_toArray, List.length_cons, List.length_nil, Nat.reduceAdd, Nat.reduceSub, Array.replicate_succ, Array.replicate_zero, List.push_toArray, List.append_toArray, List.nil_append, List.cons_append]
  gi_wp2
  gi_loopw [3] (fun q wr => ∃ (pre : List (Fin 15)) (x : Int), q = .int .i64 x ∧ chainF p = pre ++ chainF x ∧ J pre wr)
    (fun q _ => (intOf q + 1).toNat)
  case atStart => exact ⟨[], p, rfl, rfl, h0⟩
  case round =>
    obtain ⟨pre, x, rfl, hx, hJs⟩ := hrel
    by_cases ht : 0 ≤ x ∧ x ≤ 14
    · obtain ⟨k, rfl⟩ : ∃ k : Nat, x = (k : Int) := ⟨x.toNat, by omega⟩
      have hk : k < 15 := by omega
      have hc := chainF_cons k hk
      obtain ⟨fn, tmps, assign, body, hy, hR⟩ := hY pre ⟨k, hk⟩ wr hJs (by rw [hx, hc]; simp)
      dsimp only at hy
      have hh := hide ht
      gi_wp2_with (refine ⟨trivial, ?_⟩; gi_at_call 95; refine (callsIn_wide.2 (isThere_yes (k : Int) _ hh.out.1 (by have := hh.out; omega))).mono ?_; rintro e w' ⟨rfl, rfl⟩)
      refine hR.mono ?_
      clear hR hy
      rintro e W3 (⟨rfl, hJ3, hk3⟩ | ⟨rfl, hJx3⟩)
      · gi_wp2_with (refine ⟨trivial, ?_⟩; gi_at_call 96; refine (callsIn_wide.2 (over_any (k : Int) _)).mono ?_; rintro e w' ⟨rfl, rfl⟩)
        go_roundw
        case rel => exact ⟨pre ++ [⟨k, hk⟩], overOf (k : Int), rfl, by rw [hx, hc]; simp, hJ3⟩
        case measure => have := over_lt (k : Int) ht.1; simp [intOf]; omega
      · gi_wp2
        go_end0
        exact ⟨⟨_, rfl⟩, .inr ⟨pre ++ [⟨k, hk⟩], ⟨chainF (overOf (k : Int)), by rw [hx, hc]; simp⟩, hJx3⟩⟩
    · have hc := chainF_nil x ht
      have hh := hide ht
      gi_wp2_with (refine ⟨trivial, ?_⟩; gi_at_call 95; refine (callsIn_wide.2 (isThere_no x _ (by have := hh.out; omega))).mono ?_; rintro e w' ⟨rfl, rfl⟩)
      refine ⟨fun _ h => (by cases h), ?_⟩
      gi_wp2
      go_end0
      exact ⟨⟨_, rfl⟩, .inl ⟨pre, by rw [hx, hc]; simp, hJs⟩⟩

theorem upwardF_stops (n : Nat) (hn : 1 ≤ n) (Bn n₀ : Nat) (p : Int) (w : World) (hBn : Bn < w.heap.size) (hc : w.cell? ⟨Bn, 0, none⟩ = some (.int .i64 p)) :
    SeqStopsK Fence.wide n Tryz.prog 94 #[.pointer (some ⟨Bn, 0, none⟩)] (fun x : Fin 15 => #[Value.int .i64 ((x.val : Nat) : Int)]) (Below n₀) (fun ys => ys = chainF p) (fun pre => pre <+: chainF p) (chainF p).length w := fun l J Jx W hW _ _ hY h0 =>
  upwardF_in n hn l Bn n₀ p J Jx hY W ((hW.cell (p := ⟨Bn, 0, none⟩) hBn).trans hc) h0
#print axioms upwardF_stops
end Go.Proofs.YteiojanamkndmaaGreat
/-
  The program's TreLeaf.
-/
namespace Go.Proofs.YteiojanamkndmaaGreat
open Go.RowKit

set_option maxHeartbeats 400000 in
theorem iTreLeaf_any (who : Int) (w : World) : Calls Tryz.prog 59 #[.int .i64 who] w fun e w' => e = .returned (.int .i64 (leafOf who)) ∧ w' = w := by
  go_enter Tryz.func59, Tryz.ntmps59
  go_wp2_with fail
  refine (placeOf_any _ _).mono ?_
  rintro e w1 ⟨rfl, rfl⟩
  go_wp2_with fail
  go_ret
  exact ⟨rfl, rfl⟩
end Go.Proofs.YteiojanamkndmaaGreat
