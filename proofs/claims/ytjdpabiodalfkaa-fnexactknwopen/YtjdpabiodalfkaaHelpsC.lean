/-
  The laws' own helpers over rows of boxes: a copy of a row, whether two rows are the same.
-/
import Derived.Test.YtjdpabiodalfkaaHelpsB
import Derived.Deep.RegionHeld3
namespace Go.Proofs.Ytjdpabiodalfkaa
open Go.RowKit

/-- The first k boxes, cell by cell, and as many empty ones as there are more. -/
def partB (bs : List Bx) (k : Nat) : List Value := bcells (bs.take k) ++ bcells (List.replicate (bs.length - k) (⟨#[]⟩, ⟨#[]⟩))
theorem partB_all (bs : List Bx) : partB bs bs.length = bcells bs := by unfold partB; simp [bcells]
theorem partB_eq (bs : List Bx) (k : Nat) : partB bs k = bcells (bs.take k ++ List.replicate (bs.length - k) (⟨#[]⟩, ⟨#[]⟩)) := by unfold partB; simp [bcells]
theorem bcells_set : ∀ (cs : List Bx) (k : Nat) (b : Bx), k < cs.length → ((bcells cs).set (k * 2) (.string b.1)).set (k * 2 + 1) (.string b.2) = bcells (cs.set k b)
  | [], k, _, h => absurd h (Nat.not_lt_zero _)
  | c :: cs, 0, b, _ => by simp [bcells]
  | c :: cs, k + 1, b, h => by
    have := bcells_set cs k b (by simpa using h)
    rw [show (k + 1) * 2 = k * 2 + 1 + 1 by omega]
    simpa [bcells] using this
theorem part_set2 (bs : List Bx) (k : Nat) (h : k < bs.length) : (bs.take k ++ List.replicate (bs.length - k) ((⟨#[]⟩, ⟨#[]⟩) : Bx)).set k (bs.getD k noBx) = bs.take (k + 1) ++ List.replicate (bs.length - (k + 1)) (⟨#[]⟩, ⟨#[]⟩) := by
  apply List.ext_getElem?
  intro i
  rw [List.getElem?_set]
  simp only [List.length_append, List.length_take, List.length_replicate]
  by_cases hik : k = i
  · subst hik
    rw [if_pos rfl, if_pos (by omega), List.getElem?_append_left (by simp; omega)]
    simp [h]
  · rw [if_neg hik]
    by_cases hlt : i < k
    · rw [List.getElem?_append_left (by simp; omega), List.getElem?_append_left (by simp; omega)]
      simp [hlt, show i < k + 1 by omega]
    · rw [List.getElem?_append_right (by simp; omega), List.getElem?_append_right (by simp; omega)]
      simp only [List.length_take, List.getElem?_replicate]
      congr 1
      simp
      omega
theorem partB_set (bs : List Bx) (k : Nat) (h : k < bs.length) : ((partB bs k).set (k * 2) (.string (bs.getD k noBx).1)).set (k * 2 + 1) (.string (bs.getD k noBx).2) = partB bs (k + 1) := by
  rw [partB_eq, partB_eq, bcells_set _ _ _ (by simp; omega), part_set2 bs k h]
theorem partB_at (bs : List Bx) (k : Nat) (h : k < bs.length) : (partB bs k)[k * 2]? = some (.string ⟨#[]⟩) ∧ (partB bs k)[k * 2 + 1]? = some (.string ⟨#[]⟩) := by
  rw [partB_eq]
  have := bcells_get (bs.take k ++ List.replicate (bs.length - k) (⟨#[]⟩, ⟨#[]⟩)) k (by simp; omega)
  have e : (bs.take k ++ List.replicate (bs.length - k) ((⟨#[]⟩, ⟨#[]⟩) : Bx)).getD k noBx = (⟨#[]⟩, ⟨#[]⟩) := by
    rw [List.getD_eq_getElem?_getD, List.getElem?_append_right (by simp; omega)]
    simp only [List.length_take, List.getElem?_replicate]
    rw [if_pos (by omega)]; rfl
  rw [e] at this
  exact this

theorem made_part (bs : List Bx) : (madeCells #[Value.string ⟨#[]⟩, Value.string ⟨#[]⟩] (bs.length * 2)).toList = partB bs 0 := by
  have e : ∀ n, bcells (List.replicate n ((⟨#[]⟩, ⟨#[]⟩) : Bx)) = List.replicate (n * 2) (Value.string ⟨#[]⟩) := by
    intro n
    induction n with
    | zero => rfl
    | succ n ih =>
      rw [List.replicate_succ, show (n + 1) * 2 = n * 2 + 1 + 1 by omega, List.replicate_succ, List.replicate_succ, ← ih]; rfl
  unfold partB
  rw [List.take_zero, Nat.sub_zero, e, show bcells [] = [] from rfl, List.nil_append]
  apply List.ext_getElem?
  intro i
  simp [madeCells]
  by_cases hi : i < bs.length * 2
  · rcases Nat.mod_two_eq_zero_or_one i with h | h <;> simp [hi, h]
  · simp [hi]

set_option maxRecDepth 100000 in
set_option maxHeartbeats 2000000 in
theorem toKnwBoxS_any (v : Value) (bs : List Bx) (w : World) (h : BRow w v bs) (hl : bs.length ≤ 1048576) :
    Calls Try.prog 40 #[v] w fun e w' => ∃ v' : Value, e = .returned v' ∧ OwnB w.heap.size w' v' bs ∧ Below w.heap.size w w' := by
  have hR := hide h
  obtain ⟨ao, cap, rfl, h1, h2, _⟩ := h
  unfold maxLen at h2
  obtain ⟨i0, hi, hz0, hz1, hz2⟩ := info_parts info_bx
  have hI := hide (And.intro hi (And.intro hz0 (And.intro hz1 hz2)))
  have hB2 : Hid (i0.bytes * bs.length ≤ 281474976710656) := by show _ ≤ _; rw [hz2]; omega
  clear hi hz0 hz1 hz2
  go_enter Try.func40, Try.ntmps40
  go_wp2_with (at_make; refine wpList_make_full _ rfl _ _ 36 rfl w.heap.size 42 i0 (.agg #[.string ⟨#[]⟩, .string ⟨#[]⟩]) 2 underBx (unhide hI).1 (unhide hI).2.1 (unhide hI).2.2.1 _ _ _ _ bs.length rfl rfl rfl rfl (unhide hB2) (by unfold maxLen; omega) (Nat.le_refl _) ?_)
  intro w1 hown hgrow
  have hO1 : Hid (w1.ownsRow w.heap.size 42 2 (.slice (some ⟨w.heap.size, 0, none⟩) bs.length bs.length) bs.length (partB bs 0)) := by
    rw [← made_part]
    exact hown
  have hL1 : Hid (Below w.heap.size w w1) := (Below.refl _ _).grown hgrow (Nat.le_refl _) (fun k hk => by cases hk)
  clear hown hgrow
  go_wp2_with fail
  go_loopw [4] (fun i wr => ∃ k : Nat, k ≤ bs.length ∧ i = .int .i64 (k : Int) ∧ Hid (wr.ownsRow w.heap.size 42 2 (.slice (some ⟨w.heap.size, 0, none⟩) bs.length bs.length) bs.length (partB bs k)) ∧ Hid (Below w.heap.size w wr)) (fun i _ => bs.length - (intOf i).toNat)
  case atStart => exact ⟨0, by omega, rfl, hO1, hL1⟩
  case round =>
    clear hO1 hL1
    obtain ⟨k, hk, rfl, hO, hL⟩ := hrel
    have hle := hL.out.size
    by_cases hlt : k < bs.length
    · have hlt2 : (k : Int) < (bs.length : Int) := by omega
      obtain ⟨bo', c1, q1, _, _, q2⟩ := BRow.below (unhide hR) (unhide hL)
      simp only [Value.slice.injEq] at q1
      obtain ⟨rfl, z1, rfl⟩ := q1
      clear z1
      obtain ⟨a, rfl, hca, hcb⟩ := q2 k hlt
      rw [add_one] at hcb
      clear q2
      have i3 : IntKind.i64.wrap ((k : Int) + 1) = (k : Int) + 1 := by simp [IntKind.wrap, IntKind.bits, IntKind.signed]; omega
      have hps := hide (partB_set bs k hlt)
      have hpa := hide (partB_at bs k hlt)
      generalize bs.getD k noBx = y at hca hcb hps
      go_wp2_with fail
      refine (toKnwBox_any y _).mono ?_
      rintro e w2 ⟨rfl, hb2⟩
      have hO2 := own_below' (unhide hO) hb2
      have hL2 := (unhide hL).trans (hb2.mono hle)
      have hle2 := hL2.size
      have f0 := hO2.frozenAt (k * 2)
      have f1 := hO2.frozenAt (k * 2 + 1)
      have e0 : w2.cell? ⟨w.heap.size, k * 2, none⟩ = some (.string ⟨#[]⟩) := (hO2.cellAt (k * 2) (by omega)).trans hpa.out.1
      have e1 : w2.cell? ⟨w.heap.size, k * 2 + 1, none⟩ = some (.string ⟨#[]⟩) := (hO2.cellAt (k * 2 + 1) (by omega)).trans hpa.out.2
      obtain ⟨s1, s2⟩ := hO2.stored (k * 2) (.string y.1)
      obtain ⟨s3, s4⟩ := s1.stored (k * 2 + 1) (.string y.2)
      rw [hps.out] at s3
      have HS3 := hide s3
      have HL3 : Hid (Below w.heap.size w (((w2.setCell ⟨w.heap.size, k * 2, none⟩ (.string y.1)).setCell ⟨w.heap.size, k * 2 + 1, none⟩ (.string y.2)))) :=
        ((hL2.setCell (p := ⟨w.heap.size, k * 2, none⟩) (Nat.le_refl _) _).setCell (p := ⟨w.heap.size, k * 2 + 1, none⟩) (Nat.le_refl _) _)
      clear s1 s2 s3 s4 hO2 hL2 hb2 hca hcb hO hL
      go_wp2_with fail
      go_roundw
      case rel => exact ⟨k + 1, by omega, by simp, HS3, HL3⟩
      case measure => simp [intOf]; omega
    · have hlt2 : decide ((k : Int) < (bs.length : Int)) = false := by simp; omega
      have hkn : k = bs.length := by omega
      subst hkn
      rw [partB_all] at hO
      go_wp2_with fail
      go_ret
      exact ⟨_, rfl, unhide hO, unhide hL⟩

theorem boxes_eq {bs cs : List Bx} (hl : bs.length = cs.length) (h : ∀ j, j < bs.length → bs.getD j noBx = cs.getD j noBx) : bs = cs := by
  apply List.ext_getElem hl
  intro i h1 h2
  have := h i h1
  rw [List.getD_eq_getElem?_getD, List.getElem?_eq_getElem h1, List.getD_eq_getElem?_getD, List.getElem?_eq_getElem h2] at this
  exact this

set_option maxRecDepth 100000 in
set_option maxHeartbeats 2000000 in
theorem eqKnwBoxS_any (v u : Value) (bs : List Bx) (w : World) (h : BRow w v bs) (k : BRow w u bs) :
    Calls Try.prog 41 #[v, u] w fun e w' => e = .returned (.bool true) ∧ Below w.heap.size w w' := by
  have hR := hide h
  have hS := hide k
  obtain ⟨ao, cap, rfl, h1, h2, _⟩ := h
  obtain ⟨bo, cap', rfl, h1', h2', _⟩ := k
  unfold maxLen at h2 h2'
  go_enter Try.func41, Try.ntmps41
  go_wp2_with fail
  go_loopw [5] (fun i wr => ∃ k : Nat, k ≤ bs.length ∧ i = .int .i64 (k : Int) ∧ Hid (Below w.heap.size w wr)) (fun i _ => bs.length - (intOf i).toNat)
  case atStart => exact ⟨0, by omega, rfl, Below.refl _ _⟩
  case round =>
    obtain ⟨k, hk, rfl, hL⟩ := hrel
    have hle := hL.out.size
    by_cases hlt : k < bs.length
    · have hlt2 : (k : Int) < (bs.length : Int) := by omega
      obtain ⟨ao', c1, q1, _, _, q2⟩ := BRow.below (unhide hR) (unhide hL)
      simp only [Value.slice.injEq] at q1
      obtain ⟨rfl, z1, rfl⟩ := q1
      obtain ⟨bo', c2, q3, _, _, q4⟩ := BRow.below (unhide hS) (unhide hL)
      simp only [Value.slice.injEq] at q3
      obtain ⟨rfl, z3, rfl⟩ := q3
      clear z1 z3
      obtain ⟨a, rfl, hca, hcb⟩ := q2 k hlt
      obtain ⟨b, rfl, hda, hdb⟩ := q4 k hlt
      rw [add_one] at hcb hdb
      clear q2 q4
      have i3 : IntKind.i64.wrap ((k : Int) + 1) = (k : Int) + 1 := by simp [IntKind.wrap, IntKind.bits, IntKind.signed]; omega
      generalize bs.getD k noBx = y at hca hcb hda hdb
      go_wp2_with fail
      go_region_held3 (fun w' => w'.cell? (a.add (k * 2)) = some (.string y.1) ∧ w'.cell? ⟨(a.add (k * 2)).block, (a.add (k * 2)).off + 1, none⟩ = some (.string y.2) ∧ w'.cell? (b.add (k * 2)) = some (.string y.1) ∧ w'.cell? ⟨(b.add (k * 2)).block, (b.add (k * 2)).off + 1, none⟩ = some (.string y.2))
        ((first | exact ⟨hca, hcb, hda, hdb⟩ | exact ⟨pca, pcb, pda, pdb⟩))
        ((go_at_call 67; refine (eqKnwBox_any y y wr.drew).mono ?_; rw [show decide (y = y) = true by simp]; rintro e w2 ⟨rfl, hb2⟩; have pca := (hb2.cell (cell_lt hca)).trans hca; have pcb := (hb2.cell (cell_lt hcb)).trans hcb; have pda := (hb2.cell (cell_lt hda)).trans hda; have pdb := (hb2.cell (cell_lt hdb)).trans hdb; have hL2 : Hid (Below w.heap.size w w2) := ((unhide hL).drew).trans (hb2.mono hle); clear hb2))
      go_wp2_with fail
      go_roundw
      case rel => exact ⟨k + 1, by omega, by simp, hL2⟩
      case measure => simp [intOf]; omega
    · have hlt2 : decide ((k : Int) < (bs.length : Int)) = false := by simp; omega
      go_wp2_with fail
      go_ret
      exact ⟨rfl, unhide hL⟩
#print axioms toKnwBoxS_any
#print axioms eqKnwBoxS_any
end Go.Proofs.Ytjdpabiodalfkaa
