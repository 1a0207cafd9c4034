/-
  The laws' own marks: looked up again; written into boxes.
-/
import Derived.Test.YtjdpabiodalfkaaMarks
import Derived.Deep.RegionHeld3
namespace Go.Proofs.Ytjdpabiodalfkaa
open Go.RowKit

set_option maxRecDepth 100000 in
set_option maxHeartbeats 2000000 in
theorem heldStringS_any (v : Value) (n k : Nat) (w : World) (h : SRow w v (marks k n)) (hk : 0 < k) (hk2 : k ≤ 4000000) (hl : n ≤ 1048576) :
    Calls Try.prog 44 #[v, .int .i64 (k : Int)] w fun e w' => e = .returned (.int .i64 ((k + n : Nat) : Int)) ∧ Below w.heap.size w w' := by
  have hR := hide h
  obtain ⟨ao, cap, rfl, h1, h2, _⟩ := h.form
  rw [marks_len] at h1 hR ⊢
  unfold maxLen at h2
  clear h
  go_enter Try.func44, Try.ntmps44
  go_wp2_with fail
  go_loopw [1, 5] (fun c i wr => ∃ j : Nat, j ≤ n ∧ i = .int .i64 (j : Int) ∧ c = .int .i64 ((k + j : Nat) : Int) ∧ Hid (Below w.heap.size w wr)) (fun _ i _ => n - (intOf i).toNat)
  case atStart => exact ⟨0, by omega, rfl, by simp, Below.refl _ _⟩
  case round =>
    obtain ⟨j, hj, rfl, rfl, hL⟩ := hrel
    have hle := hL.out.size
    by_cases hlt : j < n
    · have hlt2 : (j : Int) < (n : Int) := by omega
      have i3 : IntKind.i64.wrap ((j : Int) + 1) = (j : Int) + 1 := by simp [IntKind.wrap, IntKind.bits, IntKind.signed]; omega
      obtain ⟨ao', c1, q1, _, _, q2⟩ := (SRow.below (unhide hR) (unhide hL)).form
      rw [marks_len] at q1 q2
      simp only [Value.slice.injEq] at q1
      obtain ⟨rfl, _, rfl⟩ := q1
      obtain ⟨ad, rfl, hck⟩ := q2 j hlt
      rw [marks_get hlt] at hck
      clear q2
      obtain ⟨z, hz⟩ : ∃ z : Nat, z = k + j := ⟨_, rfl⟩
      rw [← hz] at hck ⊢
      have hz1 : 0 < z := by omega
      have hz2 : z ≤ 6000000 := by omega
      have HZ := hide hz
      clear hz
      have i4 : IntKind.i64.wrap ((z : Int) + 1) = (z : Int) + 1 := by simp [IntKind.wrap, IntKind.bits, IntKind.signed]; omega
      have HM : Hid (∀ u : World, Calls Try.prog 68 #[.int .i64 (z : Int)] u fun e w' => e = .returned (.string (mt z)) ∧ Below u.heap.size u w') := fun u => markText_any z u hz1 (by omega)
      generalize mt z = y at hck HM
      go_wp2_with fail
      go_region_held3 (fun w' => w'.cell? (ad.add j) = some (.string y))
        ((first | exact hck | exact pck))
        ((go_at_call 68; refine (HM.out wr.drew).mono ?_; rintro e w2 ⟨rfl, hb2⟩; have pck := (hb2.cell (cell_lt hck)).trans hck; have hL2 : Hid (Below w.heap.size w w2) := ((unhide hL).drew).trans (hb2.mono hle); clear hb2))
      go_wp2_with fail
      go_roundw
      case rel => exact ⟨j + 1, by omega, by simp, by rw [show ((k + (j + 1) : Nat) : Int) = (z : Int) + 1 by have := HZ.out; omega], hL2⟩
      case measure => simp [intOf]; omega
    · have hlt2 : decide ((j : Int) < (n : Int)) = false := by simp; omega
      have hjn : j = n := by omega
      subst hjn
      go_wp2_with fail
      go_ret
      exact ⟨rfl, unhide hL⟩

set_option maxRecDepth 100000 in
set_option maxHeartbeats 2000000 in
theorem markKnwBoxS_any (B : Nat) (v : Value) (bs : List Bx) (k : Nat) (w : World) (h : OwnB B w v bs) (hk : 0 < k) (hk2 : k ≤ 2000000) (hl : bs.length ≤ 1048576) :
    Calls Try.prog 43 #[v, .int .i64 (k : Int)] w fun e w' => (∃ r : Nat, e = .returned (.int .i64 (r : Int)) ∧ r ≤ 5000000) ∧ w.grownBy w' v.ownBlock := by
  have hO := hide h
  obtain ⟨ao, cap, hv⟩ := row_form' h
  subst hv
  clear h
  go_enter Try.func43, Try.ntmps43
  go_wp2_with fail
  go_loopw [1, 5] (fun c i wr => ∃ (j z : Nat) (cs : List Bx), j ≤ bs.length ∧ i = .int .i64 (j : Int) ∧ c = .int .i64 (z : Int) ∧ 0 < z ∧ z = k + 2 * j ∧ cs.length = bs.length ∧ Hid (wr.ownsRow B 42 2 (.slice ao bs.length cap) bs.length (bcells cs)) ∧ Hid (w.grownBy wr (Value.ownBlock (.slice ao bs.length cap)))) (fun _ i _ => bs.length - (intOf i).toNat)
  case atStart => exact ⟨0, k, bs, by omega, rfl, rfl, hk, by omega, rfl, unhide hO, ⟨rfl, rfl, rfl, Nat.le_refl _, fun _ _ _ => rfl⟩⟩
  case round =>
    obtain ⟨j, z, cs, hj, rfl, rfl, hz1, hz, hcl, hOj, hG⟩ := hrel
    have hz2 : z ≤ 5000000 := by omega
    have HZ := hide hz
    have HCL := hide hcl
    clear hz hcl
    by_cases hlt : j < bs.length
    · have hlt2 : (j : Int) < (bs.length : Int) := by omega
      have hjc : j < cs.length := by have := HCL.out; omega
      have i3 : IntKind.i64.wrap ((j : Int) + 1) = (j : Int) + 1 := by simp [IntKind.wrap, IntKind.bits, IntKind.signed]; omega
      have i4 : IntKind.i64.wrap ((z : Int) + 1) = (z : Int) + 1 := by simp [IntKind.wrap, IntKind.bits, IntKind.signed]; omega
      have i5 : IntKind.i64.wrap ((z : Int) + 1 + 1) = (z : Int) + 1 + 1 := by simp [IntKind.wrap, IntKind.bits, IntKind.signed]; omega
      rcases (unhide hOj).2 with ⟨q, _⟩ | ⟨g, cap', cur, hq, hBg, hcur, _⟩
      · simp at q; omega
      simp only [Value.slice.injEq] at hq
      obtain ⟨rfl, _, rfl⟩ := hq
      clear hcur
      obtain ⟨p1, p2⟩ := bcells_get cs j hjc
      have P1 := hide p1
      have P2 := hide p2
      have hlen2 := (unhide hOj).1
      have HM : Hid (∀ (zz : Nat) (u : World), 0 < zz → zz ≤ 10000000 → Calls Try.prog 68 #[.int .i64 (zz : Int)] u fun e w' => e = .returned (.string (mt zz)) ∧ Below u.heap.size u w') := fun zz u q1 q2 => markText_any zz u q1 q2
      clear p1 p2
      go_wp2_with fail
      refine (HM.out z _ hz1 (by omega)).mono ?_
      rintro e w2 ⟨rfl, hb2⟩
      have hO2 := own_below' (unhide hOj) hb2
      have hG2 := grown_below' (unhide hG) hb2
      have f0 := hO2.frozenAt (j * 2)
      have e0 : w2.cell? ⟨g, j * 2, none⟩ = some (.string (cs.getD j noBx).1) := (hO2.cellAt (j * 2) (by omega)).trans P1.out
      obtain ⟨s1, s2⟩ := hO2.stored (j * 2) (.string (mt z))
      have HS1 := hide s1
      have HG1 := hide (hG2.trans s2)
      clear s1 s2 hO2 hG2 hb2 hOj hG
      generalize mt z = y1 at HS1 HG1 ⊢
      go_wp2_with fail
      have hcast : (z : Int) + 1 = ((z + 1 : Nat) : Int) := by omega
      rw [hcast]
      refine (HM.out (z + 1) _ (by omega) (by omega)).mono ?_
      rw [← hcast]
      rintro e w3 ⟨rfl, hb3⟩
      have hO3 := own_below' (unhide HS1) hb3
      have hG3 := grown_below' (unhide HG1) hb3
      have f1 := hO3.frozenAt (j * 2 + 1)
      have e1 : w3.cell? ⟨g, j * 2 + 1, none⟩ = some (.string (cs.getD j noBx).2) := by
        rw [hO3.cellAt (j * 2 + 1) (by omega), List.getElem?_set_ne (by omega)]; exact P2.out
      obtain ⟨s1, s2⟩ := hO3.stored (j * 2 + 1) (.string (mt (z + 1)))
      generalize mt (z + 1) = y2 at s1 s2 ⊢
      rw [bcells_set cs j (y1, y2) hjc] at s1
      have HS3 := hide s1
      have HG3' := hide (hG3.trans s2)
      have hcl3 : Hid ((cs.set j (y1, y2)).length = bs.length) := by show _ = _; rw [List.length_set]; exact HCL.out
      clear s1 s2 hO3 hG3 hb3 HS1 HG1 hcast e0 f0
      go_wp2_with fail
      go_roundw
      case rel => exact ⟨j + 1, z + 2, cs.set j (y1, y2), by omega, by simp, by rw [show ((z + 2 : Nat) : Int) = (z : Int) + 1 + 1 by omega], by omega, by have := HZ.out; omega, hcl3.out, HS3, HG3'⟩
      case measure => simp [intOf]; omega
    · have hlt2 : decide ((j : Int) < (bs.length : Int)) = false := by simp; omega
      go_wp2_with fail
      go_ret
      exact ⟨⟨z, rfl, by omega⟩, unhide hG⟩
#print axioms heldStringS_any
#print axioms markKnwBoxS_any
end Go.Proofs.Ytjdpabiodalfkaa
