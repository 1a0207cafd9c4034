/-
  The laws' own helpers over secrets with their places: whether two rows are the same; marks in one, looked up again.
-/
import Derived.Test.YtkcopldlobomhaaMOwn
import Derived.Test.YtkcopldlobomhaaEqS
import Derived.Test.YtkcopldlobomhaaMarksH
namespace Go.Proofs.Ytkcopldlobomhaa
open Go.RowKit

set_option maxHeartbeats 400000 in
theorem eqMemOwn_same (b : Mo) (w : World) : Calls Try.prog 61 #[.agg #[.int .i64 b.1, .string b.2], .agg #[.int .i64 b.1, .string b.2]] w fun e w' => e = .returned (.bool true) ∧ Below w.heap.size w w' := by
  have HBA : Hid (Below w.heap.size w ((w.alloc (.cells #[.int .i64 b.1, .string b.2] 55)).alloc (.cells #[.int .i64 b.1, .string b.2] 55))) := ((Below.refl _ _).alloc (Nat.le_refl _) _).alloc (by simp) _
  obtain ⟨b1, b2⟩ := b
  simp only
  go_enter Try.func61, Try.ntmps61
  go_wp2_with fail
  go_ret
  exact ⟨rfl, unhide HBA⟩

set_option maxRecDepth 100000 in
set_option maxHeartbeats 2000000 in
theorem eqMemOwnS_same (v u : Value) (bs : List Mo) (w : World) (h : MRow w v bs) (k : MRow w u bs) :
    Calls Try.prog 41 #[v, u] w fun e w' => e = .returned (.bool true) ∧ Below w.heap.size w w' := by
  have hR := hide h
  have hS := hide k
  obtain ⟨ao, cap, rfl, h1, h2, _⟩ := h
  obtain ⟨bo, cap', rfl, h1', h2', _⟩ := k
  unfold maxLen at h2 h2'
  go_enter Try.func41, Try.ntmps41
  go_wp2_with fail
  go_loopw [5] (fun i wr => ∃ k : Nat, k ≤ bs.length ∧ i = .int .i64 (k : Int) ∧ Hid (Below w.heap.size w wr)) (fun i _ => bs.length - (intOf i).toNat)
  case atStart => exact ⟨0, by omega, rfl, Below.refl _ _⟩
  case round =>
    obtain ⟨k, hk, rfl, hL⟩ := hrel
    have hle := hL.out.size
    by_cases hlt : k < bs.length
    · have hlt2 : (k : Int) < (bs.length : Int) := by omega
      obtain ⟨ao', c1, q1, _, _, q2⟩ := (MRow.below (unhide hR) (unhide hL)).form
      simp only [Value.slice.injEq] at q1
      obtain ⟨rfl, z1, rfl⟩ := q1
      obtain ⟨bo', c2, q3, _, _, q4⟩ := (MRow.below (unhide hS) (unhide hL)).form
      simp only [Value.slice.injEq] at q3
      obtain ⟨rfl, z3, rfl⟩ := q3
      clear z1 z3
      obtain ⟨a, rfl, hca, hcb⟩ := q2 k hlt
      obtain ⟨b, rfl, hda, hdb⟩ := q4 k hlt
      clear q2 q4
      have i3 : IntKind.i64.wrap ((k : Int) + 1) = (k : Int) + 1 := by simp [IntKind.wrap, IntKind.bits, IntKind.signed]; omega
      generalize bs.getD k noMo = y at hca hcb hda hdb
      go_wp2_with fail
      go_region_held3 (fun w' => w'.cell? (a.add (k * 2)) = some (.int .i64 y.1) ∧ w'.cell? ⟨(a.add (k * 2)).block, (a.add (k * 2)).off + 1, none⟩ = some (.string y.2) ∧ w'.cell? (b.add (k * 2)) = some (.int .i64 y.1) ∧ w'.cell? ⟨(b.add (k * 2)).block, (b.add (k * 2)).off + 1, none⟩ = some (.string y.2))
        ((first | exact ⟨hca, hcb, hda, hdb⟩ | exact ⟨pca, pcb, pda, pdb⟩))
        ((go_at_call 61; refine (eqMemOwn_same y wr.drew).mono ?_; rintro e w2 ⟨rfl, hb2⟩; have pca := (hb2.cell (cell_lt hca)).trans hca; have pcb := (hb2.cell (cell_lt hcb)).trans hcb; have pda := (hb2.cell (cell_lt hda)).trans hda; have pdb := (hb2.cell (cell_lt hdb)).trans hdb; have hL2 : Hid (Below w.heap.size w w2) := ((unhide hL).drew).trans (hb2.mono hle); clear hb2))
      go_wp2_with fail
      go_roundw
      case rel => exact ⟨k + 1, by omega, by simp, hL2⟩
      case measure => simp [intOf]; omega
    · have hlt2 : decide ((k : Int) < (bs.length : Int)) = false := by simp; omega
      go_wp2_with fail
      go_ret
      exact ⟨rfl, unhide hL⟩

/-- The marks from one on, two a secret. -/
def mmarks (k n : Nat) : List Mo := (List.range n).map fun i => (((k + 2 * i : Nat) : Int), mt (k + 2 * i + 1))
theorem mmarks_len (k n : Nat) : (mmarks k n).length = n := by unfold mmarks; simp
theorem mmarks_get {k n i : Nat} (h : i < n) : (mmarks k n).getD i noMo = (((k + 2 * i : Nat) : Int), mt (k + 2 * i + 1)) := by
  unfold mmarks
  rw [List.getD_eq_getElem?_getD]
  simp [h]
/-- The first j marked, the rest as they were. -/
def mmarkd (k : Nat) (xs : List Mo) (j : Nat) : List Mo := mmarks k j ++ xs.drop j
theorem mmarkd_zero (k : Nat) (xs : List Mo) : mmarkd k xs 0 = xs := by unfold mmarkd mmarks; simp
theorem mmarkd_all (k : Nat) (xs : List Mo) : mmarkd k xs xs.length = mmarks k xs.length := by unfold mmarkd; simp
theorem mmarkd_len {k : Nat} {xs : List Mo} {j : Nat} (h : j ≤ xs.length) : (mmarkd k xs j).length = xs.length := by unfold mmarkd; rw [List.length_append, mmarks_len, List.length_drop]; omega
theorem mmarkd_set {k : Nat} {xs : List Mo} {j : Nat} (h : j < xs.length) : (mmarkd k xs j).set j (((k + 2 * j : Nat) : Int), mt (k + 2 * j + 1)) = mmarkd k xs (j + 1) := by
  unfold mmarkd mmarks
  rw [List.range_succ, List.map_append, List.set_append_right _ _ (by simp)]
  have e : (xs.drop j).set 0 ((((k + 2 * j : Nat) : Int), mt (k + 2 * j + 1)) : Mo) = (((k + 2 * j : Nat) : Int), mt (k + 2 * j + 1)) :: xs.drop (j + 1) := by rw [List.drop_eq_getElem_cons h]; rfl
  simpa using e
theorem mcells_set : ∀ (cs : List Mo) (k : Nat) (b : Mo), k < cs.length → ((mcells cs).set (k * 2) (.int .i64 b.1)).set (k * 2 + 1) (.string b.2) = mcells (cs.set k b)
  | [], k, _, h => absurd h (Nat.not_lt_zero _)
  | c :: cs, 0, b, _ => by simp [mcells]
  | c :: cs, k + 1, b, h => by
    have := mcells_set cs k b (by simpa using h)
    rw [show (k + 1) * 2 = k * 2 + 1 + 1 by omega]
    simpa [mcells] using this

set_option maxRecDepth 100000 in
set_option maxHeartbeats 2000000 in
theorem markMemOwnS_any (B : Nat) (v : Value) (bs : List Mo) (k : Nat) (w : World) (h : OwnM B w v bs) (hk : 0 < k) (hk2 : k ≤ 2000000) (hl : bs.length ≤ 1048576) :
    Calls Try.prog 43 #[v, .int .i64 (k : Int)] w fun e w' => e = .returned (.int .i64 ((k + 2 * bs.length : Nat) : Int)) ∧ OwnM B w' v (mmarks k bs.length) ∧ w.grownBy w' v.ownBlock := by
  have hO := hide h
  obtain ⟨ao, cap, hv⟩ := row_form' h
  subst hv
  clear h
  go_enter Try.func43, Try.ntmps43
  go_wp2_with fail
  go_loopw [1, 5] (fun c i wr => ∃ (j z : Nat), j ≤ bs.length ∧ i = .int .i64 (j : Int) ∧ c = .int .i64 (z : Int) ∧ 0 < z ∧ z = k + 2 * j ∧ Hid (wr.ownsRow B 55 2 (.slice ao bs.length cap) bs.length (mcells (mmarkd k bs j))) ∧ Hid (w.grownBy wr (Value.ownBlock (.slice ao bs.length cap)))) (fun _ i _ => bs.length - (intOf i).toNat)
  case atStart => exact ⟨0, k, by omega, rfl, rfl, hk, by omega, by rw [mmarkd_zero]; exact unhide hO, ⟨rfl, rfl, rfl, Nat.le_refl _, fun _ _ _ => rfl⟩⟩
  case round =>
    obtain ⟨j, z, hj, rfl, rfl, hz1, hz, hOj, hG⟩ := hrel
    have hz2 : z ≤ 5000000 := by omega
    have HZ := hide hz
    clear hz
    by_cases hlt : j < bs.length
    · have hlt2 : (j : Int) < (bs.length : Int) := by omega
      have HCL : Hid ((mmarkd k bs j).length = bs.length) := mmarkd_len hj
      have HST : Hid ((mmarkd k bs j).set j ((z : Int), mt (z + 1)) = mmarkd k bs (j + 1)) := by show _ = _; rw [HZ.out]; exact mmarkd_set hlt
      generalize mmarkd k bs j = cs at *
      have hjc : j < cs.length := by have := HCL.out; omega
      have i3 : IntKind.i64.wrap ((j : Int) + 1) = (j : Int) + 1 := by simp [IntKind.wrap, IntKind.bits, IntKind.signed]; omega
      have i4 : IntKind.i64.wrap ((z : Int) + 1) = (z : Int) + 1 := by simp [IntKind.wrap, IntKind.bits, IntKind.signed]; omega
      have i5 : IntKind.i64.wrap ((z : Int) + 1 + 1) = (z : Int) + 1 + 1 := by simp [IntKind.wrap, IntKind.bits, IntKind.signed]; omega
      rcases (unhide hOj).2 with ⟨q, _⟩ | ⟨g, cap', cur, hq, hBg, hcur, _⟩
      · simp at q; omega
      simp only [Value.slice.injEq] at hq
      obtain ⟨rfl, _, rfl⟩ := hq
      clear hcur
      obtain ⟨p1, p2⟩ := mcells_get cs j hjc
      have P1 := hide p1
      have P2 := hide p2
      have hlen2 := (unhide hOj).1
      have HM : Hid (∀ (zz : Nat) (u : World), 0 < zz → zz ≤ 10000000 → Calls Try.prog 63 #[.int .i64 (zz : Int)] u fun e w' => e = .returned (.string (mt zz)) ∧ Below u.heap.size u w') := fun zz u q1 q2 => markText_any zz u q1 q2
      clear p1 p2
      have f0 := (unhide hOj).frozenAt (j * 2)
      have e0 : wr.cell? ⟨g, j * 2, none⟩ = some (.int .i64 (cs.getD j noMo).1) := ((unhide hOj).cellAt (j * 2) (by omega)).trans P1.out
      obtain ⟨s1, s2⟩ := (unhide hOj).stored (j * 2) (.int .i64 (z : Int))
      have HS1 := hide s1
      have HG1 := hide ((unhide hG).trans s2)
      clear s1 s2 hOj hG
      go_wp2_with fail
      have hcast : (z : Int) + 1 = ((z + 1 : Nat) : Int) := by omega
      rw [hcast]
      refine (HM.out (z + 1) _ (by omega) (by omega)).mono ?_
      rw [← hcast]
      rintro e w3 ⟨rfl, hb3⟩
      have hO3 := own_below' (unhide HS1) hb3
      have hG3 := grown_below' (unhide HG1) hb3
      have f1 := hO3.frozenAt (j * 2 + 1)
      have e1 : w3.cell? ⟨g, j * 2 + 1, none⟩ = some (.string (cs.getD j noMo).2) := by
        rw [hO3.cellAt (j * 2 + 1) (by omega), List.getElem?_set_ne (by omega)]; exact P2.out
      obtain ⟨s1, s2⟩ := hO3.stored (j * 2 + 1) (.string (mt (z + 1)))
      rw [mcells_set cs j ((z : Int), mt (z + 1)) hjc, HST.out] at s1
      generalize mt (z + 1) = y2 at s1 s2 ⊢
      have HS3 := hide s1
      have HG3' := hide (hG3.trans s2)
      clear s1 s2 hO3 hG3 hb3 HS1 HG1 hcast e0 f0
      go_wp2_with fail
      go_roundw
      case rel => exact ⟨j + 1, z + 2, by omega, by simp, by rw [show ((z + 2 : Nat) : Int) = (z : Int) + 1 + 1 by omega], by omega, by have := HZ.out; omega, HS3, HG3'⟩
      case measure => simp [intOf]; omega
    · have hlt2 : decide ((j : Int) < (bs.length : Int)) = false := by simp; omega
      have hjn : j = bs.length := by omega
      subst hjn
      rw [mmarkd_all] at hOj
      go_wp2_with fail
      go_ret
      refine ⟨congrArg (fun (t : Nat) => Ending.returned (.int .i64 (t : Int))) HZ.out, ?_, unhide hG⟩
      unfold OwnM
      rw [mmarks_len]
      exact unhide hOj

set_option maxRecDepth 100000 in
set_option maxHeartbeats 2000000 in
theorem heldMemOwnS_any (v : Value) (n k : Nat) (w : World) (h : MRow w v (mmarks k n)) (hk : 0 < k) (hk2 : k ≤ 2000000) (hl : n ≤ 1048576) :
    Calls Try.prog 45 #[v, .int .i64 (k : Int)] w fun e w' => e = .returned (.int .i64 ((k + 2 * n : Nat) : Int)) ∧ Below w.heap.size w w' := by
  have hR := hide h
  obtain ⟨ao, cap, rfl, h1, h2, _⟩ := h.form
  rw [mmarks_len] at h1 hR ⊢
  unfold maxLen at h2
  clear h
  go_enter Try.func45, Try.ntmps45
  go_wp2_with fail
  go_loopw [1, 5] (fun c i wr => ∃ j : Nat, j ≤ n ∧ i = .int .i64 (j : Int) ∧ c = .int .i64 ((k + 2 * j : Nat) : Int) ∧ Hid (Below w.heap.size w wr)) (fun _ i _ => n - (intOf i).toNat)
  case atStart => exact ⟨0, by omega, rfl, by simp, Below.refl _ _⟩
  case round =>
    obtain ⟨j, hj, rfl, rfl, hL⟩ := hrel
    have hle := hL.out.size
    by_cases hlt : j < n
    · have hlt2 : (j : Int) < (n : Int) := by omega
      have i3 : IntKind.i64.wrap ((j : Int) + 1) = (j : Int) + 1 := by simp [IntKind.wrap, IntKind.bits, IntKind.signed]; omega
      obtain ⟨ao', c1, q1, _, _, q2⟩ := (MRow.below (unhide hR) (unhide hL)).form
      rw [mmarks_len] at q1 q2
      simp only [Value.slice.injEq] at q1
      obtain ⟨rfl, _, rfl⟩ := q1
      obtain ⟨ad, rfl, hck, hcs⟩ := q2 j hlt
      rw [mmarks_get hlt] at hck hcs
      clear q2
      obtain ⟨z, hz⟩ : ∃ z : Nat, z = k + 2 * j := ⟨_, rfl⟩
      rw [← hz] at hck hcs ⊢
      dsimp only at hck hcs
      have hz1 : 0 < z := by omega
      have hz2 : z ≤ 6000000 := by omega
      have HZ := hide hz
      clear hz
      have i4 : IntKind.i64.wrap ((z : Int) + 1) = (z : Int) + 1 := by simp [IntKind.wrap, IntKind.bits, IntKind.signed]; omega
      have i5 : IntKind.i64.wrap ((z : Int) + 1 + 1) = (z : Int) + 1 + 1 := by simp [IntKind.wrap, IntKind.bits, IntKind.signed]; omega
      have HM : Hid (∀ u : World, Calls Try.prog 63 #[.int .i64 ((z : Int) + 1)] u fun e w' => e = .returned (.string (mt (z + 1))) ∧ Below u.heap.size u w') := fun u => by
        have := markText_any (z + 1) u (by omega) (by omega)
        rw [show ((z + 1 : Nat) : Int) = (z : Int) + 1 by omega] at this
        exact this
      generalize mt (z + 1) = y at hcs HM
      go_wp2_with fail
      go_region_held3 (fun w' => w'.cell? ⟨(ad.add (j * 2)).block, (ad.add (j * 2)).off + 1, none⟩ = some (.string y))
        ((first | exact hcs | exact pcs))
        ((go_at_call 63; refine (HM.out wr.drew).mono ?_; rintro e w2 ⟨rfl, hb2⟩; have pcs := (hb2.cell (cell_lt hcs)).trans hcs; have hL2 : Hid (Below w.heap.size w w2) := ((unhide hL).drew).trans (hb2.mono hle); clear hb2))
      go_wp2_with fail
      go_roundw
      case rel => exact ⟨j + 1, by omega, by simp, by rw [show ((k + 2 * (j + 1) : Nat) : Int) = (z : Int) + 1 + 1 by have := HZ.out; omega], hL2⟩
      case measure => simp [intOf]; omega
    · have hlt2 : decide ((j : Int) < (n : Int)) = false := by simp; omega
      have hjn : j = n := by omega
      subst hjn
      go_wp2_with fail
      go_ret
      exact ⟨rfl, unhide hL⟩
#print axioms heldMemOwnS_any
end Go.Proofs.Ytkcopldlobomhaa
