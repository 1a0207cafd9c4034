/-
  What the specification tells of how a secret was made.
-/
import Derived.Test.YteiojanamkndmaaGreatFnExactMemJoinB3
import Derived.BigRegion
import Derived.Test.YteiojanamkndmaaGreatFnExactMemJoinB2
import Derived.Test.YteiojanamkndmaaGreatFnExactMemJoinB1
import Derived.Deep.Slices
import Derived.RangeFuncNested
namespace Go.Proofs.YteiojanamkndmaaGreat
open Go.RowKit
open Kw (g len nv ok)

/-- A whole text that names a new secret: its letter, its digits, its number. -/
theorem new_parts {s : ByteArray} (hf : Kw.fresh s 0 = s.size) (h0 : s.size ≠ 0) : 65 ≤ g s 0 ∧ g s 0 ≤ 72 ∧ (∀ i, 1 ≤ i → i < s.size - 1 → 48 ≤ g s i ∧ g s i ≤ 57) ∧ (3 ≤ s.size ∧ s.size ≤ 4) ∧ nv s 0 = dv s 1 (s.size - 2) := by
  by_cases h1 : 65 ≤ g s 0 ∧ g s 0 ≤ 72 ∧ 49 ≤ g s (0 + 1) ∧ g s (0 + 1) ≤ 57
  · obtain ⟨p1, p2, p3, p4⟩ := h1
    rw [Nat.zero_add] at p3 p4
    by_cases h2 : g s (0 + 2) = 59
    · have e : Kw.fresh s 0 = 3 := by unfold Kw.fresh; rw [if_pos ⟨p1, p2, p3, p4⟩, if_pos h2]
      have e2 : nv s 0 = g s (0 + 1) - 48 := by unfold nv; rw [if_pos h2]
      have e3 : s.size = 3 := by omega
      refine ⟨p1, p2, ?_, by omega, ?_⟩
      · intro i h1 h2
        have : i = 1 := by omega
        subst this; omega
      · rw [e2, e3]
        show g s 1 - 48 = 0 * 10 + (g s (1 + 0) - 48)
        simp
    · by_cases h3 : 48 ≤ g s (0 + 2) ∧ g s (0 + 2) ≤ 57 ∧ g s (0 + 3) = 59
      · have e : Kw.fresh s 0 = 4 := by unfold Kw.fresh; rw [if_pos ⟨p1, p2, p3, p4⟩, if_neg h2, if_pos h3]
        have e2 : nv s 0 = (g s (0 + 1) - 48) * 10 + (g s (0 + 2) - 48) := by unfold nv; rw [if_neg h2]
        have e3 : s.size = 4 := by omega
        obtain ⟨r1, r2, _⟩ := h3
        rw [Nat.zero_add] at r1 r2
        refine ⟨p1, p2, ?_, by omega, ?_⟩
        · intro i h1 h2
          have : i = 1 ∨ i = 2 := by omega
          rcases this with rfl | rfl <;> omega
        · rw [e2, e3]
          show (g s 1 - 48) * 10 + (g s 2 - 48) = (0 * 10 + (g s (1 + 0) - 48)) * 10 + (g s (1 + 1) - 48)
          simp
      · exfalso; apply h0; rw [← hf]; unfold Kw.fresh; rw [if_pos ⟨p1, p2, p3, p4⟩, if_neg h2, if_neg h3]
  · exfalso; apply h0; rw [← hf]; unfold Kw.fresh; rw [if_neg h1]

set_option maxRecDepth 100000 in
set_option maxHeartbeats 1000000 in
theorem l1How_any (s : ByteArray) (w : World) (hk : ok s = true) :
    Calls Tryz.prog 41 #[.string s] w fun e w' => e = .returned (howV (mOp s) (mWho s) (mN s) (mA s) (mB s)) ∧ Below w.heap.size w w' := by
  obtain ⟨h1, h2, h3⟩ := ok_facts hk
  have p0 : 0 < s.size := by omega
  have p0' : (0 : Int) < (s.size : Int) := by omega
  have g0 := Kw.g_in p0
  unfold mOp mWho mN mA mB
  simp only [if_pos hk]
  by_cases c1 : g s 0 = 110
  · simp only [if_pos c1]
    have e1 : ((s[0].toNat : Int) == 110) = true := by simp; omega
    clear h2 h3 g0 c1
    have hk' := hide hk
    clear hk
    go_enter Tryz.func41, Tryz.ntmps41
    go_wp2_with fail
    refine bodyPost_ret (v := howV 2 0 0 (s.extract 1 s.size) ⟨#[]⟩) (by simp [results, Tryz.results41, go_sem, howV]) rfl ⟨rfl, ?_⟩
    exact (Below.refl _ _).alloc (Nat.le_refl _) _
  simp only [if_neg c1]
  have e1 : ((s[0].toNat : Int) == 110) = false := by simp; omega
  by_cases c2 : g s 0 = 107
  · simp only [if_pos c2]
    have e2 : ((s[0].toNat : Int) == 107) = true := by simp; omega
    clear h2 h3 g0 c1 c2
    have hk' := hide hk
    clear hk
    go_enter Tryz.func41, Tryz.ntmps41
    go_wp2_with fail
    refine bodyPost_ret (v := howV 3 0 0 (s.extract 1 s.size) ⟨#[]⟩) (by simp [results, Tryz.results41, go_sem, howV]) rfl ⟨rfl, ?_⟩
    exact (Below.refl _ _).alloc (Nat.le_refl _) _
  simp only [if_neg c2]
  have e2 : ((s[0].toNat : Int) == 107) = false := by simp; omega
  by_cases c3 : g s 0 = 101
  · simp only [if_pos c3]
    have e3 : ((s[0].toNat : Int) == 101) = true := by simp; omega
    have e4 : ((s[0].toNat : Int) == 109) = false := by simp; omega
    have e5 : ((s[0].toNat : Int) == 114) = false := by simp; omega
    obtain ⟨q1, q2, q3⟩ := parts_e hk c3
    have H := l1Size_all s h1 s.size 1 (by omega)
    have p1' : (1 : Int) + (len s 1 : Int) ≤ (s.size : Int) := by omega
    have p2' : (1 : Int) ≤ (s.size : Int) := by omega
    have p3' : (1 : Int) ≤ 1 + (len s 1 : Int) := by omega
    have i3 : IntKind.i64.wrap (1 + (len s 1 : Int)) = 1 + (len s 1 : Int) := by simp [IntKind.wrap, IntKind.bits, IntKind.signed]; omega
    have i5 : (0 : Int) ≤ 1 + (len s 1 : Int) := by omega
    clear h2 h3 g0 c1 c2 c3 q1 q2 q3
    have hk' := hide hk
    clear hk
    go_enter Tryz.func41, Tryz.ntmps41
    go_wp2_with fail
    refine (H _ _ rfl).mono ?_
    rintro e w1 ⟨rfl, hb1⟩
    obtain ⟨k0, k1, k2, k3, k4, z0, z1, z2, z3, z4⟩ := Res5.keep (b := w.heap.size) (by constructor <;> simp [go_sem]) hb1 (by simp)
    have hbb : Below w.heap.size w w1 := ((Below.refl w.heap.size w).alloc (Nat.le_refl _) _).trans (hb1.mono (by simp))
    clear hb1
    go_wp2_with fail
    go_region
    all_goals go_wp2_with fail
    all_goals refine bodyPost_ret (v := howV 4 0 0 (s.extract 1 (1 + len s 1)) (s.extract (1 + len s 1) s.size)) (by simp [results, Tryz.results41, go_sem, howV, k0, k1, k2, k3, k4]) rfl ⟨rfl, ?_⟩
    all_goals exact (below5 hbb (Nat.le_refl _) _ _ _ _ _).drew
  simp only [if_neg c3]
  have e3 : ((s[0].toNat : Int) == 101) = false := by simp; omega
  by_cases c4 : g s 0 = 109
  · simp only [if_pos c4]
    have e4 : ((s[0].toNat : Int) == 109) = true := by simp; omega
    obtain ⟨q1, q2, q3, q4⟩ := parts_m hk c4
    have p1 : 1 < s.size := by omega
    have p1' : (1 : Int) < (s.size : Int) := by omega
    have p2' : (2 : Int) ≤ (s.size : Int) := by omega
    rw [Kw.g_in p1] at q1 q2 ⊢
    have b1 : (65 : Int) ≤ (s[1].toNat : Int) := by omega
    have b2 : (s[1].toNat : Int) ≤ 72 := by omega
    clear h2 h3 g0 c1 c2 c3 c4 q1 q2 q3 q4
    have hk' := hide hk
    clear hk
    go_enter Tryz.func41, Tryz.ntmps41
    go_wp2_with fail
    go_region
    all_goals go_wp2_with fail
    all_goals refine bodyPost_ret (v := howV 5 ((s[1].toNat : Int) - 65) 0 (s.extract 2 s.size) ⟨#[]⟩) (by simp [results, Tryz.results41, go_sem, howV]) rfl ⟨rfl, ?_⟩
    all_goals exact ((Below.refl _ _).alloc (Nat.le_refl _) _).drew
  simp only [if_neg c4]
  have e4 : ((s[0].toNat : Int) == 109) = false := by simp; omega
  by_cases c5 : g s 0 = 114
  · simp only [if_pos c5]
    have e5 : ((s[0].toNat : Int) == 114) = true := by simp; omega
    obtain ⟨q1, q2, q3, q4⟩ := parts_r hk c5
    have p1 : 1 < s.size := by omega
    have p1' : (1 : Int) < (s.size : Int) := by omega
    have p2' : (2 : Int) ≤ (s.size : Int) := by omega
    rw [Kw.g_in p1] at q1 q2 ⊢
    have b1 : (48 : Int) ≤ (s[1].toNat : Int) := by omega
    have b2 : (s[1].toNat : Int) ≤ 57 := by omega
    have b3 : ((s[1].toNat - 48 : Nat) : Int) = (s[1].toNat : Int) - 48 := by omega
    rw [b3]
    clear h2 h3 g0 c1 c2 c3 c4 c5 q1 q2 q3 q4 b3
    have hk' := hide hk
    clear hk
    go_enter Tryz.func41, Tryz.ntmps41
    go_wp2_with fail
    go_region
    all_goals go_wp2_with fail
    all_goals refine bodyPost_ret (v := howV 6 0 ((s[1].toNat : Int) - 48) (s.extract 2 s.size) ⟨#[]⟩) (by simp [results, Tryz.results41, go_sem, howV]) rfl ⟨rfl, ?_⟩
    all_goals exact ((Below.refl _ _).alloc (Nat.le_refl _) _).drew
  simp only [if_neg c5]
  have e5 : ((s[0].toNat : Int) == 114) = false := by simp; omega
  have hfr := parts_new hk c1 c2 c3 c4 c5
  obtain ⟨q1, q2, q3, q4⟩ := new_parts hfr h2
  rw [g0] at q1 q2 ⊢
  have b1 : (65 : Int) ≤ (s[0].toNat : Int) := by omega
  have b2 : (s[0].toNat : Int) ≤ 72 := by omega
  have q3' := hide q3
  have q4' := hide q4.2
  have hsz3 : 3 ≤ s.size := by omega
  have hsz4 : s.size ≤ 4 := by omega
  clear h2 h3 g0 c1 c2 c3 c4 c5 q1 q2 q3 q4 hfr
  have hk' := hide hk
  clear hk
  go_enter Tryz.func41, Tryz.ntmps41
  go_wp2_with fail
  go_loop [4, 5] (fun n k => ∃ m j : Nat, k = .int .i64 (j : Int) ∧ n = .int .i64 (m : Int) ∧ 1 ≤ j ∧ j + 1 ≤ s.size ∧ m < 10 ^ (j - 1) ∧ Hid (m = dv s 1 (j - 1))) (fun _ k => s.size - (intOf k).toNat)
  case atStart => exact ⟨0, 1, rfl, rfl, by omega, by omega, by simp, rfl⟩
  case round =>
    obtain ⟨m, j, rfl, rfl, hj1, hj2, hm0, hm⟩ := hrel
    have hm1 : m ≤ 999 := by
      match j, hj1, hj2, hm0 with
      | 1, _, _, h => omega
      | 2, _, _, h => simp at h; omega
      | 3, _, _, h => simp at h; omega
      | j + 4, _, h4, _ => omega
    have hmm := hide hm0
    clear hm0
    by_cases hlt : j < s.size - 1
    · have hlt2 : (j : Int) < (s.size : Int) - 1 := by omega
      have hlt3 : j < s.size := by omega
      have hlt4 : (j : Int) < (s.size : Int) := by omega
      have hd := q3'.out j hj1 hlt
      rw [Kw.g_in hlt3] at hd
      have b3 : (48 : Int) ≤ (s[j].toNat : Int) := by omega
      have b4 : (s[j].toNat : Int) ≤ 57 := by omega
      have hG : Hid (g s j = s[j].toNat) := Kw.g_in hlt3
      clear hd
      go_wp2_with fail
      refine ⟨⟨m * 10 + (s[j].toNat - 48), j + 1, by simp, ?_, by omega, by omega, ?_, ?_⟩, by simp [intOf]; omega⟩
      · congr 1; omega
      · have := hmm.out
        rw [show j + 1 - 1 = (j - 1) + 1 by omega, Nat.pow_succ]; omega
      · show _ = dv s 1 (j + 1 - 1)
        rw [show j + 1 - 1 = (j - 1) + 1 by omega]
        show _ = dv s 1 (j - 1) * 10 + (g s (1 + (j - 1)) - 48)
        rw [show 1 + (j - 1) = j by omega, hG.out, ← hm.out]
    · have hge : decide ((j : Int) < (s.size : Int) - 1) = false := by simp; omega
      have hjj : Hid (j = s.size - 1) := by show j = s.size - 1; omega
      clear hlt
      go_wp2_with fail
      have hN : (nv s 0 : Int) = (m : Int) := by rw [q4'.out, hm.out, hjj.out, show s.size - 1 - 1 = s.size - 2 by omega]
      rw [hN]
      refine bodyPost_ret (v := howV 1 ((s[0].toNat : Int) - 65) (m : Int) ⟨#[]⟩ ⟨#[]⟩) (by simp [results, Tryz.results41, go_sem, howV]) rfl ⟨rfl, ?_⟩
      exact (Below.refl _ _).alloc (Nat.le_refl _) _

#print axioms l1How_any
end Go.Proofs.YteiojanamkndmaaGreat
/-
  Rows of boxes; the spec's test of one.
-/
namespace Go.Proofs.YteiojanamkndmaaGreat
open Go.RowKit

abbrev Bx := ByteArray × ByteArray
def noBx : Bx := (ByteArray.empty, ByteArray.empty)

/-- A slice holds these boxes: each its key, and what is in it. -/
def BRow (w : World) (v : Value) (bs : List Bx) : Prop :=
  ∃ (ao : Option Addr) (cap : Nat), v = .slice ao bs.length cap ∧ bs.length ≤ cap ∧ cap ≤ maxLen ∧ ∀ i, i < bs.length → ∃ a, ao = some a ∧ w.cell? (a.add (i * 2)) = some (.string (bs.getD i noBx).1) ∧ w.cell? ((a.add (i * 2)).add 1) = some (.string (bs.getD i noBx).2)

theorem BRow.below {w w' : World} {v : Value} {bs : List Bx} (h : BRow w v bs) (hb : Below w.heap.size w w') : BRow w' v bs := by
  obtain ⟨ao, cap, h1, h2, h3, h4⟩ := h
  refine ⟨ao, cap, h1, h2, h3, fun i hi => ?_⟩
  obtain ⟨a, q1, q2, q3⟩ := h4 i hi
  exact ⟨a, q1, (hb.cell (cell_lt q2)).trans q2, (hb.cell (cell_lt q3)).trans q3⟩

theorem add_one (x : Addr) : x.add 1 = ⟨x.block, x.off + 1, none⟩ := Addr.add_succ' x 0

def okBoxes (bs : List Bx) : Bool := decide (bs.length ≤ 400) && bs.all fun b => Kw.ok b.1 && Kw.ok b.2
theorem okBoxes_iff {bs : List Bx} : okBoxes bs = true ↔ bs.length ≤ 400 ∧ ∀ b ∈ bs, Kw.ok b.1 = true ∧ Kw.ok b.2 = true := by
  unfold okBoxes; simp
theorem getB_mem {bs : List Bx} {k : Nat} (h : k < bs.length) : bs.getD k noBx ∈ bs := by
  rw [List.getD_eq_getElem?_getD, List.getElem?_eq_getElem h]
  exact List.getElem_mem h

set_option maxRecDepth 100000 in
set_option maxHeartbeats 2000000 in
theorem l2Boxes_any (v : Value) (bs : List Bx) (w : World) (h : BRow w v bs) (hx : ∀ b ∈ bs, b.1.size ≤ maxLen ∧ b.2.size ≤ maxLen) :
    Calls Tryz.prog 43 #[v] w fun e w' => e = .returned (.bool (okBoxes bs)) ∧ Below w.heap.size w w' := by
  have hR := hide h
  have hX := hide hx
  obtain ⟨ao, cap, rfl, h1, h2, _⟩ := h
  unfold maxLen at h2
  clear hx
  by_cases hmost : 400 < bs.length
  · have h1 : (400 : Int) < (bs.length : Int) := by omega
    have he : okBoxes bs = false := by
      cases q : okBoxes bs with
      | false => rfl
      | true => have := (okBoxes_iff.1 q).1; omega
    go_enter Tryz.func43, Tryz.ntmps43
    go_wp2_with fail
    go_ret
    exact ⟨ret_bool' he.symm, Below.refl _ _⟩
  have h1 : decide ((400 : Int) < (bs.length : Int)) = false := by simp; omega
  go_enter Tryz.func43, Tryz.ntmps43
  go_wp2_with fail
  go_loopw [3] (fun i wr => ∃ k : Nat, k ≤ bs.length ∧ i = .int .i64 (k : Int) ∧ Hid (∀ j, j < k → Kw.ok (bs.getD j noBx).1 = true ∧ Kw.ok (bs.getD j noBx).2 = true) ∧ Hid (Below w.heap.size w wr)) (fun i _ => bs.length - (intOf i).toNat)
  case atStart => exact ⟨0, by omega, rfl, fun j hj => by omega, Below.refl _ _⟩
  case round =>
    obtain ⟨k, hk, rfl, hN, hL⟩ := hrel
    by_cases hlt : k < bs.length
    · have hlt2 : (k : Int) < (bs.length : Int) := by omega
      obtain ⟨ao', c1, q1, _, _, q2⟩ := BRow.below (unhide hR) (unhide hL)
      simp only [Value.slice.injEq] at q1
      obtain ⟨rfl, z1, rfl⟩ := q1
      clear z1
      obtain ⟨a, rfl, hca, hcb⟩ := q2 k hlt
      clear q2
      have hmem := getB_mem hlt
      have M : Hid ((bs.getD k noBx).1.size ≤ maxLen ∧ (bs.getD k noBx).2.size ≤ maxLen) := hX.out _ hmem
      have hle := hL.out.size
      have i3 : IntKind.i64.wrap ((k : Int) + 1) = (k : Int) + 1 := by simp [IntKind.wrap, IntKind.bits, IntKind.signed]; omega
      have hNo : Hid (Kw.ok (bs.getD k noBx).1 = false ∨ Kw.ok (bs.getD k noBx).2 = false → okBoxes bs = false) := by
        intro hf
        cases q : okBoxes bs with
        | false => rfl
        | true =>
          have := (okBoxes_iff.1 q).2 _ hmem
          rcases hf with hf | hf
          · rw [hf] at this; cases this.1
          · rw [hf] at this; cases this.2
      have hYes : Hid (Kw.ok (bs.getD k noBx).1 = true → Kw.ok (bs.getD k noBx).2 = true → ∀ j, j < k + 1 → Kw.ok (bs.getD j noBx).1 = true ∧ Kw.ok (bs.getD j noBx).2 = true) := by
        intro ha hb j hj
        by_cases hjk : j = k
        · subst hjk; exact ⟨ha, hb⟩
        · exact hN j (by omega)
      clear hmem
      generalize bs.getD k noBx = y at hca hcb M hNo hYes
      go_wp2_with fail
      refine (sSecOk_any y.1 _ M.out.1).mono ?_
      cases hy : Kw.ok y.1 with
      | false =>
        have he := hNo.out (.inl hy)
        rintro e w1 ⟨rfl, hb1⟩
        have hL1 := hide ((unhide hL).trans (hb1.mono hle))
        clear hb1 hy
        go_wp2_with fail
        go_ret
        exact ⟨ret_bool' he.symm, unhide hL1⟩
      | true =>
        have HY := hide hy
        rintro e w1 ⟨rfl, hb1⟩
        have hcb1 := (hb1.cell (cell_lt hcb)).trans hcb
        rw [add_one] at hcb1
        have hL1 := hide ((unhide hL).trans (hb1.mono hle))
        have hle1 := hL1.out.size
        clear hb1 hy hca hcb
        go_wp2_with fail
        refine (sSecOk_any y.2 _ M.out.2).mono ?_
        cases hz : Kw.ok y.2 with
        | false =>
          have he := hNo.out (.inr hz)
          rintro e w2 ⟨rfl, hb2⟩
          have hL2 := hide ((unhide hL1).trans (hb2.mono hle1))
          clear hb2 hz
          go_wp2_with fail
          go_ret
          exact ⟨ret_bool' he.symm, unhide hL2⟩
        | true =>
          have hN1 := hide (hYes.out HY.out hz)
          rintro e w2 ⟨rfl, hb2⟩
          have hL2 := hide ((unhide hL1).trans (hb2.mono hle1))
          clear hb2 hz
          go_wp2_with fail
          go_roundw
          case rel => exact ⟨k + 1, by omega, by simp, hN1, hL2⟩
          case measure => simp [intOf]; omega
    · have hlt2 : decide ((k : Int) < (bs.length : Int)) = false := by simp; omega
      have he : okBoxes bs = true := okBoxes_iff.2 ⟨by omega, fun b hb => by
        obtain ⟨j, hj, e⟩ := List.getElem_of_mem hb
        have := hN.out j (by omega)
        rw [List.getD_eq_getElem?_getD, List.getElem?_eq_getElem hj] at this
        rw [← e]; exact this⟩
      go_wp2_with fail
      go_ret
      exact ⟨ret_bool' he.symm, unhide hL⟩
#print axioms l2Boxes_any
end Go.Proofs.YteiojanamkndmaaGreat
/-
  A slice of boxes that came in: what it holds.
-/
namespace Go.Proofs.YteiojanamkndmaaGreat
open Go.ChangeShapes Go.WideShapes Go.RowKit

theorem two_cells {w : World} {base : Nat} {a : Addr} {cs : List Value} (h : w.cells? base a 2 = some cs) : ∃ c0 c1, cs = [c0, c1] ∧ w.cell? (a.add 0) = some c0 ∧ w.cell? (a.add 1) = some c1 := by
  unfold World.cells? at h
  split at h
  · simp only [List.range, List.range.loop, List.mapM_cons, List.mapM_nil] at h
    cases h0 : w.cell? (a.add 0) with
    | none => rw [h0] at h; cases h
    | some c0 =>
      cases h1 : w.cell? (a.add 1) with
      | none => rw [h0, h1] at h; cases h
      | some c1 =>
        rw [h0, h1] at h
        cases h
        exact ⟨c0, c1, rfl, rfl, rfl⟩
  · cases h

theorem underLB : Tryz.prog.underlying 23 = some (.slice 25) := by kernel_rfl
theorem cellsLB : Tryz.prog.cellsOf 25 = 2 := by kernel_rfl
theorem cellsS9 : Tryz.prog.cellsOf 9 = 1 := by kernel_rfl
theorem structLB : ∃ f0 f1 : Field, Tryz.prog.underlying 25 = some (.struct #[f0, f1]) ∧ f0.type = 9 ∧ f1.type = 9 ∧ f0.offset = 0 ∧ f1.offset = 1 :=
  ⟨_, _, Tryz.underlying25, rfl, rfl, rfl, rfl⟩
theorem underS9 : Tryz.prog.underlying 9 = some .string := by kernel_rfl

theorem open_brow {H : Type} {enc : TypeId × Value → H} {W : World} {held : Bool} {fuel : Nat} {a : Option Addr} {len cap : Nat} {x : DataW H × List MemPlace}
    (hf : DataW.trod enc Tryz.prog W 0 (fun _ => true) held fuel 23 (Value.cells (.slice a len cap)).toList = some x) : ∃ zs, BRow W (.slice a len cap) zs ∧ ∀ y ∈ zs, y.1.size ≤ maxLen ∧ y.2.size ≤ maxLen := by
  rcases Deep.open_slice underLB hf with ⟨hcs, _⟩ | ⟨p, l, c, m, n, D, Pl, hcs, _, hl, hm, hmm, _, hel⟩
  · simp [Value.cells] at hcs
    obtain ⟨rfl, rfl, rfl⟩ := hcs
    exact ⟨[], ⟨none, 0, rfl, Nat.le_refl _, by omega, fun i hi => absurd hi (Nat.not_lt_zero _)⟩, fun y hy => by cases hy⟩
  · simp [Value.cells] at hcs
    obtain ⟨rfl, rfl, rfl⟩ := hcs
    simp at hmm
    have key : ∀ i, i < len → ∃ b : Bx, W.cell? (p.add (i * 2)) = some (.string b.1) ∧ W.cell? ((p.add (i * 2)).add 1) = some (.string b.2) ∧ b.1.size ≤ maxLen ∧ b.2.size ≤ maxLen := by
      intro i hi
      obtain ⟨cs', h1, h2⟩ := hel i (by omega)
      rw [cellsLB] at h1
      obtain ⟨c0, c1, rfl, k0, k1⟩ := two_cells h1
      obtain ⟨f0, f1, s0, s1, s2, s3, s4⟩ := structLB
      obtain ⟨y0, y1, n', _, _, t0, t1⟩ := trod_struct2 s0 h2
      rw [s1, s3, cellsS9] at t0
      rw [s2, s4, cellsS9] at t1
      simp at t0 t1
      obtain ⟨b0, e0, _, z0⟩ := DataW.trod_string underS9 t0
      obtain ⟨b1, e1, _, z1⟩ := DataW.trod_string underS9 t1
      simp at e0 e1
      subst e0
      subst e1
      exact ⟨(b0, b1), by rw [← Addr.add_zero' (p.add (i * 2))]; exact k0, k1, z0, z1⟩
    refine ⟨(List.range len).map fun i => if h : i < len then Classical.choose (key i h) else noBx, ⟨some p, cap, by simp, by simp; omega, hm, fun i hi => ?_⟩, fun y hy => ?_⟩
    · simp at hi
      have e : ((List.range len).map fun i => if h : i < len then Classical.choose (key i h) else noBx).getD i noBx = Classical.choose (key i hi) := by
        rw [List.getD_eq_getElem?_getD]
        simp [hi]
      rw [e]
      have := Classical.choose_spec (key i hi)
      exact ⟨p, rfl, this.1, this.2.1⟩
    · obtain ⟨i, hi, rfl⟩ := List.mem_map.1 hy
      have hi' : i < len := by simpa using hi
      rw [dif_pos hi']
      exact (Classical.choose_spec (key i hi')).2.2
#print axioms open_brow
end Go.Proofs.YteiojanamkndmaaGreat
/-
  Slices of the call's own, their rows between two numbers. No Go function in it.
-/
namespace Go.Proofs.YteiojanamkndmaaGreat
open Go.RowKit

/-- A slice of the call's own, its row between two numbers. -/
def RowIn (lo hi : Nat) (e : TypeId) (size : Nat) (w : World) (v : Value) (n : Nat) (xs : List Value) : Prop := w.ownsRow lo e size v n xs ∧ ∀ g, v.ownBlock = some g → g < hi
theorem RowIn.of {lo : Nat} {e : TypeId} {size : Nat} {w : World} {v : Value} {n : Nat} {xs : List Value} (h : w.ownsRow lo e size v n xs) : RowIn lo w.heap.size e size w v n xs := ⟨h, fun g hg => (h.lt g hg).2⟩
theorem RowIn.below {lo hi : Nat} {e : TypeId} {size : Nat} {w w' : World} {v : Value} {n : Nat} {xs : List Value} (h : RowIn lo hi e size w v n xs) (hb : Below w.heap.size w w') : RowIn lo hi e size w' v n xs := ⟨own_below' h.1 hb, h.2⟩
theorem RowIn.grown {lo hi : Nat} {e : TypeId} {size : Nat} {w w' : World} {v : Value} {n : Nat} {xs : List Value} {r : Option Nat} (h : RowIn lo hi e size w v n xs) (hg : w.grownBy w' r) (hr : ∀ k, r = some k → k < lo ∨ hi ≤ k) : RowIn lo hi e size w' v n xs := by
  refine ⟨h.1.kept hg ?_, h.2⟩
  cases hv : v.ownBlock with
  | none => exact .inl rfl
  | some g =>
    right
    intro e'
    have h1 := (h.1.lt g hv).1
    have h2 := h.2 g hv
    have := hr g e'.symm
    omega
theorem RowIn.out {lo hi : Nat} {e : TypeId} {size : Nat} {w : World} {v : Value} {n : Nat} {xs : List Value} (h : RowIn lo hi e size w v n xs) : ∀ k, v.ownBlock = some k → lo ≤ k ∧ k < hi := fun k hk => ⟨(h.1.lt k hk).1, h.2 k hk⟩
/-- Texts, so. -/
def TIn (lo hi : Nat) (w : World) (v : Value) (xs : List ByteArray) : Prop := RowIn lo hi 9 1 w v xs.length (xs.map Value.string)
theorem TIn.srow {lo hi : Nat} {w : World} {v : Value} {xs : List ByteArray} (h : TIn lo hi w v xs) : SRow w v xs := own_srow h.1
theorem TIn.below {lo hi : Nat} {w w' : World} {v : Value} {xs : List ByteArray} (h : TIn lo hi w v xs) (hb : Below w.heap.size w w') : TIn lo hi w' v xs := RowIn.below h hb
theorem TIn.grown {lo hi : Nat} {w w' : World} {v : Value} {xs : List ByteArray} {r : Option Nat} (h : TIn lo hi w v xs) (hg : w.grownBy w' r) (hr : ∀ k, r = some k → k < lo ∨ hi ≤ k) : TIn lo hi w' v xs := RowIn.grown h hg hr
end Go.Proofs.YteiojanamkndmaaGreat
/-
  Variables in blocks of their own, beside rows. No Go function in it.
-/
namespace Go.Proofs.YteiojanamkndmaaGreat
open Go.RowKit

theorem box_below {w w' : World} {b : Nat} {t : TypeId} {v : Value} (h : Boxed w b t v) (hb : Below w.heap.size w w') : Boxed w' b t v := (hb.block b h.lt).trans h
theorem box_below0 {w w' : World} {b B : Nat} {t : TypeId} {v : Value} (h : Boxed w b t v) (hb : Below B w w') (hlt : b < B) : Boxed w' b t v := (hb.block b hlt).trans h
/-- A row is not a variable's block: what is stored there leaves it. -/
theorem row_box {B : Nat} {w : World} {e t : TypeId} {size n b : Nat} {v u : Value} {xs : List Value} (h : w.ownsRow B e size v n xs) (hx : Boxed w b t u) (hte : t ≠ e) (x : Value) : (w.setCell ⟨b, 0, none⟩ x).ownsRow B e size v n xs :=
  h.kept (grownBy_setCell' w b x) (.inr (hx.not_row hte h).symm)
/-- A store into a variable's block leaves what lies below. -/
theorem below_box {B : Nat} {w w' : World} {b : Nat} (h : Below B w w') (hb : B ≤ b) (x : Value) : Below B w (w'.setCell ⟨b, 0, none⟩ x) := h.setCell (p := ⟨b, 0, none⟩) hb x
/-- A row that grows or turns leaves a variable's block of another type. -/
theorem box_grown {B : Nat} {w w' : World} {e t : TypeId} {size n b : Nat} {v u : Value} {xs : List Value} (hx : Boxed w b t u) (h : w.ownsRow B e size v n xs) (hte : t ≠ e) (hg : w.grownBy w' v.ownBlock) : Boxed w' b t u := hx.kept hg (hx.not_row hte h)
theorem row_lowB {B B' : Nat} {w : World} {e : TypeId} {size : Nat} {v : Value} {n : Nat} {xs : List Value} (h : w.ownsRow B e size v n xs) (hB : B' ≤ B) : w.ownsRow B' e size v n xs := by
  refine ⟨h.1, h.2.imp id ?_⟩
  rintro ⟨g, cap, cur, h1, h2, h3⟩
  exact ⟨g, cap, cur, h1, by omega, h3⟩
end Go.Proofs.YteiojanamkndmaaGreat
/-
  Blocks of several cells that a call made: whole values stored into them and read out of them. No Go function in it.
-/
namespace Go.Proofs.YteiojanamkndmaaGreat
open Go.RowKit

/-- A block holds these cells, all of one variable. -/
def Blk (w : World) (b : Nat) (t : TypeId) (cs : Array Value) : Prop := w.heap[b]? = some (.cells cs t (0, 0))
theorem Blk.lt {w : World} {b : Nat} {t : TypeId} {cs : Array Value} (h : Blk w b t cs) : b < w.heap.size := (Array.getElem?_eq_some_iff.1 h).1
theorem Blk.new (w : World) (t : TypeId) (cs : Array Value) : Blk (w.alloc (.cells cs t)) w.heap.size t cs := World.alloc_heap_new w _
theorem Blk.below {w w' : World} {b : Nat} {t : TypeId} {cs : Array Value} (h : Blk w b t cs) (hb : Below w.heap.size w w') : Blk w' b t cs := (hb.block b h.lt).trans h
theorem Blk.below0 {w w' : World} {b B : Nat} {t : TypeId} {cs : Array Value} (h : Blk w b t cs) (hb : Below B w w') (hlt : b < B) : Blk w' b t cs := (hb.block b hlt).trans h
theorem Blk.kept {w w' : World} {row : Option Nat} {b : Nat} {t : TypeId} {cs : Array Value} (h : Blk w b t cs) (hg : w.grownBy w' row) (hne : some b ≠ row) : Blk w' b t cs := (hg.block b h.lt hne).trans h
theorem Blk.alloc {w : World} {b : Nat} {t : TypeId} {cs : Array Value} (h : Blk w b t cs) (o : Obj) : Blk (w.alloc o) b t cs := h.kept (World.grownBy_alloc w o none) (by simp)
theorem Blk.drew {w : World} {b : Nat} {t : TypeId} {cs : Array Value} (h : Blk w b t cs) : Blk w.drew b t cs := h
theorem Blk.cell {w : World} {b : Nat} {t : TypeId} {cs : Array Value} (h : Blk w b t cs) (i : Nat) : w.cell? ⟨b, i, none⟩ = cs[i]? := by simp [World.cell?, show w.heap[b]? = _ from h]
theorem Blk.frozen {w : World} {b : Nat} {t : TypeId} {cs : Array Value} (h : Blk w b t cs) (i : Nat) : w.frozen? ⟨b, i, none⟩ = false := by simp [World.frozen?, show w.heap[b]? = _ from h]
theorem Blk.set {w : World} {b : Nat} {t : TypeId} {cs : Array Value} (h : Blk w b t cs) (ds : Array Value) : Blk (w.setRow b ds) b t ds := setRow_heap w b cs ds t _ h
theorem grown_setRow (w : World) (b : Nat) (cs : Array Value) : w.grownBy (w.setRow b cs) (some b) :=
  ⟨rfl, rfl, rfl, by simp, fun k _ hk => setRow_other w b k cs (fun e => hk (by rw [e]))⟩
theorem Blk.other {w : World} {b b' : Nat} {t : TypeId} {cs : Array Value} (h : Blk w b t cs) (hne : b ≠ b') (ds : Array Value) : Blk (w.setRow b' ds) b t cs := h.kept (grown_setRow w b' ds) (fun e => hne (by cases e; rfl))
theorem Blk.boxed {w : World} {b : Nat} {t : TypeId} {v : Value} (h : Blk w b t #[v]) : Boxed w b t v := h
/-- No row of another type is such a block. -/
theorem Blk.not_row {w : World} {b : Nat} {t e : TypeId} {cs : Array Value} (h : Blk w b t cs) (hte : t ≠ e) {base size k : Nat} {v : Value} {xs : List Value} (hr : w.ownsRow base e size v k xs) : some b ≠ v.ownBlock := by
  rcases hr.2 with ⟨rfl, _⟩ | ⟨g, cap, cur, rfl, _, hgb, _⟩
  · simp [Value.ownBlock]
  · intro q
    obtain rfl : b = g := by simpa [Value.ownBlock] using q
    have := (show w.heap[b]? = _ from h).symm.trans hgb
    simp at this
    exact hte this.2
theorem row_blk {B : Nat} {w : World} {e t : TypeId} {size n b : Nat} {v : Value} {xs : List Value} {cs : Array Value} (h : w.ownsRow B e size v n xs) (hx : Blk w b t cs) (hte : t ≠ e) (ds : Array Value) : (w.setRow b ds).ownsRow B e size v n xs :=
  h.kept (grown_setRow w b ds) (.inr (hx.not_row hte h).symm)
theorem below_blk {B : Nat} {w w' : World} {b : Nat} (h : Below B w w') (hb : B ≤ b) (ds : Array Value) : Below B w (w'.setRow b ds) := h.trans ⟨rfl, rfl, rfl, by simp [World.setRow], fun k hk => setRow_other w' b k ds (by omega)⟩
/-- A value of several cells is stored whole. -/
theorem wpList_store_whole {P : Program} {ops : Array Oper} {rest : List Oper} {o : Oper} {a : Act} {w : World} {Q : Exit → Act → World → Prop} (hg : o.guard = none) (ty : TypeId) (x y : Operand) (ho : o.op = .store ty x y)
    (b : Nat) (cells : Array Value) (hx : a.eval x = .pointer (some ⟨b, 0, none⟩)) (hy : a.eval y = .agg cells)
    (t : TypeId) (old : Array Value) (hb : Blk w b t old) (hi : (P.info? ty).map (·.size) = some cells.size)
    (hold : old.size = cells.size) (h1 : cells.all (·.oneCell') = true)
    (h : wpList P ops Q rest (a.put o.dst undef) (w.setRow b cells)) : wpList P ops Q (o :: rest) a w :=
  wpList_plain hg fun _ hK => wp_store_row ty x y ho b cells hx hy t old hb hi hold h1 (hK _ _ h)
/-- A value of several cells is read whole. -/
theorem wpList_load_whole {P : Program} {ops : Array Oper} {rest : List Oper} {o : Oper} {a : Act} {w : World} {Q : Exit → Act → World → Prop} (hg : o.guard = none) (ty : TypeId) (x : Operand) (ho : o.op = .load ty x)
    (b : Addr) (hx : a.eval x = .pointer (some b)) (v : Value) (hl : (loadVar ty b).run P w = .ok v w)
    (h : wpList P ops Q rest (a.put o.dst v) w) : wpList P ops Q (o :: rest) a w :=
  wpList_plain hg fun _ hK => by
    unfold Oper.wp execOp
    simp only [ho, hx, Instr.loadAt, Instr.sureAddr, Sem.run_bind, Sem.run_pure, Result.andThen_ok, hl]
    exact hK _ _ h
/-- A result that lies in a block. -/
theorem results_cell {P : Program} {fn : Func} {a t : Nat} {tmps : Array Value} {w : World} {b : Addr} {v : Value} (h : fn.results = #[.cell a t]) (hp : tmps.getD a undef = .pointer (some b)) (hl : (loadVar t b).run P w = .ok v w) : (results fn tmps).run P w = .ok v w := by
  have hp' : tmps[a]?.getD undef = .pointer (some b) := by simpa using hp
  simp [results, h, hp', asAddr, hl]
end Go.Proofs.YteiojanamkndmaaGreat
/-
  The tree's places, plain: what is above them, beside them, where two meet. No Go function in it.
-/
namespace Go.Proofs.YteiojanamkndmaaGreat

/-- The place of one. -/
def leafOf (who : Int) : Int := if 0 ≤ who ∧ who ≤ 7 then 7 + who else -1
/-- The place beside one. -/
def sideOf (n : Int) : Int := if 1 ≤ n ∧ n ≤ 14 then (if n % 2 = 1 then n + 1 else n - 1) else -1
/-- All places above one. -/
def upF : Nat → Nat → List Nat
  | 0, _ => []
  | f + 1, k => if k = 0 then [] else (k - 1) / 2 :: upF f ((k - 1) / 2)
def ups (k : Nat) : List Nat := upF 4 k
theorem ups_zero : ups 0 = [] := rfl
theorem ups_step : ∀ k, k < 15 → 0 < k → ups k = (k - 1) / 2 :: ups ((k - 1) / 2) := by decide
theorem ups_len : ∀ k, k < 15 → (ups k).length ≤ 3 := by decide
theorem ups_lt : ∀ k, k < 15 → ∀ p ∈ ups k, p < 7 := by decide
def upOf (n : Int) : List Int := if 0 ≤ n ∧ n ≤ 14 then (ups n.toNat).map (fun (k : Nat) => (k : Int)) else []
/-- Where two places meet. -/
def meetF : Nat → Nat → Nat → Nat
  | 0, a, _ => a
  | f + 1, a, b => if a = b then a else if b < a then meetF f ((a - 1) / 2) b else meetF f a ((b - 1) / 2)
def meets (a b : Nat) : Nat := meetF 6 a b
theorem meets_self : ∀ a, a < 15 → meets a a = a := by decide
theorem meets_left : ∀ a, a < 15 → ∀ b, b < 15 → b < a → meets a b = meets ((a - 1) / 2) b := by decide
theorem meets_right : ∀ a, a < 15 → ∀ b, b < 15 → a < b → meets a b = meets a ((b - 1) / 2) := by decide
theorem meets_comm : ∀ a, a < 15 → ∀ b, b < 15 → meets a b = meets b a := by decide
theorem meets_lt : ∀ a, a < 15 → ∀ b, b < 15 → meets a b < 15 := by decide
/-- The places above both are where they meet, and those above it. -/
theorem meets_above : ∀ a, a < 15 → ∀ b, b < 15 → (a :: ups a).filter (fun x => (b :: ups b).contains x) = meets a b :: ups (meets a b) := by decide
def meetOf (a b : Int) : Int := if (0 ≤ a ∧ a ≤ 14) ∧ 0 ≤ b ∧ b ≤ 14 then (meets a.toNat b.toNat : Int) else -1
end Go.Proofs.YteiojanamkndmaaGreat
/-
  The tree, plain: what covers, who is in, what is cleared. No Go function in it.
-/
namespace Go.Proofs.YteiojanamkndmaaGreat

/-- The places with keys that cover all from one down. -/
def covF (xs : List ByteArray) : Nat → Nat → List Nat
  | 0, _ => []
  | f + 1, n => if xs.getD n ByteArray.empty ≠ ByteArray.empty then [n] else if 7 ≤ n then [] else covF xs f (2 * n + 1) ++ covF xs f (2 * n + 2)
def cover (xs : List ByteArray) (n : Nat) : List Nat := covF xs 4 n
theorem covF_step (xs : List ByteArray) (f n : Nat) : covF xs (f + 1) n = if xs.getD n ByteArray.empty ≠ ByteArray.empty then [n] else if 7 ≤ n then [] else covF xs f (2 * n + 1) ++ covF xs f (2 * n + 2) := rfl
theorem covF_more (xs : List ByteArray) : ∀ f n, 1 ≤ f → 8 ≤ (n + 1) * 2 ^ (f - 1) → covF xs (f + 1) n = covF xs f n := by
  intro f
  induction f with
  | zero => intro n h; omega
  | succ f ih =>
    intro n _ h
    rw [covF_step xs (f + 1) n, covF_step xs f n]
    split
    · rfl
    · split
      · rfl
      · next hn =>
        cases f with
        | zero => simp at h; omega
        | succ g =>
          have e : (n + 1) * 2 ^ (g + 1 + 1 - 1) = (2 * n + 2) * 2 ^ g := by
            rw [show g + 1 + 1 - 1 = g + 1 from rfl, Nat.pow_succ, Nat.mul_comm (2 ^ g) 2, ← Nat.mul_assoc]
            congr 1
            omega
          rw [e] at h
          have h2 : (2 * n + 2) * 2 ^ g ≤ (2 * n + 2 + 1) * 2 ^ g := Nat.mul_le_mul_right _ (by omega)
          rw [ih (2 * n + 1) (by omega) (by simpa using h), ih (2 * n + 2) (by omega) (by simp; omega)]
theorem cover_three (xs : List ByteArray) (n : Nat) (h : 1 ≤ n) : covF xs 3 n = cover xs n := (covF_more xs 3 n (by omega) (by simp; omega)).symm
/-- A place without a key that is nobody's: what covers both under it. -/
theorem cover_two (xs : List ByteArray) (n : Nat) (h : xs.getD n ByteArray.empty = ByteArray.empty) (hn : n < 7) : cover xs n = cover xs (2 * n + 1) ++ cover xs (2 * n + 2) := by
  unfold cover
  rw [covF_step, if_neg (by simpa using h), if_neg (by omega), cover_three xs _ (by omega), cover_three xs _ (by omega)]
  rfl
theorem cover_one (xs : List ByteArray) (n : Nat) (h : xs.getD n ByteArray.empty ≠ ByteArray.empty) : cover xs n = [n] := by
  unfold cover
  rw [covF_step, if_pos h]
theorem cover_none (xs : List ByteArray) (n : Nat) (h : xs.getD n ByteArray.empty = ByteArray.empty) (hn : 7 ≤ n) : cover xs n = [] := by
  unfold cover
  rw [covF_step, if_neg (by simpa using h), if_pos hn]
/-- Who is in. -/
def inOf (xs : List ByteArray) : List Nat := (List.range 8).filter fun k => decide (xs.getD (7 + k) ByteArray.empty ≠ ByteArray.empty)
/-- A tree without the keys of some places. -/
def wipe (xs : List ByteArray) (ps : List Nat) : List ByteArray := ps.foldl (fun ys p => ys.set p ByteArray.empty) xs
def clearOf (xs : List ByteArray) (who : Nat) : List ByteArray := wipe xs ((7 + who) :: ups (7 + who))
end Go.Proofs.YteiojanamkndmaaGreat
/-
  The tree, plain: places, what is above them, beside them, where two meet; keys that are ok, who is in, what covers, what is cleared and set. No Go function in it.
-/
namespace Go.Proofs.YteiojanamkndmaaGreat

/-- A key that is ok: none, or one. -/
def keyOk (x : ByteArray) : Bool := decide (x = ByteArray.empty) || (Kw.ok x && decide (mOp x = 3))
def treOk (xs : List ByteArray) : Bool := decide (xs.length = 15) && xs.all keyOk
/-- A tree with keys of some places, each made from the next secret. -/
def fill : List ByteArray → ByteArray → List Nat → List ByteArray
  | xs, _, [] => xs
  | xs, s, p :: ps => fill (xs.set p (mkKey s)) (mkNext s) ps
def setKeys (xs : List ByteArray) (who : Nat) (s : ByteArray) : List ByteArray := fill xs s ((7 + who) :: ups (7 + who))
end Go.Proofs.YteiojanamkndmaaGreat
/-
  The tree, plain: from the last places up. No Go function in it.
-/
namespace Go.Proofs.YteiojanamkndmaaGreat

/-- Whether a place has a key. -/
def keyed (xs : List ByteArray) (n : Nat) : Bool := decide (xs.getD n ByteArray.empty ≠ ByteArray.empty)
theorem cover_keyed (xs : List ByteArray) (n : Nat) (h : keyed xs n = true) : cover xs n = [n] := cover_one xs n (by simpa [keyed] using h)
theorem cover_bare (xs : List ByteArray) (n : Nat) (h : keyed xs n = false) (hn : 7 ≤ n) : cover xs n = [] := cover_none xs n (by simpa [keyed] using h) hn
theorem cover_both (xs : List ByteArray) (n : Nat) (h : keyed xs n = false) (hn : n < 7) : cover xs n = cover xs (2 * n + 1) ++ cover xs (2 * n + 2) := cover_two xs n (by simpa [keyed] using h) hn

/-- From the last places up. -/
theorem down {P : Nat → Prop} (h1 : ∀ n, 7 ≤ n → n < 15 → P n) (h2 : ∀ n, n < 7 → P (2 * n + 1) → P (2 * n + 2) → P n) : ∀ n, n < 15 → P n := by
  have a : ∀ n, 3 ≤ n → n < 15 → P n := fun n h h' => if q : 7 ≤ n then h1 n q h' else h2 n (by omega) (h1 _ (by omega) (by omega)) (h1 _ (by omega) (by omega))
  have b : ∀ n, 1 ≤ n → n < 15 → P n := fun n h h' => if q : 3 ≤ n then a n q h' else h2 n (by omega) (a _ (by omega) (by omega)) (a _ (by omega) (by omega))
  exact fun n h' => if q : 1 ≤ n then b n q h' else h2 n (by omega) (b _ (by omega) (by omega)) (b _ (by omega) (by omega))
end Go.Proofs.YteiojanamkndmaaGreat
/-
  Plain mathematics: what tells how a name was made makes just that name. Nothing of the program is in it.
-/
namespace Go.Proofs.YteiojanamkndmaaGreat
open Kw

theorem split_at (s : ByteArray) (a : Nat) (h : a ≤ s.size) : s.extract 0 a ++ s.extract a s.size = s := by
  have zz : (s.extract 0 a ++ s.extract a s.size).size = s.size := by simp
  refine ext_g zz ?_
  intro i hi
  have hi' : i < s.size := by rw [zz] at hi; exact hi
  have z : (s.extract 0 a).size = a := by simp [ByteArray.size_extract]; omega
  rw [g_append, z]
  by_cases hia : i < a
  · rw [if_pos hia, g_extract s 0 a i h (by omega), Nat.zero_add]
  · rw [if_neg hia, g_extract s a s.size (i - a) (Nat.le_refl _) (by omega)]; congr 1; omega

theorem split_three (s : ByteArray) (a b : Nat) (hab : a ≤ b) (h : b ≤ s.size) : s.extract 0 a ++ s.extract a b ++ s.extract b s.size = s := by
  have z1 : (s.extract 0 a).size = a := by simp [ByteArray.size_extract]; omega
  have z2 : (s.extract a b).size = b - a := by simp [ByteArray.size_extract]; omega
  have z3 : (s.extract 0 a ++ s.extract a b).size = b := by rw [ByteArray.size_append, z1, z2]; omega
  refine ext_g (by rw [ByteArray.size_append, z3]; simp [ByteArray.size_extract]; omega) ?_
  intro i hi
  have hi' : i < s.size := by rw [ByteArray.size_append, z3] at hi; simp [ByteArray.size_extract] at hi; omega
  rw [g_append, z3]
  by_cases hib : i < b
  · rw [if_pos hib, g_append, z1]
    by_cases hia : i < a
    · rw [if_pos hia, g_extract s 0 a i (by omega) (by omega), Nat.zero_add]
    · rw [if_neg hia, g_extract s a b (i - a) h (by omega)]; congr 1; omega
  · rw [if_neg hib, g_extract s b s.size (i - b) (Nat.le_refl _) (by omega)]; congr 1; omega

theorem len_rest (s : ByteArray) (a : Nat) (h : a ≤ s.size) : len (s.extract a s.size) 0 = len s a := by
  have e := len_shift (s.extract 0 a) (s.extract a s.size) 0
  rw [split_at s a h] at e
  have z : (s.extract 0 a).size = a := by simp [ByteArray.size_extract]; omega
  rw [z, Nat.add_zero] at e
  exact e.symm

theorem one_byte {s : ByteArray} {a n : Nat} (h : a < s.size) (hn : n < 256) (hg : g s a = n) : s.extract a (a + 1) = by1 n := by
  refine ext_g (by simp [ByteArray.size_extract, by1_size]; omega) ?_
  intro i hi
  have hi0 : i = 0 := by simp [ByteArray.size_extract] at hi; omega
  subst hi0
  rw [g_extract s a (a + 1) 0 (by omega) (by omega), Nat.add_zero, hg, g_by1 n hn]

theorem rest_ok {s : ByteArray} (hk : ok s = true) (a : Nat) (ha : a ≤ s.size) (h0 : len s a ≠ 0) (h : a + len s a = s.size) : ok (s.extract a s.size) = true := by
  obtain ⟨h1, _, _⟩ := ok_facts hk
  have z : (s.extract a s.size).size = s.size - a := by simp [ByteArray.size_extract]
  refine ok_yes (by rw [z]; omega) (by rw [len_rest s a ha]; exact h0) (by rw [len_rest s a ha, z]; omega)

theorem g_back {s t : ByteArray} {i : Nat} (h : i < s.size) : g s i = g (s ++ t) i := (g_front t h).symm

theorem fresh_back {s t : ByteArray} {a : Nat} (h : fresh (s ++ t) a ≠ 0) (hl : a + fresh (s ++ t) a ≤ s.size) : fresh s a = fresh (s ++ t) a := by
  obtain ⟨h1, h2, _, _, h5⟩ := fresh_yes h
  unfold fresh at h hl ⊢
  by_cases c : 65 ≤ g (s ++ t) a ∧ g (s ++ t) a ≤ 72 ∧ 49 ≤ g (s ++ t) (a + 1) ∧ g (s ++ t) (a + 1) ≤ 57
  · rw [if_pos c] at h hl
    rw [if_pos c]
    by_cases c2 : g (s ++ t) (a + 2) = 59
    · rw [if_pos c2] at hl
      rw [if_pos c2, g_back (s := s) (t := t) (i := a) (by omega), g_back (s := s) (t := t) (i := a + 1) (by omega), g_back (s := s) (t := t) (i := a + 2) (by omega), if_pos c, if_pos c2]
    · rw [if_neg c2] at h hl
      by_cases c3 : 48 ≤ g (s ++ t) (a + 2) ∧ g (s ++ t) (a + 2) ≤ 57 ∧ g (s ++ t) (a + 3) = 59
      · rw [if_pos c3] at hl
        rw [if_neg c2, if_pos c3, g_back (s := s) (t := t) (i := a) (by omega), g_back (s := s) (t := t) (i := a + 1) (by omega), g_back (s := s) (t := t) (i := a + 2) (by omega), g_back (s := s) (t := t) (i := a + 3) (by omega), if_pos c, if_neg c2, if_pos c3]
      · rw [if_neg c3] at h; exact absurd rfl h
  · rw [if_neg c] at h; exact absurd rfl h

theorem sz_back (s t : ByteArray) (f : Nat) : ∀ a, sz (s ++ t) f a ≠ 0 → a + sz (s ++ t) f a ≤ s.size → sz s f a = sz (s ++ t) f a := by
  induction f with
  | zero => intro a h; exact absurd rfl h
  | succ f ih =>
    intro a h hl
    have ha : a < s.size := by omega
    rw [sz_succ] at h hl
    rw [sz_succ, sz_succ, g_back (s := s) (t := t) ha]
    by_cases c1 : g (s ++ t) a = 110 ∨ g (s ++ t) a = 107
    · rw [if_pos c1] at h hl; rw [if_pos c1, if_pos c1]
      obtain ⟨n1, n2⟩ := more_ne h
      rw [ih _ n1 (by omega)]
    rw [if_neg c1] at h hl; rw [if_neg c1, if_neg c1]
    by_cases c2 : g (s ++ t) a = 109
    · rw [if_pos c2] at h hl; rw [if_pos c2, if_pos c2]
      by_cases d : 65 ≤ g (s ++ t) (a + 1) ∧ g (s ++ t) (a + 1) ≤ 72
      · rw [if_pos d] at h hl
        obtain ⟨n1, n2⟩ := more_ne h
        rw [if_pos d, g_back (s := s) (t := t) (i := a + 1) (by omega), if_pos d, ih _ n1 (by omega)]
      · rw [if_neg d] at h; exact absurd rfl h
    rw [if_neg c2] at h hl; rw [if_neg c2, if_neg c2]
    by_cases c3 : g (s ++ t) a = 114
    · rw [if_pos c3] at h hl; rw [if_pos c3, if_pos c3]
      by_cases d : 49 ≤ g (s ++ t) (a + 1) ∧ g (s ++ t) (a + 1) ≤ 57
      · rw [if_pos d] at h hl
        obtain ⟨n1, n2⟩ := more_ne h
        rw [if_pos d, g_back (s := s) (t := t) (i := a + 1) (by omega), if_pos d, ih _ n1 (by omega)]
      · rw [if_neg d] at h; exact absurd rfl h
    rw [if_neg c3] at h hl; rw [if_neg c3, if_neg c3]
    by_cases c4 : g (s ++ t) a = 101
    · rw [if_pos c4] at h hl; rw [if_pos c4, if_pos c4]
      by_cases d : sz (s ++ t) f (a + 1) = 0
      · rw [if_pos d] at h; exact absurd rfl h
      · rw [if_neg d] at h hl
        obtain ⟨n1, n2⟩ := more_ne h
        have e1 := ih (a + 1) d (by omega)
        rw [e1, if_neg d, if_neg d, ih _ n1 (by omega)]
    rw [if_neg c4] at h hl; rw [if_neg c4, if_neg c4, fresh_back h hl]

theorem len_back {s t : ByteArray} {a : Nat} (h : len (s ++ t) a ≠ 0) (hl : a + len (s ++ t) a ≤ s.size) : len s a = len (s ++ t) a := by
  have e : sz s ((s ++ t).size - a) a = len s a := len_eq (by simp [ByteArray.size_append]; omega)
  rw [← e]
  exact sz_back s t _ a h hl

/-- A name at the beginning of a name's rest is a name. -/
theorem mid_ok {s : ByteArray} (hk : ok s = true) (a : Nat) (h0 : len s a ≠ 0) : ok (s.extract a (a + len s a)) = true := by
  obtain ⟨h1, _, _⟩ := ok_facts hk
  have hle := len_le h0
  have z : (s.extract a (a + len s a)).size = len s a := by simp [ByteArray.size_extract]; omega
  have e := len_rest s a (by omega)
  have e2 : s.extract a s.size = s.extract a (a + len s a) ++ s.extract (a + len s a) s.size := by
    refine ext_g (by simp [ByteArray.size_extract]; omega) ?_
    intro i hi
    have hi' : a + i < s.size := by simp [ByteArray.size_extract] at hi; omega
    rw [g_extract s a s.size i (Nat.le_refl _) hi', g_append, z]
    by_cases hj : i < len s a
    · rw [if_pos hj, g_extract s a (a + len s a) i hle (by omega)]
    · rw [if_neg hj, g_extract s (a + len s a) s.size (i - len s a) (Nat.le_refl _) (by omega)]; congr 1; omega
  rw [e2] at e
  have e3 : len (s.extract a (a + len s a)) 0 = len s a := by
    rw [len_back (t := s.extract (a + len s a) s.size) (by rw [e]; exact h0) (by rw [e, z]; omega), e]
  exact ok_yes (by rw [z]; omega) (by rw [e3]; exact h0) (by rw [e3, z])

theorem cap_self {x : ByteArray} (h : ok x = true) : cap x = x := by unfold cap; rw [if_pos (ok_facts h).1]

theorem re_next {s : ByteArray} (hk : ok s = true) (c : g s 0 = 110) : mkNext (s.extract 1 s.size) = s := by
  obtain ⟨h0, h1⟩ := parts_nk hk (.inl c)
  have e : nextT (s.extract 1 s.size) = s := by
    have := split_at s 1 (by omega)
    rw [one_byte (a := 0) (n := 110) (by omega) (by omega) c] at this
    exact this
  unfold mkNext
  rw [if_pos (rest_ok hk 1 (by omega) h0 h1), e, cap_self hk]
theorem re_key {s : ByteArray} (hk : ok s = true) (c : g s 0 = 107) : mkKey (s.extract 1 s.size) = s := by
  obtain ⟨h0, h1⟩ := parts_nk hk (.inr c)
  have e : keyT (s.extract 1 s.size) = s := by
    have := split_at s 1 (by omega)
    rw [one_byte (a := 0) (n := 107) (by omega) (by omega) c] at this
    exact this
  unfold mkKey
  rw [if_pos (rest_ok hk 1 (by omega) h0 h1), e, cap_self hk]
theorem re_epoch {s : ByteArray} (hk : ok s = true) (c : g s 0 = 101) : mkEpoch (s.extract 1 (1 + len s 1)) (s.extract (1 + len s 1) s.size) = s := by
  obtain ⟨h0, h1, h2⟩ := parts_e hk c
  have e : epochT (s.extract 1 (1 + len s 1)) (s.extract (1 + len s 1) s.size) = s := by
    have := split_three s 1 (1 + len s 1) (by omega) (by omega)
    rw [one_byte (a := 0) (n := 101) (by omega) (by omega) c] at this
    exact this
  unfold mkEpoch
  rw [if_pos ⟨mid_ok hk 1 h0, rest_ok hk _ (by omega) h1 h2⟩, e, cap_self hk]
theorem re_say {s : ByteArray} (hk : ok s = true) (c : g s 0 = 109) : mkSay (s.extract 2 s.size) ((g s 1 : Int) - 65) = s := by
  obtain ⟨q1, q2, h0, h1⟩ := parts_m hk c
  have e : sayT (s.extract 2 s.size) (g s 1 - 65) = s := by
    have := split_three s 1 2 (by omega) (by omega)
    rw [one_byte (a := 0) (n := 109) (by omega) (by omega) c, one_byte (a := 1) (n := 65 + (g s 1 - 65)) (by omega) (by omega) (by omega)] at this
    exact this
  unfold mkSay
  rw [if_pos ⟨rest_ok hk 2 (by omega) h0 h1, by omega, by omega⟩, show ((g s 1 : Int) - 65).toNat = g s 1 - 65 by omega, e, cap_self hk]
theorem re_room {s : ByteArray} (hk : ok s = true) (c : g s 0 = 114) : mkRoom (s.extract 2 s.size) ((g s 1 - 48 : Nat) : Int) = s := by
  obtain ⟨q1, q2, h0, h1⟩ := parts_r hk c
  have e : roomT (s.extract 2 s.size) (g s 1 - 48) = s := by
    have := split_three s 1 2 (by omega) (by omega)
    unfold roomT
    rw [dec_one _ (by omega)]
    rw [one_byte (a := 0) (n := 114) (by omega) (by omega) c, one_byte (a := 1) (n := 48 + (g s 1 - 48)) (by omega) (by omega) (by omega)] at this
    exact this
  unfold mkRoom
  rw [if_pos ⟨rest_ok hk 2 (by omega) h0 h1, by omega, by omega⟩, Int.toNat_natCast, e, cap_self hk]
theorem re_new {s : ByteArray} (hk : ok s = true) (hf : fresh s 0 = s.size) : mkNew ((g s 0 : Int) - 65) (nv s 0 : Int) = s := by
  obtain ⟨_, h0, _⟩ := ok_facts hk
  obtain ⟨p1, p2, p3, p4, p5⟩ := fresh_yes (by rw [hf]; exact h0)
  have hall : s.extract 0 s.size = s := by
    refine ext_g (by simp) ?_
    intro i hi
    rw [g_extract s 0 s.size i (Nat.le_refl _) (by simp at hi; omega), Nat.zero_add]
  unfold mkNew
  by_cases c : 49 ≤ g s (0 + 1) ∧ g s (0 + 1) ≤ 57
  · by_cases c2 : g s (0 + 2) = 59
    · have e : fresh s 0 = 3 := by unfold fresh; rw [if_pos ⟨p1, p2, c⟩, if_pos c2]
      have e2 : nv s 0 = g s (0 + 1) - 48 := by unfold nv; rw [if_pos c2]
      have e3 : s.size = 3 := by omega
      rw [if_pos (by omega)]
      have := ext_three (s := s) (a := 0) (who := ((g s 0 : Int) - 65).toNat) (n := ((nv s 0 : Nat) : Int).toNat) (by omega) (by omega) (by omega) (by omega) (by omega) c2
      rw [this]
      rw [show 0 + 3 = s.size by omega]; exact hall
    · have hne : fresh s 0 ≠ 0 := by rw [hf]; exact h0
      by_cases c3 : 48 ≤ g s (0 + 2) ∧ g s (0 + 2) ≤ 57 ∧ g s (0 + 3) = 59
      · have e : fresh s 0 = 4 := by unfold fresh; rw [if_pos ⟨p1, p2, c⟩, if_neg c2, if_pos c3]
        have e2 : nv s 0 = (g s (0 + 1) - 48) * 10 + (g s (0 + 2) - 48) := by unfold nv; rw [if_neg c2]
        obtain ⟨r1, r2, r3⟩ := c3
        rw [if_pos (by omega)]
        have := ext_four (s := s) (a := 0) (who := ((g s 0 : Int) - 65).toNat) (n := ((nv s 0 : Nat) : Int).toNat) (by omega) (by omega) (by omega) (by omega) (by omega) (by omega) (by omega) r3
        rw [this]
        rw [show 0 + 4 = s.size by omega]; exact hall
      · exfalso; apply hne; unfold fresh; rw [if_pos ⟨p1, p2, c⟩, if_neg c2, if_neg c3]
  · exfalso; apply h0; rw [← hf]; unfold fresh; rw [if_neg (by omega)]

#print axioms re_new
#print axioms re_epoch
end Go.Proofs.YteiojanamkndmaaGreat
/-
  Plain mathematics: what is made from names tells how it was made.
-/
namespace Go.Proofs.YteiojanamkndmaaGreat
open Kw

theorem ext_back (x y : ByteArray) : (x ++ y).extract x.size (x ++ y).size = y := by
  refine ext_g (by simp [ByteArray.size_extract, ByteArray.size_append]) ?_
  intro i hi
  have hi' : i < y.size := by simp [ByteArray.size_extract, ByteArray.size_append] at hi; omega
  rw [g_extract _ _ _ i (Nat.le_refl _) (by rw [ByteArray.size_append]; omega), g_shift]

theorem ext_front (x y : ByteArray) (a b : Nat) (hb : b ≤ x.size) : (x ++ y).extract a b = x.extract a b := by
  refine ext_g (by simp [ByteArray.size_extract, ByteArray.size_append]; omega) ?_
  intro i hi
  have hi' : a + i < b := by simp [ByteArray.size_extract, ByteArray.size_append] at hi; omega
  rw [g_extract _ _ _ i (by rw [ByteArray.size_append]; omega) hi', g_extract _ _ _ i hb hi', g_front y (by omega)]

/-- All that tells how a secret was made. -/
def Tells (s : ByteArray) (op who n : Int) (a b : ByteArray) : Prop := ok s = true ∧ mOp s = op ∧ mWho s = who ∧ mN s = n ∧ mA s = a ∧ mB s = b

theorem g0_next (s : ByteArray) : g (nextT s) 0 = 110 := by unfold nextT; rw [g_append]; rfl
theorem g0_key (s : ByteArray) : g (keyT s) 0 = 107 := by unfold keyT; rw [g_append]; rfl

theorem made_next {s : ByteArray} (h : ok s = true) (hs : s.size < 300) : Tells (nextT s) 2 0 0 s ⟨#[]⟩ := by
  have z := next_size s
  have hk : ok (nextT s) = true := ok_yes (by omega) (by rw [len_next h]; omega) (len_next h)
  have c := g0_next s
  have e : (nextT s).extract 1 (nextT s).size = s := ext_back ⟨#[110]⟩ s
  unfold Tells mOp mWho mN mA mB
  simp only [if_pos hk, if_pos c, e]
  exact ⟨hk, trivial, trivial, trivial, trivial, trivial⟩
theorem made_key {s : ByteArray} (h : ok s = true) (hs : s.size < 300) : Tells (keyT s) 3 0 0 s ⟨#[]⟩ := by
  have z := key_size s
  have hk : ok (keyT s) = true := ok_yes (by omega) (by rw [len_key h]; omega) (len_key h)
  have c := g0_key s
  have c1 : g (keyT s) 0 ≠ 110 := by omega
  have e : (keyT s).extract 1 (keyT s).size = s := ext_back ⟨#[107]⟩ s
  unfold Tells mOp mWho mN mA mB
  simp only [if_pos hk, if_neg c1, if_pos c, e]
  exact ⟨hk, trivial, trivial, trivial, trivial, trivial⟩
theorem made_epoch {a b : ByteArray} (ha : ok a = true) (hb : ok b = true) (hs : a.size + b.size < 300) : Tells (epochT a b) 4 0 0 a b := by
  obtain ⟨p1, p2, p3, c⟩ := epoch_parts ha hb
  obtain ⟨_, a2, _⟩ := ok_facts ha
  have hk : ok (epochT a b) = true := ok_yes (by omega) (by rw [len_epoch ha hb]; omega) (len_epoch ha hb)
  have c1 : g (epochT a b) 0 ≠ 110 := by omega
  have c2 : g (epochT a b) 0 ≠ 107 := by omega
  have z : (⟨#[101]⟩ ++ a : ByteArray).size = 1 + a.size := by simp [ByteArray.size_append]; rfl
  have e1 : (epochT a b).extract 1 (1 + a.size) = a := by
    have e := ext_front (⟨#[101]⟩ ++ a) b 1 (1 + a.size) (by omega)
    have e' := ext_back ⟨#[101]⟩ a
    rw [z] at e'
    exact e.trans e'
  have e2 : (epochT a b).extract (1 + a.size) (epochT a b).size = b := by
    have e := ext_back (⟨#[101]⟩ ++ a) b
    rw [z] at e
    exact e
  unfold Tells mOp mWho mN mA mB
  simp only [if_pos hk, if_neg c1, if_neg c2, if_pos c, p1, e1, e2]
  exact ⟨hk, trivial, trivial, trivial, trivial, trivial⟩
theorem made_say {s : ByteArray} {who : Nat} (h : ok s = true) (hw : who < 8) (hs : 2 + s.size ≤ 300) : Tells (sayT s who) 5 (who : Int) 0 s ⟨#[]⟩ := by
  obtain ⟨p1, p2, c, p4⟩ := say_parts h hw
  have hk : ok (sayT s who) = true := ok_yes (by omega) (by rw [len_say h hw]; omega) (len_say h hw)
  have c1 : g (sayT s who) 0 ≠ 110 := by omega
  have c2 : g (sayT s who) 0 ≠ 107 := by omega
  have c3 : g (sayT s who) 0 ≠ 101 := by omega
  have z : (⟨#[109]⟩ ++ by1 (65 + who) : ByteArray).size = 2 := by simp [ByteArray.size_append, by1_size]; rfl
  have e : (sayT s who).extract 2 (sayT s who).size = s := by
    have e := ext_back (⟨#[109]⟩ ++ by1 (65 + who)) s
    rw [z] at e
    exact e
  unfold Tells mOp mWho mN mA mB
  simp only [if_pos hk, if_neg c1, if_neg c2, if_neg c3, if_pos c, p4, e]
  exact ⟨hk, trivial, by omega, trivial, trivial, trivial⟩
theorem made_room {s : ByteArray} {room : Nat} (h : ok s = true) (h1 : 1 ≤ room) (hw : room < 10) (hs : 2 + s.size ≤ 300) : Tells (roomT s room) 6 0 (room : Int) s ⟨#[]⟩ := by
  obtain ⟨p1, p2, c, p4⟩ := room_parts h hw
  have hk : ok (roomT s room) = true := ok_yes (by omega) (by rw [len_room h h1 hw]; omega) (len_room h h1 hw)
  have c1 : g (roomT s room) 0 ≠ 110 := by omega
  have c2 : g (roomT s room) 0 ≠ 107 := by omega
  have c3 : g (roomT s room) 0 ≠ 101 := by omega
  have c4 : g (roomT s room) 0 ≠ 109 := by omega
  have z : (⟨#[114]⟩ ++ dec room : ByteArray).size = 2 := by rw [ByteArray.size_append, dec_size, if_pos hw]; rfl
  have e : (roomT s room).extract 2 (roomT s room).size = s := by
    have e := ext_back (⟨#[114]⟩ ++ dec room) s
    rw [z] at e
    exact e
  unfold Tells mOp mWho mN mA mB
  simp only [if_pos hk, if_neg c1, if_neg c2, if_neg c3, if_neg c4, if_pos c, p4, e]
  exact ⟨hk, trivial, trivial, by omega, trivial, trivial⟩

theorem next_inj {s t : ByteArray} (h : nextT s = nextT t) : s = t := by
  have e := ext_back ⟨#[110]⟩ s
  have e' := ext_back ⟨#[110]⟩ t
  have h' : (⟨#[110]⟩ ++ s : ByteArray) = ⟨#[110]⟩ ++ t := h
  rw [h'] at e
  exact e.symm.trans e'
theorem next_key (s : ByteArray) (t : ByteArray) : nextT s ≠ keyT t := by
  intro h
  have h1 := g0_next s
  rw [h, g0_key t] at h1
  omega

theorem epoch_bad {a b : ByteArray} (h : ok a = false ∨ ok b = false ∨ 300 ≤ a.size + b.size) : mkEpoch a b = ⟨#[]⟩ := by
  unfold mkEpoch
  by_cases hc : ok a = true ∧ ok b = true
  · rw [if_pos hc]
    unfold cap
    have := epoch_size a b
    rw [if_neg]
    rcases h with h | h | h
    · rw [hc.1] at h; cases h
    · rw [hc.2] at h; cases h
    · omega
  · rw [if_neg hc]
theorem epoch_good {a b : ByteArray} (ha : ok a = true) (hb : ok b = true) (hs : a.size + b.size < 300) : mkEpoch a b = epochT a b := by
  unfold mkEpoch
  have := epoch_size a b
  rw [if_pos ⟨ha, hb⟩, cap_self (made_epoch ha hb hs).1]
theorem epoch_swap {a b : ByteArray} (ha : ok a = true) (hb : ok b = true) (hs : a.size + b.size < 300) : (mkEpoch b a = epochT a b) ↔ a = b := by
  rw [epoch_good hb ha (by omega)]
  constructor
  · intro h
    have h1 := (made_epoch ha hb hs).2.2.2.2.1
    rw [← h, (made_epoch hb ha (by omega)).2.2.2.2.1] at h1
    exact h1.symm
  · intro h; subst h; rfl

theorem beq_list {x y : ByteArray} : (x.toList == y.toList) = true ↔ x = y := by
  constructor
  · intro h
    have h1 : x.toList = y.toList := by simpa using h
    have h2 := congrArg (fun l => (⟨l.toArray⟩ : ByteArray)) h1
    exact ByteArray.ext (by simpa [ByteArray.toList_eq] using h2)
  · intro h; subst h; simp
theorem beq_beq {x y u v : ByteArray} (h : x = y ↔ u = v) : ((x.toList == y.toList) == (u.toList == v.toList)) = true := by
  have : (x.toList == y.toList) = (u.toList == v.toList) := by
    rw [Bool.eq_iff_iff, beq_list, beq_list]; exact h
  rw [this]; simp

#print axioms made_epoch
#print axioms epoch_swap
end Go.Proofs.YteiojanamkndmaaGreat
