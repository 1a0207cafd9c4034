/-
  The laws' own helpers over one in a group: whether two are the same; marks in one, looked up again.
-/
import Derived.Test.YtkcopldlobomhaaMemT
import Derived.Test.YtkcopldlobomhaaHelpsM
import Derived.Test.YtkcopldlobomhaaHelpsT
namespace Go.Proofs.Ytkcopldlobomhaa
open Go.RowKit

set_option maxRecDepth 100000 in
set_option maxHeartbeats 2000000 in
theorem eqMemMember_same (m : Mem) (ks os ks' os' : Value) (w : World) (h1 : SRow w ks m.keys) (h2 : MRow w os m.own) (h3 : SRow w ks' m.keys) (h4 : MRow w os' m.own) :
    Calls Try.prog 15 #[.agg (m.cells ks os), .agg (m.cells ks' os')] w fun e w' => e = .returned (.bool true) ∧ Below w.heap.size w w' := by
  obtain ⟨inn, who, keys, own, ep, init, tag⟩ := m
  have H1 := hide h1
  have H2 := hide h2
  have H3 := hide h3
  have H4 := hide h4
  obtain ⟨a1, p1, rfl, _, _, _⟩ := h1.form
  obtain ⟨a2, p2, rfl, _, _, _⟩ := h2
  obtain ⟨a3, p3, rfl, _, _, _⟩ := h3.form
  obtain ⟨a4, p4, rfl, _, _, _⟩ := h4
  clear h1 h3
  simp only at H1 H2 H3 H4 ⊢
  generalize hkl : keys.length = kl at *
  generalize hol : own.length = ol at *
  have HBA : Hid (Below w.heap.size w ((w.alloc (.cells (memC inn who (.slice a1 kl p1) (.slice a2 ol p2) ep init tag) 30)).alloc (.cells (memC inn who (.slice a3 kl p3) (.slice a4 ol p4) ep init tag) 30))) := ((Below.refl _ _).alloc (Nat.le_refl _) _).alloc (by simp) _
  have A0 := hide ((Blk.new w 30 (memC inn who (.slice a1 kl p1) (.slice a2 ol p2) ep init tag)).alloc (.cells (memC inn who (.slice a3 kl p3) (.slice a4 ol p4) ep init tag) 30))
  have b0 := Blk.new (w.alloc (.cells (memC inn who (.slice a1 kl p1) (.slice a2 ol p2) ep init tag) 30)) 30 (memC inn who (.slice a3 kl p3) (.slice a4 ol p4) ep init tag)
  rw [World.size_alloc] at b0
  have B0 := hide b0
  clear b0
  go_enter Try.func15, Try.ntmps15
  cases inn with
  | true => _
  | false => _
  all_goals
    go_wp2_with fail
    refine (eqTreTree_any _ _ keys keys _ (((unhide H1).alloc _).alloc _) (((unhide H3).alloc _).alloc _)).mono ?_
    rw [show decide (keys = keys) = true by simp]
    rintro e w1 ⟨rfl, hb1⟩
    have A1 := hide ((unhide A0).below hb1)
    have B1 := hide ((unhide B0).below hb1)
    have HB1 := hide (HBA.out.trans (hb1.mono HBA.out.size))
    have c1 := (unhide A1).cell 3
    have c2 := (unhide B1).cell 3
    simp only [List.getElem?_toArray, List.getElem?_cons_succ, List.getElem?_cons_zero] at c1 c2
    clear hb1 A0 B0 HBA
    go_wp2_with fail
    refine (eqMemOwnS_same _ _ own _ ((unhide H2).below (unhide HB1)) ((unhide H4).below (unhide HB1))).mono ?_
    rintro e w2 ⟨rfl, hb2⟩
    have A2 := hide ((unhide A1).below hb2)
    have B2 := hide ((unhide B1).below hb2)
    have HB2 := hide (HB1.out.trans (hb2.mono HB1.out.size))
    have c3 := (unhide A2).cell 4
    have c4 := (unhide B2).cell 4
    have c5 := (unhide A2).cell 5
    have c6 := (unhide B2).cell 5
    have c7 := (unhide A2).cell 6
    have c8 := (unhide B2).cell 6
    simp only [List.getElem?_toArray, List.getElem?_cons_succ, List.getElem?_cons_zero] at c3 c4 c5 c6 c7 c8
    clear hb2 A1 B1 HB1 c1 c2
    go_wp2_with fail
    go_ret
    exact ⟨rfl, unhide HB2⟩

set_option maxRecDepth 100000 in
set_option maxHeartbeats 2000000 in
theorem markMemMember_any (B : Nat) (m : Mem) (ks os : Value) (k : Nat) (w : World) (h1 : Own B w ks m.keys) (h2 : OwnM B w os m.own) (hk : 0 < k) (hk2 : k ≤ 100000) (hl : m.keys.length ≤ 1000) (hl2 : m.own.length ≤ 1000) :
    Calls Try.prog 16 #[.agg (m.cells ks os), .int .i64 (k : Int)] w fun e w' => e = .returned (.int .i64 ((k + m.keys.length + 2 * m.own.length : Nat) : Int)) ∧ Own B w' ks (marks k m.keys.length) ∧ OwnM B w' os (mmarks (k + m.keys.length) m.own.length) ∧ w.heap.size ≤ w'.heap.size ∧ ∃ u, w.grownBy u ks.ownBlock ∧ u.grownBy w' os.ownBlock := by
  obtain ⟨inn, who, keys, own, ep, init, tag⟩ := m
  have H1 := hide h1
  have H2 := hide h2
  obtain ⟨a1, p1, hv1⟩ := row_form' h1
  obtain ⟨a2, p2, hv2⟩ := row_form' h2
  subst hv1 hv2
  clear h1 h2
  simp only at H1 H2 hl hl2 ⊢
  have A0 := hide (Blk.new w 30 (memC inn who (.slice a1 keys.length p1) (.slice a2 own.length p2) ep init tag))
  have O0 := hide (Own.below (unhide H1) ((Below.refl w.heap.size w).alloc (Nat.le_refl _) (.cells (memC inn who (.slice a1 keys.length p1) (.slice a2 own.length p2) ep init tag) 30)))
  have M0 := hide (own_below' (unhide H2) ((Below.refl w.heap.size w).alloc (Nat.le_refl _) (.cells (memC inn who (.slice a1 keys.length p1) (.slice a2 own.length p2) ep init tag) 30)))
  have G0 := hide (World.grownBy_alloc w (.cells (memC inn who (.slice a1 keys.length p1) (.slice a2 own.length p2) ep init tag) 30) (Value.slice a1 keys.length p1).ownBlock)
  go_enter Try.func16, Try.ntmps16
  go_wp2_with fail
  refine (markTreTree_any B _ keys k _ (unhide O0) hk (by omega) (by omega)).mono ?_
  rintro e w1 ⟨rfl, ho1, hg1⟩
  have A1 := hide ((unhide A0).kept hg1 (Blk.not_row (unhide A0) (by decide) (unhide O0)))
  have M1 := hide (World.ownsRow.kept (unhide M0) hg1 (row_apart (unhide M0) (unhide O0) (by decide)))
  have O1 := hide ho1
  have G1 := hide ((unhide G0).trans hg1)
  have c1 := (unhide A1).cell 3
  simp only [List.getElem?_toArray, List.getElem?_cons_succ, List.getElem?_cons_zero] at c1
  clear ho1 hg1 A0 M0 O0 G0
  go_wp2_with fail
  refine (markMemOwnS_any B _ own (k + keys.length) _ (unhide M1) (by omega) (by omega) (by omega)).mono ?_
  rintro e w2 ⟨rfl, ho2, hg2⟩
  have hap := row_apart (unhide O1) (unhide M1) (by decide)
  have O2 : Hid (Own B w2 (.slice a1 keys.length p1) (marks k keys.length)) := World.ownsRow.kept (unhide O1) hg2 (by rcases hap with q | q; exact .inl q; exact .inr q)
  have M2 := hide ho2
  have G2 := hide hg2
  clear ho2 hg2 hap M1 O1 A1 c1
  go_wp2_with fail
  go_ret
  exact ⟨rfl, unhide O2, unhide M2, Nat.le_trans G1.out.size G2.out.size, _, unhide G1, unhide G2⟩

set_option maxRecDepth 100000 in
set_option maxHeartbeats 2000000 in
theorem heldMemMember_any (inn : Bool) (who ep : Int) (init tag : ByteArray) (n n' : Nat) (ks os : Value) (k : Nat) (w : World) (h1 : SRow w ks (marks k n)) (h2 : MRow w os (mmarks (k + n) n')) (hk : 0 < k) (hk2 : k ≤ 100000) (hl : n ≤ 1000) (hl2 : n' ≤ 1000) :
    Calls Try.prog 17 #[.agg (memC inn who ks os ep init tag), .int .i64 (k : Int)] w fun e w' => e = .returned (.int .i64 ((k + n + 2 * n' : Nat) : Int)) ∧ Below w.heap.size w w' := by
  have H1 := hide h1
  have H2 := hide h2
  obtain ⟨a1, p1, rfl, _, _, _⟩ := h1.form
  obtain ⟨a2, p2, rfl, _, _, _⟩ := h2
  rw [marks_len] at H1 ⊢
  rw [mmarks_len] at H2 ⊢
  clear h1
  have A0 := hide (Blk.new w 30 (memC inn who (.slice a1 n p1) (.slice a2 n' p2) ep init tag))
  have HB0 : Hid (Below w.heap.size w (w.alloc (.cells (memC inn who (.slice a1 n p1) (.slice a2 n' p2) ep init tag) 30))) := (Below.refl _ _).alloc (Nat.le_refl _) _
  go_enter Try.func17, Try.ntmps17
  go_wp2_with fail
  refine (heldTreTree_any _ n k _ ((unhide H1).alloc _) hk (by omega) (by omega)).mono ?_
  rintro e w1 ⟨rfl, hb1⟩
  have A1 := hide ((unhide A0).below hb1)
  have HB1 := hide (HB0.out.trans (hb1.mono HB0.out.size))
  have c1 := (unhide A1).cell 3
  simp only [List.getElem?_toArray, List.getElem?_cons_succ, List.getElem?_cons_zero] at c1
  clear hb1 A0 HB0
  obtain ⟨z, hz⟩ : ∃ z : Nat, z = k + n := ⟨_, rfl⟩
  rw [← hz] at H2 ⊢
  have hz0 : decide ((z : Int) < 0) = false := by simp
  have hz1 : 0 < z ∧ z ≤ 200000 := by omega
  have HZ := hide hz
  clear hz
  go_wp2_with fail
  refine (heldMemOwnS_any _ n' z _ ((unhide H2).below (unhide HB1)) hz1.1 (by omega) (by omega)).mono ?_
  rintro e w2 ⟨rfl, hb2⟩
  have HB2 := hide (HB1.out.trans (hb2.mono HB1.out.size))
  clear hb2 A1 HB1 c1
  obtain ⟨y, hy⟩ : ∃ y : Nat, y = z + 2 * n' := ⟨_, rfl⟩
  rw [← hy]
  have hy0 : decide ((y : Int) < 0) = false := by simp
  have HY := hide hy
  clear hy
  go_wp2_with fail
  go_ret
  exact ⟨congrArg (fun (t : Nat) => Ending.returned (.int .i64 (t : Int))) (by have := HY.out; have := HZ.out; omega), unhide HB2⟩
#print axioms heldMemMember_any
end Go.Proofs.Ytkcopldlobomhaa
