/-
 The specification's l7Hear.
-/
import Derived.Test.YtdfpeaenbmgihaaGreatFnTagHasB1
import Derived.Test.YtdfpeaenbmgihaaGreatFnTagHasB4
import Derived.Test.YtdfpeaenbmgihaaGreatFnTagHasB5
import Derived.Test.YtdfpeaenbmgihaaGreatRows
import Derived.WalkKit
import Derived.Orders
import Derived.Test.YtdfpeaenbmgihaaGreatFnTagHasB3
import Derived.Test.YtdfpeaenbmgihaaGreatFnTagHasB2
namespace Go.Proofs.YtdfpeaenbmgihaaGreat
open Go.RowKit
set_option maxRecDepth 100000 in
set_option maxHeartbeats 16000000 in
theorem l7Hear_any (X L : List Nat) (B : Nat) (s0 s1 s2 s3 s4 s5 s6 s7 s8 s9 : Value) (W : Wld) (k z : Nat) (w : World) (q : Rows X L B w (rowsOf s0 s1 s2 s3 s4 s5 s6 s7 s8 s9 W)) (hB : B ≤ w.heap.size) (hk : k < 8) (hs : W.seats.length = 8) (hz : z < W.log.length)
 (hm : MemZ (W.seats.getD k Mem.none)) (hc : CmtZ (W.log.getD z Cmt.none)) :
 Calls Tryz.prog 29 #[.agg (wldC s0 s1 s2 s3 s4 s5 s6 s7 s8 s9), .int .i64 (k : Int), .int .i64 (z : Int)] w fun e w' => ∃ X', e = .returned (.agg (wldC s0 s1 s2 s3 s4 s5 s6 s7 s8 s9)) ∧ Rows X' L B w' (rowsOf s0 s1 s2 s3 s4 s5 s6 s7 s8 s9 (hearW W k z)) ∧ KeepR (rowsOf s0 s1 s2 s3 s4 s5 s6 s7 s8 s9 W) w w' := by
 have HE : Hid (hearW W k z = _) := hearW_eq W k z; obtain ⟨ga, ca, _, _, rfl, -, -, -⟩ := q.seat k (by omega)
 have hgc : ∃ gc cc, s2 = .slice (some ⟨gc, 0, none⟩) W.log.length cc := by
  obtain ⟨cs, h1, _⟩ := q.own _ (List.mem_of_getElem? (i := 2) rfl); obtain ⟨g, c, e, _⟩ := row_some h1 (by show 0 < W.log.length; omega); exact ⟨g, c, e⟩
 obtain ⟨gc, cc, rfl⟩ := hgc; obtain ⟨m, hme⟩ : ∃ x, W.seats.getD k Mem.none = x := ⟨_, rfl⟩; obtain ⟨c, hce⟩ : ∃ x, W.log.getD z Cmt.none = x := ⟨_, rfl⟩; obtain ⟨hx, hhx⟩ : ∃ x, hearX m c = x := ⟨_, rfl⟩; obtain ⟨hy, hhy⟩ : ∃ x, hearY m c = x := ⟨_, rfl⟩; rw [hme, hce, hhx, hhy] at HE; rw [hme] at hm; rw [hce] at hc; have HMZ : Hid (m.keys.length ≤ 1000 ∧ m.own.length ≤ 100 ∧ (∀ x ∈ m.keys, x.size ≤ maxLen) ∧ (∀ o ∈ m.own, o.2.size ≤ maxLen) ∧ m.init.size ≤ maxLen ∧ m.tag.size ≤ maxLen) := hm; have HCZ : Hid ((∀ x ∈ c.keys, x.size ≤ maxLen) ∧ (∀ b ∈ c.boxes, b.1.size ≤ maxLen ∧ b.2.size ≤ maxLen) ∧ c.name.size ≤ 2000000 ∧ c.tag.size ≤ 2000000 ∧ c.leaf.size ≤ maxLen ∧ c.wel.key.size ≤ maxLen ∧ c.wel.is.size ≤ maxLen ∧ c.wel.ss.size ≤ maxLen) := hc; have HB0 := hide hB; have HW := hide q; obtain ⟨cl, hcl⟩ : ∃ x, W.log.length = x := ⟨_, rfl⟩; (have hzc : (z : Int) < (cl : Int) := by omega); have HKS : Hid (k < W.seats.length ∧ z < W.log.length) := ⟨by omega, hz⟩; have HME := hide hme; have HCE := hide hce; have HHX := hide hhx; have HHY := hide hhy; (have hkk : (k : Int) < 8 := by omega); obtain ⟨x1, x2, xk, xo, x3, x4, x5⟩ := hx; obtain ⟨xl, hxl⟩ : ∃ n, xk.length = n := ⟨_, rfl⟩; obtain ⟨ol, hol⟩ : ∃ n, xo.length = n := ⟨_, rfl⟩; have HXL := hide hxl; have HOL := hide hol; simp only [hs, hcl] at HW ⊢; clear q hB hk hs hz hm hc hme hce hhx hhy hcl hxl hol; have HB : Hid (Below B w w) := Below.refl _ _; have HR : Hid (KeepR (rowsOf (.slice (some ⟨ga, 0, none⟩) 8 ca) s1 (.slice (some ⟨gc, 0, none⟩) cl cc) s3 s4 s5 s6 s7 s8 s9 W) w w) := KeepR.refl _ _; have HN : Hid (True) := trivial
 go_enter Tryz.func29, Tryz.ntmps29
 repeat ((fail_if_success (refine pl_id ?_)); go_step)
 refine w_i ?_; refine w_a (wldC (.slice (some ⟨ga, 0, none⟩) 8 ca) s1 (.slice (some ⟨gc, 0, none⟩) cl cc) s3 s4 s5 s6 s7 s8 s9) 41 (fun bA wc A hb hbn => ?_); refine cy1 HR ?_; (try clear HR); intro HR; obtain ⟨X2, HW2, hm2⟩ := HW.out.more2 hb hbn; replace HW := hide HW2; clear HW2 hm2; refine cy2 HB HN ?_; (try clear HB HN); intro HB HN; clear hb hbn; refine w_a noWld 41 (fun bR wc R hb hbn => ?_); refine cy2 A HR ?_; (try clear A HR); intro A HR; obtain ⟨X2, HW2, hm2⟩ := HW.out.more2 hb hbn; replace HW := hide HW2; clear HW2 hm2; refine cy2 HB HN ?_; (try clear HB HN); intro HB HN; clear hb hbn; refine w_e ?_; obtain ⟨B9, hB9⟩ : ∃ n, n = wc.heap.size := ⟨_, rfl⟩; have hsz := hB9; have hsz2 := HR.out.1
 replace HN : Hid (w.heap.size ≤ bA ∧ bA < bR ∧ bR < wc.heap.size ∧ B9 ≤ wc.heap.size ∧ wc.heap.size ≤ B9) := by
  have q := HN.out; have q2 := hsz; have q3 := hsz2; refine hide ?_
  omega
 clear hsz hsz2 hB9; obtain ⟨z1, y1, z2, y2, hs1, hs2, hs3⟩ := HW.out.seatAt HKS.out.1 HME.out; have HS := hide hs1; have HSK := hide hs2; have HSO := hide hs3; clear hs1 hs2 hs3; obtain ⟨u1, v1, u2, v2, hs1, hs2, hs3⟩ := HW.out.logAt HKS.out.2 HCE.out; have HC := hide hs1; have HCK := hide hs2; have HCB := hide hs3; clear hs1 hs2 hs3
 repeat go_step
 apply join6 (α0 := List Nat) (α1 := Option Addr) (α2 := Nat) (α3 := Option Addr) (α4 := Nat) (α5 := Nat)
 · skip
   refine r_g (Below (B9)) (fun wc hb hsq => ?_); refine cy12 A R HS HC HSK HSO HCK HCB HR HW HB HN ?_; (try clear A R HS HC HSK HSO HCK HCB HR HW HB HN); intro A R HS HC HSK HSO HCK HCB HR HW HB HN; clear hb hsq; refine r_q 0 ?_; refine r_b 1 A 0 ?_; refine r_q2 2 3 ?_; refine r_q 4 ?_ (h := by intro w' hw'; replace hw' := hw'.mono (show wc.heap.size ≤ B9 by have q := HN.out; omega); have x0 : w'.cell? ⟨ga, k * 7, none⟩ = some (.bool m.inn) := (hw'.cell (cell_lt (HS.out 0 _ rfl))).trans (HS.out 0 _ rfl); have x1 := (hw'.cell (cell_lt (HS.out 1 _ rfl))).trans (HS.out 1 _ rfl); have x2 := (hw'.cell (cell_lt (HS.out 2 _ rfl))).trans (HS.out 2 _ rfl); have x3 := (hw'.cell (cell_lt (HS.out 3 _ rfl))).trans (HS.out 3 _ rfl); have x4 := (hw'.cell (cell_lt (HS.out 4 _ rfl))).trans (HS.out 4 _ rfl); have x5 := (hw'.cell (cell_lt (HS.out 5 _ rfl))).trans (HS.out 5 _ rfl); have x6 := (hw'.cell (cell_lt (HS.out 6 _ rfl))).trans (HS.out 6 _ rfl); go_simp; all_goals rfl); refine r_q 5 ?_; refine r_b 6 A 2 ?_; refine r_q2 7 8 ?_; refine r_q 9 ?_ (h := by intro w' hw'; replace hw' := hw'.mono (show wc.heap.size ≤ B9 by have q := HN.out; omega); have x0 : w'.cell? ⟨gc, z * 13, none⟩ = some (.int .i64 c.sender) := (hw'.cell (cell_lt (HC.out 0 _ rfl))).trans (HC.out 0 _ rfl); have x1 := (hw'.cell (cell_lt (HC.out 1 _ rfl))).trans (HC.out 1 _ rfl); have x2 := (hw'.cell (cell_lt (HC.out 2 _ rfl))).trans (HC.out 2 _ rfl); have x3 := (hw'.cell (cell_lt (HC.out 3 _ rfl))).trans (HC.out 3 _ rfl); have x4 := (hw'.cell (cell_lt (HC.out 4 _ rfl))).trans (HC.out 4 _ rfl); have x5 := (hw'.cell (cell_lt (HC.out 5 _ rfl))).trans (HC.out 5 _ rfl); have x6 := (hw'.cell (cell_lt (HC.out 6 _ rfl))).trans (HC.out 6 _ rfl); have x7 := (hw'.cell (cell_lt (HC.out 7 _ rfl))).trans (HC.out 7 _ rfl); have x8 := (hw'.cell (cell_lt (HC.out 8 _ rfl))).trans (HC.out 8 _ rfl); have x9 := (hw'.cell (cell_lt (HC.out 9 _ rfl))).trans (HC.out 9 _ rfl); have x10 := (hw'.cell (cell_lt (HC.out 10 _ rfl))).trans (HC.out 10 _ rfl); have x11 := (hw'.cell (cell_lt (HC.out 11 _ rfl))).trans (HC.out 11 _ rfl); have x12 := (hw'.cell (cell_lt (HC.out 12 _ rfl))).trans (HC.out 12 _ rfl); go_simp; all_goals rfl); refine r_2 10 14 (fun K hK => ?_) (fun K hK => ?_)
   · go_simp
     refine (sMemHear_any m _ _ c _ _ _ HSK.out HSO.out.mrow HSO.out.mnews HCK.out HCB.out.brow HMZ.out.1 HMZ.out.2.1 HMZ.out.2.2.1 HMZ.out.2.2.2.1 HMZ.out.2.2.2.2.1 HMZ.out.2.2.2.2.2 HCZ.out).mono ?_; rw [HHX.out, HHY.out]; rintro e wc ⟨ks1, os1, rfl, q1, q2, hb⟩; unfold Own at q1; unfold OwnM at q2; simp only at q1 q2 ⊢; rw [HXL.out] at q1; rw [HOL.out] at q2; have IX1 := hide (HW.out.fresh q1); have IX2 := hide (HW.out.fresh q2); obtain ⟨k1, kc1, rfl⟩ := row_form' q1; obtain ⟨o1, oc1, rfl⟩ := row_form' q2; have K1 := hide q1; have K2 := hide q2; have K1 := hide (row_lowB (B' := 0) q1 (Nat.zero_le _)); have K2 := hide (row_lowB (B' := 0) q2 (Nat.zero_le _)); clear q1 q2; go_simp; refine sr hK ?_; clear hK; refine cy12 A R HS HC HSK HSO HCK HCB HR HW HB HN ?_; (try clear A R HS HC HSK HSO HCK HCB HR HW HB HN); intro A R HS HC HSK HSO HCK HCB HR HW HB HN; clear hb; refine r_q3 11 12 13 ?_; refine r_1 14 (fun K hK => ?_); refine op_al noMem 62 (fun bX wc X hb hbn => ?_); refine sr hK ?_; clear hK; refine cy11 A R K1 K2 HS HC HSK HSO HCK HCB HR ?_; (try clear A R K1 K2 HS HC HSK HSO HCK HCB HR); intro A R K1 K2 HS HC HSK HSO HCK HCB HR; obtain ⟨X2, HW2, hm2⟩ := HW.out.more2 hb hbn; refine cx2 IX1 IX2 ?_; (try clear IX1 IX2); intro IX1 IX2; replace HW := hide HW2; clear HW2 hm2; refine cy2 HB HN ?_; (try clear HB HN); intro HB HN; clear hb hbn; refine r_1 15 (fun K hK => ?_); clear HS HC HSK HSO HCK HCB; refine op_rw X (memC x1 x2 (.slice k1 xl kc1) (.slice o1 ol oc1) x3 x4 x5) ?_; (try clear X); intro wc OLD X hg hs; refine sr hK ?_ (r := ((Below.refl _ _).grown hg (by have q := HN.out; omega) (fun k hk => by cases hk; have q := HN.out; omega))); clear hK; refine gy4 A R K1 K2 ?_; (try clear A R K1 K2); intro A R K1 K2; refine gx2 IX1 IX2 ?_; (try clear IX1 IX2); intro IX1 IX2; refine gy4 HR HW HB HN ?_; (try clear HR HW HB HN); intro HR HW HB HN; clear hg hs OLD; refine r_q 16 ?_; refine r_e ?_
     replace HN : Hid (w.heap.size ≤ bA ∧ bA < bR ∧ bR < B9 ∧ B9 ≤ bX ∧ bX < wc.heap.size) := by
      have q := HN.out; refine hide ?_
      omega
     exact jq6 (x0 := X2) (x1 := k1) (x2 := kc1) (x3 := o1) (x4 := oc1) (x5 := bX) rfl (aj A (aj R (aj X (aj K1 (aj K2 (aj HR (aj HW (aj IX1 (aj IX2 (aj HN HB))))))))))
   · refine op_al noMem 62 (fun bX wc X hb hbn => ?_); refine sr hK ?_; clear hK; refine cy9 A R HS HC HSK HSO HCK HCB HR ?_; (try clear A R HS HC HSK HSO HCK HCB HR); intro A R HS HC HSK HSO HCK HCB HR; obtain ⟨X2, HW2, hm2⟩ := HW.out.more2 hb hbn; replace HW := hide HW2; clear HW2 hm2; refine cy2 HB HN ?_; (try clear HB HN); intro HB HN; clear hb hbn; refine r_k 10 (sMemHear_any m _ _ c _ _ _ HSK.out HSO.out.mrow HSO.out.mnews HCK.out HCB.out.brow HMZ.out.1 HMZ.out.2.1 HMZ.out.2.2.1 HMZ.out.2.2.2.1 HMZ.out.2.2.2.2.1 HMZ.out.2.2.2.2.2 HCZ.out) ?_; rw [HHX.out, HHY.out]; rintro e wc ⟨ks1, os1, rfl, q1, q2, hb⟩; unfold Own at q1; unfold OwnM at q2; simp only at q1 q2 ⊢; rw [HXL.out] at q1; rw [HOL.out] at q2; have IX1 := hide (HW.out.fresh q1); have IX2 := hide (HW.out.fresh q2); obtain ⟨k1, kc1, rfl⟩ := row_form' q1; obtain ⟨o1, oc1, rfl⟩ := row_form' q2; have K1 := hide q1; have K2 := hide q2; have K1 := hide (row_lowB (B' := 0) q1 (Nat.zero_le _)); have K2 := hide (row_lowB (B' := 0) q2 (Nat.zero_le _)); clear q1 q2; refine s_r ?_; refine cy12 A R X HS HC HSK HSO HCK HCB HR HW HB ?_; (try clear A R X HS HC HSK HSO HCK HCB HR HW HB); intro A R X HS HC HSK HSO HCK HCB HR HW HB; refine cy1 HN ?_; (try clear HN); intro HN; clear hb; refine r_q3 11 12 13 ?_; refine r_1 15 (fun K hK => ?_); clear HS HC HSK HSO HCK HCB; refine op_rw X (memC x1 x2 (.slice k1 xl kc1) (.slice o1 ol oc1) x3 x4 x5) ?_; (try clear X); intro wc OLD X hg hs; refine sr hK ?_ (r := ((Below.refl _ _).grown hg (by have q := HN.out; omega) (fun k hk => by cases hk; have q := HN.out; omega))); clear hK; refine gy4 A R K1 K2 ?_; (try clear A R K1 K2); intro A R K1 K2; refine gx2 IX1 IX2 ?_; (try clear IX1 IX2); intro IX1 IX2; refine gy4 HR HW HB HN ?_; (try clear HR HW HB HN); intro HR HW HB HN; clear hg hs OLD; refine r_q 16 ?_; refine r_e ?_
     replace HN : Hid (w.heap.size ≤ bA ∧ bA < bR ∧ bR < B9 ∧ B9 ≤ bX ∧ bX < wc.heap.size) := by
      have q := HN.out; refine hide ?_
      omega
     exact jq6 (x0 := X2) (x1 := k1) (x2 := kc1) (x3 := o1) (x4 := oc1) (x5 := bX) rfl (aj A (aj R (aj X (aj K1 (aj K2 (aj HR (aj HW (aj IX1 (aj IX2 (aj HN HB))))))))))
 rintro X2 k1 kc1 o1 oc1 bX wc ⟨A, R, X, K1, K2, HR, HW, IX1, IX2, HN, HB⟩
 cases hy with
 | false =>
  (have HF : Hid (hearW W k z = W) := by show _ = _; rw [HE.out]; rfl)
  repeat ((fail_if_success (refine pl_id ?_)); go_step)
  refine w_i ?_; refine w_q ?_; refine w_e ?_
  repeat ((fail_if_success (refine pl_id ?_)); go_step)
  refine w_i ?_; refine w_c A ?_; refine w_s R (wldC (.slice (some ⟨ga, 0, none⟩) 8 ca) s1 (.slice (some ⟨gc, 0, none⟩) cl cc) s3 s4 s5 s6 s7 s8 s9) ?_; (try clear R); intro wc OLD R hg hs; refine gy4 A X K1 K2 ?_; (try clear A X K1 K2); intro A X K1 K2; refine gx2 IX1 IX2 ?_; (try clear IX1 IX2); intro IX1 IX2; refine gy4 HR HW HB HN ?_; (try clear HR HW HB HN); intro HR HW HB HN; clear hg hs OLD; refine w_e ?_; have l1 := load_wld R.out rfl; (go_wp2_with fail); refine bodyPost_ret (v := .agg (wldC (.slice (some ⟨ga, 0, none⟩) 8 ca) s1 (.slice (some ⟨gc, 0, none⟩) cl cc) s3 s4 s5 s6 s7 s8 s9)) (results_cell rfl rfl l1) rfl ?_; rw [HF.out]; exact ⟨_, rfl, HW.out.less (by simp +contextual), unhide HR⟩
 | true =>
  simp only [if_true] at HE
  repeat ((fail_if_success (refine pl_id ?_)); go_step)
  refine w_i ?_; refine w_q ?_; refine w_e ?_
  repeat ((fail_if_success (refine pl_id ?_)); go_step)
  refine w_i ?_; refine w_q ?_; refine w_b A 0 ?_; refine w_q ?_; refine w_c X ?_; refine w_q ?_; refine w_1 (fun K hK => ?_); obtain ⟨hgB, hth, ht⟩ := HW.out.setSeat HKS.out.1; obtain ⟨hg, X4, HW2, -⟩ := ht ⟨x1, x2, xk, xo, x3, x4, x5⟩ _ _ (srow_of K1.out HXL.out) (rowR_of K2.out HOL.out) IX1.out IX2.out; refine Go.wp_store_mid 62 (.tmp 28) (.tmp 27) rfl ga (k * 7) (memC x1 x2 (.slice k1 xl kc1) (.slice o1 ol oc1) x3 x4 x5) rfl rfl hth info_mm (one_mm _ _ _ _ _ _ _ _ _ _ _) ?_; refine hK.out _ _ ?_; clear hK hth ht; generalize wc.setCells ga (k * 7) ((memC x1 x2 (.slice k1 xl kc1) (.slice o1 ol oc1) x3 x4 x5)).toList = wc at *; refine gy3 A R X ?_; (try clear A R X); intro A R X; replace HR := hide (HR.out.row hg (fun z hz => .inr ⟨_, List.mem_of_getElem? (i := 0) rfl, hz⟩)); replace HB := hide (below_grown HB.out hg (by have q := HN.out; have q2 := HB0.out; omega) hgB); have hsz := hg.size; replace HN := hide (And.intro HN.out hsz); clear hsz hg hgB K1 K2 IX1 IX2; rw [← HE.out] at HW2; replace HW := hide HW2; clear HW2; (try simp only [Act.put]); refine w_e ?_
  repeat ((fail_if_success (refine pl_id ?_)); go_step)
  refine w_i ?_; refine w_c A ?_; refine w_s R (wldC (.slice (some ⟨ga, 0, none⟩) 8 ca) s1 (.slice (some ⟨gc, 0, none⟩) cl cc) s3 s4 s5 s6 s7 s8 s9) ?_; (try clear R); intro wc OLD R hg hs; refine gy6 A X HR HW HB HN ?_; (try clear A X HR HW HB HN); intro A X HR HW HB HN; clear hg hs OLD; refine w_e ?_; have l1 := load_wld R.out rfl; (go_wp2_with fail); refine bodyPost_ret (v := .agg (wldC (.slice (some ⟨ga, 0, none⟩) 8 ca) s1 (.slice (some ⟨gc, 0, none⟩) cl cc) s3 s4 s5 s6 s7 s8 s9)) (results_cell rfl rfl l1) rfl ?_; exact ⟨_, rfl, HW.out.less (by simp +contextual), unhide HR⟩
theorem Rows.growL {X L : List Nat} {B : Nat} {w w' : World} {rs : List RowD} (h : Rows X L B w rs) {v v' : Value} (hv : ∀ b, v.ownBlock = some b → b ∈ L) (hg : w.grownBy w' v.ownBlock) (hat : v'.ownBlock = v.ownBlock ∨ v'.ownBlock = some w.heap.size) (hlt : ∀ b, v'.ownBlock = some b → b < w'.heap.size) :
    ∃ X' L', Rows X' L' B w' rs ∧ MoreX X X' w ∧ (∀ b ∈ L, b ∈ L') ∧ ∀ b, v'.ownBlock = some b → b ∈ L' := by
  have hk : KeepX X w w' := KeepX.grown hg (fun b hb => (h.loc b (hv b hb)).1)
  have hown : ∀ r ∈ rs, ∃ cs, w'.ownsRow B r.e r.size r.v r.n cs ∧ r.P X w cs := fun r hr => by
    obtain ⟨cs, h1, h2⟩ := h.own r hr
    refine ⟨cs, h1.kept hg ?_, h2⟩
    by_cases z : v.ownBlock = Option.none
    · rw [z]
      by_cases y : r.v.ownBlock = Option.none
      · exact .inl y
      · exact .inr y
    · obtain ⟨b, hb⟩ := Option.ne_none_iff_exists'.1 z
      rw [hb]
      exact .inr ((h.loc b (hv b hb)).2 r hr)
  rcases hat with e | e
  · exact ⟨X, L, ⟨h.loc, fun b hb => Nat.lt_of_lt_of_le (h.lt b hb) hg.size, h.inx, h.st, fun r hr => by
      obtain ⟨cs, h1, h2⟩ := hown r hr
      exact ⟨cs, h1, h.st r hr X X w w' cs hk (MoreX.refl _ _) h2⟩, h.apart⟩, MoreX.refl _ _, fun b hb => hb, fun b hb => hv b (by rw [← e]; exact hb)⟩
  · have hm : MoreX X (w.heap.size :: X) w := fun z hz => by
      rcases List.mem_cons.1 hz with rfl | hz
      · exact .inr (Nat.le_refl _)
      · exact .inl hz
    refine ⟨w.heap.size :: X, w.heap.size :: L, ⟨fun z hz => ?_, fun z hz => ?_, fun r hr z hz => List.mem_cons_of_mem _ (h.inx r hr z hz), h.st, fun r hr => ?_, h.apart⟩, hm, fun b hb => List.mem_cons_of_mem _ hb, fun b hb => by rw [e] at hb; cases hb; exact List.mem_cons_self⟩
    · rcases List.mem_cons.1 hz with rfl | hz
      · refine ⟨List.mem_cons_self, fun r hr q => ?_⟩
        have := h.lt _ (h.inx r hr _ q)
        omega
      · exact ⟨List.mem_cons_of_mem _ (h.loc z hz).1, (h.loc z hz).2⟩
    · rcases List.mem_cons.1 hz with rfl | hz
      · exact hlt _ e
      · exact Nat.lt_of_lt_of_le (h.lt z hz) hg.size
    · obtain ⟨cs, h1, h2⟩ := hown r hr
      exact ⟨cs, h1, h.st r hr X (w.heap.size :: X) w w' cs hk hm h2⟩
theorem Rows.swap {X L L' : List Nat} {B : Nat} {w : World} {rs : List RowD} (h : Rows X L B w rs) (i : Nat) (r' : RowD) {cs : List Value} (ho : w.ownsRow B r'.e r'.size r'.v r'.n cs) (hst : Stays r'.P) (hloc : ∀ b, r'.v.ownBlock = some b → b ∈ L) (hl : ∀ b ∈ L', b ∈ L ∧ r'.v.ownBlock ≠ some b) (hP : r'.P X w cs) : Rows X L' B w (rs.set i r') := by
 have hnew : ∀ r ∈ rs, r.v.ownBlock = Option.none ∨ r.v.ownBlock ≠ r'.v.ownBlock := fun r hr => by
  by_cases z : r'.v.ownBlock = Option.none
  · rw [z]; by_cases y : r.v.ownBlock = Option.none
    · exact .inl y
    · exact .inr y
  · obtain ⟨b, hb⟩ := Option.ne_none_iff_exists'.1 z; rw [hb]; exact .inr ((h.loc b (hloc b hb)).2 r hr)
 refine ⟨fun b hb => ⟨(h.loc b (hl b hb).1).1, fun r hr => ?_⟩, h.lt, fun r hr b hb => ?_, fun r hr => ?_, fun r hr => ?_, ?_⟩
 · obtain ⟨j, hj, rfl⟩ := List.getElem_of_mem hr; rw [List.length_set] at hj; rw [List.getElem_set]; split
   · exact (hl b hb).2
   · exact (h.loc b (hl b hb).1).2 _ (List.getElem_mem hj)
 · obtain ⟨j, hj, rfl⟩ := List.getElem_of_mem hr; rw [List.length_set] at hj; rw [List.getElem_set] at hb; split at hb
   · exact (h.loc b (hloc b hb)).1
   · exact h.inx _ (List.getElem_mem hj) b hb
 · obtain ⟨j, hj, rfl⟩ := List.getElem_of_mem hr; rw [List.length_set] at hj; rw [List.getElem_set]; split
   · exact hst
   · exact h.st _ (List.getElem_mem hj)
 · obtain ⟨j, hj, rfl⟩ := List.getElem_of_mem hr; rw [List.length_set] at hj; rw [List.getElem_set]; split
   · exact ⟨cs, ho, hP⟩
   · exact h.own _ (List.getElem_mem hj)
 · rw [List.pairwise_iff_getElem]; intro j k hj hk2 hjk; rw [List.length_set] at hj hk2; rw [List.getElem_set, List.getElem_set]; split
   · rename_i e1; subst e1; rw [if_neg (by omega)]; rcases hnew _ (List.getElem_mem hk2) with e | e
     · by_cases z : r'.v.ownBlock = Option.none
       · exact .inl z
       · exact .inr (fun q => z (q.trans e))
     · exact .inr (fun q => e q.symm)
   · split
     · rename_i e1 e2; subst e2; exact hnew _ (List.getElem_mem hj)
     · exact List.pairwise_iff_getElem.1 h.apart j k hj hk2 hjk
def goneW (W : Wld) (z : Nat) : Wld := { W with waits := W.waits.eraseIdx z }
def wcells (l : List Wt) : List Value := l.flatMap fun x => (wtC x.who x.pos x.leaf x.key).toList
theorem wcells_snoc (l : List Wt) (x : Wt) : wcells (l ++ [x]) = wcells l ++ (wtC x.who x.pos x.leaf x.key).toList := by simp [wcells]
theorem wcells_row : ∀ l : List Wt, ListR waitR l (wcells l) | [] => rfl | x :: l => ⟨(wtC x.who x.pos x.leaf x.key).toList, wcells l, by simp [wcells], rfl, wcells_row l⟩
def gone (l : List Wt) (z j : Nat) : List Wt := (l.take j).eraseIdx z
theorem gone_same {l : List Wt} {z : Nat} (h : z < l.length) : gone l z (z + 1) = gone l z z := by unfold gone; rw [List.take_succ_eq_append_getElem h, List.eraseIdx_append_of_length_le (by rw [List.length_take]; omega), List.length_take, Nat.min_eq_left (by omega), Nat.sub_self]; show l.take z ++ [] = (l.take z).eraseIdx z; rw [List.append_nil, List.eraseIdx_of_length_le (by rw [List.length_take]; omega)]
theorem gone_more {l : List Wt} {z j : Nat} (h : j < l.length) (hne : j ≠ z) : gone l z (j + 1) = gone l z j ++ [l[j]] := by
 unfold gone; rw [List.take_succ_eq_append_getElem h]; by_cases hz : z < j
 · rw [List.eraseIdx_append_of_lt_length (by rw [List.length_take]; omega)]
 · rw [List.eraseIdx_append_of_length_le (by rw [List.length_take]; omega), List.length_take, Nat.min_eq_left (by omega)]; rw [List.eraseIdx_of_length_le (by rw [List.length_take]; omega : (l.take j).length ≤ z)]; congr 1; rw [List.eraseIdx_of_length_le (by simp; omega)]
theorem gone_all (l : List Wt) (z : Nat) : gone l z l.length = l.eraseIdx z := by unfold gone; rw [List.take_length]
theorem gone_len (l : List Wt) (z j : Nat) (h : j ≤ l.length) : (gone l z j).length ≤ j := by unfold gone; have := List.length_eraseIdx_le (l.take j) z; rw [List.length_take] at this; omega
theorem Rows.swapNew {X L : List Nat} {B : Nat} {w0 w : World} {rs : List RowD} (h : Rows X L B w0 rs) (hb : Below w0.heap.size w0 w) (hB : B ≤ w0.heap.size) (i : Nat) (r' : RowD) {cs : List Value} (ho : w.ownsRow w0.heap.size r'.e r'.size r'.v r'.n cs) (hst : Stays r'.P) (hP : ∀ X', MoreX X X' w0 → r'.P X' w cs) : ∃ X', Rows X' L B w (rs.set i r') ∧ MoreX X X' w0 := by
 have ho' : w.ownsRow B r'.e r'.size r'.v r'.n cs := row_lowB ho hB; by_cases z : r'.v.ownBlock = Option.none
 · exact ⟨X, (h.below hb).swap i r' ho' hst (fun b hb => by rw [z] at hb; cases hb) (fun b hb => ⟨hb, by rw [z]; simp⟩) (hP X (MoreX.refl _ _)), MoreX.refl _ _⟩
 · obtain ⟨b, hbb⟩ := Option.ne_none_iff_exists'.1 z; have hlo := ho.lt b hbb
   have hm : MoreX X (b :: X) w0 := fun y hy => by
    rcases List.mem_cons.1 hy with rfl | hy
    · exact .inr hlo.1
    · exact .inl hy
   refine ⟨b :: X, (h.more hb hlo).swap i r' ho' hst (fun y hy => by rw [hbb] at hy; cases hy; exact List.mem_cons_self) (fun y hy => ⟨List.mem_cons_of_mem _ hy, fun q => ?_⟩) (hP _ hm), hm⟩; rw [hbb] at q; cases q; have := h.lt b (h.inL hy); omega
def open_ (l : Array Bool) : Nat := l.toList.count false
theorem count_set {l : List Bool} : ∀ {i : Nat}, l[i]? = some false → (l.set i true).count false + 1 = l.count false := by
  induction l with
  | nil => intro i h; simp at h
  | cons x l ih =>
    intro i h
    cases i with
    | zero =>
      simp at h
      subst h
      simp
    | succ i =>
      simp at h
      have := ih h
      simp only [List.set_cons_succ, List.count_cons]
      omega
theorem open_set {l : Array Bool} {i : Nat} (h : l.getD i true = false) : open_ (l.setIfInBounds i true) + 1 = open_ l := by
 unfold open_
 have hi : l.toList[i]? = some false := by
  rcases Nat.lt_or_ge i l.size with h' | h'
  · simp [h'] at h; simp [h', h]
  · simp [h'] at h
 have := count_set hi; simpa using this
theorem wpAny_inv {P : Program} {md : Region.Mode} {ops : Array Oper} {Q : Exit → Act → World → Prop} (I : Array Bool → Act → World → Prop)
    (hstep : ∀ listed a w i, I listed a w → i ∈ Region.ready md ops listed → wpOp P ops Q i (fun a' w' => I (listed.setIfInBounds i true) a' w') a w)
    (hend : ∀ listed a w, I listed a w → Region.ready md ops listed = [] → Q .normal a w) :
    ∀ (fuel : Nat) (listed : Array Bool) (a : Act) (w : World), open_ listed ≤ fuel → I listed a w → wpAny P md ops Q fuel listed a w := by
  intro fuel
  induction fuel with
  | zero =>
    intro listed a w hc hI
    have hr : Region.ready md ops listed = [] := by
      cases hr : Region.ready md ops listed with
      | nil => rfl
      | cons i r =>
        exfalso
        have hm : i ∈ Region.ready md ops listed := by rw [hr]; simp
        have := open_set (mem_ready.1 hm).1
        omega
    exact ⟨hr, hend _ _ _ hI hr⟩
  | succ fuel ih =>
    intro listed a w hc hI
    refine ⟨fun hr => hend _ _ _ hI hr, fun i hi => ?_⟩
    refine wpOp_mono (fun a' w' h' => ih _ a' w' ?_ h') (hstep listed a w i hI hi)
    have := open_set (mem_ready.1 hi).1
    omega
theorem wp_region_inv {P : Program} {ops : Array Oper} {Q : Exit → Act → World → Prop} {id : Nat} {a : Act} {w : World} (hm : P.follows .mixedOrders = true) (I : Array Bool → Act → World → Prop) (h0 : I (Array.replicate ops.size false) a { w with drawn := w.drawn + 1 }) (hstep : ∀ listed a w i, I listed a w → i ∈ Region.ready .any ops listed → wpOp P ops Q i (fun a' w' => I (listed.setIfInBounds i true) a' w') a w) (hend : ∀ listed a w, I listed a w → Region.ready .any ops listed = [] → Q .normal a w) : (Code.region id ops true).wp P Q a w := by refine wp_region_any hm (wpAny_inv I hstep hend _ _ _ _ ?_ h0); unfold open_; simp
def plainB (ops : Array Oper) : Bool :=
  (List.range ops.size).all fun i => (List.range ops.size).all fun j => i == j || ((ops[i]?).bind (·.dst)) == none || ((ops[i]?).bind (·.dst)) != ((ops[j]?).bind (·.dst))
def lowB (ops : Array Oper) : Bool := (List.range ops.size).all fun i => ((ops[i]?).map (·.after.all fun e => !Region.binds .any e || decide (e.on < i))).getD true
def Slots (ops : Array Oper) (T : Nat → Value → World → Prop) (listed : Array Bool) (a : Act) (w : World) : Prop :=
  ∀ i o d, ops[i]? = some o → o.dst = some d → listed.getD i false = true → T d (a.tmps.getD d undef) w
def lastB (ops : Array Oper) : Bool :=
  (List.range (ops.size - 1)).all fun i => (List.range ops.size).any fun j => decide (i < j) && (((ops[j]?).map (·.after.any fun e => Region.binds .any e && e.on == i)).getD false)
theorem lastB_next {ops : Array Oper} (h : lastB ops = true) {i : Nat} (hi : i < ops.size - 1) : ∃ (j : Nat) (o : Oper) (e : _), i < j ∧ ops[j]? = some o ∧ e ∈ o.after ∧ Region.binds .any e = true ∧ e.on = i := by
  unfold lastB at h
  rw [List.all_eq_true] at h
  have h1 := h i (by rw [List.mem_range]; exact hi)
  rw [List.any_eq_true] at h1
  obtain ⟨j, hj, h2⟩ := h1
  rw [Bool.and_eq_true] at h2
  obtain ⟨h3, h4⟩ := h2
  cases ho : ops[j]? with
  | none => rw [ho] at h4; cases h4
  | some o =>
    rw [ho] at h4
    simp only [Option.map_some, Option.getD_some, Array.any_eq_true'] at h4
    obtain ⟨e, he, h5⟩ := h4
    rw [Bool.and_eq_true] at h5
    exact ⟨j, o, e, by simpa using h3, ho, he, h5.1, by simpa using h5.2⟩
theorem listed_of_not {l : Array Bool} {i : Nat} (hi : i < l.size) (h : ¬ l.getD i false = true) : l.getD i true = false := by simp [hi] at h ⊢; exact h
theorem wp_region_last {P : Program} {ops : Array Oper} {Q : Exit → Act → World → Prop} {id : Nat} {a0 : Act} {w0 : World} (hm : P.follows .mixedOrders = true)
    (T : Nat → Value → World → Prop) (J : Bool → World → Prop) (B : Act → Prop) (p : Nat)
    (hplain : plainB ops = true) (hlow : lowB ops = true) (hlastB : lastB ops = true) (hpos : 0 < ops.size) (hg : ∀ (i : Nat) (o : Oper), ops[i]? = some o → o.guard = none)
    (hp : p < ops.size - 1) (hJ0 : J false w0.drew)
    (hB0 : B a0) (hBput : ∀ (i : Nat) (o : Oper) (a : Act) (v : Value), ops[i]? = some o → B a → B (a.put o.dst v)) (hBsz : ∀ (i : Nat) (o : Oper) (a : Act) d, ops[i]? = some o → o.dst = some d → B a → d < a.tmps.size)
    (hops : ∀ (i : Nat) (o : Oper) (a : Act) (w : World) (b : Bool), i < ops.size - 1 → ops[i]? = some o → B a → J b w → (i = p → b = false) →
      (∀ e ∈ o.after, Region.binds .any e = true → ∀ oe d, ops[e.on]? = some oe → oe.dst = some d → T d (a.tmps.getD d undef) w) →
      o.wp P a w (fun a' w' => ∃ v, a' = a.put o.dst v ∧ (∀ d, o.dst = some d → T d v w') ∧ (∀ d x, o.dst ≠ some d → T d x w → T d x w') ∧ J (b || i == p) w') Q)
    (hlast : ∀ (o : Oper) (a : Act) (w : World), ops[ops.size - 1]? = some o → B a → J true w → (∀ (i : Nat) (o : Oper) d, i < ops.size - 1 → ops[i]? = some o → o.dst = some d → T d (a.tmps.getD d undef) w) →
      o.wp P a w (fun a' w' => Q .normal a' w') Q) :
    (Code.region id ops true).wp P Q a0 w0 := by
  refine wp_region_inv hm (fun listed a w => listed.size = ops.size ∧ (∀ (j : Nat) (o : Oper), ops[j]? = some o → listed.getD j false = true → ∀ e ∈ o.after, Region.binds .any e = true → listed.getD e.on false = true) ∧
    (listed.getD (ops.size - 1) false = true → Q .normal a w) ∧ (¬ listed.getD (ops.size - 1) false = true → B a ∧ J (listed.getD p false) w ∧ Slots ops T listed a w)) ?_ ?_ ?_
  · have hno : ∀ j, ¬ (Array.replicate ops.size false).getD j false = true := by
      intro j hl
      rw [Array.getD_eq_getD_getElem?, Array.getElem?_replicate] at hl
      split at hl <;> simp at hl
    exact ⟨by simp, fun j o _ hl => absurd hl (hno j), fun hl => absurd hl (hno _), fun _ => ⟨hB0, by rw [Bool.eq_false_iff.2 (hno p)]; exact hJ0, fun i o d _ _ hl => absurd hl (hno i)⟩⟩
  · rintro listed a w i ⟨hsz, hcl, hdone, hun0⟩ hi
    obtain ⟨hun, o, ho, hall⟩ := mem_ready.1 hi
    have hlt : i < ops.size := (Array.getElem?_eq_some_iff.1 ho).1
    have hnl : ¬ listed.getD i false = true := by
      have : i < listed.size := by omega
      simp [this] at hun ⊢
      exact hun
    have hup : ∀ n j, ops.size - 1 - j ≤ n → j < ops.size - 1 → ¬ listed.getD j false = true → ¬ listed.getD (ops.size - 1) false = true ∧ (i = ops.size - 1 → False) := by
      intro n
      induction n with
      | zero => intro j h1 h2; omega
      | succ n ih =>
        intro j h1 h2 h3
        obtain ⟨k, ok, e, hjk, hok, he, hb, hon⟩ := lastB_next hlastB h2
        have hk : k < ops.size := (Array.getElem?_eq_some_iff.1 hok).1
        have hkn : ¬ listed.getD k false = true := fun hl => h3 (by have := hcl k ok hok hl e he hb; rwa [hon] at this)
        by_cases hkl : k = ops.size - 1
        · refine ⟨by rw [← hkl]; exact hkn, fun hil => ?_⟩
          have : k = i := by omega
          subst this
          rw [ho] at hok
          cases hok
          exact h3 (by have := hall e he hb; rwa [hon] at this)
        · exact ih k (by omega) (by omega) hkn
    have hw : Region.wanted o (yielded ops a.tmps) = true := by unfold Region.wanted; rw [hg i o ho]
    have hcl' : ∀ (j : Nat) (oj : Oper), ops[j]? = some oj → (listed.setIfInBounds i true).getD j false = true → ∀ e ∈ oj.after, Region.binds .any e = true → (listed.setIfInBounds i true).getD e.on false = true := by
      intro j oj hj hl e he hb
      have hmono : ∀ x, listed.getD x false = true → (listed.setIfInBounds i true).getD x false = true := by
        intro x hx
        by_cases hxi : i = x
        · subst hxi; exact absurd hx hnl
        · simpa [Array.getD_eq_getD_getElem?, Array.getElem?_setIfInBounds, hxi] using hx
      by_cases hji : i = j
      · subst hji
        rw [ho] at hj
        cases hj
        exact hmono _ (hall e he hb)
      · exact hmono _ (hcl j oj hj (by simpa [Array.getD_eq_getD_getElem?, Array.getElem?_setIfInBounds, hji] using hl) e he hb)
    by_cases hil : i = ops.size - 1
    · have hfront : ∀ j, j < ops.size - 1 → listed.getD j false = true := by
        intro j hj
        apply Classical.byContradiction
        intro hn
        exact (hup _ j (Nat.le_refl _) hj hn).2 hil
      have hnl' : ¬ listed.getD (ops.size - 1) false = true := by rw [← hil]; exact hnl
      obtain ⟨hB, hJ, hS⟩ := hun0 hnl'
      rw [hfront p hp] at hJ
      unfold wpOp
      rw [ho]
      simp only [hw, if_true]
      refine .inl (Oper.wp_mono ?_ (hlast o a w (by rw [← hil]; exact ho) hB hJ (fun j oj d hj hoj hd => hS j oj d hoj hd (hfront j hj))))
      intro a' w' hQ
      refine ⟨by simpa using hsz, hcl', fun _ => hQ, fun hn => ?_⟩
      exfalso
      apply hn
      rw [← hil]
      have : i < listed.size := by omega
      simp [this]
    · have hi1 : i < ops.size - 1 := by omega
      have hnl' := (hup _ i (Nat.le_refl _) hi1 hnl).1
      obtain ⟨hB, hJ, hS⟩ := hun0 hnl'
      unfold wpOp
      rw [ho]
      simp only [hw, if_true]
      refine .inl (Oper.wp_mono ?_ (hops i o a w _ hi1 ho hB hJ (fun e => by subst e; exact Bool.eq_false_iff.2 hnl) (fun e he hb oe d hoe hd => hS e.on oe d hoe hd (hall e he hb))))
      rintro a' w' ⟨v, rfl, hv, hTk, hJw⟩
      refine ⟨by simpa using hsz, hcl', fun hl => ?_, fun _ => ⟨hBput i o a v ho hB, ?_, ?_⟩⟩
      · exfalso
        apply hnl'
        simpa [Array.getD_eq_getD_getElem?, Array.getElem?_setIfInBounds, hil] using hl
      · have e : (listed.setIfInBounds i true).getD p false = (listed.getD p false || i == p) := by
          by_cases hip : i = p
          · subst hip
            have : i < listed.size := by omega
            simp [this]
          · simp [Array.getD_eq_getD_getElem?, hip]
        rw [e]; exact hJw
      · intro j oj d hj hd hl
        by_cases hij : j = i
        · subst hij
          rw [ho] at hj
          cases hj
          have hdsz := hBsz _ _ _ d ho hd hB
          have e : (a.put o.dst v).tmps.getD d undef = v := by rw [hd]; simp [Act.put, hdsz]
          rw [e]
          exact hv d hd
        · have hl' : listed.getD j false = true := by
            simpa [Array.getD_eq_getD_getElem?, Array.getElem?_setIfInBounds, Ne.symm hij] using hl
          have hne : o.dst ≠ some d := by
            intro e
            have hp := hplain
            unfold plainB at hp
            rw [List.all_eq_true] at hp
            have h1 := hp j (by rw [List.mem_range]; exact (Array.getElem?_eq_some_iff.1 hj).1)
            rw [List.all_eq_true] at h1
            have h2 := h1 i (by rw [List.mem_range]; exact hlt)
            simp [hj, ho, hd, e, hij] at h2
          have e : (a.put o.dst v).tmps.getD d undef = a.tmps.getD d undef := by
            cases ho' : o.dst with
            | none => simp [Act.put]
            | some c =>
              have hcd : c ≠ d := fun e => hne (by rw [ho', e])
              simp [Act.put, Array.getD_eq_getD_getElem?, hcd]
          rw [e]
          exact hTk _ _ hne (hS j oj d hj hd hl')
  · rintro listed a w ⟨hsz, hcl, hdone, hun0⟩ hr
    apply hdone
    have hlow' : ∀ (i : Nat) (o : Oper), ops[i]? = some o → ∀ e ∈ o.after, Region.binds .any e = true → e.on < i := by
      intro i o hi e he hbi
      have h1 := hlow
      unfold lowB at h1
      rw [List.all_eq_true] at h1
      have h2 := h1 i (by rw [List.mem_range]; exact (Array.getElem?_eq_some_iff.1 hi).1)
      rw [hi] at h2
      simp only [Option.map_some, Option.getD_some, Array.all_eq_true_iff_forall_mem] at h2
      have h3 := h2 e he
      rw [hbi] at h3
      simpa using h3
    have hall : ∀ n i, i ≤ n → i < ops.size → listed.getD i false = true := by
      intro n
      induction n using Nat.strongRecOn with
      | _ n ih =>
        intro i hin hi
        apply Classical.byContradiction
        intro hn
        have hun : listed.getD i true = false := listed_of_not (by omega) hn
        obtain ⟨o, ho⟩ : ∃ o, ops[i]? = some o := ⟨ops[i], Array.getElem?_eq_getElem hi⟩
        have : i ∈ Region.ready .any ops listed := mem_ready.2 ⟨hun, o, ho, fun e he hbi => by
          have hlt := hlow' i o ho e he hbi
          exact ih e.on (by omega) e.on (Nat.le_refl _) (by omega)⟩
        rw [hr] at this
        cases this
    exact hall _ _ (Nat.le_refl _) (by omega)
def KB (ops : Array Oper) (n : Nat) (a0 : Act) (a : Act) : Prop := a.tmps.size = n ∧ a.defers = a0.defers ∧ ∀ d, (ops.all fun o => o.dst != some d) = true → a.tmps.getD d undef = a0.tmps.getD d undef
def fitsB (ops : Array Oper) (n : Nat) : Bool := ops.all fun o => o.guard.isNone && (match o.dst with | some d => decide (d < n) | none => true)
theorem wp_region_end {P : Program} {ops : Array Oper} {Q : Exit → Act → World → Prop} {id : Nat} {a0 : Act} {w0 : World} (hm : P.follows .mixedOrders = true) (T : Nat → Value → World → Prop) (J : Bool → World → Prop) (n p : Nat) (hplain : plainB ops = true) (hlow : lowB ops = true) (hlastB : lastB ops = true) (hpos : 0 < ops.size) (hfits : fitsB ops n = true) (hn : a0.tmps.size = n) (hp : p < ops.size - 1) (hJ0 : J false w0.drew) (hops : ∀ (i : Nat) (o : Oper) (a : Act) (w : World) (b : Bool), i < ops.size - 1 → ops[i]? = some o → KB ops n a0 a → J b w → (i = p → b = false) → (∀ e ∈ o.after, Region.binds .any e = true → ∀ oe d, ops[e.on]? = some oe → oe.dst = some d → T d (a.tmps.getD d undef) w) → o.wp P a w (fun a' w' => ∃ v, a' = a.put o.dst v ∧ (∀ d, o.dst = some d → T d v w') ∧ (∀ d x, o.dst ≠ some d → T d x w → T d x w') ∧ J (b || i == p) w') Q) (hlast : ∀ (o : Oper) (a : Act) (w : World), ops[ops.size - 1]? = some o → KB ops n a0 a → J true w → (∀ (i : Nat) (o : Oper) d, i < ops.size - 1 → ops[i]? = some o → o.dst = some d → T d (a.tmps.getD d undef) w) → o.wp P a w (fun a' w' => Q .normal a' w') Q) : (Code.region id ops true).wp P Q a0 w0 := by
 (have hsl : ∀ (i : Nat) (o : Oper), ops[i]? = some o → o.guard = none ∧ ∀ d, o.dst = some d → d < n := by intro i o hi; have h1 := hfits; unfold fitsB at h1; rw [Array.all_eq_true_iff_forall_mem] at h1; have h2 := h1 o (Array.mem_of_getElem? hi); rw [Bool.and_eq_true] at h2; refine ⟨by simpa using h2.1, fun d hd => ?_⟩; have h3 := h2.2; rw [hd] at h3; simpa using h3); refine wp_region_last hm T J (KB ops n a0) p hplain hlow hlastB hpos (fun i o hi => (hsl i o hi).1) hp hJ0 ⟨hn, rfl, fun _ _ => rfl⟩ ?_ ?_ hops hlast
 · rintro i o a v hi ⟨h1, h2, h3⟩
   cases hd : o.dst with
   | none => exact ⟨h1, h2, h3⟩
   | some d =>
    refine ⟨by simpa [Act.put] using h1, h2, fun x hx => ?_⟩; (have hne : d ≠ x := by intro e; rw [Array.all_eq_true_iff_forall_mem] at hx; have := hx o (Array.mem_of_getElem? hi); rw [hd, e] at this; simp at this); rw [← h3 x hx]; simp [Act.put, Array.getD_eq_getD_getElem?, hne]
 · rintro i o a d hi hd ⟨h1, h2, h3⟩; rw [h1]; exact (hsl i o hi).2 d hd
def putAll : Act → List (Nat × Value) → Act
  | a, [] => a
  | a, (d, v) :: r => putAll (a.put (some d) v) r
theorem putAll_size : ∀ (l : List (Nat × Value)) (a : Act), (putAll a l).tmps.size = a.tmps.size ∧ (putAll a l).defers = a.defers
  | [], _ => ⟨rfl, rfl⟩
  | (d, v) :: r, a => by
    have := putAll_size r (a.put (some d) v)
    exact ⟨by rw [putAll, this.1]; simp [Act.put], by rw [putAll, this.2]; rfl⟩
theorem putAll_get (f : Nat → Value) : ∀ (ds : List Nat) (a : Act) (x : Nat), x < a.tmps.size → (putAll a (ds.map fun d => (d, f d))).tmps.getD x undef = if x ∈ ds then f x else a.tmps.getD x undef
  | [], _, _, _ => by simp [putAll]
  | d :: ds, a, x, hx => by
    rw [List.map_cons, putAll, putAll_get f ds _ x (by simpa [Act.put] using hx)]
    by_cases h1 : x ∈ ds
    · rw [if_pos h1, if_pos (List.mem_cons_of_mem _ h1)]
    · rw [if_neg h1]
      by_cases h2 : x = d
      · subst h2
        rw [if_pos List.mem_cons_self]
        simp [Act.put, hx]
      · rw [if_neg (by simp [h1, h2])]
        simp [Act.put, Array.getD_eq_getD_getElem?, Ne.symm h2]
def dstsOf (ops : Array Oper) : List Nat := ops.toList.filterMap (·.dst)
theorem act_open {ops : Array Oper} {n : Nat} {a0 a : Act} (h : KB ops n a0 a) (hn : a0.tmps.size = n) {ds : List Nat} (hd : dstsOf ops = ds) : a = putAll a0 (ds.map fun d => (d, a.tmps.getD d undef)) := by
 obtain ⟨h1, h2, h3⟩ := h; have hs := putAll_size (ds.map fun d => (d, a.tmps.getD d undef)) a0; obtain ⟨tm, df⟩ := a
 have key : ∀ x, x < n → tm.getD x undef = (putAll a0 (ds.map fun d => (d, tm.getD d undef))).tmps.getD x undef := by
  intro x hx; rw [putAll_get (fun d => tm.getD d undef) ds a0 x (by omega)]; by_cases hm : x ∈ ds
  · rw [if_pos hm]
  · rw [if_neg hm]; refine h3 x ?_; rw [Array.all_eq_true_iff_forall_mem]; intro o ho; simp only [bne_iff_ne, ne_eq]; intro e; refine hm ?_; rw [← hd]; exact List.mem_filterMap.2 ⟨o, by simpa using ho, e⟩
 generalize putAll a0 (ds.map fun d => (d, tm.getD d undef)) = b at hs key; obtain ⟨tm2, df2⟩ := b; simp only at h1 h2 hs key
 have e1 : tm = tm2 := by
  apply Array.ext
  · omega
  · intro i hi1 hi2; have := key i (by omega); simpa [Array.getD_eq_getD_getElem?, hi1, hi2] using this
 rw [e1, h2, ← hs.2]
theorem wp_region_lit {P : Program} {ops : Array Oper} {Q : Exit → Act → World → Prop} {id : Nat} {a0 : Act} {w0 : World} (hm : P.follows .mixedOrders = true) (T : Nat → Value → World → Prop) (n : Nat) (hplain : plainB ops = true) (hlow : lowB ops = true) (hlastB : lastB ops = true) (hpos : 1 < ops.size) (hfits : fitsB ops n = true) (hn : a0.tmps.size = n) (hT : ∀ d v w w', Later w w' → T d v w → T d v w') (hops : ∀ (i : Nat) (o : Oper) (a : Act) (w : World), i < ops.size - 1 → ops[i]? = some o → KB ops n a0 a → Later w0.drew w → (∀ e ∈ o.after, Region.binds .any e = true → ∀ oe d, ops[e.on]? = some oe → oe.dst = some d → T d (a.tmps.getD d undef) w) → o.wp P a w (fun a' w' => ∃ v, a' = a.put o.dst v ∧ (∀ d, o.dst = some d → T d v w') ∧ Later w w') Q) (hlast : ∀ (o : Oper) (a : Act) (w : World), ops[ops.size - 1]? = some o → KB ops n a0 a → Later w0.drew w → (∀ (i : Nat) (o : Oper) d, i < ops.size - 1 → ops[i]? = some o → o.dst = some d → T d (a.tmps.getD d undef) w) → o.wp P a w (fun a' w' => Q .normal a' w') Q) : (Code.region id ops true).wp P Q a0 w0 := by
 refine wp_region_end hm T (fun _ w => Later w0.drew w) n 0 hplain hlow hlastB (by omega) hfits hn (by omega) (laterPre.refl _) ?_ ?_
 · intro i o a w b hi ho hK hJ _ hd; refine Oper.wp_mono ?_ (hops i o a w hi ho hK hJ hd); rintro a' w' ⟨v, h1, h2, h3⟩; exact ⟨v, h1, h2, fun d x _ hx => hT d x w w' h3 hx, laterPre.trans _ _ _ hJ h3⟩
 · intro o a w ho hK hJ hd; exact hlast o a w ho hK hJ hd
theorem ret_join {who : Int} {leaf key : ByteArray} {c : Cmt} {v : Value} (hF : joinB who leaf key c = false) (hv : v = .bool false) : Ending.returned (.tuple #[.agg noMem, v]) = .returned (.tuple #[.agg ((joinR who leaf key c).cells (.slice none 0 0) (.slice none 0 0)), .bool (joinB who leaf key c)]) := by unfold joinR; rw [hF, hv]; rfl
theorem own_none {who : Int} {leaf key : ByteArray} {c : Cmt} {B : Nat} {w : World} (hF : joinB who leaf key c = false) : Own B w (.slice none 0 0) (joinR who leaf key c).keys := by unfold joinR; rw [hF]; exact World.ownsRow_nil _ _ _ _
theorem ownM_none {who : Int} {leaf key : ByteArray} {c : Cmt} {B : Nat} {w : World} (hF : joinB who leaf key c = false) : OwnM B w (.slice none 0 0) (joinR who leaf key c).own := by unfold joinR; rw [hF]; exact World.ownsRow_nil _ _ _ _
theorem ret_joinY {who : Int} {leaf key : ByteArray} {c : Cmt} {ks os : Value} (hF : joinB who leaf key c = true) : Ending.returned (.tuple #[.agg ((joinM who leaf c).cells ks os), .bool true]) = .returned (.tuple #[.agg ((joinR who leaf key c).cells ks os), .bool (joinB who leaf key c)]) := by unfold joinR; rw [hF]; rfl
theorem own_joinY {who : Int} {leaf key : ByteArray} {c : Cmt} {B : Nat} {w : World} {ks : Value} (hF : joinB who leaf key c = true) (h : Own B w ks c.keys) : Own B w ks (joinR who leaf key c).keys := by unfold joinR; rw [hF]; exact h
theorem ownM_joinY {who : Int} {leaf key : ByteArray} {c : Cmt} {B : Nat} {w : World} {os : Value} (hF : joinB who leaf key c = true) (h : OwnM B w os (joinOwn who leaf c)) : OwnM B w os (joinR who leaf key c).own := by unfold joinR; rw [hF]; exact h
set_option maxRecDepth 100000 in
set_option maxHeartbeats 8000000 in
theorem sMemJoin_any (who : Int) (leaf key : ByteArray) (c : Cmt) (ks bs : Value) (w : World) (hK : SRow w ks c.keys) (hO : BRow w bs c.boxes) (hl : leaf.size ≤ maxLen) (hk : key.size ≤ maxLen)
 (hft : (∀ x ∈ c.keys, x.size ≤ maxLen) ∧ (∀ b ∈ c.boxes, b.1.size ≤ maxLen ∧ b.2.size ≤ maxLen) ∧ c.name.size ≤ 2000000 ∧ c.tag.size ≤ 2000000 ∧ c.leaf.size ≤ maxLen ∧ c.wel.key.size ≤ maxLen ∧ c.wel.is.size ≤ maxLen ∧ c.wel.ss.size ≤ maxLen) :
 Calls Tryz.prog 53 #[.int .i64 who, .string leaf, .string key, .agg (c.cells ks bs)] w fun e w' => ∃ ks' os', e = .returned (.tuple #[.agg ((joinR who leaf key c).cells ks' os'), .bool (joinB who leaf key c)]) ∧ Own w.heap.size w' ks' (joinR who leaf key c).keys ∧ OwnM w.heap.size w' os' (joinR who leaf key c).own ∧ Below w.heap.size w w' := by
 have HE : Hid (joinB who leaf key c = _) := joinB_eq who leaf key c; have FT := hide hft; have M : Hid (leaf.size ≤ maxLen ∧ key.size ≤ maxLen) := ⟨hl, hk⟩; obtain ⟨se, tag, name, add, rem, lf, keys, boxes, wk, ik, is, sk, ss⟩ := c; simp only at hK hO HE FT; obtain ⟨a1, p1, rfl, _, _, z1⟩ := hK.form; obtain ⟨a2, p2, rfl, _, _, z2⟩ := id hO; clear z1 z2 hft hl hk; have A : Hid (Blk ((w.alloc (.cells (cmtC se tag name add rem lf (.slice a1 keys.length p1) (.slice a2 boxes.length p2) wk ik is sk ss) 57)).alloc (.cells noMem 62)).drew w.heap.size 57 (cmtC se tag name add rem lf (.slice a1 keys.length p1) (.slice a2 boxes.length p2) wk ik is sk ss)) := ((Blk.new w _ _).alloc _).drew; have r0 := Blk.new (w.alloc (.cells (cmtC se tag name add rem lf (.slice a1 keys.length p1) (.slice a2 boxes.length p2) wk ik is sk ss) 57)) 62 noMem; rw [World.size_alloc] at r0; have R := hide r0.drew; have hb0 := ((((Below.refl w.heap.size w).alloc (Nat.le_refl _) (.cells (cmtC se tag name add rem lf (.slice a1 keys.length p1) (.slice a2 boxes.length p2) wk ik is sk ss) 57)).alloc (by simp) (.cells noMem 62))).drew; have HK := hide (hK.below hb0); have HO := hide (hO.below hb0); have HB := hide hb0; clear hK hO r0 hb0; obtain ⟨b1, hb1⟩ : ∃ b1, cmtOk ⟨se, tag, name, add, rem, lf, keys, boxes, ⟨wk, ik, is, sk, ss⟩⟩ = b1 := ⟨_, rfl⟩; rw [hb1] at HE; have B1 := hide hb1; clear hb1; obtain ⟨b4, hb4⟩ : ∃ b4, Kw.ok leaf = b4 := ⟨_, rfl⟩; rw [hb4] at HE; have B4 := hide hb4; clear hb4; obtain ⟨b5, hb5⟩ : ∃ b5, Kw.ok key = b5 := ⟨_, rfl⟩; rw [hb5] at HE; have B5 := hide hb5; clear hb5
 cases b1 with
 | false =>
  (have HF : Hid (joinB who leaf key ⟨se, tag, name, add, rem, lf, keys, boxes, ⟨wk, ik, is, sk, ss⟩⟩ = false) := by show _ = _; rw [HE.out]; rfl)
  go_enter Tryz.func53, Tryz.ntmps53
  (go_wp2_with fail); refine r_i Later ?_; refine r_q 0 ?_ (h := by intro w' hw'; have x := (A.out.below hw').c13; go_simp; all_goals rfl); refine r_k 1 (sCmtOk_any ⟨se, tag, name, add, rem, lf, keys, boxes, ⟨wk, ik, is, sk, ss⟩⟩ _ _ _ HK.out HO.out FT.out.1 FT.out.2.1 FT.out.2.2.1 FT.out.2.2.2.1 FT.out.2.2.2.2.1 FT.out.2.2.2.2.2.1 FT.out.2.2.2.2.2.2.1 FT.out.2.2.2.2.2.2.2) ?_; rw [B1.out]; rintro e w1 ⟨rfl, hb⟩; refine s_r ?_; refine cy5 A R HK HO HB ?_; clear A R HK HO HB; intro A R HK HO HB; clear hb; refine r_q 2 ?_; refine r_q 3 ?_; refine r_n3 4 5 6 ?_; refine r_q 7 ?_; refine r_q 8 ?_; refine r_n4 9 10 11 12 ?_; refine r_q 13 ?_; refine r_q 14 ?_; refine r_n3 15 16 17 ?_; refine r_q 18 ?_; refine r_q 19 ?_; refine r_n3 20 21 22 ?_; refine r_q 23 ?_; refine r_q 24 ?_; refine r_n4 25 26 27 28 ?_; refine r_n 29 ?_; refine r_q 30 ?_; refine r_q 31 ?_; refine r_n6 32 33 34 35 36 37 ?_; refine r_q 38 ?_; refine r_e ?_
  go_wp2_with (refine wpList_store_whole rfl 62 _ _ rfl (w.heap.size + 1) noMem rfl rfl 62 _ (by exact unhide R) info_mm rfl (one_mm _ _ _ _ _ _ _ _ _ _ _) ?_)
  have l2 := load_mm (R.out.set noMem) rfl; refine bodyPost_ret (v := .tuple #[.agg noMem, .bool false]) (results_cs rfl rfl rfl l2) rfl ?_; exact ⟨_, _, ret_join HF.out rfl, own_none HF.out, ownM_none HF.out, below_blk HB.out (by omega) _⟩
 | true =>
  simp only [Bool.true_and] at HE
  by_cases ha : add < 0
  · rw [show decide (add < 0) = true by simpa using ha] at HE
    simp only [Bool.not_true] at HE; (have ha3 : decide (add < 0) = true := by simpa using ha); (have HF : Hid (joinB who leaf key ⟨se, tag, name, add, rem, lf, keys, boxes, ⟨wk, ik, is, sk, ss⟩⟩ = false) := by show _ = _; rw [HE.out]; rfl)
    go_enter Tryz.func53, Tryz.ntmps53
    (go_wp2_with fail); refine r_i Later ?_; refine r_q 0 ?_ (h := by intro w' hw'; have x := (A.out.below hw').c13; go_simp; all_goals rfl); refine r_k 1 (sCmtOk_any ⟨se, tag, name, add, rem, lf, keys, boxes, ⟨wk, ik, is, sk, ss⟩⟩ _ _ _ HK.out HO.out FT.out.1 FT.out.2.1 FT.out.2.2.1 FT.out.2.2.2.1 FT.out.2.2.2.2.1 FT.out.2.2.2.2.2.1 FT.out.2.2.2.2.2.2.1 FT.out.2.2.2.2.2.2.2) ?_; rw [B1.out]; rintro e w1 ⟨rfl, hb⟩; refine s_r ?_; refine cy5 A R HK HO HB ?_; clear A R HK HO HB; intro A R HK HO HB; clear hb; refine r_q3 2 3 4 ?_; refine r_b 5 A 3 ?_; refine r_q 6 ?_; refine r_q 7 ?_; refine r_q 8 ?_; refine r_n4 9 10 11 12 ?_; refine r_q 13 ?_; refine r_q 14 ?_; refine r_n3 15 16 17 ?_; refine r_q 18 ?_; refine r_q 19 ?_; refine r_n3 20 21 22 ?_; refine r_q 23 ?_; refine r_q 24 ?_; refine r_n4 25 26 27 28 ?_; refine r_n 29 ?_; refine r_q 30 ?_; refine r_q 31 ?_; refine r_n6 32 33 34 35 36 37 ?_; refine r_q 38 ?_; refine r_e ?_
    go_wp2_with (refine wpList_store_whole rfl 62 _ _ rfl (w.heap.size + 1) noMem rfl rfl 62 _ (by exact unhide R) info_mm rfl (one_mm _ _ _ _ _ _ _ _ _ _ _) ?_)
    have l2 := load_mm (R.out.set noMem) rfl; refine bodyPost_ret (v := .tuple #[.agg noMem, .bool false]) (results_cs rfl rfl rfl l2) rfl ?_; exact ⟨_, _, ret_join HF.out rfl, own_none HF.out, ownM_none HF.out, below_blk HB.out (by omega) _⟩
  (have ha2 : decide (add < 0) = false := by simpa using ha); rw [ha2] at HE; simp only [Bool.not_false, Bool.true_and] at HE
  by_cases hw : add = who
  rotate_left
  · rw [show decide (add = who) = false by simpa using hw] at HE
    (have hw2 : (add != who) = true := by simpa using hw); (have hw3 : (add == who) = false := by simpa using hw); clear hw; (have HF : Hid (joinB who leaf key ⟨se, tag, name, add, rem, lf, keys, boxes, ⟨wk, ik, is, sk, ss⟩⟩ = false) := by show _ = _; rw [HE.out]; rfl)
    go_enter Tryz.func53, Tryz.ntmps53
    (go_wp2_with fail); refine r_i Later ?_; refine r_q 0 ?_ (h := by intro w' hw'; have x := (A.out.below hw').c13; go_simp; all_goals rfl); refine r_k 1 (sCmtOk_any ⟨se, tag, name, add, rem, lf, keys, boxes, ⟨wk, ik, is, sk, ss⟩⟩ _ _ _ HK.out HO.out FT.out.1 FT.out.2.1 FT.out.2.2.1 FT.out.2.2.2.1 FT.out.2.2.2.2.1 FT.out.2.2.2.2.2.1 FT.out.2.2.2.2.2.2.1 FT.out.2.2.2.2.2.2.2) ?_; rw [B1.out]; rintro e w1 ⟨rfl, hb⟩; refine s_r ?_; refine cy5 A R HK HO HB ?_; clear A R HK HO HB; intro A R HK HO HB; clear hb; refine r_q3 2 3 4 ?_; refine r_b 5 A 3 ?_; refine r_q4 6 7 8 9 ?_; refine r_b 10 A 3 ?_; refine r_q 11 ?_; refine r_q 12 ?_; refine r_q 13 ?_; refine r_q 14 ?_; refine r_n3 15 16 17 ?_; refine r_q 18 ?_; refine r_q 19 ?_; refine r_n3 20 21 22 ?_; refine r_q 23 ?_; refine r_q 24 ?_; refine r_n4 25 26 27 28 ?_; refine r_n 29 ?_; refine r_q 30 ?_; refine r_q 31 ?_; refine r_n6 32 33 34 35 36 37 ?_; refine r_q 38 ?_; refine r_e ?_
    go_wp2_with (refine wpList_store_whole rfl 62 _ _ rfl (w.heap.size + 1) noMem rfl rfl 62 _ (by exact unhide R) info_mm rfl (one_mm _ _ _ _ _ _ _ _ _ _ _) ?_)
    have l2 := load_mm (R.out.set noMem) rfl; refine bodyPost_ret (v := .tuple #[.agg noMem, .bool false]) (results_cs rfl rfl rfl l2) rfl ?_; exact ⟨_, _, ret_join HF.out rfl, own_none HF.out, ownM_none HF.out, below_blk HB.out (by omega) _⟩
  rw [show decide (add = who) = true by simpa using hw] at HE; simp only [Bool.true_and] at HE; subst hw; (have hw2 : (add != add) = false := by simp)
  cases b4 with
  | false =>
   (have HF : Hid (joinB add leaf key ⟨se, tag, name, add, rem, lf, keys, boxes, ⟨wk, ik, is, sk, ss⟩⟩ = false) := by show _ = _; rw [HE.out]; rfl)
   go_enter Tryz.func53, Tryz.ntmps53
   (go_wp2_with fail); refine r_i Later ?_; refine r_q 0 ?_ (h := by intro w' hw'; have x := (A.out.below hw').c13; go_simp; all_goals rfl); refine r_k 1 (sCmtOk_any ⟨se, tag, name, add, rem, lf, keys, boxes, ⟨wk, ik, is, sk, ss⟩⟩ _ _ _ HK.out HO.out FT.out.1 FT.out.2.1 FT.out.2.2.1 FT.out.2.2.2.1 FT.out.2.2.2.2.1 FT.out.2.2.2.2.2.1 FT.out.2.2.2.2.2.2.1 FT.out.2.2.2.2.2.2.2) ?_; rw [B1.out]; rintro e w1 ⟨rfl, hb⟩; refine s_r ?_; refine cy5 A R HK HO HB ?_; clear A R HK HO HB; intro A R HK HO HB; clear hb; refine r_q3 2 3 4 ?_; refine r_b 5 A 3 ?_; refine r_q4 6 7 8 9 ?_; refine r_b 10 A 3 ?_; refine r_q4 11 12 13 14 ?_; refine r_q 15 ?_; refine r_k 16 (sSecOk_any leaf _ M.out.1) ?_; rw [B4.out]; rintro e w1 ⟨rfl, hb⟩; refine s_r ?_; refine cy5 A R HK HO HB ?_; clear A R HK HO HB; intro A R HK HO HB; clear hb; refine r_q 17 ?_; refine r_q 18 ?_; refine r_q 19 ?_; refine r_n3 20 21 22 ?_; refine r_q 23 ?_; refine r_q 24 ?_; refine r_n4 25 26 27 28 ?_; refine r_n 29 ?_; refine r_q 30 ?_; refine r_q 31 ?_; refine r_n6 32 33 34 35 36 37 ?_; refine r_q 38 ?_; refine r_e ?_
   go_wp2_with (refine wpList_store_whole rfl 62 _ _ rfl (w.heap.size + 1) noMem rfl rfl 62 _ (by exact unhide R) info_mm rfl (one_mm _ _ _ _ _ _ _ _ _ _ _) ?_)
   have l2 := load_mm (R.out.set noMem) rfl; refine bodyPost_ret (v := .tuple #[.agg noMem, .bool false]) (results_cs rfl rfl rfl l2) rfl ?_; exact ⟨_, _, ret_join HF.out rfl, own_none HF.out, ownM_none HF.out, below_blk HB.out (by omega) _⟩
  | true =>
   simp only [Bool.true_and] at HE
   cases b5 with
   | false =>
    (have HF : Hid (joinB add leaf key ⟨se, tag, name, add, rem, lf, keys, boxes, ⟨wk, ik, is, sk, ss⟩⟩ = false) := by show _ = _; rw [HE.out]; rfl)
    go_enter Tryz.func53, Tryz.ntmps53
    (go_wp2_with fail); refine r_i Later ?_; refine r_q 0 ?_ (h := by intro w' hw'; have x := (A.out.below hw').c13; go_simp; all_goals rfl); refine r_k 1 (sCmtOk_any ⟨se, tag, name, add, rem, lf, keys, boxes, ⟨wk, ik, is, sk, ss⟩⟩ _ _ _ HK.out HO.out FT.out.1 FT.out.2.1 FT.out.2.2.1 FT.out.2.2.2.1 FT.out.2.2.2.2.1 FT.out.2.2.2.2.2.1 FT.out.2.2.2.2.2.2.1 FT.out.2.2.2.2.2.2.2) ?_; rw [B1.out]; rintro e w1 ⟨rfl, hb⟩; refine s_r ?_; refine cy5 A R HK HO HB ?_; clear A R HK HO HB; intro A R HK HO HB; clear hb; refine r_q3 2 3 4 ?_; refine r_b 5 A 3 ?_; refine r_q4 6 7 8 9 ?_; refine r_b 10 A 3 ?_; refine r_q4 11 12 13 14 ?_; refine r_q 15 ?_; refine r_k 16 (sSecOk_any leaf _ M.out.1) ?_; rw [B4.out]; rintro e w1 ⟨rfl, hb⟩; refine s_r ?_; refine cy5 A R HK HO HB ?_; clear A R HK HO HB; intro A R HK HO HB; clear hb; refine r_q4 17 18 19 20 ?_; refine r_k 21 (sSecOk_any key _ M.out.2) ?_; rw [B5.out]; rintro e w1 ⟨rfl, hb⟩; refine s_r ?_; refine cy5 A R HK HO HB ?_; clear A R HK HO HB; intro A R HK HO HB; clear hb; refine r_q 22 ?_; refine r_q 23 ?_; refine r_q 24 ?_; refine r_n4 25 26 27 28 ?_; refine r_n 29 ?_; refine r_q 30 ?_; refine r_q 31 ?_; refine r_n6 32 33 34 35 36 37 ?_; refine r_q 38 ?_; refine r_e ?_
    go_wp2_with (refine wpList_store_whole rfl 62 _ _ rfl (w.heap.size + 1) noMem rfl rfl 62 _ (by exact unhide R) info_mm rfl (one_mm _ _ _ _ _ _ _ _ _ _ _) ?_)
    have l2 := load_mm (R.out.set noMem) rfl; refine bodyPost_ret (v := .tuple #[.agg noMem, .bool false]) (results_cs rfl rfl rfl l2) rfl ?_; exact ⟨_, _, ret_join HF.out rfl, own_none HF.out, ownM_none HF.out, below_blk HB.out (by omega) _⟩
   | true =>
    simp only [Bool.true_and] at HE
    by_cases h6 : mkKey leaf = lf
    rotate_left
    · rw [show decide (mkKey leaf = lf) = false by simpa using h6] at HE
      (have h62 : ((mkKey leaf).toList == lf.toList) = false := by rw [str_dec]; simpa using h6); clear h6; (have HF : Hid (joinB add leaf key ⟨se, tag, name, add, rem, lf, keys, boxes, ⟨wk, ik, is, sk, ss⟩⟩ = false) := by show _ = _; rw [HE.out]; rfl)
      go_enter Tryz.func53, Tryz.ntmps53
      (go_wp2_with fail); refine r_i Later ?_; refine r_q 0 ?_ (h := by intro w' hw'; have x := (A.out.below hw').c13; go_simp; all_goals rfl); refine r_k 1 (sCmtOk_any ⟨se, tag, name, add, rem, lf, keys, boxes, ⟨wk, ik, is, sk, ss⟩⟩ _ _ _ HK.out HO.out FT.out.1 FT.out.2.1 FT.out.2.2.1 FT.out.2.2.2.1 FT.out.2.2.2.2.1 FT.out.2.2.2.2.2.1 FT.out.2.2.2.2.2.2.1 FT.out.2.2.2.2.2.2.2) ?_; rw [B1.out]; rintro e w1 ⟨rfl, hb⟩; refine s_r ?_; refine cy5 A R HK HO HB ?_; clear A R HK HO HB; intro A R HK HO HB; clear hb; refine r_q3 2 3 4 ?_; refine r_b 5 A 3 ?_; refine r_q4 6 7 8 9 ?_; refine r_b 10 A 3 ?_; refine r_q4 11 12 13 14 ?_; refine r_q 15 ?_; refine r_k 16 (sSecOk_any leaf _ M.out.1) ?_; rw [B4.out]; rintro e w1 ⟨rfl, hb⟩; refine s_r ?_; refine cy5 A R HK HO HB ?_; clear A R HK HO HB; intro A R HK HO HB; clear hb; refine r_q4 17 18 19 20 ?_; refine r_k 21 (sSecOk_any key _ M.out.2) ?_; rw [B5.out]; rintro e w1 ⟨rfl, hb⟩; refine s_r ?_; refine cy5 A R HK HO HB ?_; clear A R HK HO HB; intro A R HK HO HB; clear hb; refine r_q4 22 23 24 25 ?_; refine r_q 27 ?_; refine r_b 28 A 5 ?_; refine r_k 26 (sMakKey_any leaf _ M.out.1) ?_; rintro e w1 ⟨rfl, hb⟩; refine s_r ?_; refine cy5 A R HK HO HB ?_; clear A R HK HO HB; intro A R HK HO HB; clear hb; refine r_q 29 ?_; refine r_q 30 ?_; refine r_q 31 ?_; refine r_n6 32 33 34 35 36 37 ?_; refine r_q 38 ?_; refine r_e ?_
      go_wp2_with (refine wpList_store_whole rfl 62 _ _ rfl (w.heap.size + 1) noMem rfl rfl 62 _ (by exact unhide R) info_mm rfl (one_mm _ _ _ _ _ _ _ _ _ _ _) ?_)
      have l2 := load_mm (R.out.set noMem) rfl; refine bodyPost_ret (v := .tuple #[.agg noMem, .bool false]) (results_cs rfl rfl rfl l2) rfl ?_; exact ⟨_, _, ret_join HF.out rfl, own_none HF.out, ownM_none HF.out, below_blk HB.out (by omega) _⟩
    rw [show decide (mkKey leaf = lf) = true by simpa using h6] at HE; simp only [Bool.true_and] at HE; have h62 : ((mkKey leaf).toList == lf.toList) = true := toList_eq.2 h6; have H6 := hide h6; clear h6
    by_cases h7 : mkKey key = wk
    rotate_left
    · rw [show decide (mkKey key = wk) = false by simpa using h7] at HE
      (have h72 : ((mkKey key).toList == wk.toList) = false := by rw [str_dec]; simpa using h7); clear h7; (have HF : Hid (joinB add leaf key ⟨se, tag, name, add, rem, lf, keys, boxes, ⟨wk, ik, is, sk, ss⟩⟩ = false) := by show _ = _; rw [HE.out]; rfl)
      go_enter Tryz.func53, Tryz.ntmps53
      (go_wp2_with fail); refine r_i Later ?_; refine r_q 0 ?_ (h := by intro w' hw'; have x := (A.out.below hw').c13; go_simp; all_goals rfl); refine r_k 1 (sCmtOk_any ⟨se, tag, name, add, rem, lf, keys, boxes, ⟨wk, ik, is, sk, ss⟩⟩ _ _ _ HK.out HO.out FT.out.1 FT.out.2.1 FT.out.2.2.1 FT.out.2.2.2.1 FT.out.2.2.2.2.1 FT.out.2.2.2.2.2.1 FT.out.2.2.2.2.2.2.1 FT.out.2.2.2.2.2.2.2) ?_; rw [B1.out]; rintro e w1 ⟨rfl, hb⟩; refine s_r ?_; refine cy5 A R HK HO HB ?_; clear A R HK HO HB; intro A R HK HO HB; clear hb; refine r_q3 2 3 4 ?_; refine r_b 5 A 3 ?_; refine r_q4 6 7 8 9 ?_; refine r_b 10 A 3 ?_; refine r_q4 11 12 13 14 ?_; refine r_q 15 ?_; refine r_k 16 (sSecOk_any leaf _ M.out.1) ?_; rw [B4.out]; rintro e w1 ⟨rfl, hb⟩; refine s_r ?_; refine cy5 A R HK HO HB ?_; clear A R HK HO HB; intro A R HK HO HB; clear hb; refine r_q4 17 18 19 20 ?_; refine r_k 21 (sSecOk_any key _ M.out.2) ?_; rw [B5.out]; rintro e w1 ⟨rfl, hb⟩; refine s_r ?_; refine cy5 A R HK HO HB ?_; clear A R HK HO HB; intro A R HK HO HB; clear hb; refine r_q4 22 23 24 25 ?_; refine r_q 27 ?_; refine r_b 28 A 5 ?_; refine r_k 26 (sMakKey_any leaf _ M.out.1) ?_; rintro e w1 ⟨rfl, hb⟩; refine s_r ?_; refine cy5 A R HK HO HB ?_; clear A R HK HO HB; intro A R HK HO HB; clear hb; refine r_q4 29 30 31 32 ?_; refine r_q2 34 35 ?_; refine r_b 36 A 8 ?_; refine r_k 33 (sMakKey_any key _ M.out.2) ?_; rintro e w1 ⟨rfl, hb⟩; refine s_r ?_; refine cy5 A R HK HO HB ?_; clear A R HK HO HB; intro A R HK HO HB; clear hb; refine r_q2 37 38 ?_; refine r_e ?_
      go_wp2_with (refine wpList_store_whole rfl 62 _ _ rfl (w.heap.size + 1) noMem rfl rfl 62 _ (by exact unhide R) info_mm rfl (one_mm _ _ _ _ _ _ _ _ _ _ _) ?_)
      have l2 := load_mm (R.out.set noMem) rfl; refine bodyPost_ret (v := .tuple #[.agg noMem, .bool false]) (results_cs rfl rfl rfl l2) rfl ?_; exact ⟨_, _, ret_join HF.out rfl, own_none HF.out, ownM_none HF.out, below_blk HB.out (by omega) _⟩
    rw [show decide (mkKey key = wk) = true by simpa using h7] at HE; simp only [Bool.true_and] at HE; have h72 : ((mkKey key).toList == wk.toList) = true := toList_eq.2 h7; clear h7
    go_enter Tryz.func53, Tryz.ntmps53
    (go_wp2_with fail); refine r_i Later ?_; refine r_q 0 ?_ (h := by intro w' hw'; have x := (A.out.below hw').c13; go_simp; all_goals rfl); refine r_k 1 (sCmtOk_any ⟨se, tag, name, add, rem, lf, keys, boxes, ⟨wk, ik, is, sk, ss⟩⟩ _ _ _ HK.out HO.out FT.out.1 FT.out.2.1 FT.out.2.2.1 FT.out.2.2.2.1 FT.out.2.2.2.2.1 FT.out.2.2.2.2.2.1 FT.out.2.2.2.2.2.2.1 FT.out.2.2.2.2.2.2.2) ?_; rw [B1.out]; rintro e w1 ⟨rfl, hb⟩; refine s_r ?_; refine cy5 A R HK HO HB ?_; clear A R HK HO HB; intro A R HK HO HB; clear hb; refine r_q3 2 3 4 ?_; refine r_b 5 A 3 ?_; refine r_q4 6 7 8 9 ?_; refine r_b 10 A 3 ?_; refine r_q4 11 12 13 14 ?_; refine r_q 15 ?_; refine r_k 16 (sSecOk_any leaf _ M.out.1) ?_; rw [B4.out]; rintro e w1 ⟨rfl, hb⟩; refine s_r ?_; refine cy5 A R HK HO HB ?_; clear A R HK HO HB; intro A R HK HO HB; clear hb; refine r_q4 17 18 19 20 ?_; refine r_k 21 (sSecOk_any key _ M.out.2) ?_; rw [B5.out]; rintro e w1 ⟨rfl, hb⟩; refine s_r ?_; refine cy5 A R HK HO HB ?_; clear A R HK HO HB; intro A R HK HO HB; clear hb; refine r_q4 22 23 24 25 ?_; refine r_q 27 ?_; refine r_b 28 A 5 ?_; refine r_k 26 (sMakKey_any leaf _ M.out.1) ?_; rintro e w1 ⟨rfl, hb⟩; refine s_r ?_; refine cy5 A R HK HO HB ?_; clear A R HK HO HB; intro A R HK HO HB; clear hb; refine r_q4 29 30 31 32 ?_; refine r_q2 34 35 ?_; refine r_b 36 A 8 ?_; refine r_k 33 (sMakKey_any key _ M.out.2) ?_; rintro e w1 ⟨rfl, hb⟩; refine s_r ?_; refine cy5 A R HK HO HB ?_; clear A R HK HO HB; intro A R HK HO HB; clear hb; refine r_q2 37 38 ?_; refine r_e ?_; clear h62 h72 hw2; have HCM := hide B1.out; have hkl : keys.length = 15 := (treOk_iff.1 (cmtOk_keys HCM.out)).1; have HKL := hide hkl; have hse := cmtOk_sender HCM.out; have had := cmtOk_add HCM.out; simp only at hse had; have HSE := hide hse; have HAD : Hid (0 ≤ add ∧ add ≤ 7) := ⟨by omega, had.2.1⟩; have HTG := hide (cmtOk_tag HCM.out); simp only at HTG; obtain ⟨np, hnp, hmp⟩ := meet_place HAD.out HSE.out; have HMP := hide hmp; have HNP := hide hnp; clear hse had hnp hmp hkl; obtain ⟨i0, hi, hz0, hz1, hz2⟩ := info_parts info_str2; have hI := hide (And.intro hi (And.intro hz0 (And.intro hz1 hz2))); obtain ⟨i1, hi, hz0, hz1, hz2⟩ := info_parts info_mo
    have hJ := hide (And.intro hi (And.intro hz0 (And.intro hz1 hz2))); clear hi hz0 hz1 hz2; have hs1 := HB.out.size; have c6 := (A.out.alloc (.cells #[] 9)).cell 6; simp only [l_a, l_b, l_c] at c6; have E0 := hide (own_empty w.heap.size w1 hs1); have HN := hide (SRow.news (HK.out.below ((Below.refl w1.heap.size w1).alloc (Nat.le_refl _) (.cells #[] 9)))); generalize hkl : keys.length = kl at *; have HKL2 := hide hkl; (have hkl2 : kl ≤ 15 := by have := HKL.out; omega); clear hkl
    go_wp2_with (at_builtin; refine wpList_append_full _ rfl _ _ 35 rfl w.heap.size 9 i0 (.string ⟨#[]⟩) 1 16 Tryz.underlying35 hI.out.1 hI.out.2.1 hI.out.2.2.1 hI.out.2.2.2 rfl (by decide) w1.heap.size 0 [] rfl E0.out _ kl (keys.map Value.string) rfl HN.out (by unfold maxLen; omega) (by omega) (by simp; omega) ?_)
    intro g1 c1 w2 hown hlat
    have K1 : Hid (Own w.heap.size w2 (.slice (some ⟨g1, 0, none⟩) kl c1) keys) := by
     show Own _ _ _ _
     unfold Own; rw [HKL2.out]
     simpa using hown
    have hb : Below w1.heap.size w1 w2 := ((Below.refl _ _).alloc (Nat.le_refl _) _).trans (Below.mono hlat (by simp)); clear hown hlat E0 HN c6 hs1; refine cy5 A R HK HO HB ?_; clear A R HK HO HB; intro A R HK HO HB; clear hb; have hb := (Below.refl w2.heap.size w2).alloc (Nat.le_refl _) (.cells #[.slice (some ⟨g1, 0, none⟩) kl c1] 59); have TB := hide (Blk.new w2 59 #[.slice (some ⟨g1, 0, none⟩) kl c1]); refine cy6 A R HK HO K1 HB ?_; clear A R HK HO K1 HB; intro A R HK HO K1 HB; clear hb; have c12 := A.out.cell 12; simp only [l_a, l_b, l_c] at c12
    by_cases hss : ss.size ≤ 292
    rotate_left
    · rw [show decide (ss.size ≤ 292) = false by simpa using hss] at HE
      (have HF : Hid (joinB add leaf key ⟨se, tag, name, add, rem, lf, keys, boxes, ⟨wk, ik, is, sk, ss⟩⟩ = false) := by show _ = _; rw [HE.out]; rfl); (have hs2 : (292 : Int) < (ss.size : Int) := by omega)
      go_wp2_with (refine wpList_store_whole rfl 62 _ _ rfl (w.heap.size + 1) noMem rfl rfl 62 _ (by exact unhide R) info_mm rfl (one_mm _ _ _ _ _ _ _ _ _ _ _) ?_)
      have l2 := load_mm (R.out.set noMem) rfl; refine bodyPost_ret (v := .tuple #[.agg noMem, .bool false]) (results_cs rfl rfl rfl l2) rfl ?_; exact ⟨_, _, ret_join HF.out rfl, own_none HF.out, ownM_none HF.out, below_blk HB.out (by omega) _⟩
    rw [show decide (ss.size ≤ 292) = true by simpa using hss] at HE; simp only [Bool.true_and] at HE; (have hs2 : decide ((292 : Int) < (ss.size : Int)) = false := by simp; omega); have HSS := hide hss; have hs3 := HB.out.size; (go_wp2_with fail); replace A : Hid (Blk (w2.alloc (.cells #[.slice (some ⟨g1, 0, none⟩) kl c1] 59)).drew w.heap.size 57 (cmtC se tag name add rem lf (.slice a1 kl p1) (.slice a2 boxes.length p2) wk ik is sk ss)) := A.out.drew; replace R := hide R.out.drew; replace HK := hide (SRow.drew HK.out); replace HB := hide HB.out.drew; replace TB := hide TB.out.drew; replace K1 : Hid (Own w.heap.size (w2.alloc (.cells #[.slice (some ⟨g1, 0, none⟩) kl c1] 59)).drew (.slice (some ⟨g1, 0, none⟩) kl c1) keys) := unhide K1; clear c12 hs2 HO; refine r_i Later ?_; refine r_q2 0 2 ?_; refine r_b 3 A 0 ?_; refine r_q 6 ?_; refine r_k 1 (sTreLeaf_any add _) ?_; rintro e wz ⟨rfl, rfl⟩; refine s_r ?_; refine r_k 4 (sTreLeaf_any se _) ?_; rintro e wz ⟨rfl, rfl⟩; refine s_r ?_; refine r_k 5 (sTreMeet_any _ _ _) ?_; rw [HMP.out]; rintro e wz ⟨rfl, rfl⟩; refine s_r ?_; refine r_k 7 (l4Path_any np HNP.out ss (by have := HSS.out; omega) _) ?_; rintro e w3 ⟨pv, rfl, hop, hb⟩; have L1 := hide hop; clear hop; refine s_r ?_; refine cy6 A R HK K1 TB HB ?_; clear A R HK K1 TB HB; intro A R HK K1 TB HB; clear hb; refine r_q 8 ?_; refine r_e ?_; have L2 := hide L1.out; replace A : Hid (Blk w3.drew w.heap.size 57 (cmtC se tag name add rem lf (.slice a1 kl p1) (.slice a2 boxes.length p2) wk ik is sk ss)) := A.out.drew; replace R := hide R.out.drew; replace HB := hide HB.out.drew; replace TB := hide TB.out.drew; replace K1 : Hid (Own w.heap.size w3.drew (.slice (some ⟨g1, 0, none⟩) kl c1) keys) := unhide K1; (have hpl : (pathOf (chainOf (np : Int)) ss).length ≤ 4 := by rw [pathOf_len]; exact chain_len np HNP.out); (have HJO : Hid (joinOwn add leaf ⟨se, tag, name, add, rem, lf, keys, boxes, ⟨wk, ik, is, sk, ss⟩⟩ = (leafOf add, leaf) :: pathOf (chainOf (np : Int)) ss) := by show _ = _; unfold joinOwn; simp only; rw [HMP.out]); have HPS : Hid (∀ o ∈ pathOf (chainOf (np : Int)) ss, o.2.size ≤ 300) := path_le _ _ (by have := HSS.out; omega); generalize pathOf (chainOf (np : Int)) ss = pt at *; obtain ⟨po, pc, rfl⟩ := row_form' L1.out; have L3 : Hid (w3.drew.ownsRow (w2.alloc (.cells #[.slice (some ⟨g1, 0, none⟩) kl c1] 59)).drew.heap.size 134 2 (.slice po pt.length pc) pt.length (mcells pt)) := unhide L1; obtain ⟨pl, hpq⟩ : ∃ pl, pt.length = pl := ⟨_, rfl⟩
    rw [hpq] at L3 hpl ⊢; have HPQ := hide hpq; clear hpq L1 L2 HK; obtain ⟨pv, hpv⟩ : ∃ pv, Value.slice po pl pc = pv := ⟨_, rfl⟩; rw [hpv] at L3 ⊢; clear hpv; have hcn := countN_le tag; have htg := HTG.out; (have i9 : IntKind.i64.wrap ((countN tag : Int) + 1) = (countN tag : Int) + 1 := by simp [IntKind.wrap, IntKind.bits, IntKind.signed]; omega); (go_wp2_with fail); refine wp_region_lit (by kernel_rfl) (fun d v u => match d with | 75 => v = .int .i64 add | 76 => v = .agg #[.slice (some ⟨g1, 0, none⟩) kl c1] | 77 => v = .int .i64 add | 78 => v = .int .i64 (leafOf add) | 79 => v = .string leaf | 80 => v = .agg #[.int .i64 (leafOf add), .string leaf] | 81 => ∃ g, v = .slice (some ⟨g, 0, none⟩) 1 1 ∧ u.ownsRow w.heap.size 134 2 (.slice (some ⟨g, 0, none⟩) 1 1) 1 [.int .i64 (leafOf add), .string leaf] | 82 => v = pv | 83 => ∃ g c, v = .slice (some ⟨g, 0, none⟩) (1 + pl) c ∧ u.ownsRow w.heap.size 134 2 (.slice (some ⟨g, 0, none⟩) (1 + pl) c) (1 + pl) ([.int .i64 (leafOf add), .string leaf] ++ mcells pt) | 84 => v = .pointer (some ⟨w.heap.size, 1, none⟩) | 85 => v = .string tag | 86 => v = .int .i64 (countN tag : Int) | 87 => v = .int .i64 ((countN tag : Int) + 1) | 88 => v = .pointer (some ⟨w.heap.size, 8, none⟩) | 89 => v = .pointer (some ⟨w.heap.size, 9, none⟩) | 90 => v = .pointer (some ⟨w.heap.size, 10, none⟩) | 91 => v = .string is | 92 => v = .pointer (some ⟨w.heap.size, 1, none⟩) | 93 => v = .string tag | 94 => v = .pointer (some ⟨w.heap.size, 2, none⟩) | 95 => v = .string name | 96 => v = .string (tag ++ name) | 97 => ∃ g c, v = .agg (memC true add (.slice (some ⟨g1, 0, none⟩) kl c1) (.slice (some ⟨g, 0, none⟩) (1 + pl) c) ((countN tag : Int) + 1) is (tag ++ name)) ∧ u.ownsRow w.heap.size 134 2 (.slice (some ⟨g, 0, none⟩) (1 + pl) c) (1 + pl) ([.int .i64 (leafOf add), .string leaf] ++ mcells pt) | 13 => ∃ b, v = .pointer (some ⟨b, 0, none⟩) ∧ w3.heap.size ≤ b ∧ Blk u b 62 noMem | _ => True) 103 (by kernel_rfl) (by kernel_rfl) (by kernel_rfl) (by decide) (by kernel_rfl) rfl ?hT ?hops ?hlast
    case hT =>
     intro d v u u' hl
     split
     · exact fun h => h
     · exact fun h => h
     · exact fun h => h
     · exact fun h => h
     · exact fun h => h
     · exact fun h => h
     · rintro ⟨g, h1, h2⟩; exact ⟨g, h1, own_below' h2 hl⟩
     · exact fun h => h
     · rintro ⟨g, c, h1, h2⟩; exact ⟨g, c, h1, own_below' h2 hl⟩
     · exact fun h => h
     · exact fun h => h
     · exact fun h => h
     · exact fun h => h
     · exact fun h => h
     · exact fun h => h
     · exact fun h => h
     · exact fun h => h
     · exact fun h => h
     · exact fun h => h
     · exact fun h => h
     · exact fun h => h
     · exact fun h => h
     · rintro ⟨g, c, h1, h2⟩; exact ⟨g, c, h1, own_below' h2 hl⟩
     · rintro ⟨b, h1, h2, h3⟩; exact ⟨b, h1, h2, h3.below hl⟩
     · exact fun h => h
    case hops =>
     intro i o a u hi ho hK hL hd
     match i, ho with
     | 0, ho =>
      simp at ho
      subst ho; have k0 : a.tmps.getD 0 undef = .int .i64 add := hK.2.2 0 (by kernel_rfl); clear hd; go_simp; exact ⟨_, rfl, rfl, laterPre.refl _⟩
     | 1, ho =>
      simp at ho
      subst ho; have k10 : a.tmps.getD 10 undef = .pointer (some ⟨w2.heap.size, 0, none⟩) := hK.2.2 10 (by kernel_rfl); clear hd; have hx := Blk.below TB.out hL; have x0 := hx.cell 0; simp only [List.getElem?_toArray, List.getElem?_cons_zero] at x0; go_simp; exact ⟨_, rfl, rfl, laterPre.refl _⟩
     | 2, ho =>
      simp at ho
      subst ho; have k0 : a.tmps.getD 0 undef = .int .i64 add := hK.2.2 0 (by kernel_rfl); clear hd; go_simp; exact ⟨_, rfl, rfl, laterPre.refl _⟩
     | 3, ho =>
      simp at ho
      subst ho; have t77 : (a.tmps.getD 77 undef) = .int .i64 add := hd { on := 2, ground := .data } (by simp) rfl _ 77 rfl rfl; clear hd; go_simp; refine (sTreLeaf_any add _).mono ?_; rintro e wz ⟨rfl, rfl⟩; go_simp; exact ⟨_, rfl, rfl, laterPre.refl _⟩
     | 4, ho =>
      simp at ho
      subst ho; have k1 : a.tmps.getD 1 undef = .string leaf := hK.2.2 1 (by kernel_rfl); clear hd; go_simp; exact ⟨_, rfl, rfl, laterPre.refl _⟩
     | 5, ho =>
      simp at ho
      subst ho; have t78 : (a.tmps.getD 78 undef) = .int .i64 (leafOf add) := hd { on := 3, ground := .data } (by simp) rfl _ 78 rfl rfl; (have e78 : a.tmps[78]?.getD undef = .int .i64 (leafOf add) := by rw [← t78]; simp); have t79 : (a.tmps.getD 79 undef) = .string leaf := hd { on := 4, ground := .data } (by simp) rfl _ 79 rfl rfl; (have e79 : a.tmps[79]?.getD undef = .string leaf := by rw [← t79]; simp); clear hd; go_simp; exact ⟨_, rfl, rfl, laterPre.refl _⟩
     | 6, ho =>
      simp at ho
      subst ho; have t80 : (a.tmps.getD 80 undef) = .agg #[.int .i64 (leafOf add), .string leaf] := hd { on := 5, ground := .data } (by simp) rfl _ 80 rfl rfl; (have e80 : a.tmps[80]?.getD undef = .agg #[.int .i64 (leafOf add), .string leaf] := by rw [← t80]; simp); clear hd; have hsz : w.heap.size ≤ u.heap.size := Nat.le_trans HB.out.size hL.size; go_simp; exact ⟨_, rfl, ⟨_, rfl, World.ownsRow_lit (base := w.heap.size) (e := 134) (size := 2) _ #[.int .i64 (leafOf add), .string leaf] 1 hsz (by unfold maxLen; omega) rfl⟩, later_alloc _ _⟩
     | 7, ho =>
      simp at ho
      subst ho; have k12 : a.tmps.getD 12 undef = pv := hK.2.2 12 (by kernel_rfl); clear hd; go_simp; exact ⟨_, rfl, rfl, laterPre.refl _⟩
     | 8, ho =>
      simp at ho
      subst ho; have t81 : ∃ g, (a.tmps.getD 81 undef) = .slice (some ⟨g, 0, none⟩) 1 1 ∧ u.ownsRow w.heap.size 134 2 (.slice (some ⟨g, 0, none⟩) 1 1) 1 [.int .i64 (leafOf add), .string leaf] := hd { on := 6, ground := .data } (by simp) rfl _ 81 rfl rfl; have t82 : (a.tmps.getD 82 undef) = pv := hd { on := 7, ground := .data } (by simp) rfl _ 82 rfl rfl; clear hd; have hsz : w.heap.size ≤ u.heap.size := Nat.le_trans HB.out.size hL.size; obtain ⟨g, t81, ow⟩ := t81; refine wp_append_full u _ _ 60 rfl w.heap.size 134 i1 (.agg #[.int .i64 0, .string ⟨#[]⟩]) 2 24 underMo hJ.out.1 hJ.out.2.1 hJ.out.2.2.1 hJ.out.2.2.2 rfl (by decide) g 1 _ t81 ow pv pl (mcells pt) t82 (own_news (own_below' L3.out hL)) (by unfold maxLen; omega) (by omega) hsz ?_; intro g' c' w' h1 h2; exact ⟨_, rfl, fun _ h => by cases h; exact ⟨g', c', rfl, h1⟩, h2⟩
     | 9, ho =>
      simp at ho
      subst ho; have k7 : a.tmps.getD 7 undef = .pointer (some ⟨w.heap.size, 0, none⟩) := hK.2.2 7 (by kernel_rfl); clear hd; go_simp; exact ⟨_, rfl, rfl, laterPre.refl _⟩
     | 10, ho =>
      simp at ho
      subst ho; have t84 : (a.tmps.getD 84 undef) = .pointer (some ⟨w.heap.size, 1, none⟩) := hd { on := 9, ground := .data } (by simp) rfl _ 84 rfl rfl; clear hd; have hx := Blk.below A.out hL; have x1 := hx.cell 1; simp only [l_a, l_b, l_c] at x1; go_simp; exact ⟨_, rfl, rfl, laterPre.refl _⟩
     | 11, ho =>
      simp at ho
      subst ho; have t85 : (a.tmps.getD 85 undef) = .string tag := hd { on := 10, ground := .data } (by simp) rfl _ 85 rfl rfl; clear hd; go_simp; refine (l5Count_any tag _ (by omega)).mono ?_; rintro e wz ⟨rfl, rfl⟩; go_simp; exact ⟨_, rfl, rfl, laterPre.refl _⟩
     | 12, ho =>
      simp at ho
      subst ho; have t86 : (a.tmps.getD 86 undef) = .int .i64 (countN tag : Int) := hd { on := 11, ground := .data } (by simp) rfl _ 86 rfl rfl; clear hd; go_simp; exact ⟨_, rfl, rfl, laterPre.refl _⟩
     | 13, ho =>
      simp at ho
      subst ho; have k7 : a.tmps.getD 7 undef = .pointer (some ⟨w.heap.size, 0, none⟩) := hK.2.2 7 (by kernel_rfl); clear hd; go_simp; exact ⟨_, rfl, rfl, laterPre.refl _⟩
     | 14, ho =>
      simp at ho
      subst ho; have t88 : (a.tmps.getD 88 undef) = .pointer (some ⟨w.heap.size, 8, none⟩) := hd { on := 13, ground := .data } (by simp) rfl _ 88 rfl rfl; clear hd; go_simp; exact ⟨_, rfl, rfl, laterPre.refl _⟩
     | 15, ho =>
      simp at ho
      subst ho; have t89 : (a.tmps.getD 89 undef) = .pointer (some ⟨w.heap.size, 9, none⟩) := hd { on := 14, ground := .data } (by simp) rfl _ 89 rfl rfl; clear hd; go_simp; exact ⟨_, rfl, rfl, laterPre.refl _⟩
     | 16, ho =>
      simp at ho
      subst ho; have t90 : (a.tmps.getD 90 undef) = .pointer (some ⟨w.heap.size, 10, none⟩) := hd { on := 15, ground := .data } (by simp) rfl _ 90 rfl rfl; clear hd; have hx := Blk.below A.out hL; have x10 := hx.cell 10; simp only [l_a, l_b, l_c] at x10; go_simp; exact ⟨_, rfl, rfl, laterPre.refl _⟩
     | 17, ho =>
      simp at ho
      subst ho; have k7 : a.tmps.getD 7 undef = .pointer (some ⟨w.heap.size, 0, none⟩) := hK.2.2 7 (by kernel_rfl); clear hd; go_simp; exact ⟨_, rfl, rfl, laterPre.refl _⟩
     | 18, ho =>
      simp at ho
      subst ho; have t92 : (a.tmps.getD 92 undef) = .pointer (some ⟨w.heap.size, 1, none⟩) := hd { on := 17, ground := .data } (by simp) rfl _ 92 rfl rfl; clear hd; have hx := Blk.below A.out hL; have x1 := hx.cell 1; simp only [l_a, l_b, l_c] at x1; go_simp; exact ⟨_, rfl, rfl, laterPre.refl _⟩
     | 19, ho =>
      simp at ho
      subst ho; have k7 : a.tmps.getD 7 undef = .pointer (some ⟨w.heap.size, 0, none⟩) := hK.2.2 7 (by kernel_rfl); clear hd; go_simp; exact ⟨_, rfl, rfl, laterPre.refl _⟩
     | 20, ho =>
      simp at ho
      subst ho; have t94 : (a.tmps.getD 94 undef) = .pointer (some ⟨w.heap.size, 2, none⟩) := hd { on := 19, ground := .data } (by simp) rfl _ 94 rfl rfl; clear hd; have hx := Blk.below A.out hL; have x2 := hx.cell 2; simp only [l_a, l_b, l_c] at x2; go_simp; exact ⟨_, rfl, rfl, laterPre.refl _⟩
     | 21, ho =>
      simp at ho
      subst ho; have t93 : (a.tmps.getD 93 undef) = .string tag := hd { on := 18, ground := .data } (by simp) rfl _ 93 rfl rfl; (have e93 : a.tmps[93]?.getD undef = .string tag := by rw [← t93]; simp); have t95 : (a.tmps.getD 95 undef) = .string name := hd { on := 20, ground := .data } (by simp) rfl _ 95 rfl rfl; (have e95 : a.tmps[95]?.getD undef = .string name := by rw [← t95]; simp); clear hd; go_simp; rw [if_neg (by omega)]; exact ⟨_, rfl, rfl, laterPre.refl _⟩
     | 22, ho =>
      simp at ho
      subst ho; have t75 : (a.tmps.getD 75 undef) = .int .i64 add := hd { on := 0, ground := .data } (by simp) rfl _ 75 rfl rfl; (have e75 : a.tmps[75]?.getD undef = .int .i64 add := by rw [← t75]; simp); have t76 : (a.tmps.getD 76 undef) = .agg #[.slice (some ⟨g1, 0, none⟩) kl c1] := hd { on := 1, ground := .data } (by simp) rfl _ 76 rfl rfl; (have e76 : a.tmps[76]?.getD undef = .agg #[.slice (some ⟨g1, 0, none⟩) kl c1] := by rw [← t76]; simp); have t83 : ∃ g c, (a.tmps.getD 83 undef) = .slice (some ⟨g, 0, none⟩) (1 + pl) c ∧ u.ownsRow w.heap.size 134 2 (.slice (some ⟨g, 0, none⟩) (1 + pl) c) (1 + pl) ([.int .i64 (leafOf add), .string leaf] ++ mcells pt) := hd { on := 8, ground := .data } (by simp) rfl _ 83 rfl rfl; have t87 : (a.tmps.getD 87 undef) = .int .i64 ((countN tag : Int) + 1) := hd { on := 12, ground := .data } (by simp) rfl _ 87 rfl rfl; (have e87 : a.tmps[87]?.getD undef = .int .i64 ((countN tag : Int) + 1) := by rw [← t87]; simp); have t91 : (a.tmps.getD 91 undef) = .string is := hd { on := 16, ground := .data } (by simp) rfl _ 91 rfl rfl; (have e91 : a.tmps[91]?.getD undef = .string is := by rw [← t91]; simp); have t96 : (a.tmps.getD 96 undef) = .string (tag ++ name) := hd { on := 21, ground := .data } (by simp) rfl _ 96 rfl rfl; (have e96 : a.tmps[96]?.getD undef = .string (tag ++ name) := by rw [← t96]; simp); clear hd; obtain ⟨g, c, t83, ow⟩ := t83; (have e83 : a.tmps[83]?.getD undef = .slice (some ⟨g, 0, none⟩) (1 + pl) c := by rw [← t83]; simp); go_simp; exact ⟨_, rfl, ⟨g, c, rfl, ow⟩, laterPre.refl _⟩
     | 23, ho =>
      simp at ho
      subst ho; clear hd; have hsz : w3.heap.size ≤ u.heap.size := hL.size; go_simp; exact ⟨_, rfl, ⟨_, rfl, hsz, Blk.new u _ _⟩, later_alloc _ _⟩
     | j + 24, ho =>
      have : j + 24 < 24 := hi
      omega
    case hlast =>
     intro o a u ho hK hL hd
     simp at ho
     subst ho; have t75 : (a.tmps.getD 75 undef) = .int .i64 add := hd 0 _ 75 (by simp) rfl rfl; have t76 : (a.tmps.getD 76 undef) = .agg #[.slice (some ⟨g1, 0, none⟩) kl c1] := hd 1 _ 76 (by simp) rfl rfl; have t77 : (a.tmps.getD 77 undef) = .int .i64 add := hd 2 _ 77 (by simp) rfl rfl; have t78 : (a.tmps.getD 78 undef) = .int .i64 (leafOf add) := hd 3 _ 78 (by simp) rfl rfl; have t79 : (a.tmps.getD 79 undef) = .string leaf := hd 4 _ 79 (by simp) rfl rfl; have t80 : (a.tmps.getD 80 undef) = .agg #[.int .i64 (leafOf add), .string leaf] := hd 5 _ 80 (by simp) rfl rfl; have t81 : ∃ g, (a.tmps.getD 81 undef) = .slice (some ⟨g, 0, none⟩) 1 1 ∧ u.ownsRow w.heap.size 134 2 (.slice (some ⟨g, 0, none⟩) 1 1) 1 [.int .i64 (leafOf add), .string leaf] := hd 6 _ 81 (by simp) rfl rfl; have t82 : (a.tmps.getD 82 undef) = pv := hd 7 _ 82 (by simp) rfl rfl; have t83 : ∃ g c, (a.tmps.getD 83 undef) = .slice (some ⟨g, 0, none⟩) (1 + pl) c ∧ u.ownsRow w.heap.size 134 2 (.slice (some ⟨g, 0, none⟩) (1 + pl) c) (1 + pl) ([.int .i64 (leafOf add), .string leaf] ++ mcells pt) := hd 8 _ 83 (by simp) rfl rfl; have t84 : (a.tmps.getD 84 undef) = .pointer (some ⟨w.heap.size, 1, none⟩) := hd 9 _ 84 (by simp) rfl rfl; have t85 : (a.tmps.getD 85 undef) = .string tag := hd 10 _ 85 (by simp) rfl rfl; have t86 : (a.tmps.getD 86 undef) = .int .i64 (countN tag : Int) := hd 11 _ 86 (by simp) rfl rfl; have t87 : (a.tmps.getD 87 undef) = .int .i64 ((countN tag : Int) + 1) := hd 12 _ 87 (by simp) rfl rfl; have t88 : (a.tmps.getD 88 undef) = .pointer (some ⟨w.heap.size, 8, none⟩) := hd 13 _ 88 (by simp) rfl rfl; have t89 : (a.tmps.getD 89 undef) = .pointer (some ⟨w.heap.size, 9, none⟩) := hd 14 _ 89 (by simp) rfl rfl; have t90 : (a.tmps.getD 90 undef) = .pointer (some ⟨w.heap.size, 10, none⟩) := hd 15 _ 90 (by simp) rfl rfl; have t91 : (a.tmps.getD 91 undef) = .string is := hd 16 _ 91 (by simp) rfl rfl; have t92 : (a.tmps.getD 92 undef) = .pointer (some ⟨w.heap.size, 1, none⟩) := hd 17 _ 92 (by simp) rfl rfl; have t93 : (a.tmps.getD 93 undef) = .string tag := hd 18 _ 93 (by simp) rfl rfl; have t94 : (a.tmps.getD 94 undef) = .pointer (some ⟨w.heap.size, 2, none⟩) := hd 19 _ 94 (by simp) rfl rfl; have t95 : (a.tmps.getD 95 undef) = .string name := hd 20 _ 95 (by simp) rfl rfl; have t96 : (a.tmps.getD 96 undef) = .string (tag ++ name) := hd 21 _ 96 (by simp) rfl rfl; have t97 : ∃ g c, (a.tmps.getD 97 undef) = .agg (memC true add (.slice (some ⟨g1, 0, none⟩) kl c1) (.slice (some ⟨g, 0, none⟩) (1 + pl) c) ((countN tag : Int) + 1) is (tag ++ name)) ∧ u.ownsRow w.heap.size 134 2 (.slice (some ⟨g, 0, none⟩) (1 + pl) c) (1 + pl) ([.int .i64 (leafOf add), .string leaf] ++ mcells pt) := hd 22 _ 97 (by simp) rfl rfl; have t13 : ∃ b, (a.tmps.getD 13 undef) = .pointer (some ⟨b, 0, none⟩) ∧ w3.heap.size ≤ b ∧ Blk u b 62 noMem := hd 23 _ 13 (by simp) rfl rfl; clear hd; have hop := act_open hK rfl (ds := [75, 76, 77, 78, 79, 80, 81, 82, 83, 84, 85, 86, 87, 88, 89, 90, 91, 92, 93, 94, 95, 96, 97, 13]) (by kernel_rfl)
     obtain ⟨g, c, t97, ow⟩ := t97; obtain ⟨g8, c8, t83, _⟩ := t83; obtain ⟨g7, t81, _⟩ := t81; obtain ⟨b13, t13, hb13, blk⟩ := t13; have r2 := R.out.below hL; have hrl := R.out.lt; have h3s : w3.drew.heap.size = w3.heap.size := rfl; have k2 := own_below' K1.out hL; have hb2 := HB.out.trans (Below.mono hL HB.out.size); have hws := HB.out.size; refine wp_store_row 62 _ _ rfl b13 (memC true add (.slice (some ⟨g1, 0, none⟩) kl c1) (.slice (some ⟨g, 0, none⟩) (1 + pl) c) ((countN tag : Int) + 1) is (tag ++ name)) t13 t97 62 noMem blk info_mm rfl (one_mm _ _ _ _ _ _ _ _ _ _ _) ?_; have R4 := hide (r2.other (b' := b13) (by omega) (memC true add (.slice (some ⟨g1, 0, none⟩) kl c1) (.slice (some ⟨g, 0, none⟩) (1 + pl) c) ((countN tag : Int) + 1) is (tag ++ name))); have BM := hide (blk.set (memC true add (.slice (some ⟨g1, 0, none⟩) kl c1) (.slice (some ⟨g, 0, none⟩) (1 + pl) c) ((countN tag : Int) + 1) is (tag ++ name))); have K4 : Hid (Own w.heap.size _ _ keys) := row_blk k2 blk (by decide) (memC true add (.slice (some ⟨g1, 0, none⟩) kl c1) (.slice (some ⟨g, 0, none⟩) (1 + pl) c) ((countN tag : Int) + 1) is (tag ++ name)); have O4 := hide (row_blk ow blk (by decide) (memC true add (.slice (some ⟨g1, 0, none⟩) kl c1) (.slice (some ⟨g, 0, none⟩) (1 + pl) c) ((countN tag : Int) + 1) is (tag ++ name))); have HB4 := hide (below_blk hb2 (b := b13) (by omega) (memC true add (.slice (some ⟨g1, 0, none⟩) kl c1) (.slice (some ⟨g, 0, none⟩) (1 + pl) c) ((countN tag : Int) + 1) is (tag ++ name))); (have hb13' : w.heap.size ≤ b13 := by omega); clear r2 k2 hb2 ow blk hL hrl h3s; generalize u.setRow b13 (memC true add (.slice (some ⟨g1, 0, none⟩) kl c1) (.slice (some ⟨g, 0, none⟩) (1 + pl) c) ((countN tag : Int) + 1) is (tag ++ name)) = u2 at *
     change Exit.then _ _ Exit.normal a _
     rw [hop]; simp only [List.map_cons, List.map_nil, t75, t76, t77, t78, t79, t80, t81, t82, t83, t84, t85, t86, t87, t88, t89, t90, t91, t92, t93, t94, t95, t96, t97, t13, putAll, Act.put, List.setIfInBounds_toArray, List.set_cons_zero, List.set_cons_succ]; clear hop hK t75 t76 t77 t78 t79 t80 t81 t82 t83 t84 t85 t86 t87 t88 t89 t90 t91 t92 t93 t94 t95 t96 t97 t13
     have hOM : OwnM w.heap.size u2 (.slice (some ⟨g, 0, none⟩) (1 + pl) c) (joinOwn add leaf ⟨se, tag, name, add, rem, lf, keys, boxes, ⟨wk, ik, is, sk, ss⟩⟩) := by
      unfold OwnM; rw [HJO.out, List.length_cons, show pt.length + 1 = 1 + pl by rw [HPQ.out]; omega]; exact unhide O4
     have O5 := hide hOM; have S5 := hide K4.out.srow
     have HSM : Hid (∀ o ∈ joinOwn add leaf ⟨se, tag, name, add, rem, lf, keys, boxes, ⟨wk, ik, is, sk, ss⟩⟩, o.2.size ≤ maxLen) := by
      intro o ho; rw [HJO.out] at ho
      rcases List.mem_cons.1 ho with rfl | ho
      · exact M.out.1
      · exact Nat.le_trans (HPS.out o ho) (by unfold maxLen; omega)
     (have HSZ : Hid ((tag ++ name).size ≤ maxLen) := by show _ ≤ _; rw [ByteArray.size_append]; exact Nat.le_trans HTG.out (by unfold maxLen; omega)); have L9 := hide (load_mm BM.out rfl); replace R := R4; replace HB := HB4; clear hOM O4 R4 HB4 A TB K1 L3
     go_wp2_with (refine wpList_load_whole rfl 62 _ rfl ⟨b13, 0, none⟩ rfl _ (by exact unhide L9) ?_)
     refine (sMemOk_any (joinM add leaf ⟨se, tag, name, add, rem, lf, keys, boxes, ⟨wk, ik, is, sk, ss⟩⟩) _ _ _ S5.out O5.out.mrow FT.out.1 HSM.out FT.out.2.2.2.2.2.2.1 HSZ.out).mono ?_; obtain ⟨b8, hb8⟩ : ∃ b8, memOkS (joinM add leaf ⟨se, tag, name, add, rem, lf, keys, boxes, ⟨wk, ik, is, sk, ss⟩⟩) = b8 := ⟨_, rfl⟩; rw [hb8] at HE ⊢; clear hb8; rintro e w5 ⟨rfl, hb⟩; refine cy2 R BM ?_; clear R BM; intro R BM; replace K4 := hide (Own.below K4.out hb); replace O5 : Hid (OwnM w.heap.size w5 _ (joinOwn add leaf ⟨se, tag, name, add, rem, lf, keys, boxes, ⟨wk, ik, is, sk, ss⟩⟩)) := own_below' O5.out hb; refine cy1 HB ?_; clear HB; intro HB; clear hb L9 S5
     cases b8 with
     | false =>
      have HF : Hid (joinB add leaf key ⟨se, tag, name, add, rem, lf, keys, boxes, ⟨wk, ik, is, sk, ss⟩⟩ = false) := HE.out
      go_wp2_with (refine wpList_store_whole rfl 62 _ _ rfl (w.heap.size + 1) noMem rfl rfl 62 _ (by exact unhide R) info_mm rfl (one_mm _ _ _ _ _ _ _ _ _ _ _) ?_)
      have l2 := load_mm (R.out.set noMem) rfl; refine bodyPost_ret (v := .tuple #[.agg noMem, .bool false]) (results_cs rfl rfl rfl l2) rfl ?_; exact ⟨_, _, ret_join HF.out rfl, own_none HF.out, ownM_none HF.out, below_blk HB.out (by omega) _⟩
     | true =>
      have HF : Hid (joinB add leaf key ⟨se, tag, name, add, rem, lf, keys, boxes, ⟨wk, ik, is, sk, ss⟩⟩ = true) := HE.out; have L9 := hide (load_mm BM.out rfl)
      go_wp2_with (first | refine wpList_load_whole rfl 62 _ rfl ⟨b13, 0, none⟩ rfl _ (by exact unhide L9) ?_ | (refine wpList_store_whole rfl 62 (.tmp 8) (.tmp 102) rfl (w.heap.size + 1) (memC true add (.slice (some ⟨g1, 0, none⟩) kl c1) (.slice (some ⟨g, 0, none⟩) (1 + pl) c) ((countN tag : Int) + 1) is (tag ++ name)) ?hx ?hy 62 noMem ?hb ?hi ?ho ?h1 ?h))
      case hb => exact unhide R
      case hi => exact info_mm
      case ho => rfl
      case h1 => exact (one_mm _ _ _ _ _ _ _ _ _ _ _)
      (go_wp2_with fail); have l2 := load_mm (R.out.set (memC true add (.slice (some ⟨g1, 0, none⟩) kl c1) (.slice (some ⟨g, 0, none⟩) (1 + pl) c) ((countN tag : Int) + 1) is (tag ++ name))) rfl; refine bodyPost_ret (v := .tuple #[.agg (memC true add (.slice (some ⟨g1, 0, none⟩) kl c1) (.slice (some ⟨g, 0, none⟩) (1 + pl) c) ((countN tag : Int) + 1) is (tag ++ name)), .bool true]) (results_cs rfl rfl rfl l2) rfl ?_; exact ⟨_, _, ret_joinY HF.out, own_joinY HF.out (row_blk K4.out R.out (by decide) _), ownM_joinY HF.out (row_blk O5.out R.out (by decide) _), below_blk HB.out (by omega) _⟩
def Wt.none : Wt := ⟨0, 0, ⟨#[]⟩, ⟨#[]⟩⟩
def hitW (W : Wld) (k z j : Nat) : Bool :=
  decide ((W.waits.getD j Wt.none).who = (k : Int)) && (decide ((W.waits.getD j Wt.none).pos = (z : Int)) && joinB (k : Int) (W.waits.getD j Wt.none).leaf (W.waits.getD j Wt.none).key (W.log.getD z Cmt.none))
def cameW (W : Wld) (k z j : Nat) : Wld := goneW { W with seats := W.seats.set k (joinR (k : Int) (W.waits.getD j Wt.none).leaf (W.waits.getD j Wt.none).key (W.log.getD z Cmt.none)) } j
def joinW (W : Wld) (k z : Nat) : Wld :=
  if (W.seats.getD k Mem.none).inn = true then W else match (List.range W.waits.length).find? (hitW W k z) with
    | some j => cameW W k z j
    | Option.none => W
theorem joinW_in {W : Wld} {k z : Nat} (h : (W.seats.getD k Mem.none).inn = true) : joinW W k z = W := by unfold joinW; rw [if_pos h]
theorem joinW_hit {W : Wld} {k z j : Nat} (h : (W.seats.getD k Mem.none).inn = false) (hj : j < W.waits.length) (h1 : ∀ i, i < j → hitW W k z i = false) (h2 : hitW W k z j = true) : joinW W k z = cameW W k z j := by unfold joinW; rw [if_neg (by rw [h]; decide), show (List.range W.waits.length).find? (hitW W k z) = some j from List.find?_range_eq_some.2 ⟨h2, by simpa using hj, fun i hi => by simp [h1 i hi]⟩]
theorem joinW_no {W : Wld} {k z : Nat} (h : (W.seats.getD k Mem.none).inn = false) (h1 : ∀ i, i < W.waits.length → hitW W k z i = false) : joinW W k z = W := by unfold joinW; rw [if_neg (by rw [h]; decide), show (List.range W.waits.length).find? (hitW W k z) = Option.none from List.find?_range_eq_none.2 (fun i hi => by simp [h1 i hi])]
def WaitZ (l : List Wt) : Prop := ∀ x ∈ l, x.leaf.size ≤ maxLen ∧ x.key.size ≤ maxLen
set_option maxRecDepth 100000 in
set_option maxHeartbeats 16000000 in
theorem l7Gone_any (X L : List Nat) (B : Nat) (s0 s1 s2 s3 s4 s5 s6 s7 s8 s9 : Value) (W : Wld) (z : Nat) (w : World) (q : Rows X L B w (rowsOf s0 s1 s2 s3 s4 s5 s6 s7 s8 s9 W)) (hB : B ≤ w.heap.size) (hz : z < W.waits.length) (hwl : W.waits.length ≤ 1000) : Calls Tryz.prog 54 #[.agg (wldC s0 s1 s2 s3 s4 s5 s6 s7 s8 s9), .int .i64 (z : Int)] w fun e w' => ∃ X' e1, e = .returned (.agg (wldC s0 e1 s2 s3 s4 s5 s6 s7 s8 s9)) ∧ Rows X' L B w' (rowsOf s0 e1 s2 s3 s4 s5 s6 s7 s8 s9 (goneW W z)) ∧ MoreX X X' w ∧ Below w.heap.size w w' := by
 (have hgb : ∃ gb cb, s1 = .slice (some ⟨gb, 0, none⟩) W.waits.length cb := by obtain ⟨cs, h1, _⟩ := q.own _ (List.mem_of_getElem? (i := 1) rfl); obtain ⟨g, c, e, _⟩ := row_some h1 (by show 0 < W.waits.length; omega); exact ⟨g, c, e⟩); obtain ⟨gb, cb, rfl⟩ := hgb; have HQ := hide q; have HONE := hide (one_wld q); have HB0 := hide hB; obtain ⟨WT, hwt⟩ : ∃ x, W.waits = x := ⟨_, rfl⟩; (have HC : Hid (∀ k (h : k < WT.length), ∀ n u, (wtC WT[k].who WT[k].pos WT[k].leaf WT[k].key)[n]? = some u → w.cell? ⟨gb, k * 4 + n, none⟩ = some u) := by subst hwt; exact hide (fun k h => q.waitAt k h)); rw [hwt] at hz hwl; have HWT := hide hwt; have HZ := hide (And.intro hz hwl); rw [hwt] at HONE; rw [show Value.slice (some ⟨gb, 0, none⟩) W.waits.length cb = .slice (some ⟨gb, 0, none⟩) WT.length cb by rw [hwt]] at HQ ⊢; clear q hB hz hwl hwt; obtain ⟨wl, hwle⟩ : ∃ n, WT.length = n := ⟨_, rfl⟩; rw [hwle] at HQ HZ HONE ⊢; have HWL := hide hwle; clear hwle; have HB : Hid (Below w.heap.size w w) := Below.refl _ _; have HN : Hid (True) := trivial; go_enter Tryz.func54, Tryz.ntmps54; (repeat ((fail_if_success (refine pl_id ?_)); go_step)); refine w_i ?_; refine w_a (wldC s0 (.slice (some ⟨gb, 0, none⟩) wl cb) s2 s3 s4 s5 s6 s7 s8 s9) 41 (fun bA wc A hb hbn => ?_); refine cy2 HB HN ?_; clear HB HN; intro HB HN; clear hb hbn; refine w_a noWld 41 (fun bR wc R hb hbn => ?_); refine cy3 A HB HN ?_; clear A HB HN; intro A HB HN; clear hb hbn; refine w_e ?_; (repeat ((fail_if_success (refine pl_id ?_)); go_step)); refine w_i ?_; refine w_1 (fun K hK => ?_); refine op_lit (w.heap.size) (cs := #[]) (e := 81) (size := 4) (n := 0) ?_ HB.out.size (by unfold maxLen; omega) (by rfl) (fun gE wc E hb hbn => ?_)
 · go_simp; try rfl
 refine sh hK ?_; clear hK; replace E := hide E; refine cy4 A R HB HN ?_; clear A R HB HN; intro A R HB HN; clear hb hbn; refine w_q ?_; refine w_e ?_; have OUT : Hid (wc.ownsRow w.heap.size 81 4 (.slice (some ⟨gE, 0, Option.none⟩) 0 0) (gone WT z 0).length (wcells (gone WT z 0))) := hide E.out; (repeat ((fail_if_success (refine pl_id ?_)); go_step)); refine w_i ?_; refine w_q ?_; refine w_e ?_; clear E; (replace HN : Hid (w.heap.size ≤ bA ∧ bA < bR ∧ bR < wc.heap.size) := by have q := HN.out; refine hide ?_; omega); (go_wp2_with fail); go_loopw [5, 6] (fun o i wr => ∃ (j : Nat) (_ : j ≤ wl) (oo : Option Addr) (on : Nat) (oc : Nat) (_ : Hid ((gone WT z j).length = on)), o = .slice oo on oc ∧ i = .int .i64 (j : Int) ∧ Hid (Blk wr bA 41 (wldC s0 (.slice (some ⟨gb, 0, none⟩) wl cb) s2 s3 s4 s5 s6 s7 s8 s9)) ∧ Hid (Blk wr bR 41 noWld) ∧ Hid (World.ownsRow wr w.heap.size 81 4 (.slice oo on oc) (gone WT z j).length (wcells (gone WT z j))) ∧ Hid (w.heap.size ≤ bA ∧ bA < bR ∧ bR < wr.heap.size) ∧ Hid (Below w.heap.size w wr)) (fun o i _ => wl - (intOf i).toNat)
 case atStart => exact ⟨0, by omega, _, _, _, hide rfl, rfl, rfl, A, R, OUT, HN, HB⟩
 case round =>
  clear A R OUT HN HB; obtain ⟨j, hj, oo, on, oc, hon, rfl, rfl, A, R, OUT, HN, HB⟩ := hrel; generalize wr = wc at *; have HON := hon; clear hon; by_cases hlt : j < wl
  · skip; (have hlt2 : decide ((j : Int) < (wl : Int)) = true := by simp; omega); (have hlt3 : (j : Int) < (wl : Int) := by omega); (have i3 : IntKind.i64.wrap ((j : Int) + 1) = (j : Int) + 1 := by have := HZ.out.2; simp [IntKind.wrap, IntKind.bits, IntKind.signed]; omega); (have hlt4 : j < WT.length := by rw [HWL.out]; exact hlt); (repeat ((fail_if_success (refine pl_id ?_)); go_step)); refine w_i ?_; refine w_q ?_; refine w_q ?_; refine w_b A 1 ?_; refine w_q ?_; refine w_q ?_; refine w_e ?_; by_cases hjz : j = z
    · skip; (have hq1 : ((j : Int) != (z : Int)) = false := by simp; omega); (have hq2 : (!decide ((j : Int) = (z : Int))) = false := by simp; omega); (have hq3 : (j : Int) = (z : Int) := by omega); (repeat ((fail_if_success (refine pl_id ?_)); go_step)); refine w_i ?_; (iterate 3 refine w_q ?_); refine w_e ?_; (have HGS : Hid (gone WT z (j + 1) = gone WT z j) := by subst hjz; exact hide (gone_same hlt4)); replace OUT := hide (show World.ownsRow wc w.heap.size 81 4 (.slice oo on oc) (gone WT z (j + 1)).length (wcells (gone WT z (j + 1))) by rw [HGS.out]; exact unhide OUT); (replace HON : Hid ((gone WT z (j + 1)).length = on) := by rw [HGS.out]; exact HON); clear HGS hq1 hq2 hq3 hjz; (repeat ((fail_if_success (refine pl_id ?_)); go_step)); refine w_i ?_; (iterate 3 refine w_q ?_); refine w_e ?_; (go_wp2_with fail); go_roundw
      case rel => exact ⟨j + 1, by omega, _, _, _, HON, rfl, by simp, A, R, OUT, HN, HB⟩
      case measure => simp [intOf]; omega
    (have hq1 : ((j : Int) != (z : Int)) = true := by simp; omega); (have hq2 : (!decide ((j : Int) = (z : Int))) = true := by simp; omega); (have hq3 : ¬ (j : Int) = (z : Int) := by omega); (repeat ((fail_if_success (refine pl_id ?_)); go_step)); refine w_i ?_; (iterate 3 refine w_q ?_); refine w_e ?_; have HGM : Hid (gone WT z (j + 1) = gone WT z j ++ [WT[j]]) := hide (gone_more hlt4 hjz); clear hq1 hq2 hq3; have HGL : Hid (on ≤ j) := hide (by rw [← HON.out]; exact gone_len WT z j (by omega)); have HCJ : Hid (∀ n u, (wtC WT[j].who WT[j].pos WT[j].leaf WT[j].key)[n]? = some u → w.cell? ⟨gb, j * 4 + n, none⟩ = some u) := hide (HC.out j hlt4); generalize WT[j] = x at *; obtain ⟨x1, x2, x3, x4⟩ := x; simp only at HCJ HGM; (repeat ((fail_if_success (refine pl_id ?_)); go_step)); refine w_i ?_; refine w_q ?_; refine w_q ?_; refine w_b A 1 ?_; refine w_q ?_; refine w_q ?_; refine w_q ?_ (h := by have x10 : wc.cell? ⟨gb, j * 4, none⟩ = some (.int .i64 x1) := (HB.out.cell (cell_lt (HCJ.out 0 _ rfl))).trans (HCJ.out 0 _ rfl); have x11 := (HB.out.cell (cell_lt (HCJ.out 1 _ rfl))).trans (HCJ.out 1 _ rfl); have x12 := (HB.out.cell (cell_lt (HCJ.out 2 _ rfl))).trans (HCJ.out 2 _ rfl); have x13 := (HB.out.cell (cell_lt (HCJ.out 3 _ rfl))).trans (HCJ.out 3 _ rfl); go_simp; all_goals rfl); refine w_1 (fun K hK => ?_); refine op_lit (w.heap.size) (cs := (wtC x1 x2 x3 x4)) (e := 81) (size := 4) (n := 1) ?_ HB.out.size (by unfold maxLen; omega) (by rfl) (fun gLT wc LT hb hbn => ?_)
    · go_simp; try rfl
    refine sh hK ?_; clear hK; replace LT := hide LT; refine cy5 A R OUT HB HN ?_; clear A R OUT HB HN; intro A R OUT HB HN; clear hb hbn; refine w_1 (fun K hK => ?_); have h1 := unhide OUT; rw [HON.out] at h1; refine op_appOwn rowT_wt w.heap.size (.tmp 18) (.tmp 24) rfl (.slice oo on oc) on (wcells (gone WT z j)) rfl h1 ⟨gLT, 0, none⟩ 1 1 (wtC x1 x2 x3 x4).toList rfl rfl (fun k u hk => World.ownsRow.cells LT.out rfl k u hk) (by simp [Value.oneCell']) (by unfold maxLen; have q1 := HZ.out.2; have q2 := HGL.out; omega) (by have q1 := HZ.out.2; have q2 := HGL.out; omega) HB.out.size (fun vo wc ho hg hat => ?_); refine hK.out _ _ ?_; clear hK; replace A := hide (A.out.kept hg (A.out.not_row (by decide) h1)); replace R := hide (R.out.kept hg (R.out.not_row (by decide) h1)); have hsz := hg.size; replace HB := hide (kept_below HB.out hg h1 (Nat.le_refl _) HB.out.size); clear LT; (replace HN : Hid (w.heap.size ≤ bA ∧ bA < bR ∧ bR < wc.heap.size) := by have q := HN.out; have q2 := hsz; refine hide ?_; omega); clear hsz hg hat h1; (have ho2 : World.ownsRow wc w.heap.size 81 4 vo (gone WT z (j + 1)).length (wcells (gone WT z (j + 1))) := by rw [HGM.out, wcells_snoc, List.length_append, HON.out]; exact ho); obtain ⟨oo, oc, rfl⟩ := row_form' ho; replace OUT := hide ho2; (replace HON : Hid ((gone WT z (j + 1)).length = on + 1) := by rw [HGM.out, List.length_append, HON.out]; exact hide rfl); clear ho ho2 HGM HGL HCJ; (try simp only [Act.put, p_a, p_b, p_c]); refine w_q ?_; refine w_e ?_; (repeat ((fail_if_success (refine pl_id ?_)); go_step)); refine w_i ?_; (iterate 3 refine w_q ?_); refine w_e ?_; (go_wp2_with fail); go_roundw
    case rel => exact ⟨j + 1, by omega, _, _, _, HON, rfl, by simp, A, R, OUT, HN, HB⟩
    case measure => simp [intOf]; omega
  (have hlt2 : decide ((j : Int) < (wl : Int)) = false := by simp; omega); (have hjl : j = wl := by omega); subst hjl; (repeat ((fail_if_success (refine pl_id ?_)); go_step)); refine w_i ?_; refine w_q ?_; refine w_q ?_; refine w_b A 1 ?_; refine w_q ?_; refine w_q ?_; refine w_e ?_; replace HQ := HQ; (have hoc : World.ownsRow wc w.heap.size 81 4 (.slice oo on oc) on (wcells (goneW W z).waits) ∧ (goneW W z).waits.length = on := by have h1 := unhide OUT; rw [HON.out] at h1; (have e : gone WT z j = (goneW W z).waits := by show _ = W.waits.eraseIdx z; rw [HWT.out, ← gone_all, HWL.out]); rw [e] at h1; exact ⟨h1, by rw [← e]; exact HON.out⟩); replace OUT := hide hoc.1; have HOL := hide hoc.2; clear hoc HON; (repeat ((fail_if_success (refine pl_id ?_)); go_step)); refine w_i ?_; refine w_q ?_; refine w_q ?_; refine w_1 (fun K hK => ?_); have OLD := A; have fz := A.out.frozen 1; have x0 := A.out.cell 1; simp only [l_a, l_b, l_c] at x0; refine op_cell bA 1 (.slice oo on oc) A.out ?_ (fun wc NEW hg hs => ?_)
  · go_simp
  refine sh hK ?_; clear hK fz x0; have OUT2 := hide (row_grown OUT.out hg OLD.out (by decide)); replace OUT := OUT2; clear OUT2; replace A : Hid (Blk wc bA 41 (wldC s0 (.slice oo on oc) s2 s3 s4 s5 s6 s7 s8 s9)) := NEW; clear NEW; refine gy3 R HB HN ?_; clear R HB HN; intro R HB HN; clear hg hs OLD; refine w_e ?_; (have ONE2 : Hid (((wldC s0 (.slice oo on oc) s2 s3 s4 s5 s6 s7 s8 s9) : Array Value).all (·.oneCell') = true) := by have q := HONE.out; simp only [List.all_toArray, List.all_cons, Bool.and_eq_true, wldC] at q ⊢; exact hide ⟨q.1, rfl, q.2.2⟩); (repeat ((fail_if_success (refine pl_id ?_)); go_step)); refine w_i ?_; refine w_c A ?_; refine w_1 (fun K hK => ?_); have OLD := R; refine op_row 41 (.tmp 4) (.tmp 28) rfl bR (wldC s0 (.slice oo on oc) s2 s3 s4 s5 s6 s7 s8 s9) _ 41 rfl rfl R.out info_wld rfl (ONE2.out) (fun wc NEW hg hs => ?_); refine sh hK ?_; clear hK; replace R := hide NEW; clear NEW; refine gy4 A OUT HB HN ?_; clear A OUT HB HN; intro A OUT HB HN; clear hg hs OLD; refine w_e ?_; have l1 := load_wld R.out rfl; (go_wp2_with fail); refine bodyPost_ret (v := .agg (wldC s0 (.slice oo on oc) s2 s3 s4 s5 s6 s7 s8 s9)) (results_cell rfl rfl l1) rfl ?_; obtain ⟨X', hX, hm⟩ := HQ.out.swapNew HB.out HB0.out 1 ⟨81, 4, .slice oo on oc, (goneW W z).waits.length, fun _ _ => ListR waitR (goneW W z).waits⟩ (by show World.ownsRow _ _ _ _ _ (goneW W z).waits.length _; rw [HOL.out]; exact unhide OUT) (stays_flat _ _) (fun _ _ => wcells_row _); exact ⟨X', _, rfl, hX, hm, HB.out⟩
set_option maxRecDepth 100000 in
set_option maxHeartbeats 32000000 in
theorem l7Join_any (X L : List Nat) (B : Nat) (s0 s1 s2 s3 s4 s5 s6 s7 s8 s9 : Value) (W : Wld) (k z : Nat) (w : World) (q : Rows X L B w (rowsOf s0 s1 s2 s3 s4 s5 s6 s7 s8 s9 W)) (hB : B ≤ w.heap.size) (hk : k < 8) (hs : W.seats.length = 8) (hz : z < W.log.length) (hwl : W.waits.length ≤ 1000)
 (hwz : WaitZ W.waits) (hc : CmtZ (W.log.getD z Cmt.none)) :
 Calls Tryz.prog 30 #[.agg (wldC s0 s1 s2 s3 s4 s5 s6 s7 s8 s9), .int .i64 (k : Int), .int .i64 (z : Int)] w fun e w' => ∃ X' e1, e = .returned (.agg (wldC s0 e1 s2 s3 s4 s5 s6 s7 s8 s9)) ∧ Rows X' L B w' (rowsOf s0 e1 s2 s3 s4 s5 s6 s7 s8 s9 (joinW W k z)) ∧ KeepR (rowsOf s0 s1 s2 s3 s4 s5 s6 s7 s8 s9 W) w w' := by
 obtain ⟨ga, ca, _, _, rfl, -, -, -⟩ := q.seat k (by omega)
 have hgc : ∃ gc cc, s2 = .slice (some ⟨gc, 0, none⟩) W.log.length cc := by
  obtain ⟨cs, h1, _⟩ := q.own _ (List.mem_of_getElem? (i := 2) rfl); obtain ⟨g, c, e, _⟩ := row_some h1 (by show 0 < W.log.length; omega); exact ⟨g, c, e⟩
 obtain ⟨gc, cc, rfl⟩ := hgc; obtain ⟨-, ⟨wo, wc1, rfl⟩, -⟩ := q.forms; obtain ⟨m, hme⟩ : ∃ x, W.seats.getD k Mem.none = x := ⟨_, rfl⟩; obtain ⟨c, hce⟩ : ∃ x, W.log.getD z Cmt.none = x := ⟨_, rfl⟩; rw [hce] at hc; have HCZ : Hid ((∀ x ∈ c.keys, x.size ≤ maxLen) ∧ (∀ b ∈ c.boxes, b.1.size ≤ maxLen ∧ b.2.size ≤ maxLen) ∧ c.name.size ≤ 2000000 ∧ c.tag.size ≤ 2000000 ∧ c.leaf.size ≤ maxLen ∧ c.wel.key.size ≤ maxLen ∧ c.wel.is.size ≤ maxLen ∧ c.wel.ss.size ≤ maxLen) := hc; have HB0 := hide hB; have HW := hide q; obtain ⟨cl, hcl⟩ : ∃ x, W.log.length = x := ⟨_, rfl⟩; obtain ⟨wl, hw1⟩ : ∃ x, W.waits.length = x := ⟨_, rfl⟩; (have hzc : (z : Int) < (cl : Int) := by omega); have HKS : Hid (k < W.seats.length ∧ z < W.log.length ∧ W.waits.length = wl ∧ wl ≤ 1000) := ⟨by omega, hz, hw1, hw1 ▸ hwl⟩; have HME := hide hme; have HCE := hide hce; have HWZ := hide hwz; (have hkk : (k : Int) < 8 := by omega); obtain ⟨inn, hin⟩ : ∃ x, m.inn = x := ⟨_, rfl⟩; have HIN := hide hin; simp only [hs, hcl, hw1] at HW ⊢; clear q hB hk hs hz hwl hwz hc hme hce hcl hw1 hin; have HB : Hid (Below B w w) := Below.refl _ _; have HR : Hid (KeepR (rowsOf (.slice (some ⟨ga, 0, none⟩) 8 ca) (.slice wo wl wc1) (.slice (some ⟨gc, 0, none⟩) cl cc) s3 s4 s5 s6 s7 s8 s9 W) w w) := KeepR.refl _ _; have HN : Hid (True) := trivial
 go_enter Tryz.func30, Tryz.ntmps30
 repeat ((fail_if_success (refine pl_id ?_)); go_step)
 refine w_i ?_; refine w_a (wldC (.slice (some ⟨ga, 0, none⟩) 8 ca) (.slice wo wl wc1) (.slice (some ⟨gc, 0, none⟩) cl cc) s3 s4 s5 s6 s7 s8 s9) 41 (fun bA wc A hb hbn => ?_); refine cy1 HR ?_; (try clear HR); intro HR; obtain ⟨X2, HW2, hm2⟩ := HW.out.more2 hb hbn; replace HW := hide HW2; clear HW2 hm2; refine cy2 HB HN ?_; (try clear HB HN); intro HB HN; clear hb hbn; refine w_1 (fun K hK => ?_); refine op_al noWld 41 (fun bR wc R hb hbn => ?_); refine hK.out _ _ ?_; clear hK; refine cy2 A HR ?_; (try clear A HR); intro A HR; obtain ⟨X2, HW2, hm2⟩ := HW.out.more2 hb hbn; replace HW := hide HW2; clear HW2 hm2; have hsz := hb.size; have hsz2 := HB.out.size
 replace HN : Hid (w.heap.size ≤ bA ∧ bA < bR ∧ bR < wc.heap.size) := by
  have q := HN.out; have q2 := hsz; have q3 := hsz2; have q4 := hbn; refine hide ?_
  omega
 clear hsz hsz2; refine cy1 HB ?_; (try clear HB); intro HB; clear hb hbn; (try simp only [Act.put, p_a, p_b, p_c]); refine w_e ?_
 cases inn with
 | true =>
  have HF : Hid (joinW W k z = W) := hide (joinW_in (by rw [HME.out, HIN.out]))
  repeat ((fail_if_success (refine pl_id ?_)); go_step)
  refine w_i ?_; refine w_q ?_; refine w_b A 0 ?_
  (iterate 3 refine w_q ?_)
  refine w_q ?_ (h := by obtain ⟨z1, y1, z2, y2, hs1, hs2, hs3⟩ := HW.out.seatAt HKS.out.1 HME.out; have x0 : wc.cell? ⟨ga, k * 7, none⟩ = some (.bool m.inn) := hs1 0 _ rfl; rw [HIN.out] at x0; go_simp; all_goals rfl); refine w_e ?_
  repeat ((fail_if_success (refine pl_id ?_)); go_step)
  refine w_i ?_; refine w_c A ?_; refine w_s R (wldC (.slice (some ⟨ga, 0, none⟩) 8 ca) (.slice wo wl wc1) (.slice (some ⟨gc, 0, none⟩) cl cc) s3 s4 s5 s6 s7 s8 s9) ?_; (try clear R); intro wc OLD R hg hs; refine gy5 A HR HW HB HN ?_; (try clear A HR HW HB HN); intro A HR HW HB HN; clear hg hs OLD; refine w_e ?_; have l1 := load_wld R.out rfl; (go_wp2_with fail); refine bodyPost_ret (v := .agg (wldC (.slice (some ⟨ga, 0, none⟩) 8 ca) (.slice wo wl wc1) (.slice (some ⟨gc, 0, none⟩) cl cc) s3 s4 s5 s6 s7 s8 s9)) (results_cell rfl rfl l1) rfl ?_; rw [HF.out]; exact ⟨_, _, rfl, HW.out.less (by simp +contextual), unhide HR⟩
 | false =>
  (have HNI : Hid ((W.seats.getD k Mem.none).inn = false) := by rw [HME.out]; exact HIN)
  repeat ((fail_if_success (refine pl_id ?_)); go_step)
  refine w_i ?_; refine w_q ?_; refine w_b A 0 ?_
  (iterate 3 refine w_q ?_)
  refine w_q ?_ (h := by obtain ⟨z1, y1, z2, y2, hs1, hs2, hs3⟩ := HW.out.seatAt HKS.out.1 HME.out; have x0 : wc.cell? ⟨ga, k * 7, none⟩ = some (.bool m.inn) := hs1 0 _ rfl; rw [HIN.out] at x0; go_simp; all_goals rfl); refine w_e ?_
  repeat ((fail_if_success (refine pl_id ?_)); go_step)
  refine w_i ?_; refine w_q ?_; refine w_e ?_; obtain ⟨X1, HX1⟩ : ∃ X1, Hid (Rows X1 (bR :: (bA :: L)) B wc (rowsOf (.slice (some ⟨ga, 0, none⟩) 8 ca) (.slice wo wl wc1) (.slice (some ⟨gc, 0, none⟩) cl cc) s3 s4 s5 s6 s7 s8 s9 W)) := ⟨_, HW⟩; clear HW; have HW := HX1; clear HX1; (go_wp2_with fail)
  go_loopw [7] (fun i wr => ∃ (j : Nat) (_ : j ≤ wl) (X2 : List Nat) (_ : Hid (∀ i, i < j → hitW W k z i = false)), i = .int .i64 (j : Int) ∧ Hid (Blk wr bA 41 (wldC (.slice (some ⟨ga, 0, none⟩) 8 ca) (.slice wo wl wc1) (.slice (some ⟨gc, 0, none⟩) cl cc) s3 s4 s5 s6 s7 s8 s9)) ∧ Hid (Blk wr bR 41 noWld) ∧ Hid (w.heap.size ≤ bA ∧ bA < bR ∧ bR < wr.heap.size) ∧ Hid (KeepR (rowsOf (.slice (some ⟨ga, 0, none⟩) 8 ca) (.slice wo wl wc1) (.slice (some ⟨gc, 0, none⟩) cl cc) s3 s4 s5 s6 s7 s8 s9 W) w wr) ∧ Hid (Rows X2 (bR :: (bA :: L)) B wr (rowsOf (.slice (some ⟨ga, 0, none⟩) 8 ca) (.slice wo wl wc1) (.slice (some ⟨gc, 0, none⟩) cl cc) s3 s4 s5 s6 s7 s8 s9 W)) ∧ Hid (Below B w wr)) (fun i _ => wl - (intOf i).toNat)
  case atStart => exact ⟨0, by omega, _, hide (fun i hi => absurd hi (Nat.not_lt_zero _)), rfl, A, R, HN, HR, HW, HB⟩
  case round =>
   clear A R HN HR HW HB; obtain ⟨j, hj, X2, hno, rfl, A, R, HN, HR, HW, HB⟩ := hrel; generalize wr = wc at *; have HNO := hno; clear hno
   by_cases hlt : j < wl
   · skip
     (have hlt2 : decide ((j : Int) < (wl : Int)) = true := by simp; omega); (have hlt3 : (j : Int) < (wl : Int) := by omega); (have i3 : IntKind.i64.wrap ((j : Int) + 1) = (j : Int) + 1 := by have := HKS.out.2.2.2; simp [IntKind.wrap, IntKind.bits, IntKind.signed]; omega); (have hlt4 : j < W.waits.length := by rw [HKS.out.2.2.1]; exact hlt)
     have hwo : ∃ gb, wo = some ⟨gb, 0, none⟩ := by
      obtain ⟨cs, h1, _⟩ := HW.out.own _ (List.mem_of_getElem? (i := 1) rfl); obtain ⟨g, c, e, _⟩ := row_some h1 (by show 0 < W.waits.length; omega); have e' : Value.slice wo wl wc1 = .slice (some ⟨g, 0, none⟩) W.waits.length c := e; simp only [Value.slice.injEq] at e'; exact ⟨g, e'.1⟩
     obtain ⟨gb, rfl⟩ := hwo; have HWD : Hid (W.waits.getD j Wt.none = W.waits[j]) := hide (getD_at2 _ hlt4); have HWJ : Hid (∀ n u, (wtC W.waits[j].who W.waits[j].pos W.waits[j].leaf W.waits[j].key)[n]? = some u → wc.cell? ⟨gb, j * 4 + n, none⟩ = some u) := hide (HW.out.waitAt j hlt4); have HLZ := hide (HWZ.out _ (List.getElem_mem hlt4)); generalize W.waits[j] = x at *; obtain ⟨x1, x2, x3, x4⟩ := x; simp only at HWJ HLZ
     repeat ((fail_if_success (refine pl_id ?_)); go_step)
     refine w_i ?_; refine w_q ?_; refine w_q ?_; refine w_b A 1 ?_; refine w_q ?_; refine w_q ?_; refine w_e ?_
     repeat ((fail_if_success (refine pl_id ?_)); go_step)
     refine w_i ?_; refine w_q ?_; refine w_b A 1 ?_; refine w_q ?_; refine w_q ?_; refine w_q ?_ (h := by have x10 : wc.cell? ⟨gb, j * 4, none⟩ = some (.int .i64 x1) := HWJ.out 0 _ rfl; have x11 := HWJ.out 1 _ rfl; have x12 := HWJ.out 2 _ rfl; have x13 := HWJ.out 3 _ rfl; go_simp; all_goals rfl); refine w_a (wtC 0 0 ⟨#[]⟩ ⟨#[]⟩) 81 (fun bT wc T hb hbn => ?_); refine cy4 A R HWJ HR ?_; (try clear A R HWJ HR); intro A R HWJ HR; obtain ⟨X2, HW2, hm2⟩ := HW.out.more2 hb hbn; replace HW := hide HW2; clear HW2 hm2; refine cy2 HB HN ?_; (try clear HB HN); intro HB HN; clear hb hbn; refine w_1 (fun K hK => ?_); clear HWJ; refine op_rw T (wtC x1 x2 x3 x4) ?_; (try clear T); intro wc OLD T hg hs; refine sh hK ?_; clear hK; refine gy6 A R HR HW HB HN ?_; (try clear A R HR HW HB HN); intro A R HR HW HB HN; clear hg hs OLD; refine w_e ?_
     by_cases hq : x1 = (k : Int)
     rotate_left
     · have hq1 : (x1 == (k : Int)) = false := by simp; exact hq
       (have hq2 : decide (x1 = (k : Int)) = false := by simp; exact hq); (have HHT : Hid (hitW W k z j = false) := by unfold hitW; rw [HWD.out]; exact hide (by simp [hq]))
       repeat ((fail_if_success (refine pl_id ?_)); go_step)
       refine w_i ?_; refine w_q ?_; refine w_b T 0 ?_
       (iterate 3 refine w_q ?_); (iterate 4 refine w_n ?_); refine w_q ?_
       refine w_e ?_
       replace HNO : Hid (∀ i, i < j + 1 → hitW W k z i = false) := hide (fun i hi => by
        by_cases h : i = j
        · rw [h]; exact HHT.out
        · exact HNO.out i (by omega))
       repeat ((fail_if_success (refine pl_id ?_)); go_step)
       refine w_i ?_
       (iterate 3 refine w_q ?_)
       refine w_e ?_
       replace HN : Hid (w.heap.size ≤ bA ∧ bA < bR ∧ bR < wc.heap.size) := by
        have q := HN.out; refine hide ?_
        omega
       replace HW := hide (HW.out.less (L' := (bR :: (bA :: L))) (by simp +contextual)); (go_wp2_with fail)
       go_roundw
       case rel => exact ⟨j + 1, by omega, _, HNO, by simp, A, R, HN, HR, HW, HB⟩
       case measure => simp [intOf]; omega
     (have hq1 : (x1 == (k : Int)) = true := by simp; exact hq); (have hq2 : decide (x1 = (k : Int)) = true := by simp; exact hq)
     by_cases hp : x2 = (z : Int)
     rotate_left
     · have hp1 : (x2 == (z : Int)) = false := by simp; exact hp
       (have hp2 : decide (x2 = (z : Int)) = false := by simp; exact hp); (have HHT : Hid (hitW W k z j = false) := by unfold hitW; rw [HWD.out]; exact hide (by simp [hp]))
       repeat ((fail_if_success (refine pl_id ?_)); go_step)
       refine w_i ?_; refine w_q ?_; refine w_b T 0 ?_
       (iterate 4 refine w_q ?_)
       refine w_b T 1 ?_
       (iterate 3 refine w_q ?_)
       refine w_e ?_
       replace HNO : Hid (∀ i, i < j + 1 → hitW W k z i = false) := hide (fun i hi => by
        by_cases h : i = j
        · rw [h]; exact HHT.out
        · exact HNO.out i (by omega))
       repeat ((fail_if_success (refine pl_id ?_)); go_step)
       refine w_i ?_
       (iterate 3 refine w_q ?_)
       refine w_e ?_
       replace HN : Hid (w.heap.size ≤ bA ∧ bA < bR ∧ bR < wc.heap.size) := by
        have q := HN.out; refine hide ?_
        omega
       replace HW := hide (HW.out.less (L' := (bR :: (bA :: L))) (by simp +contextual)); (go_wp2_with fail)
       go_roundw
       case rel => exact ⟨j + 1, by omega, _, HNO, by simp, A, R, HN, HR, HW, HB⟩
       case measure => simp [intOf]; omega
     (have hp1 : (x2 == (z : Int)) = true := by simp; exact hp); (have hp2 : decide (x2 = (z : Int)) = true := by simp; exact hp)
     repeat ((fail_if_success (refine pl_id ?_)); go_step)
     refine w_i ?_; refine w_q ?_; refine w_b T 0 ?_
     (iterate 4 refine w_q ?_)
     refine w_b T 1 ?_
     (iterate 3 refine w_q ?_)
     refine w_e ?_; obtain ⟨hx, hhx⟩ : ∃ x, joinR (k : Int) x3 x4 c = x := ⟨_, rfl⟩; obtain ⟨hy, hhy⟩ : ∃ x, joinB (k : Int) x3 x4 c = x := ⟨_, rfl⟩; (have HHT : Hid (hitW W k z j = hy) := by unfold hitW; rw [HWD.out, HCE.out]; simp only; rw [hhy, hq2, hp2]; exact hide rfl); (have HCM : Hid (cameW W k z j = goneW { W with seats := W.seats.set k hx } j) := by unfold cameW; rw [HWD.out, HCE.out]; simp only; rw [hhx]; exact hide rfl); have HHX := hide hhx; have HHY := hide hhy; clear hq hp hq1 hq2 hp1 hp2 hhx hhy; obtain ⟨h1, h2, xk, xo, h3, h4, h5⟩ := hx; obtain ⟨xl, hxl⟩ : ∃ n, xk.length = n := ⟨_, rfl⟩; obtain ⟨ol, hol⟩ : ∃ n, xo.length = n := ⟨_, rfl⟩; have HXL := hide hxl; have HOL := hide hol; clear hxl hol; obtain ⟨u1, v1, u2, v2, hs1, hs2, hs3⟩ := HW.out.logAt HKS.out.2.1 HCE.out; have HC := hide hs1; have HCK := hide hs2; have HCB := hide hs3; clear hs1 hs2 hs3; obtain ⟨B9, hB9⟩ : ∃ n, n = wc.heap.size := ⟨_, rfl⟩; have hsz := hB9; have hsz2 := HR.out.1
     replace HN : Hid (w.heap.size ≤ bA ∧ bA < bR ∧ bR < bT ∧ bT < wc.heap.size ∧ B9 ≤ wc.heap.size ∧ wc.heap.size ≤ B9) := by
      have q := HN.out; have q2 := hsz; have q3 := hsz2; refine hide ?_
      omega
     clear hsz hsz2 hB9
     repeat go_step
     apply join6 (α0 := List Nat) (α1 := Option Addr) (α2 := Nat) (α3 := Option Addr) (α4 := Nat) (α5 := Nat)
     · skip
       refine r_g (Below (B9)) (fun wc hb hsq => ?_); refine cy10 A R T HC HCK HCB HR HW HB HN ?_; (try clear A R T HC HCK HCB HR HW HB HN); intro A R T HC HCK HCB HR HW HB HN; clear hb hsq; refine r_q2 0 1 ?_; refine r_b 2 T 2 ?_; refine r_q 3 ?_; refine r_b 4 T 3 ?_; refine r_q 5 ?_; refine r_b 6 A 2 ?_; refine r_q2 7 8 ?_; refine r_q 9 ?_ (h := by intro w' hw'; replace hw' := hw'.mono (show wc.heap.size ≤ B9 by have q := HN.out; omega); have x10 : w'.cell? ⟨gc, z * 13, none⟩ = some (.int .i64 c.sender) := (hw'.cell (cell_lt (HC.out 0 _ rfl))).trans (HC.out 0 _ rfl); have x11 := (hw'.cell (cell_lt (HC.out 1 _ rfl))).trans (HC.out 1 _ rfl); have x12 := (hw'.cell (cell_lt (HC.out 2 _ rfl))).trans (HC.out 2 _ rfl); have x13 := (hw'.cell (cell_lt (HC.out 3 _ rfl))).trans (HC.out 3 _ rfl); have x14 := (hw'.cell (cell_lt (HC.out 4 _ rfl))).trans (HC.out 4 _ rfl); have x15 := (hw'.cell (cell_lt (HC.out 5 _ rfl))).trans (HC.out 5 _ rfl); have x16 := (hw'.cell (cell_lt (HC.out 6 _ rfl))).trans (HC.out 6 _ rfl); have x17 := (hw'.cell (cell_lt (HC.out 7 _ rfl))).trans (HC.out 7 _ rfl); have x18 := (hw'.cell (cell_lt (HC.out 8 _ rfl))).trans (HC.out 8 _ rfl); have x19 := (hw'.cell (cell_lt (HC.out 9 _ rfl))).trans (HC.out 9 _ rfl); have x20 := (hw'.cell (cell_lt (HC.out 10 _ rfl))).trans (HC.out 10 _ rfl); have x21 := (hw'.cell (cell_lt (HC.out 11 _ rfl))).trans (HC.out 11 _ rfl); have x22 := (hw'.cell (cell_lt (HC.out 12 _ rfl))).trans (HC.out 12 _ rfl); go_simp; all_goals rfl); refine r_2 10 14 (fun K hK => ?_) (fun K hK => ?_)
       · go_simp
         refine (sMemJoin_any (k : Int) x3 x4 c _ _ _ HCK.out HCB.out.brow HLZ.out.1 HLZ.out.2 HCZ.out).mono ?_; rw [HHX.out, HHY.out]; rintro e wc ⟨ks1, os1, rfl, q1, q2, hb⟩; unfold Own at q1; unfold OwnM at q2; simp only at q1 q2 ⊢; rw [HXL.out] at q1; rw [HOL.out] at q2; have IX1 := hide (HW.out.fresh q1); have IX2 := hide (HW.out.fresh q2); obtain ⟨k1, kc1, rfl⟩ := row_form' q1; obtain ⟨o1, oc1, rfl⟩ := row_form' q2; have K1 := hide (row_lowB (B' := 0) q1 (Nat.zero_le _)); have K2 := hide (row_lowB (B' := 0) q2 (Nat.zero_le _)); clear q1 q2; go_simp; refine sr hK ?_; clear hK; refine cy10 A R T HC HCK HCB HR HW HB HN ?_; (try clear A R T HC HCK HCB HR HW HB HN); intro A R T HC HCK HCB HR HW HB HN; clear hb; refine r_q3 11 12 13 ?_; refine r_1 14 (fun K hK => ?_); refine op_al noMem 62 (fun bXB wc XB hb hbn => ?_); refine sr hK ?_; clear hK; refine cy9 A R T K1 K2 HC HCK HCB HR ?_; (try clear A R T K1 K2 HC HCK HCB HR); intro A R T K1 K2 HC HCK HCB HR; obtain ⟨X2, HW2, hm2⟩ := HW.out.more2 hb hbn; refine cx2 IX1 IX2 ?_; (try clear IX1 IX2); intro IX1 IX2; replace HW := hide HW2; clear HW2 hm2; refine cy2 HB HN ?_; (try clear HB HN); intro HB HN; clear hb hbn; refine r_1 15 (fun K hK => ?_); clear HC HCK HCB; refine op_rw XB (memC h1 h2 (.slice k1 xl kc1) (.slice o1 ol oc1) h3 h4 h5) ?_; (try clear XB); intro wc OLD XB hg hs; refine sr hK ?_ (r := ((Below.refl _ _).grown hg (by have q := HN.out; omega) (fun k hk => by cases hk; have q := HN.out; omega))); clear hK; refine gy5 A R T K1 K2 ?_; (try clear A R T K1 K2); intro A R T K1 K2; refine gx2 IX1 IX2 ?_; (try clear IX1 IX2); intro IX1 IX2; refine gy4 HR HW HB HN ?_; (try clear HR HW HB HN); intro HR HW HB HN; clear hg hs OLD; refine r_q 16 ?_; refine r_e ?_
         replace HN : Hid (w.heap.size ≤ bA ∧ bA < bR ∧ bR < bT ∧ bT < B9 ∧ B9 ≤ bXB ∧ bXB < wc.heap.size) := by
          have q := HN.out; refine hide ?_
          omega
         exact jq6 (x0 := X2) (x1 := k1) (x2 := kc1) (x3 := o1) (x4 := oc1) (x5 := bXB) rfl (aj A (aj R (aj T (aj XB (aj K1 (aj K2 (aj HR (aj HW (aj IX1 (aj IX2 (aj HN HB)))))))))))
       · refine op_al noMem 62 (fun bXB wc XB hb hbn => ?_); refine sr hK ?_; clear hK; refine cy7 A R T HC HCK HCB HR ?_; (try clear A R T HC HCK HCB HR); intro A R T HC HCK HCB HR; obtain ⟨X2, HW2, hm2⟩ := HW.out.more2 hb hbn; replace HW := hide HW2; clear HW2 hm2; refine cy2 HB HN ?_; (try clear HB HN); intro HB HN; clear hb hbn; refine r_k 10 (sMemJoin_any (k : Int) x3 x4 c _ _ _ HCK.out HCB.out.brow HLZ.out.1 HLZ.out.2 HCZ.out) ?_; rw [HHX.out, HHY.out]; rintro e wc ⟨ks1, os1, rfl, q1, q2, hb⟩; unfold Own at q1; unfold OwnM at q2; simp only at q1 q2 ⊢; rw [HXL.out] at q1; rw [HOL.out] at q2; have IX1 := hide (HW.out.fresh q1); have IX2 := hide (HW.out.fresh q2); obtain ⟨k1, kc1, rfl⟩ := row_form' q1; obtain ⟨o1, oc1, rfl⟩ := row_form' q2; have K1 := hide (row_lowB (B' := 0) q1 (Nat.zero_le _)); have K2 := hide (row_lowB (B' := 0) q2 (Nat.zero_le _)); clear q1 q2; refine s_r ?_; refine cy11 A R T XB HC HCK HCB HR HW HB HN ?_; (try clear A R T XB HC HCK HCB HR HW HB HN); intro A R T XB HC HCK HCB HR HW HB HN; clear hb; refine r_q3 11 12 13 ?_; refine r_1 15 (fun K hK => ?_); clear HC HCK HCB; refine op_rw XB (memC h1 h2 (.slice k1 xl kc1) (.slice o1 ol oc1) h3 h4 h5) ?_; (try clear XB); intro wc OLD XB hg hs; refine sr hK ?_ (r := ((Below.refl _ _).grown hg (by have q := HN.out; omega) (fun k hk => by cases hk; have q := HN.out; omega))); clear hK; refine gy5 A R T K1 K2 ?_; (try clear A R T K1 K2); intro A R T K1 K2; refine gx2 IX1 IX2 ?_; (try clear IX1 IX2); intro IX1 IX2; refine gy4 HR HW HB HN ?_; (try clear HR HW HB HN); intro HR HW HB HN; clear hg hs OLD; refine r_q 16 ?_; refine r_e ?_
         replace HN : Hid (w.heap.size ≤ bA ∧ bA < bR ∧ bR < bT ∧ bT < B9 ∧ B9 ≤ bXB ∧ bXB < wc.heap.size) := by
          have q := HN.out; refine hide ?_
          omega
         exact jq6 (x0 := X2) (x1 := k1) (x2 := kc1) (x3 := o1) (x4 := oc1) (x5 := bXB) rfl (aj A (aj R (aj T (aj XB (aj K1 (aj K2 (aj HR (aj HW (aj IX1 (aj IX2 (aj HN HB)))))))))))
     rintro X2 k1 kc1 o1 oc1 bXB wc ⟨A, R, T, XB, K1, K2, HR, HW, IX1, IX2, HN, HB⟩
     cases hy with
     | false =>
      repeat ((fail_if_success (refine pl_id ?_)); go_step)
      refine w_i ?_; refine w_q ?_; refine w_e ?_; clear K1 K2 IX1 IX2
      replace HNO : Hid (∀ i, i < j + 1 → hitW W k z i = false) := hide (fun i hi => by
       by_cases h : i = j
       · rw [h]; exact HHT.out
       · exact HNO.out i (by omega))
      repeat ((fail_if_success (refine pl_id ?_)); go_step)
      refine w_i ?_
      (iterate 3 refine w_q ?_)
      refine w_e ?_
      replace HN : Hid (w.heap.size ≤ bA ∧ bA < bR ∧ bR < wc.heap.size) := by
       have q := HN.out; refine hide ?_
       omega
      replace HW := hide (HW.out.less (L' := (bR :: (bA :: L))) (by simp +contextual)); (go_wp2_with fail)
      go_roundw
      case rel => exact ⟨j + 1, by omega, _, HNO, by simp, A, R, HN, HR, HW, HB⟩
      case measure => simp [intOf]; omega
     | true =>
      repeat ((fail_if_success (refine pl_id ?_)); go_step)
      refine w_i ?_; refine w_q ?_; refine w_e ?_; have HF : Hid (joinW W k z = cameW W k z j) := hide (joinW_hit HNI.out hlt4 HNO.out HHT.out)
      repeat ((fail_if_success (refine pl_id ?_)); go_step)
      refine w_i ?_; refine w_q ?_; refine w_b A 0 ?_; refine w_q ?_; refine w_c XB ?_; refine w_q ?_; refine w_1 (fun K hK => ?_); obtain ⟨hgB, hth, ht⟩ := HW.out.setSeat HKS.out.1; obtain ⟨hg, X4, HW2, -⟩ := ht ⟨h1, h2, xk, xo, h3, h4, h5⟩ _ _ (srow_of K1.out HXL.out) (rowR_of K2.out HOL.out) IX1.out IX2.out; refine Go.wp_store_mid 62 (.tmp 59) (.tmp 58) rfl ga (k * 7) (memC h1 h2 (.slice k1 xl kc1) (.slice o1 ol oc1) h3 h4 h5) rfl rfl hth info_mm (one_mm _ _ _ _ _ _ _ _ _ _ _) ?_; refine hK.out _ _ ?_; clear hK hth ht; generalize wc.setCells ga (k * 7) ((memC h1 h2 (.slice k1 xl kc1) (.slice o1 ol oc1) h3 h4 h5)).toList = wc at *; refine gy4 A R T XB ?_; (try clear A R T XB); intro A R T XB; replace HR := hide (HR.out.row hg (fun z hz => .inr ⟨_, List.mem_of_getElem? (i := 0) rfl, hz⟩)); replace HB := hide (below_grown HB.out hg (by have q := HN.out; have q2 := HB0.out; omega) hgB); have hsz := hg.size; replace HN := hide (And.intro HN.out hsz); clear hsz hg hgB K1 K2 IX1 IX2; obtain ⟨W1, hW1⟩ : ∃ x, ({ W with seats := W.seats.set k ⟨h1, h2, xk, xo, h3, h4, h5⟩ } : Wld) = x := ⟨_, rfl⟩; rw [hW1] at HW2; (have HF1 : Hid (W1.waits = W.waits) := by rw [← hW1]; exact hide rfl); have HW1 := hide hW1; clear hW1; replace HW := hide HW2; clear HW2; (try simp only [Act.put]); refine w_e ?_; (have HJL : Hid (j < W1.waits.length ∧ W1.waits.length ≤ 1000) := by rw [HF1.out]; exact hide ⟨hlt4, by rw [HKS.out.2.2.1]; exact HKS.out.2.2.2⟩)
      repeat ((fail_if_success (refine pl_id ?_)); go_step)
      refine w_i ?_; refine w_c A ?_; refine w_q ?_; refine w_k (l7Gone_any _ _ B _ _ _ _ _ _ _ _ _ _ W1 j _ HW.out (Nat.le_trans HB0.out HB.out.size) HJL.out.1 HJL.out.2) ?_; rintro e wc ⟨X5, e1g, rfl, HW5, hm5, hb⟩; obtain ⟨-, ⟨e1a, e1c, rfl⟩, -⟩ := HW5.forms; refine s_k ?_; refine cy8 A R T XB HR HW HB HN ?_; (try clear A R T XB HR HW HB HN); intro A R T XB HR HW HB HN; clear hb; replace HW := hide HW5; clear HW5 hm5; refine w_s R (wldC (.slice (some ⟨ga, 0, none⟩) 8 ca) (.slice e1a (goneW W1 j).waits.length e1c) (.slice (some ⟨gc, 0, none⟩) cl cc) s3 s4 s5 s6 s7 s8 s9) ?_; (try clear R); intro wc OLD R hg hs; refine gy7 A T XB HR HW HB HN ?_; (try clear A T XB HR HW HB HN); intro A T XB HR HW HB HN; clear hg hs OLD; refine w_e ?_; have l1 := load_wld R.out rfl; (go_wp2_with fail); refine bodyPost_ret (v := .agg (wldC (.slice (some ⟨ga, 0, none⟩) 8 ca) (.slice e1a (goneW W1 j).waits.length e1c) (.slice (some ⟨gc, 0, none⟩) cl cc) s3 s4 s5 s6 s7 s8 s9)) (results_cell rfl rfl l1) rfl ?_; rw [HF.out, HCM.out, HW1.out]; exact ⟨_, _, rfl, HW.out.less (by simp +contextual), unhide HR⟩
   (have hlt2 : decide ((j : Int) < (wl : Int)) = false := by simp; omega); (have hjl : wl = j := by omega); subst hjl
   repeat ((fail_if_success (refine pl_id ?_)); go_step)
   refine w_i ?_; refine w_q ?_; refine w_q ?_; refine w_b A 1 ?_; refine w_q ?_; refine w_q ?_; refine w_e ?_; have HF : Hid (joinW W k z = W) := hide (joinW_no HNI.out (by rw [HKS.out.2.2.1]; exact HNO.out))
   repeat ((fail_if_success (refine pl_id ?_)); go_step)
   refine w_i ?_; refine w_c A ?_; refine w_s R (wldC (.slice (some ⟨ga, 0, none⟩) 8 ca) (.slice wo wl wc1) (.slice (some ⟨gc, 0, none⟩) cl cc) s3 s4 s5 s6 s7 s8 s9) ?_; (try clear R); intro wc OLD R hg hs; refine gy5 A HR HW HB HN ?_; (try clear A HR HW HB HN); intro A HR HW HB HN; clear hg hs OLD; refine w_e ?_; have l1 := load_wld R.out rfl; (go_wp2_with fail); refine bodyPost_ret (v := .agg (wldC (.slice (some ⟨ga, 0, none⟩) 8 ca) (.slice wo wl wc1) (.slice (some ⟨gc, 0, none⟩) cl cc) s3 s4 s5 s6 s7 s8 s9)) (results_cell rfl rfl l1) rfl ?_; rw [HF.out]; exact ⟨_, _, rfl, HW.out.less (by simp +contextual), unhide HR⟩
def winF (B : Nat) (w : World) (x : Win) (c : List Value) : Prop := ∃ s, c = (x.cells s).toList ∧ OwnI B w s x.seen
def OutW (B : Nat) (w : World) (v : Value) (l : List Win) : Prop := ∃ cs, w.ownsRow B 119 3 v l.length cs ∧ ListR (winF B w) l cs
def InW (w : World) (v : Value) (l : List Win) : Prop := ∃ cs, RowR w v l.length cs ∧ ListR (winR [] w) l cs
theorem winF.below {B : Nat} {w w' : World} (hb : Below w.heap.size w w') (x : Win) (c : List Value) (h : winF B w x c) : winF B w' x c := by obtain ⟨s, e, h1⟩ := h; exact ⟨s, e, own_below' h1 hb⟩
theorem OutW.below {B : Nat} {w w' : World} {v : Value} {l : List Win} (h : OutW B w v l) (hb : Below w.heap.size w w') : OutW B w' v l := by obtain ⟨cs, h1, h2⟩ := h; exact ⟨cs, own_below' h1 hb, h2.mono (winF.below hb)⟩
theorem InW.below {w w' : World} {v : Value} {l : List Win} (h : InW w v l) (hb : Below w.heap.size w w') : InW w' v l := by obtain ⟨cs, h1, h2⟩ := h; exact ⟨cs, h1.below hb, h2.mono (winR.keep (KeepX.below hb) (MoreX.refl _ _))⟩
theorem OutW.form {B : Nat} {w : World} {v : Value} {l : List Win} (h : OutW B w v l) : ∃ a c, v = .slice a l.length c := by obtain ⟨cs, h1, _⟩ := h; exact row_form' h1
theorem OutW.low {B B' : Nat} {w : World} {v : Value} {l : List Win} (h : OutW B w v l) (hb : B' ≤ B) : OutW B' w v l := by obtain ⟨cs, h1, h2⟩ := h; exact ⟨cs, row_lowB h1 hb, h2.mono (fun x c ⟨s, e, q⟩ => ⟨s, e, row_lowB q hb⟩)⟩
theorem InW.at {w : World} {v : Value} {l : List Win} (h : InW w v l) (i : Nat) (hi : i < l.length) : ∃ ad c s, v = .slice (some ad) l.length c ∧ w.cell? (ad.add (i * 3)) = some (.string l[i].key) ∧ w.cell? ⟨(ad.add (i * 3)).block, (ad.add (i * 3)).off + 1, Option.none⟩ = some (.int .i64 l[i].top) ∧ w.cell? ⟨(ad.add (i * 3)).block, (ad.add (i * 3)).off + 2, Option.none⟩ = some s ∧ IRow w s l[i].seen := by
 obtain ⟨cs, h1, h2⟩ := h; rcases h1 with ⟨_, h3, _⟩ | ⟨ad, c, rfl, _, _, h5⟩
 · omega
 obtain ⟨d, ⟨s, rfl, h6, _⟩, h7⟩ := ListR.get winR.len i hi h2; refine ⟨ad, c, s, rfl, h5 _ _ (h7 0 _ rfl), ?_, ?_, h6⟩
 · have q := h5 _ _ (h7 1 _ rfl); rw [Addr.add_succ' ad (i * 3)] at q; rw [addr_block, add_off, Nat.add_assoc]; exact q
 · have q := h5 _ _ (h7 2 _ rfl); rw [Addr.add_succ' ad (i * 3 + 1)] at q; rw [addr_block, add_off, Nat.add_assoc]; exact q
theorem OutW.snoc {B : Nat} {w w' : World} {v v' : Value} {l : List Win} {x : Win} {s : Value} {cs : List Value} {n : Nat} (hn : l.length = n) (h1 : w.ownsRow B 119 3 v n cs) (h2 : ListR (winF B w) l cs) (hs : OwnI B w s x.seen) (hg : w.grownBy w' v.ownBlock) (ho : w'.ownsRow B 119 3 v' (n + 1) (cs ++ (x.cells s).toList)) : OutW B w' v' (l ++ [x]) := by subst hn; have keep : ∀ y c, winF B w y c → winF B w' y c := fun y c ⟨z, e, q⟩ => ⟨z, e, World.ownsRow.kept q hg (row_apart q h1 (by decide))⟩; refine ⟨_, ?_, (h2.mono keep).app (ListR.one (keep x _ ⟨s, rfl, hs⟩))⟩; rw [List.length_append]; exact ho
theorem underWi : Tryz.prog.underlying 79 = some (.slice 119) := by kernel_rfl
theorem rowT_wi : RowT Tryz.prog 79 119 3 48 := rowT_of underWi (show (Tryz.prog.info? 119).map (fun i => (i.zero, i.size, i.bytes)) = some (some (.agg #[.string ⟨#[]⟩, .int .i64 0, .slice Option.none 0 0]), 3, 48) by kernel_rfl) rfl (by decide)
def TakeR (B : Nat) (x : Win) (n : Int) (v : Value) (w' : World) (v' : Value) : Prop := (lateB x n = true → v' = v) ∧ (lateB x n = false → OwnI B w' v' (tookW x n).seen)
set_option maxRecDepth 100000 in
set_option maxHeartbeats 4000000 in
theorem l6Take_any (x : Win) (v : Value) (n : Int) (w : World) (hI : IRow w v x.seen) (hl : x.seen.length ≤ 1000) (ht : -1000000 ≤ x.top ∧ x.top ≤ 1000000) (hn : -1000000 ≤ n ∧ n ≤ 1000000) : Calls Tryz.prog 76 #[.agg (x.cells v), .int .i64 n] w fun e w' => ∃ v', e = .returned (.tuple #[.agg ((takeW x n).1.cells v'), .bool (takeW x n).2]) ∧ TakeR w.heap.size x n v w' v' ∧ Below w.heap.size w w' := by
 have HT : Hid (takeW x n = if lateB x n = true then (x, false) else (tookW x n, true)) := rfl; have HL : Hid (lateB x n = (decide (n ≤ x.top - 8) || decide (n ∈ x.seen))) := rfl; have HK : Hid (tookW x n = ⟨x.key, max x.top n, seenOf n (max x.top n - 8) x.seen⟩) := rfl; obtain ⟨lb, hlb⟩ : ∃ b, lateB x n = b := ⟨_, rfl⟩; have HR : Hid (∀ B w' v', TakeR B x n v w' v' = ((lateB x n = true → v' = v) ∧ (lateB x n = false → OwnI B w' v' (tookW x n).seen))) := fun _ _ _ => rfl; obtain ⟨key, top, xs⟩ := x; simp only at hI hl ht HL HK HT HR hlb ⊢; have HI := hide hI; obtain ⟨ao, cap, rfl, _, _, _⟩ := hI.form; clear hI; (have i8 : IntKind.i64.wrap (top - 8) = top - 8 := by simp [IntKind.wrap, IntKind.bits, IntKind.signed]; omega); have a1' := ((Blk.new w 119 (winC key top (.slice ao xs.length cap))).alloc (.cells noWin 119)); have r1' := Blk.new (w.alloc (.cells (winC key top (.slice ao xs.length cap)) 119)) 119 noWin; have HB := hide (((Below.refl w.heap.size w).alloc (Nat.le_refl _) (.cells (winC key top (.slice ao xs.length cap)) 119)).alloc (by simp) (.cells noWin 119)); have hw0 := World.size_alloc (w.alloc (.cells (winC key top (.slice ao xs.length cap)) 119)) (.cells noWin 119); simp only [World.size_alloc] at r1' hw0; have A := hide a1'; have R := hide r1'; clear a1' r1'; have c1 := A.out.cell 1; have c2 := A.out.cell 2; simp only [List.getElem?_toArray, List.getElem?_cons_zero, List.getElem?_cons_succ] at c1 c2; have L0 := hide (load_wi A.out rfl); have L1 := hide (load_wi (R.out.set (winC key top (.slice ao xs.length cap))) rfl); by_cases g1 : n ≤ top - 8
 · (have HLT : Hid (lateB ⟨key, top, xs⟩ n = true) := by show _ = _; rw [HL.out, decide_eq_true g1]; rfl); clear hlb; go_enter Tryz.func76, Tryz.ntmps76; (have HTE : Hid (takeW ⟨key, top, xs⟩ n = (⟨key, top, xs⟩, false)) := by show _ = _; rw [HT.out, if_pos HLT.out]); (go_wp2_with (first | refine wpList_load_whole rfl 119 _ rfl ⟨w.heap.size, 0, none⟩ rfl _ (by exact unhide L0) ?_ | refine wpList_store_whole rfl 119 (.tmp 4) (.tmp 18) rfl (w.heap.size + 1) (winC key top (.slice ao xs.length cap)) ?hx1 ?hy1 119 noWin ?hb1 ?hi1 ?ho1 ?h11 ?h1)); (any_goals (first | rfl | exact unhide R | exact info_wi | exact one_wi _ _ _ _ _)); (go_wp2_with fail); refine bodyPost_ret (v := .tuple #[.agg (winC key top (.slice ao xs.length cap)), .bool false]) (results_cs rfl rfl rfl L1.out) rfl ?_; rw [HTE.out]; refine ⟨_, rfl, ?_, below_blk HB.out (by omega) _⟩; rw [HR.out]; exact ⟨fun _ => rfl, fun q => by rw [HLT.out] at q; cases q⟩
 (have g2 : decide (n ≤ top - 8) = false := by simpa using g1); go_enter Tryz.func76, Tryz.ntmps76; (go_wp2_with fail); refine (l4In_any _ xs n _ (HI.out.below HB.out)).mono ?_; by_cases g3 : n ∈ xs
 · rw [decide_eq_true g3]; rintro e wz ⟨rfl, rfl⟩; (have HLT : Hid (lateB ⟨key, top, xs⟩ n = true) := by show _ = _; rw [HL.out, decide_eq_true g3, Bool.or_true]); clear hlb; (have HTE : Hid (takeW ⟨key, top, xs⟩ n = (⟨key, top, xs⟩, false)) := by show _ = _; rw [HT.out, if_pos HLT.out]); (go_wp2_with (first | refine wpList_load_whole rfl 119 _ rfl ⟨w.heap.size, 0, none⟩ rfl _ (by exact unhide L0) ?_ | refine wpList_store_whole rfl 119 (.tmp 4) (.tmp 18) rfl (w.heap.size + 1) (winC key top (.slice ao xs.length cap)) ?hx2 ?hy2 119 noWin ?hb2 ?hi2 ?ho2 ?h12 ?h2)); (any_goals (first | rfl | exact unhide R | exact info_wi | exact one_wi _ _ _ _ _)); (go_wp2_with fail); refine bodyPost_ret (v := .tuple #[.agg (winC key top (.slice ao xs.length cap)), .bool false]) (results_cs rfl rfl rfl L1.out) rfl ?_; rw [HTE.out]; refine ⟨_, rfl, ?_, below_blk HB.out (by omega) _⟩; rw [HR.out]; exact ⟨fun _ => rfl, fun q => by rw [HLT.out] at q; cases q⟩
 rw [decide_eq_false g3]; rintro e wz ⟨rfl, rfl⟩; (have HLF : Hid (lateB ⟨key, top, xs⟩ n = false) := by show _ = _; rw [HL.out, g2, decide_eq_false g3]; rfl); (have HTE : Hid (takeW ⟨key, top, xs⟩ n = (tookW ⟨key, top, xs⟩ n, true)) := by show _ = _; rw [HT.out, HLF.out]; rfl); (have htp : -1000000000 ≤ max top n ∧ max top n ≤ 1000000000 := by omega); clear hlb g1 g2 g3 L0 L1 HL HT; (go_wp2_with fail); generalize max top n = tp at *; generalize (w.alloc (.cells (winC key top (.slice ao xs.length cap)) 119)).alloc (.cells noWin 119) = W0 at *; replace A := hide (A.out.drew); replace R := hide (R.out.drew); replace HB : Hid (Below w.heap.size w W0.drew) := HB.out.drew; clear c1 c2; have cA : W0.drew.cell? ⟨w.heap.size, 0, none⟩ = some (.string key) := A.out.cell 0; have cB : W0.drew.cell? ⟨w.heap.size, 2, none⟩ = some (.slice ao xs.length cap) := A.out.cell 2; have C4 := hide (And.intro cA cB)
 have LT4 : Hid (∀ x ∈ ([⟨w.heap.size, 0, none⟩, ⟨w.heap.size, 2, none⟩] : List Addr), x.block < W0.drew.heap.size) := by
  intro x hx; simp only [List.mem_cons, List.not_mem_nil, or_false] at hx; rcases hx with rfl | rfl
  · exact cell_lt cA
  · exact cell_lt cB
 clear cA cB; refine r_i ((KeepC ([⟨w.heap.size, 0, none⟩, ⟨w.heap.size, 2, none⟩] : List Addr))) ?_; refine r_q 0 ?_; refine r_q 1 ?_ (h := by intro w' hw'; have xq := (hw' ⟨w.heap.size, 0, none⟩ (by simp)).trans C4.out.1; go_simp; all_goals rfl); refine r_q2 2 3 ?_; refine r_q 4 ?_ (h := by intro w' hw'; have xq := (hw' ⟨w.heap.size, 2, none⟩ (by simp)).trans C4.out.2; go_simp; all_goals rfl); refine r_q2 5 6 ?_; refine r_1 7 (fun K hK => ?_); go_simp; refine (l6Seen_any _ xs n tp _ (HI.out.below HB.out) hl htp).mono ?_; rintro e w1 ⟨u, rfl, ho, hb⟩; obtain ⟨uo, uc, rfl⟩ := row_form' ho; have hle := HB.out.size; have hbs := hb.size; have OS : Hid (OwnI w.heap.size w1 (.slice uo (seenOf n (tp - 8) xs).length uc) (seenOf n (tp - 8) xs)) := row_lowB ho hle; go_simp; refine hK.out _ _ (keepC_below hb LT4.out) ?_; clear hK ho; refine cy1 R ?_; clear R; intro R; replace HB := hide (HB.out.trans (hb.mono hle))
 have LT5 : Hid (∀ x ∈ ([⟨w.heap.size, 0, none⟩, ⟨w.heap.size, 2, none⟩] : List Addr), x.block < w1.heap.size ∧ x.block ≠ w.heap.size + 1) := by
  intro x hx; refine ⟨Nat.lt_of_lt_of_le (LT4.out x hx) hbs, ?_⟩; simp only [List.mem_cons, List.not_mem_nil, or_false] at hx; rcases hx with rfl | rfl
  · show w.heap.size ≠ w.heap.size + 1; omega
  · show w.heap.size ≠ w.heap.size + 1; omega
 clear hb LT4 hle hbs; (try simp only [Act.put, p_a, p_b, p_c]); refine r_q 8 ?_; refine r_1 9 (fun K hK => ?_); refine wp_store_row 119 (.tmp 4) (.tmp 31) rfl (w.heap.size + 1) (winC key tp (.slice uo (seenOf n (tp - 8) xs).length uc)) rfl rfl 119 noWin R.out info_wi rfl (one_wi _ _ _ _ _) ?_; refine sr hK ?_ (r := (keepC_row LT5.out (grown_setRow _ _ _))); clear hK; refine r_q 10 ?_; refine r_e ?_; have l2 := load_wi (R.out.set (winC key tp (.slice uo (seenOf n (tp - 8) xs).length uc))) rfl; (go_wp2_with fail); refine bodyPost_ret (v := .tuple #[.agg (winC key tp (.slice uo (seenOf n (tp - 8) xs).length uc)), .bool true]) (results_cs rfl rfl rfl l2) rfl ?_; rw [HTE.out, HK.out]; refine ⟨_, rfl, ?_, below_blk HB.out (by omega) _⟩; rw [HR.out]; refine ⟨fun q => (by rw [HLF.out] at q; cases q), fun _ => ?_⟩; rw [HK.out]; exact row_blk OS.out R.out (by decide) _
def hearsB (m : Mem) (f : Fra) : Bool := m.inn && (fraOk f && (decide (f.fr ≠ m.who) && (decide (keyOf m.keys f.fr ≠ ByteArray.empty) && decide (f.key = mkSay m.init f.fr))))
theorem hearsB_eq (m : Mem) (f : Fra) : hearsB m f = (m.inn && (fraOk f && (decide (f.fr ≠ m.who) && (decide (keyOf m.keys f.fr ≠ ByteArray.empty) && decide (f.key = mkSay m.init f.fr))))) := rfl
theorem fraOk_one {f : Fra} (h : fraOk f = true) : 0 ≤ f.fr ∧ f.fr ≤ 7 := by rw [fraOk_eq, Bool.and_eq_true] at h; have := h.1; unfold inB at this; simpa using this
set_option maxRecDepth 100000 in
set_option maxHeartbeats 4000000 in
theorem l6Hears_any (m : Mem) (ks os : Value) (f : Fra) (w : World) (hK : SRow w ks m.keys) (hO : MRow w os m.own) (hl15 : m.inn = true → m.keys.length = 15) (him : m.init.size ≤ maxLen) (hfm : f.key.size ≤ maxLen) :
 Calls Tryz.prog 74 #[.agg (m.cells ks os), .agg f.cells] w fun e w' => e = .returned (.bool (hearsB m f)) ∧ Below w.heap.size w w' := by
 have HE : Hid (hearsB m f = _) := hearsB_eq m f; have HFO := hide (sFraOk_any f); have HF1 : Hid (fraOk f = true → 0 ≤ f.fr ∧ f.fr ≤ 7) := fraOk_one; obtain ⟨inn, who, keys, own, ep, init, tag⟩ := m; obtain ⟨fr, fkey, fn, text⟩ := f; simp only at hK hO hl15 him hfm HE HFO HF1 ⊢; have M : Hid (init.size ≤ maxLen ∧ fkey.size ≤ maxLen) := ⟨him, hfm⟩; have HK0 := hide hK; obtain ⟨a1, p1, rfl, _, _, z1⟩ := hK.form; obtain ⟨a2, p2, rfl, _, _, _⟩ := id hO; clear hK hO him hfm; generalize own.length = n2 at *; obtain ⟨r, hr⟩ : ∃ r, hearsB ⟨inn, who, keys, own, ep, init, tag⟩ ⟨fr, fkey, fn, text⟩ = r := ⟨_, rfl⟩; rw [hr] at HE ⊢; clear hr; have A := hide ((Blk.new w 62 (memC inn who (.slice a1 keys.length p1) (.slice a2 n2 p2) ep init tag)).alloc (.cells (fraC fr fkey fn text) 107)); have x1' := Blk.new (w.alloc (.cells (memC inn who (.slice a1 keys.length p1) (.slice a2 n2 p2) ep init tag) 62)) 107 (fraC fr fkey fn text); have HB := hide (((Below.refl w.heap.size w).alloc (Nat.le_refl _) (.cells (memC inn who (.slice a1 keys.length p1) (.slice a2 n2 p2) ep init tag) 62)).alloc (by simp) (.cells (fraC fr fkey fn text) 107)); simp only [World.size_alloc] at x1'; have X := hide x1'; clear x1'; obtain ⟨fo, hfo⟩ : ∃ b, fraOk ⟨fr, fkey, fn, text⟩ = b := ⟨_, rfl⟩; rw [hfo] at HE HF1; have HFB := hide hfo; clear hfo
 go_enter Tryz.func74, Tryz.ntmps74
 (go_wp2_with fail); generalize (w.alloc (.cells (memC inn who (.slice a1 keys.length p1) (.slice a2 n2 p2) ep init tag) 62)).alloc (.cells (fraC fr fkey fn text) 107) = W0 at *; replace A := hide (A.out.drew); replace X := hide (X.out.drew); replace HB : Hid (Below w.heap.size w W0.drew) := HB.out.drew
 cases inn with
 | false =>
  (have HF : Hid (r = false) := by show _ = _; rw [HE.out]; simp); clear HE; refine r_i Later ?_; refine r_q 0 ?_; refine r_b 1 A 0 ?_; refine r_q 2 ?_; refine r_n2 3 4 ?_; refine r_q 5 ?_; refine r_q 6 ?_; refine r_n4 7 8 9 10 ?_; refine r_n 11 ?_; refine r_q 12 ?_; refine r_q 13 ?_; refine r_n8 14 15 16 17 18 19 20 21 ?_; refine r_n 22 ?_; refine r_q 23 ?_; refine r_q 24 ?_; refine r_n8 25 26 27 28 29 30 31 32 ?_; refine r_q 33 ?_; refine r_q 34 ?_; refine r_e ?_; (go_wp2_with fail)
  go_ret
  exact ⟨ret_bool' HF.out.symm, unhide HB⟩
 | true =>
  simp only [Bool.true_and] at HE; have hkl := hl15 rfl; obtain ⟨ad, rfl, _⟩ := z1 0 (by omega); have HKL := hide hkl; clear z1 hl15 hkl
  cases fo with
  | false =>
   (have HF : Hid (r = false) := by show _ = _; rw [HE.out]; simp); clear HE; refine r_i Later ?_; refine r_q 0 ?_; refine r_b 1 A 0 ?_; refine r_q 2 ?_; refine r_q 3 ?_ (h := by intro w' hw'; have x := (X.out.below hw').c4; go_simp; all_goals rfl); refine r_k 4 (HFO.out _ M.out.2) ?_; rw [HFB.out]; rintro e w1 ⟨rfl, hb⟩; refine s_r ?_; refine cy3 A X HB ?_; clear A X HB; intro A X HB; clear hb; refine r_q 5 ?_; refine r_q 6 ?_; refine r_n4 7 8 9 10 ?_; refine r_n 11 ?_; refine r_q 12 ?_; refine r_q 13 ?_; refine r_n8 14 15 16 17 18 19 20 21 ?_; refine r_n 22 ?_; refine r_q 23 ?_; refine r_q 24 ?_; refine r_n8 25 26 27 28 29 30 31 32 ?_; refine r_q 33 ?_; refine r_q 34 ?_; refine r_e ?_; (go_wp2_with fail)
   go_ret
   exact ⟨ret_bool' HF.out.symm, unhide HB⟩
  | true =>
   simp only [Bool.true_and] at HE; have hf7 := HF1.out rfl
   by_cases h3 : fr = who
   · have hq1 : (fr != who) = false := by simpa using h3
     (have hq2 : (fr == who) = true := by simpa using h3); rw [show decide (fr ≠ who) = false by simpa using h3] at HE; clear h3; (have HF : Hid (r = false) := by show _ = _; rw [HE.out]; simp); clear HE; refine r_i Later ?_; refine r_q 0 ?_; refine r_b 1 A 0 ?_; refine r_q 2 ?_; refine r_q 3 ?_ (h := by intro w' hw'; have x := (X.out.below hw').c4; go_simp; all_goals rfl); refine r_k 4 (HFO.out _ M.out.2) ?_; rw [HFB.out]; rintro e w1 ⟨rfl, hb⟩; refine s_r ?_; refine cy3 A X HB ?_; clear A X HB; intro A X HB; clear hb; refine r_q3 5 6 7 ?_; refine r_b 8 X 0 ?_; refine r_q 9 ?_; refine r_b 10 A 1 ?_; refine r_q 11 ?_; refine r_q 12 ?_; refine r_q 13 ?_; refine r_n8 14 15 16 17 18 19 20 21 ?_; refine r_n 22 ?_; refine r_q 23 ?_; refine r_q 24 ?_; refine r_n8 25 26 27 28 29 30 31 32 ?_; refine r_q 33 ?_; refine r_q 34 ?_; refine r_e ?_; (go_wp2_with fail)
     go_ret
     exact ⟨ret_bool' HF.out.symm, unhide HB⟩
   have hq1 : (fr != who) = true := bne_iff_ne.mpr h3; (have hq2 : (fr == who) = false := by simpa using h3); rw [show decide (fr ≠ who) = true by simpa using h3] at HE; simp only [Bool.true_and] at HE; clear h3; obtain ⟨nn, hnn, hn15⟩ : ∃ n : Nat, leafOf fr = (n : Int) ∧ n < 15 := ⟨(7 + fr).toNat, by rw [leaf_in (by omega) (by omega)]; omega, by omega⟩; (have hnk : nn < keys.length := by have := HKL.out; omega); have HLF := hide hnn; (have HKY : Hid (keys.getD nn ByteArray.empty = keyOf keys fr) := by show _ = _; unfold keyOf; rw [HLF.out]; rfl); obtain ⟨ky, hky⟩ : ∃ k, keyOf keys fr = k := ⟨_, rfl⟩; rw [hky] at HKY HE; (have hni : (nn : Int) < (keys.length : Int) := by have := HKL.out; omega); clear hnn hky
   by_cases h4 : ky = ByteArray.empty
   · subst h4
     have hz5 : (ByteArray.empty).toList = [] := nil_text; (have hz6 : (ByteArray.empty).toList.isEmpty = true := by rw [nil_text]; rfl); (have HF : Hid (r = false) := by show _ = _; rw [HE.out]; simp); clear HE; refine r_i Later ?_; refine r_q 0 ?_; refine r_b 1 A 0 ?_; refine r_q 2 ?_; refine r_q 3 ?_ (h := by intro w' hw'; have x := (X.out.below hw').c4; go_simp; all_goals rfl); refine r_k 4 (HFO.out _ M.out.2) ?_; rw [HFB.out]; rintro e w1 ⟨rfl, hb⟩; refine s_r ?_; refine cy3 A X HB ?_; clear A X HB; intro A X HB; clear hb; refine r_q3 5 6 7 ?_; refine r_b 8 X 0 ?_; refine r_q 9 ?_; refine r_b 10 A 1 ?_; refine r_q4 11 12 13 14 ?_; refine r_q 15 ?_; refine r_b 16 A 2 ?_; refine r_q 17 ?_; refine r_b 18 X 0 ?_; refine r_k 19 (sTreLeaf_any fr _) ?_; rw [HLF.out]; rintro e wz ⟨rfl, rfl⟩; refine s_r ?_; refine r_q 20 ?_; refine r_q 21 ?_ (h := by intro w' hw'; have hcx := key_cell (HK0.out.below (HB.out.trans (Below.mono hw' HB.out.size))) hnk; rw [HKY.out] at hcx; go_simp; all_goals rfl); refine r_q 22 ?_; refine r_q 23 ?_; refine r_q 24 ?_; refine r_n8 25 26 27 28 29 30 31 32 ?_; refine r_q 33 ?_; refine r_q 34 ?_; refine r_e ?_; (go_wp2_with fail)
     go_ret
     exact ⟨ret_bool' HF.out.symm, unhide HB⟩
   have hz5 : ¬ ky.toList = [] := no_text h4; (have hz6 : ky.toList.isEmpty = false := by simpa using no_text h4); rw [show decide (ky ≠ ByteArray.empty) = true by simpa using h4] at HE; simp only [Bool.true_and] at HE; clear h4; refine r_i Later ?_; refine r_q 0 ?_; refine r_b 1 A 0 ?_; refine r_q 2 ?_; refine r_q 3 ?_ (h := by intro w' hw'; have x := (X.out.below hw').c4; go_simp; all_goals rfl); refine r_k 4 (HFO.out _ M.out.2) ?_; rw [HFB.out]; rintro e w1 ⟨rfl, hb⟩; refine s_r ?_; refine cy3 A X HB ?_; clear A X HB; intro A X HB; clear hb; refine r_q3 5 6 7 ?_; refine r_b 8 X 0 ?_; refine r_q 9 ?_; refine r_b 10 A 1 ?_; refine r_q4 11 12 13 14 ?_; refine r_q 15 ?_; refine r_b 16 A 2 ?_; refine r_q 17 ?_; refine r_b 18 X 0 ?_; refine r_k 19 (sTreLeaf_any fr _) ?_; rw [HLF.out]; rintro e wz ⟨rfl, rfl⟩; refine s_r ?_; refine r_q 20 ?_; refine r_q 21 ?_ (h := by intro w' hw'; have hcx := key_cell (HK0.out.below (HB.out.trans (Below.mono hw' HB.out.size))) hnk; rw [HKY.out] at hcx; go_simp; all_goals rfl); refine r_q4 22 23 24 25 ?_; refine r_b 26 X 1 ?_; refine r_q 27 ?_; refine r_b 28 A 5 ?_; refine r_q 29 ?_; refine r_b 30 X 0 ?_; refine r_k 31 (sMakSay_any init fr _ M.out.1) ?_; generalize mkSay init fr = sk at HE ⊢; rintro e w2 ⟨rfl, hb⟩; refine s_r ?_; refine cy3 A X HB ?_; clear A X HB; intro A X HB; clear hb; refine r_q3 32 33 34 ?_; refine r_e ?_; (go_wp2_with fail)
   go_ret
   exact ⟨ret_bool' (by rw [HE.out, ← str_dec]), unhide HB⟩
def getAt (l : List Win) (key : ByteArray) : Int := atW (l.map fun x => (x, Value.bool false)) key
theorem atFrom_fst (key : ByteArray) : ∀ (ws us : List (Win × Value)) (k : Nat), ws.map Prod.fst = us.map Prod.fst → atFrom key ws k = atFrom key us k | [], [], _, _ => rfl | [], _ :: _, _, h => by simp at h | _ :: _, [], _, h => by simp at h | a :: ws, b :: us, k, h => by simp only [List.map_cons, List.cons.injEq] at h rw [atFrom, atFrom, h.1, atFrom_fst key ws us (k + 1) h.2]
theorem getAt_eq {l : List Win} {ws : List (Win × Value)} (key : ByteArray) (h : ws.map Prod.fst = l) : atW ws key = getAt l key := by unfold getAt atW; refine atFrom_fst key _ _ 0 ?_; rw [h, List.map_map]; exact (List.map_id l).symm
theorem atFrom_le (key : ByteArray) : ∀ (ws : List (Win × Value)) (k : Nat), atFrom key ws k = -1 ∨ ((k : Int) ≤ atFrom key ws k ∧ atFrom key ws k < (k : Int) + ws.length)
  | [], _ => .inl rfl
  | a :: ws, k => by
    rw [atFrom]
    split
    · exact .inr ⟨by omega, by rw [List.length_cons]; omega⟩
    · rcases atFrom_le key ws (k + 1) with h | h
      · exact .inl h
      · exact .inr ⟨by omega, by rw [List.length_cons]; omega⟩
theorem getAt_lt (l : List Win) (key : ByteArray) : getAt l key = -1 ∨ (0 ≤ getAt l key ∧ getAt l key < l.length) := by
 rcases atFrom_le key (l.map fun x => (x, Value.bool false)) 0 with h | h
 · exact .inl h
 · rw [List.length_map] at h; exact .inr ⟨by have := h.1; unfold getAt atW; omega, by have := h.2; unfold getAt atW; omega⟩
def getO (m : Mem) (l : List Win) (f : Fra) : List Win × Bool :=
  if hearsB m f = true then
    if getAt l f.key < 0 then (l ++ [⟨f.key, f.n, [f.n]⟩], true)
    else (l.set (getAt l f.key).toNat (takeW (l.getD (getAt l f.key).toNat Win.none) f.n).1, (takeW (l.getD (getAt l f.key).toNat Win.none) f.n).2)
  else (l, false)
def WinsX (X : List Nat) (w : World) (v : Value) (l : List Win) : Prop := InX X w v ∧ ∃ cs, RowR w v l.length cs ∧ ListR (winR X w) l cs
theorem WinsX.below {X : List Nat} {w w' : World} {v : Value} {l : List Win} (h : WinsX X w v l) (hb : Below w.heap.size w w') : WinsX X w' v l := by obtain ⟨h0, cs, h1, h2⟩ := h; exact ⟨h0.keep (KeepX.below hb) (MoreX.refl _ _), cs, h1.below hb, h2.mono (winR.keep (KeepX.below hb) (MoreX.refl _ _))⟩
theorem WinsX.form {X : List Nat} {w : World} {v : Value} {l : List Win} (h : WinsX X w v l) : ∃ a c, v = .slice a l.length c := by obtain ⟨_, cs, h1, _⟩ := h; exact h1.form
theorem ListR.wins {X : List Nat} {w : World} : ∀ {l : List Win} {cs : List Value}, ListR (winR X w) l cs → ∃ ws : List (Win × Value), ws.map Prod.fst = l ∧ (∀ p ∈ ws, IRow w p.2 p.1.seen ∧ InX X w p.2) ∧ cs = ws.flatMap (fun p => (p.1.cells p.2).toList)
  | [], cs, h => ⟨[], rfl, by simp, by rw [show cs = [] from h]; rfl⟩
  | x :: l, cs, ⟨c, cs', e, ⟨s, e2, h1, h2⟩, h3⟩ => by
    obtain ⟨ws, p1, p2, p3⟩ := ListR.wins h3
    refine ⟨(x, s) :: ws, by simp [p1], fun p hp => ?_, by rw [e, e2, p3]; simp⟩
    rcases List.mem_cons.1 hp with rfl | hp
    · exact ⟨h1, h2⟩
    · exact p2 p hp
theorem wins_cell : ∀ (ws : List (Win × Value)) (i : Nat) (h : i < ws.length) (n : Nat) (u : Value), ((ws[i].1.cells ws[i].2))[n]? = some u → (ws.flatMap (fun p => (p.1.cells p.2).toList))[i * 3 + n]? = some u
  | p :: ws, 0, _, n, u, h => by
    have hn : n < 3 := by
      have := (Array.getElem?_eq_some_iff.1 h).1
      exact this
    rw [List.flatMap_cons, Nat.zero_mul, Nat.zero_add, List.getElem?_append_left (by simpa using hn)]
    simpa using h
  | p :: ws, i + 1, hi, n, u, h => by
    have ih := wins_cell ws i (by simpa using hi) n u (by simpa using h)
    rw [List.flatMap_cons, List.getElem?_append_right (by simp; omega)]
    rw [show (i + 1) * 3 + n - ([Value.string p.1.key, Value.int .i64 p.1.top, p.2] : List Value).length = i * 3 + n by simp; omega]
    exact ih
theorem WinsX.wrow {X : List Nat} {w : World} {v : Value} {l : List Win} (h : WinsX X w v l) : ∃ ws : List (Win × Value), ws.map Prod.fst = l ∧ WRow w v ws := by
 obtain ⟨_, cs, h1, h2⟩ := h; obtain ⟨ws, p1, p2, p3⟩ := ListR.wins h2; (have hl : ws.length = l.length := by rw [← p1, List.length_map]); refine ⟨ws, p1, ?_⟩; rcases h1 with ⟨e1, e2, _⟩ | ⟨a, c, e1, q1, q2, q3⟩
 · exact ⟨Option.none, 0, by rw [e1, hl, e2], by omega, by omega, fun i hi => by omega⟩
 · refine ⟨some a, c, by rw [e1, hl], by omega, q2, fun i hi => ?_⟩; have key := wins_cell ws i hi; rw [← p3] at key; refine ⟨a, rfl, q3 _ _ (key 0 _ rfl), ?_, ?_, (p2 _ (List.getElem_mem hi)).1⟩
   · have q := q3 _ _ (key 1 _ rfl); rw [Addr.add_succ' a (i * 3)] at q; rw [addr_block, add_off, Nat.add_assoc]; exact q
   · have q := q3 _ _ (key 2 _ rfl); rw [Addr.add_succ' a (i * 3 + 1)] at q; rw [addr_block, add_off, Nat.add_assoc]; exact q
theorem WinsX.at {X : List Nat} {w : World} {v : Value} {l : List Win} (h : WinsX X w v l) (i : Nat) (hi : i < l.length) : ∃ ad c s, v = .slice (some ad) l.length c ∧ w.cell? (ad.add (i * 3)) = some (.string l[i].key) ∧ w.cell? ⟨(ad.add (i * 3)).block, (ad.add (i * 3)).off + 1, Option.none⟩ = some (.int .i64 l[i].top) ∧ w.cell? ⟨(ad.add (i * 3)).block, (ad.add (i * 3)).off + 2, Option.none⟩ = some s ∧ IRow w s l[i].seen ∧ InX X w s := by
 obtain ⟨_, cs, h1, h2⟩ := h; rcases h1 with ⟨_, h3, _⟩ | ⟨ad, c, rfl, _, _, h5⟩
 · omega
 obtain ⟨d, ⟨s, rfl, h6, h8⟩, h7⟩ := ListR.get winR.len i hi h2; refine ⟨ad, c, s, rfl, h5 _ _ (h7 0 _ rfl), ?_, ?_, h6, h8⟩
 · have q := h5 _ _ (h7 1 _ rfl); rw [Addr.add_succ' ad (i * 3)] at q; rw [addr_block, add_off, Nat.add_assoc]; exact q
 · have q := h5 _ _ (h7 2 _ rfl); rw [Addr.add_succ' ad (i * 3 + 1)] at q; rw [addr_block, add_off, Nat.add_assoc]; exact q
theorem inX_new {X : List Nat} {w w' : World} {B : Nat} {e : TypeId} {size n : Nat} {v : Value} {xs : List Value} (hX : ∀ b ∈ X, b < w.heap.size) (hB : w.heap.size ≤ B) (h : w'.ownsRow B e size v n xs) : InX X w' v := fun b hb => by
  obtain ⟨h1, h2⟩ := h.lt b hb
  exact ⟨h2, fun q => by have := hX b q; omega⟩
theorem getO_no {m : Mem} {l : List Win} {f : Fra} (h : hearsB m f = false) : getO m l f = (l, false) := by unfold getO; rw [if_neg (by rw [h]; decide)]
theorem getO_new {m : Mem} {l : List Win} {f : Fra} (h : hearsB m f = true) (h2 : getAt l f.key < 0) : getO m l f = (l ++ [⟨f.key, f.n, [f.n]⟩], true) := by unfold getO; rw [if_pos h, if_pos h2]
theorem getO_old {m : Mem} {l : List Win} {f : Fra} (h : hearsB m f = true) {k : Nat} (h2 : getAt l f.key = (k : Int)) (hk : k < l.length) : getO m l f = (l.set k (takeW l[k] f.n).1, (takeW l[k] f.n).2) := by unfold getO; rw [if_pos h, if_neg (by omega), h2, Int.toNat_natCast, getD_at2 _ hk]
theorem results_ss {P : Program} {fn : Func} {a s : Nat} {tmps : Array Value} {w : World} {v x : Value} (h : fn.results = #[.tmp a, .tmp s]) (hp : tmps.getD a undef = v) (hx : tmps.getD s undef = x) : (results fn tmps).run P w = .ok (.tuple #[v, x]) w := by (have hp' : tmps[a]?.getD undef = v := by simpa using hp); (have hx' : tmps[s]?.getD undef = x := by simpa using hx); simp [results, h, hp', hx']
def FraZ (f : Fra) : Prop := f.key.size ≤ maxLen ∧ f.text.size ≤ maxLen ∧ -1000000 ≤ f.n ∧ f.n ≤ 1000000
def WinsZ (l : List Win) : Prop := l.length ≤ 1000 ∧ ∀ x ∈ l, x.seen.length ≤ 1000 ∧ -1000000 ≤ x.top ∧ x.top ≤ 1000000
def gotW (W : Wld) (k z : Nat) : Wld :=
  if W.told.length = 320 then W
  else if (getO (W.seats.getD k Mem.none) (W.wins.getD k []) (W.frames.getD z Fra.none)).2 = true then
    { W with wins := W.wins.set k (getO (W.seats.getD k Mem.none) (W.wins.getD k []) (W.frames.getD z Fra.none)).1, told := W.told ++ [⟨(k : Int), (z : Int)⟩] }
  else W
theorem Rows.winsX {X L : List Nat} {B : Nat} {w : World} {a b c d e f g h j : Value} {W : Wld} {gi n ci : Nat} (q : Rows X L B w (rowsOf a b c d e f g h (.slice (some ⟨gi, 0, Option.none⟩) n ci) j W)) {k : Nat} (hk : k < W.wins.length) {l : List Win} (hl : W.wins.getD k [] = l) : ∃ v, w.cell? ⟨gi, k, Option.none⟩ = some v ∧ WinsX X w v l := by obtain ⟨v, h1, h2, cs, h3, h4⟩ := q.winsAt k hk; rw [getD_at2 _ hk] at hl; subst hl; exact ⟨v, h1, h2, cs, h3, h4⟩
theorem Rows.fraAt {X L : List Nat} {B : Nat} {w : World} {a b c d e f h i j : Value} {W : Wld} {gg n cg : Nat} (q : Rows X L B w (rowsOf a b c d e f (.slice (some ⟨gg, 0, Option.none⟩) n cg) h i j W)) {k : Nat} (hk : k < W.frames.length) {x : Fra} (hx : W.frames.getD k Fra.none = x) : ∀ n u, (x.cells)[n]? = some u → w.cell? ⟨gg, k * 4 + n, Option.none⟩ = some u := by rw [getD_at2 _ hk] at hx; subst hx; exact q.frameAt k hk
theorem rowT_td : RowT Tryz.prog 39 116 2 16 := rowT_of (show Tryz.prog.underlying 39 = some (.slice 116) by kernel_rfl) (show (Tryz.prog.info? 116).map (fun i => (i.zero, i.size, i.bytes)) = some (some (.agg #[.int .i64 0, .int .i64 0]), 2, 16) by kernel_rfl) rfl (by decide)
end Go.Proofs.YtdfpeaenbmgihaaGreat
