/-
  What happens is drawn.
-/
import Derived.Test.YtdfpeaenbmgihaaGreatWB22
namespace Go.Proofs.YtdfpeaenbmgihaaGreat
set_option maxHeartbeats 64000000
set_option maxRecDepth 100000
open Go.RowKit
set_option linter.unusedVariables false
theorem l20Event_any (b : Nat) (C : Code) (p : Nat) (X L : List Nat) (B : Nat) (s0 s1 s2 s3 s4 s5 s6 s7 s8 s9 : Value) (W : Wld) (w : World) (h : DrC b C p w) (hp : p ≤ 900000) (q : Rows X L B w (rowsOf s0 s1 s2 s3 s4 s5 s6 s7 s8 s9 W)) (hbL : b ∈ L) (hs : W.seats.length = 8) (hww : ∀ x ∈ W.waits, 0 ≤ x.who ∧ x.who < 8) (hz1 : W.waits.length ≤ 1000) (hz2 : W.log.length ≤ 1000) (hz6 : W.frames.length ≤ 1000) : Calls Tryz.prog 19 #[.pointer (some ⟨b, 0, none⟩), .agg (wldC s0 s1 s2 s3 s4 s5 s6 s7 s8 s9)] w (EvPost b C p w) := by
 have D := hide h; have HP := hide hp; obtain ⟨ga, p0, _, _, rfl, -, -, -⟩ := q.seat 0 (by omega); (have HSE : Hid (ga ≠ b ∧ ∀ k, k < 8 → ∃ i : Bool, w.cell? ⟨ga, k * 7, none⟩ = some (.bool i)) := by refine hide ⟨fun e => (q.loc b hbL).2 _ (List.mem_of_getElem? (i := 0) rfl) (by rw [← e]; rfl), fun k hk => ?_⟩; obtain ⟨z1, y1, z2, y2, hc, -, -⟩ := q.seatAt (k := k) (by omega) (m := W.seats.getD k Mem.none) rfl; exact ⟨_, hc 0 _ rfl⟩); obtain ⟨-, ⟨a1, p1, rfl⟩, ⟨a2, p2, rfl⟩, ⟨a3, p3, rfl⟩, ⟨a4, p4, rfl⟩, ⟨a5, p5, rfl⟩, ⟨a6, p6, rfl⟩, ⟨a7, p7, rfl⟩, ⟨a8, p8, rfl⟩, ⟨a9, p9, rfl⟩⟩ := q.forms
 have HWT : Hid (W.waits.length = 0 ∨ ∃ gw, a1 = some ⟨gw, 0, none⟩ ∧ gw ≠ b ∧ gw < w.heap.size ∧ ∀ k, k < W.waits.length → ∃ (x : Nat) (y : Int) (l m : ByteArray), x < 8 ∧ ∀ n u, (wtC (x : Int) y l m)[n]? = some u → w.cell? ⟨gw, k * 4 + n, none⟩ = some u) := by
  by_cases e : W.waits.length = 0
  · exact hide (.inl e)
  · obtain ⟨cs, o1, _⟩ := q.own _ (List.mem_of_getElem? (i := 1) rfl); obtain ⟨gw, c, e2, _⟩ := row_some o1 (by show 0 < W.waits.length; omega); simp only [Value.slice.injEq] at e2; obtain ⟨rfl, _⟩ := e2; refine hide (.inr ⟨gw, rfl, fun e => (q.loc b hbL).2 _ (List.mem_of_getElem? (i := 1) rfl) (by rw [← e]; rfl), (o1.lt gw rfl).2, fun k hk => ?_⟩); have hx := hww _ (List.getElem_mem hk); refine ⟨W.waits[k].who.toNat, W.waits[k].pos, W.waits[k].leaf, W.waits[k].key, by omega, fun n u hu => q.waitAt k hk n u ?_⟩; rw [show ((W.waits[k].who.toNat : Nat) : Int) = W.waits[k].who by omega] at hu; exact hu
 rw [hs]; generalize W.waits.length = n1 at *; generalize W.log.length = n2 at *; generalize W.frames.length = n6 at *; generalize W.fresh.length = n3 at *; generalize W.spy.length = n4 at *; generalize W.stolen.length = n5 at *; generalize W.said.length = n7 at *; generalize W.wins.length = n8 at *; generalize W.told.length = n9 at *; have HNZ : Hid (n1 ≤ 1000 ∧ n2 ≤ 1000 ∧ n6 ≤ 1000) := hide ⟨hz1, hz2, hz6⟩; clear h hp q hbL hs hww hz1 hz2 hz6; go_enter Tryz.func19, Tryz.ntmps19; (go_wp2_with fail); refine (pick_any b C p 5 5 rfl _ ((D.out.alloc _).alloc _) (by omega) (by omega) (by have := HP.out; omega)).mono ?_; rintro e w1 ⟨v, rfl, hv, d1, x1⟩; have HS := hide (ES.start (A := wldC (.slice (some ⟨ga, 0, none⟩) 8 p0) (.slice a1 n1 p1) (.slice a2 n2 p2) (.slice a3 n3 p3) (.slice a4 n4 p4) (.slice a5 n5 p5) (.slice a6 n6 p6) (.slice a7 n7 p7) (.slice a8 n8 p8) (.slice a9 n9 p9)) (V := evC 0 (v : Int) (-1) (-1) 0 ⟨#[]⟩) D.out x1.gb d1); clear d1 x1 D; have hbR : w.heap.size + 1 = w.heap.size + 1 := rfl; generalize w.heap.size + 1 = bR at *; clear hbR; (go_wp2_with fail); refine (HS.out.pick 3 rfl (by omega) (by have := HP.out; omega)).mono ?_; rintro e wx ⟨v2, rfl, hv2, HS, _⟩; generalize w1.heap.size = bV at *; (have hk : v < 8 := by omega); by_cases h0 : v2 = 0
 case' pos =>
  subst h0; (go_wp2_with fail); refine (HS.out.pick 12 rfl (by omega) (by have := HP.out; omega)).mono ?_; rintro e wx ⟨y, rfl, hy, HS, _⟩; generalize v = k at *
 case' neg =>
  (have h1 : (0 : Int) < (v2 : Int) := by omega); (go_wp2_with fail); go_loopw [6] (fun i wr => ∃ (j k : Nat) (_ : j ≤ 8) (_ : k < 8), i = .int .i64 (j : Int) ∧ Hid (ES b w.heap.size bR bV C w (p + 2) (wldC (.slice (some ⟨ga, 0, none⟩) 8 p0) (.slice a1 n1 p1) (.slice a2 n2 p2) (.slice a3 n3 p3) (.slice a4 n4 p4) (.slice a5 n5 p5) (.slice a6 n6 p6) (.slice a7 n7 p7) (.slice a8 n8 p8) (.slice a9 n9 p9)) (evC 0 (k : Int) (-1) (-1) (0) ⟨#[]⟩) wr)) (fun i _ => 8 - (intOf i).toNat)
  case atStart => exact ⟨0, v, by omega, hk, rfl, HS⟩
  case' round =>
   clear HS hk; obtain ⟨j, k, hj, hk, rfl, HS⟩ := hrel; obtain ⟨inn, hc⟩ := HSE.out.2 k hk; have xs := HS.out.old HSE.out.1 hc; have x0 := HS.out.box.g 0; have x1 := HS.out.ev.g 1; have f1 := HS.out.ev.frozen 1; (have hk8 : (k : Int) < 8 := by omega); (have i3 : IntKind.i64.wrap ((j : Int) + 1) = (j : Int) + 1 := by simp [IntKind.wrap, IntKind.bits, IntKind.signed]; omega); clear hc; by_cases hlt : j < 8
   case' neg =>
    (have hlt2 : decide ((j : Int) < 8) = false := by simp; omega); (go_wp2_with fail); refine (HS.out.pick 12 rfl (by omega) (by have := HP.out; omega)).mono ?_; rintro e wx ⟨y, rfl, hy, HS, _⟩; clear xs x0 x1 f1 i3 hlt hlt2 hj hk8
   case' pos =>
    (have hlt2 : (j : Int) < 8 := by omega); cases inn
    case' true =>
     (go_wp2_with fail); refine (HS.out.pick 12 rfl (by omega) (by have := HP.out; omega)).mono ?_; rintro e wx ⟨y, rfl, hy, HS, _⟩; clear xs x0 x1 f1 i3 hlt hlt2 hj hk8
    case false =>
     obtain ⟨k2, hk2⟩ : ∃ k2, (k + 1) % 8 = k2 := ⟨_, rfl⟩; (have i4 : IntKind.i64.wrap ((k : Int) + 1) = (k : Int) + 1 := by simp [IntKind.wrap, IntKind.bits, IntKind.signed]; omega); (have i5 : ((k : Int) + 1).tmod 8 = (k2 : Int) := by rw [show (k : Int) + 1 = ((k + 1 : Nat) : Int) by omega, show (8 : Int) = ((8 : Nat) : Int) from rfl, ← Int.ofNat_tmod, hk2]); (have i6 : ((k : Int) + 1) % 8 = (k2 : Int) := by omega); (have i7 : IntKind.i64.wrap (k2 : Int) = (k2 : Int) := by simp [IntKind.wrap, IntKind.bits, IntKind.signed]; omega); clear hk2; (go_wp2_with fail); go_roundw
     case rel => exact ⟨j + 1, k2, by omega, by omega, by simp, hide (HS.out.set 1 (.int .i64 (k2 : Int)))⟩
     case measure => simp [intOf]; omega
 all_goals
  by_cases hA : y < 2
  case pos =>
   (rcases (by omega : y = 0 ∨ y = 1) with rfl | rfl) <;> (
     have c0 := HS.out.ev.g 0; have f0 := HS.out.ev.frozen 0
     go_wp2_with fail
     replace HS : Hid (ES b w.heap.size bR bV C w _ _ (evC 1 (k : Int) (-1) (-1) (0) ⟨#[]⟩) _) := hide ((HS.out.set 0 (.int .i64 1)))
     refine (HS.out.pick 2 rfl (by have := HNZ.out; omega) (by have := HP.out; omega)).mono ?_
     rintro e wx ⟨v3, rfl, hv3, HS, hx⟩
     clear c0 f0
     by_cases h3 : v3 = 0
     case' pos =>
       subst h3
       go_wp2_with fail
       refine (HS.out.pick 5 rfl (by have := HNZ.out; omega) (by have := HP.out; omega)).mono ?_
       rintro e wx ⟨v4, rfl, hv4, HS, hx⟩
       have c2 := HS.out.ev.g 2; have f2 := HS.out.ev.frozen 2
       go_wp2_with fail
       replace HS : Hid (ES b w.heap.size bR bV C w _ _ (evC 1 (k : Int) ((v4 : Int)) (-1) (0) ⟨#[]⟩) _) := hide ((HS.out.set 2 (.int .i64 (v4 : Int))))
       refine (HS.out.pick 4 rfl (by have := HNZ.out; omega) (by have := HP.out; omega)).mono ?_
       rintro e wx ⟨v5, rfl, hv5, HS, hx⟩
       clear c2 f2
       obtain ⟨ad, q5, hq5, HS⟩ : ∃ (ad : Int) (q5 : Nat), q5 ≤ p + 6 ∧ Hid (ES b w.heap.size bR bV C w (q5) (wldC (.slice (some ⟨ga, 0, none⟩) 8 p0) (.slice a1 n1 p1) (.slice a2 n2 p2) (.slice a3 n3 p3) (.slice a4 n4 p4) (.slice a5 n5 p5) (.slice a6 n6 p6) (.slice a7 n7 p7) (.slice a8 n8 p8) (.slice a9 n9 p9)) (evC 1 (k : Int) (ad) (-1) (0) ⟨#[]⟩) wx) := ⟨(v4 : Int), _, by omega, HS⟩
     case' neg =>
       have h4 : decide ((v3 : Int) = 0) = false := by simp; omega
       go_wp2_with fail
       refine (HS.out.pick 4 rfl (by have := HNZ.out; omega) (by have := HP.out; omega)).mono ?_
       rintro e wx ⟨v5, rfl, hv5, HS, hx⟩
       obtain ⟨ad, q5, hq5, HS⟩ : ∃ (ad : Int) (q5 : Nat), q5 ≤ p + 6 ∧ Hid (ES b w.heap.size bR bV C w (q5) (wldC (.slice (some ⟨ga, 0, none⟩) 8 p0) (.slice a1 n1 p1) (.slice a2 n2 p2) (.slice a3 n3 p3) (.slice a4 n4 p4) (.slice a5 n5 p5) (.slice a6 n6 p6) (.slice a7 n7 p7) (.slice a8 n8 p8) (.slice a9 n9 p9)) (evC 1 (k : Int) (ad) (-1) (0) ⟨#[]⟩) wx) := ⟨-1, _, by omega, HS⟩
     all_goals
       by_cases h5 : v5 = 0
       case pos =>
         subst h5
         go_wp2_with fail
         refine (HS.out.pick 5 rfl (by have := HNZ.out; omega) (by have := HP.out; omega)).mono ?_
         rintro e wx ⟨v6, rfl, hv6, HS, hx⟩
         have c3 := HS.out.ev.g 3; have f3 := HS.out.ev.frozen 3
         replace HS : Hid (ES b w.heap.size bR bV C w _ _ (evC 1 (k : Int) (ad) ((v6 : Int)) (0) ⟨#[]⟩) _) := hide ((HS.out.set 3 (.int .i64 (v6 : Int))))
         have lw := load_ev HS.out.ev rfl
         have A0 := HS.out.ans
         go_wp2_with (first | refine wpList_load_whole rfl 69 _ rfl ⟨bV, 0, none⟩ rfl _ lw ?_ | refine wpList_store_whole rfl 69 (.tmp 4) (.tmp 137) rfl bR (evC (1) ((k : Int)) (ad) ((v6 : Int)) (0) ⟨#[]⟩) rfl rfl 69 noEv (by exact A0) info_ev rfl (one_ev _ _ _ _ _ _) ?_)
         have l1 := load_ev (A0.set (evC (1) ((k : Int)) (ad) ((v6 : Int)) (0) ⟨#[]⟩)) rfl
         refine bodyPost_ret (v := .agg (evC (1) ((k : Int)) (ad) ((v6 : Int)) (0) ⟨#[]⟩)) (results_cell rfl rfl l1) rfl ?_
         exact evPost_of HS.out (grown_setRow _ _ _) (by omega) (by omega) (by first | decide | omega) (by omega)
       case neg =>
         have h6 : decide ((v5 : Int) = 0) = false := by simp; omega
         have lw := load_ev HS.out.ev rfl
         have A0 := HS.out.ans
         go_wp2_with (first | refine wpList_load_whole rfl 69 _ rfl ⟨bV, 0, none⟩ rfl _ lw ?_ | refine wpList_store_whole rfl 69 (.tmp 4) (.tmp 137) rfl bR (evC (1) ((k : Int)) (ad) (-1) (0) ⟨#[]⟩) rfl rfl 69 noEv (by exact A0) info_ev rfl (one_ev _ _ _ _ _ _) ?_)
         have l1 := load_ev (A0.set (evC (1) ((k : Int)) (ad) (-1) (0) ⟨#[]⟩)) rfl
         refine bodyPost_ret (v := .agg (evC (1) ((k : Int)) (ad) (-1) (0) ⟨#[]⟩)) (results_cell rfl rfl l1) rfl ?_
         exact evPost_of HS.out (grown_setRow _ _ _) (by omega) (by omega) (by first | decide | omega) (by omega))
  case neg =>
   by_cases hB : y < 6
   case pos =>
    (rcases (by omega : y = 2 ∨ y = 3 ∨ y = 4 ∨ y = 5) with rfl | rfl | rfl | rfl) <;> (
      have c0 := HS.out.ev.g 0; have f0 := HS.out.ev.frozen 0
      go_wp2_with fail
      replace HS : Hid (ES b w.heap.size bR bV C w _ _ (evC 2 (k : Int) (-1) (-1) (0) ⟨#[]⟩) _) := hide ((HS.out.set 0 (.int .i64 2)))
      clear c0 f0
      have i2 : IntKind.i64.wrap ((n2 : Int) - 1) = (n2 : Int) - 1 := by have q := HNZ.out; simp [IntKind.wrap, IntKind.bits, IntKind.signed]; omega
      refine r_i (KeepL ([w.heap.size] : List Nat)) ?_
      replace HS := hide (HS.out.below (Below.refl _ _).drew)
      generalize World.drew _ = wx at *
      refine r_q 0 ?_
      refine r_q 1 ?_ (h := by intro w' hw'; have x := (Blk.keepL HS.out.box hw' (by simp)).g 2; go_simp; all_goals rfl)
      refine r_q 2 ?_; refine r_q 3 ?_; refine r_q 4 ?_
      have hl := HS.out.box.lt
      refine r_1 5 (fun K hK => ?_)
      go_simp
      refine (HS.out.pick 3 rfl (by have := HNZ.out; omega) (by have := HP.out; omega)).mono ?_
      rintro e wx ⟨v3, rfl, hv3, HS, hx⟩
      go_simp
      refine hK.out _ _ (fun x hy => hx.block x (by have := HS.out.lt; simp at hy; omega) (by have := HS.out.lt; simp at hy; omega)) ?_
      clear hK hx hl
      try simp only [Act.put, List.setIfInBounds_toArray, List.set_cons_zero, List.set_cons_succ]
      have iw : IntKind.i64.wrap ((n2 : Int) - 1 - (v3 : Int)) = (n2 : Int) - 1 - (v3 : Int) := by have q := HNZ.out; simp [IntKind.wrap, IntKind.bits, IntKind.signed]; omega
      refine r_q 6 ?_; refine r_q 7 ?_; refine r_q 8 ?_
      refine r_l 9 (fun K hK => ?_)
      have c := HS.out.ev.g 4; have f := HS.out.ev.frozen 4
      refine op_cell bV 4 (.int .i64 (max 0 ((n2 : Int) - 1 - (v3 : Int)))) HS.out.ev (by go_simp) (fun wx NEW hg hs => ?_)
      replace HS : Hid (ES b w.heap.size bR bV C w _ _ (evC 2 (k : Int) (-1) (-1) (max 0 ((n2 : Int) - 1 - (v3 : Int))) ⟨#[]⟩) wx) := hide (HS.out.sto hg NEW)
      refine hK.out _ _ ?_
      clear hK c f NEW hg hs iw
      try simp only [Act.put]
      go_wp2_with fail
      refine (HS.out.pick 5 rfl (by have := HNZ.out; omega) (by have := HP.out; omega)).mono ?_
      rintro e wx ⟨v4, rfl, hv4, HS, hx⟩
      have c1 := HS.out.ev.g 1; have f1 := HS.out.ev.frozen 1
      replace HS : Hid (ES b w.heap.size bR bV C w _ _ (evC 2 (v4 : Int) (-1) (-1) (max 0 ((n2 : Int) - 1 - (v3 : Int))) ⟨#[]⟩) _) := hide ((HS.out.set 1 (.int .i64 (v4 : Int))))
      have lw := load_ev HS.out.ev rfl
      have A0 := HS.out.ans
      go_wp2_with (first | refine wpList_load_whole rfl 69 _ rfl ⟨bV, 0, none⟩ rfl _ lw ?_ | refine wpList_store_whole rfl 69 (.tmp 4) (.tmp 137) rfl bR (evC (2) ((v4 : Int)) (-1) (-1) (max 0 ((n2 : Int) - 1 - (v3 : Int))) ⟨#[]⟩) rfl rfl 69 noEv (by exact A0) info_ev rfl (one_ev _ _ _ _ _ _) ?_)
      have l1 := load_ev (A0.set (evC (2) ((v4 : Int)) (-1) (-1) (max 0 ((n2 : Int) - 1 - (v3 : Int))) ⟨#[]⟩)) rfl
      refine bodyPost_ret (v := .agg (evC (2) ((v4 : Int)) (-1) (-1) (max 0 ((n2 : Int) - 1 - (v3 : Int))) ⟨#[]⟩)) (results_cell rfl rfl l1) rfl ?_
      exact evPost_of HS.out (grown_setRow _ _ _) (by omega) (by omega) (by first | decide | omega) (by omega))
   case neg =>
    by_cases hC : y < 8
    case pos =>
     (rcases (by omega : y = 6 ∨ y = 7) with rfl | rfl) <;> (
       have c0 := HS.out.ev.g 0; have f0 := HS.out.ev.frozen 0
       go_wp2_with fail
       replace HS : Hid (ES b w.heap.size bR bV C w _ _ (evC 3 (k : Int) (-1) (-1) (0) ⟨#[]⟩) _) := hide ((HS.out.set 0 (.int .i64 3)))
       clear c0 f0
       have i2 : IntKind.i64.wrap ((n2 : Int) - 1) = (n2 : Int) - 1 := by have q := HNZ.out; simp [IntKind.wrap, IntKind.bits, IntKind.signed]; omega
       refine r_i (KeepL ([w.heap.size] : List Nat)) ?_
       replace HS := hide (HS.out.below (Below.refl _ _).drew)
       generalize World.drew _ = wx at *
       refine r_q 0 ?_
       refine r_q 1 ?_ (h := by intro w' hw'; have x := (Blk.keepL HS.out.box hw' (by simp)).g 2; go_simp; all_goals rfl)
       refine r_q 2 ?_; refine r_q 3 ?_; refine r_q 4 ?_
       have hl := HS.out.box.lt
       refine r_1 5 (fun K hK => ?_)
       go_simp
       refine (HS.out.pick 4 rfl (by have := HNZ.out; omega) (by have := HP.out; omega)).mono ?_
       rintro e wx ⟨v3, rfl, hv3, HS, hx⟩
       go_simp
       refine hK.out _ _ (fun x hy => hx.block x (by have := HS.out.lt; simp at hy; omega) (by have := HS.out.lt; simp at hy; omega)) ?_
       clear hK hx hl
       try simp only [Act.put, List.setIfInBounds_toArray, List.set_cons_zero, List.set_cons_succ]
       have iw : IntKind.i64.wrap ((n2 : Int) - 1 - (v3 : Int)) = (n2 : Int) - 1 - (v3 : Int) := by have q := HNZ.out; simp [IntKind.wrap, IntKind.bits, IntKind.signed]; omega
       refine r_q 6 ?_; refine r_q 7 ?_; refine r_q 8 ?_
       refine r_l 9 (fun K hK => ?_)
       have c := HS.out.ev.g 4; have f := HS.out.ev.frozen 4
       refine op_cell bV 4 (.int .i64 (max 0 ((n2 : Int) - 1 - (v3 : Int)))) HS.out.ev (by go_simp) (fun wx NEW hg hs => ?_)
       replace HS : Hid (ES b w.heap.size bR bV C w _ _ (evC 3 (k : Int) (-1) (-1) (max 0 ((n2 : Int) - 1 - (v3 : Int))) ⟨#[]⟩) wx) := hide (HS.out.sto hg NEW)
       refine hK.out _ _ ?_
       clear hK c f NEW hg hs iw
       try simp only [Act.put]
       by_cases hn1 : n1 = 0
       case pos =>
         subst hn1
         have x1 := HS.out.box.g 1
         have lw := load_ev HS.out.ev rfl
         have A0 := HS.out.ans
         go_wp2_with (first | refine wpList_load_whole rfl 69 _ rfl ⟨bV, 0, none⟩ rfl _ lw ?_ | refine wpList_store_whole rfl 69 (.tmp 4) (.tmp 137) rfl bR (evC (3) ((k : Int)) (-1) (-1) (max 0 ((n2 : Int) - 1 - (v3 : Int))) ⟨#[]⟩) rfl rfl 69 noEv (by exact A0) info_ev rfl (one_ev _ _ _ _ _ _) ?_)
         have l1 := load_ev (A0.set (evC (3) ((k : Int)) (-1) (-1) (max 0 ((n2 : Int) - 1 - (v3 : Int))) ⟨#[]⟩)) rfl
         refine bodyPost_ret (v := .agg (evC (3) ((k : Int)) (-1) (-1) (max 0 ((n2 : Int) - 1 - (v3 : Int))) ⟨#[]⟩)) (results_cell rfl rfl l1) rfl ?_
         exact evPost_of HS.out (grown_setRow _ _ _) (by omega) (by omega) (by first | decide | omega) (by omega)
       case neg =>
         obtain ⟨gw, rfl, hgw, hgl, hw⟩ := HWT.out.resolve_left hn1
         have hp1 : (0 : Int) < (n1 : Int) := by omega
         have x1 := HS.out.box.g 1
         go_wp2_with fail
         clear x1
         refine r_i (KeepL ([w.heap.size, gw] : List Nat)) ?_
         replace HS := hide (HS.out.below (Below.refl _ _).drew)
         generalize World.drew _ = wx at *
         have HG := hide (And.intro hgw hgl)
         refine r_q 0 ?_
         refine r_q 1 ?_ (h := by intro w' hw'; have x := (Blk.keepL HS.out.box hw' (by simp)).g 1; go_simp; all_goals rfl)
         refine r_q 2 ?_; refine r_q 3 ?_
         refine r_q 4 ?_ (h := by intro w' hw'; have x := (Blk.keepL HS.out.box hw' (by simp)).g 1; go_simp; all_goals rfl)
         refine r_q 5 ?_
         refine r_2 6 9 (fun K hK => ?_) (fun K hK => ?_)
         case' refine_1 =>
           have hl := HS.out.ev.lt
           go_simp
           refine (HS.out.pick n1 rfl (by have := HNZ.out; omega) (by have := HP.out; omega)).mono ?_
           rintro e wx ⟨v4, rfl, hv4, HS, hx⟩
           go_simp
           refine hK.out _ _ (fun x hy => hx.block x (by have := HS.out.lt; have := HG.out; simp at hy; omega) (by have := HS.out.lt; have := HG.out; simp at hy; omega)) ?_
           clear hK
           clear hx hl
           try simp only [Act.put, List.setIfInBounds_toArray, List.set_cons_zero, List.set_cons_succ]
           obtain ⟨x, yy, ll, mm, hx8, hc⟩ := hw v4 hv4
           have HC : Hid (∀ i u, (wtC (x : Int) yy ll mm)[i]? = some u → wx.cell? ⟨gw, v4 * 4 + i, none⟩ = some u) := hide (fun i u hu => HS.out.old HG.out.1 (hc i u hu))
           clear hc
           have hv44 : (v4 : Int) < (n1 : Int) := by omega
           refine r_q 7 ?_
           refine r_q 8 ?_ (h := by intro w' hw'; have x0 : w'.cell? ⟨gw, v4 * 4, none⟩ = some (.int .i64 (x : Int)) := (keepL_cell hw' (by simp)).trans (HC.out 0 _ rfl); have x1 := (keepL_cell hw' (by simp)).trans (HC.out 1 _ rfl); have x2 := (keepL_cell hw' (by simp)).trans (HC.out 2 _ rfl); have x3 := (keepL_cell hw' (by simp)).trans (HC.out 3 _ rfl); go_simp; all_goals rfl)
           refine r_1 9 (fun K hK => ?_)
           have hl := HS.out.ev.lt
           refine op_alloc (cs := wtC 0 0 ⟨#[]⟩ ⟨#[]⟩) (t := 81) ?_ (fun bT wy V hb hbn => ?_)
           · go_simp
             try rfl
           refine hK.out _ _ (fun x hy => hb.block x (by have := HS.out.lt; have := HG.out; simp at hy; omega)) ?_
           clear hK
           have hT : bV < bT := by omega
           have V := hide V
           replace HC : Hid (∀ i u, (wtC (x : Int) yy ll mm)[i]? = some u → wy.cell? ⟨gw, v4 * 4 + i, none⟩ = some u) := hide (fun i u hu => (hb.cell (cell_lt (HC.out i u hu))).trans (HC.out i u hu))
           replace HS := hide (HS.out.below hb)
           clear hb hl
           generalize wy = wx at *
           try simp only [Act.put, List.setIfInBounds_toArray, List.set_cons_zero, List.set_cons_succ]
           refine r_l 10 (fun K hK => ?_)
           refine op_row 81 (.tmp 7) (.tmp 107) rfl bT (wtC (x : Int) yy ll mm) _ 81 rfl rfl V.out info_wt rfl (one_wt _ _ _ _) (fun wz NEW hg hs => ?_)
           refine hK.out _ _ ?_
           clear hK
           replace V := hide NEW
           replace HS := hide (HS.out.grow hg hT)
           clear NEW hg hs HC
           generalize wz = wx at *
           try simp only [Act.put]
         case' refine_2 =>
           have hl := HS.out.ev.lt
           refine op_alloc (cs := wtC 0 0 ⟨#[]⟩ ⟨#[]⟩) (t := 81) ?_ (fun bT wy V hb hbn => ?_)
           · go_simp
             try rfl
           refine hK.out _ _ (fun x hy => hb.block x (by have := HS.out.lt; have := HG.out; simp at hy; omega)) ?_
           clear hK
           have hT : bV < bT := by omega
           have V := hide V
           replace HS := hide (HS.out.below hb)
           clear hb hl
           generalize wy = wx at *
           try simp only [Act.put, List.setIfInBounds_toArray, List.set_cons_zero, List.set_cons_succ]
           refine r_1 6 (fun K hK => ?_)
           have hl := HS.out.ev.lt
           go_simp
           refine (HS.out.pick n1 rfl (by have := HNZ.out; omega) (by have := HP.out; omega)).mono ?_
           rintro e wx ⟨v4, rfl, hv4, HS, hx⟩
           go_simp
           refine hK.out _ _ (fun x hy => hx.block x (by have := HS.out.lt; have := HG.out; simp at hy; omega) (by have := HS.out.lt; have := HG.out; simp at hy; omega)) ?_
           clear hK
           replace V := hide (blk_grown V.out hx.gb (by have := HS.out.lt; omega))
           clear hx hl
           try simp only [Act.put, List.setIfInBounds_toArray, List.set_cons_zero, List.set_cons_succ]
           obtain ⟨x, yy, ll, mm, hx8, hc⟩ := hw v4 hv4
           have HC : Hid (∀ i u, (wtC (x : Int) yy ll mm)[i]? = some u → wx.cell? ⟨gw, v4 * 4 + i, none⟩ = some u) := hide (fun i u hu => HS.out.old HG.out.1 (hc i u hu))
           clear hc
           have hv44 : (v4 : Int) < (n1 : Int) := by omega
           refine r_q 7 ?_
           refine r_q 8 ?_ (h := by intro w' hw'; have x0 : w'.cell? ⟨gw, v4 * 4, none⟩ = some (.int .i64 (x : Int)) := (keepL_cell hw' (by simp)).trans (HC.out 0 _ rfl); have x1 := (keepL_cell hw' (by simp)).trans (HC.out 1 _ rfl); have x2 := (keepL_cell hw' (by simp)).trans (HC.out 2 _ rfl); have x3 := (keepL_cell hw' (by simp)).trans (HC.out 3 _ rfl); go_simp; all_goals rfl)
           refine r_l 10 (fun K hK => ?_)
           refine op_row 81 (.tmp 7) (.tmp 107) rfl bT (wtC (x : Int) yy ll mm) _ 81 rfl rfl V.out info_wt rfl (one_wt _ _ _ _) (fun wz NEW hg hs => ?_)
           refine hK.out _ _ ?_
           clear hK
           replace V := hide NEW
           replace HS := hide (HS.out.grow hg hT)
           clear NEW hg hs HC
           generalize wz = wx at *
           try simp only [Act.put]
         all_goals
           repeat ((fail_if_success (refine pl_id ?_)); go_step)
           refine w_i ?_
           refine w_q ?_
           refine w_q ?_ (h := by have x := V.out.g 0; go_simp; all_goals rfl)
           refine w_q ?_
           refine w_1 (fun K hK => ?_)
           have c := HS.out.ev.g 1; have f := HS.out.ev.frozen 1
           refine op_cell bV 1 (.int .i64 (x : Int)) HS.out.ev (by go_simp) (fun wz NEW hg hs => ?_)
           replace HS : Hid (ES b w.heap.size bR bV C w _ _ (evC 3 (x : Int) (-1) (-1) (max 0 ((n2 : Int) - 1 - (v3 : Int))) ⟨#[]⟩) wz) := hide (HS.out.sto hg NEW)
           replace V := hide (blk_grown V.out hg (by omega))
           refine hK.out _ _ ?_
           clear hK c f NEW hg hs
           generalize wz = wx at *
           try simp only [Act.put]
           refine w_e ?_
           repeat ((fail_if_success (refine pl_id ?_)); go_step)
           refine w_i ?_
           refine w_q ?_
           refine w_q ?_ (h := by have x := V.out.g 1; go_simp; all_goals rfl)
           refine w_q ?_
           refine w_1 (fun K hK => ?_)
           have c := HS.out.ev.g 4; have f := HS.out.ev.frozen 4
           refine op_cell bV 4 (.int .i64 yy) HS.out.ev (by go_simp) (fun wz NEW hg hs => ?_)
           replace HS : Hid (ES b w.heap.size bR bV C w _ _ (evC 3 (x : Int) (-1) (-1) (yy) ⟨#[]⟩) wz) := hide (HS.out.sto hg NEW)
           replace V := hide (blk_grown V.out hg (by omega))
           refine hK.out _ _ ?_
           clear hK c f NEW hg hs
           generalize wz = wx at *
           try simp only [Act.put]
           refine w_e ?_
           have lw := load_ev HS.out.ev rfl
           have A0 := HS.out.ans
           go_wp2_with (first | refine wpList_load_whole rfl 69 _ rfl ⟨bV, 0, none⟩ rfl _ lw ?_ | refine wpList_store_whole rfl 69 (.tmp 4) (.tmp 137) rfl bR (evC (3) ((x : Int)) (-1) (-1) (yy) ⟨#[]⟩) rfl rfl 69 noEv (by exact A0) info_ev rfl (one_ev _ _ _ _ _ _) ?_)
           have l1 := load_ev (A0.set (evC (3) ((x : Int)) (-1) (-1) (yy) ⟨#[]⟩)) rfl
           refine bodyPost_ret (v := .agg (evC (3) ((x : Int)) (-1) (-1) (yy) ⟨#[]⟩)) (results_cell rfl rfl l1) rfl ?_
           exact evPost_of HS.out (grown_setRow _ _ _) (by omega) (by omega) (by first | decide | omega) (by omega))
    case neg =>
     by_cases hD : y < 9
     case pos =>
      (obtain rfl : y = 8 := by omega); have hz := HS.out.ev.lt; have hzb := HS.out.lt; have lt := Blk.new (wx) 3 #[.int .i64 4, .int .i64 5, .int .i64 5]; have LT := hide lt; clear lt; replace HS := hide (HS.out.below ((Below.refl _ _).alloc (Nat.le_refl _) (.cells #[.int .i64 4, .int .i64 5, .int .i64 5] 3))); (go_wp2_with fail); generalize wx.heap.size = gl at *; refine (HS.out.pick 3 rfl (by have := HNZ.out; omega) (by have := HP.out; omega)).mono ?_; rintro e wx ⟨v3, rfl, hv3, HS, hx⟩; replace LT := hide (blk_grown LT.out hx.gb (by omega))
      obtain ⟨kd, hlkd, lxkd⟩ : ∃ z : Int, (4 ≤ z ∧ z ≤ 5) ∧ wx.cell? ⟨gl, v3, none⟩ = some (.int .i64 z) := by
       rcases (by omega : v3 = 0 ∨ v3 = 1 ∨ v3 = 2) with rfl | rfl | rfl
       · exact ⟨4, by decide, LT.out.g 0⟩
       · exact ⟨5, by decide, LT.out.g 1⟩
       · exact ⟨5, by decide, LT.out.g 2⟩
      (have hvv3 : (v3 : Int) < 3 := by omega); clear hx LT hz hzb; have c0 := HS.out.ev.g 0; have f0 := HS.out.ev.frozen 0; have c5 := HS.out.ev.g 5; have f5 := HS.out.ev.frozen 5; replace HS : Hid (ES b w.heap.size bR bV C w _ _ (evC kd (k : Int) (-1) (-1) 0 ⟨#[]⟩) _) := hide ((HS.out.set 0 (.int .i64 kd))); have hz := HS.out.ev.lt; have hzb := HS.out.lt; have lt := Blk.new (wx.setCell ⟨bV, 0, none⟩ (.int .i64 kd)) 9 #[.string ⟨#[104, 105]⟩, .string ⟨#[98, 121, 101]⟩, .string ⟨#[]⟩, .string ⟨#[111, 107]⟩]; rw [World.size_setCell] at hz lt; have LT := hide lt; clear lt; replace HS := hide (HS.out.below ((Below.refl _ _).alloc (Nat.le_refl _) (.cells #[.string ⟨#[104, 105]⟩, .string ⟨#[98, 121, 101]⟩, .string ⟨#[]⟩, .string ⟨#[111, 107]⟩] 9))); (go_wp2_with fail); generalize wx.heap.size = gl at *; refine (HS.out.pick 4 rfl (by have := HNZ.out; omega) (by have := HP.out; omega)).mono ?_; rintro e wx ⟨v4, rfl, hv4, HS, hx⟩; replace LT := hide (blk_grown LT.out hx.gb (by omega))
      obtain ⟨tx, hltx, lxtx⟩ : ∃ z : ByteArray, (z.size ≤ 3) ∧ wx.cell? ⟨gl, v4, none⟩ = some (.string z) := by
       rcases (by omega : v4 = 0 ∨ v4 = 1 ∨ v4 = 2 ∨ v4 = 3) with rfl | rfl | rfl | rfl
       · exact ⟨⟨#[104, 105]⟩, by decide, LT.out.g 0⟩
       · exact ⟨⟨#[98, 121, 101]⟩, by decide, LT.out.g 1⟩
       · exact ⟨⟨#[]⟩, by decide, LT.out.g 2⟩
       · exact ⟨⟨#[111, 107]⟩, by decide, LT.out.g 3⟩
      (have hvv4 : (v4 : Int) < 4 := by omega); clear hx LT hz hzb; clear c0 f0 c5 f5; have c5 := HS.out.ev.g 5; have f5 := HS.out.ev.frozen 5; replace HS : Hid (ES b w.heap.size bR bV C w _ _ (evC kd (k : Int) (-1) (-1) 0 tx) _) := hide ((HS.out.set 5 (.string tx))); have lw := load_ev HS.out.ev rfl; have A0 := HS.out.ans; (go_wp2_with (first | refine wpList_load_whole rfl 69 _ rfl ⟨bV, 0, none⟩ rfl _ lw ?_ | refine wpList_store_whole rfl 69 (.tmp 4) (.tmp 137) rfl bR (evC (kd) ((k : Int)) (-1) (-1) (0) tx) rfl rfl 69 noEv (by exact A0) info_ev rfl (one_ev _ _ _ _ _ _) ?_)); have l1 := load_ev (A0.set (evC (kd) ((k : Int)) (-1) (-1) (0) tx)) rfl; refine bodyPost_ret (v := .agg (evC (kd) ((k : Int)) (-1) (-1) (0) tx)) (results_cell rfl rfl l1) rfl ?_; exact evPost_of HS.out (grown_setRow _ _ _) (by omega) (by omega) (by first | decide | omega) (by omega)
     case neg =>
      by_cases hE : y < 10
      case pos =>
       (obtain rfl : y = 9 := by omega); have c0 := HS.out.ev.g 0; have f0 := HS.out.ev.frozen 0; replace HS : Hid (ES b w.heap.size bR bV C w _ _ (evC 5 (k : Int) (-1) (-1) 0 ⟨#[]⟩) _) := hide ((HS.out.set 0 (.int .i64 5))); have hz := HS.out.ev.lt; have hzb := HS.out.lt; have lt := Blk.new (wx.setCell ⟨bV, 0, none⟩ (.int .i64 5)) 9 #[.string ⟨#[97]⟩, .string ⟨#[121, 101, 115]⟩, .string ⟨#[110, 111]⟩]; rw [World.size_setCell] at hz lt; have LT := hide lt; clear lt; replace HS := hide (HS.out.below ((Below.refl _ _).alloc (Nat.le_refl _) (.cells #[.string ⟨#[97]⟩, .string ⟨#[121, 101, 115]⟩, .string ⟨#[110, 111]⟩] 9))); (go_wp2_with fail); generalize wx.heap.size = gl at *; refine (HS.out.pick 3 rfl (by have := HNZ.out; omega) (by have := HP.out; omega)).mono ?_; rintro e wx ⟨v4, rfl, hv4, HS, hx⟩; replace LT := hide (blk_grown LT.out hx.gb (by omega))
       obtain ⟨tx, hltx, lxtx⟩ : ∃ z : ByteArray, (z.size ≤ 3) ∧ wx.cell? ⟨gl, v4, none⟩ = some (.string z) := by
        rcases (by omega : v4 = 0 ∨ v4 = 1 ∨ v4 = 2) with rfl | rfl | rfl
        · exact ⟨⟨#[97]⟩, by decide, LT.out.g 0⟩
        · exact ⟨⟨#[121, 101, 115]⟩, by decide, LT.out.g 1⟩
        · exact ⟨⟨#[110, 111]⟩, by decide, LT.out.g 2⟩
       (have hvv4 : (v4 : Int) < 3 := by omega); clear hx LT hz hzb; clear c0 f0; have c5 := HS.out.ev.g 5; have f5 := HS.out.ev.frozen 5; replace HS : Hid (ES b w.heap.size bR bV C w _ _ (evC 5 (k : Int) (-1) (-1) 0 tx) _) := hide ((HS.out.set 5 (.string tx))); have lw := load_ev HS.out.ev rfl; have A0 := HS.out.ans; (go_wp2_with (first | refine wpList_load_whole rfl 69 _ rfl ⟨bV, 0, none⟩ rfl _ lw ?_ | refine wpList_store_whole rfl 69 (.tmp 4) (.tmp 137) rfl bR (evC (5) ((k : Int)) (-1) (-1) (0) tx) rfl rfl 69 noEv (by exact A0) info_ev rfl (one_ev _ _ _ _ _ _) ?_)); have l1 := load_ev (A0.set (evC (5) ((k : Int)) (-1) (-1) (0) tx)) rfl; refine bodyPost_ret (v := .agg (evC (5) ((k : Int)) (-1) (-1) (0) tx)) (results_cell rfl rfl l1) rfl ?_; exact evPost_of HS.out (grown_setRow _ _ _) (by omega) (by omega) (by first | decide | omega) (by omega)
      case neg =>
       (rcases (by omega : y = 10 ∨ y = 11) with rfl | rfl) <;> (
         have c0 := HS.out.ev.g 0; have f0 := HS.out.ev.frozen 0
         go_wp2_with fail
         replace HS : Hid (ES b w.heap.size bR bV C w _ _ (evC 6 (k : Int) (-1) (-1) (0) ⟨#[]⟩) _) := hide ((HS.out.set 0 (.int .i64 6)))
         clear c0 f0
         refine (HS.out.pick 5 rfl (by have := HNZ.out; omega) (by have := HP.out; omega)).mono ?_
         rintro e wx ⟨v4, rfl, hv4, HS, hx⟩
         have c1 := HS.out.ev.g 1; have f1 := HS.out.ev.frozen 1
         go_wp2_with fail
         replace HS : Hid (ES b w.heap.size bR bV C w _ _ (evC 6 (v4 : Int) (-1) (-1) (0) ⟨#[]⟩) _) := hide ((HS.out.set 1 (.int .i64 (v4 : Int))))
         clear c1 f1
         have i2 : IntKind.i64.wrap ((n6 : Int) - 1) = (n6 : Int) - 1 := by have q := HNZ.out; simp [IntKind.wrap, IntKind.bits, IntKind.signed]; omega
         refine r_i (KeepL ([w.heap.size] : List Nat)) ?_
         replace HS := hide (HS.out.below (Below.refl _ _).drew)
         generalize World.drew _ = wx at *
         refine r_q 0 ?_
         refine r_q 1 ?_ (h := by intro w' hw'; have x := (Blk.keepL HS.out.box hw' (by simp)).g 6; go_simp; all_goals rfl)
         refine r_q 2 ?_; refine r_q 3 ?_; refine r_q 4 ?_
         have hl := HS.out.box.lt
         refine r_1 5 (fun K hK => ?_)
         go_simp
         refine (HS.out.pick 4 rfl (by have := HNZ.out; omega) (by have := HP.out; omega)).mono ?_
         rintro e wx ⟨v3, rfl, hv3, HS, hx⟩
         go_simp
         refine hK.out _ _ (fun x hy => hx.block x (by have := HS.out.lt; simp at hy; omega) (by have := HS.out.lt; simp at hy; omega)) ?_
         clear hK hx hl
         try simp only [Act.put, List.setIfInBounds_toArray, List.set_cons_zero, List.set_cons_succ]
         have iw : IntKind.i64.wrap ((n6 : Int) - 1 - (v3 : Int)) = (n6 : Int) - 1 - (v3 : Int) := by have q := HNZ.out; simp [IntKind.wrap, IntKind.bits, IntKind.signed]; omega
         refine r_q 6 ?_; refine r_q 7 ?_; refine r_q 8 ?_
         refine r_l 9 (fun K hK => ?_)
         have c := HS.out.ev.g 4; have f := HS.out.ev.frozen 4
         refine op_cell bV 4 (.int .i64 (max 0 ((n6 : Int) - 1 - (v3 : Int)))) HS.out.ev (by go_simp) (fun wx NEW hg hs => ?_)
         replace HS : Hid (ES b w.heap.size bR bV C w _ _ (evC 6 (v4 : Int) (-1) (-1) (max 0 ((n6 : Int) - 1 - (v3 : Int))) ⟨#[]⟩) wx) := hide (HS.out.sto hg NEW)
         refine hK.out _ _ ?_
         clear hK c f NEW hg hs iw
         try simp only [Act.put]
         have lw := load_ev HS.out.ev rfl
         have A0 := HS.out.ans
         go_wp2_with (first | refine wpList_load_whole rfl 69 _ rfl ⟨bV, 0, none⟩ rfl _ lw ?_ | refine wpList_store_whole rfl 69 (.tmp 4) (.tmp 137) rfl bR (evC (6) ((v4 : Int)) (-1) (-1) (max 0 ((n6 : Int) - 1 - (v3 : Int))) ⟨#[]⟩) rfl rfl 69 noEv (by exact A0) info_ev rfl (one_ev _ _ _ _ _ _) ?_)
         have l1 := load_ev (A0.set (evC (6) ((v4 : Int)) (-1) (-1) (max 0 ((n6 : Int) - 1 - (v3 : Int))) ⟨#[]⟩)) rfl
         refine bodyPost_ret (v := .agg (evC (6) ((v4 : Int)) (-1) (-1) (max 0 ((n6 : Int) - 1 - (v3 : Int))) ⟨#[]⟩)) (results_cell rfl rfl l1) rfl ?_
         exact evPost_of HS.out (grown_setRow _ _ _) (by omega) (by omega) (by first | decide | omega) (by omega))
theorem l20Play_any (b : Nat) (C : Code) (p n : Nat) (w : World) (h : DrC b C p w) (hp : p ≤ 800000) (hn : 1 ≤ n) (hn2 : n ≤ 60) (L0 : List Nat) (h0 : ∀ z ∈ L0, z < w.heap.size) : Calls Tryz.prog 14 #[.pointer (some ⟨b, 0, none⟩), .int .i64 (n : Int)] w fun e w' => ∃ (who q : Nat) (o : Value) (oe : List Evt) (X : List Nat) (s0 s1 s2 s3 s4 s5 s6 s7 s8 s9 : Value) (W : Wld), e = .returned (.tuple #[.int .i64 (who : Int), o, .agg (wldC s0 s1 s2 s3 s4 s5 s6 s7 s8 s9)]) ∧ who < 5 ∧ w'.ownsRow w.heap.size 69 6 o oe.length (evCells oe) ∧ oe.length ≤ 190 ∧ (∀ e ∈ oe, EvtZ e) ∧ Rows X L0 w.heap.size w' (rowsOf s0 s1 s2 s3 s4 s5 s6 s7 s8 s9 W) ∧ PlayZ W ∧ q ≤ p + 700 ∧ DrC b C q w' ∧ Ex b w w' := by
 have D := hide h; have HP := hide hp; have H0 := hide h0; clear h0; have HBW := hide h.lt; clear h; go_enter Tryz.func14, Tryz.ntmps14; (go_wp2_with fail); refine (pick_any b C p 5 5 rfl _ (D.out.alloc _) (by omega) (by omega) (by omega)).mono ?_; rintro e w1 ⟨who, rfl, hwho, d1, x1⟩; have hs1 := x1.size; rw [World.size_alloc] at hs1; have hlt := HBW.out; have A1 : Hid (Blk w1 w.heap.size 41 noWld) := hide (blk_grown (Blk.new w 41 noWld) x1.gb (by omega)); have X1 : Hid (Ex b w w1) := hide (((Ex.refl b w).alloc _).trans x1); have D1 := hide d1; clear d1 x1 D; (go_wp2_with fail); refine (sGrpNew_any who _ (by omega) [b, w.heap.size] (fun z hz => by rcases List.mem_cons.1 hz with rfl | hz; omega; rw [List.mem_singleton.1 hz]; omega)).mono ?_; rintro e w2 ⟨X, t0, t1, t2, t3, t4, t5, t6, t7, t8, t9, rfl, hq, hb⟩; obtain ⟨⟨a0, c0, rfl⟩, ⟨a1, c1, rfl⟩, ⟨a2, c2, rfl⟩, ⟨a3, c3, rfl⟩, ⟨a4, c4, rfl⟩, ⟨a5, c5, rfl⟩, ⟨a6, c6, rfl⟩, ⟨a7, c7, rfl⟩, ⟨a8, c8, rfl⟩, ⟨a9, c9, rfl⟩⟩ := hq.forms; have S1 := PS.start HBW.out D1.out A1.out X1.out (by omega) hs1 hq hb; clear hq hb D1 A1 X1; have HS := hide S1; clear S1; (go_wp2_with fail); refine (pick_any b C (p + 1) n n rfl _ HS.out.rd hn (by omega) (by omega)).mono ?_; rintro e w3 ⟨k0, rfl, hk0, d3, x3⟩; replace HS := hide (HS.out.draw d3 x3); clear d3 x3; generalize w2.heap.size = bW at *; (go_wp2_with fail); go_loopw [9, 10, 11, 12, 13] (fun o i _ _ _ wr => ∃ (k on : Nat) (oo : Option Addr) (oc q : Nat) (oe : List Evt) (s0 s1 s2 s3 s4 s5 s6 s7 s8 s9 : Value) (W : Wld) (_ : k < n) (_ : on ≤ 190) (_ : q + 11 * k ≤ p + 2 + 11 * n), i = .int .i64 (k : Int) ∧ o = .slice oo on oc ∧ Hid (oe.length = on ∧ ∀ e ∈ oe, EvtZ e) ∧ Hid (PS b w.heap.size bW C w q s0 s1 s2 s3 s4 s5 s6 s7 s8 s9 W (.slice oo on oc) (.slice none 0 0) on 0 (evCells oe) [] wr)) (fun _ i _ _ _ _ => (intOf i).toNat)
 case atStart => exact ⟨k0, 0, _, _, _, [], _, _, _, _, _, _, _, _, _, _, _, hk0, by omega, by omega, rfl, rfl, hide ⟨rfl, fun e he => by cases he⟩, HS⟩
 case round =>
  clear HS; obtain ⟨k, on, oo, oc, q, oe, s0, s1, s2, s3, s4, s5, s6, s7, s8, s9, W, hk, hon, hq, rfl, rfl, HOE, HS⟩ := hrel; obtain ⟨X, L, hrows, h1, h2, h3, h4, h5⟩ := HS.out.rows; obtain ⟨⟨a0, c0, rfl⟩, ⟨a1, c1, rfl⟩, ⟨a2, c2, rfl⟩, ⟨a3, c3, rfl⟩, ⟨a4, c4, rfl⟩, ⟨a5, c5, rfl⟩, ⟨a6, c6, rfl⟩, ⟨a7, c7, rfl⟩, ⟨a8, c8, rfl⟩, ⟨a9, c9, rfl⟩⟩ := hrows.forms; by_cases hk0 : 0 < k
  · (have hkp : (0 : Int) < (k : Int) := by omega); (have i3 : IntKind.i64.wrap ((k : Int) - 1) = ((k - 1 : Nat) : Int) := by rw [show (k : Int) - 1 = ((k - 1 : Nat) : Int) by omega]; simp [IntKind.wrap, IntKind.bits, IntKind.signed]; omega); have lw := load_wld HS.out.wld rfl; (go_wp2_with (refine wpList_load_whole rfl 41 _ rfl ⟨bW, 0, none⟩ rfl _ lw ?_)); have hz := HS.out.play; refine (l20Event_any b C q X L w.heap.size _ _ _ _ _ _ _ _ _ _ W _ HS.out.rd (by omega) hrows h1 hz.seats (fun x hx => (hz.wait x hx).2.2) (by have := hz.waits; have := hz.log; omega) (by have := hz.log; omega) (by have := hz.frames; omega)).mono ?_; rintro e w4 ⟨kd, ke, add, rem, po, text, q4, rfl, hke, hkd, htx, hq4, d4, x4⟩; have HV : Hid (EvtZ ⟨kd, ke, add, rem, po, text⟩) := hide ⟨hke, by show text.size ≤ 300; omega⟩; have hhe := (HS.out.draw d4 x4).ex.size; have S5 := (HS.out.draw d4 x4).fresh (cs := evCells [⟨kd, ke, add, rem, po, text⟩]) (k := 1) (c := 1) ((Below.refl _ _).alloc (Nat.le_refl _) (.cells (evC kd (ke : Int) add rem po text) 69)) ⟨Nat.le_refl _, by simp⟩ (World.ownsRow_lit w4 (evC kd (ke : Int) add rem po text) 1 hhe (by unfold maxLen; omega) rfl); clear HS hrows h1 h2 h3 h4 h5 hz d4 x4 lw; have x0 : (w4.alloc (.cells (evC kd (ke : Int) add rem po text) 69)).cell? ⟨w4.heap.size, 0, none⟩ = some (.int .i64 kd) := S5.next.cellAt 0 (by omega); replace HS := hide S5; clear S5; by_cases hk1 : kd = 1
    case' neg =>
     (have hk2 : decide (kd = 1) = false := by simp [hk1]); (go_wp2_with fail); have key : ∃ (m g c q5 : Nat) (le : List Evt), (Value.slice (some ⟨w4.heap.size, 0, none⟩) 1 1) = .slice (some ⟨g, 0, none⟩) m c ∧ m ≤ 11 ∧ q5 ≤ q + 11 ∧ Hid (le.length = m ∧ ∀ e ∈ le, EvtZ e) ∧ Hid (PS b w.heap.size bW C w q5 (.slice a0 W.seats.length c0) (.slice a1 W.waits.length c1) (.slice a2 W.log.length c2) (.slice a3 W.fresh.length c3) (.slice a4 W.spy.length c4) (.slice a5 W.stolen.length c5) (.slice a6 W.frames.length c6) (.slice a7 W.said.length c7) (.slice a8 W.wins.length c8) (.slice a9 W.told.length c9) W (.slice oo on oc) (.slice (some ⟨g, 0, none⟩) m c) on m (evCells oe) (evCells le) (w4.alloc (.cells (evC kd (ke : Int) add rem po text) 69))) := ⟨1, w4.heap.size, 1, q4, [⟨kd, ke, add, rem, po, text⟩], rfl, by omega, by omega, hide ⟨rfl, fun e he => by rw [List.mem_singleton.1 he]; exact HV.out⟩, HS⟩; clear HS HV x0 hk1 hk2; generalize w4.alloc (.cells (evC kd (ke : Int) add rem po text) 69) = wx at *; generalize Value.slice (some ⟨w4.heap.size, 0, none⟩) 1 1 = l at *; obtain ⟨m, g, c, q5, le, rfl, hm, hq5, HLE, HS⟩ := key
    case' pos =>
     subst hk1; (go_wp2_with fail); refine (pick_any b C q4 2 2 rfl _ HS.out.rd (by omega) (by omega) (by omega)).mono ?_; rintro e w5 ⟨v, rfl, hv, d5, x5⟩; replace HS := hide (HS.out.draw d5 x5); clear d5 x5 x0; by_cases hv0 : v = 0
     case' neg =>
      (obtain rfl : v = 1 := by omega); (go_wp2_with fail); have key : ∃ (m g c q5 : Nat) (le : List Evt), (Value.slice (some ⟨w4.heap.size, 0, none⟩) 1 1) = .slice (some ⟨g, 0, none⟩) m c ∧ m ≤ 11 ∧ q5 ≤ q + 11 ∧ Hid (le.length = m ∧ ∀ e ∈ le, EvtZ e) ∧ Hid (PS b w.heap.size bW C w q5 (.slice a0 W.seats.length c0) (.slice a1 W.waits.length c1) (.slice a2 W.log.length c2) (.slice a3 W.fresh.length c3) (.slice a4 W.spy.length c4) (.slice a5 W.stolen.length c5) (.slice a6 W.frames.length c6) (.slice a7 W.said.length c7) (.slice a8 W.wins.length c8) (.slice a9 W.told.length c9) W (.slice oo on oc) (.slice (some ⟨g, 0, none⟩) m c) on m (evCells oe) (evCells le) w5) := ⟨1, w4.heap.size, 1, q4 + 1, [⟨1, ke, add, rem, po, text⟩], rfl, by omega, by omega, hide ⟨rfl, fun e he => by rw [List.mem_singleton.1 he]; exact HV.out⟩, HS⟩; clear HS HV hv0; generalize w5 = wx at *; generalize Value.slice (some ⟨w4.heap.size, 0, none⟩) 1 1 = l at *; obtain ⟨m, g, c, q5, le, rfl, hm, hq5, HLE, HS⟩ := key
     case' pos =>
      subst hv0; (go_wp2_with fail); generalize w4.heap.size = g0 at *; have HQ5 := hide (show q4 + 1 ≤ q + 11 by omega); go_loopw [11, 12] (fun l j wr => ∃ (jn m g c : Nat) (le : List Evt) (_ : jn ≤ 5) (_ : m = 1 + 2 * jn), j = .int .i64 (jn : Int) ∧ l = .slice (some ⟨g, 0, none⟩) m c ∧ Hid (le.length = m ∧ ∀ e ∈ le, EvtZ e) ∧ Hid (PS b w.heap.size bW C w (q4 + 1) (.slice a0 W.seats.length c0) (.slice a1 W.waits.length c1) (.slice a2 W.log.length c2) (.slice a3 W.fresh.length c3) (.slice a4 W.spy.length c4) (.slice a5 W.stolen.length c5) (.slice a6 W.frames.length c6) (.slice a7 W.said.length c7) (.slice a8 W.wins.length c8) (.slice a9 W.told.length c9) W (.slice oo on oc) (.slice (some ⟨g, 0, none⟩) m c) on m (evCells oe) (evCells le) wr)) (fun _ j _ => 5 - (intOf j).toNat)
      case atStart => exact ⟨0, 1, g0, 1, [⟨1, ke, add, rem, po, text⟩], by omega, rfl, rfl, rfl, hide ⟨rfl, fun e he => by rw [List.mem_singleton.1 he]; exact HV.out⟩, HS⟩
      case' round =>
       clear HS HV; obtain ⟨jn, m, g, c, le, hjn, hm, rfl, rfl, HLE, HS⟩ := hrel; have HM := hide hm; clear hm; by_cases hlt : jn < 5
       case pos =>
        (have hlt2 : decide ((jn : Int) < 5) = true := by simp; omega); (have hlt3 : (jn : Int) < 5 := by omega); (have i4 : IntKind.i64.wrap ((jn : Int) + 1) = (jn : Int) + 1 := by simp [IntKind.wrap, IntKind.bits, IntKind.signed]; omega); (repeat ((fail_if_success (refine pl_id ?_)); go_step)); refine w_i ?_; (iterate 2 refine w_q ?_); refine w_e ?_; (repeat ((fail_if_success (refine pl_id ?_)); go_step)); refine w_i ?_; (iterate 3 refine w_q ?_); refine w_q ?_ (h := by have x := HS.out.wld.g 2; go_simp; all_goals rfl); (iterate 4 refine w_q ?_); refine w_q ?_ (h := by have x := HS.out.wld.g 2; go_simp; all_goals rfl); (iterate 2 refine w_q ?_); refine w_1 (fun K hK => ?_); refine op_lit (w.heap.size) (cs := #[.int .i64 2, .int .i64 (jn : Int), .int .i64 0, .int .i64 0, .int .i64 (W.log.length : Int), .string ⟨#[]⟩, .int .i64 3, .int .i64 (jn : Int), .int .i64 0, .int .i64 0, .int .i64 (W.log.length : Int), .string ⟨#[]⟩]) (e := 69) (size := 6) (n := 2) ?_ HS.out.ex.size (by unfold maxLen; omega) (by rfl) (fun gL wc LT hb hbn => ?_)
        · go_simp; try rfl
        refine hK.out _ _ ?_; clear hK; replace HS := hide (HS.out.below hb); clear hb hbn; (try simp only [Act.put, List.setIfInBounds_toArray, List.set_cons_zero, List.set_cons_succ]); refine w_1 (fun K hK => ?_); refine op_appOwn rowT_ev w.heap.size (.tmp 44) (.tmp 55) rfl (.slice (some ⟨g, 0, none⟩) m c) m (evCells le) rfl HS.out.next ⟨gL, 0, none⟩ 2 2 #[.int .i64 2, .int .i64 (jn : Int), .int .i64 0, .int .i64 0, .int .i64 (W.log.length : Int), .string ⟨#[]⟩, .int .i64 3, .int .i64 (jn : Int), .int .i64 0, .int .i64 0, .int .i64 (W.log.length : Int), .string ⟨#[]⟩].toList rfl rfl (fun k u hk => World.ownsRow.cells LT rfl k u hk) (by simp [Value.oneCell']) (by have := HM.out; unfold maxLen; omega) (by have := HM.out; omega) HS.out.ex.size (fun v wc hr hg hat => ?_); refine hK.out _ _ ?_; clear hK; rw [show evCells le ++ #[.int .i64 2, .int .i64 (jn : Int), .int .i64 0, .int .i64 0, .int .i64 (W.log.length : Int), .string ⟨#[]⟩, .int .i64 3, .int .i64 (jn : Int), .int .i64 0, .int .i64 0, .int .i64 (W.log.length : Int), .string ⟨#[]⟩].toList = evCells (le ++ [⟨2, jn, 0, 0, (W.log.length : Int), ⟨#[]⟩⟩, ⟨3, jn, 0, 0, (W.log.length : Int), ⟨#[]⟩⟩]) by rw [evCells_app]; rfl] at hr; replace HS := hide (HS.out.more hr hg hat); obtain ⟨g', c', rfl, _⟩ := row_some hr (by omega); clear hr hg hat LT; (try simp only [Act.put, List.setIfInBounds_toArray, List.set_cons_zero, List.set_cons_succ]); refine w_q ?_; refine w_e ?_; (repeat ((fail_if_success (refine pl_id ?_)); go_step)); refine w_i ?_; (iterate 3 refine w_q ?_); refine w_e ?_; (go_wp2_with fail); go_roundw
        case rel =>
         refine ⟨jn + 1, m + 2, g', c', _, by omega, by have := HM.out; omega, by simp, rfl, hide ⟨by rw [List.length_append, HLE.out.1]; rfl, fun e he => ?_⟩, HS⟩; rcases List.mem_append.1 he with he | he
         · exact HLE.out.2 e he
         · rcases List.mem_cons.1 he with rfl | he
           · exact ⟨by show jn < 8; omega, Nat.zero_le _⟩
           · rw [List.mem_singleton.1 he]; exact ⟨by show jn < 8; omega, Nat.zero_le _⟩
        case measure => simp [intOf]; omega
       case' neg =>
        (have hlt2 : decide ((jn : Int) < 5) = false := by simp; omega); (go_wp2_with fail); clear hlt hlt2; (have hm : m ≤ 11 := by have := HM.out; omega); clear hjn HM; obtain ⟨q5, hq5e⟩ : ∃ z, q4 + 1 = z := ⟨_, rfl⟩; rw [hq5e] at HS; (have hq5 : q5 ≤ q + 11 := by rw [← hq5e]; exact HQ5.out); clear hq5e HQ5; generalize wr = wx at *
    all_goals
     have HN : Hid (m ≤ 11 ∧ q5 ≤ q + 11) := hide ⟨hm, hq5⟩; clear hm hq5; go_loopw [9, 13] (fun o j wr => ∃ (jn on : Nat) (oo : Option Addr) (oc : Nat) (oe : List Evt) (t0 t1 t2 t3 t4 t5 t6 t7 t8 t9 : Value) (W : Wld) (_ : jn ≤ m) (_ : on ≤ 190), j = .int .i64 (jn : Int) ∧ o = .slice oo on oc ∧ Hid (oe.length = on ∧ ∀ e ∈ oe, EvtZ e) ∧ Hid (PS b w.heap.size bW C w q5 t0 t1 t2 t3 t4 t5 t6 t7 t8 t9 W (.slice oo on oc) (.slice (some ⟨g, 0, none⟩) m c) on m (evCells oe) (evCells le) wr)) (fun _ j _ => m - (intOf j).toNat)
     case atStart => exact ⟨0, on, oo, oc, oe, _, _, _, _, _, _, _, _, _, _, W, by omega, hon, rfl, rfl, HOE, HS⟩
     case round =>
      clear HS HOE hon; obtain ⟨jn, on, oo, oc, oe, t0, t1, t2, t3, t4, t5, t6, t7, t8, t9, W, hjn, hon, rfl, rfl, HOE, HS⟩ := hrel; by_cases hlt : jn < m
      · (have hlt2 : decide ((jn : Int) < (m : Int)) = true := by simp; omega); (have hlt3 : (jn : Int) < (m : Int) := by omega); (have i4 : IntKind.i64.wrap ((jn : Int) + 1) = (jn : Int) + 1 := by have := HN.out; simp [IntKind.wrap, IntKind.bits, IntKind.signed]; omega); obtain ⟨X, L, hrows, h1, h2, h3, h4, h5⟩ := HS.out.rows; obtain ⟨⟨a0, c0, rfl⟩, ⟨a1, c1, rfl⟩, ⟨a2, c2, rfl⟩, ⟨a3, c3, rfl⟩, ⟨a4, c4, rfl⟩, ⟨a5, c5, rfl⟩, ⟨a6, c6, rfl⟩, ⟨a7, c7, rfl⟩, ⟨a8, c8, rfl⟩, ⟨a9, c9, rfl⟩⟩ := hrows.forms; clear hrows h1 h2 h3 h4 h5; by_cases hfull : on < 190
        · (have hf2 : decide ((on : Int) < 190) = true := by simp; omega); (have hf3 : (on : Int) < 190 := by omega); (have hjl : jn < le.length := by rw [HLE.out.1]; exact hlt); have HEV : Hid (∀ (i : Nat) (u : Value), (le[jn].cs)[i]? = some u → wr.cell? ⟨g, jn * 6 + i, none⟩ = some u) := hide (HS.out.ev jn hjl HLE.out.1); have HEZ : Hid (EvtZ le[jn]) := hide (HLE.out.2 _ (List.getElem_mem hjl)); generalize le[jn] = ev at *; obtain ⟨kd, ke, add, rem, po, text⟩ := ev; clear hjl; (repeat ((fail_if_success (refine pl_id ?_)); go_step)); refine w_i ?_; (iterate 4 refine w_q ?_); refine w_e ?_; (repeat ((fail_if_success (refine pl_id ?_)); go_step)); refine w_i ?_; (iterate 3 refine w_q ?_); refine w_e ?_; (repeat ((fail_if_success (refine pl_id ?_)); go_step)); refine w_i ?_; (iterate 4 refine w_q ?_); refine w_q ?_ (h := by obtain ⟨x0, x1, x2, x3, x4, x5⟩ := ce6 (w' := wr) HEV.out; go_simp; all_goals rfl); refine w_1 (fun K hK => ?_); refine op_lit (w.heap.size) (cs := evC kd (ke : Int) add rem po text) (e := 69) (size := 6) (n := 1) ?_ HS.out.ex.size (by unfold maxLen; omega) (by rfl) (fun gL wc LT hb hbn => ?_)
          · go_simp; try rfl
          refine hK.out _ _ ?_; clear hK; replace HS := hide (HS.out.below hb); replace HEV := hide (fun i u hu => (hb.cell (cell_lt (HEV.out i u hu))).trans (HEV.out i u hu)); clear hb hbn; (try simp only [Act.put, List.setIfInBounds_toArray, List.set_cons_zero, List.set_cons_succ]); refine w_1 (fun K hK => ?_); refine op_appOwn rowT_ev w.heap.size (.tmp 66) (.tmp 71) rfl (.slice oo on oc) on (evCells oe) rfl HS.out.out ⟨gL, 0, none⟩ 1 1 (evC kd (ke : Int) add rem po text).toList rfl rfl (fun k u hk => World.ownsRow.cells LT rfl k u hk) (by simp [Value.oneCell']) (by unfold maxLen; omega) (by omega) HS.out.ex.size (fun v wd hr hg hat => ?_); refine hK.out _ _ ?_; clear hK; rw [show evCells oe ++ (evC kd (ke : Int) add rem po text).toList = evCells (oe ++ [⟨kd, ke, add, rem, po, text⟩]) by rw [evCells_app]; rfl] at hr
          have hne : some g ≠ (Value.slice oo on oc).ownBlock := by
           rcases HS.out.apart with z | z
           · cases z
           · exact fun y => z y.symm
          replace HEV := hide (fun i u hu => (World.cell?_of_block (w := wc) (hg.block g (HS.out.next.lt g rfl).2 hne)).trans (HEV.out i u hu)); replace HS := hide (HS.out.done hr hg hat); obtain ⟨go, co, rfl, _⟩ := row_some hr (by omega); clear hr hg hat LT hne; (try simp only [Act.put, List.setIfInBounds_toArray, List.set_cons_zero, List.set_cons_succ]); refine w_q ?_; refine w_e ?_; obtain ⟨X, L, hrows, hL⟩ := HS.out.rows; have HL := hide hL; (repeat ((fail_if_success (refine pl_id ?_)); go_step)); refine r_i (KeepL ([bW, g] : List Nat)) ?_; replace HS := hide (HS.out.below (Below.refl _ _).drew); replace HEV := hide (fun i u hu => ((Below.refl wd.heap.size wd).drew.cell (cell_lt (HEV.out i u hu))).trans (HEV.out i u hu)); replace hrows := hrows.below (Below.refl _ _).drew; have HQ := hide hrows; clear hrows hL; generalize wd.drew = wf at *; refine r_q 0 ?_ (h := by intro w' hw'; have x := (Blk.keepL HS.out.wld hw' (by simp)).c10; go_simp; all_goals rfl); refine r_q 1 ?_; refine r_q 2 ?_; refine r_q 3 ?_; refine r_q 4 ?_ (h := by intro w' hw'; obtain ⟨x0, x1, x2, x3, x4, x5⟩ := ce6 (w' := w') HEV.out; go_simp; all_goals rfl); refine r_1 5 (fun K hK => ?_); go_simp; refine (l7Step_any X L w.heap.size _ _ _ _ _ _ _ _ _ _ W ke kd add rem po text _ HQ.out HS.out.ex.size HEZ.out.1 HS.out.play.stepZ).mono ?_; rintro e wg ⟨X', u0, u1, u2, u3, u4, u5, u6, u7, u8, u9, rfl, hq', hkr⟩; go_simp; refine hK.out _ _ (fun x hx => ?_) ?_
          · rcases List.mem_cons.1 hx with rfl | hx
            · exact hkr.2.1 _ HS.out.wld.lt (HQ.out.loc _ HL.out.2.2.1).2
            · rw [List.mem_singleton.1 hx]; exact hkr.2.1 _ (HS.out.next.lt g rfl).2 (HQ.out.loc _ (HL.out.2.2.2.2 g rfl)).2
          clear hK; (try simp only [Act.put, List.setIfInBounds_toArray, List.set_cons_zero, List.set_cons_succ]); refine r_l 6 (fun K hK => ?_); refine op_row 41 (.tmp 8) (.tmp 78) rfl bW (wldC u0 u1 u2 u3 u4 u5 u6 u7 u8 u9) _ 41 rfl rfl (HS.out.wld.keepR hkr HQ.out HL.out.2.2.1) info_wld rfl (one_wld hq') (fun wh NEW hg hs => ?_); refine hK.out _ _ ?_; clear hK; replace HS := hide (HS.out.step HQ.out HL.out hq' hkr (play_step HS.out.play kd ke add rem po text HEZ.out.1 HEZ.out.2) hg NEW); clear NEW hg hs hq' hkr HQ HL HEV; (try simp only [Act.put]); (repeat ((fail_if_success (refine pl_id ?_)); go_step)); refine w_i ?_; (iterate 3 refine w_q ?_); refine w_e ?_; (go_wp2_with fail); go_roundw
          case rel =>
           refine ⟨jn + 1, on + 1, _, _, _, _, _, _, _, _, _, _, _, _, _, _, by omega, by omega, by simp, rfl, hide (And.intro (by rw [List.length_append, HOE.out.1]; rfl) (fun e he => ?_)), HS⟩; rcases List.mem_append.1 he with he | he
           · exact HOE.out.2 e he
           · rw [List.mem_singleton.1 he]; exact HEZ.out
          case measure => simp [intOf]; omega
        · (have hf2 : decide ((on : Int) < 190) = false := by simp; omega); (go_wp2_with fail); go_roundw
          case rel => exact ⟨jn + 1, on, oo, oc, oe, _, _, _, _, _, _, _, _, _, _, W, by omega, hon, by simp, rfl, HOE, HS⟩
          case measure => simp [intOf]; omega
      · (have hlt2 : decide ((jn : Int) < (m : Int)) = false := by simp; omega); (go_wp2_with fail); go_roundw
        case rel => exact ⟨k - 1, on, oo, oc, q5, oe, _, _, _, _, _, _, _, _, _, _, W, by omega, hon, by have := HN.out.2; omega, by simp, rfl, HOE, hide HS.out.drop⟩
        case measure => simp [intOf]; omega
  · (have hkp : decide ((0 : Int) < (k : Int)) = false := by simp; omega); (obtain rfl : k = 0 := by omega); obtain ⟨X, L, hrows, h1, h2, h3, h4, h5⟩ := HS.out.rows; (repeat ((fail_if_success (refine pl_id ?_)); go_step)); refine w_i ?_; (iterate 2 refine w_q ?_); refine w_e ?_; (repeat ((fail_if_success (refine pl_id ?_)); go_step)); refine w_i ?_; (iterate 2 refine w_q ?_); refine w_q ?_ (h := by have x := HS.out.wld.c10; go_simp; all_goals rfl); refine w_1 (fun K hK => ?_); go_simp; refine (l7Copy_any X L w.heap.size _ _ _ _ _ _ _ _ _ _ W _ hrows HS.out.play.wldZ (w.heap.size :: L0) (fun z hz => by rcases List.mem_cons.1 hz with rfl | hz; exact HS.out.ans.lt; exact Nat.lt_of_lt_of_le (H0.out z hz) HS.out.ex.size)).mono ?_; rintro e w4 ⟨X', t0, t1, t2, t3, t4, t5, t6, t7, t8, t9, rfl, hr, hb⟩; go_simp; refine hK.out _ _ ?_; clear hK; have hz := HS.out.ex.size; replace HS := hide (HS.out.below hb); clear hrows h1 h2 h3 h4 h5 hb; have HR := hide hr; have ONE := hide (one_wld hr); clear hr; (try simp only [Act.put, List.setIfInBounds_toArray, List.set_cons_zero, List.set_cons_succ]); (iterate 2 refine w_q ?_); refine w_1 (fun K hK => ?_); refine op_row 41 (.tmp 6) (.tmp 82) rfl w.heap.size (wldC t0 t1 t2 t3 t4 t5 t6 t7 t8 t9) _ 41 rfl rfl HS.out.ans info_wld rfl ONE.out (fun wh NEW hg hs => ?_); refine hK.out _ _ ?_; clear hK; (try simp only [Act.put]); refine w_e ?_; have l1 := load_wld NEW rfl; (go_wp2_with fail); refine bodyPost_ret (v := .tuple #[.int .i64 (who : Int), .slice oo on oc, .agg (wldC t0 t1 t2 t3 t4 t5 t6 t7 t8 t9)]) (results_ssc rfl rfl rfl rfl l1) rfl ?_; refine ⟨who, q, _, oe, X', t0, t1, t2, t3, t4, t5, t6, t7, t8, t9, W, rfl, hwho, ?_, by rw [HOE.out.1]; exact hon, HOE.out.2, ((HR.out.other hg (by simp)).less (fun z hz => List.mem_cons_of_mem _ hz)).low hz, HS.out.play, by omega, HS.out.rd.grown hg (fun z hz => by cases hz; exact HBW.out), HS.out.ex.grown hg (fun z hz => by cases hz; exact Nat.le_refl _)⟩; rw [HOE.out.1]; exact HS.out.out.kept hg (.inr (fun y => (HS.out.ans.not_row (by decide) HS.out.out) y.symm))
def WldPost (b : Nat) (C : Code) (p : Nat) (L0 : List Nat) (w : World) (e : Ending) (w' : World) : Prop :=
  ∃ (q : Nat) (X : List Nat) (s0 s1 s2 s3 s4 s5 s6 s7 s8 s9 : Value) (W : Wld), e = .returned (.agg (wldC s0 s1 s2 s3 s4 s5 s6 s7 s8 s9)) ∧ Rows X L0 w.heap.size w' (rowsOf s0 s1 s2 s3 s4 s5 s6 s7 s8 s9 W) ∧ PlayZ W ∧ q ≤ p + 700 ∧ DrC b C q w' ∧ Ex b w w'
theorem l20World_any (b : Nat) (C : Code) (p : Nat) (w : World) (h : DrC b C p w) (hp : p ≤ 800000) (L0 : List Nat) (h0 : ∀ z ∈ L0, z < w.heap.size) : Calls Tryz.prog 10 #[.pointer (some ⟨b, 0, none⟩)] w (WldPost b C p L0 w) := by
 have D := hide h; have HL := hide h.lt; have H0 := hide h0; clear h h0; go_enter Tryz.func10, Tryz.ntmps10; (repeat ((fail_if_success (refine pl_id ?_)); go_step)); refine w_i ?_; refine w_1 (fun K hK => ?_); refine op_alloc (cs := noWld) (t := 41) ?_ (fun bR wc R hb hbn => ?_)
 · go_simp; try rfl
 refine hK.out _ _ ?_; clear hK; replace D := hide (D.out.below hb); have R := hide R; have x0 : Ex b w wc := Ex.of_below b hb; have hs := hb.size; clear hb; (try simp only [Act.put, List.setIfInBounds_toArray, List.set_cons_zero, List.set_cons_succ]); refine w_e ?_; (repeat ((fail_if_success (refine pl_id ?_)); go_step)); refine w_i ?_; refine w_q ?_; refine w_1 (fun K hK => ?_); go_simp; refine (l20Play_any b C p 40 wc D.out hp (by omega) (by omega) (bR :: L0) (fun z hz => by rcases List.mem_cons.1 hz with rfl | hz; exact hbn.2; exact Nat.lt_of_lt_of_le (H0.out z hz) hs)).mono ?_; rintro e wd ⟨who, q, o, oe, X, s0, s1, s2, s3, s4, s5, s6, s7, s8, s9, W, rfl, _, _, _, _, hr, hz, hq, hd, hx⟩; go_simp; refine hK.out _ _ ?_; clear hK; replace D := hide hd; replace R := hide (blk_grown R.out hx.gb (by have := HL.out; omega)); have HQ := hide (hr.low hs); have HX := hide (x0.trans hx); have hsx := hx.size; clear hd hx hr x0; (try simp only [Act.put, List.setIfInBounds_toArray, List.set_cons_zero, List.set_cons_succ]); (iterate 4 refine w_q ?_); refine w_1 (fun K hK => ?_); refine op_alloc (cs := noWld) (t := 41) ?_ (fun bW we V hb hbw => ?_)
 · go_simp; try rfl
 refine hK.out _ _ ?_; clear hK; replace D := hide (D.out.below hb); replace R := hide (R.out.below hb); replace HQ := hide (HQ.out.more hb hbw); replace HX := hide (HX.out.trans (Ex.of_below b hb)); have V := hide V; have hw := R.out.lt; have hxs : w.heap.size ≤ wd.heap.size ∧ bR < wd.heap.size := ⟨by omega, by omega⟩; clear hb; (try simp only [Act.put, List.setIfInBounds_toArray, List.set_cons_zero, List.set_cons_succ]); (iterate 2 refine w_q ?_); have ONE := hide (one_wld HQ.out); refine w_1 (fun K hK => ?_); refine op_row 41 (.tmp 5) (.tmp 11) rfl bW (wldC s0 s1 s2 s3 s4 s5 s6 s7 s8 s9) _ 41 rfl rfl V.out info_wld rfl ONE.out (fun wf NEW hg hs2 => ?_); refine hK.out _ _ ?_; clear hK; have V2 := hide NEW; replace R := hide (blk_grown R.out hg (by omega)); replace HQ := hide (HQ.out.other hg (by simp)); replace HX := hide (HX.out.grown hg (fun z hz => by cases hz; omega)); replace D := hide (D.out.grown hg (fun z hz => by cases hz; have := HL.out; omega)); clear hg NEW hs2 V; (try simp only [Act.put]); refine w_e ?_; (repeat ((fail_if_success (refine pl_id ?_)); go_step)); refine w_i ?_; refine w_q ?_ (h := by have x := V2.out.c10; go_simp; all_goals rfl); refine w_1 (fun K hK => ?_); refine op_row 41 (.tmp 2) (.tmp 12) rfl bR (wldC s0 s1 s2 s3 s4 s5 s6 s7 s8 s9) _ 41 rfl rfl R.out info_wld rfl ONE.out (fun wh NEW hg hs2 => ?_); refine hK.out _ _ ?_; clear hK; (try simp only [Act.put]); refine w_e ?_; have l1 := load_wld NEW rfl; (go_wp2_with fail); refine bodyPost_ret (v := .agg (wldC s0 s1 s2 s3 s4 s5 s6 s7 s8 s9)) (results_cell rfl rfl l1) rfl ?_; exact ⟨q, _, s0, s1, s2, s3, s4, s5, s6, s7, s8, s9, W, rfl, (HQ.out.other hg (by simp)).less (fun z hz => by simp [hz]), hz, hq, D.out.grown hg (fun z hz => by cases hz; have := HL.out; omega), HX.out.grown hg (fun z hz => by cases hz; omega)⟩
end Go.Proofs.YtdfpeaenbmgihaaGreat
