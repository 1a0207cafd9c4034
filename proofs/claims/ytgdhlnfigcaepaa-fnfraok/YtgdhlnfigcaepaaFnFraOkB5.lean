/-
  Drawn frames: l20Frame, DrawFraOk.
-/
import Derived.Test.YtgdhlnfigcaepaaFnFraOkB4
import Derived.Test.YtgdhlnfigcaepaaFnFraOkB3
import Derived.BigRegion
import Derived.Test.YtgdhlnfigcaepaaFnFraOkB1
import Derived.OrdersHeld
import Derived.Deep.RegionHeld3
namespace Go.Proofs.Ytgdhlnfigcaepaa
open Go.RowKit

abbrev noFra : Array Value := fraC 0 ⟨#[]⟩ 0 ⟨#[]⟩
theorem info_fr : (Try.prog.info? 27).map (·.size) = some 4 := by kernel_rfl
theorem load_fr {w : World} {b : Nat} {cs : Array Value} (h : Blk w b 27 cs) (hc : cs.size = 4) : (loadVar 27 ⟨b, 0, none⟩).run Try.prog w = .ok (.agg cs) w :=
  run_loadVar_row w b _ _ cs (0, 0) _ h Try.underlying27 rfl (by rw [hc]; exact info_fr)
theorem one_fr (a b : Int) (c d : ByteArray) : (fraC a c b d).all (·.oneCell') = true := by simp [Value.oneCell']
theorem Blk.ex {w w' : World} {b c : Nat} {t : TypeId} {cs : Array Value} (h : Blk w c t cs) (x : Ex b w w') (hne : c ≠ b) : Blk w' c t cs := (x.block c h.lt hne).trans h

/-- A frame is being drawn. -/
structure FrAt (b : Nat) (C : Code) (w : World) (fb q : Nat) (f : Fra) (wr : World) : Prop where
  dr : DrC b C q wr
  ex : Ex b w wr
  res : Blk wr w.heap.size 27 noFra
  at_ : Blk wr fb 27 f.cells
  lo : w.heap.size < fb
theorem FrAt.step {b : Nat} {C : Code} {w : World} {fb q q' : Nat} {f : Fra} {wr w' : World} (h : FrAt b C w fb q f wr) (hb : b < w.heap.size) (x : Ex b wr w') (d : DrC b C q' w') : FrAt b C w fb q' f w' :=
  ⟨d, h.ex.trans x, h.res.ex x (by omega), h.at_.ex x (by have := h.lo; omega), h.lo⟩
theorem FrAt.alloc {b : Nat} {C : Code} {w : World} {fb q : Nat} {f : Fra} {wr : World} (h : FrAt b C w fb q f wr) (o : Obj) : FrAt b C w fb q f (wr.alloc o) :=
  ⟨h.dr.alloc o, h.ex.alloc o, h.res.alloc o, h.at_.alloc o, h.lo⟩
theorem FrAt.set {b : Nat} {C : Code} {w : World} {fb q : Nat} {f g : Fra} {wr : World} (h : FrAt b C w fb q f wr) (hb : b < w.heap.size) (i : Nat) (v : Value) (hg : f.cells.setIfInBounds i v = g.cells) : FrAt b C w fb q g (wr.setCell ⟨fb, i, none⟩ v) := by
  have := h.lo
  refine ⟨h.dr.grown (grown_setC wr fb i v) (fun k hk => by cases hk; omega), h.ex.grown (grown_setC wr fb i v) (fun k hk => by cases hk; omega), h.res.otherC (by omega) v, ?_, h.lo⟩
  have := heap_setAt (i := i) h.at_ v
  rw [hg] at this
  exact this

set_option maxRecDepth 100000 in
set_option maxHeartbeats 4000000 in
theorem l20Frame_any (b : Nat) (C : Code) (p n : Nat) (m : Int) (hm : m = (n : Int)) (w : World) (h : DrC b C p w) (hn : 1 ≤ n) (hn2 : n ≤ 1000) (hp : p + 200 ≤ 1000000) :
    Calls Try.prog 55 #[.pointer (some ⟨b, 0, none⟩), .int .i64 m] w fun e w' => ∃ (f : Fra) (q : Nat), e = .returned (.agg f.cells) ∧ f.key.size ≤ 700 ∧ f.text.size ≤ 9 ∧ (-1 ≤ f.fr ∧ f.fr ≤ 8) ∧ (-1 ≤ f.n ∧ f.n ≤ 1000) ∧ q ≤ p + 200 ∧ DrC b C q w' ∧ Ex b w w' := by
  subst hm
  have hD := hide h
  have hbw := h.lt
  have hk2 : Kd 2 = 17 := rfl
  have H2 := l20Secret_any b C 2 (by omega)
  have R0 := hide (Blk.new w 27 noFra)
  clear h
  go_enter Try.func55, Try.ntmps55
  go_wp2_with fail
  refine (pick_any b C p 8 _ rfl _ ((unhide hD).alloc _) (by omega) (by omega) (by omega)).mono ?_
  rintro e w1 ⟨who, rfl, hwho, d1, x1⟩
  have D1 := hide d1
  have X1 : Hid (Ex b w w1) := ((Ex.refl b w).alloc _).trans x1
  have R1 := hide (Blk.ex (unhide R0) x1 (by omega))
  clear d1 x1 R0 hD
  go_wp2_with fail
  refine (H2 _ _ _ rfl (unhide D1) (by omega)).mono ?_
  rintro e w2 ⟨s, q, rfl, hs, hq, d2, x2⟩
  have D2 := hide d2
  have X2 : Hid (Ex b w w2) := X1.out.trans x2
  have R2 := hide (Blk.ex (unhide R1) x2 (by omega))
  rw [hk2] at hq
  have M : Hid (s.size ≤ maxLen) := le_maxLen (by omega)
  clear d2 x2 D1 X1 R1 H2 hk2
  go_wp2_with fail
  refine (sMakSay_any s who _ M.out).mono ?_
  have hks := mkSay_300 s who
  generalize mkSay s who = key at hks ⊢
  rintro e w3 ⟨rfl, hb3⟩
  have D3 := hide ((unhide D2).below hb3)
  have X3 : Hid (Ex b w w3) := X2.out.trans (Ex.of_below b hb3)
  have R3 := hide ((unhide R2).below hb3)
  clear hb3 D2 X2 R2
  go_wp2_with fail
  refine (pick_any b C q 20 _ rfl _ (unhide D3) (by omega) (by omega) (by omega)).mono ?_
  rintro e w4 ⟨v4, rfl, hv4, d4, x4⟩
  have D4 := hide d4
  have X4 : Hid (Ex b w w4) := X3.out.trans x4
  have R4 := hide (Blk.ex (unhide R3) x4 (by omega))
  have hlt4 := d4.lt
  have i4 : IntKind.i64.wrap (1 + (v4 : Int)) = 1 + (v4 : Int) := by simp [IntKind.wrap, IntKind.bits, IntKind.signed]; omega
  clear d4 x4 D3 X3 R3
  go_wp2_with fail
  refine (pick_any b C (q + 1) 3 _ rfl _ ((unhide D4).alloc _) (by omega) (by omega) (by omega)).mono ?_
  rintro e w5 ⟨k5, rfl, hk5, d5, x5⟩
  have hu : ∃ u : ByteArray, w5.cell? ⟨w4.heap.size, k5, none⟩ = some (.string u) ∧ u.size ≤ 9 := by
    rw [x5.cell (p := ⟨w4.heap.size, k5, none⟩) (by simp) (by show w4.heap.size ≠ b; omega)]
    match k5, hk5 with
    | 0, _ => exact ⟨_, by simp [go_sem]; rfl, by decide⟩
    | 1, _ => exact ⟨_, by simp [go_sem]; rfl, by decide⟩
    | 2, _ => exact ⟨_, by simp [go_sem]; rfl, by decide⟩
    | k + 3, hk => omega
  obtain ⟨text, hu1, hu2⟩ := hu
  have hk5' : (k5 : Int) < 3 := by omega
  have X5 : Hid (Ex b w w5) := (X4.out.alloc _).trans x5
  have R5 := hide (Blk.ex ((unhide R4).alloc _) x5 (by omega))
  have T5 : Hid (FrAt b C w w5.heap.size (q + 1 + 1) ⟨(who : Int), key, 1 + (v4 : Int), text⟩ (w5.alloc (.cells (fraC (who : Int) key (1 + (v4 : Int)) text) 27))) :=
    ⟨d5.alloc _, X5.out.alloc _, (unhide R5).alloc _, Blk.new w5 _ _, by have := (unhide R5).lt; omega⟩
  clear d5 x5 D4 X4 R4 X5 R5 hk5
  go_wp2_with fail
  clear hu1
  generalize w5.alloc (.cells (fraC (who : Int) key (1 + (v4 : Int)) text) 27) = W5 at *
  generalize w5.heap.size = fb at *
  refine (odd_any b C (q + 1 + 1) n _ rfl _ (unhide T5).dr hn hn2 (by omega)).mono ?_
  rintro e w6 ⟨c, rfl, d6, x6⟩
  have T6 := hide ((unhide T5).step hbw x6 d6)
  clear T5 d6 x6
  cases c with
  | false =>
    have TE := unhide T6
    have l1 := load_fr TE.at_ rfl
    have RE := hide TE.res
    have l2 := load_fr (TE.res.set (fraC (who : Int) key (1 + (v4 : Int)) text)) rfl
    have HDE : Hid (DrC b C (q + 1 + 1 + 1) (w6.setRow w.heap.size (fraC (who : Int) key (1 + (v4 : Int)) text))) := TE.dr.grown (grown_setRow w6 w.heap.size _) (fun k hk => by cases hk; exact hbw)
    have HXE : Hid (Ex b w (w6.setRow w.heap.size (fraC (who : Int) key (1 + (v4 : Int)) text))) := TE.ex.grown (grown_setRow w6 w.heap.size _) (fun k hk => by cases hk; exact Nat.le_refl _)
    clear TE T6
    go_wp2_with (first | refine wpList_load_whole rfl 27 _ rfl ⟨fb, 0, none⟩ rfl _ l1 ?_ | refine wpList_store_whole rfl 27 _ _ rfl w.heap.size (fraC (who : Int) key (1 + (v4 : Int)) text) rfl rfl 27 _ (unhide RE) info_fr rfl (one_fr _ _ _ _) ?_)
    refine bodyPost_ret (v := .agg (fraC (who : Int) key (1 + (v4 : Int)) text)) (results_cell rfl rfl l2) rfl ?_
    exact ⟨⟨(who : Int), key, (1 + (v4 : Int)), text⟩, (q + 1 + 1 + 1), rfl, by simp only; omega, by simp only; omega, by simp only; omega, by simp only; omega, by omega, unhide HDE, unhide HXE⟩
  | true =>
    go_wp2_with fail
    refine (pick_any b C (q + 1 + 1 + 1) 4 _ rfl _ (unhide T6).dr (by omega) (by omega) (by omega)).mono ?_
    rintro e w7 ⟨v7, rfl, hv7, d7, x7⟩
    have T7 := hide ((unhide T6).step hbw x7 d7)
    clear T6 d7 x7
    by_cases h0 : v7 = 0
    · subst h0
      have i5 : IntKind.i64.wrap ((who : Int) + 1) = (who : Int) + 1 := by simp [IntKind.wrap, IntKind.bits, IntKind.signed]; omega
      have hz2 : 0 ≤ ((who : Int) + 1) % 8 ∧ ((who : Int) + 1) % 8 ≤ 7 := by omega
      go_wp2_with fail
      refine (pick_any b C (q + 1 + 1 + 1 + 1) 3 _ rfl _ ((unhide T7).dr.alloc _) (by omega) (by omega) (by omega)).mono ?_
      rintro e w8 ⟨k8, rfl, hk8, d8, x8⟩
      have hl7 := (unhide T7).dr.lt
      have hu : ∃ u : Int, w8.cell? ⟨w7.heap.size, k8, none⟩ = some (.int .i64 u) ∧ -1 ≤ u ∧ u ≤ 8 := by
        rw [x8.cell (p := ⟨w7.heap.size, k8, none⟩) (by simp) (by show w7.heap.size ≠ b; omega)]
        match k8, hk8 with
        | 0, _ => exact ⟨-1, by simp [go_sem], by omega, by omega⟩
        | 1, _ => exact ⟨8, by simp [go_sem], by omega, by omega⟩
        | 2, _ => exact ⟨((who : Int) + 1) % 8, by simp [go_sem], by omega, by omega⟩
        | k + 3, hk => omega
      obtain ⟨u, hu1, hu2⟩ := hu
      have hk8' : (k8 : Int) < 3 := by omega
      have T7b := hide (((unhide T7).alloc (.cells #[.int .i64 (-1), .int .i64 (8), .int .i64 (((who : Int) + 1) % 8)] 3)).step hbw x8 d8)
      have cf := (unhide T7b).at_.cell 0
      have ff := (unhide T7b).at_.frozen 0
      simp only [List.getElem?_toArray, List.getElem?_cons_zero] at cf
      have T8 := hide ((unhide T7b).set (g := ⟨u, key, (1 + (v4 : Int)), text⟩) hbw 0 (.int .i64 u) rfl)
      clear T7 d8 x8 T7b hk8
      have hWW : Hid True := trivial
      obtain ⟨W8, hW8⟩ : ∃ W, W = w8.setCell ⟨fb, 0, none⟩ (.int .i64 u) := ⟨_, rfl⟩
      rw [← hW8] at T8
      clear hWW
      have TE := unhide T8
      have l1 := load_fr TE.at_ rfl
      have RE := hide TE.res
      have l2 := load_fr (TE.res.set (fraC u key (1 + (v4 : Int)) text)) rfl
      have HDE : Hid (DrC b C (q + 1 + 1 + 1 + 1 + 1) (W8.setRow w.heap.size (fraC u key (1 + (v4 : Int)) text))) := TE.dr.grown (grown_setRow W8 w.heap.size _) (fun k hk => by cases hk; exact hbw)
      have HXE : Hid (Ex b w (W8.setRow w.heap.size (fraC u key (1 + (v4 : Int)) text))) := TE.ex.grown (grown_setRow W8 w.heap.size _) (fun k hk => by cases hk; exact Nat.le_refl _)
      clear TE T8
      rw [hW8] at l1 l2 RE HDE HXE
      clear hW8
      go_wp2_with (first | refine wpList_load_whole rfl 27 _ rfl ⟨fb, 0, none⟩ rfl _ l1 ?_ | refine wpList_store_whole rfl 27 (.tmp 4) (.tmp 58) rfl w.heap.size (fraC u key (1 + (v4 : Int)) text) ?hx1 ?hy1 27 noFra ?hb1 ?hi1 ?ho1 ?h11 ?h1)
      case hb1 => exact unhide RE
      case hi1 => exact info_fr
      case ho1 => rfl
      case h11 => exact one_fr _ _ _ _
      case h1 =>
        go_wp2_with fail
        refine bodyPost_ret (v := .agg (fraC u key (1 + (v4 : Int)) text)) (results_cell rfl rfl l2) rfl ?_
        exact ⟨⟨u, key, (1 + (v4 : Int)), text⟩, (q + 1 + 1 + 1 + 1 + 1), rfl, by simp only; omega, by simp only; omega, by simp only; omega, by simp only; omega, by omega, unhide HDE, unhide HXE⟩
    have e0 : ((v7 : Int) == 0) = false := by simp; omega
    by_cases h1 : v7 = 1
    · subst h1
      go_wp2_with fail
      refine (l20SecretOr_any b C (q + 1 + 1 + 1 + 1) 2 _ rfl _ (unhide T7).dr (by omega) (by omega) (by omega)).mono ?_
      rintro e w8 ⟨u, q8, rfl, hu2, hq8, d8, x8⟩
      have T7b := hide ((unhide T7).step hbw x8 d8)
      have cf := (unhide T7b).at_.cell 1
      have ff := (unhide T7b).at_.frozen 1
      simp only [List.getElem?_toArray, List.getElem?_cons_succ, List.getElem?_cons_zero] at cf
      have T8 := hide ((unhide T7b).set (g := ⟨(who : Int), u, 1 + (v4 : Int), text⟩) hbw 1 (.string u) rfl)
      clear T7 d8 x8 T7b
      have hWW : Hid True := trivial
      obtain ⟨W8, hW8⟩ : ∃ W, W = w8.setCell ⟨fb, 1, none⟩ (.string u) := ⟨_, rfl⟩
      rw [← hW8] at T8
      clear hWW
      have TE := unhide T8
      have l1 := load_fr TE.at_ rfl
      have RE := hide TE.res
      have l2 := load_fr (TE.res.set (fraC (who : Int) u (1 + (v4 : Int)) text)) rfl
      have HDE : Hid (DrC b C q8 (W8.setRow w.heap.size (fraC (who : Int) u (1 + (v4 : Int)) text))) := TE.dr.grown (grown_setRow W8 w.heap.size _) (fun k hk => by cases hk; exact hbw)
      have HXE : Hid (Ex b w (W8.setRow w.heap.size (fraC (who : Int) u (1 + (v4 : Int)) text))) := TE.ex.grown (grown_setRow W8 w.heap.size _) (fun k hk => by cases hk; exact Nat.le_refl _)
      clear TE T8
      rw [hW8] at l1 l2 RE HDE HXE
      clear hW8
      go_wp2_with (first | refine wpList_load_whole rfl 27 _ rfl ⟨fb, 0, none⟩ rfl _ l1 ?_ | refine wpList_store_whole rfl 27 (.tmp 4) (.tmp 58) rfl w.heap.size (fraC (who : Int) u (1 + (v4 : Int)) text) ?hx2 ?hy2 27 noFra ?hb2 ?hi2 ?ho2 ?h12 ?h2)
      case hb2 => exact unhide RE
      case hi2 => exact info_fr
      case ho2 => rfl
      case h12 => exact one_fr _ _ _ _
      case h2 =>
        go_wp2_with fail
        refine bodyPost_ret (v := .agg (fraC (who : Int) u (1 + (v4 : Int)) text)) (results_cell rfl rfl l2) rfl ?_
        exact ⟨⟨(who : Int), u, (1 + (v4 : Int)), text⟩, q8, rfl, by simp only; omega, by simp only; omega, by simp only; omega, by simp only; omega, by omega, unhide HDE, unhide HXE⟩
    have e1 : ((v7 : Int) == 1) = false := by simp; omega
    by_cases h2 : v7 = 2
    · subst h2
      go_wp2_with fail
      refine (pick_any b C (q + 1 + 1 + 1 + 1) 3 _ rfl _ ((unhide T7).dr.alloc _) (by omega) (by omega) (by omega)).mono ?_
      rintro e w8 ⟨k8, rfl, hk8, d8, x8⟩
      have hl7 := (unhide T7).dr.lt
      have hu : ∃ u : Int, w8.cell? ⟨w7.heap.size, k8, none⟩ = some (.int .i64 u) ∧ -1 ≤ u ∧ u ≤ 1000 := by
        rw [x8.cell (p := ⟨w7.heap.size, k8, none⟩) (by simp) (by show w7.heap.size ≠ b; omega)]
        match k8, hk8 with
        | 0, _ => exact ⟨0, by simp [go_sem], by omega, by omega⟩
        | 1, _ => exact ⟨1000, by simp [go_sem], by omega, by omega⟩
        | 2, _ => exact ⟨-1, by simp [go_sem], by omega, by omega⟩
        | k + 3, hk => omega
      obtain ⟨u, hu1, hu2⟩ := hu
      have hk8' : (k8 : Int) < 3 := by omega
      have T7b := hide (((unhide T7).alloc (.cells #[.int .i64 (0), .int .i64 (1000), .int .i64 (-1)] 3)).step hbw x8 d8)
      have cf := (unhide T7b).at_.cell 2
      have ff := (unhide T7b).at_.frozen 2
      simp only [List.getElem?_toArray, List.getElem?_cons_succ, List.getElem?_cons_zero] at cf
      have T8 := hide ((unhide T7b).set (g := ⟨(who : Int), key, u, text⟩) hbw 2 (.int .i64 u) rfl)
      clear T7 d8 x8 T7b hk8
      have hWW : Hid True := trivial
      obtain ⟨W8, hW8⟩ : ∃ W, W = w8.setCell ⟨fb, 2, none⟩ (.int .i64 u) := ⟨_, rfl⟩
      rw [← hW8] at T8
      clear hWW
      have TE := unhide T8
      have l1 := load_fr TE.at_ rfl
      have RE := hide TE.res
      have l2 := load_fr (TE.res.set (fraC (who : Int) key u text)) rfl
      have HDE : Hid (DrC b C (q + 1 + 1 + 1 + 1 + 1) (W8.setRow w.heap.size (fraC (who : Int) key u text))) := TE.dr.grown (grown_setRow W8 w.heap.size _) (fun k hk => by cases hk; exact hbw)
      have HXE : Hid (Ex b w (W8.setRow w.heap.size (fraC (who : Int) key u text))) := TE.ex.grown (grown_setRow W8 w.heap.size _) (fun k hk => by cases hk; exact Nat.le_refl _)
      clear TE T8
      rw [hW8] at l1 l2 RE HDE HXE
      clear hW8
      go_wp2_with (first | refine wpList_load_whole rfl 27 _ rfl ⟨fb, 0, none⟩ rfl _ l1 ?_ | refine wpList_store_whole rfl 27 (.tmp 4) (.tmp 58) rfl w.heap.size (fraC (who : Int) key u text) ?hx3 ?hy3 27 noFra ?hb3 ?hi3 ?ho3 ?h13 ?h3)
      case hb3 => exact unhide RE
      case hi3 => exact info_fr
      case ho3 => rfl
      case h13 => exact one_fr _ _ _ _
      case h3 =>
        go_wp2_with fail
        refine bodyPost_ret (v := .agg (fraC (who : Int) key u text)) (results_cell rfl rfl l2) rfl ?_
        exact ⟨⟨(who : Int), key, u, text⟩, (q + 1 + 1 + 1 + 1 + 1), rfl, by simp only; omega, by simp only; omega, by simp only; omega, by simp only; omega, by omega, unhide HDE, unhide HXE⟩
    have e2 : ((v7 : Int) == 2) = false := by simp; omega
    go_wp2_with fail
    refine (pick_any b C (q + 1 + 1 + 1 + 1) 2 _ rfl _ ((unhide T7).dr.alloc _) (by omega) (by omega) (by omega)).mono ?_
    rintro e w8 ⟨k8, rfl, hk8, d8, x8⟩
    have hl7 := (unhide T7).dr.lt
    have hu : ∃ u : ByteArray, w8.cell? ⟨w7.heap.size, k8, none⟩ = some (.string u) ∧ u.size ≤ 9 := by
      rw [x8.cell (p := ⟨w7.heap.size, k8, none⟩) (by simp) (by show w7.heap.size ≠ b; omega)]
      match k8, hk8 with
      | 0, _ => exact ⟨_, by simp [go_sem]; rfl, by decide⟩
      | 1, _ => exact ⟨_, by simp [go_sem]; rfl, by decide⟩
      | k + 2, hk => omega
    obtain ⟨u, hu1, hu2⟩ := hu
    have hk8' : (k8 : Int) < 2 := by omega
    have T7b := hide (((unhide T7).alloc (.cells #[.string ⟨#[65]⟩, .string ⟨#[97, 98, 99, 100, 101, 102, 103, 104, 105]⟩] 9)).step hbw x8 d8)
    have cf := (unhide T7b).at_.cell 3
    have ff := (unhide T7b).at_.frozen 3
    simp only [List.getElem?_toArray, List.getElem?_cons_succ, List.getElem?_cons_zero] at cf
    have T8 := hide ((unhide T7b).set (g := ⟨(who : Int), key, (1 + (v4 : Int)), u⟩) hbw 3 (.string u) rfl)
    clear T7 d8 x8 T7b hk8
    have hWW : Hid True := trivial
    obtain ⟨W8, hW8⟩ : ∃ W, W = w8.setCell ⟨fb, 3, none⟩ (.string u) := ⟨_, rfl⟩
    rw [← hW8] at T8
    clear hWW
    have TE := unhide T8
    have l1 := load_fr TE.at_ rfl
    have RE := hide TE.res
    have l2 := load_fr (TE.res.set (fraC (who : Int) key (1 + (v4 : Int)) u)) rfl
    have HDE : Hid (DrC b C (q + 1 + 1 + 1 + 1 + 1) (W8.setRow w.heap.size (fraC (who : Int) key (1 + (v4 : Int)) u))) := TE.dr.grown (grown_setRow W8 w.heap.size _) (fun k hk => by cases hk; exact hbw)
    have HXE : Hid (Ex b w (W8.setRow w.heap.size (fraC (who : Int) key (1 + (v4 : Int)) u))) := TE.ex.grown (grown_setRow W8 w.heap.size _) (fun k hk => by cases hk; exact Nat.le_refl _)
    clear TE T8
    rw [hW8] at l1 l2 RE HDE HXE
    clear hW8
    go_wp2_with (first | refine wpList_load_whole rfl 27 _ rfl ⟨fb, 0, none⟩ rfl _ l1 ?_ | refine wpList_store_whole rfl 27 (.tmp 4) (.tmp 58) rfl w.heap.size (fraC (who : Int) key (1 + (v4 : Int)) u) ?hx4 ?hy4 27 noFra ?hb4 ?hi4 ?ho4 ?h14 ?h4)
    case hb4 => exact unhide RE
    case hi4 => exact info_fr
    case ho4 => rfl
    case h14 => exact one_fr _ _ _ _
    case h4 =>
      go_wp2_with fail
      refine bodyPost_ret (v := .agg (fraC (who : Int) key (1 + (v4 : Int)) u)) (results_cell rfl rfl l2) rfl ?_
      exact ⟨⟨(who : Int), key, (1 + (v4 : Int)), u⟩, (q + 1 + 1 + 1 + 1 + 1), rfl, by simp only; omega, by simp only; omega, by simp only; omega, by simp only; omega, by omega, unhide HDE, unhide HXE⟩
#print axioms l20Frame_any
end Go.Proofs.Ytgdhlnfigcaepaa
/-
  Drawn frames: DrawFraOk.
-/
namespace Go.Proofs.Ytgdhlnfigcaepaa
open Go.RowKit

set_option maxRecDepth 100000 in
set_option maxHeartbeats 2000000 in
theorem DrawFraOk_any (a : Option Addr) (len cap : Nat) (zs : List Int) (w : World) (h : IsRow .u8 w a len cap zs) :
    Calls Try.prog 29 #[.slice a len cap] w fun e w' => ∃ f : Fra, e = .returned (.agg f.cells) ∧ f.key.size ≤ 700 ∧ f.text.size ≤ 9 ∧ Below w.heap.size w w' := by
  have R := hide (h.belowR ((Below.refl w.heap.size w).alloc (Nat.le_refl _) (.cells noFra 27)))
  have A := hide (Blk.new w 27 noFra)
  have HB : Hid (Below w.heap.size w (w.alloc (.cells noFra 27))) := (Below.refl _ _).alloc (Nat.le_refl _) _
  clear h
  go_enter Try.func29, Try.ntmps29
  go_wp2_with fail
  refine (l20Open_any a len cap zs _ (unhide R)).mono ?_
  rintro e w1 ⟨C, rfl, d1, hb1⟩
  have D1 : Hid (DrC (w.heap.size + 1) C 0 w1) := by have q := d1; rw [World.size_alloc] at q; exact q
  replace A := hide ((unhide A).below hb1)
  replace HB := hide (HB.out.trans (hb1.mono HB.out.size))
  clear hb1 d1
  go_wp2_with fail
  refine (l20Frame_any (w.heap.size + 1) C 0 2 _ rfl _ (unhide D1) (by omega) (by omega) (by omega)).mono ?_
  rintro e w2 ⟨⟨fr, key, n, text⟩, q, rfl, h1, h2, _, _, _, d2, x2⟩
  replace A := hide ((unhide A).ex x2 (by omega))
  have HB2 := hide (HB.out.trans (x2.below (B := w.heap.size) (by omega) HB.out.size))
  have l2 := load_fr ((unhide A).set (fraC fr key n text)) rfl
  have HB3 := hide (below_blk HB2.out (Nat.le_refl _) (fraC fr key n text))
  clear d2 x2 HB HB2
  go_wp2_with (refine wpList_store_whole rfl 27 (.tmp 2) (.tmp 5) rfl w.heap.size (fraC fr key n text) ?hx ?hy 27 noFra ?hb ?hi ?ho ?h1 ?h)
  case hb => exact unhide A
  case hi => exact info_fr
  case ho => rfl
  case h1 => exact one_fr _ _ _ _
  case hx => rfl
  case hy => rfl
  go_wp2_with fail
  refine bodyPost_ret (v := .agg (fraC fr key n text)) (results_cell rfl rfl l2) rfl ?_
  exact ⟨⟨fr, key, n, text⟩, rfl, h1, h2, unhide HB3⟩
#print axioms DrawFraOk_any
end Go.Proofs.Ytgdhlnfigcaepaa
/-
  What the specification tells of how a secret was made.
-/
namespace Go.Proofs.Ytgdhlnfigcaepaa
open Go.RowKit
open Kw (g len nv ok)

/-- A whole text that names a new secret: its letter, its digits, its number. -/
theorem new_parts {s : ByteArray} (hf : Kw.fresh s 0 = s.size) (h0 : s.size ≠ 0) : 65 ≤ g s 0 ∧ g s 0 ≤ 72 ∧ (∀ i, 1 ≤ i → i < s.size - 1 → 48 ≤ g s i ∧ g s i ≤ 57) ∧ (3 ≤ s.size ∧ s.size ≤ 4) ∧ nv s 0 = dv s 1 (s.size - 2) := by
  by_cases h1 : 65 ≤ g s 0 ∧ g s 0 ≤ 72 ∧ 49 ≤ g s (0 + 1) ∧ g s (0 + 1) ≤ 57
  · obtain ⟨p1, p2, p3, p4⟩ := h1
    rw [Nat.zero_add] at p3 p4
    by_cases h2 : g s (0 + 2) = 59
    · have e : Kw.fresh s 0 = 3 := by unfold Kw.fresh; rw [if_pos ⟨p1, p2, p3, p4⟩, if_pos h2]
      have e2 : nv s 0 = g s (0 + 1) - 48 := by unfold nv; rw [if_pos h2]
      have e3 : s.size = 3 := by omega
      refine ⟨p1, p2, ?_, by omega, ?_⟩
      · intro i h1 h2
        have : i = 1 := by omega
        subst this; omega
      · rw [e2, e3]
        show g s 1 - 48 = 0 * 10 + (g s (1 + 0) - 48)
        simp
    · by_cases h3 : 48 ≤ g s (0 + 2) ∧ g s (0 + 2) ≤ 57 ∧ g s (0 + 3) = 59
      · have e : Kw.fresh s 0 = 4 := by unfold Kw.fresh; rw [if_pos ⟨p1, p2, p3, p4⟩, if_neg h2, if_pos h3]
        have e2 : nv s 0 = (g s (0 + 1) - 48) * 10 + (g s (0 + 2) - 48) := by unfold nv; rw [if_neg h2]
        have e3 : s.size = 4 := by omega
        obtain ⟨r1, r2, _⟩ := h3
        rw [Nat.zero_add] at r1 r2
        refine ⟨p1, p2, ?_, by omega, ?_⟩
        · intro i h1 h2
          have : i = 1 ∨ i = 2 := by omega
          rcases this with rfl | rfl <;> omega
        · rw [e2, e3]
          show (g s 1 - 48) * 10 + (g s 2 - 48) = (0 * 10 + (g s (1 + 0) - 48)) * 10 + (g s (1 + 1) - 48)
          simp
      · exfalso; apply h0; rw [← hf]; unfold Kw.fresh; rw [if_pos ⟨p1, p2, p3, p4⟩, if_neg h2, if_neg h3]
  · exfalso; apply h0; rw [← hf]; unfold Kw.fresh; rw [if_neg h1]

set_option maxRecDepth 100000 in
set_option maxHeartbeats 1000000 in
theorem l1How_any (s : ByteArray) (w : World) (hk : ok s = true) :
    Calls Try.prog 38 #[.string s] w fun e w' => e = .returned (howV (mOp s) (mWho s) (mN s) (mA s) (mB s)) ∧ Below w.heap.size w w' := by
  obtain ⟨h1, h2, h3⟩ := ok_facts hk
  have p0 : 0 < s.size := by omega
  have p0' : (0 : Int) < (s.size : Int) := by omega
  have g0 := Kw.g_in p0
  unfold mOp mWho mN mA mB
  simp only [if_pos hk]
  by_cases c1 : g s 0 = 110
  · simp only [if_pos c1]
    have e1 : ((s[0].toNat : Int) == 110) = true := by simp; omega
    clear h2 h3 g0 c1
    have hk' := hide hk
    clear hk
    go_enter Try.func38, Try.ntmps38
    go_wp2_with fail
    refine bodyPost_ret (v := howV 2 0 0 (s.extract 1 s.size) ⟨#[]⟩) (by simp [results, Try.results38, go_sem, howV]) rfl ⟨rfl, ?_⟩
    exact (Below.refl _ _).alloc (Nat.le_refl _) _
  simp only [if_neg c1]
  have e1 : ((s[0].toNat : Int) == 110) = false := by simp; omega
  by_cases c2 : g s 0 = 107
  · simp only [if_pos c2]
    have e2 : ((s[0].toNat : Int) == 107) = true := by simp; omega
    clear h2 h3 g0 c1 c2
    have hk' := hide hk
    clear hk
    go_enter Try.func38, Try.ntmps38
    go_wp2_with fail
    refine bodyPost_ret (v := howV 3 0 0 (s.extract 1 s.size) ⟨#[]⟩) (by simp [results, Try.results38, go_sem, howV]) rfl ⟨rfl, ?_⟩
    exact (Below.refl _ _).alloc (Nat.le_refl _) _
  simp only [if_neg c2]
  have e2 : ((s[0].toNat : Int) == 107) = false := by simp; omega
  by_cases c3 : g s 0 = 101
  · simp only [if_pos c3]
    have e3 : ((s[0].toNat : Int) == 101) = true := by simp; omega
    have e4 : ((s[0].toNat : Int) == 109) = false := by simp; omega
    have e5 : ((s[0].toNat : Int) == 114) = false := by simp; omega
    obtain ⟨q1, q2, q3⟩ := parts_e hk c3
    have H := l1Size_all s h1 s.size 1 (by omega)
    have p1' : (1 : Int) + (len s 1 : Int) ≤ (s.size : Int) := by omega
    have p2' : (1 : Int) ≤ (s.size : Int) := by omega
    have p3' : (1 : Int) ≤ 1 + (len s 1 : Int) := by omega
    have i3 : IntKind.i64.wrap (1 + (len s 1 : Int)) = 1 + (len s 1 : Int) := by simp [IntKind.wrap, IntKind.bits, IntKind.signed]; omega
    have i5 : (0 : Int) ≤ 1 + (len s 1 : Int) := by omega
    clear h2 h3 g0 c1 c2 c3 q1 q2 q3
    have hk' := hide hk
    clear hk
    go_enter Try.func38, Try.ntmps38
    go_wp2_with fail
    refine (H _ _ rfl).mono ?_
    rintro e w1 ⟨rfl, hb1⟩
    obtain ⟨k0, k1, k2, k3, k4, z0, z1, z2, z3, z4⟩ := Res5.keep (b := w.heap.size) (by constructor <;> simp [go_sem]) hb1 (by simp)
    have hbb : Below w.heap.size w w1 := ((Below.refl w.heap.size w).alloc (Nat.le_refl _) _).trans (hb1.mono (by simp))
    clear hb1
    go_wp2_with fail
    go_region
    all_goals go_wp2_with fail
    all_goals refine bodyPost_ret (v := howV 4 0 0 (s.extract 1 (1 + len s 1)) (s.extract (1 + len s 1) s.size)) (by simp [results, Try.results38, go_sem, howV, k0, k1, k2, k3, k4]) rfl ⟨rfl, ?_⟩
    all_goals exact (below5 hbb (Nat.le_refl _) _ _ _ _ _).drew
  simp only [if_neg c3]
  have e3 : ((s[0].toNat : Int) == 101) = false := by simp; omega
  by_cases c4 : g s 0 = 109
  · simp only [if_pos c4]
    have e4 : ((s[0].toNat : Int) == 109) = true := by simp; omega
    obtain ⟨q1, q2, q3, q4⟩ := parts_m hk c4
    have p1 : 1 < s.size := by omega
    have p1' : (1 : Int) < (s.size : Int) := by omega
    have p2' : (2 : Int) ≤ (s.size : Int) := by omega
    rw [Kw.g_in p1] at q1 q2 ⊢
    have b1 : (65 : Int) ≤ (s[1].toNat : Int) := by omega
    have b2 : (s[1].toNat : Int) ≤ 72 := by omega
    clear h2 h3 g0 c1 c2 c3 c4 q1 q2 q3 q4
    have hk' := hide hk
    clear hk
    go_enter Try.func38, Try.ntmps38
    go_wp2_with fail
    go_region
    all_goals go_wp2_with fail
    all_goals refine bodyPost_ret (v := howV 5 ((s[1].toNat : Int) - 65) 0 (s.extract 2 s.size) ⟨#[]⟩) (by simp [results, Try.results38, go_sem, howV]) rfl ⟨rfl, ?_⟩
    all_goals exact ((Below.refl _ _).alloc (Nat.le_refl _) _).drew
  simp only [if_neg c4]
  have e4 : ((s[0].toNat : Int) == 109) = false := by simp; omega
  by_cases c5 : g s 0 = 114
  · simp only [if_pos c5]
    have e5 : ((s[0].toNat : Int) == 114) = true := by simp; omega
    obtain ⟨q1, q2, q3, q4⟩ := parts_r hk c5
    have p1 : 1 < s.size := by omega
    have p1' : (1 : Int) < (s.size : Int) := by omega
    have p2' : (2 : Int) ≤ (s.size : Int) := by omega
    rw [Kw.g_in p1] at q1 q2 ⊢
    have b1 : (48 : Int) ≤ (s[1].toNat : Int) := by omega
    have b2 : (s[1].toNat : Int) ≤ 57 := by omega
    have b3 : ((s[1].toNat - 48 : Nat) : Int) = (s[1].toNat : Int) - 48 := by omega
    rw [b3]
    clear h2 h3 g0 c1 c2 c3 c4 c5 q1 q2 q3 q4 b3
    have hk' := hide hk
    clear hk
    go_enter Try.func38, Try.ntmps38
    go_wp2_with fail
    go_region
    all_goals go_wp2_with fail
    all_goals refine bodyPost_ret (v := howV 6 0 ((s[1].toNat : Int) - 48) (s.extract 2 s.size) ⟨#[]⟩) (by simp [results, Try.results38, go_sem, howV]) rfl ⟨rfl, ?_⟩
    all_goals exact ((Below.refl _ _).alloc (Nat.le_refl _) _).drew
  simp only [if_neg c5]
  have e5 : ((s[0].toNat : Int) == 114) = false := by simp; omega
  have hfr := parts_new hk c1 c2 c3 c4 c5
  obtain ⟨q1, q2, q3, q4⟩ := new_parts hfr h2
  rw [g0] at q1 q2 ⊢
  have b1 : (65 : Int) ≤ (s[0].toNat : Int) := by omega
  have b2 : (s[0].toNat : Int) ≤ 72 := by omega
  have q3' := hide q3
  have q4' := hide q4.2
  have hsz3 : 3 ≤ s.size := by omega
  have hsz4 : s.size ≤ 4 := by omega
  clear h2 h3 g0 c1 c2 c3 c4 c5 q1 q2 q3 q4 hfr
  have hk' := hide hk
  clear hk
  go_enter Try.func38, Try.ntmps38
  go_wp2_with fail
  go_loop [4, 5] (fun n k => ∃ m j : Nat, k = .int .i64 (j : Int) ∧ n = .int .i64 (m : Int) ∧ 1 ≤ j ∧ j + 1 ≤ s.size ∧ m < 10 ^ (j - 1) ∧ Hid (m = dv s 1 (j - 1))) (fun _ k => s.size - (intOf k).toNat)
  case atStart => exact ⟨0, 1, rfl, rfl, by omega, by omega, by simp, rfl⟩
  case round =>
    obtain ⟨m, j, rfl, rfl, hj1, hj2, hm0, hm⟩ := hrel
    have hm1 : m ≤ 999 := by
      match j, hj1, hj2, hm0 with
      | 1, _, _, h => omega
      | 2, _, _, h => simp at h; omega
      | 3, _, _, h => simp at h; omega
      | j + 4, _, h4, _ => omega
    have hmm := hide hm0
    clear hm0
    by_cases hlt : j < s.size - 1
    · have hlt2 : (j : Int) < (s.size : Int) - 1 := by omega
      have hlt3 : j < s.size := by omega
      have hlt4 : (j : Int) < (s.size : Int) := by omega
      have hd := q3'.out j hj1 hlt
      rw [Kw.g_in hlt3] at hd
      have b3 : (48 : Int) ≤ (s[j].toNat : Int) := by omega
      have b4 : (s[j].toNat : Int) ≤ 57 := by omega
      have hG : Hid (g s j = s[j].toNat) := Kw.g_in hlt3
      clear hd
      go_wp2_with fail
      refine ⟨⟨m * 10 + (s[j].toNat - 48), j + 1, by simp, ?_, by omega, by omega, ?_, ?_⟩, by simp [intOf]; omega⟩
      · congr 1; omega
      · have := hmm.out
        rw [show j + 1 - 1 = (j - 1) + 1 by omega, Nat.pow_succ]; omega
      · show _ = dv s 1 (j + 1 - 1)
        rw [show j + 1 - 1 = (j - 1) + 1 by omega]
        show _ = dv s 1 (j - 1) * 10 + (g s (1 + (j - 1)) - 48)
        rw [show 1 + (j - 1) = j by omega, hG.out, ← hm.out]
    · have hge : decide ((j : Int) < (s.size : Int) - 1) = false := by simp; omega
      have hjj : Hid (j = s.size - 1) := by show j = s.size - 1; omega
      clear hlt
      go_wp2_with fail
      have hN : (nv s 0 : Int) = (m : Int) := by rw [q4'.out, hm.out, hjj.out, show s.size - 1 - 1 = s.size - 2 by omega]
      rw [hN]
      refine bodyPost_ret (v := howV 1 ((s[0].toNat : Int) - 65) (m : Int) ⟨#[]⟩ ⟨#[]⟩) (by simp [results, Try.results38, go_sem, howV]) rfl ⟨rfl, ?_⟩
      exact (Below.refl _ _).alloc (Nat.le_refl _) _

#print axioms l1How_any
end Go.Proofs.Ytgdhlnfigcaepaa
/-
  A region that draws its order: whatever yields its value in every later world may be taken first; so what makes or writes memory alone comes up, one by one; what waits for all others may write what it likes.
-/
namespace Go.Proofs.Ytgdhlnfigcaepaa
open Go.RowKit

/-- An order of worlds. -/
structure Pre (R : World → World → Prop) : Prop where
  refl : ∀ w, R w w
  trans : ∀ u v w, R u v → R v w → R u w

section
variable {P : Program} {ops : Array Oper} {Q : Exit → Act → World → Prop} {md : Region.Mode} {R : World → World → Prop}

/-- Operation j waits for all others. -/
def waitsB (md : Region.Mode) (ops : Array Oper) (j : Nat) : Bool :=
  (List.range ops.size).all fun k => k == j || ((ops[j]?).map (fun o => o.after.any fun e => Region.binds md e && e.on == k)).getD false

/-- Whatever order is picked from here on, and each operation leads from a world to a later one, but one that waits for all others. -/
def wpAnyR (P : Program) (md : Region.Mode) (ops : Array Oper) (Q : Exit → Act → World → Prop) (R : World → World → Prop) : Nat → Array Bool → Act → World → Prop
  | 0, listed, a, w => Region.ready md ops listed = [] ∧ Q .normal a w
  | fuel + 1, listed, a, w =>
    (Region.ready md ops listed = [] → Q .normal a w) ∧
    ∀ i ∈ Region.ready md ops listed, wpOp P ops Q i (fun a' w' => (waitsB md ops i = true ∧ Region.ready md ops (listed.setIfInBounds i true) = [] ∧ Q .normal a' w') ∨ (R w w' ∧ wpAnyR P md ops Q R fuel (listed.setIfInBounds i true) a' w')) a w

theorem wpAny_of_R : ∀ (fuel : Nat) (listed : Array Bool) (a : Act) (w : World), wpAnyR P md ops Q R fuel listed a w → wpAny P md ops Q fuel listed a w
  | 0, _, _, _, h => h
  | fuel + 1, _, _, _, h => ⟨h.1, fun i hi => wpOp_mono (fun a' w' h' => by
      rcases h' with ⟨_, h1, h2⟩ | h'
      · cases fuel with
        | zero => exact ⟨h1, h2⟩
        | succ f => exact ⟨fun _ => h2, by rw [h1]; simp⟩
      · exact wpAny_of_R fuel _ a' w' h'.2) (h.2 i hi)⟩

theorem YieldsIf.later {S S' : World → Prop} {o : Oper} {v : Value} {a : Act} (h : YieldsIf P ops S o v a) (hs : ∀ w, S' w → S w) : YieldsIf P ops S' o v a :=
  h.imp (fun ⟨hw, hv⟩ => ⟨hw, fun w hS => hv w (hs w hS)⟩) id

theorem waits_spec {j i : Nat} {oj : Oper} (hj : ops[j]? = some oj) (h : waitsB md ops j = true) (hi : i < ops.size) (hne : i ≠ j) : ∃ e ∈ oj.after, Region.binds md e = true ∧ e.on = i := by
  unfold waitsB at h
  rw [List.all_eq_true] at h
  have h1 := h i (by rw [List.mem_range]; exact hi)
  rw [hj] at h1
  simp only [Option.map_some, Option.getD_some, Bool.or_eq_true, beq_iff_eq, hne, false_or, Array.any_eq_true', Bool.and_eq_true] at h1
  exact h1

theorem wpAnyR_first (hP : Pre R) {i : Nat} {oi : Oper} {v : Value} (hi : ops[i]? = some oi) (hsel : ∀ (j : Nat) (o : Oper) cs b, ops[j]? = some o → o.op ≠ .select cs b)
    (hQ : ∀ c a w, Q (.panic c) (a.put oi.dst v) w → Q (.panic c) a w) :
    ∀ (fuel : Nat) (listed : Array Bool) (a : Act) (w : World),
      (∀ j oj, ops[j]? = some oj → j ≠ i → listed.getD j true = false → (∀ e ∈ oj.after, Region.binds md e = true → e.on ≠ i) → oi.apart ops oj = true) →
      i ∈ Region.ready md ops listed → YieldsIf P ops (R w) oi v a →
      wpAnyR P md ops Q R fuel (listed.setIfInBounds i true) (a.put oi.dst v) w → wpAnyR P md ops Q R (fuel + 1) listed a w := by
  intro fuel
  induction fuel with
  | zero =>
    intro listed a w _ hr hy H
    refine ⟨fun h => (by rw [h] at hr; cases hr), fun j hj => ?_⟩
    by_cases hji : j = i
    · subst hji; exact hy.wpOp hi (hP.refl w) (.inr ⟨hP.refl w, H⟩)
    · have := ready_mono hj hji
      rw [H.1] at this
      cases this
  | succ fuel ih =>
    intro listed a w hfree hr hy H
    refine ⟨fun h => (by rw [h] at hr; cases hr), fun j hj => ?_⟩
    by_cases hji : j = i
    · subst hji; exact hy.wpOp hi (hP.refl w) (.inr ⟨hP.refl w, H⟩)
    · have h1 := H.2 j (ready_mono hj hji)
      obtain ⟨hjun, oj, hoj, hall⟩ := mem_ready.1 hj
      have hnot : ∀ e ∈ oj.after, Region.binds md e = true → e.on ≠ i := fun e he hb heq => by
        have h1 := hall e he hb
        have h0 := (mem_ready.1 hr).1
        rw [heq] at h1
        rcases Nat.lt_or_ge i listed.size with h' | h'
        · simp [h'] at h0 h1; rw [h0] at h1; cases h1
        · simp [Array.getElem?_eq_none h'] at h1
      have hnw : ¬ waitsB md ops j = true := fun q => by
        obtain ⟨e, he, hb, heq⟩ := waits_spec hoj q (Array.getElem?_eq_some_iff.1 hi).1 (Ne.symm hji)
        exact hnot e he hb heq
      have h2 := wpOp_putIf hoj (hfree j oj hoj hji hjun hnot) (fun cs b => hsel i oi cs b hi) (fun cs b => hsel j oj cs b hoj) hQ hy h1
      have hfree' : ∀ k ok, ops[k]? = some ok → k ≠ i → (listed.setIfInBounds j true).getD k true = false →
          (∀ e ∈ ok.after, Region.binds md e = true → e.on ≠ i) → oi.apart ops ok = true := fun k ok hk hki hun hno => by
        refine hfree k ok hk hki ?_ hno
        by_cases hjk : j = k
        · subst hjk; exact hjun
        · rw [getD_set_ne true hjk] at hun; exact hun
      refine wpOp_mono (fun a' w' h3 => ?_) h2
      rcases h3.2 with ⟨q, _⟩ | ⟨h4, h5⟩
      · exact absurd q hnw
      refine .inr ⟨h4, ih (listed.setIfInBounds j true) a' w' hfree' (ready_mono hr (Ne.symm hji)) (YieldsIf.later h3.1 (fun u hu => hP.trans _ _ _ h4 hu)) ?_⟩
      rw [Array.setIfInBounds_comm _ _ hji]
      exact h5

/-- Take number i first: it yields v in every later world. -/
theorem ord_take (hP : Pre R) {i d : Nat} {v : Value} {fuel : Nat} {listed : Array Bool} {a : Act} {w : World}
    (hs : Region.noSelect ops = true) (hf : Region.free md ops listed i = true) (hr : (Region.ready md ops listed).contains i = true) (hd : (ops[i]?).bind (·.dst) = some d)
    (hQ : ∀ c a w, Q (.panic c) (a.put (some d) v) w → Q (.panic c) a w)
    (hy : ∀ oi, ops[i]? = some oi → Region.wanted oi (yielded ops a.tmps) = true ∧ ∀ w', R w w' → (execOp a.eval oi).run P w' = .ok (.value v) w')
    (h : wpAnyR P md ops Q R fuel (listed.setIfInBounds i true) (a.put (some d) v) w) : wpAnyR P md ops Q R (fuel + 1) listed a w := by
  cases hi : ops[i]? with
  | none => rw [hi] at hd; cases hd
  | some oi =>
    rw [hi] at hd
    have hd' : oi.dst = some d := hd
    rw [← hd'] at h hQ
    exact wpAnyR_first hP hi (Region.noSelect_spec hs) hQ fuel listed a w (Region.free_spec hi hf) (by simpa using hr) (.inl (hy oi hi)) h
/-- Take number i first: it is not wanted. -/
theorem ord_skip (hP : Pre R) {i d : Nat} {fuel : Nat} {listed : Array Bool} {a : Act} {w : World}
    (hs : Region.noSelect ops = true) (hf : Region.free md ops listed i = true) (hr : (Region.ready md ops listed).contains i = true) (hd : (ops[i]?).bind (·.dst) = some d)
    (hQ : ∀ c a w, Q (.panic c) (a.put (some d) undef) w → Q (.panic c) a w)
    (hy : ((ops[i]?).map fun oi => Region.wanted oi (yielded ops a.tmps)) = some false)
    (h : wpAnyR P md ops Q R fuel (listed.setIfInBounds i true) (a.put (some d) undef) w) : wpAnyR P md ops Q R (fuel + 1) listed a w := by
  cases hi : ops[i]? with
  | none => rw [hi] at hd; cases hd
  | some oi =>
    rw [hi] at hd hy
    have hd' : oi.dst = some d := hd
    rw [← hd'] at h hQ
    exact wpAnyR_first hP hi (Region.noSelect_spec hs) hQ fuel listed a w (Region.free_spec hi hf) (by simpa using hr) (.inr ⟨by simpa using hy, rfl⟩) h
/-- Number i alone comes up. -/
theorem ord_one {i : Nat} {fuel : Nat} {listed : Array Bool} {a : Act} {w : World} (hr : Region.ready md ops listed = [i])
    (h : ∀ oi K, ops[i]? = some oi → Shut (∀ a' w', R w w' → wpAnyR P md ops Q R fuel (listed.setIfInBounds i true) a' w' → K a' w') → Region.wanted oi (yielded ops a.tmps) = true ∧ oi.wp P a w K Q) : wpAnyR P md ops Q R (fuel + 1) listed a w := by
  refine ⟨fun h0 => (by rw [hr] at h0; cases h0), fun j hj => ?_⟩
  rw [hr] at hj
  obtain rfl : j = i := by simpa using hj
  unfold wpOp
  cases hi : ops[j]? with
  | none =>
    have : j ∈ Region.ready md ops listed := by rw [hr]; simp
    obtain ⟨_, o, ho, _⟩ := mem_ready.1 this
    rw [hi] at ho
    cases ho
  | some oi =>
    obtain ⟨hw, hwp⟩ := h oi (fun a' w' => (waitsB md ops j = true ∧ Region.ready md ops (listed.setIfInBounds j true) = [] ∧ Q .normal a' w') ∨ (R w w' ∧ wpAnyR P md ops Q R fuel (listed.setIfInBounds j true) a' w')) hi (fun a' w' hl hk => .inr (And.intro hl hk))
    simp only [hw, if_true]
    exact .inl hwp
/-- Number i comes up last: it waits for all others. -/
theorem ord_last {i : Nat} {fuel : Nat} {listed : Array Bool} {a : Act} {w : World} (hr : Region.ready md ops listed = [i]) (hwt : waitsB md ops i = true) (he : Region.ready md ops (listed.setIfInBounds i true) = [])
    (h : ∀ oi K, ops[i]? = some oi → Shut (∀ a' w', Q .normal a' w' → K a' w') → Region.wanted oi (yielded ops a.tmps) = true ∧ oi.wp P a w K Q) : wpAnyR P md ops Q R (fuel + 1) listed a w := by
  refine ⟨fun h0 => (by rw [hr] at h0; cases h0), fun j hj => ?_⟩
  rw [hr] at hj
  obtain rfl : j = i := by simpa using hj
  unfold wpOp
  cases hi : ops[j]? with
  | none =>
    have : j ∈ Region.ready md ops listed := by rw [hr]; simp
    obtain ⟨_, o, ho, _⟩ := mem_ready.1 this
    rw [hi] at ho
    cases ho
  | some oi =>
    obtain ⟨hw, hwp⟩ := h oi (fun a' w' => (waitsB md ops j = true ∧ Region.ready md ops (listed.setIfInBounds j true) = [] ∧ Q .normal a' w') ∨ (R w w' ∧ wpAnyR P md ops Q R fuel (listed.setIfInBounds j true) a' w')) hi (fun a' w' hl => .inl ⟨hwt, he, hl⟩)
    simp only [hw, if_true]
    exact .inl hwp
/-- All have come up. -/
theorem later_done {listed : Array Bool} {a : Act} {w : World} (hr : Region.ready md ops listed = []) (h : Q .normal a w) : ∀ fuel, wpAnyR P md ops Q R fuel listed a w
  | 0 => ⟨hr, h⟩
  | _ + 1 => ⟨fun _ => h, by rw [hr]; simp⟩
/-- The beginning. -/
theorem wp_region_ord (R : World → World → Prop) {id : Nat} {a : Act} {w : World} (hm : P.follows .mixedOrders = true)
    (h : wpAnyR P .any ops Q R ops.size (Array.replicate ops.size false) a w.drew) : (Code.region id ops true).wp P Q a w :=
  wp_region_any hm (wpAny_of_R _ _ _ _ h)
end

/-- Later worlds: what was there is as it was. -/
def Later (w w' : World) : Prop := Below w.heap.size w w'
theorem laterPre : Pre Later := ⟨fun _ => Below.refl _ _, fun _ _ _ h k => Below.trans h (Below.mono k h.size)⟩
/-- Worlds in which what lay below B is as it was. -/
theorem belowPre (B : Nat) : Pre (Below B) := ⟨fun _ => Below.refl _ _, fun _ _ _ h k => Below.trans h k⟩

section
variable {P : Program} {ops : Array Oper} {Q : Exit → Act → World → Prop} {md : Region.Mode}
theorem later_take {i d : Nat} {v : Value} {fuel : Nat} {listed : Array Bool} {a : Act} {w : World}
    (hs : Region.noSelect ops = true) (hf : Region.free md ops listed i = true) (hr : (Region.ready md ops listed).contains i = true) (hd : (ops[i]?).bind (·.dst) = some d)
    (hQ : ∀ c a w, Q (.panic c) (a.put (some d) v) w → Q (.panic c) a w)
    (hy : ∀ oi, ops[i]? = some oi → Region.wanted oi (yielded ops a.tmps) = true ∧ ∀ w', Later w w' → (execOp a.eval oi).run P w' = .ok (.value v) w')
    (h : wpAnyR P md ops Q Later fuel (listed.setIfInBounds i true) (a.put (some d) v) w) : wpAnyR P md ops Q Later (fuel + 1) listed a w := ord_take laterPre hs hf hr hd hQ hy h
theorem later_skip {i d : Nat} {fuel : Nat} {listed : Array Bool} {a : Act} {w : World}
    (hs : Region.noSelect ops = true) (hf : Region.free md ops listed i = true) (hr : (Region.ready md ops listed).contains i = true) (hd : (ops[i]?).bind (·.dst) = some d)
    (hQ : ∀ c a w, Q (.panic c) (a.put (some d) undef) w → Q (.panic c) a w)
    (hy : ((ops[i]?).map fun oi => Region.wanted oi (yielded ops a.tmps)) = some false)
    (h : wpAnyR P md ops Q Later fuel (listed.setIfInBounds i true) (a.put (some d) undef) w) : wpAnyR P md ops Q Later (fuel + 1) listed a w := ord_skip laterPre hs hf hr hd hQ hy h
theorem later_one {i : Nat} {fuel : Nat} {listed : Array Bool} {a : Act} {w : World} (hr : Region.ready md ops listed = [i])
    (h : ∀ oi K, ops[i]? = some oi → Shut (∀ a' w', Later w w' → wpAnyR P md ops Q Later fuel (listed.setIfInBounds i true) a' w' → K a' w') → Region.wanted oi (yielded ops a.tmps) = true ∧ oi.wp P a w K Q) : wpAnyR P md ops Q Later (fuel + 1) listed a w := ord_one hr h
theorem wp_region_later {id : Nat} {a : Act} {w : World} (hm : P.follows .mixedOrders = true)
    (h : wpAnyR P .any ops Q Later ops.size (Array.replicate ops.size false) a w.drew) : (Code.region id ops true).wp P Q a w := wp_region_ord Later hm h
end
#print axioms wp_region_later
end Go.Proofs.Ytgdhlnfigcaepaa
/-
  A region that draws its order: two that make memory may come up, one ahead of the other.
-/
namespace Go.Proofs.Ytgdhlnfigcaepaa
open Go.RowKit
section
variable {P : Program} {ops : Array Oper} {Q : Exit → Act → World → Prop} {md : Region.Mode} {R : World → World → Prop}
theorem ord_two {i j : Nat} {fuel : Nat} {listed : Array Bool} {a : Act} {w : World} (hr : Region.ready md ops listed = [i, j])
    (h : ∀ oi K, ops[i]? = some oi → Shut (∀ a' w', R w w' → wpAnyR P md ops Q R fuel (listed.setIfInBounds i true) a' w' → K a' w') → Region.wanted oi (yielded ops a.tmps) = true ∧ oi.wp P a w K Q)
    (k : ∀ oi K, ops[j]? = some oi → Shut (∀ a' w', R w w' → wpAnyR P md ops Q R fuel (listed.setIfInBounds j true) a' w' → K a' w') → Region.wanted oi (yielded ops a.tmps) = true ∧ oi.wp P a w K Q) : wpAnyR P md ops Q R (fuel + 1) listed a w := by
  refine ⟨fun h0 => (by rw [hr] at h0; cases h0), fun z hz => ?_⟩
  have step : ∀ z, z ∈ Region.ready md ops listed → (∀ oi K, ops[z]? = some oi → Shut (∀ a' w', R w w' → wpAnyR P md ops Q R fuel (listed.setIfInBounds z true) a' w' → K a' w') → Region.wanted oi (yielded ops a.tmps) = true ∧ oi.wp P a w K Q) →
      wpOp P ops Q z (fun a' w' => (waitsB md ops z = true ∧ Region.ready md ops (listed.setIfInBounds z true) = [] ∧ Q .normal a' w') ∨ (R w w' ∧ wpAnyR P md ops Q R fuel (listed.setIfInBounds z true) a' w')) a w := by
    intro z hm hh
    unfold wpOp
    cases hi : ops[z]? with
    | none =>
      obtain ⟨_, o, ho, _⟩ := mem_ready.1 hm
      rw [hi] at ho
      cases ho
    | some oi =>
      obtain ⟨hw, hwp⟩ := hh oi (fun a' w' => (waitsB md ops z = true ∧ Region.ready md ops (listed.setIfInBounds z true) = [] ∧ Q .normal a' w') ∨ (R w w' ∧ wpAnyR P md ops Q R fuel (listed.setIfInBounds z true) a' w')) hi (fun a' w' hl hk => .inr (And.intro hl hk))
      simp only [hw, if_true]
      exact .inl hwp
  rw [hr] at hz
  rcases (by simpa using hz : z = i ∨ z = j) with rfl | rfl
  · exact step z (by rw [hr]; simp) h
  · exact step z (by rw [hr]; simp) k
theorem later_two {i j : Nat} {fuel : Nat} {listed : Array Bool} {a : Act} {w : World} (hr : Region.ready md ops listed = [i, j])
    (h : ∀ oi K, ops[i]? = some oi → Shut (∀ a' w', Later w w' → wpAnyR P md ops Q Later fuel (listed.setIfInBounds i true) a' w' → K a' w') → Region.wanted oi (yielded ops a.tmps) = true ∧ oi.wp P a w K Q)
    (k : ∀ oi K, ops[j]? = some oi → Shut (∀ a' w', Later w w' → wpAnyR P md ops Q Later fuel (listed.setIfInBounds j true) a' w' → K a' w') → Region.wanted oi (yielded ops a.tmps) = true ∧ oi.wp P a w K Q) : wpAnyR P md ops Q Later (fuel + 1) listed a w := ord_two hr h k
end
end Go.Proofs.Ytgdhlnfigcaepaa
