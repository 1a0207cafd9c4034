/-
  Proved: at every code the law FnWinOrder returns true (a window that takes numbers one behind the other, rising, takes each; and in any order, if none is FraWide behind the greatest, each once), and nothing that was there is written. No condition.
-/
import Derived.Test.YtgdhlnfigcaepaaFnWinOrderB1
import Derived.Test.YtgdhlnfigcaepaaFnWinOrderB6
import Derived.Test.YtgdhlnfigcaepaaFnWinOrderB7
namespace Go.Proofs.Ytgdhlnfigcaepaa
open Go.ChangeShapes Go.WideShapes Go.ChangeAt Go.RowKit
open Go.ChangeMaps (open_string shut_string)
set_option linter.unusedVariables false

theorem order_key : Kw.ok (mkSay ⟨#[65, 49, 59]⟩ 0) = true ∧ mOp (mkSay ⟨#[65, 49, 59]⟩ 0) = 5 := by decide +kernel
theorem order_one {key : ByteArray} {n : Int} (hk : Kw.ok key = true ∧ mOp key = 5) (hn : 1 ≤ n ∧ n ≤ 999) : winOk ⟨key, n, [n]⟩ = true := by
  refine win_of hk.1 hk.2 hn (falls_all (by simp) rfl fun j hj h1 => ?_)
  simp at hj
  omega
theorem winTake_in {x : Win} {n : Int} (hx : winOk x = true) (hn : 1 ≤ n ∧ n ≤ 999) : winTake x n = takeW x n := by
  unfold winTake
  rw [if_pos ⟨hx, by unfold inB; simp; exact hn⟩]
theorem take_new {x : Win} {n : Int} (h : lateB x n = false) : takeW x n = (tookW x n, true) := by unfold takeW; rw [h]; rfl
theorem take_late {x : Win} {n : Int} (h : lateB x n = true) : takeW x n = (x, false) := by unfold takeW; rw [h]; rfl
theorem late_of {x : Win} {n : Int} (h1 : x.top - 8 < n) (h2 : n ∉ x.seen) : lateB x n = false := by unfold lateB; rw [decide_eq_false (by omega), decide_eq_false h2]; rfl
/-- A greater number is taken. -/
theorem rise {x : Win} {n : Int} (hx : winOk x = true) (hn : 1 ≤ n ∧ n ≤ 999) (h : x.top < n) : ∃ y : Win, winTake x n = (y, true) ∧ winOk y = true ∧ y.top = n ∧ y.key = x.key := by
  obtain ⟨_, _, h3, h4⟩ := win_facts hx
  have hl : lateB x n = false := late_of (by omega) (fun q => by have := falls_in h4 h3.1 n q; omega)
  refine ⟨tookW x n, by rw [winTake_in hx hn, take_new hl], (took_facts hx hn hl).1, ?_, rfl⟩
  unfold tookW
  simp only
  omega
/-- A number that is far behind is not taken. -/
theorem far {x : Win} {n : Int} (hx : winOk x = true) (hn : 1 ≤ n ∧ n ≤ 999) (h : n ≤ x.top - 8) : winTake x n = (x, false) := by
  rw [winTake_in hx hn, take_late (by unfold lateB; rw [decide_eq_true h]; rfl)]
/-- A number that lies behind the greatest is taken once. -/
theorem fall {x : Win} {n : Int} (hx : winOk x = true) (hn : 1 ≤ n ∧ n ≤ 999) (h : x.top - 8 < n) (h2 : n ≤ x.top) (hs : ∀ m ∈ x.seen, n < m) :
    ∃ y : Win, winTake x n = (y, true) ∧ winOk y = true ∧ y.top = x.top ∧ y.key = x.key ∧ winTake y n = (y, false) ∧ ∀ m ∈ y.seen, n ≤ m := by
  have hl : lateB x n = false := late_of h (fun q => by have := hs n q; omega)
  obtain ⟨f1, f2⟩ := took_facts hx hn hl
  refine ⟨tookW x n, by rw [winTake_in hx hn, take_new hl], f1, by unfold tookW; simp only; omega, rfl, ?_, ?_⟩
  · rw [winTake_in f1 hn, take_late]
    unfold lateB
    rw [decide_eq_true ((f2 n).2 (.inl rfl)), Bool.or_true]
  · intro m hm
    rcases (f2 m).1 hm with q | ⟨q, _⟩
    · omega
    · have := hs m q; omega
/-- A window lies in a block. -/
structure WinAt (B : Nat) (wr : World) (b : Nat) (x : Win) (v : Value) : Prop where
  blk : Blk wr b 35 (x.cells v)
  row : OwnI B wr v x.seen
  ok : winOk x = true
theorem WinAt.below {B : Nat} {w w' : World} {b : Nat} {x : Win} {v : Value} (h : WinAt B w b x v) (hb : Below w.heap.size w w') : WinAt B w' b x v := ⟨h.blk.below hb, OwnI.below h.row hb, h.ok⟩
theorem WinAt.len {B : Nat} {w : World} {b : Nat} {x : Win} {v : Value} (h : WinAt B w b x v) : x.seen.length ≤ 8 := falls_len (win_facts h.ok).2.2.2 (win_facts h.ok).2.2.1.1
theorem WinAt.alloc {B : Nat} {w : World} {b : Nat} {x : Win} {v : Value} (h : WinAt B w b x v) (o : Obj) : WinAt B (w.alloc o) b x v := h.below ((Below.refl _ _).alloc (Nat.le_refl _) o)
theorem WinAt.other {B : Nat} {w : World} {b b' : Nat} {x : Win} {v : Value} {cs : Array Value} (h : WinAt B w b x v) (hx : Blk w b' 35 cs) (hne : b ≠ b') (ds : Array Value) : WinAt B (w.setRow b' ds) b x v := ⟨h.blk.other hne ds, row_blk h.row hx (by decide) ds, h.ok⟩
theorem IRow.setRow {w : World} {v : Value} {xs : List Int} {b : Nat} {t : TypeId} {cs : Array Value} {B : Nat} (h : OwnI B w v xs) (hx : Blk w b t cs) (hte : t ≠ 3) (ds : Array Value) : OwnI B (w.setRow b ds) v xs := row_blk h hx hte ds

set_option maxRecDepth 100000 in
set_option maxHeartbeats 2000000 in
theorem walk_FnWinOrder (a0 : Option Addr) (len0 cap0 : Nat) (z0 : List Int) (w : World) (w0 : IsRow .u8 w a0 len0 cap0 z0) :
    Calls Try.prog 10 #[.slice a0 len0 cap0] w fun e w' => e = .returned (.bool true) ∧ Below w.heap.size w w' := by
  clear w0
  by_cases h : (1048576 : Int) < (len0 : Int)
  · go_enter Try.func10, Try.ntmps10
    go_wp2_with fail
    go_ret
    exact ⟨rfl, Below.refl _ _⟩
  have h2 : decide ((1048576 : Int) < (len0 : Int)) = false := by simpa using h
  obtain ⟨F, hF⟩ : ∃ F : Int, F = 1 + (len0 : Int) % 900 := ⟨_, rfl⟩
  have hF1 : 1 ≤ F ∧ F ≤ 900 := by omega
  have i1 : (len0 : Int).tmod 900 = (len0 : Int) % 900 := Int.tmod_eq_emod_of_nonneg (by omega)
  have i2 : IntKind.i64.wrap ((len0 : Int) % 900) = (len0 : Int) % 900 := by simp [IntKind.wrap, IntKind.bits, IntKind.signed]; omega
  have i3 : IntKind.i64.wrap (1 + (len0 : Int) % 900) = F := by rw [← hF]; simp [IntKind.wrap, IntKind.bits, IntKind.signed]; omega
  have HK := hide order_key
  have MK : Hid ((⟨#[65, 49, 59]⟩ : ByteArray).size ≤ maxLen) := le_maxLen (by decide)
  clear h hF
  go_enter Try.func10, Try.ntmps10
  go_wp2_with fail
  refine (iMakSay_any ⟨#[65, 49, 59]⟩ 0 _ MK.out).mono ?_
  obtain ⟨key, hke⟩ : ∃ key, mkSay ⟨#[65, 49, 59]⟩ 0 = key := ⟨_, rfl⟩
  rw [hke] at HK ⊢
  have HKE := hide hke
  clear hke
  rintro e w1 ⟨rfl, hb⟩
  have HB := hide hb
  clear hb i1 i2 i3
  have O1 : Hid (OwnI w.heap.size (w1.alloc (.cells #[.int .i64 F] 3)) (.slice (some ⟨w1.heap.size, 0, none⟩) 1 1) [F]) := World.ownsRow_lit (base := w.heap.size) (e := 3) (size := 1) _ #[.int .i64 F] 1 HB.out.size (by unfold maxLen; omega) rfl
  replace HB := hide (HB.out.alloc HB.out.size (.cells #[.int .i64 F] 3))
  have hwb := HB.out.size
  have KS : Hid (key.size ≤ 300) := (ok_facts HK.out.1).1
  have X0 : Hid (WinAt w.heap.size ((w1.alloc (.cells #[.int .i64 F] 3)).alloc (.cells (winC key F (.slice (some ⟨w1.heap.size, 0, none⟩) 1 1)) 35)) (w1.alloc (.cells #[.int .i64 F] 3)).heap.size ⟨key, F, [F]⟩ (.slice (some ⟨w1.heap.size, 0, none⟩) 1 1)) :=
    ⟨Blk.new _ _ _, World.ownsRow.alloc (unhide O1) _, order_one HK.out (by omega)⟩
  replace HB := hide (HB.out.alloc HB.out.size (.cells (winC key F (.slice (some ⟨w1.heap.size, 0, none⟩) 1 1)) 35))
  simp only [World.size_alloc] at X0 hwb
  clear O1
  go_wp2_with fail
  generalize ((w1.alloc (.cells #[.int .i64 F] 3)).alloc (.cells (winC key F (.slice (some ⟨w1.heap.size, 0, none⟩) 1 1)) 35)) = W1 at *
  have X0' : Hid (∃ (x : Win) (v : Value), WinAt w.heap.size W1 (w1.heap.size + 1) x v ∧ (∃ vo vn vc, v = .slice vo vn vc) ∧ x.key = key ∧ x.top = F + 1 - 1) := ⟨_, _, unhide X0, ⟨_, _, _, rfl⟩, rfl, by simp only; omega⟩
  generalize w1.heap.size + 1 = wb at *
  clear X0
  go_loopw [5] (fun i wr => ∃ k : Nat, 1 ≤ k ∧ k ≤ 20 ∧ i = .int .i64 (k : Int) ∧ Hid (∃ (x : Win) (v : Value), WinAt w.heap.size wr wb x v ∧ (∃ vo vn vc, v = .slice vo vn vc) ∧ x.key = key ∧ x.top = F + k - 1) ∧ Hid (Below w.heap.size w wr)) (fun i _ => 20 - (intOf i).toNat)
  case atStart => exact ⟨1, by omega, by omega, rfl, X0', HB⟩
  case round =>
    clear X0' HB
    obtain ⟨k, hk1, hk, rfl, hX, HB⟩ := hrel
    generalize wr = w2 at *
    obtain ⟨⟨xk, xt, xs⟩, _, hXA, ⟨vo, vn, vc, rfl⟩, hxk, hxt⟩ := hX
    simp only at hxk hxt
    subst hxk
    have X := hide hXA
    have hlen := hXA.len
    simp only at hlen
    clear hXA
    have c0 := (unhide X).blk.cell 0
    have c1 := (unhide X).blk.cell 1
    have c2 := (unhide X).blk.cell 2
    simp only [List.getElem?_toArray, List.getElem?_cons_zero, List.getElem?_cons_succ] at c0 c1 c2
    have i1 : IntKind.i64.wrap (F + (k : Int)) = F + (k : Int) := by simp [IntKind.wrap, IntKind.bits, IntKind.signed]; omega
    have i4 : IntKind.i64.wrap ((k : Int) + 1) = (k : Int) + 1 := by simp [IntKind.wrap, IntKind.bits, IntKind.signed]; omega
    have MX : Hid (xk.size ≤ maxLen) := le_maxLen (by have := KS.out; omega)
    by_cases hlt : k < 20
    · have hlt2 : (k : Int) < 20 := by omega
      obtain ⟨⟨yk, yt, ys⟩, y1, y2, y3, y4⟩ := rise (n := F + (k : Int)) (unhide X).ok (by omega) (by simp only; omega)
      simp only at y3 y4
      subst y4
      have Y1 := hide y1
      have Y2 := hide y2
      have Y3 := hide y3
      clear y3 hxt
      have HR := hide (OwnI.irow (unhide X).row)
      have ylen : ys.length ≤ 8 := falls_len (win_facts y2).2.2.2 (win_facts y2).2.2.1.1
      clear y1 y2
      go_wp2_with fail
      refine (iWinTake_any ⟨yk, xt, xs⟩ _ (F + (k : Int)) _ (unhide HR) MX.out (by simp only; omega)).mono ?_
      rw [Y1.out]
      simp only
      rintro e w3 ⟨v3, rfl, ho, hb⟩
      obtain ⟨o3, n3, rfl⟩ := row_form' ho
      have O3 : Hid (OwnI w.heap.size w3 (.slice o3 ys.length n3) ys) := row_lowB ho HB.out.size
      replace X := hide ((unhide X).blk.below hb)
      replace HB := hide (HB.out.trans (hb.mono HB.out.size))
      clear hb ho c0 c1 c2 HR
      have G := hide (Blk.new w3 35 (winC yk yt (.slice o3 ys.length n3)))
      replace X := hide ((unhide X).alloc (.cells (winC yk yt (.slice o3 ys.length n3)) 35))
      replace O3 : Hid (OwnI w.heap.size (w3.alloc (.cells (winC yk yt (.slice o3 ys.length n3)) 35)) (.slice o3 ys.length n3) ys) := World.ownsRow.alloc (unhide O3) _
      replace HB := hide (HB.out.alloc HB.out.size (.cells (winC yk yt (.slice o3 ys.length n3)) 35))
      have L1 := hide (load_wi (unhide G) rfl)
      go_wp2_with (first | refine wpList_load_whole rfl 35 _ rfl ⟨w3.heap.size, 0, none⟩ rfl _ (by exact unhide L1) ?_ | refine wpList_store_whole rfl 35 (.tmp 4) (.tmp 42) rfl wb (winC yk yt (.slice o3 ys.length n3)) ?hx1 ?hy1 35 (winC yk xt (.slice vo vn vc)) ?hb1 ?hi1 ?ho1 ?h11 ?h1)
      any_goals (first | rfl | exact unhide X | exact info_wi | exact one_wi _ _ _ _ _)
      generalize w3.alloc (.cells (winC yk yt (.slice o3 ys.length n3)) 35) = W3 at *
      have X4 : Hid (∃ (x : Win) (v : Value), WinAt w.heap.size (W3.setRow wb (winC yk yt (.slice o3 ys.length n3))) wb x v ∧ (∃ vo vn vc, v = .slice vo vn vc) ∧ x.key = yk ∧ x.top = F + ((k + 1 : Nat) : Int) - 1) := ⟨⟨yk, yt, ys⟩, _, ⟨(unhide X).set _, IRow.setRow (unhide O3) (unhide X) (by decide) _, Y2.out⟩, ⟨_, _, _, rfl⟩, rfl, by have := Y3.out; simp only; omega⟩
      have HB4 := hide (below_blk HB.out hwb (winC yk yt (.slice o3 ys.length n3)))
      clear X O3 HB L1 G
      go_wp2_with fail
      go_roundw
      case rel => exact ⟨k + 1, by omega, by omega, by simp, X4, HB4⟩
      case measure => simp [intOf]; omega
    · have hlt2 : decide ((k : Int) < 20) = false := by simp; omega
      obtain rfl : k = 20 := by omega
      clear c0 c1 c2 i1 i4 hlt hlt2
      have HXT2 : Hid (xt = F + 19) := by show _ = _; omega
      have i7 : IntKind.i64.wrap (F + 7) = F + 7 := by simp [IntKind.wrap, IntKind.bits, IntKind.signed]; omega
      have hdl : decide ((20 : Int) < 20) = false := by decide
      rw [show ((20 : Nat) : Int) = 20 from rfl]
      clear hxt
      go_wp2_with fail
      refine (iMakSay_any ⟨#[65, 49, 59]⟩ 0 _ MK.out).mono ?_
      rw [HKE.out]
      rintro e w3 ⟨rfl, hb⟩
      replace X := hide ((unhide X).below hb)
      replace HB := hide (HB.out.trans (hb.mono HB.out.size))
      clear hb
      have O1 : Hid (OwnI w.heap.size (w3.alloc (.cells #[.int .i64 (F + 7)] 3)) (.slice (some ⟨w3.heap.size, 0, none⟩) 1 1) [F + 7]) := World.ownsRow_lit (base := w.heap.size) (e := 3) (size := 1) _ #[.int .i64 (F + 7)] 1 HB.out.size (by unfold maxLen; omega) rfl
      replace X := hide ((unhide X).alloc (.cells #[.int .i64 (F + 7)] 3))
      replace HB := hide (HB.out.alloc HB.out.size (.cells #[.int .i64 (F + 7)] 3))
      have V0 : Hid (WinAt w.heap.size ((w3.alloc (.cells #[.int .i64 (F + 7)] 3)).alloc (.cells (winC xk (F + 7) (.slice (some ⟨w3.heap.size, 0, none⟩) 1 1)) 35)) (w3.alloc (.cells #[.int .i64 (F + 7)] 3)).heap.size ⟨xk, F + 7, [F + 7]⟩ (.slice (some ⟨w3.heap.size, 0, none⟩) 1 1)) :=
        ⟨Blk.new _ _ _, World.ownsRow.alloc (unhide O1) _, order_one HK.out (by omega)⟩
      have hvl : wb < (w3.alloc (.cells #[.int .i64 (F + 7)] 3)).heap.size := (unhide X).blk.lt
      replace X := hide ((unhide X).alloc (.cells (winC xk (F + 7) (.slice (some ⟨w3.heap.size, 0, none⟩) 1 1)) 35))
      replace HB := hide (HB.out.alloc HB.out.size (.cells (winC xk (F + 7) (.slice (some ⟨w3.heap.size, 0, none⟩) 1 1)) 35))
      simp only [World.size_alloc] at V0 hvl
      clear O1 i7
      go_wp2_with fail
      generalize ((w3.alloc (.cells #[.int .i64 (F + 7)] 3)).alloc (.cells (winC xk (F + 7) (.slice (some ⟨w3.heap.size, 0, none⟩) 1 1)) 35)) = W3 at *
      have V0' : Hid (∃ (x : Win) (v : Value), WinAt w.heap.size W3 (w3.heap.size + 1) x v ∧ (∃ vo vn vc, v = .slice vo vn vc) ∧ x.key = xk ∧ x.top = F + 7 ∧ ∀ m ∈ x.seen, F + 6 < m) := ⟨_, _, unhide V0, ⟨_, _, _, rfl⟩, rfl, rfl, fun m hm => by simp at hm; omega⟩
      generalize w3.heap.size + 1 = vb at *
      clear V0
      go_loopw [9] (fun i wr => ∃ j : Int, -1 ≤ j ∧ j ≤ 6 ∧ i = .int .i64 j ∧ Hid (WinAt w.heap.size wr wb ⟨xk, xt, xs⟩ (.slice vo vn vc)) ∧ Hid (∃ (x : Win) (v : Value), WinAt w.heap.size wr vb x v ∧ (∃ vo vn vc, v = .slice vo vn vc) ∧ x.key = xk ∧ x.top = F + 7 ∧ ∀ m ∈ x.seen, F + j < m) ∧ Hid (Below w.heap.size w wr)) (fun i _ => (intOf i + 1).toNat)
      case atStart => exact ⟨6, by omega, by omega, rfl, X, V0', HB⟩
      case round =>
        clear X V0' HB
        obtain ⟨j, hj1, hj, rfl, X, hV, HB⟩ := hrel
        generalize wr = w4 at *
        obtain ⟨⟨yk, yt, ys⟩, _, hVA, ⟨uo, un, uc, rfl⟩, hyk, hyt, hys⟩ := hV
        simp only at hyk hyt hys
        subst hyk
        have V := hide hVA
        have hylen := hVA.len
        simp only at hylen
        have HYS := hide hys
        have HYT := hide hyt
        clear hVA hys hyt
        by_cases hge : 0 ≤ j
        · have i1 : IntKind.i64.wrap (F + j) = F + j := by simp [IntKind.wrap, IntKind.bits, IntKind.signed]; omega
          have i2 : IntKind.i64.wrap (j - 1) = j - 1 := by simp [IntKind.wrap, IntKind.bits, IntKind.signed]; omega
          obtain ⟨⟨gk, gt, gs⟩, g1, g2, g3, g4, g5, g6⟩ := fall (n := F + j) (unhide V).ok (by omega) (by have := HYT.out; simp only; omega) (by have := HYT.out; simp only; omega) (by simp only; exact HYS.out)
          simp only at g3 g4 g6
          subst g4
          have G1 := hide g1
          have G2 := hide g2
          have G3 := hide g3
          clear g3
          have G5 := hide g5
          have G6 := hide g6
          have HR := hide (OwnI.irow (unhide V).row)
          have glen : gs.length ≤ 8 := falls_len (win_facts g2).2.2.2 (win_facts g2).2.2.1.1
          have c0 := (unhide V).blk.cell 0
          have c1 := (unhide V).blk.cell 1
          have c2 := (unhide V).blk.cell 2
          simp only [List.getElem?_toArray, List.getElem?_cons_zero, List.getElem?_cons_succ] at c0 c1 c2
          clear g1 g2 g5 g6
          go_wp2_with fail
          refine (iWinTake_any ⟨gk, yt, ys⟩ _ (F + j) _ (unhide HR) MX.out (by simp only; omega)).mono ?_
          rw [G1.out]
          simp only
          rintro e w5 ⟨v5, rfl, ho, hb⟩
          obtain ⟨o5, n5, rfl⟩ := row_form' ho
          have O5 : Hid (OwnI w.heap.size w5 (.slice o5 gs.length n5) gs) := row_lowB ho HB.out.size
          replace X := hide ((unhide X).below hb)
          replace V := hide ((unhide V).below hb)
          replace HB := hide (HB.out.trans (hb.mono HB.out.size))
          clear hb ho c0 c1 c2 HR
          have G := hide (Blk.new w5 35 (winC gk gt (.slice o5 gs.length n5)))
          replace X := hide ((unhide X).alloc (.cells (winC gk gt (.slice o5 gs.length n5)) 35))
          replace V := hide ((unhide V).alloc (.cells (winC gk gt (.slice o5 gs.length n5)) 35))
          replace O5 : Hid (OwnI w.heap.size (w5.alloc (.cells (winC gk gt (.slice o5 gs.length n5)) 35)) (.slice o5 gs.length n5) gs) := World.ownsRow.alloc (unhide O5) _
          replace HB := hide (HB.out.alloc HB.out.size (.cells (winC gk gt (.slice o5 gs.length n5)) 35))
          have c0 := (unhide G).cell 0
          have c1 := (unhide G).cell 1
          have c2 := (unhide G).cell 2
          simp only [List.getElem?_toArray, List.getElem?_cons_zero, List.getElem?_cons_succ] at c0 c1 c2
          go_wp2_with fail
          clear c0 c1 c2
          generalize w5.alloc (.cells (winC gk gt (.slice o5 gs.length n5)) 35) = W5 at *
          generalize w5.heap.size = gb at *
          refine (iWinTake_any ⟨gk, gt, gs⟩ _ (F + j) _ (unhide O5).irow MX.out (by simp only; omega)).mono ?_
          rw [G5.out]
          simp only
          rintro e w6 ⟨v6, rfl, ho, hb⟩
          obtain ⟨o6, n6, rfl⟩ := row_form' ho
          replace X := hide ((unhide X).below hb)
          replace V := hide ((unhide V).below hb)
          replace G := hide ((unhide G).below hb)
          replace O5 := hide (OwnI.below (unhide O5) hb)
          replace HB := hide (HB.out.trans (hb.mono HB.out.size))
          clear hb ho
          replace X := hide ((unhide X).alloc (.cells (winC gk gt (.slice o6 gs.length n6)) 35))
          replace V := hide ((unhide V).alloc (.cells (winC gk gt (.slice o6 gs.length n6)) 35))
          replace G := hide ((unhide G).alloc (.cells (winC gk gt (.slice o6 gs.length n6)) 35))
          replace O5 : Hid (OwnI w.heap.size (w6.alloc (.cells (winC gk gt (.slice o6 gs.length n6)) 35)) (.slice o5 gs.length n5) gs) := World.ownsRow.alloc (unhide O5) _
          replace HB := hide (HB.out.alloc HB.out.size (.cells (winC gk gt (.slice o6 gs.length n6)) 35))
          have L1 := hide (load_wi (unhide G) rfl)
          have VB := hide (unhide V).blk
          go_wp2_with (first | refine wpList_load_whole rfl 35 _ rfl ⟨gb, 0, none⟩ rfl _ (by exact unhide L1) ?_ | refine wpList_store_whole rfl 35 (.tmp 8) (.tmp 75) rfl vb (winC gk gt (.slice o5 gs.length n5)) ?hx2 ?hy2 35 (winC gk yt (.slice uo un uc)) ?hb2 ?hi2 ?ho2 ?h12 ?h2)
          any_goals (first | rfl | exact unhide VB | exact info_wi | exact one_wi _ _ _ _ _)
          generalize w6.alloc (.cells (winC gk gt (.slice o6 gs.length n6)) 35) = W6 at *
          have V7 : Hid (∃ (x : Win) (v : Value), WinAt w.heap.size (W6.setRow vb (winC gk gt (.slice o5 gs.length n5))) vb x v ∧ (∃ vo vn vc, v = .slice vo vn vc) ∧ x.key = gk ∧ x.top = F + 7 ∧ ∀ m ∈ x.seen, F + (j - 1) < m) := ⟨⟨gk, gt, gs⟩, _, ⟨(unhide VB).set _, row_blk (unhide O5) (unhide VB) (by decide) _, G2.out⟩, ⟨_, _, _, rfl⟩, rfl, by have := G3.out; have := HYT.out; simp only; omega, fun m hm => by have := G6.out m hm; omega⟩
          have X7 := hide ((unhide X).other (unhide VB) (by omega) (winC gk gt (.slice o5 gs.length n5)))
          have HB7 := hide (below_blk HB.out (b := vb) (by omega) (winC gk gt (.slice o5 gs.length n5)))
          clear X V VB O5 HB L1 G
          go_wp2_with fail
          go_roundw
          case rel => exact ⟨j - 1, by omega, by omega, rfl, X7, V7, HB7⟩
          case measure => simp [intOf]; omega
        · have hge2 : decide (0 ≤ j) = false := by simp; omega
          clear hge
          have HFR := hide (far (n := F) (unhide X).ok (by omega) (by have := HXT2.out; simp only; omega))
          have HR := hide (OwnI.irow (unhide X).row)
          have XL : Hid (xs.length ≤ 8) := (unhide X).len
          have c0 := (unhide X).blk.cell 0
          have c1 := (unhide X).blk.cell 1
          have c2 := (unhide X).blk.cell 2
          simp only [List.getElem?_toArray, List.getElem?_cons_zero, List.getElem?_cons_succ] at c0 c1 c2
          go_wp2_with fail
          refine (iWinTake_any ⟨yk, xt, xs⟩ _ F _ (unhide HR) MX.out (by have := XL.out; simp only; omega)).mono ?_
          rw [HFR.out]
          simp only
          rintro e w5 ⟨v5, rfl, ho, hb⟩
          obtain ⟨o5, n5, rfl⟩ := row_form' ho
          replace X := hide ((unhide X).below hb)
          replace V := hide ((unhide V).below hb)
          replace HB := hide (HB.out.trans (hb.mono HB.out.size))
          clear hb ho c0 c1 c2 HR
          replace X := hide ((unhide X).alloc (.cells (winC yk xt (.slice o5 xs.length n5)) 35))
          replace V := hide ((unhide V).alloc (.cells (winC yk xt (.slice o5 xs.length n5)) 35))
          replace HB := hide (HB.out.alloc HB.out.size (.cells (winC yk xt (.slice o5 xs.length n5)) 35))
          have c0 := (unhide X).blk.cell 0
          have c1 := (unhide X).blk.cell 1
          have c2 := (unhide X).blk.cell 2
          simp only [List.getElem?_toArray, List.getElem?_cons_zero, List.getElem?_cons_succ] at c0 c1 c2
          go_wp2_with fail
          generalize w5.alloc (.cells (winC yk xt (.slice o5 xs.length n5)) 35) = W5 at *
          refine (iWinOk_any ⟨yk, xt, xs⟩ _ _ (OwnI.irow (unhide X).row) MX.out (by have := XL.out; simp only; omega)).mono ?_
          rw [(unhide X).ok]
          rintro e w6 ⟨rfl, hb⟩
          replace V := hide ((unhide V).below hb)
          replace HB := hide (HB.out.trans (hb.mono HB.out.size))
          clear hb c0 c1 c2
          have c0 := (unhide V).blk.cell 0
          have c1 := (unhide V).blk.cell 1
          have c2 := (unhide V).blk.cell 2
          simp only [List.getElem?_toArray, List.getElem?_cons_zero, List.getElem?_cons_succ] at c0 c1 c2
          go_wp2_with fail
          refine (iWinOk_any ⟨yk, yt, ys⟩ _ _ (OwnI.irow (unhide V).row) MX.out (by simp only; omega)).mono ?_
          rw [(unhide V).ok]
          rintro e w7 ⟨rfl, hb⟩
          replace HB := hide (HB.out.trans (hb.mono HB.out.size))
          clear hb
          go_wp2_with fail
          go_ret
          exact ⟨rfl, unhide HB⟩

set_option maxRecDepth 100000 in
theorem lifted_FnWinOrder (os : Os) (started : os.Started) (H : Type) (enc : TypeId × Value → H) :
    ReturnsInHanded {} Try.checked os 10 .any (Rows.fnWinOrderSpec.pre6 enc Try.prog Try.f10 Rows.fnWinOrderRow.domain false) (Rows.fnWinOrderSpec.post enc Try.prog Try.f10 false true false false) := by
  refine returnsInHanded_of_change (C := Try.checked) own started (by kernel_rfl) Try.func10
    (ChangeSpec.witness6 (enc := enc) (C := Try.checked) false ⟨#[], #[.slice none 0 0], []⟩ 8 (by kernel_rfl) (by kernel_rfl) (by kernel_rfl) (by kernel_rfl)) ?_
  intro W base args ds gs before hval0 hW hcnd _
  have hval : ∀ (j : Nat) t v, Try.f10.params[j]? = some t → args[j]? = some v → Value.okWide Try.prog W .any base t v := hval0
  have hW' := hW
  obtain ⟨p, q, hA0, hV, rfl, hfz, hnd⟩ := hW
  have hA : DataW.TrodAll enc Try.prog W 0 (fun _ => true) true Try.f10.params.toList args.toList ds p := hA0
  rw [Try.params10] at hA hval
  obtain ⟨v0, vs0, d0, ds0, p0, q0, hargs, rfl, rfl, h0, r0⟩ := trodAll_cons hA
  obtain ⟨rfl, rfl, rfl⟩ := trodAll_nil r0
  obtain rfl : args = #[v0] := by cases args; simp_all
  obtain ⟨rfl, rfl⟩ := trodVars_none hV
  obtain ⟨a0, len0, cap0, rfl⟩ := okWide_slice Try.underlying43 (hval 0 43 v0 rfl rfl)
  have k0 := h0
  have lt0 : ∀ x ∈ p0, x.block < W.heap.size := by obtain ⟨m, hm⟩ := k0; exact DataW.trod_lt m _ _ _ hm
  obtain ⟨z0, w0⟩ : ∃ zs, IsRow .u8 W a0 len0 cap0 zs := by
    obtain ⟨fuel, hf⟩ := h0
    rcases open_ints Try.underlying43 Try.underlying5 (by kernel_rfl) hf with ⟨hcs, _⟩ | ⟨x, l, c, zs, hcs, _, hl, hm, hz, _, hcell, hwz⟩
    · simp [Value.cells] at hcs
      obtain ⟨rfl, rfl, rfl⟩ := hcs
      exact ⟨[], .inl ⟨rfl, rfl, rfl, rfl⟩⟩
    · simp [Value.cells] at hcs
      obtain ⟨rfl, rfl, rfl⟩ := hcs
      exact ⟨zs, .inr ⟨_, rfl, hl, hm, by simpa using hz, hcell, hwz⟩⟩
  clear hA0 hval0
  refine (walk_FnWinOrder a0 len0 cap0 z0 W w0).mono fun e W' ⟨he, bel⟩ => ?_
  subst he
  exact ⟨_, rfl, _, _, _, [], _, [], hW', trodAll_mk1 (shut_bool Try.underlying4 _), (trodAll_cons_mk (Below.trod laidOut (by kernel_rfl) (of_decide_eq_true (by kernel_rfl)) k0 bel lt0) trodAll_mk0), rfl, bel.frame _, fun h => by cases h⟩

theorem fnWinOrder_holds : Rows.FnWinOrderSaid :=
  OpenClaim.holds_of_wide 10 Try.f10 rfl rfl rfl rfl rfl rfl rfl ⟨rfl, rfl, rfl, rfl, rfl⟩ rfl rfl rfl rfl rfl (by kernel_rfl) Try.func10 (by kernel_rfl)
    (of_decide_eq_true (by kernel_rfl)) (by unfold Func.isWrapper; first | (rw [if_pos (by decide +kernel)]; kernel_rfl) | (rw [if_neg (by decide +kernel)]; exact ⟨rfl, rfl⟩))
    (fun os started H enc _ => lifted_FnWinOrder os started H enc)

#print axioms fnWinOrder_holds
end Go.Proofs.Ytgdhlnfigcaepaa
