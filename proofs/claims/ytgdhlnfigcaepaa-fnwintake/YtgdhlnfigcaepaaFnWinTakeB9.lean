/-
  Drawn windows: l20Win.
-/
import Derived.Test.YtgdhlnfigcaepaaFnWinTakeB4
import Derived.Test.YtgdhlnfigcaepaaFnWinTakeB3
import Derived.Test.YtgdhlnfigcaepaaFnWinTakeB8
namespace Go.Proofs.Ytgdhlnfigcaepaa
open Go.RowKit

theorem draw_key : ∀ a : Fin 4, ∀ n : Fin 4, ∀ c : Fin 4, Kw.ok (mkSay (mkNew (a.val : Int) (1 + (n.val : Int))) (c.val : Int)) = true ∧ mOp (mkSay (mkNew (a.val : Int) (1 + (n.val : Int))) (c.val : Int)) = 5 := by decide +kernel
theorem one_num {key : ByteArray} {n : Int} (hk : Kw.ok key = true ∧ mOp key = 5) (hn : 1 ≤ n ∧ n ≤ 999) : winOk ⟨key, n, [n]⟩ = true := by
  refine win_of hk.1 hk.2 hn (falls_all (by simp) rfl fun j hj h1 => ?_)
  simp at hj
  omega
theorem Blk.exW {w w' : World} {b c : Nat} {t : TypeId} {cs : Array Value} (h : Blk w c t cs) (x : Ex b w w') (hne : c ≠ b) : Blk w' c t cs := (x.block c h.lt hne).trans h

/-- A window is being drawn. -/
structure WnAt (b : Nat) (C : Code) (w : World) (xb q : Nat) (x : Win) (v : Value) (wr : World) : Prop where
  dr : DrC b C q wr
  ex : Ex b w wr
  res : Blk wr w.heap.size 35 noWin
  at_ : Blk wr xb 35 (x.cells v)
  row : OwnI w.heap.size wr v x.seen
  lo : w.heap.size < xb
  bw : b < w.heap.size
theorem WnAt.step {b : Nat} {C : Code} {w : World} {xb q q' : Nat} {x : Win} {v : Value} {wr w' : World} (h : WnAt b C w xb q x v wr) (y : Ex b wr w') (d : DrC b C q' w') : WnAt b C w xb q' x v w' :=
  ⟨d, h.ex.trans y, h.res.exW y (by have := h.bw; omega), h.at_.exW y (by have := h.lo; have := h.bw; omega), row_ex h.row y h.bw, h.lo, h.bw⟩
theorem WnAt.below {b : Nat} {C : Code} {w : World} {xb q : Nat} {x : Win} {v : Value} {wr w' : World} (h : WnAt b C w xb q x v wr) (hb : Below wr.heap.size wr w') : WnAt b C w xb q x v w' := h.step (Ex.of_below b hb) (h.dr.below hb)
theorem WnAt.alloc {b : Nat} {C : Code} {w : World} {xb q : Nat} {x : Win} {v : Value} {wr : World} (h : WnAt b C w xb q x v wr) (o : Obj) : WnAt b C w xb q x v (wr.alloc o) := h.below ((Below.refl _ _).alloc (Nat.le_refl _) o)
theorem WnAt.drew {b : Nat} {C : Code} {w : World} {xb q : Nat} {x : Win} {v : Value} {wr : World} (h : WnAt b C w xb q x v wr) : WnAt b C w xb q x v wr.drew := h.below (Below.refl _ _).drew
theorem WnAt.grown {b : Nat} {C : Code} {w : World} {xb q : Nat} {x y : Win} {v u : Value} {wr w' : World} {r : Nat} (h : WnAt b C w xb q x v wr) (hg : wr.grownBy w' (some r)) (hr : w.heap.size < r) (hat : Blk w' xb 35 (y.cells u)) (hrow : OwnI w.heap.size w' u y.seen) : WnAt b C w xb q y u w' :=
  ⟨h.dr.grown hg (fun k hk => by cases hk; have := h.bw; omega), h.ex.grown hg (fun k hk => by cases hk; omega), h.res.kept hg (fun e => by cases e; omega), hat, hrow, h.lo, h.bw⟩
theorem WnAt.set {b : Nat} {C : Code} {w : World} {xb q : Nat} {x y : Win} {v u : Value} {wr : World} (h : WnAt b C w xb q x v wr) (i : Nat) (z : Value) (hg : (x.cells v).setIfInBounds i z = y.cells u) (hrow : OwnI w.heap.size wr u y.seen) : WnAt b C w xb q y u (wr.setCell ⟨xb, i, none⟩ z) := by
  refine h.grown (grown_setC wr xb i z) h.lo ?_ (row_setC hrow h.at_ (by decide) z)
  have := heap_setAt (i := i) h.at_ z
  rw [hg] at this
  exact this
theorem WnAt.put {b : Nat} {C : Code} {w : World} {xb q : Nat} {x y : Win} {v u : Value} {wr : World} (h : WnAt b C w xb q x v wr) (hrow : OwnI w.heap.size wr u y.seen) : WnAt b C w xb q y u (wr.setRow xb (y.cells u)) :=
  h.grown (grown_setRow wr xb _) h.lo (h.at_.set _) (row_blk hrow h.at_ (by decide) _)
theorem WnAt.new {b : Nat} {C : Code} {w : World} {xb q : Nat} {x : Win} {v : Value} {wr : World} (h : WnAt b C w xb q x v wr) : ∃ eb, wr.heap.size = eb ∧ Blk (wr.alloc (.cells noWin 35)) eb 35 noWin ∧ xb < eb ∧ WnAt b C w xb q x v (wr.alloc (.cells noWin 35)) :=
  ⟨_, rfl, Blk.new _ _ _, h.at_.lt, h.alloc _⟩
theorem WnAt.pack {b : Nat} {C : Code} {w : World} {xb q eb : Nat} {x : Win} {v : Value} {wr : World} {yk : ByteArray} {yt : Int} {ys : List Int} {u : Value} {old : Array Value} (h : WnAt b C w xb q x v wr) (hE : Blk wr eb 35 old) (hY : OwnI w.heap.size wr u ys) (hl : xb < eb) :
    ∃ W9, wr.setRow eb (winC yk yt u) = W9 ∧ WnAt b C w xb q x v W9 ∧ Blk W9 eb 35 (winC yk yt u) ∧ OwnI w.heap.size W9 u ys :=
  ⟨_, rfl, h.grown (grown_setRow wr eb _) (by have := h.lo; omega) (h.at_.other (by omega) _) (row_blk h.row hE (by decide) _), hE.set _, row_blk hY hE (by decide) _⟩
theorem keepC_ex {b : Nat} {L : List Addr} {u u' : World} (h : Ex b u u') (hl : ∀ a ∈ L, a.block < u.heap.size ∧ a.block ≠ b) : KeepC L u u' := fun a ha => h.cell (hl a ha).1 (hl a ha).2
theorem take_top {x : Win} {n : Int} (hn : n ≤ x.top + 3) : (takeW x n).1.top ≤ x.top + 3 := by
  unfold takeW tookW
  split
  · simp only; omega
  · simp only; omega
theorem take_row {B : Nat} {x : Win} {n : Int} {v u : Value} {wr w' : World} (h : OwnI B wr v x.seen) (hb : Below wr.heap.size wr w') (hle : B ≤ wr.heap.size) (ht : TakeR wr.heap.size x n v w' u) : OwnI B w' u (takeW x n).1.seen := by
  unfold takeW
  cases q : lateB x n with
  | true => rw [ht.1 q]; exact OwnI.below h hb
  | false => exact row_lowB (ht.2 q) hle

/-- All blocks but two are as they were. -/
def ExO (b : Nat) (r : Option Nat) (u u' : World) : Prop := u.heap.size ≤ u'.heap.size ∧ ∀ k, k < u.heap.size → k ≠ b → some k ≠ r → u'.heap[k]? = u.heap[k]?
theorem exOPre (b : Nat) (r : Option Nat) : Pre (ExO b r) := ⟨fun _ => ⟨Nat.le_refl _, fun _ _ _ _ => rfl⟩, fun _ _ _ h k => ⟨Nat.le_trans h.1 k.1, fun j hj h1 h2 => (k.2 j (Nat.lt_of_lt_of_le hj h.1) h1 h2).trans (h.2 j hj h1 h2)⟩⟩
theorem exO_ex {b : Nat} {r : Option Nat} {u u' : World} (h : Ex b u u') : ExO b r u u' := ⟨h.size, fun k hk h1 _ => h.block k hk h1⟩
theorem exO_alloc {b : Nat} {r : Option Nat} (u : World) (o : Obj) : ExO b r u (u.alloc o) := exO_ex ((Ex.refl b u).alloc o)
theorem exO_grown {b : Nat} {r : Option Nat} {u u' : World} (h : u.grownBy u' r) : ExO b r u u' := ⟨h.size, fun k hk _ h2 => h.block k hk h2⟩
theorem exO_cell {b : Nat} {r : Option Nat} {u u' : World} (h : ExO b r u u') {p : Addr} (h0 : p.block < u.heap.size) (h1 : p.block ≠ b) (h2 : some p.block ≠ r) : u'.cell? p = u.cell? p := World.cell?_of_block (w := u) (h.2 p.block h0 h1 h2)
/-- Three numbers lie in a block, of which one is drawn. -/
def Three (b : Nat) (r : Option Nat) (ab : Nat) (wr : World) : Prop := (∀ k, k < 3 → ∃ u : Int, wr.cell? ⟨ab, k, none⟩ = some (.int .i64 u) ∧ -1000 ≤ u ∧ u ≤ 1000) ∧ ab < wr.heap.size ∧ ab ≠ b ∧ some ab ≠ r
theorem Three.ex {b : Nat} {r : Option Nat} {ab : Nat} {wr w' : World} (h : Three b r ab wr) (y : Ex b wr w') : Three b r ab w' :=
  ⟨fun k hk => by obtain ⟨u, h1, h2⟩ := h.1 k hk; exact ⟨u, (y.cell (p := ⟨ab, k, none⟩) h.2.1 h.2.2.1).trans h1, h2⟩, Nat.lt_of_lt_of_le h.2.1 y.size, h.2.2⟩
theorem WnAt.three {b : Nat} {C : Code} {w : World} {xb q : Nat} {x : Win} {v : Value} {wr : World} {t : Int} (h : WnAt b C w xb q x v wr) (ht : -900 ≤ t ∧ t ≤ 900) :
    ∃ ab, wr.heap.size = ab ∧ Three b v.ownBlock ab (wr.alloc (.cells #[.int .i64 0, .int .i64 t, .int .i64 (t - 8)] 3)) ∧ WnAt b C w xb q x v (wr.alloc (.cells #[.int .i64 0, .int .i64 t, .int .i64 (t - 8)] 3)) := by
  refine ⟨_, rfl, ⟨fun k hk => ?_, by simp, ?_, ?_⟩, h.alloc _⟩
  · match k, hk with
    | 0, _ => exact ⟨0, by simp [go_sem], by omega, by omega⟩
    | 1, _ => exact ⟨t, by simp [go_sem], by omega, by omega⟩
    | 2, _ => exact ⟨t - 8, by simp [go_sem], by omega, by omega⟩
    | k + 3, hk => omega
  · have := h.dr.lt; omega
  · intro e
    have := (World.ownsRow.lt h.row _ e.symm).2
    omega
theorem WnAt.newU {b : Nat} {C : Code} {w : World} {xb q : Nat} {x : Win} {v : Value} {wr : World} (u : Int) (h : WnAt b C w xb q x v wr) :
    ∃ nb, wr.heap.size = nb ∧ (∀ j y, [Value.int .i64 u][j]? = some y → (wr.alloc (.cells #[.int .i64 u] 3)).cell? (Addr.add ⟨nb, 0, none⟩ j) = some y) ∧ WnAt b C w xb q x v (wr.alloc (.cells #[.int .i64 u] 3)) :=
  ⟨_, rfl, one_newI _ _ _, h.alloc _⟩
theorem WnAt.app {b : Nat} {C : Code} {w : World} {xb q : Nat} {x : Win} {v u : Value} {wr w' : World} {ys : List Int} (h : WnAt b C w xb q x v wr) (hg : wr.grownBy w' v.ownBlock) (hrow : OwnI w.heap.size w' u ys) :
    (w'.cell? ⟨xb, 2, none⟩ = some v ∧ w'.frozen? ⟨xb, 2, none⟩ = false) ∧ WnAt b C w xb q ⟨x.key, x.top, ys⟩ u (w'.setCell ⟨xb, 2, none⟩ u) := by
  have at1 : Blk w' xb 35 (x.cells v) := h.at_.kept hg (h.at_.not_row (by decide) h.row)
  have res1 : Blk w' w.heap.size 35 noWin := h.res.kept hg (h.res.not_row (by decide) h.row)
  have own := World.ownsRow.lt h.row
  have lo := h.lo
  refine ⟨⟨at1.cell 2, at1.frozen 2⟩, (h.dr.grown hg (fun k hk => by have := (own k hk).1; have := h.bw; omega)).grown (grown_setC w' xb 2 u) (fun k hk => by cases hk; have := h.bw; omega),
    (h.ex.grown hg (fun k hk => (own k hk).1)).grown (grown_setC w' xb 2 u) (fun k hk => by cases hk; omega), res1.otherC (by omega) u, heap_setAt (i := 2) at1 u, row_setC hrow at1 (by decide) u, h.lo, h.bw⟩

set_option maxRecDepth 100000 in
set_option maxHeartbeats 4000000 in
theorem l20Win_any (b : Nat) (C : Code) (p n : Nat) (m : Int) (hm : m = (n : Int)) (w : World) (h : DrC b C p w) (hn : 1 ≤ n) (hn2 : n ≤ 1000) (hp : p + 200 ≤ 1000000) :
    Calls Try.prog 58 #[.pointer (some ⟨b, 0, none⟩), .int .i64 m] w fun e w' => ∃ (x : Win) (v : Value) (q : Nat), e = .returned (.agg (x.cells v)) ∧ OwnI w.heap.size w' v x.seen ∧ x.key.size ≤ 700 ∧ x.seen.length ≤ 20 ∧ (-1000 ≤ x.top ∧ x.top ≤ 1000) ∧ q ≤ p + 200 ∧ DrC b C q w' ∧ Ex b w w' := by
  subst hm
  obtain ⟨i0, hi, hz0, hz1, hz2⟩ := info_parts info_int2
  have hIn := hide (And.intro hi (And.intro hz0 (And.intro hz1 hz2)))
  clear hi hz0 hz1 hz2
  have hD := hide h
  have hbw := h.lt
  have R0 := hide (Blk.new w 35 noWin)
  clear h
  go_enter Try.func58, Try.ntmps58
  go_wp2_with fail
  refine (pick_any b C p 30 _ rfl _ ((unhide hD).alloc _) (by omega) (by omega) (by omega)).mono ?_
  rintro e w1 ⟨v1, rfl, hv1, d1, x1⟩
  have D1 := hide d1
  have X1 : Hid (Ex b w w1) := ((Ex.refl b w).alloc _).trans x1
  have R1 := hide (Blk.exW (unhide R0) x1 (by omega))
  have i1 : IntKind.i64.wrap (1 + (v1 : Int)) = 1 + (v1 : Int) := by simp [IntKind.wrap, IntKind.bits, IntKind.signed]; omega
  clear d1 x1 R0 hD
  go_wp2_with fail
  obtain ⟨z1, hz1⟩ : ∃ z : Int, z = 1 + (v1 : Int) := ⟨_, rfl⟩
  rw [← hz1]
  have hz2 : 1 ≤ z1 ∧ z1 ≤ 30 := by omega
  clear hz1 i1 hv1
  refine (pick_any b C (p + 1) 4 _ rfl _ (unhide D1) (by omega) (by omega) (by omega)).mono ?_
  rintro e w2 ⟨v2, rfl, hv2, d, y⟩
  have D2 := hide d
  have X2 : Hid (Ex b w w2) := X1.out.trans y
  have R2 := hide (Blk.exW (unhide R1) y (by omega))
  clear d y D1 X1 R1
  go_wp2_with fail
  refine (pick_any b C (p + 1 + 1) 4 _ rfl _ (unhide D2) (by omega) (by omega) (by omega)).mono ?_
  rintro e w3 ⟨v3, rfl, hv3, d, y⟩
  have D3 := hide d
  have X3 : Hid (Ex b w w3) := X2.out.trans y
  have R3 := hide (Blk.exW (unhide R2) y (by omega))
  clear d y D2 X2 R2
  have i1 : IntKind.i64.wrap (1 + (v3 : Int)) = 1 + (v3 : Int) := by simp [IntKind.wrap, IntKind.bits, IntKind.signed]; omega
  go_wp2_with fail
  refine (sMakNew_any (v2 : Int) (1 + (v3 : Int)) _).mono ?_
  rintro e w4 ⟨rfl, hb⟩
  have D4 := hide ((unhide D3).below hb)
  have X4 : Hid (Ex b w w4) := X3.out.trans (Ex.of_below b hb)
  have R4 := hide ((unhide R3).below hb)
  clear hb D3 X3 R3 i1
  go_wp2_with fail
  refine (pick_any b C (p + 1 + 1 + 1) 4 _ rfl _ (unhide D4) (by omega) (by omega) (by omega)).mono ?_
  rintro e w5 ⟨v5, rfl, hv5, d, y⟩
  have D5 := hide d
  have X5 : Hid (Ex b w w5) := X4.out.trans y
  have R5 := hide (Blk.exW (unhide R4) y (by omega))
  clear d y D4 X4 R4
  have HKY := hide (draw_key ⟨v2, hv2⟩ ⟨v3, hv3⟩ ⟨v5, hv5⟩)
  simp only at HKY
  have M : Hid ((mkNew (v2 : Int) (1 + (v3 : Int))).size ≤ maxLen) := le_maxLen (by have := mkNew_300 (v2 : Int) (1 + (v3 : Int)); omega)
  go_wp2_with fail
  refine (sMakSay_any (mkNew (v2 : Int) (1 + (v3 : Int))) (v5 : Int) _ M.out).mono ?_
  generalize mkSay (mkNew (v2 : Int) (1 + (v3 : Int))) (v5 : Int) = key at HKY ⊢
  rintro e w6 ⟨rfl, hb⟩
  have D6 := hide ((unhide D5).below hb)
  have X6 : Hid (Ex b w w6) := X5.out.trans (Ex.of_below b hb)
  have R6 := hide ((unhide R5).below hb)
  clear hb D5 X5 R5 M hv2 hv3 hv5
  have hle6 := X6.out.size
  have O6 : Hid (OwnI w.heap.size (w6.alloc (.cells #[.int .i64 z1] 3)) (.slice (some ⟨w6.heap.size, 0, none⟩) 1 1) [z1]) := World.ownsRow_lit (base := w.heap.size) (e := 3) (size := 1) _ #[.int .i64 z1] 1 hle6 (by unfold maxLen; omega) rfl
  have T0 : Hid (WnAt b C w (w6.heap.size + 1) (p + 1 + 1 + 1 + 1) ⟨key, z1, [z1]⟩ (.slice (some ⟨w6.heap.size, 0, none⟩) 1 1) ((w6.alloc (.cells #[.int .i64 z1] 3)).alloc (.cells (winC key z1 (.slice (some ⟨w6.heap.size, 0, none⟩) 1 1)) 35))) := by
    have q := Blk.new (w6.alloc (.cells #[.int .i64 z1] 3)) 35 (winC key z1 (.slice (some ⟨w6.heap.size, 0, none⟩) 1 1))
    rw [World.size_alloc] at q
    exact ⟨((unhide D6).alloc _).alloc _, (X6.out.alloc _).alloc _, ((unhide R6).alloc _).alloc _, q, World.ownsRow.alloc (unhide O6) _, by omega, hbw⟩
  have HW0 := hide (one_num HKY.out (n := z1) (by omega))
  clear D6 X6 R6 O6 hle6
  go_wp2_with fail
  generalize ((w6.alloc (.cells #[.int .i64 z1] 3)).alloc (.cells (winC key z1 (.slice (some ⟨w6.heap.size, 0, none⟩) 1 1)) 35)) = W6 at *
  have HS0 : Hid (∃ (so : Option Addr) (sn sc : Nat), Value.slice (some ⟨w6.heap.size, 0, none⟩) 1 1 = .slice so sn sc) := ⟨_, _, _, rfl⟩
  generalize Value.slice (some ⟨w6.heap.size, 0, none⟩) 1 1 = sv at *
  generalize w6.heap.size + 1 = xb at *
  refine (pick_any b C (p + 1 + 1 + 1 + 1) 20 _ rfl _ (unhide T0).dr (by omega) (by omega) (by omega)).mono ?_
  rintro e w7 ⟨v7, rfl, hv7, d, y⟩
  have T7 := hide ((unhide T0).step y d)
  clear d y T0
  have HX7 : Hid (∃ (x : Win) (v : Value) (q : Nat), WnAt b C w xb q x v w7 ∧ winOk x = true ∧ x.top ≤ 30 + 3 * (v7 - v7 : Nat) ∧ (∃ so sn sc, v = .slice so sn sc) ∧ q ≤ p + 5 + (v7 - v7)) := ⟨_, _, _, unhide T7, HW0.out, by simp only; omega, HS0.out, by omega⟩
  clear T7 HW0 HS0
  go_wp2_with fail
  go_loopw [7] (fun i wr => ∃ k : Nat, k ≤ v7 ∧ i = .int .i64 (k : Int) ∧ Hid (∃ (x : Win) (v : Value) (q : Nat), WnAt b C w xb q x v wr ∧ winOk x = true ∧ x.top ≤ 30 + 3 * (v7 - k : Nat) ∧ (∃ so sn sc, v = .slice so sn sc) ∧ q ≤ p + 5 + (v7 - k))) (fun i _ => (intOf i).toNat)
  case atStart => exact ⟨v7, Nat.le_refl _, rfl, HX7⟩
  case round =>
    clear HX7
    obtain ⟨k, hk, rfl, hX⟩ := hrel
    generalize wr = w8 at *
    obtain ⟨⟨xk, xt, xs⟩, _, q, hT, hwo, htp, ⟨so, sn, sc, rfl⟩, hq⟩ := hX
    simp only at htp
    have T := hide hT
    have HWO := hide hwo
    have hf := win_facts hwo
    have ht1 : 1 ≤ xt := hf.2.2.1.1
    have hlen : xs.length ≤ 8 := falls_len hf.2.2.2 hf.2.2.1.1
    have KS : Hid (xk.size ≤ 300) := (ok_facts hf.1).1
    have htb : xt ≤ 100 := by omega
    clear hT hwo hf
    by_cases hlt : 0 < k
    · have hlt2 : (0 : Int) < (k : Int) := by omega
      have i9 : IntKind.i64.wrap ((k : Int) - 1) = ((k - 1 : Nat) : Int) := by simp [IntKind.wrap, IntKind.bits, IntKind.signed]; omega
      go_wp2_with fail
      replace T := hide ((unhide T).drew)
      have cA : w8.drew.cell? ⟨xb, 0, none⟩ = some (.string xk) := (unhide T).at_.cell 0
      have cB : w8.drew.cell? ⟨xb, 1, none⟩ = some (.int .i64 xt) := (unhide T).at_.cell 1
      have cC : w8.drew.cell? ⟨xb, 2, none⟩ = some (.slice so sn sc) := (unhide T).at_.cell 2
      have C4 := hide (And.intro cA (And.intro cB cC))
      have HNE : Hid (xb ≠ b) := by have := (unhide T).lo; have := (unhide T).bw; show _ ≠ _; omega
      clear cA cB cC
      refine wp_region_ord ((KeepC ([⟨xb, 0, none⟩, ⟨xb, 1, none⟩, ⟨xb, 2, none⟩] : List Addr))) (by kernel_rfl) ?_
      refine ord_take (keepCPre _) (i := 0) (d := 33) (v := ?_) (by kernel_rfl) (by kernel_rfl) (by kernel_rfl) (by kernel_rfl) (fun _ _ _ h => h) (fun oi hoi => ?_) ?_
      rotate_left
      · simp at hoi
        subst hoi
        refine ⟨by rfl, fun w' hw' => ?_⟩
        have xq0 := (hw' ⟨xb, 0, none⟩ (by simp)).trans C4.out.1
        have xq1 := (hw' ⟨xb, 1, none⟩ (by simp)).trans C4.out.2.1
        have xq2 := (hw' ⟨xb, 2, none⟩ (by simp)).trans C4.out.2.2
        go_simp
        all_goals rfl
      try simp only [Act.put, List.setIfInBounds_toArray, List.set_cons_zero, List.set_cons_succ]
      refine ord_take (keepCPre _) (i := 1) (d := 34) (v := ?_) (by kernel_rfl) (by kernel_rfl) (by kernel_rfl) (by kernel_rfl) (fun _ _ _ h => h) (fun oi hoi => ?_) ?_
      rotate_left
      · simp at hoi
        subst hoi
        refine ⟨by rfl, fun w' hw' => ?_⟩
        go_simp
        all_goals rfl
      try simp only [Act.put, List.setIfInBounds_toArray, List.set_cons_zero, List.set_cons_succ]
      refine ord_take (keepCPre _) (i := 2) (d := 35) (v := ?_) (by kernel_rfl) (by kernel_rfl) (by kernel_rfl) (by kernel_rfl) (fun _ _ _ h => h) (fun oi hoi => ?_) ?_
      rotate_left
      · simp at hoi
        subst hoi
        refine ⟨by rfl, fun w' hw' => ?_⟩
        have xq1 := (hw' ⟨xb, 1, none⟩ (by simp)).trans C4.out.2.1
        go_simp
        all_goals rfl
      try simp only [Act.put, List.setIfInBounds_toArray, List.set_cons_zero, List.set_cons_succ]
      refine ord_take (keepCPre _) (i := 3) (d := 36) (v := ?_) (by kernel_rfl) (by kernel_rfl) (by kernel_rfl) (by kernel_rfl) (fun _ _ _ h => h) (fun oi hoi => ?_) ?_
      rotate_left
      · simp at hoi
        subst hoi
        refine ⟨by rfl, fun w' hw' => ?_⟩
        go_simp
        all_goals rfl
      try simp only [Act.put, List.setIfInBounds_toArray, List.set_cons_zero, List.set_cons_succ]
      refine ord_two (i := 4) (j := 12) (by kernel_rfl) (fun oi K hoi hK => ?_) (fun oi K hoi hK => ?_)
      · simp at hoi
        subst hoi
        refine ⟨by rfl, ?_⟩
        go_simp
        refine (pick_any b C q 12 _ rfl _ (unhide T).dr (by omega) (by omega) (by omega)).mono ?_
        rintro e w9 ⟨v9, rfl, hv9, d9, y9⟩
        have hxl := (unhide T).at_.lt
        go_simp
        refine hK.out _ _ (keepC_ex y9 (fun x hx => by simp only [List.mem_cons, List.not_mem_nil, or_false] at hx; rcases hx with rfl | rfl | rfl <;> exact ⟨hxl, HNE.out⟩)) ?_
        clear hK
        replace T := hide ((unhide T).step y9 d9)
        try (replace E := hide ((unhide E).exW y9 (by have := HNE.out; have := (unhide T).bw; have := (unhide T).lo; omega)))
        have i5 : IntKind.i64.wrap (xt + (v9 : Int)) = xt + (v9 : Int) := by simp [IntKind.wrap, IntKind.bits, IntKind.signed]; omega
        have i6 : IntKind.i64.wrap (xt + (v9 : Int) - 8) = xt + (v9 : Int) - 8 := by simp [IntKind.wrap, IntKind.bits, IntKind.signed]; omega
        clear d9 y9 hxl
        try simp only [Act.put, List.setIfInBounds_toArray, List.set_cons_zero, List.set_cons_succ]
        refine ord_take (keepCPre _) (i := 5) (d := 38) (v := ?_) (by kernel_rfl) (by kernel_rfl) (by kernel_rfl) (by kernel_rfl) (fun _ _ _ h => h) (fun oi hoi => ?_) ?_
        rotate_left
        · simp at hoi
          subst hoi
          refine ⟨by rfl, fun w' hw' => ?_⟩
          go_simp
          all_goals rfl
        try simp only [Act.put, List.setIfInBounds_toArray, List.set_cons_zero, List.set_cons_succ]
        refine ord_take (keepCPre _) (i := 6) (d := 39) (v := ?_) (by kernel_rfl) (by kernel_rfl) (by kernel_rfl) (by kernel_rfl) (fun _ _ _ h => h) (fun oi hoi => ?_) ?_
        rotate_left
        · simp at hoi
          subst hoi
          refine ⟨by rfl, fun w' hw' => ?_⟩
          go_simp
          all_goals rfl
        try simp only [Act.put, List.setIfInBounds_toArray, List.set_cons_zero, List.set_cons_succ]
        refine ord_take (keepCPre _) (i := 7) (d := 40) (v := ?_) (by kernel_rfl) (by kernel_rfl) (by kernel_rfl) (by kernel_rfl) (fun _ _ _ h => h) (fun oi hoi => ?_) ?_
        rotate_left
        · simp at hoi
          subst hoi
          refine ⟨by rfl, fun w' hw' => ?_⟩
          go_simp
          all_goals rfl
        try simp only [Act.put, List.setIfInBounds_toArray, List.set_cons_zero, List.set_cons_succ]
        refine ord_two (i := 8) (j := 12) (by kernel_rfl) (fun oi K hoi hK => ?_) (fun oi K hoi hK => ?_)
        · simp at hoi
          subst hoi
          refine ⟨by rfl, ?_⟩
          go_simp
          obtain ⟨mx, hmx⟩ : ∃ z : Int, z = max 1 (xt + (v9 : Int) - 8) := ⟨_, rfl⟩
          rw [← hmx]
          have hmx2 : 1 ≤ mx ∧ mx ≤ xt + 3 := by omega
          clear hmx
          refine (l6Take_any ⟨xk, xt, xs⟩ _ mx _ (OwnI.irow (unhide T).row) (by simp only; omega) (by simp only; omega) (by omega)).mono ?_
          rintro e w10 ⟨u10, rfl, htr, hb⟩
          have HYR := hide (take_row (unhide T).row hb (unhide T).ex.size htr)
          have HYO := hide (take_seen HWO.out (n := mx) (by omega))
          have HYT := hide (take_top (x := ⟨xk, xt, xs⟩) (n := mx) (by simp only; omega))
          have hxl := (unhide T).at_.lt
          generalize takeW ⟨xk, xt, xs⟩ mx = TT at *
          obtain ⟨⟨yk, yt, ys⟩, yb⟩ := TT
          simp only at HYR HYO HYT ⊢
          obtain ⟨uo, uc, rfl⟩ := row_form' (unhide HYR)
          obtain ⟨un, hun⟩ : ∃ n, n = ys.length := ⟨_, rfl⟩
          rw [← hun] at HYR ⊢
          have HUN := hide hun
          clear hun
          go_simp
          refine hK.out _ _ (keepC_below hb (fun x hx => by simp only [List.mem_cons, List.not_mem_nil, or_false] at hx; rcases hx with rfl | rfl | rfl <;> exact hxl)) ?_
          clear hK
          replace T := hide ((unhide T).below hb)
          have HY : Hid (OwnI w.heap.size w10 (.slice uo un uc) ys) := unhide HYR
          try (replace E := hide ((unhide E).below hb))
          clear hb htr hxl HYR
          try simp only [Act.put, List.setIfInBounds_toArray, List.set_cons_zero, List.set_cons_succ]
          refine ord_take (keepCPre _) (i := 9) (d := 32) (v := ?_) (by kernel_rfl) (by kernel_rfl) (by kernel_rfl) (by kernel_rfl) (fun _ _ _ h => h) (fun oi hoi => ?_) ?_
          rotate_left
          · simp at hoi
            subst hoi
            refine ⟨by rfl, fun w' hw' => ?_⟩
            go_simp
            all_goals rfl
          try simp only [Act.put, List.setIfInBounds_toArray, List.set_cons_zero, List.set_cons_succ]
          refine ord_take (keepCPre _) (i := 10) (d := 42) (v := ?_) (by kernel_rfl) (by kernel_rfl) (by kernel_rfl) (by kernel_rfl) (fun _ _ _ h => h) (fun oi hoi => ?_) ?_
          rotate_left
          · simp at hoi
            subst hoi
            refine ⟨by rfl, fun w' hw' => ?_⟩
            go_simp
            all_goals rfl
          try simp only [Act.put, List.setIfInBounds_toArray, List.set_cons_zero, List.set_cons_succ]
          refine ord_take (keepCPre _) (i := 11) (d := 43) (v := ?_) (by kernel_rfl) (by kernel_rfl) (by kernel_rfl) (by kernel_rfl) (fun _ _ _ h => h) (fun oi hoi => ?_) ?_
          rotate_left
          · simp at hoi
            subst hoi
            refine ⟨by rfl, fun w' hw' => ?_⟩
            go_simp
            all_goals rfl
          try simp only [Act.put, List.setIfInBounds_toArray, List.set_cons_zero, List.set_cons_succ]
          refine ord_one (i := 12) (by kernel_rfl) (fun oi K hoi hK => ?_)
          simp at hoi
          subst hoi
          refine ⟨by rfl, ?_⟩
          go_simp
          have hxl := (unhide T).at_.lt
          refine hK.out _ _ (keepC_below ((Below.refl _ _).alloc (Nat.le_refl _) _) (fun x hx => by simp only [List.mem_cons, List.not_mem_nil, or_false] at hx; rcases hx with rfl | rfl | rfl <;> exact hxl)) ?_
          clear hK
          obtain ⟨eb, hE0, e1, heb, t1⟩ := (unhide T).new
          have E := hide e1
          replace T := hide t1
          try (replace HY : Hid (OwnI w.heap.size (World.alloc _ (.cells noWin 35)) _ ys) := World.ownsRow.alloc (unhide HY) _)
          first | rw [hE0] | rw [show w8.heap.size = eb from hE0]
          have HE0 := hide hE0
          clear e1 t1 hE0 hxl
          try simp only [Act.put, List.setIfInBounds_toArray, List.set_cons_zero, List.set_cons_succ]
          refine ord_one (i := 13) (by kernel_rfl) (fun oi K hoi hK => ?_)
          simp at hoi
          subst hoi
          refine ⟨by rfl, ?_⟩
          have hxl := (unhide T).at_.lt
          have hne := heb
          refine wp_store_row 35 (.tmp 8) (.tmp 42) rfl eb (winC yk yt (.slice uo un uc)) rfl rfl 35 noWin (unhide E) info_wi rfl (one_wi _ _ _ _ _) ?_
          refine hK.out _ _ (keepC_row (fun x hx => by simp only [List.mem_cons, List.not_mem_nil, or_false] at hx; rcases hx with rfl | rfl | rfl <;> exact ⟨hxl, by show xb ≠ eb; omega⟩) (grown_setRow _ _ _)) ?_
          clear hK
          obtain ⟨W9, hW9, t9, e9, y9⟩ := (unhide T).pack (yk := yk) (yt := yt) (unhide E) (unhide HY) heb
          rw [hW9]
          replace T := hide t9
          replace E := hide e9
          replace HY := hide y9
          clear t9 e9 y9 hxl hne hW9
          try simp only [Act.put]
          refine ord_take (keepCPre _) (i := 14) (d := 9) (v := ?_) (by kernel_rfl) (by kernel_rfl) (by kernel_rfl) (by kernel_rfl) (fun _ _ _ h => h) (fun oi hoi => ?_) ?_
          rotate_left
          · simp at hoi
            subst hoi
            refine ⟨by rfl, fun w' hw' => ?_⟩
            go_simp
            all_goals rfl
          try simp only [Act.put, List.setIfInBounds_toArray, List.set_cons_zero, List.set_cons_succ]
          refine later_done (by kernel_rfl) ?_ _
          cases yb with
          | true =>
            have L1 := hide (load_wi (unhide E) rfl)
            have TB := hide (unhide T).at_
            have T5 := hide ((unhide T).put (y := ⟨yk, yt, ys⟩) (unhide HY))
            go_wp2_with (first | refine wpList_load_whole rfl 35 _ rfl ⟨eb, 0, none⟩ rfl _ (by exact unhide L1) ?_ | refine wpList_store_whole rfl 35 (.tmp 6) (.tmp 45) rfl xb (winC yk yt (.slice uo un uc)) ?hx1w1 ?hy1w1 35 (winC xk xt (.slice so sn sc)) ?hb1w1 ?hi1w1 ?ho1w1 ?h11w1 ?h1w1)
            any_goals (first | rfl | exact unhide TB | exact info_wi | exact one_wi _ _ _ _ _)
            go_wp2_with fail
            go_roundw
            case rel => exact ⟨k - 1, by omega, rfl, ⟨_, _, _, unhide T5, HYO.out, by have := HYT.out; simp only; omega, ⟨_, _, _, rfl⟩, by omega⟩⟩
            case measure => simp [intOf]; omega
          | false =>
            go_wp2_with fail
            go_roundw
            case rel => exact ⟨k - 1, by omega, rfl, ⟨_, _, _, unhide T, HWO.out, by simp only; omega, ⟨_, _, _, rfl⟩, by omega⟩⟩
            case measure => simp [intOf]; omega
        · simp at hoi
          subst hoi
          refine ⟨by rfl, ?_⟩
          go_simp
          have hxl := (unhide T).at_.lt
          refine hK.out _ _ (keepC_below ((Below.refl _ _).alloc (Nat.le_refl _) _) (fun x hx => by simp only [List.mem_cons, List.not_mem_nil, or_false] at hx; rcases hx with rfl | rfl | rfl <;> exact hxl)) ?_
          clear hK
          obtain ⟨eb, hE0, e1, heb, t1⟩ := (unhide T).new
          have E := hide e1
          replace T := hide t1
          try (replace HY : Hid (OwnI w.heap.size (World.alloc _ (.cells noWin 35)) _ ys) := World.ownsRow.alloc (unhide HY) _)
          first | rw [hE0] | rw [show w8.heap.size = eb from hE0]
          have HE0 := hide hE0
          clear e1 t1 hE0 hxl
          try simp only [Act.put, List.setIfInBounds_toArray, List.set_cons_zero, List.set_cons_succ]
          refine ord_one (i := 8) (by kernel_rfl) (fun oi K hoi hK => ?_)
          simp at hoi
          subst hoi
          refine ⟨by rfl, ?_⟩
          go_simp
          obtain ⟨mx, hmx⟩ : ∃ z : Int, z = max 1 (xt + (v9 : Int) - 8) := ⟨_, rfl⟩
          rw [← hmx]
          have hmx2 : 1 ≤ mx ∧ mx ≤ xt + 3 := by omega
          clear hmx
          refine (l6Take_any ⟨xk, xt, xs⟩ _ mx _ (OwnI.irow (unhide T).row) (by simp only; omega) (by simp only; omega) (by omega)).mono ?_
          rintro e w10 ⟨u10, rfl, htr, hb⟩
          have HYR := hide (take_row (unhide T).row hb (unhide T).ex.size htr)
          have HYO := hide (take_seen HWO.out (n := mx) (by omega))
          have HYT := hide (take_top (x := ⟨xk, xt, xs⟩) (n := mx) (by simp only; omega))
          have hxl := (unhide T).at_.lt
          generalize takeW ⟨xk, xt, xs⟩ mx = TT at *
          obtain ⟨⟨yk, yt, ys⟩, yb⟩ := TT
          simp only at HYR HYO HYT ⊢
          obtain ⟨uo, uc, rfl⟩ := row_form' (unhide HYR)
          obtain ⟨un, hun⟩ : ∃ n, n = ys.length := ⟨_, rfl⟩
          rw [← hun] at HYR ⊢
          have HUN := hide hun
          clear hun
          go_simp
          refine hK.out _ _ (keepC_below hb (fun x hx => by simp only [List.mem_cons, List.not_mem_nil, or_false] at hx; rcases hx with rfl | rfl | rfl <;> exact hxl)) ?_
          clear hK
          replace T := hide ((unhide T).below hb)
          have HY : Hid (OwnI w.heap.size w10 (.slice uo un uc) ys) := unhide HYR
          try (replace E := hide ((unhide E).below hb))
          clear hb htr hxl HYR
          try simp only [Act.put, List.setIfInBounds_toArray, List.set_cons_zero, List.set_cons_succ]
          refine ord_take (keepCPre _) (i := 9) (d := 32) (v := ?_) (by kernel_rfl) (by kernel_rfl) (by kernel_rfl) (by kernel_rfl) (fun _ _ _ h => h) (fun oi hoi => ?_) ?_
          rotate_left
          · simp at hoi
            subst hoi
            refine ⟨by rfl, fun w' hw' => ?_⟩
            go_simp
            all_goals rfl
          try simp only [Act.put, List.setIfInBounds_toArray, List.set_cons_zero, List.set_cons_succ]
          refine ord_take (keepCPre _) (i := 10) (d := 42) (v := ?_) (by kernel_rfl) (by kernel_rfl) (by kernel_rfl) (by kernel_rfl) (fun _ _ _ h => h) (fun oi hoi => ?_) ?_
          rotate_left
          · simp at hoi
            subst hoi
            refine ⟨by rfl, fun w' hw' => ?_⟩
            go_simp
            all_goals rfl
          try simp only [Act.put, List.setIfInBounds_toArray, List.set_cons_zero, List.set_cons_succ]
          refine ord_take (keepCPre _) (i := 11) (d := 43) (v := ?_) (by kernel_rfl) (by kernel_rfl) (by kernel_rfl) (by kernel_rfl) (fun _ _ _ h => h) (fun oi hoi => ?_) ?_
          rotate_left
          · simp at hoi
            subst hoi
            refine ⟨by rfl, fun w' hw' => ?_⟩
            go_simp
            all_goals rfl
          try simp only [Act.put, List.setIfInBounds_toArray, List.set_cons_zero, List.set_cons_succ]
          refine ord_one (i := 13) (by kernel_rfl) (fun oi K hoi hK => ?_)
          simp at hoi
          subst hoi
          refine ⟨by rfl, ?_⟩
          have hxl := (unhide T).at_.lt
          have hne := heb
          refine wp_store_row 35 (.tmp 8) (.tmp 42) rfl eb (winC yk yt (.slice uo un uc)) rfl rfl 35 noWin (unhide E) info_wi rfl (one_wi _ _ _ _ _) ?_
          refine hK.out _ _ (keepC_row (fun x hx => by simp only [List.mem_cons, List.not_mem_nil, or_false] at hx; rcases hx with rfl | rfl | rfl <;> exact ⟨hxl, by show xb ≠ eb; omega⟩) (grown_setRow _ _ _)) ?_
          clear hK
          obtain ⟨W9, hW9, t9, e9, y9⟩ := (unhide T).pack (yk := yk) (yt := yt) (unhide E) (unhide HY) heb
          rw [hW9]
          replace T := hide t9
          replace E := hide e9
          replace HY := hide y9
          clear t9 e9 y9 hxl hne hW9
          try simp only [Act.put]
          refine ord_take (keepCPre _) (i := 14) (d := 9) (v := ?_) (by kernel_rfl) (by kernel_rfl) (by kernel_rfl) (by kernel_rfl) (fun _ _ _ h => h) (fun oi hoi => ?_) ?_
          rotate_left
          · simp at hoi
            subst hoi
            refine ⟨by rfl, fun w' hw' => ?_⟩
            go_simp
            all_goals rfl
          try simp only [Act.put, List.setIfInBounds_toArray, List.set_cons_zero, List.set_cons_succ]
          refine later_done (by kernel_rfl) ?_ _
          cases yb with
          | true =>
            have L1 := hide (load_wi (unhide E) rfl)
            have TB := hide (unhide T).at_
            have T5 := hide ((unhide T).put (y := ⟨yk, yt, ys⟩) (unhide HY))
            go_wp2_with (first | refine wpList_load_whole rfl 35 _ rfl ⟨eb, 0, none⟩ rfl _ (by exact unhide L1) ?_ | refine wpList_store_whole rfl 35 (.tmp 6) (.tmp 45) rfl xb (winC yk yt (.slice uo un uc)) ?hx1w2 ?hy1w2 35 (winC xk xt (.slice so sn sc)) ?hb1w2 ?hi1w2 ?ho1w2 ?h11w2 ?h1w2)
            any_goals (first | rfl | exact unhide TB | exact info_wi | exact one_wi _ _ _ _ _)
            go_wp2_with fail
            go_roundw
            case rel => exact ⟨k - 1, by omega, rfl, ⟨_, _, _, unhide T5, HYO.out, by have := HYT.out; simp only; omega, ⟨_, _, _, rfl⟩, by omega⟩⟩
            case measure => simp [intOf]; omega
          | false =>
            go_wp2_with fail
            go_roundw
            case rel => exact ⟨k - 1, by omega, rfl, ⟨_, _, _, unhide T, HWO.out, by simp only; omega, ⟨_, _, _, rfl⟩, by omega⟩⟩
            case measure => simp [intOf]; omega
      · simp at hoi
        subst hoi
        refine ⟨by rfl, ?_⟩
        go_simp
        have hxl := (unhide T).at_.lt
        refine hK.out _ _ (keepC_below ((Below.refl _ _).alloc (Nat.le_refl _) _) (fun x hx => by simp only [List.mem_cons, List.not_mem_nil, or_false] at hx; rcases hx with rfl | rfl | rfl <;> exact hxl)) ?_
        clear hK
        obtain ⟨eb, hE0, e1, heb, t1⟩ := (unhide T).new
        have E := hide e1
        replace T := hide t1
        try (replace HY : Hid (OwnI w.heap.size (World.alloc _ (.cells noWin 35)) _ ys) := World.ownsRow.alloc (unhide HY) _)
        first | rw [hE0] | rw [show w8.heap.size = eb from hE0]
        have HE0 := hide hE0
        clear e1 t1 hE0 hxl
        try simp only [Act.put, List.setIfInBounds_toArray, List.set_cons_zero, List.set_cons_succ]
        refine ord_one (i := 4) (by kernel_rfl) (fun oi K hoi hK => ?_)
        simp at hoi
        subst hoi
        refine ⟨by rfl, ?_⟩
        go_simp
        refine (pick_any b C q 12 _ rfl _ (unhide T).dr (by omega) (by omega) (by omega)).mono ?_
        rintro e w9 ⟨v9, rfl, hv9, d9, y9⟩
        have hxl := (unhide T).at_.lt
        go_simp
        refine hK.out _ _ (keepC_ex y9 (fun x hx => by simp only [List.mem_cons, List.not_mem_nil, or_false] at hx; rcases hx with rfl | rfl | rfl <;> exact ⟨hxl, HNE.out⟩)) ?_
        clear hK
        replace T := hide ((unhide T).step y9 d9)
        try (replace E := hide ((unhide E).exW y9 (by have := HNE.out; have := (unhide T).bw; have := (unhide T).lo; omega)))
        have i5 : IntKind.i64.wrap (xt + (v9 : Int)) = xt + (v9 : Int) := by simp [IntKind.wrap, IntKind.bits, IntKind.signed]; omega
        have i6 : IntKind.i64.wrap (xt + (v9 : Int) - 8) = xt + (v9 : Int) - 8 := by simp [IntKind.wrap, IntKind.bits, IntKind.signed]; omega
        clear d9 y9 hxl
        try simp only [Act.put, List.setIfInBounds_toArray, List.set_cons_zero, List.set_cons_succ]
        refine ord_take (keepCPre _) (i := 5) (d := 38) (v := ?_) (by kernel_rfl) (by kernel_rfl) (by kernel_rfl) (by kernel_rfl) (fun _ _ _ h => h) (fun oi hoi => ?_) ?_
        rotate_left
        · simp at hoi
          subst hoi
          refine ⟨by rfl, fun w' hw' => ?_⟩
          go_simp
          all_goals rfl
        try simp only [Act.put, List.setIfInBounds_toArray, List.set_cons_zero, List.set_cons_succ]
        refine ord_take (keepCPre _) (i := 6) (d := 39) (v := ?_) (by kernel_rfl) (by kernel_rfl) (by kernel_rfl) (by kernel_rfl) (fun _ _ _ h => h) (fun oi hoi => ?_) ?_
        rotate_left
        · simp at hoi
          subst hoi
          refine ⟨by rfl, fun w' hw' => ?_⟩
          go_simp
          all_goals rfl
        try simp only [Act.put, List.setIfInBounds_toArray, List.set_cons_zero, List.set_cons_succ]
        refine ord_take (keepCPre _) (i := 7) (d := 40) (v := ?_) (by kernel_rfl) (by kernel_rfl) (by kernel_rfl) (by kernel_rfl) (fun _ _ _ h => h) (fun oi hoi => ?_) ?_
        rotate_left
        · simp at hoi
          subst hoi
          refine ⟨by rfl, fun w' hw' => ?_⟩
          go_simp
          all_goals rfl
        try simp only [Act.put, List.setIfInBounds_toArray, List.set_cons_zero, List.set_cons_succ]
        refine ord_one (i := 8) (by kernel_rfl) (fun oi K hoi hK => ?_)
        simp at hoi
        subst hoi
        refine ⟨by rfl, ?_⟩
        go_simp
        obtain ⟨mx, hmx⟩ : ∃ z : Int, z = max 1 (xt + (v9 : Int) - 8) := ⟨_, rfl⟩
        rw [← hmx]
        have hmx2 : 1 ≤ mx ∧ mx ≤ xt + 3 := by omega
        clear hmx
        refine (l6Take_any ⟨xk, xt, xs⟩ _ mx _ (OwnI.irow (unhide T).row) (by simp only; omega) (by simp only; omega) (by omega)).mono ?_
        rintro e w10 ⟨u10, rfl, htr, hb⟩
        have HYR := hide (take_row (unhide T).row hb (unhide T).ex.size htr)
        have HYO := hide (take_seen HWO.out (n := mx) (by omega))
        have HYT := hide (take_top (x := ⟨xk, xt, xs⟩) (n := mx) (by simp only; omega))
        have hxl := (unhide T).at_.lt
        generalize takeW ⟨xk, xt, xs⟩ mx = TT at *
        obtain ⟨⟨yk, yt, ys⟩, yb⟩ := TT
        simp only at HYR HYO HYT ⊢
        obtain ⟨uo, uc, rfl⟩ := row_form' (unhide HYR)
        obtain ⟨un, hun⟩ : ∃ n, n = ys.length := ⟨_, rfl⟩
        rw [← hun] at HYR ⊢
        have HUN := hide hun
        clear hun
        go_simp
        refine hK.out _ _ (keepC_below hb (fun x hx => by simp only [List.mem_cons, List.not_mem_nil, or_false] at hx; rcases hx with rfl | rfl | rfl <;> exact hxl)) ?_
        clear hK
        replace T := hide ((unhide T).below hb)
        have HY : Hid (OwnI w.heap.size w10 (.slice uo un uc) ys) := unhide HYR
        try (replace E := hide ((unhide E).below hb))
        clear hb htr hxl HYR
        try simp only [Act.put, List.setIfInBounds_toArray, List.set_cons_zero, List.set_cons_succ]
        refine ord_take (keepCPre _) (i := 9) (d := 32) (v := ?_) (by kernel_rfl) (by kernel_rfl) (by kernel_rfl) (by kernel_rfl) (fun _ _ _ h => h) (fun oi hoi => ?_) ?_
        rotate_left
        · simp at hoi
          subst hoi
          refine ⟨by rfl, fun w' hw' => ?_⟩
          go_simp
          all_goals rfl
        try simp only [Act.put, List.setIfInBounds_toArray, List.set_cons_zero, List.set_cons_succ]
        refine ord_take (keepCPre _) (i := 10) (d := 42) (v := ?_) (by kernel_rfl) (by kernel_rfl) (by kernel_rfl) (by kernel_rfl) (fun _ _ _ h => h) (fun oi hoi => ?_) ?_
        rotate_left
        · simp at hoi
          subst hoi
          refine ⟨by rfl, fun w' hw' => ?_⟩
          go_simp
          all_goals rfl
        try simp only [Act.put, List.setIfInBounds_toArray, List.set_cons_zero, List.set_cons_succ]
        refine ord_take (keepCPre _) (i := 11) (d := 43) (v := ?_) (by kernel_rfl) (by kernel_rfl) (by kernel_rfl) (by kernel_rfl) (fun _ _ _ h => h) (fun oi hoi => ?_) ?_
        rotate_left
        · simp at hoi
          subst hoi
          refine ⟨by rfl, fun w' hw' => ?_⟩
          go_simp
          all_goals rfl
        try simp only [Act.put, List.setIfInBounds_toArray, List.set_cons_zero, List.set_cons_succ]
        refine ord_one (i := 13) (by kernel_rfl) (fun oi K hoi hK => ?_)
        simp at hoi
        subst hoi
        refine ⟨by rfl, ?_⟩
        have hxl := (unhide T).at_.lt
        have hne := heb
        refine wp_store_row 35 (.tmp 8) (.tmp 42) rfl eb (winC yk yt (.slice uo un uc)) rfl rfl 35 noWin (unhide E) info_wi rfl (one_wi _ _ _ _ _) ?_
        refine hK.out _ _ (keepC_row (fun x hx => by simp only [List.mem_cons, List.not_mem_nil, or_false] at hx; rcases hx with rfl | rfl | rfl <;> exact ⟨hxl, by show xb ≠ eb; omega⟩) (grown_setRow _ _ _)) ?_
        clear hK
        obtain ⟨W9, hW9, t9, e9, y9⟩ := (unhide T).pack (yk := yk) (yt := yt) (unhide E) (unhide HY) heb
        rw [hW9]
        replace T := hide t9
        replace E := hide e9
        replace HY := hide y9
        clear t9 e9 y9 hxl hne hW9
        try simp only [Act.put]
        refine ord_take (keepCPre _) (i := 14) (d := 9) (v := ?_) (by kernel_rfl) (by kernel_rfl) (by kernel_rfl) (by kernel_rfl) (fun _ _ _ h => h) (fun oi hoi => ?_) ?_
        rotate_left
        · simp at hoi
          subst hoi
          refine ⟨by rfl, fun w' hw' => ?_⟩
          go_simp
          all_goals rfl
        try simp only [Act.put, List.setIfInBounds_toArray, List.set_cons_zero, List.set_cons_succ]
        refine later_done (by kernel_rfl) ?_ _
        cases yb with
        | true =>
          have L1 := hide (load_wi (unhide E) rfl)
          have TB := hide (unhide T).at_
          have T5 := hide ((unhide T).put (y := ⟨yk, yt, ys⟩) (unhide HY))
          go_wp2_with (first | refine wpList_load_whole rfl 35 _ rfl ⟨eb, 0, none⟩ rfl _ (by exact unhide L1) ?_ | refine wpList_store_whole rfl 35 (.tmp 6) (.tmp 45) rfl xb (winC yk yt (.slice uo un uc)) ?hx1w3 ?hy1w3 35 (winC xk xt (.slice so sn sc)) ?hb1w3 ?hi1w3 ?ho1w3 ?h11w3 ?h1w3)
          any_goals (first | rfl | exact unhide TB | exact info_wi | exact one_wi _ _ _ _ _)
          go_wp2_with fail
          go_roundw
          case rel => exact ⟨k - 1, by omega, rfl, ⟨_, _, _, unhide T5, HYO.out, by have := HYT.out; simp only; omega, ⟨_, _, _, rfl⟩, by omega⟩⟩
          case measure => simp [intOf]; omega
        | false =>
          go_wp2_with fail
          go_roundw
          case rel => exact ⟨k - 1, by omega, rfl, ⟨_, _, _, unhide T, HWO.out, by simp only; omega, ⟨_, _, _, rfl⟩, by omega⟩⟩
          case measure => simp [intOf]; omega
    · have hlt2 : decide ((0 : Int) < (k : Int)) = false := by simp; omega
      obtain rfl : k = 0 := by omega
      rw [show ((0 : Nat) : Int) = 0 from rfl]
      have hq2 : q ≤ p + 30 := by omega
      have KS7 : Hid (xk.size ≤ 700) := by have := KS.out; show _ ≤ _; omega
      have hsn : sn = xs.length := by obtain ⟨zo, zc, e⟩ := row_form' (unhide T).row; simp only [Value.slice.injEq] at e; exact e.2.1
      have HSN := hide hsn
      clear hlt hlt2 htp hk hsn
      go_wp2_with fail
      refine (odd_any b C q n _ rfl _ (unhide T).dr hn hn2 (by omega)).mono ?_
      rintro e w9 ⟨c, rfl, d9, y9⟩
      replace T := hide ((unhide T).step y9 d9)
      clear d9 y9
      cases c with
      | false =>
        have TE := unhide T
        have l1 := load_wi TE.at_ rfl
        have RE := hide TE.res
        have CS : Hid (TE.res = TE.res) := rfl
        have l2 := load_wi (TE.res.set (winC xk xt (.slice so sn sc))) rfl
        have HDE : Hid (DrC b C (q + 1) (World.setRow w9 w.heap.size (winC xk xt (.slice so sn sc)))) := TE.dr.grown (grown_setRow _ w.heap.size _) (fun k hk => by cases hk; exact hbw)
        have HXE : Hid (Ex b w (World.setRow w9 w.heap.size (winC xk xt (.slice so sn sc)))) := TE.ex.grown (grown_setRow _ w.heap.size _) (fun k hk => by cases hk; exact Nat.le_refl _)
        have HRE : Hid (OwnI w.heap.size (World.setRow w9 w.heap.size (winC xk xt (.slice so sn sc))) (.slice so sn sc) xs) := row_blk TE.row TE.res (by decide) _
        clear TE T CS
        go_wp2_with (first | refine wpList_load_whole rfl 35 _ rfl ⟨xb, 0, none⟩ rfl _ (by exact l1) ?_ | refine wpList_store_whole rfl 35 (.tmp 4) (.tmp 81) rfl w.heap.size (winC xk xt (.slice so sn sc)) ?hxz1 ?hyz1 35 noWin ?hbz1 ?hiz1 ?hoz1 ?h1z1 ?hz1)
        any_goals (first | rfl | exact unhide RE | exact info_wi | exact one_wi _ _ _ _ _)
        go_wp2_with fail
        refine bodyPost_ret (v := .agg (winC xk xt (.slice so sn sc))) (results_cell rfl rfl l2) rfl ?_
        exact ⟨⟨xk, xt, xs⟩, _, (q + 1), rfl, unhide HRE, KS7.out, by simp only; omega, by simp only; omega, by omega, unhide HDE, unhide HXE⟩
      | true =>
        go_wp2_with fail
        refine (pick_any b C (q + 1) 4 _ rfl _ (unhide T).dr (by omega) (by omega) (by omega)).mono ?_
        rintro e w10 ⟨v10, rfl, hv10, d10, y10⟩
        replace T := hide ((unhide T).step y10 d10)
        clear d10 y10
        by_cases h0 : v10 = 0
        · subst h0
          go_wp2_with fail
          refine (l20SecretOr_any b C (q + 1 + 1) 2 _ rfl _ (unhide T).dr (by omega) (by omega) (by omega)).mono ?_
          rintro e w11 ⟨s, q11, rfl, hs, hq11, d11, y11⟩
          replace T := hide ((unhide T).step y11 d11)
          have cf := (unhide T).at_.cell 0
          have ff := (unhide T).at_.frozen 0
          simp only [List.getElem?_toArray, List.getElem?_cons_zero] at cf
          replace T := hide ((unhide T).set (y := ⟨s, xt, xs⟩) (u := .slice so sn sc) 0 (.string s) rfl (unhide T).row)
          have KS8 : Hid (s.size ≤ 700) := hs
          clear d11 y11
          have TE := unhide T
          have l1 := load_wi TE.at_ rfl
          have RE := hide TE.res
          have CS : Hid (TE.res = TE.res) := rfl
          have l2 := load_wi (TE.res.set (winC s xt (.slice so sn sc))) rfl
          have HDE : Hid (DrC b C q11 (World.setRow (w11.setCell ⟨xb, 0, none⟩ (.string s)) w.heap.size (winC s xt (.slice so sn sc)))) := TE.dr.grown (grown_setRow _ w.heap.size _) (fun k hk => by cases hk; exact hbw)
          have HXE : Hid (Ex b w (World.setRow (w11.setCell ⟨xb, 0, none⟩ (.string s)) w.heap.size (winC s xt (.slice so sn sc)))) := TE.ex.grown (grown_setRow _ w.heap.size _) (fun k hk => by cases hk; exact Nat.le_refl _)
          have HRE : Hid (OwnI w.heap.size (World.setRow (w11.setCell ⟨xb, 0, none⟩ (.string s)) w.heap.size (winC s xt (.slice so sn sc))) (.slice so sn sc) xs) := row_blk TE.row TE.res (by decide) _
          clear TE T CS
          go_wp2_with (first | refine wpList_load_whole rfl 35 _ rfl ⟨xb, 0, none⟩ rfl _ (by exact l1) ?_ | refine wpList_store_whole rfl 35 (.tmp 4) (.tmp 81) rfl w.heap.size (winC s xt (.slice so sn sc)) ?hxz2 ?hyz2 35 noWin ?hbz2 ?hiz2 ?hoz2 ?h1z2 ?hz2)
          any_goals (first | rfl | exact unhide RE | exact info_wi | exact one_wi _ _ _ _ _)
          go_wp2_with fail
          refine bodyPost_ret (v := .agg (winC s xt (.slice so sn sc))) (results_cell rfl rfl l2) rfl ?_
          exact ⟨⟨s, xt, xs⟩, _, q11, rfl, unhide HRE, KS8.out, by simp only; omega, by simp only; omega, by omega, unhide HDE, unhide HXE⟩
        have e0 : ((v10 : Int) == 0) = false := by simp; omega
        by_cases h1 : v10 = 1
        · subst h1
          have cf := (unhide T).at_.cell 1
          have ff := (unhide T).at_.frozen 1
          simp only [List.getElem?_toArray, List.getElem?_cons_zero, List.getElem?_cons_succ] at cf
          have it : IntKind.i64.wrap (xt + 1) = xt + 1 := by simp [IntKind.wrap, IntKind.bits, IntKind.signed]; omega
          replace T := hide ((unhide T).set (y := ⟨xk, xt + 1, xs⟩) (u := .slice so sn sc) 1 (.int .i64 (xt + 1)) rfl (unhide T).row)
          have TE := unhide T
          have l1 := load_wi TE.at_ rfl
          have RE := hide TE.res
          have CS : Hid (TE.res = TE.res) := rfl
          have l2 := load_wi (TE.res.set (winC xk (xt + 1) (.slice so sn sc))) rfl
          have HDE : Hid (DrC b C (q + 1 + 1) (World.setRow (w10.setCell ⟨xb, 1, none⟩ (.int .i64 (xt + 1))) w.heap.size (winC xk (xt + 1) (.slice so sn sc)))) := TE.dr.grown (grown_setRow _ w.heap.size _) (fun k hk => by cases hk; exact hbw)
          have HXE : Hid (Ex b w (World.setRow (w10.setCell ⟨xb, 1, none⟩ (.int .i64 (xt + 1))) w.heap.size (winC xk (xt + 1) (.slice so sn sc)))) := TE.ex.grown (grown_setRow _ w.heap.size _) (fun k hk => by cases hk; exact Nat.le_refl _)
          have HRE : Hid (OwnI w.heap.size (World.setRow (w10.setCell ⟨xb, 1, none⟩ (.int .i64 (xt + 1))) w.heap.size (winC xk (xt + 1) (.slice so sn sc))) (.slice so sn sc) xs) := row_blk TE.row TE.res (by decide) _
          clear TE T CS
          go_wp2_with (first | refine wpList_load_whole rfl 35 _ rfl ⟨xb, 0, none⟩ rfl _ (by exact l1) ?_ | refine wpList_store_whole rfl 35 (.tmp 4) (.tmp 81) rfl w.heap.size (winC xk (xt + 1) (.slice so sn sc)) ?hxz3 ?hyz3 35 noWin ?hbz3 ?hiz3 ?hoz3 ?h1z3 ?hz3)
          any_goals (first | rfl | exact unhide RE | exact info_wi | exact one_wi _ _ _ _ _)
          go_wp2_with fail
          refine bodyPost_ret (v := .agg (winC xk (xt + 1) (.slice so sn sc))) (results_cell rfl rfl l2) rfl ?_
          exact ⟨⟨xk, (xt + 1), xs⟩, _, (q + 1 + 1), rfl, unhide HRE, KS7.out, by simp only; omega, by simp only; omega, by omega, unhide HDE, unhide HXE⟩
        have e1 : ((v10 : Int) == 1) = false := by simp; omega
        by_cases h2 : v10 = 2
        rotate_left
        · have e2 : ((v10 : Int) == 2) = false := by simp; omega
          have hle : w.heap.size ≤ w10.heap.size := (unhide T).ex.size
          have ON : OwnI w.heap.size (w10.alloc (.cells #[] 3)) (.slice (some ⟨w10.heap.size, 0, none⟩) 0 0) [] := World.ownsRow_made w10 #[] 0 hle (by omega) rfl
          replace T := hide ((unhide T).alloc (.cells #[] 3))
          have cf := (unhide T).at_.cell 2
          have ff := (unhide T).at_.frozen 2
          simp only [List.getElem?_toArray, List.getElem?_cons_zero, List.getElem?_cons_succ] at cf
          replace T := hide ((unhide T).set (y := ⟨xk, xt, []⟩) (u := .slice (some ⟨w10.heap.size, 0, none⟩) 0 0) 2 (.slice (some ⟨w10.heap.size, 0, none⟩) 0 0) rfl ON)
          clear ON hle
          have TE := unhide T
          have l1 := load_wi TE.at_ rfl
          have RE := hide TE.res
          have CS : Hid (TE.res = TE.res) := rfl
          have l2 := load_wi (TE.res.set (winC xk xt (.slice (some ⟨w10.heap.size, 0, none⟩) 0 0))) rfl
          have HDE : Hid (DrC b C (q + 1 + 1) (World.setRow ((w10.alloc (.cells #[] 3)).setCell ⟨xb, 2, none⟩ (.slice (some ⟨w10.heap.size, 0, none⟩) 0 0)) w.heap.size (winC xk xt (.slice (some ⟨w10.heap.size, 0, none⟩) 0 0)))) := TE.dr.grown (grown_setRow _ w.heap.size _) (fun k hk => by cases hk; exact hbw)
          have HXE : Hid (Ex b w (World.setRow ((w10.alloc (.cells #[] 3)).setCell ⟨xb, 2, none⟩ (.slice (some ⟨w10.heap.size, 0, none⟩) 0 0)) w.heap.size (winC xk xt (.slice (some ⟨w10.heap.size, 0, none⟩) 0 0)))) := TE.ex.grown (grown_setRow _ w.heap.size _) (fun k hk => by cases hk; exact Nat.le_refl _)
          have HRE : Hid (OwnI w.heap.size (World.setRow ((w10.alloc (.cells #[] 3)).setCell ⟨xb, 2, none⟩ (.slice (some ⟨w10.heap.size, 0, none⟩) 0 0)) w.heap.size (winC xk xt (.slice (some ⟨w10.heap.size, 0, none⟩) 0 0))) (.slice (some ⟨w10.heap.size, 0, none⟩) 0 0) []) := row_blk TE.row TE.res (by decide) _
          clear TE T CS
          go_wp2_with (first | refine wpList_load_whole rfl 35 _ rfl ⟨xb, 0, none⟩ rfl _ (by exact l1) ?_ | refine wpList_store_whole rfl 35 (.tmp 4) (.tmp 81) rfl w.heap.size (winC xk xt (.slice (some ⟨w10.heap.size, 0, none⟩) 0 0)) ?hxz4 ?hyz4 35 noWin ?hbz4 ?hiz4 ?hoz4 ?h1z4 ?hz4)
          any_goals (first | rfl | exact unhide RE | exact info_wi | exact one_wi _ _ _ _ _)
          go_wp2_with fail
          refine bodyPost_ret (v := .agg (winC xk xt (.slice (some ⟨w10.heap.size, 0, none⟩) 0 0))) (results_cell rfl rfl l2) rfl ?_
          exact ⟨⟨xk, xt, []⟩, _, (q + 1 + 1), rfl, unhide HRE, KS7.out, by simp only; simp, by simp only; omega, by omega, unhide HDE, unhide HXE⟩
        subst h2
        go_wp2_with fail
        replace T := hide ((unhide T).drew)
        have cB : w10.drew.cell? ⟨xb, 1, none⟩ = some (.int .i64 xt) := (unhide T).at_.cell 1
        have cC : w10.drew.cell? ⟨xb, 2, none⟩ = some (.slice so sn sc) := (unhide T).at_.cell 2
        have C4 := hide (And.intro cB cC)
        have hxl : xb < w10.drew.heap.size := (unhide T).at_.lt
        have HNE : Hid (xb ≠ b ∧ some xb ≠ Value.ownBlock (.slice so sn sc)) := ⟨by have := (unhide T).lo; have := (unhide T).bw; omega, (unhide T).at_.not_row (by decide) (unhide T).row⟩
        have it : IntKind.i64.wrap (xt - 8) = xt - 8 := by simp [IntKind.wrap, IntKind.bits, IntKind.signed]; omega
        have hq3 : q + 1 + 1 ≤ 999900 := by omega
        generalize hqq : q + 1 + 1 = qq at *
        clear cB cC
        refine wp_region_ord ((ExO b (Value.ownBlock (.slice so sn sc)))) (by kernel_rfl) ?_
        refine ord_take (exOPre _ _) (i := 0) (d := 66) (v := ?_) (by kernel_rfl) (by kernel_rfl) (by kernel_rfl) (by kernel_rfl) (fun _ _ _ h => h) (fun oi hoi => ?_) ?_
        rotate_left
        · simp at hoi
          subst hoi
          refine ⟨by rfl, fun w' hw' => ?_⟩
          go_simp
          all_goals rfl
        try simp only [Act.put, List.setIfInBounds_toArray, List.set_cons_zero, List.set_cons_succ]
        refine ord_take (exOPre _ _) (i := 1) (d := 67) (v := ?_) (by kernel_rfl) (by kernel_rfl) (by kernel_rfl) (by kernel_rfl) (fun _ _ _ h => h) (fun oi hoi => ?_) ?_
        rotate_left
        · simp at hoi
          subst hoi
          refine ⟨by rfl, fun w' hw' => ?_⟩
          have xq := (exO_cell hw' (p := ⟨xb, 2, none⟩) hxl HNE.out.1 HNE.out.2).trans C4.out.2
          go_simp
          all_goals rfl
        try simp only [Act.put, List.setIfInBounds_toArray, List.set_cons_zero, List.set_cons_succ]
        refine ord_take (exOPre _ _) (i := 2) (d := 68) (v := ?_) (by kernel_rfl) (by kernel_rfl) (by kernel_rfl) (by kernel_rfl) (fun _ _ _ h => h) (fun oi hoi => ?_) ?_
        rotate_left
        · simp at hoi
          subst hoi
          refine ⟨by rfl, fun w' hw' => ?_⟩
          go_simp
          all_goals rfl
        try simp only [Act.put, List.setIfInBounds_toArray, List.set_cons_zero, List.set_cons_succ]
        refine ord_take (exOPre _ _) (i := 3) (d := 69) (v := ?_) (by kernel_rfl) (by kernel_rfl) (by kernel_rfl) (by kernel_rfl) (fun _ _ _ h => h) (fun oi hoi => ?_) ?_
        rotate_left
        · simp at hoi
          subst hoi
          refine ⟨by rfl, fun w' hw' => ?_⟩
          have xq := (exO_cell hw' (p := ⟨xb, 1, none⟩) hxl HNE.out.1 HNE.out.2).trans C4.out.1
          go_simp
          all_goals rfl
        try simp only [Act.put, List.setIfInBounds_toArray, List.set_cons_zero, List.set_cons_succ]
        refine ord_take (exOPre _ _) (i := 4) (d := 70) (v := ?_) (by kernel_rfl) (by kernel_rfl) (by kernel_rfl) (by kernel_rfl) (fun _ _ _ h => h) (fun oi hoi => ?_) ?_
        rotate_left
        · simp at hoi
          subst hoi
          refine ⟨by rfl, fun w' hw' => ?_⟩
          go_simp
          all_goals rfl
        try simp only [Act.put, List.setIfInBounds_toArray, List.set_cons_zero, List.set_cons_succ]
        refine ord_take (exOPre _ _) (i := 5) (d := 71) (v := ?_) (by kernel_rfl) (by kernel_rfl) (by kernel_rfl) (by kernel_rfl) (fun _ _ _ h => h) (fun oi hoi => ?_) ?_
        rotate_left
        · simp at hoi
          subst hoi
          refine ⟨by rfl, fun w' hw' => ?_⟩
          have xq := (exO_cell hw' (p := ⟨xb, 1, none⟩) hxl HNE.out.1 HNE.out.2).trans C4.out.1
          go_simp
          all_goals rfl
        try simp only [Act.put, List.setIfInBounds_toArray, List.set_cons_zero, List.set_cons_succ]
        refine ord_take (exOPre _ _) (i := 6) (d := 72) (v := ?_) (by kernel_rfl) (by kernel_rfl) (by kernel_rfl) (by kernel_rfl) (fun _ _ _ h => h) (fun oi hoi => ?_) ?_
        rotate_left
        · simp at hoi
          subst hoi
          refine ⟨by rfl, fun w' hw' => ?_⟩
          go_simp
          all_goals rfl
        try simp only [Act.put, List.setIfInBounds_toArray, List.set_cons_zero, List.set_cons_succ]
        refine ord_take (exOPre _ _) (i := 8) (d := 74) (v := ?_) (by kernel_rfl) (by kernel_rfl) (by kernel_rfl) (by kernel_rfl) (fun _ _ _ h => h) (fun oi hoi => ?_) ?_
        rotate_left
        · simp at hoi
          subst hoi
          refine ⟨by rfl, fun w' hw' => ?_⟩
          go_simp
          all_goals rfl
        try simp only [Act.put, List.setIfInBounds_toArray, List.set_cons_zero, List.set_cons_succ]
        refine ord_two (i := 7) (j := 9) (by kernel_rfl) (fun oi K hoi hK => ?_) (fun oi K hoi hK => ?_)
        · simp at hoi
          subst hoi
          refine ⟨by rfl, ?_⟩
          go_simp
          refine hK.out _ _ (exO_alloc _ _) ?_
          clear hK
          obtain ⟨ab, hA0, f3, t1⟩ := (unhide T).three (t := xt) (by omega)
          first | rw [hA0] | rw [show w10.heap.size = ab from hA0]
          have F3 := hide f3
          replace T := hide t1
          clear f3 t1 hA0
          skip
          try simp only [Act.put, List.setIfInBounds_toArray, List.set_cons_zero, List.set_cons_succ]
          refine ord_one (i := 9) (by kernel_rfl) (fun oi K hoi hK => ?_)
          simp at hoi
          subst hoi
          refine ⟨by rfl, ?_⟩
          go_simp
          refine (pick_any b C qq 3 _ rfl _ (unhide T).dr (by omega) (by omega) (by omega)).mono ?_
          rintro e w11 ⟨k9, rfl, hk9, d11, y11⟩
          go_simp
          refine hK.out _ _ (exO_ex y11) ?_
          clear hK
          replace T := hide ((unhide T).step y11 d11)
          try (replace F3 := hide ((unhide F3).ex y11))
          have hk3 : (k9 : Int) < 3 := by omega
          clear d11 y11
          obtain ⟨u, hu1, hu2, hu3⟩ := F3.out.1 k9 hk9
          try simp only [Act.put, List.setIfInBounds_toArray, List.set_cons_zero, List.set_cons_succ]
          refine ord_take (exOPre _ _) (i := 10) (d := 76) (v := ?_) (by kernel_rfl) (by kernel_rfl) (by kernel_rfl) (by kernel_rfl) (fun _ _ _ h => h) (fun oi hoi => ?_) ?_
          rotate_left
          · simp at hoi
            subst hoi
            refine ⟨by rfl, fun w' hw' => ?_⟩
            go_simp
            all_goals rfl
          try simp only [Act.put, List.setIfInBounds_toArray, List.set_cons_zero, List.set_cons_succ]
          refine ord_take (exOPre _ _) (i := 11) (d := 77) (v := ?_) (by kernel_rfl) (by kernel_rfl) (by kernel_rfl) (by kernel_rfl) (fun _ _ _ h => h) (fun oi hoi => ?_) ?_
          rotate_left
          · simp at hoi
            subst hoi
            refine ⟨by rfl, fun w' hw' => ?_⟩
            have xq := (exO_cell hw' (p := ⟨ab, k9, none⟩) F3.out.2.1 F3.out.2.2.1 F3.out.2.2.2).trans hu1
            go_simp
            all_goals rfl
          try simp only [Act.put, List.setIfInBounds_toArray, List.set_cons_zero, List.set_cons_succ]
          refine ord_one (i := 12) (by kernel_rfl) (fun oi K hoi hK => ?_)
          simp at hoi
          subst hoi
          refine ⟨by rfl, ?_⟩
          go_simp
          refine hK.out _ _ (exO_alloc _ _) ?_
          clear hK
          obtain ⟨nb, hN0, n3, t1⟩ := (unhide T).newU u
          first | rw [hN0] | (rw [World.size_alloc] at hN0; rw [hN0])
          have N3 := hide n3
          replace T := hide t1
          clear n3 t1 hN0 F3 hu1
          try simp only [Act.put, List.setIfInBounds_toArray, List.set_cons_zero, List.set_cons_succ]
          refine ord_one (i := 13) (by kernel_rfl) (fun oi K hoi hK => ?_)
          simp at hoi
          subst hoi
          refine ⟨by rfl, ?_⟩
          have hrow := (unhide T).row
          unfold OwnI at hrow
          simp only at hrow
          rw [← HSN.out] at hrow
          have hsb := (unhide T).ex.size
          refine wp_append_own _ _ _ 30 rfl w.heap.size 3 i0 (.int .i64 0) 1 8 Try.underlying30 (unhide hIn).1 (unhide hIn).2.1 (unhide hIn).2.2.1 (unhide hIn).2.2.2 rfl (by decide) _ _ _ rfl hrow ⟨nb, 0, none⟩ 1 1 [.int .i64 u] rfl rfl (unhide N3) (by intro y hy; simp at hy; subst hy; rfl) (by have := HSN.out; unfold maxLen; omega) (by have := HSN.out; omega) hsb ?_
          intro v' w12 hown' hgrow _
          refine hK.out _ _ (exO_grown hgrow) ?_
          clear hK
          have O12 : OwnI w.heap.size w12 v' (xs ++ [u]) := by
            unfold OwnI
            rw [List.length_append, ← HSN.out, List.map_append]
            exact hown'
          obtain ⟨vo, vc, rfl⟩ := row_form' hown'
          have HAP := hide ((unhide T).app hgrow O12)
          clear hown' hgrow O12 hrow hsb N3 T
          try simp only [Act.put, List.setIfInBounds_toArray, List.set_cons_zero, List.set_cons_succ]
          refine ord_take (exOPre _ _) (i := 14) (d := 80) (v := ?_) (by kernel_rfl) (by kernel_rfl) (by kernel_rfl) (by kernel_rfl) (fun _ _ _ h => h) (fun oi hoi => ?_) ?_
          rotate_left
          · simp at hoi
            subst hoi
            refine ⟨by rfl, fun w' hw' => ?_⟩
            go_simp
            all_goals rfl
          try simp only [Act.put, List.setIfInBounds_toArray, List.set_cons_zero, List.set_cons_succ]
          refine ord_last (i := 15) (by kernel_rfl) (by kernel_rfl) (by kernel_rfl) (fun oi K hoi hK => ?_)
          simp at hoi
          subst hoi
          refine ⟨by rfl, ?_⟩
          have q1 := HAP.out.1.1
          have q2 := HAP.out.1.2
          go_simp
          refine hK.out _ _ ?_
          clear hK q1 q2
          have T := hide HAP.out.2
          clear HAP
          simp only at T
          have TE := unhide T
          have l1 := load_wi TE.at_ rfl
          have RE := hide TE.res
          have CS : Hid (TE.res = TE.res) := rfl
          have l2 := load_wi (TE.res.set (winC xk xt (.slice vo (sn + 1) vc))) rfl
          have HDE : Hid (DrC b C (qq + 1) (World.setRow (w12.setCell ⟨xb, 2, none⟩ (.slice vo (sn + 1) vc)) w.heap.size (winC xk xt (.slice vo (sn + 1) vc)))) := TE.dr.grown (grown_setRow _ w.heap.size _) (fun k hk => by cases hk; exact hbw)
          have HXE : Hid (Ex b w (World.setRow (w12.setCell ⟨xb, 2, none⟩ (.slice vo (sn + 1) vc)) w.heap.size (winC xk xt (.slice vo (sn + 1) vc)))) := TE.ex.grown (grown_setRow _ w.heap.size _) (fun k hk => by cases hk; exact Nat.le_refl _)
          have HRE : Hid (OwnI w.heap.size (World.setRow (w12.setCell ⟨xb, 2, none⟩ (.slice vo (sn + 1) vc)) w.heap.size (winC xk xt (.slice vo (sn + 1) vc))) (.slice vo (sn + 1) vc) (xs ++ [u])) := row_blk TE.row TE.res (by decide) _
          clear TE T CS
          go_wp2_with (first | refine wpList_load_whole rfl 35 _ rfl ⟨xb, 0, none⟩ rfl _ (by exact l1) ?_ | refine wpList_store_whole rfl 35 (.tmp 4) (.tmp 81) rfl w.heap.size (winC xk xt (.slice vo (sn + 1) vc)) ?hxz5w1 ?hyz5w1 35 noWin ?hbz5w1 ?hiz5w1 ?hoz5w1 ?h1z5w1 ?hz5w1)
          any_goals (first | rfl | exact unhide RE | exact info_wi | exact one_wi _ _ _ _ _)
          go_wp2_with fail
          refine bodyPost_ret (v := .agg (winC xk xt (.slice vo (sn + 1) vc))) (results_cell rfl rfl l2) rfl ?_
          exact ⟨⟨xk, xt, (xs ++ [u])⟩, _, (qq + 1), rfl, unhide HRE, KS7.out, by simp only; simp; omega, by simp only; omega, by omega, unhide HDE, unhide HXE⟩
        · simp at hoi
          subst hoi
          refine ⟨by rfl, ?_⟩
          go_simp
          refine (pick_any b C qq 3 _ rfl _ (unhide T).dr (by omega) (by omega) (by omega)).mono ?_
          rintro e w11 ⟨k9, rfl, hk9, d11, y11⟩
          go_simp
          refine hK.out _ _ (exO_ex y11) ?_
          clear hK
          replace T := hide ((unhide T).step y11 d11)
          try (replace F3 := hide ((unhide F3).ex y11))
          have hk3 : (k9 : Int) < 3 := by omega
          clear d11 y11
          skip
          try simp only [Act.put, List.setIfInBounds_toArray, List.set_cons_zero, List.set_cons_succ]
          refine ord_one (i := 7) (by kernel_rfl) (fun oi K hoi hK => ?_)
          simp at hoi
          subst hoi
          refine ⟨by rfl, ?_⟩
          go_simp
          refine hK.out _ _ (exO_alloc _ _) ?_
          clear hK
          obtain ⟨ab, hA0, f3, t1⟩ := (unhide T).three (t := xt) (by omega)
          first | rw [hA0] | rw [show w10.heap.size = ab from hA0]
          have F3 := hide f3
          replace T := hide t1
          clear f3 t1 hA0
          obtain ⟨u, hu1, hu2, hu3⟩ := F3.out.1 k9 hk9
          try simp only [Act.put, List.setIfInBounds_toArray, List.set_cons_zero, List.set_cons_succ]
          refine ord_take (exOPre _ _) (i := 10) (d := 76) (v := ?_) (by kernel_rfl) (by kernel_rfl) (by kernel_rfl) (by kernel_rfl) (fun _ _ _ h => h) (fun oi hoi => ?_) ?_
          rotate_left
          · simp at hoi
            subst hoi
            refine ⟨by rfl, fun w' hw' => ?_⟩
            go_simp
            all_goals rfl
          try simp only [Act.put, List.setIfInBounds_toArray, List.set_cons_zero, List.set_cons_succ]
          refine ord_take (exOPre _ _) (i := 11) (d := 77) (v := ?_) (by kernel_rfl) (by kernel_rfl) (by kernel_rfl) (by kernel_rfl) (fun _ _ _ h => h) (fun oi hoi => ?_) ?_
          rotate_left
          · simp at hoi
            subst hoi
            refine ⟨by rfl, fun w' hw' => ?_⟩
            have xq := (exO_cell hw' (p := ⟨ab, k9, none⟩) F3.out.2.1 F3.out.2.2.1 F3.out.2.2.2).trans hu1
            go_simp
            all_goals rfl
          try simp only [Act.put, List.setIfInBounds_toArray, List.set_cons_zero, List.set_cons_succ]
          refine ord_one (i := 12) (by kernel_rfl) (fun oi K hoi hK => ?_)
          simp at hoi
          subst hoi
          refine ⟨by rfl, ?_⟩
          go_simp
          refine hK.out _ _ (exO_alloc _ _) ?_
          clear hK
          obtain ⟨nb, hN0, n3, t1⟩ := (unhide T).newU u
          first | rw [hN0] | (rw [World.size_alloc] at hN0; rw [hN0])
          have N3 := hide n3
          replace T := hide t1
          clear n3 t1 hN0 F3 hu1
          try simp only [Act.put, List.setIfInBounds_toArray, List.set_cons_zero, List.set_cons_succ]
          refine ord_one (i := 13) (by kernel_rfl) (fun oi K hoi hK => ?_)
          simp at hoi
          subst hoi
          refine ⟨by rfl, ?_⟩
          have hrow := (unhide T).row
          unfold OwnI at hrow
          simp only at hrow
          rw [← HSN.out] at hrow
          have hsb := (unhide T).ex.size
          refine wp_append_own _ _ _ 30 rfl w.heap.size 3 i0 (.int .i64 0) 1 8 Try.underlying30 (unhide hIn).1 (unhide hIn).2.1 (unhide hIn).2.2.1 (unhide hIn).2.2.2 rfl (by decide) _ _ _ rfl hrow ⟨nb, 0, none⟩ 1 1 [.int .i64 u] rfl rfl (unhide N3) (by intro y hy; simp at hy; subst hy; rfl) (by have := HSN.out; unfold maxLen; omega) (by have := HSN.out; omega) hsb ?_
          intro v' w12 hown' hgrow _
          refine hK.out _ _ (exO_grown hgrow) ?_
          clear hK
          have O12 : OwnI w.heap.size w12 v' (xs ++ [u]) := by
            unfold OwnI
            rw [List.length_append, ← HSN.out, List.map_append]
            exact hown'
          obtain ⟨vo, vc, rfl⟩ := row_form' hown'
          have HAP := hide ((unhide T).app hgrow O12)
          clear hown' hgrow O12 hrow hsb N3 T
          try simp only [Act.put, List.setIfInBounds_toArray, List.set_cons_zero, List.set_cons_succ]
          refine ord_take (exOPre _ _) (i := 14) (d := 80) (v := ?_) (by kernel_rfl) (by kernel_rfl) (by kernel_rfl) (by kernel_rfl) (fun _ _ _ h => h) (fun oi hoi => ?_) ?_
          rotate_left
          · simp at hoi
            subst hoi
            refine ⟨by rfl, fun w' hw' => ?_⟩
            go_simp
            all_goals rfl
          try simp only [Act.put, List.setIfInBounds_toArray, List.set_cons_zero, List.set_cons_succ]
          refine ord_last (i := 15) (by kernel_rfl) (by kernel_rfl) (by kernel_rfl) (fun oi K hoi hK => ?_)
          simp at hoi
          subst hoi
          refine ⟨by rfl, ?_⟩
          have q1 := HAP.out.1.1
          have q2 := HAP.out.1.2
          go_simp
          refine hK.out _ _ ?_
          clear hK q1 q2
          have T := hide HAP.out.2
          clear HAP
          simp only at T
          have TE := unhide T
          have l1 := load_wi TE.at_ rfl
          have RE := hide TE.res
          have CS : Hid (TE.res = TE.res) := rfl
          have l2 := load_wi (TE.res.set (winC xk xt (.slice vo (sn + 1) vc))) rfl
          have HDE : Hid (DrC b C (qq + 1) (World.setRow (w12.setCell ⟨xb, 2, none⟩ (.slice vo (sn + 1) vc)) w.heap.size (winC xk xt (.slice vo (sn + 1) vc)))) := TE.dr.grown (grown_setRow _ w.heap.size _) (fun k hk => by cases hk; exact hbw)
          have HXE : Hid (Ex b w (World.setRow (w12.setCell ⟨xb, 2, none⟩ (.slice vo (sn + 1) vc)) w.heap.size (winC xk xt (.slice vo (sn + 1) vc)))) := TE.ex.grown (grown_setRow _ w.heap.size _) (fun k hk => by cases hk; exact Nat.le_refl _)
          have HRE : Hid (OwnI w.heap.size (World.setRow (w12.setCell ⟨xb, 2, none⟩ (.slice vo (sn + 1) vc)) w.heap.size (winC xk xt (.slice vo (sn + 1) vc))) (.slice vo (sn + 1) vc) (xs ++ [u])) := row_blk TE.row TE.res (by decide) _
          clear TE T CS
          go_wp2_with (first | refine wpList_load_whole rfl 35 _ rfl ⟨xb, 0, none⟩ rfl _ (by exact l1) ?_ | refine wpList_store_whole rfl 35 (.tmp 4) (.tmp 81) rfl w.heap.size (winC xk xt (.slice vo (sn + 1) vc)) ?hxz5w2 ?hyz5w2 35 noWin ?hbz5w2 ?hiz5w2 ?hoz5w2 ?h1z5w2 ?hz5w2)
          any_goals (first | rfl | exact unhide RE | exact info_wi | exact one_wi _ _ _ _ _)
          go_wp2_with fail
          refine bodyPost_ret (v := .agg (winC xk xt (.slice vo (sn + 1) vc))) (results_cell rfl rfl l2) rfl ?_
          exact ⟨⟨xk, xt, (xs ++ [u])⟩, _, (qq + 1), rfl, unhide HRE, KS7.out, by simp only; simp; omega, by simp only; omega, by omega, unhide HDE, unhide HXE⟩
#print axioms l20Win_any
end Go.Proofs.Ytgdhlnfigcaepaa
