/-
  A window that came in: what it holds.
-/
import Derived.Test.YtgdhlnfigcaepaaFnExactWinTakeB1
import Derived.Test.YtgdhlnfigcaepaaFnExactWinTakeB3
import Derived.Test.YtgdhlnfigcaepaaFnExactWinTakeB2
import Derived.Deep.MidRow
import Derived.OrdersHeld
import Derived.Deep.RegionHeld3
namespace Go.Proofs.Ytgdhlnfigcaepaa
open Go.ChangeShapes Go.WideShapes Go.ChangeAt Go.RowKit

theorem cellsLWi : Try.prog.cellsOf 32 = 3 := by kernel_rfl
theorem cellsII1 : Try.prog.cellsOf 30 = 1 := by kernel_rfl
theorem open_irow1 {H : Type} {enc : TypeId × Value → H} {W : World} {held : Bool} {fuel : Nat} {c : Value} {x : DataW H × List MemPlace}
    (hf : DataW.trod enc Try.prog W 0 (fun _ => true) held fuel 30 [c] = some x) : ∃ zs, IRow W c zs := by
  rcases open_ints Try.underlying30 Try.underlying3 (by kernel_rfl) hf with ⟨hcs, _⟩ | ⟨p, l, c', zs, hcs, _, hl, hm, hz, _, hcell, _⟩
  · simp at hcs
    subst hcs
    exact ⟨[], .inl ⟨rfl, rfl⟩⟩
  · simp at hcs
    subst hcs
    simp at hz
    have hlen : (zs.take l).length = l := by simp; omega
    refine ⟨zs.take l, .inr ⟨p, c', by rw [hlen], by omega, hm, fun i hi => ?_⟩⟩
    rw [hcell i (by omega)]
    have hi' : i < l := by omega
    simp [List.getD_eq_getElem?_getD, hi']
theorem open_win {H : Type} {enc : TypeId × Value → H} {W : World} {held : Bool} {fuel : Nat} {cs : Array Value} {x : DataW H × List MemPlace} (hs : cs.size = Try.prog.cellsOf 32)
    (hf : DataW.trod enc Try.prog W 0 (fun _ => true) held fuel 32 (Value.cells (.agg cs)).toList = some x) : ∃ (f : Win) (s : Value), cs = f.cells s ∧ IRow W s f.seen ∧ f.key.size ≤ maxLen := by
  rw [cellsLWi] at hs
  obtain ⟨l⟩ := cs
  match l, hs with
  | [c0, c1, c2], _ =>
    obtain ⟨n, hh⟩ := fields_of Try.underlying32 hf
    obtain ⟨y0, t0⟩ := field_at hh (i := 0) (T := 9) (o := 0) rfl cellsS9
    obtain ⟨y1, t1⟩ := field_at hh (i := 1) (T := 3) (o := 1) rfl cellsI3
    obtain ⟨y2, t2⟩ := field_at hh (i := 2) (T := 30) (o := 2) rfl cellsII1
    simp [Value.cells] at t0 t1 t2
    obtain ⟨s0, rfl, z0⟩ := open_str1 t0
    obtain ⟨i1, rfl⟩ := open_int1 t1
    obtain ⟨zs, r2⟩ := open_irow1 t2
    exact ⟨⟨s0, i1, zs⟩, c2, rfl, r2, z0⟩
#print axioms open_win
end Go.Proofs.Ytgdhlnfigcaepaa
/-
  Several cells out of and into the middle of a block that a call made. No Go function in it.
-/
namespace Go.Proofs.Ytgdhlnfigcaepaa
open Go.RowKit

theorem heap_setAt {w : World} {b i : Nat} {t : TypeId} {cs : Array Value} (h : Blk w b t cs) (v : Value) : Blk (w.setCell ⟨b, i, none⟩ v) b t (cs.setIfInBounds i v) := by
  unfold Blk
  rw [heap_setCell_same w b i _ _ v h]
theorem Blk.otherC {w : World} {b b' i : Nat} {t : TypeId} {cs : Array Value} (h : Blk w b t cs) (hne : b ≠ b') (v : Value) : Blk (w.setCell ⟨b', i, none⟩ v) b t cs := by
  unfold Blk
  rw [Below.heap_setCell _ _ _ _ hne]
  exact h
theorem grown_setC (w : World) (b i : Nat) (v : Value) : w.grownBy (w.setCell ⟨b, i, none⟩ v) (some b) :=
  ⟨rfl, rfl, rfl, by simp [World.setCell], fun k _ hk => Below.heap_setCell _ _ _ _ (fun e => hk (by rw [e]))⟩
theorem row_setC {B : Nat} {w : World} {e t : TypeId} {size n b i : Nat} {v : Value} {xs : List Value} {cs : Array Value} (h : w.ownsRow B e size v n xs) (hx : Blk w b t cs) (hte : t ≠ e) (x : Value) : (w.setCell ⟨b, i, none⟩ x).ownsRow B e size v n xs :=
  h.kept (grown_setC w b i x) (.inr (hx.not_row hte h).symm)

/-- These cells, from a place on, in others' stead. -/
def setAll : Array Value → Nat → List Value → Array Value
  | cs, _, [] => cs
  | cs, o, v :: r => setAll (cs.setIfInBounds o v) (o + 1) r
theorem Blk.setCells {b : Nat} {t : TypeId} : ∀ (vs : List Value) (o : Nat) {w : World} {cs : Array Value}, Blk w b t cs → Blk (w.setCells b o vs) b t (setAll cs o vs)
  | [], _, _, _, h => h
  | v :: r, o, _, _, h => Blk.setCells r (o + 1) (heap_setAt h v)
theorem grown_trans {u v w : World} {b : Nat} (h : u.grownBy v (some b)) (k : v.grownBy w (some b)) : u.grownBy w (some b) :=
  ⟨k.os.trans h.os, k.tape.trans h.tape, k.output.trans h.output, Nat.le_trans h.size k.size, fun z hz hne => (k.block z (Nat.lt_of_lt_of_le hz h.size) hne).trans (h.block z hz hne)⟩
theorem grown_setCells (b : Nat) : ∀ (vs : List Value) (o : Nat) (w : World), w.grownBy (w.setCells b o vs) (some b)
  | [], _, _ => ⟨rfl, rfl, rfl, Nat.le_refl _, fun _ _ _ => rfl⟩
  | v :: r, o, w => grown_trans (grown_setC w b o v) (grown_setCells b r (o + 1) _)
theorem Blk.there {w : World} {b : Nat} {t : TypeId} {cs : Array Value} (h : Blk w b t cs) {o n : Nat} (hn : o + n ≤ cs.size) : w.there b o n := fun j hj => by
  rw [h.cell, h.frozen]
  refine ⟨?_, rfl⟩
  rw [Array.getElem?_eq_getElem (by omega)]
  rfl
theorem Blk.range {w : World} {b : Nat} {t : TypeId} {cs : Array Value} (h : Blk w b t cs) {o : Nat} {vs : List Value} (hv : ∀ j v, vs[j]? = some v → cs[o + j]? = some v) : w.rangeAt b o vs := fun j v hj => by
  rw [h.cell]; exact hv j v hj
theorem Blk.otherCs {w : World} {b b' o : Nat} {t : TypeId} {cs : Array Value} (h : Blk w b t cs) (hne : b ≠ b') (vs : List Value) : Blk (w.setCells b' o vs) b t cs := h.kept (grown_setCells b' vs o w) (fun e => hne (by cases e; rfl))
theorem row_setCs {B : Nat} {w : World} {e t : TypeId} {size n b o : Nat} {v : Value} {xs : List Value} {cs : Array Value} (h : w.ownsRow B e size v n xs) (hx : Blk w b t cs) (hte : t ≠ e) (vs : List Value) : (w.setCells b o vs).ownsRow B e size v n xs :=
  h.kept (grown_setCells b vs o w) (.inr (hx.not_row hte h).symm)
theorem below_setCs {B : Nat} {w w' : World} {b o : Nat} (h : Below B w w') (hb : B ≤ b) (hs : B ≤ w'.heap.size) (vs : List Value) : Below B w (w'.setCells b o vs) := h.grown (grown_setCells b vs o w') hs (fun k hk => by cases hk; exact hb)
end Go.Proofs.Ytgdhlnfigcaepaa
/-
  The laws' own looks over rows of numbers: whether two are the same, whether a number is one of some.
-/
namespace Go.Proofs.Ytgdhlnfigcaepaa
open Go.RowKit

theorem ints_eq {xs ys : List Int} (hl : xs.length = ys.length) (h : ∀ j, j < xs.length → xs.getD j 0 = ys.getD j 0) : xs = ys := by
  apply List.ext_getElem hl
  intro i h1 h2
  have := h i h1
  rw [List.getD_eq_getElem?_getD, List.getElem?_eq_getElem h1, List.getD_eq_getElem?_getD, List.getElem?_eq_getElem h2] at this
  exact this
theorem mem_getI {xs : List Int} {x : Int} (h : x ∈ xs) : ∃ k, k < xs.length ∧ xs.getD k 0 = x := by
  obtain ⟨j, hj, e⟩ := List.getElem_of_mem h
  refine ⟨j, hj, ?_⟩
  rw [List.getD_eq_getElem?_getD, List.getElem?_eq_getElem hj]
  exact e
theorem getI_mem {xs : List Int} {k : Nat} (h : k < xs.length) : xs.getD k 0 ∈ xs := by
  rw [List.getD_eq_getElem?_getD, List.getElem?_eq_getElem h]
  exact List.getElem_mem h

set_option maxHeartbeats 1000000 in
theorem keInts_any (v u : Value) (xs ys : List Int) (w : World) (h : IRow w v xs) (k : IRow w u ys) :
    Calls Try.prog 59 #[v, u] w fun e w' => e = .returned (.bool (decide (xs = ys))) ∧ Below w.heap.size w w' := by
  obtain ⟨ao, cap, rfl, h1, h2, hc⟩ := h.form
  obtain ⟨bo, cap', rfl, h1', h2', hc'⟩ := k.form
  have hR := hide h
  have hS := hide k
  unfold maxLen at h2 h2'
  clear h k hc hc'
  by_cases hl : xs.length = ys.length
  · rw [← hl] at hS h1' ⊢
    have HL := hide hl
    clear hl
    go_enter Try.func59, Try.ntmps59
    go_wp2_with fail
    go_loopw [5] (fun i wr => ∃ k : Nat, k ≤ xs.length ∧ i = .int .i64 (k : Int) ∧ Hid (∀ j, j < k → xs.getD j 0 = ys.getD j 0) ∧ Hid (Below w.heap.size w wr)) (fun i _ => xs.length - (intOf i).toNat)
    case atStart => exact ⟨0, by omega, rfl, fun j hj => by omega, Below.refl _ _⟩
    case round =>
      obtain ⟨k, hk, rfl, hN, hL⟩ := hrel
      by_cases hlt : k < xs.length
      · have hlt2 : (k : Int) < (xs.length : Int) := by omega
        obtain ⟨ao', c1, q1, _, _, q2⟩ := (IRow.below (unhide hR) (unhide hL)).form
        simp only [Value.slice.injEq] at q1
        obtain ⟨rfl, _, rfl⟩ := q1
        obtain ⟨bo', c2, q3, _, _, q4⟩ := (IRow.below (unhide hS) (unhide hL)).form
        simp only [Value.slice.injEq] at q3
        obtain ⟨rfl, z3, rfl⟩ := q3
        clear z3
        obtain ⟨a, rfl, hck⟩ := q2 k hlt
        obtain ⟨b, rfl, hck'⟩ := q4 k (by have := HL.out; omega)
        clear q2 q4
        have i3 : IntKind.i64.wrap ((k : Int) + 1) = (k : Int) + 1 := by simp [IntKind.wrap, IntKind.bits, IntKind.signed]; omega
        have hYes : Hid (xs.getD k 0 = ys.getD k 0 → ∀ j, j < k + 1 → xs.getD j 0 = ys.getD j 0) := by
          intro ht j hj
          by_cases hjk : j = k
          · subst hjk; exact ht
          · exact hN j (by omega)
        have hNo : Hid (xs.getD k 0 ≠ ys.getD k 0 → decide (xs = ys) = false) := by
          intro ht
          simp
          intro e
          exact ht (by rw [e])
        generalize xs.getD k 0 = y at hck hYes hNo
        generalize ys.getD k 0 = z at hck' hYes hNo
        by_cases he : y = z
        · have hN1 := hide (hYes.out he)
          subst he
          go_wp2_with fail
          go_quiet (fail)
          go_wp2_with fail
          go_roundw
          case rel => exact ⟨k + 1, by omega, by simp, hN1, below_drewN (unhide hL) _⟩
          case measure => simp [intOf]; omega
        · have hE := hNo.out he
          have hnk : (y == z) = false := by simpa using he
          have hnk2 : (y != z) = true := by simpa using he
          go_wp2_with fail
          go_quiet (fail)
          go_wp2_with fail
          go_ret
          exact ⟨ret_bool' hE.symm, below_drewN (unhide hL) _⟩
      · have hlt2 : decide ((k : Int) < (xs.length : Int)) = false := by simp; omega
        have hE : decide (xs = ys) = true := by
          simp
          exact ints_eq HL.out (fun j hj => hN j (by omega))
        go_wp2_with fail
        go_ret
        exact ⟨ret_bool' hE.symm, unhide hL⟩
  · have hl2 : ((xs.length : Int) == (ys.length : Int)) = false := by simp; omega
    have hE : decide (xs = ys) = false := by
      simp
      intro e
      exact hl (by rw [e])
    go_enter Try.func59, Try.ntmps59
    go_wp2_with fail
    go_ret
    exact ⟨ret_bool' hE.symm, Below.refl _ _⟩

end Go.Proofs.Ytgdhlnfigcaepaa
/-
  The laws' own look whether two rows of numbers are the same.
-/
namespace Go.Proofs.Ytgdhlnfigcaepaa
open Go.RowKit

set_option maxHeartbeats 1000000 in
theorem eqIntS_any (v u : Value) (xs ys : List Int) (w : World) (h : IRow w v xs) (k : IRow w u ys) :
    Calls Try.prog 44 #[v, u] w fun e w' => e = .returned (.bool (decide (xs = ys))) ∧ Below w.heap.size w w' := by
  obtain ⟨ao, cap, rfl, h1, h2, hc⟩ := h.form
  obtain ⟨bo, cap', rfl, h1', h2', hc'⟩ := k.form
  have hR := hide h
  have hS := hide k
  unfold maxLen at h2 h2'
  clear h k hc hc'
  by_cases hl : xs.length = ys.length
  · rw [← hl] at hS h1' ⊢
    have HL := hide hl
    clear hl
    go_enter Try.func44, Try.ntmps44
    go_wp2_with fail
    go_loopw [5] (fun i wr => ∃ k : Nat, k ≤ xs.length ∧ i = .int .i64 (k : Int) ∧ Hid (∀ j, j < k → xs.getD j 0 = ys.getD j 0) ∧ Hid (Below w.heap.size w wr)) (fun i _ => xs.length - (intOf i).toNat)
    case atStart => exact ⟨0, by omega, rfl, fun j hj => by omega, Below.refl _ _⟩
    case round =>
      obtain ⟨k, hk, rfl, hN, hL⟩ := hrel
      by_cases hlt : k < xs.length
      · have hlt2 : (k : Int) < (xs.length : Int) := by omega
        obtain ⟨ao', c1, q1, _, _, q2⟩ := (IRow.below (unhide hR) (unhide hL)).form
        simp only [Value.slice.injEq] at q1
        obtain ⟨rfl, _, rfl⟩ := q1
        obtain ⟨bo', c2, q3, _, _, q4⟩ := (IRow.below (unhide hS) (unhide hL)).form
        simp only [Value.slice.injEq] at q3
        obtain ⟨rfl, z3, rfl⟩ := q3
        clear z3
        obtain ⟨a, rfl, hck⟩ := q2 k hlt
        obtain ⟨b, rfl, hck'⟩ := q4 k (by have := HL.out; omega)
        clear q2 q4
        have i3 : IntKind.i64.wrap ((k : Int) + 1) = (k : Int) + 1 := by simp [IntKind.wrap, IntKind.bits, IntKind.signed]; omega
        have hYes : Hid (xs.getD k 0 = ys.getD k 0 → ∀ j, j < k + 1 → xs.getD j 0 = ys.getD j 0) := by
          intro ht j hj
          by_cases hjk : j = k
          · subst hjk; exact ht
          · exact hN j (by omega)
        have hNo : Hid (xs.getD k 0 ≠ ys.getD k 0 → decide (xs = ys) = false) := by
          intro ht
          simp
          intro e
          exact ht (by rw [e])
        generalize xs.getD k 0 = y at hck hYes hNo
        generalize ys.getD k 0 = z at hck' hYes hNo
        by_cases he : y = z
        · have hN1 := hide (hYes.out he)
          subst he
          go_wp2_with fail
          go_quiet (fail)
          go_wp2_with fail
          go_roundw
          case rel => exact ⟨k + 1, by omega, by simp, hN1, below_drewN (unhide hL) _⟩
          case measure => simp [intOf]; omega
        · have hE := hNo.out he
          have hnk : (y == z) = false := by simpa using he
          have hnk2 : (y != z) = true := by simpa using he
          go_wp2_with fail
          go_quiet (fail)
          go_wp2_with fail
          go_ret
          exact ⟨ret_bool' hE.symm, below_drewN (unhide hL) _⟩
      · have hlt2 : decide ((k : Int) < (xs.length : Int)) = false := by simp; omega
        have hE : decide (xs = ys) = true := by
          simp
          exact ints_eq HL.out (fun j hj => hN j (by omega))
        go_wp2_with fail
        go_ret
        exact ⟨ret_bool' hE.symm, unhide hL⟩
  · have hl2 : ((xs.length : Int) == (ys.length : Int)) = false := by simp; omega
    have hE : decide (xs = ys) = false := by
      simp
      intro e
      exact hl (by rw [e])
    go_enter Try.func44, Try.ntmps44
    go_wp2_with fail
    go_ret
    exact ⟨ret_bool' hE.symm, Below.refl _ _⟩

end Go.Proofs.Ytgdhlnfigcaepaa
/-
  The laws' own marks: numbers that are written into rows, and looked up again.
-/
namespace Go.Proofs.Ytgdhlnfigcaepaa
open Go.RowKit

theorem row_formI {w : World} {B : Nat} {e : TypeId} {size : Nat} {v : Value} {n : Nat} {xs : List Value} (h : w.ownsRow B e size v n xs) : ∃ ao cap, v = .slice ao n cap := by
  rcases h.2 with ⟨h1, h2⟩ | ⟨g, cap, cur, h1, _⟩
  · exact ⟨none, 0, by rw [h1, h2]⟩
  · exact ⟨some _, cap, h1⟩
/-- The numbers from one on. -/
def nums (k n : Nat) : List Int := (List.range n).map fun i => ((k + i : Nat) : Int)
theorem nums_len (k n : Nat) : (nums k n).length = n := by unfold nums; simp
theorem nums_get {k n i : Nat} (h : i < n) : (nums k n).getD i 0 = ((k + i : Nat) : Int) := by
  unfold nums
  rw [List.getD_eq_getElem?_getD]
  simp [h]
/-- The first j numbered, the rest as they were. -/
def numd (k : Nat) (xs : List Int) (j : Nat) : List Int := nums k j ++ xs.drop j
theorem numd_zero (k : Nat) (xs : List Int) : numd k xs 0 = xs := by unfold numd nums; simp
theorem numd_all (k : Nat) (xs : List Int) : numd k xs xs.length = nums k xs.length := by unfold numd; simp
theorem numd_len {k : Nat} {xs : List Int} {j : Nat} (h : j ≤ xs.length) : (numd k xs j).length = xs.length := by unfold numd; rw [List.length_append, nums_len, List.length_drop]; omega
theorem numd_set {k : Nat} {xs : List Int} {j : Nat} (h : j < xs.length) : (numd k xs j).set j ((k + j : Nat) : Int) = numd k xs (j + 1) := by
  unfold numd nums
  rw [List.range_succ, List.map_append, List.set_append_right _ _ (by simp)]
  have e : (xs.drop j).set 0 ((k + j : Nat) : Int) = ((k + j : Nat) : Int) :: xs.drop (j + 1) := by rw [List.drop_eq_getElem_cons h]; rfl
  simp at e
  simp [e]

set_option maxRecDepth 100000 in
set_option maxHeartbeats 1000000 in
theorem markIntS_any (B : Nat) (v : Value) (xs : List Int) (k : Nat) (w : World) (h : OwnI B w v xs) (hk : 0 < k) (hk2 : k ≤ 4000000) (hl : xs.length ≤ 1048576) :
    Calls Try.prog 50 #[v, .int .i64 (k : Int)] w fun e w' => e = .returned (.int .i64 ((k + xs.length : Nat) : Int)) ∧ OwnI B w' v (nums k xs.length) ∧ w.grownBy w' v.ownBlock := by
  have hO := hide h
  obtain ⟨ao, cap, hv⟩ := row_formI h
  subst hv
  clear h
  go_enter Try.func50, Try.ntmps50
  go_wp2_with fail
  go_loopw [1, 5] (fun c i wr => ∃ j : Nat, j ≤ xs.length ∧ i = .int .i64 (j : Int) ∧ c = .int .i64 ((k + j : Nat) : Int) ∧ Hid (wr.ownsRow B 3 1 (.slice ao xs.length cap) xs.length ((numd k xs j).map (Value.int .i64))) ∧ Hid (w.grownBy wr (Value.ownBlock (.slice ao xs.length cap)))) (fun _ i _ => xs.length - (intOf i).toNat)
  case atStart => exact ⟨0, by omega, rfl, by simp, by rw [numd_zero]; exact unhide hO, ⟨rfl, rfl, rfl, Nat.le_refl _, fun _ _ _ => rfl⟩⟩
  case round =>
    obtain ⟨j, hj, rfl, rfl, hOj, hG⟩ := hrel
    by_cases hlt : j < xs.length
    · have hlt2 : (j : Int) < (xs.length : Int) := by omega
      have i3 : IntKind.i64.wrap ((j : Int) + 1) = (j : Int) + 1 := by simp [IntKind.wrap, IntKind.bits, IntKind.signed]; omega
      obtain ⟨z, hz⟩ : ∃ z : Nat, z = k + j := ⟨_, rfl⟩
      rw [← hz]
      have hz1 : 0 < z := by omega
      have hz2 : z ≤ 6000000 := by omega
      have HZ := hide hz
      clear hz
      have i4 : IntKind.i64.wrap ((z : Int) + 1) = (z : Int) + 1 := by simp [IntKind.wrap, IntKind.bits, IntKind.signed]; omega
      have hOj2 := unhide hOj
      rcases hOj2.2 with ⟨q, _⟩ | ⟨g, cap', cur, hq, hBg, hcur, _⟩
      · simp at q; omega
      simp only [Value.slice.injEq] at hq
      obtain ⟨rfl, _, rfl⟩ := hq
      clear hcur
      have hml := numd_len (k := k) (xs := xs) (j := j) hj
      have hfz := hOj2.frozenAt j
      have hcell : wr.cell? ⟨g, j, none⟩ = some (.int .i64 ((numd k xs j).getD j 0)) := by
        rw [hOj2.cellAt j (by omega), List.getElem?_map, List.getElem?_eq_getElem (by omega), List.getD_eq_getElem?_getD, List.getElem?_eq_getElem (by omega)]; rfl
      obtain ⟨s1, s2⟩ := hOj2.stored j (.int .i64 (z : Int))
      rw [← List.map_set, HZ.out, numd_set hlt] at s1
      have HS1 := hide s1
      have HG3 : Hid (w.grownBy (wr.setCell ⟨g, j, none⟩ (.int .i64 (z : Int))) (some g)) := (unhide hG).trans s2
      clear s1 s2 hOj2 hOj hG hml
      generalize (numd k xs j).getD j 0 = old at hcell
      rw [← HZ.out] at HS1
      go_wp2_with fail
      go_roundw
      case rel => exact ⟨j + 1, by omega, by simp, by rw [show ((k + (j + 1) : Nat) : Int) = (z : Int) + 1 by have := HZ.out; omega], HS1, HG3⟩
      case measure => simp [intOf]; omega
    · have hlt2 : decide ((j : Int) < (xs.length : Int)) = false := by simp; omega
      have hjn : j = xs.length := by omega
      subst hjn
      rw [numd_all] at hOj
      go_wp2_with fail
      go_ret
      refine ⟨rfl, ?_, unhide hG⟩
      unfold OwnI
      rw [nums_len]
      exact unhide hOj

set_option maxRecDepth 100000 in
set_option maxHeartbeats 1000000 in
theorem heldIntS_any (v : Value) (k n : Nat) (w : World) (h : IRow w v (nums k n)) (hk : 0 < k) (hk2 : k ≤ 4000000) (hl : n ≤ 1048576) :
    Calls Try.prog 51 #[v, .int .i64 (k : Int)] w fun e w' => e = .returned (.int .i64 ((k + n : Nat) : Int)) ∧ w' = w := by
  obtain ⟨ao, cap, rfl, h1, h2, hc⟩ := h.form
  rw [nums_len] at h1 hc ⊢
  have hC := hide hc
  unfold maxLen at h2
  clear h hc
  go_enter Try.func51, Try.ntmps51
  go_wp2_with fail
  go_loop [1, 5] (fun c i => ∃ j : Nat, j ≤ n ∧ i = .int .i64 (j : Int) ∧ c = .int .i64 ((k + j : Nat) : Int)) (fun _ i => n - (intOf i).toNat)
  case atStart => exact ⟨0, by omega, rfl, by simp⟩
  case round =>
    obtain ⟨j, hj, rfl, rfl⟩ := hrel
    by_cases hlt : j < n
    · have hlt2 : (j : Int) < (n : Int) := by omega
      obtain ⟨a, rfl, hck⟩ := hC.out j hlt
      rw [nums_get hlt] at hck
      have i3 : IntKind.i64.wrap ((j : Int) + 1) = (j : Int) + 1 := by simp [IntKind.wrap, IntKind.bits, IntKind.signed]; omega
      obtain ⟨z, hz⟩ : ∃ z : Nat, z = k + j := ⟨_, rfl⟩
      rw [← hz] at hck ⊢
      have hz2 : z ≤ 6000000 := by omega
      have HZ := hide hz
      clear hz
      have i4 : IntKind.i64.wrap ((z : Int) + 1) = (z : Int) + 1 := by simp [IntKind.wrap, IntKind.bits, IntKind.signed]; omega
      go_wp2_with fail
      exact ⟨⟨j + 1, by omega, by simp, by rw [show ((k + (j + 1) : Nat) : Int) = (z : Int) + 1 by have := HZ.out; omega]⟩, by simp [intOf]; omega⟩
    · have hlt2 : decide ((j : Int) < (n : Int)) = false := by simp; omega
      have hjn : j = n := by omega
      subst hjn
      go_wp2_with fail
      go_ret
      exact ⟨rfl, rfl⟩
#print axioms markIntS_any
#print axioms heldIntS_any
end Go.Proofs.Ytgdhlnfigcaepaa
/-
  The laws' own helpers over windows that come in: how great one is; a copy of one; whether two are the same; marks.
-/
namespace Go.Proofs.Ytgdhlnfigcaepaa
open Go.RowKit

theorem IRow.alloc {w : World} {v : Value} {xs : List Int} (h : IRow w v xs) (o : Obj) : IRow (w.alloc o) v xs := h.below ((Below.refl _ _).alloc (Nat.le_refl _) o)
set_option maxHeartbeats 400000 in
theorem szIntS_any (v : Value) (xs : List Int) (left : Int) (w : World) (h : IRow w v xs) (hl : 0 ≤ left) (hl2 : left ≤ 1048576) :
    Calls Try.prog 41 #[v, .int .i64 left] w fun e w' => ∃ r : Int, e = .returned (.int .i64 r) ∧ r ≤ left ∧ (0 ≤ r → xs.length ≤ 1048576) ∧ w' = w := by
  obtain ⟨ao, cap, rfl, h1, h2, _⟩ := h.form
  unfold maxLen at h2
  clear h
  have i1 : IntKind.i64.wrap (left - (xs.length : Int)) = left - (xs.length : Int) := by simp [IntKind.wrap, IntKind.bits, IntKind.signed]; omega
  by_cases h3 : left - (xs.length : Int) < 0
  · go_enter Try.func41, Try.ntmps41
    go_wp2_with fail
    go_ret
    exact ⟨-1, rfl, by omega, fun q => by omega, rfl⟩
  · have h4 : decide (left - (xs.length : Int) < 0) = false := by simpa using h3
    go_enter Try.func41, Try.ntmps41
    go_wp2_with fail
    go_ret
    exact ⟨_, rfl, by omega, fun q => by omega, rfl⟩
set_option maxRecDepth 100000 in
set_option maxHeartbeats 1000000 in
theorem szFraWin_any (x : Win) (v : Value) (left : Int) (w : World) (h : IRow w v x.seen) (h1 : x.key.size ≤ maxLen) (hl : 0 ≤ left) (hl2 : left ≤ 1048576) :
    Calls Try.prog 18 #[.agg (x.cells v), .int .i64 left] w fun e w' => ∃ r : Int, e = .returned (.int .i64 r) ∧ r ≤ left ∧ (0 ≤ r → x.seen.length ≤ 1048576) ∧ Below w.heap.size w w' := by
  obtain ⟨key, top, xs⟩ := x
  simp only at h h1 ⊢
  unfold maxLen at h1
  have HI := hide h
  obtain ⟨ao, cap, rfl, _, _, _⟩ := h.form
  clear h
  have i1 : IntKind.i64.wrap (left - (key.size : Int)) = left - (key.size : Int) := by simp [IntKind.wrap, IntKind.bits, IntKind.signed]; omega
  have HB : Hid (Below w.heap.size w (w.alloc (.cells (winC key top (.slice ao xs.length cap)) 32))) := (Below.refl _ _).alloc (Nat.le_refl _) _
  have HI2 := hide ((unhide HI).alloc (.cells (winC key top (.slice ao xs.length cap)) 32))
  by_cases h3 : left - (key.size : Int) < 0
  · go_enter Try.func18, Try.ntmps18
    go_wp2_with fail
    go_ret
    exact ⟨-1, rfl, by omega, fun q => by omega, unhide HB⟩
  have h4 : decide (left - (key.size : Int) < 0) = false := by simpa using h3
  go_enter Try.func18, Try.ntmps18
  go_wp2_with fail
  refine (szIntS_any _ xs (left - (key.size : Int)) _ (unhide HI2) (by omega) (by omega)).mono ?_
  rintro e w1 ⟨r, rfl, hr, hn, rfl⟩
  have HN := hide hn
  clear hn
  by_cases h5 : r < 0
  · go_wp2_with fail
    go_ret
    exact ⟨-1, rfl, by omega, fun q => by omega, unhide HB⟩
  have h6 : decide (r < 0) = false := by simpa using h5
  clear h3 h5
  go_wp2_with fail
  go_ret
  exact ⟨r, rfl, by omega, unhide HN, unhide HB⟩

def partI (xs : List Int) (k : Nat) : List Value := (xs.take k).map (Value.int .i64) ++ List.replicate (xs.length - k) (Value.int .i64 0)
theorem partI_zero (xs : List Int) : partI xs 0 = List.replicate xs.length (Value.int .i64 0) := by unfold partI; simp
theorem partI_all (xs : List Int) : partI xs xs.length = xs.map (Value.int .i64) := by unfold partI; simp
theorem partI_set (xs : List Int) (k : Nat) (h : k < xs.length) : (partI xs k).set k (.int .i64 (xs.getD k 0)) = partI xs (k + 1) := by
  unfold partI
  rw [List.set_append_right _ _ (by simp; omega)]
  have e : k - ((xs.take k).map (Value.int .i64)).length = 0 := by simp; omega
  rw [e, show xs.length - k = (xs.length - (k + 1)) + 1 by omega, List.replicate_succ, List.set_cons_zero, List.take_succ_eq_append_getElem h, List.map_append, List.append_assoc, List.getD_eq_getElem?_getD, List.getElem?_eq_getElem h]
  rfl
theorem partI_at (xs : List Int) (k : Nat) (h : k < xs.length) : (partI xs k)[k]? = some (.int .i64 0) := by
  unfold partI
  rw [List.getElem?_append_right (by simp; omega)]
  simp only [List.length_map, List.length_take, List.getElem?_replicate]
  rw [if_pos (by omega)]

set_option maxRecDepth 100000 in
set_option maxHeartbeats 2000000 in
theorem toIntS_any (v : Value) (xs : List Int) (w : World) (h : IRow w v xs) (hl : xs.length ≤ 1048576) :
    Calls Try.prog 42 #[v] w fun e w' => ∃ v' : Value, e = .returned v' ∧ OwnI w.heap.size w' v' xs ∧ Below w.heap.size w w' := by
  obtain ⟨ao, cap, rfl, h1, h2, hc⟩ := h.form
  have hR := hide h
  unfold maxLen at h2
  clear h hc
  obtain ⟨i0, hi, hz0, hz1, hz2⟩ := info_parts info_int2
  have hI := hide (And.intro hi (And.intro hz0 (And.intro hz1 hz2)))
  have hB2 : Hid (i0.bytes * xs.length ≤ 281474976710656) := by show _ ≤ _; rw [hz2]; omega
  clear hi hz0 hz1 hz2
  go_enter Try.func42, Try.ntmps42
  go_wp2_with (at_make; refine wpList_make_full _ rfl _ _ 30 rfl w.heap.size 3 i0 (.int .i64 0) 1 Try.underlying30 (unhide hI).1 (unhide hI).2.1 (unhide hI).2.2.1 _ _ _ _ xs.length rfl rfl rfl rfl (unhide hB2) (by unfold maxLen; omega) (Nat.le_refl _) ?_)
  intro w1 hown hgrow
  have hO1 : Hid (w1.ownsRow w.heap.size 3 1 (.slice (some ⟨w.heap.size, 0, none⟩) xs.length xs.length) xs.length (partI xs 0)) := by
    rw [partI_zero]
    have e : (madeCells #[Value.int .i64 0] xs.length).toList = List.replicate xs.length (Value.int .i64 0) := by
      simp [madeCells, Nat.mod_one, List.map_const']
    rw [← e]
    exact hown
  have hL1 : Hid (Below w.heap.size w w1) := (Below.refl _ _).grown hgrow (Nat.le_refl _) (fun k hk => by cases hk)
  clear hown hgrow
  go_wp2_with fail
  go_loopw [4] (fun i wr => ∃ k : Nat, k ≤ xs.length ∧ i = .int .i64 (k : Int) ∧ Hid (wr.ownsRow w.heap.size 3 1 (.slice (some ⟨w.heap.size, 0, none⟩) xs.length xs.length) xs.length (partI xs k)) ∧ Hid (Below w.heap.size w wr)) (fun i _ => xs.length - (intOf i).toNat)
  case atStart => exact ⟨0, by omega, rfl, hO1, hL1⟩
  case round =>
    clear hO1 hL1
    obtain ⟨k, hk, rfl, hO, hL⟩ := hrel
    by_cases hlt : k < xs.length
    · have hlt2 : (k : Int) < (xs.length : Int) := by omega
      obtain ⟨ao', c1, q1, _, _, q2⟩ := (IRow.below (unhide hR) (unhide hL)).form
      simp only [Value.slice.injEq] at q1
      obtain ⟨rfl, _, rfl⟩ := q1
      obtain ⟨a, rfl, hck⟩ := q2 k hlt
      clear q2
      have hfz := (unhide hO).frozenAt k
      have hcell : wr.cell? ⟨w.heap.size, k, none⟩ = some (.int .i64 0) := ((unhide hO).cellAt k (by omega)).trans (partI_at xs k hlt)
      have i3 : IntKind.i64.wrap ((k : Int) + 1) = (k : Int) + 1 := by simp [IntKind.wrap, IntKind.bits, IntKind.signed]; omega
      have hS1 := (unhide hO).stored k (.int .i64 (xs.getD k 0))
      rw [partI_set xs k hlt] at hS1
      have hS2 := hide hS1
      clear hS1
      generalize xs.getD k 0 = y at hck hS2
      have hle := hL.out.size
      go_wp2_with fail
      exact ⟨⟨k + 1, by omega, by simp, hS2.out.1, (unhide hL).grown hS2.out.2 hle (fun j hj => by cases hj; exact Nat.le_refl _)⟩, by simp [intOf]; omega⟩
    · have hlt2 : decide ((k : Int) < (xs.length : Int)) = false := by simp; omega
      have hkn : k = xs.length := by omega
      subst hkn
      rw [partI_all] at hO
      go_wp2_with fail
      go_ret
      exact ⟨_, rfl, unhide hO, unhide hL⟩

set_option maxRecDepth 100000 in
set_option maxHeartbeats 2000000 in
theorem toFraWin_any (x : Win) (v : Value) (w : World) (h : IRow w v x.seen) (hl : x.seen.length ≤ 1048576) :
    Calls Try.prog 20 #[.agg (x.cells v)] w fun e w' => ∃ v' : Value, e = .returned (.agg (x.cells v')) ∧ OwnI w.heap.size w' v' x.seen ∧ Below w.heap.size w w' := by
  obtain ⟨key, top, xs⟩ := x
  simp only at h hl ⊢
  have HI := hide h
  obtain ⟨ao, cap, rfl, _, _, _⟩ := h.form
  clear h
  have a1' := ((Blk.new (w.alloc (.cells (winC key top (.slice ao xs.length cap)) 32)) 35 noWin).alloc (.cells (winC key top (.slice none 0 0)) 35))
  have b1' := Blk.new ((w.alloc (.cells (winC key top (.slice ao xs.length cap)) 32)).alloc (.cells noWin 35)) 35 (winC key top (.slice none 0 0))
  have HB := hide ((((Below.refl w.heap.size w).alloc (Nat.le_refl _) (.cells (winC key top (.slice ao xs.length cap)) 32)).alloc (by simp) (.cells noWin 35)).alloc (by simp; omega) (.cells (winC key top (.slice none 0 0)) 35))
  simp only [World.size_alloc] at a1' b1'
  have R := hide a1'
  have V := hide b1'
  clear a1' b1'
  go_enter Try.func20, Try.ntmps20
  go_wp2_with fail
  refine (toIntS_any _ xs _ ((unhide HI).below HB.out) hl).mono ?_
  rintro e w1 ⟨v1, rfl, ho1, hb⟩
  replace R := hide ((unhide R).below hb)
  replace V := hide ((unhide V).below hb)
  have k1 : OwnI w.heap.size w1 v1 xs := row_lowB ho1 HB.out.size
  replace HB := hide (HB.out.trans (hb.mono HB.out.size))
  clear hb ho1
  obtain ⟨o1, n1, rfl⟩ := row_form' k1
  have c2 := (unhide V).cell 2
  have f2 := (unhide V).frozen 2
  simp only [List.getElem?_toArray, List.getElem?_cons_succ, List.getElem?_cons_zero] at c2
  have v2 := heap_setAt (i := 2) (unhide V) (.slice o1 xs.length n1)
  simp only [List.setIfInBounds_toArray, List.set_cons_zero, List.set_cons_succ] at v2
  have K1 : Hid (OwnI w.heap.size (w1.setCell ⟨w.heap.size + 1 + 1, 2, none⟩ (.slice o1 xs.length n1)) (.slice o1 xs.length n1) xs) := row_setC k1 (unhide V) (by decide) _
  replace R := hide ((unhide R).otherC (b' := w.heap.size + 1 + 1) (i := 2) (by omega) (.slice o1 xs.length n1))
  replace HB := hide (HB.out.setCell (p := ⟨w.heap.size + 1 + 1, 2, none⟩) (by show w.heap.size ≤ w.heap.size + 1 + 1; omega) (.slice o1 xs.length n1))
  have l1 := load_wi v2 rfl
  have l2 := load_wi ((unhide R).set (winC key top (.slice o1 xs.length n1))) rfl
  clear v2 k1 V
  go_wp2_with (first | refine wpList_load_whole rfl 35 _ rfl ⟨w.heap.size + 1 + 1, 0, none⟩ rfl _ l1 ?_ | refine wpList_store_whole rfl 35 (.tmp 2) (.tmp 14) rfl (w.heap.size + 1) (winC key top (.slice o1 xs.length n1)) ?hx ?hy 35 noWin ?hb ?hi ?ho ?h1 ?h)
  any_goals (first | rfl | exact unhide R | exact info_wi | exact one_wi _ _ _ _ _)
  go_wp2_with fail
  refine bodyPost_ret (v := .agg (winC key top (.slice o1 xs.length n1))) (results_cell rfl rfl l2) rfl ?_
  exact ⟨_, rfl, row_blk (unhide K1) (unhide R) (by decide) _, below_blk HB.out (by omega) _⟩

set_option maxRecDepth 100000 in
set_option maxHeartbeats 1000000 in
theorem eqFraWin_same (x : Win) (v u : Value) (w : World) (h : IRow w v x.seen) (k : IRow w u x.seen) :
    Calls Try.prog 22 #[.agg (x.cells v), .agg (x.cells u)] w fun e w' => e = .returned (.bool true) ∧ Below w.heap.size w w' := by
  obtain ⟨key, top, xs⟩ := x
  simp only at h k ⊢
  have HI := hide h
  have HJ := hide k
  obtain ⟨ao, cap, rfl, _, _, _⟩ := h.form
  obtain ⟨bo, cap', rfl, _, _, _⟩ := k.form
  clear h k
  have HB := hide (((Below.refl w.heap.size w).alloc (Nat.le_refl _) (.cells (winC key top (.slice ao xs.length cap)) 35)).alloc (by simp) (.cells (winC key top (.slice bo xs.length cap')) 35))
  go_enter Try.func22, Try.ntmps22
  go_wp2_with fail
  refine (eqIntS_any _ _ xs xs _ ((unhide HI).below HB.out) ((unhide HJ).below HB.out)).mono ?_
  rw [show decide (xs = xs) = true by simp]
  rintro e w1 ⟨rfl, hb⟩
  replace HB := hide (HB.out.trans (hb.mono HB.out.size))
  clear hb
  go_wp2_with fail
  go_ret
  exact ⟨rfl, unhide HB⟩
#print axioms toFraWin_any
#print axioms eqFraWin_same
end Go.Proofs.Ytgdhlnfigcaepaa
/-
  The laws' own marks of windows.
-/
namespace Go.Proofs.Ytgdhlnfigcaepaa
open Go.RowKit

set_option maxRecDepth 100000 in
set_option maxHeartbeats 1000000 in
theorem markFraWin_any (B : Nat) (x : Win) (v : Value) (k : Nat) (w : World) (h : OwnI B w v x.seen) (hk : 0 < k) (hk2 : k ≤ 4000000) (hl : x.seen.length ≤ 1048576) :
    Calls Try.prog 25 #[.agg (x.cells v), .int .i64 (k : Int)] w fun e w' => e = .returned (.int .i64 ((k + x.seen.length : Nat) : Int)) ∧ OwnI B w' v (nums k x.seen.length) ∧ w.grownBy w' v.ownBlock := by
  obtain ⟨key, top, xs⟩ := x
  simp only at h hl ⊢
  have HO := hide h
  obtain ⟨o1, n1, rfl⟩ := row_form' h
  clear h
  have HO2 : Hid (OwnI B (w.alloc (.cells (winC key top (.slice o1 xs.length n1)) 35)) (.slice o1 xs.length n1) xs) := World.ownsRow.alloc (unhide HO) _
  have HG0 := hide (World.grownBy_alloc w (.cells (winC key top (.slice o1 xs.length n1)) 35) (Value.ownBlock (.slice o1 xs.length n1)))
  go_enter Try.func25, Try.ntmps25
  go_wp2_with fail
  refine (markIntS_any B _ xs k _ (unhide HO2) hk hk2 hl).mono ?_
  rintro e w1 ⟨rfl, ho, hg⟩
  have HO3 := hide ho
  have HG := hide ((unhide HG0).trans hg)
  clear ho hg
  go_wp2_with fail
  go_ret
  exact ⟨rfl, unhide HO3, unhide HG⟩
set_option maxRecDepth 100000 in
set_option maxHeartbeats 1000000 in
theorem heldFraWin_any (key : ByteArray) (top : Int) (v : Value) (k n : Nat) (w : World) (h : IRow w v (nums k n)) (hk : 0 < k) (hk2 : k ≤ 4000000) (hl : n ≤ 1048576) :
    Calls Try.prog 26 #[.agg (winC key top v), .int .i64 (k : Int)] w fun e w' => e = .returned (.int .i64 ((k + n : Nat) : Int)) ∧ Below w.heap.size w w' := by
  have HI := hide h
  obtain ⟨ao, cap, rfl, _, _, _⟩ := h.form
  clear h
  rw [nums_len] at HI ⊢
  have HB : Hid (Below w.heap.size w (w.alloc (.cells (winC key top (.slice ao n cap)) 35))) := (Below.refl _ _).alloc (Nat.le_refl _) _
  go_enter Try.func26, Try.ntmps26
  go_wp2_with fail
  refine (heldIntS_any _ k n _ ((unhide HI).below HB.out) hk hk2 hl).mono ?_
  obtain ⟨z, hz⟩ : ∃ z : Int, ((k + n : Nat) : Int) = z := ⟨_, rfl⟩
  rw [hz]
  have hz0 : decide (z < 0) = false := by simp; omega
  rintro e w1 ⟨rfl, rfl⟩
  go_wp2_with fail
  go_ret
  exact ⟨by rw [hz]; rfl, unhide HB⟩
#print axioms markFraWin_any
#print axioms heldFraWin_any
end Go.Proofs.Ytgdhlnfigcaepaa
/-
  Slices of numbers of the call's own, their rows between two numbers. No Go function in it.
-/
namespace Go.Proofs.Ytgdhlnfigcaepaa
open Go.RowKit

/-- Numbers, so. -/
def IIn (lo hi : Nat) (w : World) (v : Value) (xs : List Int) : Prop := RowIn lo hi 3 1 w v xs.length (xs.map (Value.int .i64))
theorem IIn.of {lo : Nat} {w : World} {v : Value} {xs : List Int} (h : OwnI lo w v xs) : IIn lo w.heap.size w v xs := RowIn.of h
theorem IIn.irow {lo hi : Nat} {w : World} {v : Value} {xs : List Int} (h : IIn lo hi w v xs) : IRow w v xs := OwnI.irow h.1
theorem IIn.below {lo hi : Nat} {w w' : World} {v : Value} {xs : List Int} (h : IIn lo hi w v xs) (hb : Below w.heap.size w w') : IIn lo hi w' v xs := RowIn.below h hb
theorem IIn.grown {lo hi : Nat} {w w' : World} {v : Value} {xs : List Int} {r : Option Nat} (h : IIn lo hi w v xs) (hg : w.grownBy w' r) (hr : ∀ k, r = some k → k < lo ∨ hi ≤ k) : IIn lo hi w' v xs := RowIn.grown h hg hr
theorem IIn.drew {lo hi : Nat} {w : World} {v : Value} {xs : List Int} (h : IIn lo hi w v xs) : IIn lo hi w.drew v xs := h.below (Below.refl _ _).drew
end Go.Proofs.Ytgdhlnfigcaepaa
/-
  The specification's l4In.
-/
namespace Go.Proofs.Ytgdhlnfigcaepaa
open Go.RowKit

set_option maxHeartbeats 1000000 in
theorem l4In_any (v : Value) (xs : List Int) (n : Int) (w : World) (h : IRow w v xs) :
    Calls Try.prog 63 #[v, .int .i64 n] w fun e w' => e = .returned (.bool (decide (n ∈ xs))) ∧ w' = w := by
  obtain ⟨ao, cap, rfl, h1, h2, hc⟩ := h.form
  unfold maxLen at h2
  have HC := hide hc
  clear h hc
  go_enter Try.func63, Try.ntmps63
  go_wp2_with fail
  go_loop [5] (fun i => ∃ k : Nat, k ≤ xs.length ∧ i = .int .i64 (k : Int) ∧ Hid (∀ j, j < k → xs.getD j 0 ≠ n)) (fun i => xs.length - (intOf i).toNat)
  case atStart => exact ⟨0, by omega, rfl, fun j hj => by omega⟩
  case round =>
    obtain ⟨k, hk, rfl, hN⟩ := hrel
    by_cases hlt : k < xs.length
    · have hlt2 : (k : Int) < (xs.length : Int) := by omega
      obtain ⟨a, rfl, hck⟩ := HC.out k hlt
      have i3 : IntKind.i64.wrap ((k : Int) + 1) = (k : Int) + 1 := by simp [IntKind.wrap, IntKind.bits, IntKind.signed]; omega
      have HYES : Hid (xs.getD k 0 = n → decide (n ∈ xs) = true) := by
        intro e
        rw [decide_eq_true_eq, ← e, List.getD_eq_getElem?_getD, List.getElem?_eq_getElem hlt]
        exact List.getElem_mem _
      have HNX : Hid (xs.getD k 0 ≠ n → ∀ j, j < k + 1 → xs.getD j 0 ≠ n) := fun q j hj => by
        by_cases e : j = k
        · subst e; exact q
        · exact hN.out j (by omega)
      generalize xs.getD k 0 = y at hck HYES HNX
      by_cases he : y = n
      · have HE := hide (HYES.out he)
        have he2 : (y == n) = true := by simpa using he
        clear HYES HNX he
        go_wp2_with fail
        go_ret
        exact ⟨ret_bool' HE.out.symm, rfl⟩
      · have HN1 := hide (HNX.out he)
        have he2 : (y == n) = false := by simpa using he
        clear HYES HNX he
        go_wp2_with fail
        go_round
        case rel => exact ⟨k + 1, by omega, by simp, HN1⟩
        case measure => simp [intOf]; omega
    · have hlt2 : decide ((k : Int) < (xs.length : Int)) = false := by simp; omega
      have HE : Hid (decide (n ∈ xs) = false) := by
        show _ = _
        rw [decide_eq_false_iff_not]
        intro hm
        obtain ⟨j, hj, e⟩ := List.mem_iff_getElem.1 hm
        refine hN.out j (by omega) ?_
        rw [List.getD_eq_getElem?_getD, List.getElem?_eq_getElem hj]
        exact e
      go_wp2_with fail
      go_ret
      exact ⟨ret_bool' HE.out.symm, rfl⟩
#print axioms l4In_any
end Go.Proofs.Ytgdhlnfigcaepaa
/-
  A region that draws its order: whatever yields its value in every later world may be taken first; so what makes or writes memory alone comes up, one by one; what waits for all others may write what it likes.
-/
namespace Go.Proofs.Ytgdhlnfigcaepaa
open Go.RowKit

/-- An order of worlds. -/
structure Pre (R : World → World → Prop) : Prop where
  refl : ∀ w, R w w
  trans : ∀ u v w, R u v → R v w → R u w

section
variable {P : Program} {ops : Array Oper} {Q : Exit → Act → World → Prop} {md : Region.Mode} {R : World → World → Prop}

/-- Operation j waits for all others. -/
def waitsB (md : Region.Mode) (ops : Array Oper) (j : Nat) : Bool :=
  (List.range ops.size).all fun k => k == j || ((ops[j]?).map (fun o => o.after.any fun e => Region.binds md e && e.on == k)).getD false

/-- Whatever order is picked from here on, and each operation leads from a world to a later one, but one that waits for all others. -/
def wpAnyR (P : Program) (md : Region.Mode) (ops : Array Oper) (Q : Exit → Act → World → Prop) (R : World → World → Prop) : Nat → Array Bool → Act → World → Prop
  | 0, listed, a, w => Region.ready md ops listed = [] ∧ Q .normal a w
  | fuel + 1, listed, a, w =>
    (Region.ready md ops listed = [] → Q .normal a w) ∧
    ∀ i ∈ Region.ready md ops listed, wpOp P ops Q i (fun a' w' => (waitsB md ops i = true ∧ Region.ready md ops (listed.setIfInBounds i true) = [] ∧ Q .normal a' w') ∨ (R w w' ∧ wpAnyR P md ops Q R fuel (listed.setIfInBounds i true) a' w')) a w

theorem wpAny_of_R : ∀ (fuel : Nat) (listed : Array Bool) (a : Act) (w : World), wpAnyR P md ops Q R fuel listed a w → wpAny P md ops Q fuel listed a w
  | 0, _, _, _, h => h
  | fuel + 1, _, _, _, h => ⟨h.1, fun i hi => wpOp_mono (fun a' w' h' => by
      rcases h' with ⟨_, h1, h2⟩ | h'
      · cases fuel with
        | zero => exact ⟨h1, h2⟩
        | succ f => exact ⟨fun _ => h2, by rw [h1]; simp⟩
      · exact wpAny_of_R fuel _ a' w' h'.2) (h.2 i hi)⟩

theorem YieldsIf.later {S S' : World → Prop} {o : Oper} {v : Value} {a : Act} (h : YieldsIf P ops S o v a) (hs : ∀ w, S' w → S w) : YieldsIf P ops S' o v a :=
  h.imp (fun ⟨hw, hv⟩ => ⟨hw, fun w hS => hv w (hs w hS)⟩) id

theorem waits_spec {j i : Nat} {oj : Oper} (hj : ops[j]? = some oj) (h : waitsB md ops j = true) (hi : i < ops.size) (hne : i ≠ j) : ∃ e ∈ oj.after, Region.binds md e = true ∧ e.on = i := by
  unfold waitsB at h
  rw [List.all_eq_true] at h
  have h1 := h i (by rw [List.mem_range]; exact hi)
  rw [hj] at h1
  simp only [Option.map_some, Option.getD_some, Bool.or_eq_true, beq_iff_eq, hne, false_or, Array.any_eq_true', Bool.and_eq_true] at h1
  exact h1

theorem wpAnyR_first (hP : Pre R) {i : Nat} {oi : Oper} {v : Value} (hi : ops[i]? = some oi) (hsel : ∀ (j : Nat) (o : Oper) cs b, ops[j]? = some o → o.op ≠ .select cs b)
    (hQ : ∀ c a w, Q (.panic c) (a.put oi.dst v) w → Q (.panic c) a w) :
    ∀ (fuel : Nat) (listed : Array Bool) (a : Act) (w : World),
      (∀ j oj, ops[j]? = some oj → j ≠ i → listed.getD j true = false → (∀ e ∈ oj.after, Region.binds md e = true → e.on ≠ i) → oi.apart ops oj = true) →
      i ∈ Region.ready md ops listed → YieldsIf P ops (R w) oi v a →
      wpAnyR P md ops Q R fuel (listed.setIfInBounds i true) (a.put oi.dst v) w → wpAnyR P md ops Q R (fuel + 1) listed a w := by
  intro fuel
  induction fuel with
  | zero =>
    intro listed a w _ hr hy H
    refine ⟨fun h => (by rw [h] at hr; cases hr), fun j hj => ?_⟩
    by_cases hji : j = i
    · subst hji; exact hy.wpOp hi (hP.refl w) (.inr ⟨hP.refl w, H⟩)
    · have := ready_mono hj hji
      rw [H.1] at this
      cases this
  | succ fuel ih =>
    intro listed a w hfree hr hy H
    refine ⟨fun h => (by rw [h] at hr; cases hr), fun j hj => ?_⟩
    by_cases hji : j = i
    · subst hji; exact hy.wpOp hi (hP.refl w) (.inr ⟨hP.refl w, H⟩)
    · have h1 := H.2 j (ready_mono hj hji)
      obtain ⟨hjun, oj, hoj, hall⟩ := mem_ready.1 hj
      have hnot : ∀ e ∈ oj.after, Region.binds md e = true → e.on ≠ i := fun e he hb heq => by
        have h1 := hall e he hb
        have h0 := (mem_ready.1 hr).1
        rw [heq] at h1
        rcases Nat.lt_or_ge i listed.size with h' | h'
        · simp [h'] at h0 h1; rw [h0] at h1; cases h1
        · simp [Array.getElem?_eq_none h'] at h1
      have hnw : ¬ waitsB md ops j = true := fun q => by
        obtain ⟨e, he, hb, heq⟩ := waits_spec hoj q (Array.getElem?_eq_some_iff.1 hi).1 (Ne.symm hji)
        exact hnot e he hb heq
      have h2 := wpOp_putIf hoj (hfree j oj hoj hji hjun hnot) (fun cs b => hsel i oi cs b hi) (fun cs b => hsel j oj cs b hoj) hQ hy h1
      have hfree' : ∀ k ok, ops[k]? = some ok → k ≠ i → (listed.setIfInBounds j true).getD k true = false →
          (∀ e ∈ ok.after, Region.binds md e = true → e.on ≠ i) → oi.apart ops ok = true := fun k ok hk hki hun hno => by
        refine hfree k ok hk hki ?_ hno
        by_cases hjk : j = k
        · subst hjk; exact hjun
        · rw [getD_set_ne true hjk] at hun; exact hun
      refine wpOp_mono (fun a' w' h3 => ?_) h2
      rcases h3.2 with ⟨q, _⟩ | ⟨h4, h5⟩
      · exact absurd q hnw
      refine .inr ⟨h4, ih (listed.setIfInBounds j true) a' w' hfree' (ready_mono hr (Ne.symm hji)) (YieldsIf.later h3.1 (fun u hu => hP.trans _ _ _ h4 hu)) ?_⟩
      rw [Array.setIfInBounds_comm _ _ hji]
      exact h5

/-- Take number i first: it yields v in every later world. -/
theorem ord_take (hP : Pre R) {i d : Nat} {v : Value} {fuel : Nat} {listed : Array Bool} {a : Act} {w : World}
    (hs : Region.noSelect ops = true) (hf : Region.free md ops listed i = true) (hr : (Region.ready md ops listed).contains i = true) (hd : (ops[i]?).bind (·.dst) = some d)
    (hQ : ∀ c a w, Q (.panic c) (a.put (some d) v) w → Q (.panic c) a w)
    (hy : ∀ oi, ops[i]? = some oi → Region.wanted oi (yielded ops a.tmps) = true ∧ ∀ w', R w w' → (execOp a.eval oi).run P w' = .ok (.value v) w')
    (h : wpAnyR P md ops Q R fuel (listed.setIfInBounds i true) (a.put (some d) v) w) : wpAnyR P md ops Q R (fuel + 1) listed a w := by
  cases hi : ops[i]? with
  | none => rw [hi] at hd; cases hd
  | some oi =>
    rw [hi] at hd
    have hd' : oi.dst = some d := hd
    rw [← hd'] at h hQ
    exact wpAnyR_first hP hi (Region.noSelect_spec hs) hQ fuel listed a w (Region.free_spec hi hf) (by simpa using hr) (.inl (hy oi hi)) h
/-- Take number i first: it is not wanted. -/
theorem ord_skip (hP : Pre R) {i d : Nat} {fuel : Nat} {listed : Array Bool} {a : Act} {w : World}
    (hs : Region.noSelect ops = true) (hf : Region.free md ops listed i = true) (hr : (Region.ready md ops listed).contains i = true) (hd : (ops[i]?).bind (·.dst) = some d)
    (hQ : ∀ c a w, Q (.panic c) (a.put (some d) undef) w → Q (.panic c) a w)
    (hy : ((ops[i]?).map fun oi => Region.wanted oi (yielded ops a.tmps)) = some false)
    (h : wpAnyR P md ops Q R fuel (listed.setIfInBounds i true) (a.put (some d) undef) w) : wpAnyR P md ops Q R (fuel + 1) listed a w := by
  cases hi : ops[i]? with
  | none => rw [hi] at hd; cases hd
  | some oi =>
    rw [hi] at hd hy
    have hd' : oi.dst = some d := hd
    rw [← hd'] at h hQ
    exact wpAnyR_first hP hi (Region.noSelect_spec hs) hQ fuel listed a w (Region.free_spec hi hf) (by simpa using hr) (.inr ⟨by simpa using hy, rfl⟩) h
/-- Number i alone comes up. -/
theorem ord_one {i : Nat} {fuel : Nat} {listed : Array Bool} {a : Act} {w : World} (hr : Region.ready md ops listed = [i])
    (h : ∀ oi K, ops[i]? = some oi → Shut (∀ a' w', R w w' → wpAnyR P md ops Q R fuel (listed.setIfInBounds i true) a' w' → K a' w') → Region.wanted oi (yielded ops a.tmps) = true ∧ oi.wp P a w K Q) : wpAnyR P md ops Q R (fuel + 1) listed a w := by
  refine ⟨fun h0 => (by rw [hr] at h0; cases h0), fun j hj => ?_⟩
  rw [hr] at hj
  obtain rfl : j = i := by simpa using hj
  unfold wpOp
  cases hi : ops[j]? with
  | none =>
    have : j ∈ Region.ready md ops listed := by rw [hr]; simp
    obtain ⟨_, o, ho, _⟩ := mem_ready.1 this
    rw [hi] at ho
    cases ho
  | some oi =>
    obtain ⟨hw, hwp⟩ := h oi (fun a' w' => (waitsB md ops j = true ∧ Region.ready md ops (listed.setIfInBounds j true) = [] ∧ Q .normal a' w') ∨ (R w w' ∧ wpAnyR P md ops Q R fuel (listed.setIfInBounds j true) a' w')) hi (fun a' w' hl hk => .inr (And.intro hl hk))
    simp only [hw, if_true]
    exact .inl hwp
/-- Number i comes up last: it waits for all others. -/
theorem ord_last {i : Nat} {fuel : Nat} {listed : Array Bool} {a : Act} {w : World} (hr : Region.ready md ops listed = [i]) (hwt : waitsB md ops i = true) (he : Region.ready md ops (listed.setIfInBounds i true) = [])
    (h : ∀ oi K, ops[i]? = some oi → Shut (∀ a' w', Q .normal a' w' → K a' w') → Region.wanted oi (yielded ops a.tmps) = true ∧ oi.wp P a w K Q) : wpAnyR P md ops Q R (fuel + 1) listed a w := by
  refine ⟨fun h0 => (by rw [hr] at h0; cases h0), fun j hj => ?_⟩
  rw [hr] at hj
  obtain rfl : j = i := by simpa using hj
  unfold wpOp
  cases hi : ops[j]? with
  | none =>
    have : j ∈ Region.ready md ops listed := by rw [hr]; simp
    obtain ⟨_, o, ho, _⟩ := mem_ready.1 this
    rw [hi] at ho
    cases ho
  | some oi =>
    obtain ⟨hw, hwp⟩ := h oi (fun a' w' => (waitsB md ops j = true ∧ Region.ready md ops (listed.setIfInBounds j true) = [] ∧ Q .normal a' w') ∨ (R w w' ∧ wpAnyR P md ops Q R fuel (listed.setIfInBounds j true) a' w')) hi (fun a' w' hl => .inl ⟨hwt, he, hl⟩)
    simp only [hw, if_true]
    exact .inl hwp
/-- All have come up. -/
theorem later_done {listed : Array Bool} {a : Act} {w : World} (hr : Region.ready md ops listed = []) (h : Q .normal a w) : ∀ fuel, wpAnyR P md ops Q R fuel listed a w
  | 0 => ⟨hr, h⟩
  | _ + 1 => ⟨fun _ => h, by rw [hr]; simp⟩
/-- The beginning. -/
theorem wp_region_ord (R : World → World → Prop) {id : Nat} {a : Act} {w : World} (hm : P.follows .mixedOrders = true)
    (h : wpAnyR P .any ops Q R ops.size (Array.replicate ops.size false) a w.drew) : (Code.region id ops true).wp P Q a w :=
  wp_region_any hm (wpAny_of_R _ _ _ _ h)
end

/-- Later worlds: what was there is as it was. -/
def Later (w w' : World) : Prop := Below w.heap.size w w'
theorem laterPre : Pre Later := ⟨fun _ => Below.refl _ _, fun _ _ _ h k => Below.trans h (Below.mono k h.size)⟩
/-- Worlds in which what lay below B is as it was. -/
theorem belowPre (B : Nat) : Pre (Below B) := ⟨fun _ => Below.refl _ _, fun _ _ _ h k => Below.trans h k⟩

section
variable {P : Program} {ops : Array Oper} {Q : Exit → Act → World → Prop} {md : Region.Mode}
theorem later_take {i d : Nat} {v : Value} {fuel : Nat} {listed : Array Bool} {a : Act} {w : World}
    (hs : Region.noSelect ops = true) (hf : Region.free md ops listed i = true) (hr : (Region.ready md ops listed).contains i = true) (hd : (ops[i]?).bind (·.dst) = some d)
    (hQ : ∀ c a w, Q (.panic c) (a.put (some d) v) w → Q (.panic c) a w)
    (hy : ∀ oi, ops[i]? = some oi → Region.wanted oi (yielded ops a.tmps) = true ∧ ∀ w', Later w w' → (execOp a.eval oi).run P w' = .ok (.value v) w')
    (h : wpAnyR P md ops Q Later fuel (listed.setIfInBounds i true) (a.put (some d) v) w) : wpAnyR P md ops Q Later (fuel + 1) listed a w := ord_take laterPre hs hf hr hd hQ hy h
theorem later_skip {i d : Nat} {fuel : Nat} {listed : Array Bool} {a : Act} {w : World}
    (hs : Region.noSelect ops = true) (hf : Region.free md ops listed i = true) (hr : (Region.ready md ops listed).contains i = true) (hd : (ops[i]?).bind (·.dst) = some d)
    (hQ : ∀ c a w, Q (.panic c) (a.put (some d) undef) w → Q (.panic c) a w)
    (hy : ((ops[i]?).map fun oi => Region.wanted oi (yielded ops a.tmps)) = some false)
    (h : wpAnyR P md ops Q Later fuel (listed.setIfInBounds i true) (a.put (some d) undef) w) : wpAnyR P md ops Q Later (fuel + 1) listed a w := ord_skip laterPre hs hf hr hd hQ hy h
theorem later_one {i : Nat} {fuel : Nat} {listed : Array Bool} {a : Act} {w : World} (hr : Region.ready md ops listed = [i])
    (h : ∀ oi K, ops[i]? = some oi → Shut (∀ a' w', Later w w' → wpAnyR P md ops Q Later fuel (listed.setIfInBounds i true) a' w' → K a' w') → Region.wanted oi (yielded ops a.tmps) = true ∧ oi.wp P a w K Q) : wpAnyR P md ops Q Later (fuel + 1) listed a w := ord_one hr h
theorem wp_region_later {id : Nat} {a : Act} {w : World} (hm : P.follows .mixedOrders = true)
    (h : wpAnyR P .any ops Q Later ops.size (Array.replicate ops.size false) a w.drew) : (Code.region id ops true).wp P Q a w := wp_region_ord Later hm h
end
#print axioms wp_region_later
end Go.Proofs.Ytgdhlnfigcaepaa
/-
  A region that draws its order: two that make memory may come up, one ahead of the other.
-/
namespace Go.Proofs.Ytgdhlnfigcaepaa
open Go.RowKit
section
variable {P : Program} {ops : Array Oper} {Q : Exit → Act → World → Prop} {md : Region.Mode} {R : World → World → Prop}
theorem ord_two {i j : Nat} {fuel : Nat} {listed : Array Bool} {a : Act} {w : World} (hr : Region.ready md ops listed = [i, j])
    (h : ∀ oi K, ops[i]? = some oi → Shut (∀ a' w', R w w' → wpAnyR P md ops Q R fuel (listed.setIfInBounds i true) a' w' → K a' w') → Region.wanted oi (yielded ops a.tmps) = true ∧ oi.wp P a w K Q)
    (k : ∀ oi K, ops[j]? = some oi → Shut (∀ a' w', R w w' → wpAnyR P md ops Q R fuel (listed.setIfInBounds j true) a' w' → K a' w') → Region.wanted oi (yielded ops a.tmps) = true ∧ oi.wp P a w K Q) : wpAnyR P md ops Q R (fuel + 1) listed a w := by
  refine ⟨fun h0 => (by rw [hr] at h0; cases h0), fun z hz => ?_⟩
  have step : ∀ z, z ∈ Region.ready md ops listed → (∀ oi K, ops[z]? = some oi → Shut (∀ a' w', R w w' → wpAnyR P md ops Q R fuel (listed.setIfInBounds z true) a' w' → K a' w') → Region.wanted oi (yielded ops a.tmps) = true ∧ oi.wp P a w K Q) →
      wpOp P ops Q z (fun a' w' => (waitsB md ops z = true ∧ Region.ready md ops (listed.setIfInBounds z true) = [] ∧ Q .normal a' w') ∨ (R w w' ∧ wpAnyR P md ops Q R fuel (listed.setIfInBounds z true) a' w')) a w := by
    intro z hm hh
    unfold wpOp
    cases hi : ops[z]? with
    | none =>
      obtain ⟨_, o, ho, _⟩ := mem_ready.1 hm
      rw [hi] at ho
      cases ho
    | some oi =>
      obtain ⟨hw, hwp⟩ := hh oi (fun a' w' => (waitsB md ops z = true ∧ Region.ready md ops (listed.setIfInBounds z true) = [] ∧ Q .normal a' w') ∨ (R w w' ∧ wpAnyR P md ops Q R fuel (listed.setIfInBounds z true) a' w')) hi (fun a' w' hl hk => .inr (And.intro hl hk))
      simp only [hw, if_true]
      exact .inl hwp
  rw [hr] at hz
  rcases (by simpa using hz : z = i ∨ z = j) with rfl | rfl
  · exact step z (by rw [hr]; simp) h
  · exact step z (by rw [hr]; simp) k
theorem later_two {i j : Nat} {fuel : Nat} {listed : Array Bool} {a : Act} {w : World} (hr : Region.ready md ops listed = [i, j])
    (h : ∀ oi K, ops[i]? = some oi → Shut (∀ a' w', Later w w' → wpAnyR P md ops Q Later fuel (listed.setIfInBounds i true) a' w' → K a' w') → Region.wanted oi (yielded ops a.tmps) = true ∧ oi.wp P a w K Q)
    (k : ∀ oi K, ops[j]? = some oi → Shut (∀ a' w', Later w w' → wpAnyR P md ops Q Later fuel (listed.setIfInBounds j true) a' w' → K a' w') → Region.wanted oi (yielded ops a.tmps) = true ∧ oi.wp P a w K Q) : wpAnyR P md ops Q Later (fuel + 1) listed a w := ord_two hr h k
end
end Go.Proofs.Ytgdhlnfigcaepaa
/-
  A drawn region's order of worlds: a list of cells stays. No Go function in it.
-/
namespace Go.Proofs.Ytgdhlnfigcaepaa
open Go.RowKit

/-- Cells that stay. -/
def KeepC (L : List Addr) (u u' : World) : Prop := ∀ a ∈ L, u'.cell? a = u.cell? a
theorem keepCPre (L : List Addr) : Pre (KeepC L) := ⟨fun _ _ _ => rfl, fun _ _ _ h k a ha => (k a ha).trans (h a ha)⟩

theorem keepC_below {L : List Addr} {u u' : World} (h : Below u.heap.size u u') (hl : ∀ a ∈ L, a.block < u.heap.size) : KeepC L u u' := fun a ha => h.cell (hl a ha)
theorem keepC_grown {L : List Addr} {u u' : World} {r : Option Nat} (h : u.grownBy u' r) (hl : ∀ a ∈ L, a.block < u.heap.size ∧ some a.block ≠ r) : KeepC L u u' := fun a ha => World.cell?_of_block (w := u) (h.block a.block (hl a ha).1 (hl a ha).2)
/-- A value of several cells is stored whole, in a drawn region. -/
theorem keepC_row {L : List Addr} {u : World} {b : Nat} {cs : Array Value} (hl : ∀ a ∈ L, a.block < u.heap.size ∧ a.block ≠ b) (hg : u.grownBy (u.setRow b cs) (some b)) : KeepC L u (u.setRow b cs) := keepC_grown hg (fun a ha => ⟨(hl a ha).1, fun e => (hl a ha).2 (by cases e; rfl)⟩)
end Go.Proofs.Ytgdhlnfigcaepaa
/-
  Results of which one lies in a block. No Go function in it.
-/
namespace Go.Proofs.Ytgdhlnfigcaepaa
open Go.RowKit

theorem results_cs {P : Program} {fn : Func} {a t s : Nat} {tmps : Array Value} {w : World} {b : Addr} {v x : Value} (h : fn.results = #[.cell a t, .tmp s]) (hp : tmps.getD a undef = .pointer (some b)) (hx : tmps.getD s undef = x) (hl : (loadVar t b).run P w = .ok v w) : (results fn tmps).run P w = .ok (.tuple #[v, x]) w := by
  have hp' : tmps[a]?.getD undef = .pointer (some b) := by simpa using hp
  have hx' : tmps[s]?.getD undef = x := by simpa using hx
  simp [results, h, hp', hx', asAddr, hl]
theorem results_ccs {P : Program} {fn : Func} {a t c u s : Nat} {tmps : Array Value} {w : World} {b d : Addr} {v y x : Value} (h : fn.results = #[.cell a t, .cell c u, .tmp s]) (hp : tmps.getD a undef = .pointer (some b)) (hq : tmps.getD c undef = .pointer (some d)) (hx : tmps.getD s undef = x) (hl : (loadVar t b).run P w = .ok v w) (hm : (loadVar u d).run P w = .ok y w) : (results fn tmps).run P w = .ok (.tuple #[v, y, x]) w := by
  have hp' : tmps[a]?.getD undef = .pointer (some b) := by simpa using hp
  have hq' : tmps[c]?.getD undef = .pointer (some d) := by simpa using hq
  have hx' : tmps[s]?.getD undef = x := by simpa using hx
  simp [results, h, hp', hq', hx', asAddr, hl, hm]
theorem results_cc {P : Program} {fn : Func} {a t c u : Nat} {tmps : Array Value} {w : World} {b d : Addr} {v y : Value} (h : fn.results = #[.cell a t, .cell c u]) (hp : tmps.getD a undef = .pointer (some b)) (hq : tmps.getD c undef = .pointer (some d)) (hl : (loadVar t b).run P w = .ok v w) (hm : (loadVar u d).run P w = .ok y w) : (results fn tmps).run P w = .ok (.tuple #[v, y]) w := by
  have hp' : tmps[a]?.getD undef = .pointer (some b) := by simpa using hp
  have hq' : tmps[c]?.getD undef = .pointer (some d) := by simpa using hq
  simp [results, h, hp', hq', asAddr, hl, hm]
end Go.Proofs.Ytgdhlnfigcaepaa
