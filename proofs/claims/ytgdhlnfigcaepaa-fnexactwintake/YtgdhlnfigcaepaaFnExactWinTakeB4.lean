/-
  A window that came in: what it holds.
-/
import Derived.Test.YtgdhlnfigcaepaaFnExactWinTakeB1
import Derived.Test.YtgdhlnfigcaepaaFnExactWinTakeB3
import Derived.Test.YtgdhlnfigcaepaaFnExactWinTakeB2
import Derived.Deep.MidRow
namespace Go.Proofs.Ytgdhlnfigcaepaa
open Go.ChangeShapes Go.WideShapes Go.ChangeAt Go.RowKit

theorem cellsLWi : Try.prog.cellsOf 32 = 3 := by kernel_rfl
theorem cellsII1 : Try.prog.cellsOf 30 = 1 := by kernel_rfl
theorem open_irow1 {H : Type} {enc : TypeId × Value → H} {W : World} {held : Bool} {fuel : Nat} {c : Value} {x : DataW H × List MemPlace}
    (hf : DataW.trod enc Try.prog W 0 (fun _ => true) held fuel 30 [c] = some x) : ∃ zs, IRow W c zs := by
  rcases open_ints Try.underlying30 Try.underlying3 (by kernel_rfl) hf with ⟨hcs, _⟩ | ⟨p, l, c', zs, hcs, _, hl, hm, hz, _, hcell, _⟩
  · simp at hcs
    subst hcs
    exact ⟨[], .inl ⟨rfl, rfl⟩⟩
  · simp at hcs
    subst hcs
    simp at hz
    have hlen : (zs.take l).length = l := by simp; omega
    refine ⟨zs.take l, .inr ⟨p, c', by rw [hlen], by omega, hm, fun i hi => ?_⟩⟩
    rw [hcell i (by omega)]
    have hi' : i < l := by omega
    simp [List.getD_eq_getElem?_getD, hi']
theorem open_win {H : Type} {enc : TypeId × Value → H} {W : World} {held : Bool} {fuel : Nat} {cs : Array Value} {x : DataW H × List MemPlace} (hs : cs.size = Try.prog.cellsOf 32)
    (hf : DataW.trod enc Try.prog W 0 (fun _ => true) held fuel 32 (Value.cells (.agg cs)).toList = some x) : ∃ (f : Win) (s : Value), cs = f.cells s ∧ IRow W s f.seen ∧ f.key.size ≤ maxLen := by
  rw [cellsLWi] at hs
  obtain ⟨l⟩ := cs
  match l, hs with
  | [c0, c1, c2], _ =>
    obtain ⟨n, hh⟩ := fields_of Try.underlying32 hf
    obtain ⟨y0, t0⟩ := field_at hh (i := 0) (T := 9) (o := 0) rfl cellsS9
    obtain ⟨y1, t1⟩ := field_at hh (i := 1) (T := 3) (o := 1) rfl cellsI3
    obtain ⟨y2, t2⟩ := field_at hh (i := 2) (T := 30) (o := 2) rfl cellsII1
    simp [Value.cells] at t0 t1 t2
    obtain ⟨s0, rfl, z0⟩ := open_str1 t0
    obtain ⟨i1, rfl⟩ := open_int1 t1
    obtain ⟨zs, r2⟩ := open_irow1 t2
    exact ⟨⟨s0, i1, zs⟩, c2, rfl, r2, z0⟩
#print axioms open_win
end Go.Proofs.Ytgdhlnfigcaepaa
/-
  Several cells out of and into the middle of a block that a call made. No Go function in it.
-/
namespace Go.Proofs.Ytgdhlnfigcaepaa
open Go.RowKit

theorem heap_setAt {w : World} {b i : Nat} {t : TypeId} {cs : Array Value} (h : Blk w b t cs) (v : Value) : Blk (w.setCell ⟨b, i, none⟩ v) b t (cs.setIfInBounds i v) := by
  unfold Blk
  rw [heap_setCell_same w b i _ _ v h]
theorem Blk.otherC {w : World} {b b' i : Nat} {t : TypeId} {cs : Array Value} (h : Blk w b t cs) (hne : b ≠ b') (v : Value) : Blk (w.setCell ⟨b', i, none⟩ v) b t cs := by
  unfold Blk
  rw [Below.heap_setCell _ _ _ _ hne]
  exact h
theorem grown_setC (w : World) (b i : Nat) (v : Value) : w.grownBy (w.setCell ⟨b, i, none⟩ v) (some b) :=
  ⟨rfl, rfl, rfl, by simp [World.setCell], fun k _ hk => Below.heap_setCell _ _ _ _ (fun e => hk (by rw [e]))⟩
theorem row_setC {B : Nat} {w : World} {e t : TypeId} {size n b i : Nat} {v : Value} {xs : List Value} {cs : Array Value} (h : w.ownsRow B e size v n xs) (hx : Blk w b t cs) (hte : t ≠ e) (x : Value) : (w.setCell ⟨b, i, none⟩ x).ownsRow B e size v n xs :=
  h.kept (grown_setC w b i x) (.inr (hx.not_row hte h).symm)

/-- These cells, from a place on, in others' stead. -/
def setAll : Array Value → Nat → List Value → Array Value
  | cs, _, [] => cs
  | cs, o, v :: r => setAll (cs.setIfInBounds o v) (o + 1) r
theorem Blk.setCells {b : Nat} {t : TypeId} : ∀ (vs : List Value) (o : Nat) {w : World} {cs : Array Value}, Blk w b t cs → Blk (w.setCells b o vs) b t (setAll cs o vs)
  | [], _, _, _, h => h
  | v :: r, o, _, _, h => Blk.setCells r (o + 1) (heap_setAt h v)
theorem grown_trans {u v w : World} {b : Nat} (h : u.grownBy v (some b)) (k : v.grownBy w (some b)) : u.grownBy w (some b) :=
  ⟨k.os.trans h.os, k.tape.trans h.tape, k.output.trans h.output, Nat.le_trans h.size k.size, fun z hz hne => (k.block z (Nat.lt_of_lt_of_le hz h.size) hne).trans (h.block z hz hne)⟩
theorem grown_setCells (b : Nat) : ∀ (vs : List Value) (o : Nat) (w : World), w.grownBy (w.setCells b o vs) (some b)
  | [], _, _ => ⟨rfl, rfl, rfl, Nat.le_refl _, fun _ _ _ => rfl⟩
  | v :: r, o, w => grown_trans (grown_setC w b o v) (grown_setCells b r (o + 1) _)
theorem Blk.there {w : World} {b : Nat} {t : TypeId} {cs : Array Value} (h : Blk w b t cs) {o n : Nat} (hn : o + n ≤ cs.size) : w.there b o n := fun j hj => by
  rw [h.cell, h.frozen]
  refine ⟨?_, rfl⟩
  rw [Array.getElem?_eq_getElem (by omega)]
  rfl
theorem Blk.range {w : World} {b : Nat} {t : TypeId} {cs : Array Value} (h : Blk w b t cs) {o : Nat} {vs : List Value} (hv : ∀ j v, vs[j]? = some v → cs[o + j]? = some v) : w.rangeAt b o vs := fun j v hj => by
  rw [h.cell]; exact hv j v hj
theorem Blk.otherCs {w : World} {b b' o : Nat} {t : TypeId} {cs : Array Value} (h : Blk w b t cs) (hne : b ≠ b') (vs : List Value) : Blk (w.setCells b' o vs) b t cs := h.kept (grown_setCells b' vs o w) (fun e => hne (by cases e; rfl))
theorem row_setCs {B : Nat} {w : World} {e t : TypeId} {size n b o : Nat} {v : Value} {xs : List Value} {cs : Array Value} (h : w.ownsRow B e size v n xs) (hx : Blk w b t cs) (hte : t ≠ e) (vs : List Value) : (w.setCells b o vs).ownsRow B e size v n xs :=
  h.kept (grown_setCells b vs o w) (.inr (hx.not_row hte h).symm)
theorem below_setCs {B : Nat} {w w' : World} {b o : Nat} (h : Below B w w') (hb : B ≤ b) (hs : B ≤ w'.heap.size) (vs : List Value) : Below B w (w'.setCells b o vs) := h.grown (grown_setCells b vs o w') hs (fun k hk => by cases hk; exact hb)
end Go.Proofs.Ytgdhlnfigcaepaa
/-
  The laws' own looks over rows of numbers: whether two are the same, whether a number is one of some.
-/
namespace Go.Proofs.Ytgdhlnfigcaepaa
open Go.RowKit

theorem ints_eq {xs ys : List Int} (hl : xs.length = ys.length) (h : ∀ j, j < xs.length → xs.getD j 0 = ys.getD j 0) : xs = ys := by
  apply List.ext_getElem hl
  intro i h1 h2
  have := h i h1
  rw [List.getD_eq_getElem?_getD, List.getElem?_eq_getElem h1, List.getD_eq_getElem?_getD, List.getElem?_eq_getElem h2] at this
  exact this
theorem mem_getI {xs : List Int} {x : Int} (h : x ∈ xs) : ∃ k, k < xs.length ∧ xs.getD k 0 = x := by
  obtain ⟨j, hj, e⟩ := List.getElem_of_mem h
  refine ⟨j, hj, ?_⟩
  rw [List.getD_eq_getElem?_getD, List.getElem?_eq_getElem hj]
  exact e
theorem getI_mem {xs : List Int} {k : Nat} (h : k < xs.length) : xs.getD k 0 ∈ xs := by
  rw [List.getD_eq_getElem?_getD, List.getElem?_eq_getElem h]
  exact List.getElem_mem h

set_option maxHeartbeats 1000000 in
theorem keInts_any (v u : Value) (xs ys : List Int) (w : World) (h : IRow w v xs) (k : IRow w u ys) :
    Calls Try.prog 59 #[v, u] w fun e w' => e = .returned (.bool (decide (xs = ys))) ∧ Below w.heap.size w w' := by
  obtain ⟨ao, cap, rfl, h1, h2, hc⟩ := h.form
  obtain ⟨bo, cap', rfl, h1', h2', hc'⟩ := k.form
  have hR := hide h
  have hS := hide k
  unfold maxLen at h2 h2'
  clear h k hc hc'
  by_cases hl : xs.length = ys.length
  · rw [← hl] at hS h1' ⊢
    have HL := hide hl
    clear hl
    go_enter Try.func59, Try.ntmps59
    go_wp2_with fail
    go_loopw [5] (fun i wr => ∃ k : Nat, k ≤ xs.length ∧ i = .int .i64 (k : Int) ∧ Hid (∀ j, j < k → xs.getD j 0 = ys.getD j 0) ∧ Hid (Below w.heap.size w wr)) (fun i _ => xs.length - (intOf i).toNat)
    case atStart => exact ⟨0, by omega, rfl, fun j hj => by omega, Below.refl _ _⟩
    case round =>
      obtain ⟨k, hk, rfl, hN, hL⟩ := hrel
      by_cases hlt : k < xs.length
      · have hlt2 : (k : Int) < (xs.length : Int) := by omega
        obtain ⟨ao', c1, q1, _, _, q2⟩ := (IRow.below (unhide hR) (unhide hL)).form
        simp only [Value.slice.injEq] at q1
        obtain ⟨rfl, _, rfl⟩ := q1
        obtain ⟨bo', c2, q3, _, _, q4⟩ := (IRow.below (unhide hS) (unhide hL)).form
        simp only [Value.slice.injEq] at q3
        obtain ⟨rfl, z3, rfl⟩ := q3
        clear z3
        obtain ⟨a, rfl, hck⟩ := q2 k hlt
        obtain ⟨b, rfl, hck'⟩ := q4 k (by have := HL.out; omega)
        clear q2 q4
        have i3 : IntKind.i64.wrap ((k : Int) + 1) = (k : Int) + 1 := by simp [IntKind.wrap, IntKind.bits, IntKind.signed]; omega
        have hYes : Hid (xs.getD k 0 = ys.getD k 0 → ∀ j, j < k + 1 → xs.getD j 0 = ys.getD j 0) := by
          intro ht j hj
          by_cases hjk : j = k
          · subst hjk; exact ht
          · exact hN j (by omega)
        have hNo : Hid (xs.getD k 0 ≠ ys.getD k 0 → decide (xs = ys) = false) := by
          intro ht
          simp
          intro e
          exact ht (by rw [e])
        generalize xs.getD k 0 = y at hck hYes hNo
        generalize ys.getD k 0 = z at hck' hYes hNo
        by_cases he : y = z
        · have hN1 := hide (hYes.out he)
          subst he
          go_wp2_with fail
          go_quiet (fail)
          go_wp2_with fail
          go_roundw
          case rel => exact ⟨k + 1, by omega, by simp, hN1, below_drewN (unhide hL) _⟩
          case measure => simp [intOf]; omega
        · have hE := hNo.out he
          have hnk : (y == z) = false := by simpa using he
          have hnk2 : (y != z) = true := by simpa using he
          go_wp2_with fail
          go_quiet (fail)
          go_wp2_with fail
          go_ret
          exact ⟨ret_bool' hE.symm, below_drewN (unhide hL) _⟩
      · have hlt2 : decide ((k : Int) < (xs.length : Int)) = false := by simp; omega
        have hE : decide (xs = ys) = true := by
          simp
          exact ints_eq HL.out (fun j hj => hN j (by omega))
        go_wp2_with fail
        go_ret
        exact ⟨ret_bool' hE.symm, unhide hL⟩
  · have hl2 : ((xs.length : Int) == (ys.length : Int)) = false := by simp; omega
    have hE : decide (xs = ys) = false := by
      simp
      intro e
      exact hl (by rw [e])
    go_enter Try.func59, Try.ntmps59
    go_wp2_with fail
    go_ret
    exact ⟨ret_bool' hE.symm, Below.refl _ _⟩

end Go.Proofs.Ytgdhlnfigcaepaa
/-
  The laws' own look whether two rows of numbers are the same.
-/
namespace Go.Proofs.Ytgdhlnfigcaepaa
open Go.RowKit

set_option maxHeartbeats 1000000 in
theorem eqIntS_any (v u : Value) (xs ys : List Int) (w : World) (h : IRow w v xs) (k : IRow w u ys) :
    Calls Try.prog 44 #[v, u] w fun e w' => e = .returned (.bool (decide (xs = ys))) ∧ Below w.heap.size w w' := by
  obtain ⟨ao, cap, rfl, h1, h2, hc⟩ := h.form
  obtain ⟨bo, cap', rfl, h1', h2', hc'⟩ := k.form
  have hR := hide h
  have hS := hide k
  unfold maxLen at h2 h2'
  clear h k hc hc'
  by_cases hl : xs.length = ys.length
  · rw [← hl] at hS h1' ⊢
    have HL := hide hl
    clear hl
    go_enter Try.func44, Try.ntmps44
    go_wp2_with fail
    go_loopw [5] (fun i wr => ∃ k : Nat, k ≤ xs.length ∧ i = .int .i64 (k : Int) ∧ Hid (∀ j, j < k → xs.getD j 0 = ys.getD j 0) ∧ Hid (Below w.heap.size w wr)) (fun i _ => xs.length - (intOf i).toNat)
    case atStart => exact ⟨0, by omega, rfl, fun j hj => by omega, Below.refl _ _⟩
    case round =>
      obtain ⟨k, hk, rfl, hN, hL⟩ := hrel
      by_cases hlt : k < xs.length
      · have hlt2 : (k : Int) < (xs.length : Int) := by omega
        obtain ⟨ao', c1, q1, _, _, q2⟩ := (IRow.below (unhide hR) (unhide hL)).form
        simp only [Value.slice.injEq] at q1
        obtain ⟨rfl, _, rfl⟩ := q1
        obtain ⟨bo', c2, q3, _, _, q4⟩ := (IRow.below (unhide hS) (unhide hL)).form
        simp only [Value.slice.injEq] at q3
        obtain ⟨rfl, z3, rfl⟩ := q3
        clear z3
        obtain ⟨a, rfl, hck⟩ := q2 k hlt
        obtain ⟨b, rfl, hck'⟩ := q4 k (by have := HL.out; omega)
        clear q2 q4
        have i3 : IntKind.i64.wrap ((k : Int) + 1) = (k : Int) + 1 := by simp [IntKind.wrap, IntKind.bits, IntKind.signed]; omega
        have hYes : Hid (xs.getD k 0 = ys.getD k 0 → ∀ j, j < k + 1 → xs.getD j 0 = ys.getD j 0) := by
          intro ht j hj
          by_cases hjk : j = k
          · subst hjk; exact ht
          · exact hN j (by omega)
        have hNo : Hid (xs.getD k 0 ≠ ys.getD k 0 → decide (xs = ys) = false) := by
          intro ht
          simp
          intro e
          exact ht (by rw [e])
        generalize xs.getD k 0 = y at hck hYes hNo
        generalize ys.getD k 0 = z at hck' hYes hNo
        by_cases he : y = z
        · have hN1 := hide (hYes.out he)
          subst he
          go_wp2_with fail
          go_quiet (fail)
          go_wp2_with fail
          go_roundw
          case rel => exact ⟨k + 1, by omega, by simp, hN1, below_drewN (unhide hL) _⟩
          case measure => simp [intOf]; omega
        · have hE := hNo.out he
          have hnk : (y == z) = false := by simpa using he
          have hnk2 : (y != z) = true := by simpa using he
          go_wp2_with fail
          go_quiet (fail)
          go_wp2_with fail
          go_ret
          exact ⟨ret_bool' hE.symm, below_drewN (unhide hL) _⟩
      · have hlt2 : decide ((k : Int) < (xs.length : Int)) = false := by simp; omega
        have hE : decide (xs = ys) = true := by
          simp
          exact ints_eq HL.out (fun j hj => hN j (by omega))
        go_wp2_with fail
        go_ret
        exact ⟨ret_bool' hE.symm, unhide hL⟩
  · have hl2 : ((xs.length : Int) == (ys.length : Int)) = false := by simp; omega
    have hE : decide (xs = ys) = false := by
      simp
      intro e
      exact hl (by rw [e])
    go_enter Try.func44, Try.ntmps44
    go_wp2_with fail
    go_ret
    exact ⟨ret_bool' hE.symm, Below.refl _ _⟩

end Go.Proofs.Ytgdhlnfigcaepaa
/-
  The laws' own marks: numbers that are written into rows, and looked up again.
-/
namespace Go.Proofs.Ytgdhlnfigcaepaa
open Go.RowKit

theorem row_formI {w : World} {B : Nat} {e : TypeId} {size : Nat} {v : Value} {n : Nat} {xs : List Value} (h : w.ownsRow B e size v n xs) : ∃ ao cap, v = .slice ao n cap := by
  rcases h.2 with ⟨h1, h2⟩ | ⟨g, cap, cur, h1, _⟩
  · exact ⟨none, 0, by rw [h1, h2]⟩
  · exact ⟨some _, cap, h1⟩
/-- The numbers from one on. -/
def nums (k n : Nat) : List Int := (List.range n).map fun i => ((k + i : Nat) : Int)
theorem nums_len (k n : Nat) : (nums k n).length = n := by unfold nums; simp
theorem nums_get {k n i : Nat} (h : i < n) : (nums k n).getD i 0 = ((k + i : Nat) : Int) := by
  unfold nums
  rw [List.getD_eq_getElem?_getD]
  simp [h]
/-- The first j numbered, the rest as they were. -/
def numd (k : Nat) (xs : List Int) (j : Nat) : List Int := nums k j ++ xs.drop j
theorem numd_zero (k : Nat) (xs : List Int) : numd k xs 0 = xs := by unfold numd nums; simp
theorem numd_all (k : Nat) (xs : List Int) : numd k xs xs.length = nums k xs.length := by unfold numd; simp
theorem numd_len {k : Nat} {xs : List Int} {j : Nat} (h : j ≤ xs.length) : (numd k xs j).length = xs.length := by unfold numd; rw [List.length_append, nums_len, List.length_drop]; omega
theorem numd_set {k : Nat} {xs : List Int} {j : Nat} (h : j < xs.length) : (numd k xs j).set j ((k + j : Nat) : Int) = numd k xs (j + 1) := by
  unfold numd nums
  rw [List.range_succ, List.map_append, List.set_append_right _ _ (by simp)]
  have e : (xs.drop j).set 0 ((k + j : Nat) : Int) = ((k + j : Nat) : Int) :: xs.drop (j + 1) := by rw [List.drop_eq_getElem_cons h]; rfl
  simp at e
  simp [e]

set_option maxRecDepth 100000 in
set_option maxHeartbeats 1000000 in
theorem markIntS_any (B : Nat) (v : Value) (xs : List Int) (k : Nat) (w : World) (h : OwnI B w v xs) (hk : 0 < k) (hk2 : k ≤ 4000000) (hl : xs.length ≤ 1048576) :
    Calls Try.prog 50 #[v, .int .i64 (k : Int)] w fun e w' => e = .returned (.int .i64 ((k + xs.length : Nat) : Int)) ∧ OwnI B w' v (nums k xs.length) ∧ w.grownBy w' v.ownBlock := by
  have hO := hide h
  obtain ⟨ao, cap, hv⟩ := row_formI h
  subst hv
  clear h
  go_enter Try.func50, Try.ntmps50
  go_wp2_with fail
  go_loopw [1, 5] (fun c i wr => ∃ j : Nat, j ≤ xs.length ∧ i = .int .i64 (j : Int) ∧ c = .int .i64 ((k + j : Nat) : Int) ∧ Hid (wr.ownsRow B 3 1 (.slice ao xs.length cap) xs.length ((numd k xs j).map (Value.int .i64))) ∧ Hid (w.grownBy wr (Value.ownBlock (.slice ao xs.length cap)))) (fun _ i _ => xs.length - (intOf i).toNat)
  case atStart => exact ⟨0, by omega, rfl, by simp, by rw [numd_zero]; exact unhide hO, ⟨rfl, rfl, rfl, Nat.le_refl _, fun _ _ _ => rfl⟩⟩
  case round =>
    obtain ⟨j, hj, rfl, rfl, hOj, hG⟩ := hrel
    by_cases hlt : j < xs.length
    · have hlt2 : (j : Int) < (xs.length : Int) := by omega
      have i3 : IntKind.i64.wrap ((j : Int) + 1) = (j : Int) + 1 := by simp [IntKind.wrap, IntKind.bits, IntKind.signed]; omega
      obtain ⟨z, hz⟩ : ∃ z : Nat, z = k + j := ⟨_, rfl⟩
      rw [← hz]
      have hz1 : 0 < z := by omega
      have hz2 : z ≤ 6000000 := by omega
      have HZ := hide hz
      clear hz
      have i4 : IntKind.i64.wrap ((z : Int) + 1) = (z : Int) + 1 := by simp [IntKind.wrap, IntKind.bits, IntKind.signed]; omega
      have hOj2 := unhide hOj
      rcases hOj2.2 with ⟨q, _⟩ | ⟨g, cap', cur, hq, hBg, hcur, _⟩
      · simp at q; omega
      simp only [Value.slice.injEq] at hq
      obtain ⟨rfl, _, rfl⟩ := hq
      clear hcur
      have hml := numd_len (k := k) (xs := xs) (j := j) hj
      have hfz := hOj2.frozenAt j
      have hcell : wr.cell? ⟨g, j, none⟩ = some (.int .i64 ((numd k xs j).getD j 0)) := by
        rw [hOj2.cellAt j (by omega), List.getElem?_map, List.getElem?_eq_getElem (by omega), List.getD_eq_getElem?_getD, List.getElem?_eq_getElem (by omega)]; rfl
      obtain ⟨s1, s2⟩ := hOj2.stored j (.int .i64 (z : Int))
      rw [← List.map_set, HZ.out, numd_set hlt] at s1
      have HS1 := hide s1
      have HG3 : Hid (w.grownBy (wr.setCell ⟨g, j, none⟩ (.int .i64 (z : Int))) (some g)) := (unhide hG).trans s2
      clear s1 s2 hOj2 hOj hG hml
      generalize (numd k xs j).getD j 0 = old at hcell
      rw [← HZ.out] at HS1
      go_wp2_with fail
      go_roundw
      case rel => exact ⟨j + 1, by omega, by simp, by rw [show ((k + (j + 1) : Nat) : Int) = (z : Int) + 1 by have := HZ.out; omega], HS1, HG3⟩
      case measure => simp [intOf]; omega
    · have hlt2 : decide ((j : Int) < (xs.length : Int)) = false := by simp; omega
      have hjn : j = xs.length := by omega
      subst hjn
      rw [numd_all] at hOj
      go_wp2_with fail
      go_ret
      refine ⟨rfl, ?_, unhide hG⟩
      unfold OwnI
      rw [nums_len]
      exact unhide hOj

set_option maxRecDepth 100000 in
set_option maxHeartbeats 1000000 in
theorem heldIntS_any (v : Value) (k n : Nat) (w : World) (h : IRow w v (nums k n)) (hk : 0 < k) (hk2 : k ≤ 4000000) (hl : n ≤ 1048576) :
    Calls Try.prog 51 #[v, .int .i64 (k : Int)] w fun e w' => e = .returned (.int .i64 ((k + n : Nat) : Int)) ∧ w' = w := by
  obtain ⟨ao, cap, rfl, h1, h2, hc⟩ := h.form
  rw [nums_len] at h1 hc ⊢
  have hC := hide hc
  unfold maxLen at h2
  clear h hc
  go_enter Try.func51, Try.ntmps51
  go_wp2_with fail
  go_loop [1, 5] (fun c i => ∃ j : Nat, j ≤ n ∧ i = .int .i64 (j : Int) ∧ c = .int .i64 ((k + j : Nat) : Int)) (fun _ i => n - (intOf i).toNat)
  case atStart => exact ⟨0, by omega, rfl, by simp⟩
  case round =>
    obtain ⟨j, hj, rfl, rfl⟩ := hrel
    by_cases hlt : j < n
    · have hlt2 : (j : Int) < (n : Int) := by omega
      obtain ⟨a, rfl, hck⟩ := hC.out j hlt
      rw [nums_get hlt] at hck
      have i3 : IntKind.i64.wrap ((j : Int) + 1) = (j : Int) + 1 := by simp [IntKind.wrap, IntKind.bits, IntKind.signed]; omega
      obtain ⟨z, hz⟩ : ∃ z : Nat, z = k + j := ⟨_, rfl⟩
      rw [← hz] at hck ⊢
      have hz2 : z ≤ 6000000 := by omega
      have HZ := hide hz
      clear hz
      have i4 : IntKind.i64.wrap ((z : Int) + 1) = (z : Int) + 1 := by simp [IntKind.wrap, IntKind.bits, IntKind.signed]; omega
      go_wp2_with fail
      exact ⟨⟨j + 1, by omega, by simp, by rw [show ((k + (j + 1) : Nat) : Int) = (z : Int) + 1 by have := HZ.out; omega]⟩, by simp [intOf]; omega⟩
    · have hlt2 : decide ((j : Int) < (n : Int)) = false := by simp; omega
      have hjn : j = n := by omega
      subst hjn
      go_wp2_with fail
      go_ret
      exact ⟨rfl, rfl⟩
#print axioms markIntS_any
#print axioms heldIntS_any
end Go.Proofs.Ytgdhlnfigcaepaa
/-
  The laws' own helpers over windows that come in: how great one is; a copy of one; whether two are the same; marks.
-/
namespace Go.Proofs.Ytgdhlnfigcaepaa
open Go.RowKit

theorem IRow.alloc {w : World} {v : Value} {xs : List Int} (h : IRow w v xs) (o : Obj) : IRow (w.alloc o) v xs := h.below ((Below.refl _ _).alloc (Nat.le_refl _) o)
set_option maxHeartbeats 400000 in
theorem szIntS_any (v : Value) (xs : List Int) (left : Int) (w : World) (h : IRow w v xs) (hl : 0 ≤ left) (hl2 : left ≤ 1048576) :
    Calls Try.prog 41 #[v, .int .i64 left] w fun e w' => ∃ r : Int, e = .returned (.int .i64 r) ∧ r ≤ left ∧ (0 ≤ r → xs.length ≤ 1048576) ∧ w' = w := by
  obtain ⟨ao, cap, rfl, h1, h2, _⟩ := h.form
  unfold maxLen at h2
  clear h
  have i1 : IntKind.i64.wrap (left - (xs.length : Int)) = left - (xs.length : Int) := by simp [IntKind.wrap, IntKind.bits, IntKind.signed]; omega
  by_cases h3 : left - (xs.length : Int) < 0
  · go_enter Try.func41, Try.ntmps41
    go_wp2_with fail
    go_ret
    exact ⟨-1, rfl, by omega, fun q => by omega, rfl⟩
  · have h4 : decide (left - (xs.length : Int) < 0) = false := by simpa using h3
    go_enter Try.func41, Try.ntmps41
    go_wp2_with fail
    go_ret
    exact ⟨_, rfl, by omega, fun q => by omega, rfl⟩
set_option maxRecDepth 100000 in
set_option maxHeartbeats 1000000 in
theorem szFraWin_any (x : Win) (v : Value) (left : Int) (w : World) (h : IRow w v x.seen) (h1 : x.key.size ≤ maxLen) (hl : 0 ≤ left) (hl2 : left ≤ 1048576) :
    Calls Try.prog 18 #[.agg (x.cells v), .int .i64 left] w fun e w' => ∃ r : Int, e = .returned (.int .i64 r) ∧ r ≤ left ∧ (0 ≤ r → x.seen.length ≤ 1048576) ∧ Below w.heap.size w w' := by
  obtain ⟨key, top, xs⟩ := x
  simp only at h h1 ⊢
  unfold maxLen at h1
  have HI := hide h
  obtain ⟨ao, cap, rfl, _, _, _⟩ := h.form
  clear h
  have i1 : IntKind.i64.wrap (left - (key.size : Int)) = left - (key.size : Int) := by simp [IntKind.wrap, IntKind.bits, IntKind.signed]; omega
  have HB : Hid (Below w.heap.size w (w.alloc (.cells (winC key top (.slice ao xs.length cap)) 32))) := (Below.refl _ _).alloc (Nat.le_refl _) _
  have HI2 := hide ((unhide HI).alloc (.cells (winC key top (.slice ao xs.length cap)) 32))
  by_cases h3 : left - (key.size : Int) < 0
  · go_enter Try.func18, Try.ntmps18
    go_wp2_with fail
    go_ret
    exact ⟨-1, rfl, by omega, fun q => by omega, unhide HB⟩
  have h4 : decide (left - (key.size : Int) < 0) = false := by simpa using h3
  go_enter Try.func18, Try.ntmps18
  go_wp2_with fail
  refine (szIntS_any _ xs (left - (key.size : Int)) _ (unhide HI2) (by omega) (by omega)).mono ?_
  rintro e w1 ⟨r, rfl, hr, hn, rfl⟩
  have HN := hide hn
  clear hn
  by_cases h5 : r < 0
  · go_wp2_with fail
    go_ret
    exact ⟨-1, rfl, by omega, fun q => by omega, unhide HB⟩
  have h6 : decide (r < 0) = false := by simpa using h5
  clear h3 h5
  go_wp2_with fail
  go_ret
  exact ⟨r, rfl, by omega, unhide HN, unhide HB⟩

def partI (xs : List Int) (k : Nat) : List Value := (xs.take k).map (Value.int .i64) ++ List.replicate (xs.length - k) (Value.int .i64 0)
theorem partI_zero (xs : List Int) : partI xs 0 = List.replicate xs.length (Value.int .i64 0) := by unfold partI; simp
theorem partI_all (xs : List Int) : partI xs xs.length = xs.map (Value.int .i64) := by unfold partI; simp
theorem partI_set (xs : List Int) (k : Nat) (h : k < xs.length) : (partI xs k).set k (.int .i64 (xs.getD k 0)) = partI xs (k + 1) := by
  unfold partI
  rw [List.set_append_right _ _ (by simp; omega)]
  have e : k - ((xs.take k).map (Value.int .i64)).length = 0 := by simp; omega
  rw [e, show xs.length - k = (xs.length - (k + 1)) + 1 by omega, List.replicate_succ, List.set_cons_zero, List.take_succ_eq_append_getElem h, List.map_append, List.append_assoc, List.getD_eq_getElem?_getD, List.getElem?_eq_getElem h]
  rfl
theorem partI_at (xs : List Int) (k : Nat) (h : k < xs.length) : (partI xs k)[k]? = some (.int .i64 0) := by
  unfold partI
  rw [List.getElem?_append_right (by simp; omega)]
  simp only [List.length_map, List.length_take, List.getElem?_replicate]
  rw [if_pos (by omega)]

set_option maxRecDepth 100000 in
set_option maxHeartbeats 2000000 in
theorem toIntS_any (v : Value) (xs : List Int) (w : World) (h : IRow w v xs) (hl : xs.length ≤ 1048576) :
    Calls Try.prog 42 #[v] w fun e w' => ∃ v' : Value, e = .returned v' ∧ OwnI w.heap.size w' v' xs ∧ Below w.heap.size w w' := by
  obtain ⟨ao, cap, rfl, h1, h2, hc⟩ := h.form
  have hR := hide h
  unfold maxLen at h2
  clear h hc
  obtain ⟨i0, hi, hz0, hz1, hz2⟩ := info_parts info_int2
  have hI := hide (And.intro hi (And.intro hz0 (And.intro hz1 hz2)))
  have hB2 : Hid (i0.bytes * xs.length ≤ 281474976710656) := by show _ ≤ _; rw [hz2]; omega
  clear hi hz0 hz1 hz2
  go_enter Try.func42, Try.ntmps42
  go_wp2_with (at_make; refine wpList_make_full _ rfl _ _ 30 rfl w.heap.size 3 i0 (.int .i64 0) 1 Try.underlying30 (unhide hI).1 (unhide hI).2.1 (unhide hI).2.2.1 _ _ _ _ xs.length rfl rfl rfl rfl (unhide hB2) (by unfold maxLen; omega) (Nat.le_refl _) ?_)
  intro w1 hown hgrow
  have hO1 : Hid (w1.ownsRow w.heap.size 3 1 (.slice (some ⟨w.heap.size, 0, none⟩) xs.length xs.length) xs.length (partI xs 0)) := by
    rw [partI_zero]
    have e : (madeCells #[Value.int .i64 0] xs.length).toList = List.replicate xs.length (Value.int .i64 0) := by
      simp [madeCells, Nat.mod_one, List.map_const']
    rw [← e]
    exact hown
  have hL1 : Hid (Below w.heap.size w w1) := (Below.refl _ _).grown hgrow (Nat.le_refl _) (fun k hk => by cases hk)
  clear hown hgrow
  go_wp2_with fail
  go_loopw [4] (fun i wr => ∃ k : Nat, k ≤ xs.length ∧ i = .int .i64 (k : Int) ∧ Hid (wr.ownsRow w.heap.size 3 1 (.slice (some ⟨w.heap.size, 0, none⟩) xs.length xs.length) xs.length (partI xs k)) ∧ Hid (Below w.heap.size w wr)) (fun i _ => xs.length - (intOf i).toNat)
  case atStart => exact ⟨0, by omega, rfl, hO1, hL1⟩
  case round =>
    clear hO1 hL1
    obtain ⟨k, hk, rfl, hO, hL⟩ := hrel
    by_cases hlt : k < xs.length
    · have hlt2 : (k : Int) < (xs.length : Int) := by omega
      obtain ⟨ao', c1, q1, _, _, q2⟩ := (IRow.below (unhide hR) (unhide hL)).form
      simp only [Value.slice.injEq] at q1
      obtain ⟨rfl, _, rfl⟩ := q1
      obtain ⟨a, rfl, hck⟩ := q2 k hlt
      clear q2
      have hfz := (unhide hO).frozenAt k
      have hcell : wr.cell? ⟨w.heap.size, k, none⟩ = some (.int .i64 0) := ((unhide hO).cellAt k (by omega)).trans (partI_at xs k hlt)
      have i3 : IntKind.i64.wrap ((k : Int) + 1) = (k : Int) + 1 := by simp [IntKind.wrap, IntKind.bits, IntKind.signed]; omega
      have hS1 := (unhide hO).stored k (.int .i64 (xs.getD k 0))
      rw [partI_set xs k hlt] at hS1
      have hS2 := hide hS1
      clear hS1
      generalize xs.getD k 0 = y at hck hS2
      have hle := hL.out.size
      go_wp2_with fail
      exact ⟨⟨k + 1, by omega, by simp, hS2.out.1, (unhide hL).grown hS2.out.2 hle (fun j hj => by cases hj; exact Nat.le_refl _)⟩, by simp [intOf]; omega⟩
    · have hlt2 : decide ((k : Int) < (xs.length : Int)) = false := by simp; omega
      have hkn : k = xs.length := by omega
      subst hkn
      rw [partI_all] at hO
      go_wp2_with fail
      go_ret
      exact ⟨_, rfl, unhide hO, unhide hL⟩

set_option maxRecDepth 100000 in
set_option maxHeartbeats 2000000 in
theorem toFraWin_any (x : Win) (v : Value) (w : World) (h : IRow w v x.seen) (hl : x.seen.length ≤ 1048576) :
    Calls Try.prog 20 #[.agg (x.cells v)] w fun e w' => ∃ v' : Value, e = .returned (.agg (x.cells v')) ∧ OwnI w.heap.size w' v' x.seen ∧ Below w.heap.size w w' := by
  obtain ⟨key, top, xs⟩ := x
  simp only at h hl ⊢
  have HI := hide h
  obtain ⟨ao, cap, rfl, _, _, _⟩ := h.form
  clear h
  have a1' := ((Blk.new (w.alloc (.cells (winC key top (.slice ao xs.length cap)) 32)) 35 noWin).alloc (.cells (winC key top (.slice none 0 0)) 35))
  have b1' := Blk.new ((w.alloc (.cells (winC key top (.slice ao xs.length cap)) 32)).alloc (.cells noWin 35)) 35 (winC key top (.slice none 0 0))
  have HB := hide ((((Below.refl w.heap.size w).alloc (Nat.le_refl _) (.cells (winC key top (.slice ao xs.length cap)) 32)).alloc (by simp) (.cells noWin 35)).alloc (by simp; omega) (.cells (winC key top (.slice none 0 0)) 35))
  simp only [World.size_alloc] at a1' b1'
  have R := hide a1'
  have V := hide b1'
  clear a1' b1'
  go_enter Try.func20, Try.ntmps20
  go_wp2_with fail
  refine (toIntS_any _ xs _ ((unhide HI).below HB.out) hl).mono ?_
  rintro e w1 ⟨v1, rfl, ho1, hb⟩
  replace R := hide ((unhide R).below hb)
  replace V := hide ((unhide V).below hb)
  have k1 : OwnI w.heap.size w1 v1 xs := row_lowB ho1 HB.out.size
  replace HB := hide (HB.out.trans (hb.mono HB.out.size))
  clear hb ho1
  obtain ⟨o1, n1, rfl⟩ := row_form' k1
  have c2 := (unhide V).cell 2
  have f2 := (unhide V).frozen 2
  simp only [List.getElem?_toArray, List.getElem?_cons_succ, List.getElem?_cons_zero] at c2
  have v2 := heap_setAt (i := 2) (unhide V) (.slice o1 xs.length n1)
  simp only [List.setIfInBounds_toArray, List.set_cons_zero, List.set_cons_succ] at v2
  have K1 : Hid (OwnI w.heap.size (w1.setCell ⟨w.heap.size + 1 + 1, 2, none⟩ (.slice o1 xs.length n1)) (.slice o1 xs.length n1) xs) := row_setC k1 (unhide V) (by decide) _
  replace R := hide ((unhide R).otherC (b' := w.heap.size + 1 + 1) (i := 2) (by omega) (.slice o1 xs.length n1))
  replace HB := hide (HB.out.setCell (p := ⟨w.heap.size + 1 + 1, 2, none⟩) (by show w.heap.size ≤ w.heap.size + 1 + 1; omega) (.slice o1 xs.length n1))
  have l1 := load_wi v2 rfl
  have l2 := load_wi ((unhide R).set (winC key top (.slice o1 xs.length n1))) rfl
  clear v2 k1 V
  go_wp2_with (first | refine wpList_load_whole rfl 35 _ rfl ⟨w.heap.size + 1 + 1, 0, none⟩ rfl _ l1 ?_ | refine wpList_store_whole rfl 35 (.tmp 2) (.tmp 14) rfl (w.heap.size + 1) (winC key top (.slice o1 xs.length n1)) ?hx ?hy 35 noWin ?hb ?hi ?ho ?h1 ?h)
  any_goals (first | rfl | exact unhide R | exact info_wi | exact one_wi _ _ _ _ _)
  go_wp2_with fail
  refine bodyPost_ret (v := .agg (winC key top (.slice o1 xs.length n1))) (results_cell rfl rfl l2) rfl ?_
  exact ⟨_, rfl, row_blk (unhide K1) (unhide R) (by decide) _, below_blk HB.out (by omega) _⟩

set_option maxRecDepth 100000 in
set_option maxHeartbeats 1000000 in
theorem eqFraWin_same (x : Win) (v u : Value) (w : World) (h : IRow w v x.seen) (k : IRow w u x.seen) :
    Calls Try.prog 22 #[.agg (x.cells v), .agg (x.cells u)] w fun e w' => e = .returned (.bool true) ∧ Below w.heap.size w w' := by
  obtain ⟨key, top, xs⟩ := x
  simp only at h k ⊢
  have HI := hide h
  have HJ := hide k
  obtain ⟨ao, cap, rfl, _, _, _⟩ := h.form
  obtain ⟨bo, cap', rfl, _, _, _⟩ := k.form
  clear h k
  have HB := hide (((Below.refl w.heap.size w).alloc (Nat.le_refl _) (.cells (winC key top (.slice ao xs.length cap)) 35)).alloc (by simp) (.cells (winC key top (.slice bo xs.length cap')) 35))
  go_enter Try.func22, Try.ntmps22
  go_wp2_with fail
  refine (eqIntS_any _ _ xs xs _ ((unhide HI).below HB.out) ((unhide HJ).below HB.out)).mono ?_
  rw [show decide (xs = xs) = true by simp]
  rintro e w1 ⟨rfl, hb⟩
  replace HB := hide (HB.out.trans (hb.mono HB.out.size))
  clear hb
  go_wp2_with fail
  go_ret
  exact ⟨rfl, unhide HB⟩
#print axioms toFraWin_any
#print axioms eqFraWin_same
end Go.Proofs.Ytgdhlnfigcaepaa
/-
  The laws' own marks of windows.
-/
namespace Go.Proofs.Ytgdhlnfigcaepaa
open Go.RowKit

set_option maxRecDepth 100000 in
set_option maxHeartbeats 1000000 in
theorem markFraWin_any (B : Nat) (x : Win) (v : Value) (k : Nat) (w : World) (h : OwnI B w v x.seen) (hk : 0 < k) (hk2 : k ≤ 4000000) (hl : x.seen.length ≤ 1048576) :
    Calls Try.prog 25 #[.agg (x.cells v), .int .i64 (k : Int)] w fun e w' => e = .returned (.int .i64 ((k + x.seen.length : Nat) : Int)) ∧ OwnI B w' v (nums k x.seen.length) ∧ w.grownBy w' v.ownBlock := by
  obtain ⟨key, top, xs⟩ := x
  simp only at h hl ⊢
  have HO := hide h
  obtain ⟨o1, n1, rfl⟩ := row_form' h
  clear h
  have HO2 : Hid (OwnI B (w.alloc (.cells (winC key top (.slice o1 xs.length n1)) 35)) (.slice o1 xs.length n1) xs) := World.ownsRow.alloc (unhide HO) _
  have HG0 := hide (World.grownBy_alloc w (.cells (winC key top (.slice o1 xs.length n1)) 35) (Value.ownBlock (.slice o1 xs.length n1)))
  go_enter Try.func25, Try.ntmps25
  go_wp2_with fail
  refine (markIntS_any B _ xs k _ (unhide HO2) hk hk2 hl).mono ?_
  rintro e w1 ⟨rfl, ho, hg⟩
  have HO3 := hide ho
  have HG := hide ((unhide HG0).trans hg)
  clear ho hg
  go_wp2_with fail
  go_ret
  exact ⟨rfl, unhide HO3, unhide HG⟩
set_option maxRecDepth 100000 in
set_option maxHeartbeats 1000000 in
theorem heldFraWin_any (key : ByteArray) (top : Int) (v : Value) (k n : Nat) (w : World) (h : IRow w v (nums k n)) (hk : 0 < k) (hk2 : k ≤ 4000000) (hl : n ≤ 1048576) :
    Calls Try.prog 26 #[.agg (winC key top v), .int .i64 (k : Int)] w fun e w' => e = .returned (.int .i64 ((k + n : Nat) : Int)) ∧ Below w.heap.size w w' := by
  have HI := hide h
  obtain ⟨ao, cap, rfl, _, _, _⟩ := h.form
  clear h
  rw [nums_len] at HI ⊢
  have HB : Hid (Below w.heap.size w (w.alloc (.cells (winC key top (.slice ao n cap)) 35))) := (Below.refl _ _).alloc (Nat.le_refl _) _
  go_enter Try.func26, Try.ntmps26
  go_wp2_with fail
  refine (heldIntS_any _ k n _ ((unhide HI).below HB.out) hk hk2 hl).mono ?_
  obtain ⟨z, hz⟩ : ∃ z : Int, ((k + n : Nat) : Int) = z := ⟨_, rfl⟩
  rw [hz]
  have hz0 : decide (z < 0) = false := by simp; omega
  rintro e w1 ⟨rfl, rfl⟩
  go_wp2_with fail
  go_ret
  exact ⟨by rw [hz]; rfl, unhide HB⟩
#print axioms markFraWin_any
#print axioms heldFraWin_any
end Go.Proofs.Ytgdhlnfigcaepaa
/-
  Slices of numbers of the call's own, their rows between two numbers. No Go function in it.
-/
namespace Go.Proofs.Ytgdhlnfigcaepaa
open Go.RowKit

/-- Numbers, so. -/
def IIn (lo hi : Nat) (w : World) (v : Value) (xs : List Int) : Prop := RowIn lo hi 3 1 w v xs.length (xs.map (Value.int .i64))
theorem IIn.of {lo : Nat} {w : World} {v : Value} {xs : List Int} (h : OwnI lo w v xs) : IIn lo w.heap.size w v xs := RowIn.of h
theorem IIn.irow {lo hi : Nat} {w : World} {v : Value} {xs : List Int} (h : IIn lo hi w v xs) : IRow w v xs := OwnI.irow h.1
theorem IIn.below {lo hi : Nat} {w w' : World} {v : Value} {xs : List Int} (h : IIn lo hi w v xs) (hb : Below w.heap.size w w') : IIn lo hi w' v xs := RowIn.below h hb
theorem IIn.grown {lo hi : Nat} {w w' : World} {v : Value} {xs : List Int} {r : Option Nat} (h : IIn lo hi w v xs) (hg : w.grownBy w' r) (hr : ∀ k, r = some k → k < lo ∨ hi ≤ k) : IIn lo hi w' v xs := RowIn.grown h hg hr
theorem IIn.drew {lo hi : Nat} {w : World} {v : Value} {xs : List Int} (h : IIn lo hi w v xs) : IIn lo hi w.drew v xs := h.below (Below.refl _ _).drew
end Go.Proofs.Ytgdhlnfigcaepaa
/-
  A byte as a text. No Go function in it.
-/
namespace Go.Proofs.Ytgdhlnfigcaepaa
open Go.RowKit

theorem conv1 (W : World) (a : Addr) (n : Int) (h : W.cell? a = some (.int .u8 n)) :
    (convert 43 9 (.slice (some a) 1 1)).run Try.prog W = .ok (.string (by1 n.toNat)) W := by
  rw [run_convert_bytes_string W 43 9 5 _ _ _ Try.underlying43 Try.underlying5 Try.underlying9]
  rw [run_bytesToString W a 1 1 [n] ?_]
  · rfl
  · exact run_loadCells_list W a [.int .u8 n] (fun j v hj => by
      match j, hj with
      | 0, hj => simp at hj; subst hj; simpa [Addr.add] using h)
end Go.Proofs.Ytgdhlnfigcaepaa
/-
  Contracts of the functions that make new secrets' names, over the landed program.
-/
namespace Go.Proofs.Ytgdhlnfigcaepaa
open Go.RowKit

theorem enc_fin : ∀ k : Fin 8, Utf8.encode (65 + (k.val : Int)) = by1 (65 + k.val) := by decide +kernel
theorem enc_eq (n : Int) (h0 : 0 ≤ n) (h1 : n < 8) : Utf8.encode (65 + n) = by1 (65 + n.toNat) := by
  obtain ⟨k, rfl⟩ := Int.eq_ofNat_of_zero_le h0
  exact enc_fin ⟨k, by omega⟩
theorem dig_fin : ∀ k : Fin 10, (⟨#[48, 49, 50, 51, 52, 53, 54, 55, 56, 57, 97, 98, 99, 100, 101, 102, 103, 104, 105, 106, 107, 108, 109, 110, 111, 112, 113, 114, 115, 116, 117, 118, 119, 120, 121, 122]⟩ : ByteArray).extract ((k.val : Int)).toNat ((k.val : Int) + 1).toNat = dec k.val := by decide +kernel
theorem dig_eq (n : Int) (h0 : 0 ≤ n) (h1 : n < 10) : (⟨#[48, 49, 50, 51, 52, 53, 54, 55, 56, 57, 97, 98, 99, 100, 101, 102, 103, 104, 105, 106, 107, 108, 109, 110, 111, 112, 113, 114, 115, 116, 117, 118, 119, 120, 121, 122]⟩ : ByteArray).extract n.toNat (n + 1).toNat = dec n.toNat := by
  obtain ⟨k, rfl⟩ := Int.eq_ofNat_of_zero_le h0
  exact dig_fin ⟨k, by omega⟩
set_option maxRecDepth 100000 in
theorem two_fin : ∀ k : Fin 100, 10 ≤ k.val → (⟨#[48, 48, 48, 49, 48, 50, 48, 51, 48, 52, 48, 53, 48, 54, 48, 55, 48, 56, 48, 57, 49, 48, 49, 49, 49, 50, 49, 51, 49, 52, 49, 53, 49, 54, 49, 55, 49, 56, 49, 57, 50, 48, 50, 49, 50, 50, 50, 51, 50, 52, 50, 53, 50, 54, 50, 55, 50, 56, 50, 57, 51, 48, 51, 49, 51, 50, 51, 51, 51, 52, 51, 53, 51, 54, 51, 55, 51, 56, 51, 57, 52, 48, 52, 49, 52, 50, 52, 51, 52, 52, 52, 53, 52, 54, 52, 55, 52, 56, 52, 57, 53, 48, 53, 49, 53, 50, 53, 51, 53, 52, 53, 53, 53, 54, 53, 55, 53, 56, 53, 57, 54, 48, 54, 49, 54, 50, 54, 51, 54, 52, 54, 53, 54, 54, 54, 55, 54, 56, 54, 57, 55, 48, 55, 49, 55, 50, 55, 51, 55, 52, 55, 53, 55, 54, 55, 55, 55, 56, 55, 57, 56, 48, 56, 49, 56, 50, 56, 51, 56, 52, 56, 53, 56, 54, 56, 55, 56, 56, 56, 57, 57, 48, 57, 49, 57, 50, 57, 51, 57, 52, 57, 53, 57, 54, 57, 55, 57, 56, 57, 57]⟩ : ByteArray).extract ((k.val : Int) * 2).toNat ((k.val : Int) * 2 + 2).toNat = dec k.val := by decide +kernel
set_option maxRecDepth 100000 in
theorem two_eq (n : Int) (h0 : 10 ≤ n) (h1 : n < 100) : (⟨#[48, 48, 48, 49, 48, 50, 48, 51, 48, 52, 48, 53, 48, 54, 48, 55, 48, 56, 48, 57, 49, 48, 49, 49, 49, 50, 49, 51, 49, 52, 49, 53, 49, 54, 49, 55, 49, 56, 49, 57, 50, 48, 50, 49, 50, 50, 50, 51, 50, 52, 50, 53, 50, 54, 50, 55, 50, 56, 50, 57, 51, 48, 51, 49, 51, 50, 51, 51, 51, 52, 51, 53, 51, 54, 51, 55, 51, 56, 51, 57, 52, 48, 52, 49, 52, 50, 52, 51, 52, 52, 52, 53, 52, 54, 52, 55, 52, 56, 52, 57, 53, 48, 53, 49, 53, 50, 53, 51, 53, 52, 53, 53, 53, 54, 53, 55, 53, 56, 53, 57, 54, 48, 54, 49, 54, 50, 54, 51, 54, 52, 54, 53, 54, 54, 54, 55, 54, 56, 54, 57, 55, 48, 55, 49, 55, 50, 55, 51, 55, 52, 55, 53, 55, 54, 55, 55, 55, 56, 55, 57, 56, 48, 56, 49, 56, 50, 56, 51, 56, 52, 56, 53, 56, 54, 56, 55, 56, 56, 56, 57, 57, 48, 57, 49, 57, 50, 57, 51, 57, 52, 57, 53, 57, 54, 57, 55, 57, 56, 57, 57]⟩ : ByteArray).extract (n * 2).toNat (n * 2 + 2).toNat = dec n.toNat := by
  obtain ⟨k, rfl⟩ := Int.eq_ofNat_of_zero_le (show 0 ≤ n by omega)
  exact two_fin ⟨k, by omega⟩ (by show 10 ≤ k; omega)

set_option maxHeartbeats 400000 in
theorem letterOf_any (n : Int) (w : World) (h0 : 0 ≤ n) (h1 : n < 8) :
    Calls Try.prog 109 #[.int .i64 n] w fun e w' => e = .returned (.string (by1 (65 + n.toNat))) ∧ w' = w := by
  go_enter Try.func109, Try.ntmps109
  go_wp2
  go_ret
  exact ⟨ret_str (enc_eq n h0 h1), rfl⟩

set_option maxRecDepth 100000 in
set_option maxHeartbeats 400000 in
theorem small_any (n : Int) (w : World) (h0 : 0 ≤ n) (h1 : n < 100) :
    Calls Try.prog 114 #[.int .i64 n] w fun e w' => e = .returned (.string (dec n.toNat)) ∧ w' = w := by
  by_cases h : n < 10
  · go_enter Try.func114, Try.ntmps114
    go_wp2
    go_ret
    exact ⟨ret_str (dig_eq n h0 h), rfl⟩
  · have h2 : 10 ≤ n := by omega
    clear h h0
    go_enter Try.func114, Try.ntmps114
    go_wp2
    go_ret
    exact ⟨ret_str (two_eq n h2 h1), rfl⟩

set_option maxRecDepth 100000 in
set_option maxHeartbeats 400000 in
theorem format_any (n : Int) (w : World) (h0 : 0 ≤ n) (h1 : n < 100) :
    Calls Try.prog 113 #[.int .i64 n, .int .i64 10] w fun e w' => e = .returned (.string (dec n.toNat)) ∧ w' = w := by
  go_enter Try.func113, Try.ntmps113
  go_wp2_with (go_at_call 114; refine (small_any _ _ h0 h1).mono ?_; rintro e w' ⟨rfl, rfl⟩)
  go_ret
  exact ⟨rfl, rfl⟩

set_option maxHeartbeats 400000 in
theorem itoa_any (n : Int) (w : World) (h0 : 0 ≤ n) (h1 : n < 100) :
    Calls Try.prog 111 #[.int .i64 n] w fun e w' => e = .returned (.string (dec n.toNat)) ∧ w' = w := by
  have key : ∀ w, Calls Try.prog 112 #[.int .i64 n] w fun e w' => e = .returned (.string (dec n.toNat)) ∧ w' = w := by
    intro w
    go_enter Try.func112, Try.ntmps112
    go_wp2_with (go_at_call 113; refine (format_any _ _ h0 h1).mono ?_; rintro e w' ⟨rfl, rfl⟩)
    go_ret
    exact ⟨rfl, rfl⟩
  have K := hide key
  clear key
  go_enter Try.func111, Try.ntmps111
  go_wp2_with (go_at_call 112; refine (unhide K _).mono ?_; rintro e w' ⟨rfl, rfl⟩)
  go_ret
  exact ⟨rfl, rfl⟩

set_option maxHeartbeats 400000 in
theorem newNameM_any (who n : Int) (w : World) (h0 : 0 ≤ who) (h1 : who < 8) (h2 : 0 ≤ n) (h3 : n < 100) :
    Calls Try.prog 110 #[.agg #[.int .i64 who, .int .i64 n]] w fun e w' => e = .returned (.string (newName who.toNat n.toNat)) ∧ Below w.heap.size w w' := by
  have s1 : (by1 (65 + who.toNat)).size = 1 := rfl
  rcases dec_sizes n.toNat with s2 | s2
  all_goals
    go_enter Try.func110, Try.ntmps110
    go_wp2_with fail
    go_quiet ((first | (go_at_call 109; exact Calls.quiet_of_same (letterOf_any _ _ h0 h1)) | (go_at_call 111; exact Calls.quiet_of_same (itoa_any _ _ h2 h3))))
    go_wp2
    go_ret
    exact ⟨ret_str rfl, below_drewN ((Below.refl _ _).alloc (Nat.le_refl _) _) _⟩

theorem ret_by1 {a b : Nat} (h : a = b) : Ending.returned (.string (by1 a)) = .returned (.string (by1 b)) := by rw [h]

set_option maxHeartbeats 400000 in
theorem l1Who_any (n : Int) (w : World) (h0 : 0 ≤ n) (h1 : n < 8) :
    Calls Try.prog 78 #[.int .i64 n] w fun e w' => e = .returned (.string (by1 (65 + n.toNat))) ∧ Below w.heap.size w w' := by
  have hc := conv1
  go_enter Try.func78, Try.ntmps78
  go_wp2
  go_ret
  exact ⟨ret_by1 (by omega), (Below.refl _ _).alloc (Nat.le_refl _) _⟩

set_option maxHeartbeats 400000 in
theorem l1Plain_any (n : Int) (w : World) (h0 : 0 ≤ n) (h1 : n < 100) :
    Calls Try.prog 90 #[.int .i64 n] w fun e w' => e = .returned (.string (dec n.toNat)) ∧ Below w.heap.size w w' := by
  have hc := conv1
  have hs := by1_size
  go_enter Try.func90, Try.ntmps90
  go_wp2
  go_loopw [0, 3] (fun m out wr => Below w.heap.size w wr ∧ ((m = .int .i64 n ∧ out = .string ⟨#[]⟩) ∨ (10 ≤ n ∧ m = .int .i64 (n / 10) ∧ out = .string (by1 (48 + n % 10).toNat)))) (fun m _ _ => (intOf m).toNat)
  case atStart => exact ⟨Below.refl _ _, .inl ⟨rfl, rfl⟩⟩
  case round =>
    obtain ⟨hb, ⟨rfl, rfl⟩ | ⟨h2, rfl, rfl⟩⟩ := hrel
    · by_cases h3 : n ≤ 9
      · go_wp2
        go_ret
        exact ⟨ret_str (by rw [dec_one _ (by omega), app_nil, show (48 + n).toNat = 48 + n.toNat by omega]), hb.alloc hb.size _⟩
      · go_wp2
        exact ⟨⟨hb.alloc hb.size _, .inr ⟨by omega, rfl, by rw [app_nil]⟩⟩, by simp [intOf]; omega⟩
    · go_wp2
      go_ret
      exact ⟨ret_str (by rw [dec_two _ (by omega), show (48 + n / 10).toNat = 48 + n.toNat / 10 by omega, show (48 + n % 10).toNat = 48 + n.toNat % 10 by omega]), hb.alloc hb.size _⟩

theorem method_new (x : Value) (w : World) : (method 249 97 x "loop.example/keyward/impl.name").run Try.prog w = .ok (110, x) w := by kernel_rfl

set_option maxRecDepth 100000 in
set_option maxHeartbeats 400000 in
theorem nameOf_new (who n : Int) (w : World) (h0 : 0 ≤ who) (h1 : who < 8) (h2 : 0 ≤ n) (h3 : n < 100) :
    Calls Try.prog 60 #[.iface 97 (.agg #[.int .i64 who, .int .i64 n])] w fun e w' => e = .returned (.string (newName who.toNat n.toNat)) ∧ Below w.heap.size w w' := by
  have hm := method_new
  have hs : (newName who.toNat n.toNat).size ≤ 4 := by rcases newName_sizes who.toNat n.toNat with h | h <;> omega
  go_enter Try.func60, Try.ntmps60
  go_wp2_with (go_at_call 110; refine (newNameM_any _ _ _ h0 h1 h2 h3).mono ?_; rintro e w' ⟨rfl, hb⟩)
  go_ret
  exact ⟨rfl, hb⟩

set_option maxHeartbeats 400000 in
theorem sMakNew_any (who n : Int) (w : World) :
    Calls Try.prog 74 #[.int .i64 who, .int .i64 n] w fun e w' => e = .returned (.string (mkNew who n)) ∧ Below w.heap.size w w' := by
  by_cases h1 : who < 0 ∨ 7 < who
  · have e1 : mkNew who n = ⟨#[]⟩ := by unfold mkNew; rw [if_neg (by omega)]
    rw [e1]
    go_enter Try.func74, Try.ntmps74
    go_wp2_with (go_at_call 36; refine (l1In_no _ _ _ _ h1).mono ?_; rintro e w' ⟨rfl, rfl⟩)
    go_ret
    exact ⟨rfl, Below.refl _ _⟩
  have g0 : 0 ≤ who := by omega
  have g1 : who ≤ 7 := by omega
  by_cases h2 : n < 1 ∨ 99 < n
  · have e1 : mkNew who n = ⟨#[]⟩ := by unfold mkNew; rw [if_neg (by omega)]
    rw [e1]
    clear h1
    go_enter Try.func74, Try.ntmps74
    go_wp2_with fail
    refine (l1In_yes _ _ _ _ g0 g1).mono ?_
    rintro e w' ⟨rfl, rfl⟩
    go_wp2_with fail
    refine (l1In_no _ _ _ _ h2).mono ?_
    rintro e w' ⟨rfl, rfl⟩
    go_wp2_with fail
    go_ret
    exact ⟨rfl, Below.refl _ _⟩
  have e1 : mkNew who n = newName who.toNat n.toNat := by unfold mkNew; rw [if_pos (by omega)]
  rw [e1]
  have g2 : 1 ≤ n := by omega
  have g3 : n ≤ 99 := by omega
  have g4 : 0 ≤ n := by omega
  have g5 : n < 100 := by omega
  have g6 : who < 8 := by omega
  clear h1 h2 e1
  have s1 : (by1 (65 + who.toNat)).size = 1 := rfl
  rcases dec_sizes n.toNat with s2 | s2
  all_goals
    go_enter Try.func74, Try.ntmps74
    go_wp2_with fail
    refine (l1In_yes _ _ _ _ g0 g1).mono ?_
    rintro e w' ⟨rfl, rfl⟩
    go_wp2_with fail
    refine (l1In_yes _ _ _ _ g2 g3).mono ?_
    rintro e w' ⟨rfl, rfl⟩
    go_wp2_with fail
    refine (l1Who_any _ _ g0 g6).mono ?_
    rintro e w1 ⟨rfl, hb1⟩
    go_wp2_with fail
    refine (l1Plain_any _ _ g4 g5).mono ?_
    rintro e w2 ⟨rfl, hb2⟩
    go_wp2_with fail
    go_ret
    exact ⟨rfl, hb1.trans (hb2.mono hb1.size)⟩

#print axioms sMakNew_any
end Go.Proofs.Ytgdhlnfigcaepaa
