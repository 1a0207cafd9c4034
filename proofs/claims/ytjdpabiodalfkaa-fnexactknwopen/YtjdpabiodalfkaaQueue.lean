/-
  The program's queue of shut boxes: what one holds; one more is put into it.
-/
import Derived.Test.YtjdpabiodalfkaaAt
import Derived.Test.YtjdpabiodalfkaaMkg2
namespace Go.Proofs.Ytjdpabiodalfkaa
open Go.RowKit

theorem info_sb : (Try.prog.info? 117).map (fun i => (i.zero, i.size, i.bytes)) = some (some (.agg #[.string ⟨#[]⟩, .slice none 0 0, .string ⟨#[]⟩]), 3, 56) := by kernel_rfl
theorem underSb : Try.prog.underlying 112 = some (.slice 117) := by kernel_rfl

/-- A box that waits: its key's name, what that is made from, the secret in it. -/
structure Item where
  key : ByteArray
  from_ : Value
  secret : ByteArray

def Item.cells (x : Item) : List Value := [.string x.key, x.from_, .string x.secret]
def Item.val (x : Item) : Value := .agg #[.string x.key, x.from_, .string x.secret]
def flat (xs : List Item) : List Value := xs.flatMap Item.cells
theorem flat_snoc (xs : List Item) (x : Item) : flat (xs ++ [x]) = flat xs ++ [.string x.key, x.from_, .string x.secret] := by simp [flat, Item.cells]
theorem flat_cons (x : Item) (xs : List Item) : flat (x :: xs) = [.string x.key, x.from_, .string x.secret] ++ flat xs := by simp [flat, Item.cells]
theorem flat_len : ∀ xs : List Item, (flat xs).length = xs.length * 3
  | [] => rfl
  | x :: xs => by rw [flat_cons, List.length_append, flat_len xs]; simp; omega

/-- What waits is read right. -/
def Item.ok (w : World) (x : Item) : Prop := ∃ lo hi, MT lo hi w x.from_ x.key ∧ hi ≤ w.heap.size
theorem Item.ok.below {w w' : World} {x : Item} (h : x.ok w) (hb : Below w.heap.size w w') : x.ok w' := by
  obtain ⟨lo, hi, h1, h2⟩ := h
  exact ⟨lo, hi, h1.stay hb h2, Nat.le_trans h2 hb.size⟩
theorem Item.ok.keep {p : Obj → Prop} {w w' : World} {x : Item} (h : x.ok w) (hk : Keep p w w') (hp : ∀ cur, p (.cells cur 70 (0, 0))) (hs : w.heap.size ≤ w'.heap.size) : x.ok w' := by
  obtain ⟨lo, hi, h1, h2⟩ := h
  exact ⟨lo, hi, h1.keep hk hp, Nat.le_trans h2 hs⟩
theorem Item.ok.form {w : World} {x : Item} (h : x.ok w) : ∃ ao n cap, x.from_ = .slice ao n cap := by
  obtain ⟨lo, hi, h1, h2⟩ := h
  exact h1.form

/-- A block holds a queue of these. -/
structure QAt (B : Nat) (w : World) (qb : Nat) (v : Value) (xs : List Item) : Prop where
  cell : w.heap[qb]? = some (.cells #[v] 114 (0, 0))
  own : ownsAt w B 117 3 v xs.length (flat xs)
  ok : ∀ x ∈ xs, x.ok w

/-- A block that is no part of a queue. -/
def noQ : Obj → Prop
  | .cells _ t _ => t ≠ 114 ∧ t ≠ 117
  | _ => True

theorem QAt.lt {B : Nat} {w : World} {qb : Nat} {v : Value} {xs : List Item} (h : QAt B w qb v xs) : qb < w.heap.size := (Array.getElem?_eq_some_iff.1 h.cell).1
theorem QAt.below {B : Nat} {w w' : World} {qb : Nat} {v : Value} {xs : List Item} (h : QAt B w qb v xs) (hb : Below w.heap.size w w') : QAt B w' qb v xs :=
  ⟨(hb.block qb h.lt).trans h.cell, h.own.below hb, fun x hx => (h.ok x hx).below hb⟩
theorem QAt.keep {B : Nat} {p : Obj → Prop} {w w' : World} {qb : Nat} {v : Value} {xs : List Item} (h : QAt B w qb v xs) (hk : Keep p w w') (h1 : ∀ cur, p (.cells cur 70 (0, 0))) (h2 : ∀ cur, p (.cells cur 114 (0, 0)))
    (h3 : ∀ cur, p (.cells cur 117 (0, 0))) (hs : w.heap.size ≤ w'.heap.size) : QAt B w' qb v xs :=
  ⟨hk _ _ h.cell (h2 _), h.own.keep fun k _ _ _ hc => hk k _ hc (h3 _), fun x hx => (h.ok x hx).keep hk h1 hs⟩
theorem QAt.c0 {B : Nat} {w : World} {qb : Nat} {v : Value} {xs : List Item} (h : QAt B w qb v xs) : w.cell? ⟨qb, 0, none⟩ = some v := by rw [cell_of_row _ _ _ _ _ _ h.cell]; rfl
theorem QAt.f0 {B : Nat} {w : World} {qb : Nat} {v : Value} {xs : List Item} (h : QAt B w qb v xs) : w.frozen? ⟨qb, 0, none⟩ = false := frozen_of_row w qb 0 _ _ h.cell

/-- What put leaves: the queue with one more, all else as it was. -/
def Put (B qb : Nat) (xs : List Item) (w : World) (e : Ending) (w' : World) : Prop := ∃ v', e = .returned (.tuple #[]) ∧ QAt B w' qb v' xs ∧ Below B w w' ∧ Keep noQ w w'

/-- What the slots of put's statement hold. -/
def TPut (w1 : World) (B qb : Nat) (v : Value) (n : Nat) (ys : List Value) (x : Item) (d : Nat) (u : Value) (w : World) : Prop :=
  match d with
  | 4 => u = .pointer (some ⟨qb, 0, none⟩)
  | 5 => u = .pointer (some ⟨qb, 0, none⟩)
  | 6 => u = .pointer (some ⟨qb, 0, none⟩)
  | 7 => u = .pointer (some ⟨qb, 0, none⟩)
  | 8 => u = v
  | 9 => u = x.val
  | 10 => ∃ g, u = .slice (some ⟨g, 0, none⟩) 1 1 ∧ w.heap[g]? = some (.cells #[.string x.key, x.from_, .string x.secret] 117 (0, 0)) ∧ w1.heap.size ≤ g
  | 11 => ownsAt w B 117 3 u (n + 1) (ys ++ [.string x.key, x.from_, .string x.secret])
  | 12 => u = .pointer (some ⟨qb, 0, none⟩)
  | 13 => u = .pointer (some ⟨qb, 0, none⟩)
  | _ => True

theorem TPut.below {w1 : World} {B qb : Nat} {v : Value} {n : Nat} {ys : List Value} {x : Item} {d : Nat} {u : Value} {w w' : World} (h : TPut w1 B qb v n ys x d u w) (hb : Below w.heap.size w w') : TPut w1 B qb v n ys x d u w' := by
  unfold TPut at *
  split at h
  all_goals first
    | exact h
    | (obtain ⟨g, h1, h2, h3⟩ := h; exact ⟨g, h1, (hb.block g (Array.getElem?_eq_some_iff.1 h2).1).trans h2, h3⟩)
    | exact ownsAt.below h hb
theorem TPut.grown {w1 : World} {B qb : Nat} {v : Value} {n : Nat} {ys : List Value} {x : Item} {d : Nat} {u : Value} {w w' : World} (h : TPut w1 B qb v n ys x d u w) (hd : d ≠ 11) (hg : w.grownBy w' v.ownBlock) (hv : ∀ k, v.ownBlock = some k → k < w1.heap.size) : TPut w1 B qb v n ys x d u w' := by
  unfold TPut at *
  split at h
  all_goals first
    | exact h
    | exact absurd rfl hd
    | (obtain ⟨g, h1, h2, h3⟩ := h; exact ⟨g, h1, (hg.block g (Array.getElem?_eq_some_iff.1 h2).1 (fun e => by have := hv g e.symm; omega)).trans h2, h3⟩)

/-- One box more: what holds behind the writes. -/
theorem put_world {B : Nat} {w w1 w2 : World} {qb : Nat} {v u : Value} {xs : List Item} {x : Item} (h : QAt B w qb v xs) (hB : B ≤ qb) (hx : x.ok w) (hb1 : Below w.heap.size w w1) (hg : w1.grownBy w2 v.ownBlock)
    (hu : ownsAt w2 B 117 3 u (xs.length + 1) (flat xs ++ [.string x.key, x.from_, .string x.secret])) :
    w2.heap[qb]? = some (.cells #[v] 114 (0, 0)) ∧ QAt B (w2.setCell ⟨qb, 0, none⟩ u) qb u (xs ++ [x]) ∧ Below B w (w2.setCell ⟨qb, 0, none⟩ u) ∧ Keep noQ w (w2.setCell ⟨qb, 0, none⟩ u) := by
  have hlt := h.lt
  have hs1 := hb1.size
  have hs2 := hg.size
  have hv : ∀ k, v.ownBlock = some k → B ≤ k ∧ k < w.heap.size ∧ k ≠ qb ∧ ∃ cur, w.heap[k]? = some (.cells cur 117 (0, 0)) := by
    intro k hk
    obtain ⟨q1, cur, q2⟩ := h.own.lt k hk
    refine ⟨q1, (Array.getElem?_eq_some_iff.1 q2).1, ?_, cur, q2⟩
    intro e
    rw [e, h.cell] at q2
    simp at q2
  have hqb : w2.heap[qb]? = some (.cells #[v] 114 (0, 0)) := by
    rw [hg.block qb (by omega) (fun e => (hv qb e.symm).2.2.1 rfl), hb1.block qb hlt]; exact h.cell
  have hk2 : Keep noQ w w2 := by
    refine (Keep.below hb1).trans (Keep.grown hg ?_)
    intro k o e ho hp
    obtain ⟨_, q2, _, cur, q3⟩ := hv k e
    rw [hb1.block k q2, q3] at ho
    cases ho
    exact hp.2 rfl
  have hk3 : Keep noQ w (w2.setCell ⟨qb, 0, none⟩ u) := by
    refine hk2.trans (Keep.setCell ?_)
    intro o ho hp
    rw [hqb] at ho
    cases ho
    exact hp.1 rfl
  refine ⟨hqb, ⟨?_, ?_, ?_⟩, ?_, hk3⟩
  · rw [heap_setCell_same w2 qb 0 _ _ u hqb]; rfl
  · rw [List.length_append, flat_snoc]
    refine ownsAt.keep hu fun k cur _ _ hc => ?_
    have hne : k ≠ qb := by intro e; rw [e, hqb] at hc; simp at hc
    rw [Below.heap_setCell _ _ _ _ hne]; exact hc
  · intro y hy
    have hyo : y.ok w := by
      rcases List.mem_append.1 hy with hy | hy
      · exact h.ok y hy
      · simp at hy; subst hy; exact hx
    exact hyo.keep hk3 (fun cur => ⟨by decide, by decide⟩) (by simp; omega)
  · have q1 : Below B w w1 := hb1.mono (by omega)
    have q2 : Below B w w2 := q1.grown hg (by omega) (fun k hk => (hv k hk).1)
    exact q2.setCell (p := ⟨qb, 0, none⟩) hB u

set_option maxRecDepth 100000 in
set_option maxHeartbeats 4000000 in
theorem put_any {B : Nat} {w : World} {qb : Nat} {v : Value} {xs : List Item} (x : Item) (h : QAt B w qb v xs) (hB : B ≤ qb) (hx : x.ok w) (hl : xs.length ≤ 1000) :
    Calls Try.prog 80 #[.pointer (some ⟨qb, 0, none⟩), x.val] w (Put B qb (xs ++ [x]) w) := by
  obtain ⟨xo, xn, xc, hxf⟩ := hx.form
  obtain ⟨k, f, s⟩ := x
  simp only at hxf
  subst hxf
  have HQ := hide h
  have HX := hide hx
  have hlt := h.lt
  obtain ⟨i0, hi, hz0, hz1, hz2⟩ := info_parts info_sb
  have hI := hide (And.intro hi (And.intro hz0 (And.intro hz1 hz2)))
  clear h hx hi hz0 hz1 hz2
  unfold Item.val
  simp only
  go_enter Try.func80, Try.ntmps80
  go_wp2_with fail
  have HB1 : Hid (Below w.heap.size w (w.alloc (.cells #[.string k, .slice xo xn xc, .string s] 117))) := (Below.refl _ _).alloc (Nat.le_refl _) _
  have HN : Hid ((w.alloc (.cells #[.string k, .slice xo xn xc, .string s] 117)).heap[w.heap.size]? = some (.cells #[.string k, .slice xo xn xc, .string s] 117 (0, 0))) := heap_alloc_new _ _
  have hsz1 : (w.alloc (.cells #[.string k, .slice xo xn xc, .string s] 117)).heap.size = w.heap.size + 1 := by simp
  generalize w.alloc (.cells #[.string k, .slice xo xn xc, .string s] 117) = w1 at *
  have HQ1 := hide ((unhide HQ).below (unhide HB1))
  refine wp_region_end (by kernel_rfl) (TPut w1 B qb v xs.length (flat xs) ⟨k, .slice xo xn xc, s⟩) (JMk w1 v) 14 7 (by kernel_rfl) (by kernel_rfl) (by kernel_rfl) (by decide) (by kernel_rfl) rfl (by decide) ?_ ?hops ?hlast
  · exact ⟨(fun e => by cases e), fun _ => ⟨rfl, rfl, rfl, Nat.le_refl _, fun _ _ => rfl⟩⟩
  case hops =>
    intro i o a w2 b hi ho hKB hJ hp hdep
    have hg2 := hJ.grown
    have hs2 := hg2.size
    have hi10 : i < 10 := hi
    have k0 : a.tmps.getD 0 undef = .pointer (some ⟨qb, 0, none⟩) := hKB.2.2 0 (by kernel_rfl)
    have k3 : a.tmps.getD 3 undef = .pointer (some ⟨w.heap.size, 0, none⟩) := hKB.2.2 3 (by kernel_rfl)
    have hv : ∀ k, v.ownBlock = some k → k < w.heap.size ∧ k ≠ qb := by
      intro k hk
      obtain ⟨q1, cur, q2⟩ := (unhide HQ).own.lt k hk
      refine ⟨(Array.getElem?_eq_some_iff.1 q2).1, ?_⟩
      intro e
      rw [e, (unhide HQ).cell] at q2
      simp at q2
    have hJJ := hide hJ
    clear hi hKB hJ
    match i, ho with
      | 0, ho =>
        simp at ho
        subst ho
        clear hdep
        go_simp
        exact ⟨_, rfl, rfl, unhide hJJ⟩
      | 1, ho =>
        simp at ho
        subst ho
        clear hdep
        go_simp
        exact ⟨_, rfl, rfl, unhide hJJ⟩
      | 2, ho =>
        simp at ho
        subst ho
        have t5 : a.tmps.getD 5 undef = .pointer (some ⟨qb, 0, none⟩) := hdep { on := 1, ground := .data } (by simp) rfl _ 5 rfl rfl
        clear hdep
        go_simp
        exact ⟨_, rfl, rfl, unhide hJJ⟩
      | 3, ho =>
        simp at ho
        subst ho
        have t6 : a.tmps.getD 6 undef = .pointer (some ⟨qb, 0, none⟩) := hdep { on := 2, ground := .data } (by simp) rfl _ 6 rfl rfl
        clear hdep
        go_simp
        exact ⟨_, rfl, rfl, unhide hJJ⟩
      | 4, ho =>
        simp at ho
        subst ho
        have t7 : a.tmps.getD 7 undef = .pointer (some ⟨qb, 0, none⟩) := hdep { on := 3, ground := .data } (by simp) rfl _ 7 rfl rfl
        have c0 : w2.cell? ⟨qb, 0, none⟩ = some v := by
          rw [World.cell?_of_block (a := ⟨qb, 0, none⟩) (hg2.block qb (by omega) (fun e => (hv qb e.symm).2 rfl))]; exact (unhide HQ1).c0
        clear hdep
        go_simp
        exact ⟨_, rfl, rfl, unhide hJJ⟩
      | 5, ho =>
        simp at ho
        subst ho
        have hblk : w2.heap[w.heap.size]? = some (.cells #[.string k, .slice xo xn xc, .string s] 117 (0, 0)) := by
          rw [hg2.block w.heap.size (by omega) (fun e => by have := (hv _ e.symm).1; omega)]; exact HN.out
        have c0 : w2.cell? ⟨w.heap.size, 0, none⟩ = some (.string k) := by rw [cell_of_row _ _ _ _ _ _ hblk]; rfl
        have c1 : w2.cell? ⟨w.heap.size, 1, none⟩ = some (.slice xo xn xc) := by rw [cell_of_row _ _ _ _ _ _ hblk]; rfl
        have c2 : w2.cell? ⟨w.heap.size, 2, none⟩ = some (.string s) := by rw [cell_of_row _ _ _ _ _ _ hblk]; rfl
        clear hdep hblk
        go_simp
        exact ⟨_, rfl, rfl, unhide hJJ⟩
      | 6, ho =>
        simp at ho
        subst ho
        have t9 : a.tmps.getD 9 undef = .agg #[.string k, .slice xo xn xc, .string s] := hdep { on := 5, ground := .data } (by simp) rfl _ 9 rfl rfl
        clear hdep
        have t9' : a.tmps[9]?.getD undef = .agg #[.string k, .slice xo xn xc, .string s] := by rw [← t9]; simp
        clear t9
        go_simp
        have hba : Below w2.heap.size w2 (w2.alloc (.cells #[.string k, .slice xo xn xc, .string s] 117)) := (Below.refl _ _).alloc (Nat.le_refl _) _
        exact ⟨_, rfl, ⟨w2.heap.size, rfl, heap_alloc_new _ _, hs2⟩, fun d x _ h => h.below hba, (unhide hJJ).below hba⟩
      | 7, ho =>
        simp at ho
        subst ho
        have hbf := hp rfl
        subst hbf
        have t8 : a.tmps.getD 8 undef = v := hdep { on := 4, ground := .data } (by simp) rfl _ 8 rfl rfl
        obtain ⟨g, t10, q0, q4⟩ : TPut w1 B qb v xs.length (flat xs) ⟨k, .slice xo xn xc, s⟩ 10 (a.tmps.getD 10 undef) w2 := hdep { on := 6, ground := .data } (by simp) rfl _ 10 rfl rfl
        clear hdep
        have hbl := (unhide hJJ).2 rfl
        obtain ⟨x, w3, r0, r1, r2⟩ := run_append_at (P := Try.prog) w2 B 112 112 117 i0 _ 3 56 underSb (unhide hI).1 (unhide hI).2.1 (unhide hI).2.2.1 (unhide hI).2.2.2 rfl (by decide) v _ _ ((unhide HQ1).own.below hbl) ⟨g, 0, none⟩ 1 1 [.string k, .slice xo xn xc, .string s] rfl (by
          intro j u hj
          rw [Addr.add_lit, Nat.zero_add, cell_of_row _ _ _ _ _ _ q0]
          simpa using hj) (by
          intro u hu
          simp at hu
          rcases hu with rfl | rfl | rfl <;> rfl) (by unfold maxLen; omega) (by omega) (by omega)
        have e8 : a.eval (.tmp 8) = v := t8
        have e10 : a.eval (.tmp 10) = .slice (some ⟨g, 0, none⟩) 1 1 := t10
        unfold Oper.wp execOp
        simp only [resolve, invoke, builtin, Sem.run_bind, Sem.run_pure, Result.andThen_ok, List.map_toArray, List.map_cons, List.map_nil, e8, e10, r0]
        refine ⟨_, rfl, fun d hd => ?_, fun d y hd h => h.grown (fun e => hd (by rw [e])) r2 (fun k hk => by have := (hv k hk).1; omega), (unhide hJJ).app r2⟩
        cases hd
        exact r1
      | 8, ho =>
        simp at ho
        subst ho
        have t4 : a.tmps.getD 4 undef = .pointer (some ⟨qb, 0, none⟩) := hdep { on := 0, ground := .data } (by simp) rfl _ 4 rfl rfl
        clear hdep
        go_simp
        exact ⟨_, rfl, rfl, unhide hJJ⟩
      | 9, ho =>
        simp at ho
        subst ho
        have t12 : a.tmps.getD 12 undef = .pointer (some ⟨qb, 0, none⟩) := hdep { on := 8, ground := .data } (by simp) rfl _ 12 rfl rfl
        clear hdep
        go_simp
        exact ⟨_, rfl, rfl, unhide hJJ⟩
      | n + 10, ho => omega
  case hlast =>
    intro o a w2 ho hKB hJ hall
    have hg2 := hJ.grown
    have t11 : TPut w1 B qb v xs.length (flat xs) ⟨k, .slice xo xn xc, s⟩ 11 (a.tmps.getD 11 undef) w2 := hall 7 _ 11 (by decide) rfl rfl
    have t13 : a.tmps.getD 13 undef = .pointer (some ⟨qb, 0, none⟩) := hall 9 _ 13 (by decide) rfl rfl
    clear hall hJ
    obtain ⟨h14, hdf, hkk⟩ := hKB
    clear hkk
    have R := put_world (unhide HQ) hB (unhide HX) (unhide HB1) hg2 t11
    have c0 : w2.cell? ⟨qb, 0, none⟩ = some v := by rw [cell_of_row _ _ _ _ _ _ R.1]; rfl
    have z0 := frozen_of_row w2 qb 0 _ _ R.1
    obtain ⟨uo, uc, hu⟩ := ownsAt.form t11
    simp at ho
    subst ho
    obtain ⟨tmps, dfs⟩ := a
    have hx := arr_expl 14 tmps h14
    simp only [List.range, List.range.loop, List.map] at hx
    change dfs = [] at hdf
    subst hdf
    change tmps.getD 13 undef = _ at t13
    change tmps.getD 11 undef = _ at hu
    change _ ∧ QAt B (w2.setCell ⟨qb, 0, none⟩ (tmps.getD 11 undef)) qb (tmps.getD 11 undef) _ ∧ Below B w (w2.setCell ⟨qb, 0, none⟩ (tmps.getD 11 undef)) ∧ Keep noQ w (w2.setCell ⟨qb, 0, none⟩ (tmps.getD 11 undef)) at R
    rw [hu] at R hx
    rw [t13] at hx
    rw [hx]
    have HR := hide R
    generalize tmps.getD 0 undef = x0, tmps.getD 1 undef = x1, tmps.getD 2 undef = x2, tmps.getD 3 undef = x3, tmps.getD 4 undef = x4, tmps.getD 5 undef = x5, tmps.getD 6 undef = x6, tmps.getD 7 undef = x7, tmps.getD 8 undef = x8, tmps.getD 9 undef = x9, tmps.getD 10 undef = x10, tmps.getD 12 undef = x12
    clear hx tmps R t11 hg2 t13 h14 hu
    generalize xs.length + 1 = nn at HR ⊢
    go_simp
    go_wp2_with fail
    exact bodyPost_ret (v := .tuple #[]) (by simp [results, Try.results80, go_sem]) rfl ⟨_, rfl, HR.out.2.1, HR.out.2.2.1, HR.out.2.2.2⟩
#print axioms put_any
end Go.Proofs.Ytjdpabiodalfkaa
