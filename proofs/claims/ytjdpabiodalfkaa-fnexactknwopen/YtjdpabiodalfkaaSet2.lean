/-
  The program's set of texts: one more is put into it.
-/
import Derived.Test.YtjdpabiodalfkaaSet
namespace Go.Proofs.Ytjdpabiodalfkaa
open Go.RowKit Go.Maps Go.WideMaps

/-- What holds of a block stays. -/
def Keep (p : Obj → Prop) (w w' : World) : Prop := ∀ (k : Nat) (o : Obj), w.heap[k]? = some o → p o → w'.heap[k]? = some o
theorem Keep.refl (p : Obj → Prop) (w : World) : Keep p w w := fun _ _ h _ => h
theorem Keep.trans {p : Obj → Prop} {u v w : World} (h : Keep p u v) (k : Keep p v w) : Keep p u w := fun i o h1 h2 => k i o (h i o h1 h2) h2
theorem Keep.below {p : Obj → Prop} {w w' : World} (h : Below w.heap.size w w') : Keep p w w' := fun k _ h1 _ => (h.block k (Array.getElem?_eq_some_iff.1 h1).1).trans h1
theorem Keep.grown {p : Obj → Prop} {w w' : World} {r : Option Nat} (h : w.grownBy w' r) (hr : ∀ k o, r = some k → w.heap[k]? = some o → ¬ p o) : Keep p w w' := by
  intro k o h1 h2
  rw [h.block k (Array.getElem?_eq_some_iff.1 h1).1 (fun e => hr k o e.symm h1 h2)]
  exact h1
theorem Keep.setCell {p : Obj → Prop} {w : World} {a : Addr} {v : Value} (hr : ∀ o, w.heap[a.block]? = some o → ¬ p o) : Keep p w (w.setCell a v) := by
  intro k o h1 h2
  have hne : k ≠ a.block := fun e => hr o (e ▸ h1) h2
  rw [Below.heap_setCell _ _ _ _ hne]
  exact h1

theorem heap_alloc_old' (w : World) (o : Obj) {k : Nat} (h : k < w.heap.size) : (w.alloc o).heap[k]? = w.heap[k]? := ((Below.refl w.heap.size w).alloc (Nat.le_refl _) o).block k h

/-- A block that is no part of a set. -/
def noSet : Obj → Prop
  | .cells _ t _ => t ≠ 66 ∧ t ≠ 9
  | .map _ _ => False
  | _ => True

theorem own_block {B : Nat} {w : World} {v : Value} {xs : List ByteArray} (h : Own B w v xs) {g : Nat} (hg : v.ownBlock = some g) : B ≤ g ∧ ∃ cur, w.heap[g]? = some (.cells cur 9 (0, 0)) := by
  rcases h.2 with ⟨h1, _⟩ | ⟨g', cap, cur, h1, h2, h3, _⟩
  · rw [h1] at hg; cases hg
  · rw [h1] at hg
    simp [Value.ownBlock] at hg
    subst hg
    exact ⟨h2, cur, h3⟩

theorem MapOf.obj {w : World} {bm : Nat} {L : List ByteArray} (h : MapOf w bm L) : ∃ es c, w.heap[bm]? = some (.map es c) := by
  obtain ⟨n, D, _, ⟨es, c, h, _⟩, _⟩ := h
  exact ⟨es, c, h⟩

/-- One text more: what holds behind the three writes. -/
theorem add_world {B : Nat} {w w3 w4 : World} {ab bm : Nat} {v v' : Value} {L : List ByteArray} {s : ByteArray} {o : Obj} (h : SetAt B w ab bm v L) (hB : B ≤ ab)
    (hmap : MapOf w3 bm (L ++ [s])) (hg3 : w.grownBy w3 (some bm)) (hrow : w4.ownsRow B 9 1 v' (L.length + 1) (L.map Value.string ++ [.string s])) (hg4 : (w3.alloc o).grownBy w4 v.ownBlock) :
    w4.heap[ab]? = some (.cells #[.map (some bm), v] 66 (0, 0)) ∧ SetAt B (w4.setCell ⟨ab, 1, none⟩ v') ab bm v' (L ++ [s]) ∧ Below B w (w4.setCell ⟨ab, 1, none⟩ v') ∧ Keep noSet w (w4.setCell ⟨ab, 1, none⟩ v') := by
  obtain ⟨es, c, hbm⟩ := h.2.map.obj
  obtain ⟨es3, c3, hbm3⟩ := hmap.obj
  have hab := h.1
  have hne : ab ≠ bm := by
    intro e; rw [e, hbm] at hab; cases hab
  have hs3 := hg3.size
  have hs4 := hg4.size
  simp at hs4
  have hab3 : w3.heap[ab]? = some (.cells #[.map (some bm), v] 66 (0, 0)) := by
    rw [hg3.block ab h.lt (by simp [hne])]; exact hab
  have hown3 : Own B w3 v L := by
    refine World.ownsRow.kept h.2.own hg3 ?_
    cases hv : v.ownBlock with
    | none => exact .inl rfl
    | some g =>
      right
      intro e
      cases e
      obtain ⟨_, cur, hc⟩ := own_block h.2.own hv
      rw [hc] at hbm; cases hbm
  have hvne : ∀ g, v.ownBlock = some g → g ≠ ab ∧ g ≠ bm ∧ B ≤ g := by
    intro g hv
    obtain ⟨q, cur, hc⟩ := own_block hown3 hv
    refine ⟨?_, ?_, q⟩
    · intro e; rw [e, hab3] at hc; simp at hc
    · intro e; rw [e, hbm3] at hc; cases hc
  have hablt3 : ab < w3.heap.size := (Array.getElem?_eq_some_iff.1 hab3).1
  have hab4 : w4.heap[ab]? = some (.cells #[.map (some bm), v] 66 (0, 0)) := by
    rw [hg4.block ab (by simp; omega) (fun e => (hvne ab e.symm).1 rfl)]
    rw [heap_alloc_old' w3 o hablt3]; exact hab3
  have hbm4 : w4.heap[bm]? = w3.heap[bm]? := by
    rw [hg4.block bm (by have := hmap.lt; simp; omega) (fun e => (hvne bm e.symm).2.1 rfl)]
    exact heap_alloc_old' w3 o hmap.lt
  have hown4 : Own B w4 v' (L ++ [s]) := by
    unfold Own
    rw [List.length_append, List.map_append]
    exact hrow
  have hb4 : Below B w w4 := by
    have q1 : Below B w w3 := (Below.refl B w).grown hg3 (Nat.le_trans hB (Nat.le_of_lt h.lt)) (fun k hk => by cases hk; exact h.2.base)
    have q2 : Below B w (w3.alloc o) := q1.alloc (by have := h.lt; omega) o
    exact q2.grown hg4 (by have := h.lt; simp; omega) (fun k hk => (hvne k hk).2.2)
  refine ⟨hab4, ⟨?_, ?_, ?_, h.2.base⟩, hb4.setCell (p := ⟨ab, 1, none⟩) hB v', ?_⟩
  · rw [heap_setCell_same w4 ab 1 _ _ v' hab4]; rfl
  · refine ⟨hown4.1, hown4.2.imp id ?_⟩
    rintro ⟨g, cap, cur, q1, q2, q3, q4⟩
    refine ⟨g, cap, cur, q1, q2, ?_, q4⟩
    have hgne : g ≠ ab := by intro e; rw [e, hab4] at q3; simp at q3
    rw [Below.heap_setCell _ _ _ _ hgne]; exact q3
  · exact hmap.keep (by rw [Below.heap_setCell _ _ _ _ (Ne.symm hne)]; exact hbm4)
  · refine (((Keep.grown hg3 ?_).trans (Keep.below ((Below.refl _ _).alloc (Nat.le_refl _) o))).trans (Keep.grown hg4 ?_)).trans (Keep.setCell ?_)
    · intro k o' e ho hp
      cases e
      rw [hbm] at ho
      cases ho
      exact hp
    · intro k o' e ho hp
      obtain ⟨_, cur, hc⟩ := own_block hown3 e
      rw [heap_alloc_old' w3 o (Array.getElem?_eq_some_iff.1 hc).1, hc] at ho
      cases ho
      exact hp.2 rfl
    · intro o' ho hp
      rw [hab4] at ho
      cases ho
      exact hp.1 rfl

theorem MapOf.put {w3 : World} {bm n : Nat} {D : DataW Unit} {L : List ByteArray} {s : ByteArray} {d : DataW Unit} (hn : n ≤ L.length) (hD : Maps.IsMap D) (hhas : ∀ t : ByteArray, Maps.has D (klit t) = has L t)
    (h : w3.ownsMap Try.prog 9 (plainElem Try.prog 3) bm (n + 1) (D.put (klit s) d)) : MapOf w3 bm (L ++ [s]) := by
  refine ⟨n + 1, _, by simp; omega, h, hD.put _ _, fun t => ?_⟩
  rw [not_has_snoc, ← hhas]
  by_cases e : s = t
  · subst e
    rw [has_put_same hD (klit_key _)]; simp
  · rw [has_put_other (fun q => e (klit_inj q).symm)]; simp [e]

/-- What the slots of add's second statement hold. -/
def TAdd (ab bm : Nat) (v : Value) (m : Nat) (s : ByteArray) (d : Nat) (x : Value) (_ : World) : Prop :=
  match d with
  | 7 => x = .pointer (some ⟨ab, 0, none⟩)
  | 8 => x = .pointer (some ⟨ab, 0, none⟩)
  | 9 => x = .pointer (some ⟨ab, 0, none⟩)
  | 10 => x = .map (some bm)
  | 11 => x = .string s
  | 12 => x = .pointer (some ⟨ab, 0, none⟩)
  | 13 => x = .pointer (some ⟨ab, 0, none⟩)
  | 14 => x = .pointer (some ⟨ab, 1, none⟩)
  | 15 => x = v
  | 16 => x = .int .i64 (m : Int)
  | _ => True

theorem slot {a : Act} {d : Nat} {v : Value} (h : a.tmps.getD d undef = v) : ∀ h', a.tmps[d]'h' = v := by
  intro h'
  rw [← h]
  simp [Array.getD_eq_getD_getElem?, h']

theorem row_form {w : World} {B : Nat} {e : TypeId} {size : Nat} {v : Value} {n : Nat} {xs : List Value} (h : w.ownsRow B e size v n xs) : ∃ ao cap, v = .slice ao n cap := by
  rcases h.2 with ⟨h1, h2⟩ | ⟨g, cap, cur, h1, _⟩
  · exact ⟨none, 0, by rw [h1, h2]⟩
  · exact ⟨_, cap, h1⟩

theorem Own.form {B : Nat} {w : World} {v : Value} {xs : List ByteArray} (h : Own B w v xs) : ∃ ao cap, v = .slice ao xs.length cap := by
  rcases h.2 with ⟨h1, h2⟩ | ⟨g, cap, cur, h1, _⟩
  · exact ⟨none, 0, by rw [h1, h2]⟩
  · exact ⟨_, cap, h1⟩

/-- What add leaves: the set with the text, all else as it was. -/
def Added (B ab bm : Nat) (L : List ByteArray) (w : World) (e : Ending) (w' : World) : Prop := ∃ v', e = .returned (.tuple #[]) ∧ SetAt B w' ab bm v' L ∧ Below B w w' ∧ Keep noSet w w'
/-- With one text more, if it is not there. -/
def plus (L : List ByteArray) (s : ByteArray) : List ByteArray := if has L s then L else L ++ [s]
theorem plus_has {L : List ByteArray} {s : ByteArray} (h : has L s = true) : plus L s = L := by unfold plus; rw [if_pos h]
theorem plus_new {L : List ByteArray} {s : ByteArray} (h : has L s = false) : plus L s = L ++ [s] := by unfold plus; rw [if_neg (by rw [h]; simp)]

set_option maxRecDepth 100000 in
set_option maxHeartbeats 4000000 in
theorem set_add_any {B : Nat} {w : World} {ab bm : Nat} {v : Value} {L : List ByteArray} (s : ByteArray) (h : SetAt B w ab bm v L) (hB : B ≤ ab) (hs : s.size ≤ maxLen) (hL : L.length ≤ 100000) :
    Calls Try.prog 73 #[.pointer (some ⟨ab, 0, none⟩), .string s] w (Added B ab bm (plus L s) w) := by
  have HS := hide h
  have M := hide hs
  have hlt0 := h.lt
  obtain ⟨i0, hi, hz0, hz1, hz2⟩ := info_parts info_str2
  have hI := hide (And.intro hi (And.intro hz0 (And.intro hz1 hz2)))
  clear h hs hi hz0 hz1 hz2
  go_enter Try.func73, Try.ntmps73
  go_wp2_with fail
  refine (set_has_any s (unhide HS) M.out).mono ?_
  cases hh : has L s with
  | true =>
    rintro e w1 ⟨rfl, hb1⟩
    go_wp2_with fail
    exact bodyPost_ret (v := .tuple #[]) (by simp [results, Try.results73, go_sem]) rfl ⟨v, rfl, by rw [plus_has hh]; exact (unhide HS).below hb1, hb1.mono (by omega), Keep.below hb1⟩
  | false =>
    have hp := hide (plus_new hh)
    rintro e w1 ⟨rfl, hb1⟩
    have HS1 := hide ((unhide HS).below hb1)
    have HB1 := hide hb1
    clear hb1 hh
    go_wp2_with fail
    refine wp_region_end (by kernel_rfl) (TAdd ab bm v L.length s) (fun _ w2 => Below w1.heap.size w1 w2) 27 0 (by kernel_rfl) (by kernel_rfl) (by kernel_rfl) (by decide) (by kernel_rfl) rfl (by decide) ?_ ?hops ?hlast
    · exact ⟨rfl, rfl, rfl, Nat.le_refl _, fun _ _ => rfl⟩
    case hops =>
      intro i o a w2 b hi ho hKB hJ _ hdep
      have hS2 := (unhide HS1).below hJ
      have c0 := hS2.c0
      have c1 := hS2.c1
      obtain ⟨ao, cap, hv⟩ := hS2.2.own.form
      have k0 : a.tmps.getD 0 undef = .pointer (some ⟨ab, 0, none⟩) := hKB.2.2 0 (by kernel_rfl)
      have k1 : a.tmps.getD 1 undef = .string s := hKB.2.2 1 (by kernel_rfl)
      have hi10 : i < 10 := hi
      clear hS2 hi hKB
      match i, ho with
      | 0, ho =>
        simp at ho
        subst ho
        clear hdep
        go_simp
        exact ⟨_, rfl, rfl⟩
      | 1, ho =>
        simp at ho
        subst ho
        have t7 : a.tmps.getD 7 undef = .pointer (some ⟨ab, 0, none⟩) := hdep { on := 0, ground := .data } (by simp) rfl _ 7 rfl rfl
        clear hdep
        go_simp
        exact ⟨_, rfl, rfl⟩
      | 2, ho =>
        simp at ho
        subst ho
        have t8 : a.tmps.getD 8 undef = .pointer (some ⟨ab, 0, none⟩) := hdep { on := 1, ground := .data } (by simp) rfl _ 8 rfl rfl
        clear hdep
        go_simp
        exact ⟨_, rfl, rfl⟩
      | 3, ho =>
        simp at ho
        subst ho
        have t9 : a.tmps.getD 9 undef = .pointer (some ⟨ab, 0, none⟩) := hdep { on := 2, ground := .data } (by simp) rfl _ 9 rfl rfl
        clear hdep
        go_simp
        exact ⟨_, rfl, rfl⟩
      | 4, ho =>
        simp at ho
        subst ho
        clear hdep
        go_simp
        exact ⟨_, rfl, rfl⟩
      | 5, ho =>
        simp at ho
        subst ho
        clear hdep
        go_simp
        exact ⟨_, rfl, rfl⟩
      | 6, ho =>
        simp at ho
        subst ho
        have t12 : a.tmps.getD 12 undef = .pointer (some ⟨ab, 0, none⟩) := hdep { on := 5, ground := .data } (by simp) rfl _ 12 rfl rfl
        clear hdep
        go_simp
        exact ⟨_, rfl, rfl⟩
      | 7, ho =>
        simp at ho
        subst ho
        have t13 : a.tmps.getD 13 undef = .pointer (some ⟨ab, 0, none⟩) := hdep { on := 6, ground := .data } (by simp) rfl _ 13 rfl rfl
        clear hdep
        go_simp
        exact ⟨_, rfl, rfl⟩
      | 8, ho =>
        simp at ho
        subst ho
        have t14 : a.tmps.getD 14 undef = .pointer (some ⟨ab, 1, none⟩) := hdep { on := 7, ground := .data } (by simp) rfl _ 14 rfl rfl
        clear hdep
        go_simp
        exact ⟨_, rfl, rfl⟩
      | 9, ho =>
        simp at ho
        subst ho
        have t15 : a.tmps.getD 15 undef = v := hdep { on := 8, ground := .data } (by simp) rfl _ 15 rfl rfl
        subst hv
        clear hdep
        go_simp
        exact ⟨_, rfl, rfl⟩
      | n + 10, ho => omega
    case hlast =>
      intro o a w2 ho hKB hJ hall
      have HS2 := hide ((unhide HS1).below hJ)
      have HB2 := hide ((unhide HB1).trans (hJ.mono (unhide HB1).size))
      have t10 : a.tmps.getD 10 undef = .map (some bm) := hall 3 _ 10 (by decide) rfl rfl
      have t11 : a.tmps.getD 11 undef = .string s := hall 4 _ 11 (by decide) rfl rfl
      have t16 : a.tmps.getD 16 undef = .int .i64 (L.length : Int) := hall 9 _ 16 (by decide) rfl rfl
      clear hall hJ
      obtain ⟨h27, hdf, hk⟩ := hKB
      have k0 : a.tmps.getD 0 undef = .pointer (some ⟨ab, 0, none⟩) := hk 0 (by kernel_rfl)
      have k1 : a.tmps.getD 1 undef = .string s := hk 1 (by kernel_rfl)
      clear hk
      simp at ho
      subst ho
      obtain ⟨n, D, hn, hown, hD, hhas⟩ := (unhide HS2).2.map
      obtain ⟨w3, hrun, r1, r2⟩ := hown.update lawS underM (by unfold maxLen; omega) (klit_keyOf M.out) (plainElem_int underI (a := (L.length : Int)) (WalkArith.wf_i64 (by omega)))
      have e10 : a.eval (.tmp 10) = .map (some bm) := t10
      have e11 : a.eval (.tmp 11) = .string s := t11
      have e16 : a.eval (.tmp 16) = .int .i64 (L.length : Int) := t16
      unfold Oper.wp
      simp only [execOp, e10, e11, e16, hrun, Sem.run_bind, Sem.run_pure, Result.andThen]
      unfold Oper.upon
      simp only [Act.put]
      have HM := hide (MapOf.put hn hD hhas r1)
      have HG := hide r2
      have hab2 := (unhide HS2).lt
      have hab3 := r2.size
      have c1 : w3.cell? ⟨ab, 1, none⟩ = some v := by
        rw [← (unhide HS2).c1]
        refine World.cell?_of_block (r2.block ab hab2 ?_)
        intro e
        cases e
        obtain ⟨es, c, q⟩ := (unhide HS2).2.map.obj
        rw [(unhide HS2).1] at q
        cases q
      have HO := hide (World.ownsRow.kept (unhide HS2).2.own r2 (by
        cases hv : v.ownBlock with
        | none => exact .inl rfl
        | some g =>
          right
          intro e
          cases e
          obtain ⟨_, cur, hc⟩ := own_block (unhide HS2).2.own hv
          obtain ⟨es, c, q⟩ := (unhide HS2).2.map.obj
          rw [hc] at q
          cases q))
      clear hown hD hhas hrun r1 r2 hn e10 e11 e16 t10 t11 t16
      obtain ⟨tmps, dfs⟩ := a
      have hx := arr_expl 27 tmps h27
      simp only [List.range, List.range.loop, List.map] at hx
      change dfs = [] at hdf
      change tmps.getD 0 undef = _ at k0
      change tmps.getD 1 undef = _ at k1
      rw [k0, k1] at hx
      subst hdf
      rw [hx]
      generalize tmps.getD 2 undef = x2, tmps.getD 3 undef = x3, tmps.getD 4 undef = x4, tmps.getD 5 undef = x5, tmps.getD 6 undef = x6, tmps.getD 7 undef = x7, tmps.getD 8 undef = x8, tmps.getD 9 undef = x9, tmps.getD 10 undef = x10, tmps.getD 11 undef = x11, tmps.getD 12 undef = x12, tmps.getD 13 undef = x13, tmps.getD 14 undef = x14, tmps.getD 15 undef = x15, tmps.getD 16 undef = x16, tmps.getD 17 undef = x17, tmps.getD 18 undef = x18, tmps.getD 19 undef = x19, tmps.getD 20 undef = x20, tmps.getD 21 undef = x21, tmps.getD 22 undef = x22, tmps.getD 23 undef = x23, tmps.getD 24 undef = x24, tmps.getD 25 undef = x25, tmps.getD 26 undef = x26
      clear hx h27 k0 k1 tmps
      go_wp2_with (at_builtin; refine wpList_append_own _ rfl _ _ 23 rfl B 9 i0 (.string ⟨#[]⟩) 1 16 underSS (unhide hI).1 (unhide hI).2.1 (unhide hI).2.2.1 (unhide hI).2.2.2 rfl (by decide) _ _ _ rfl (World.ownsRow.alloc (unhide HO) _) ⟨w3.heap.size, 0, none⟩ 1 1 [.string s] rfl rfl ?c1 ?c2 ?c3 ?c4 ?c5 ?_)
      case c1 =>
        intro j u hj
        match j, hj with
        | 0, hj => simp at hj; subst hj; simp [Addr.add]
      case c2 => intro u hu; simp at hu; subst hu; rfl
      case c3 => unfold maxLen; omega
      case c4 => omega
      case c5 => simp; omega
      intro v' w4 hown' hgrow _
      have R := hide (add_world (unhide HS2) hB (unhide HM) (unhide HG) hown' hgrow)
      have f1 : w4.cell? ⟨ab, 1, none⟩ = some v := by rw [cell_of_row _ _ _ _ _ _ R.out.1]; rfl
      have f2 := frozen_of_row w4 ab 1 _ _ R.out.1
      obtain ⟨ao', cap', hv'⟩ := row_form hown'
      subst hv'
      clear hown' hgrow
      go_wp2_with fail
      refine bodyPost_ret (v := .tuple #[]) (by simp [results, Try.results73, go_sem]) rfl ⟨.slice ao' (L.length + 1) cap', rfl, ?_⟩
      rw [hp.out]
      have hBw : B ≤ w.heap.size := by omega
      exact ⟨R.out.2.1, ((unhide HB2).mono hBw).trans R.out.2.2.1, (Keep.below (unhide HB2)).trans R.out.2.2.2⟩
#print axioms set_add_any
end Go.Proofs.Ytjdpabiodalfkaa
