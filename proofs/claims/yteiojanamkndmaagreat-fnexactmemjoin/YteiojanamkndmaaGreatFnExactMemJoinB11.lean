/-
  append of all of one row onto a slice of the call's own, whatever the row is, none too. No Go function in it.
-/
import Derived.Test.YteiojanamkndmaaGreatFnExactMemJoinB5
import Derived.Laws.OwnMore
import Derived.Lib.AppendZeros
import Derived.Test.YteiojanamkndmaaGreatFnExactMemJoinB10
import Derived.Test.YteiojanamkndmaaGreatFnExactMemJoinB3
namespace Go.Proofs.YteiojanamkndmaaGreat
open Go.RowKit

section
variable {P : Program} (w : World)
theorem grownBy_refl (r : Option Nat) : w.grownBy w r := ⟨rfl, rfl, rfl, Nat.le_refl _, fun _ _ _ => rfl⟩
theorem wpList_append_row {ops : Array Oper} {rest : List Oper} {o : Oper} {a : Act} {Q : Exit → Act → World → Prop} (hgd : o.guard = none) (s x : Operand) (t : TypeId)
    (ho : o.op = .call { callee := .builtin .append, args := #[s, x], argTypes := #[t, t] })
    (base : Nat) (e : TypeId) (i : TypeInfo) (z : Value) (size bytes : Nat) (ht : P.underlying t = some (.slice e)) (hi : P.info? e = some i) (hz : i.zero = some z)
    (hsize : i.size = size) (hby : i.bytes = bytes) (hzs : z.cells.size = size) (hsz : 0 < size)
    (v : Value) (n : Nat) (xs : List Value) (hs : a.eval s = v) (hown : w.ownsRow base e size v n xs)
    (y : Value) (m : Nat) (news : List Value) (hx : a.eval x = y)
    (hy : (y = .slice none 0 0 ∧ m = 0 ∧ news = []) ∨ ∃ ad c, y = .slice (some ad) m c ∧ news.length = m * size ∧ ∀ j u, news[j]? = some u → w.cell? (ad.add j) = some u) (h1 : ∀ u ∈ news, u.oneCell' = true)
    (h63 : n + m ≤ maxLen) (hbytes : (n + m) * bytes ≤ 140737488355328) (hbase : base ≤ w.heap.size)
    (h : ∀ v' w', w'.ownsRow base e size v' (n + m) (xs ++ news) → w.grownBy w' v.ownBlock → wpList P ops Q rest (a.put o.dst v') w') : wpList P ops Q (o :: rest) a w := by
  rcases hy with ⟨rfl, rfl, rfl⟩ | ⟨ad, c, rfl, hl, hnews⟩
  · refine wpList_plain hgd fun _ hK => ?_
    refine Go.Lib.wp_append_run w s x t t ho v (.slice none 0 0) hs hx v w (run_append_owned_none _ base t o.type e i size ht hi v n xs hown) (hK _ _ (h v w (by simpa using hown) (grownBy_refl w _)))
  · exact wpList_append_own _ hgd s x t ho base e i z size bytes ht hi hz hsize hby hzs hsz v n xs hs hown ad m c news hx hl hnews h1 h63 hbytes hbase (fun v' w' h2 h3 _ => h v' w' h2 h3)
end

section
variable {P : Program} (w : World)
theorem wp_append_row {o : Oper} {a : Act} {K : Act → World → Prop} {Q : Exit → Act → World → Prop} (s x : Operand) (t : TypeId)
    (ho : o.op = .call { callee := .builtin .append, args := #[s, x], argTypes := #[t, t] })
    (base : Nat) (e : TypeId) (i : TypeInfo) (z : Value) (size bytes : Nat) (ht : P.underlying t = some (.slice e)) (hi : P.info? e = some i) (hz : i.zero = some z)
    (hsize : i.size = size) (hby : i.bytes = bytes) (hzs : z.cells.size = size) (hsz : 0 < size)
    (v : Value) (n : Nat) (xs : List Value) (hs : a.eval s = v) (hown : w.ownsRow base e size v n xs)
    (y : Value) (m : Nat) (news : List Value) (hx : a.eval x = y)
    (hy : (y = .slice none 0 0 ∧ m = 0 ∧ news = []) ∨ ∃ ad c, y = .slice (some ad) m c ∧ news.length = m * size ∧ ∀ j u, news[j]? = some u → w.cell? (ad.add j) = some u) (h1 : ∀ u ∈ news, u.oneCell' = true)
    (h63 : n + m ≤ maxLen) (hbytes : (n + m) * bytes ≤ 140737488355328) (hbase : base ≤ w.heap.size)
    (h : ∀ v' w', w'.ownsRow base e size v' (n + m) (xs ++ news) → w.grownBy w' v.ownBlock → K (a.put o.dst v') w') : o.wp P a w K Q := by
  rcases hy with ⟨rfl, rfl, rfl⟩ | ⟨ad, c, rfl, hl, hnews⟩
  · exact Go.Lib.wp_append_run w s x t t ho v (.slice none 0 0) hs hx v w (run_append_owned_none _ base t o.type e i size ht hi v n xs hown) (h v w (by simpa using hown) (grownBy_refl w _))
  · exact wp_append_own w s x t ho base e i z size bytes ht hi hz hsize hby hzs hsz v n xs hs hown ad m c news hx hl hnews h1 h63 hbytes hbase (fun v' w' h2 h3 _ => h v' w' h2 h3)
end

/-- A row of numbers as what is appended. -/
theorem IRow.news {w : World} {v : Value} {xs : List Int} (h : IRow w v xs) :
    (v = .slice none 0 0 ∧ xs.length = 0 ∧ xs.map (Value.int .i64) = []) ∨ ∃ ad c, v = .slice (some ad) xs.length c ∧ (xs.map (Value.int .i64)).length = xs.length * 1 ∧ ∀ j u, (xs.map (Value.int .i64))[j]? = some u → w.cell? (ad.add j) = some u := by
  rcases h with ⟨rfl, rfl⟩ | ⟨a, cap, rfl, h1, h2, h3⟩
  · exact .inl ⟨rfl, rfl, rfl⟩
  · refine .inr ⟨a, cap, rfl, by simp, fun j u hj => ?_⟩
    rw [List.getElem?_map] at hj
    cases hx : xs[j]? with
    | none => rw [hx] at hj; cases hj
    | some x =>
      rw [hx] at hj
      have hlt := (List.getElem?_eq_some_iff.1 hx).1
      rw [h3 j hlt, List.getD_eq_getElem?_getD, hx]
      simpa using hj
/-- A row of texts as what is appended. -/
theorem SRow.news {w : World} {v : Value} {xs : List ByteArray} (h : SRow w v xs) :
    (v = .slice none 0 0 ∧ xs.length = 0 ∧ xs.map Value.string = []) ∨ ∃ ad c, v = .slice (some ad) xs.length c ∧ (xs.map Value.string).length = xs.length * 1 ∧ ∀ j u, (xs.map Value.string)[j]? = some u → w.cell? (ad.add j) = some u := by
  rcases h with ⟨rfl, rfl⟩ | ⟨a, cap, rfl, h1, h2, h3⟩
  · exact .inl ⟨rfl, rfl, rfl⟩
  · refine .inr ⟨a, cap, rfl, by simp, fun j u hj => ?_⟩
    rw [List.getElem?_map] at hj
    cases hx : xs[j]? with
    | none => rw [hx] at hj; cases hj
    | some x =>
      rw [hx] at hj
      have hlt := (List.getElem?_eq_some_iff.1 hx).1
      rw [h3 j hlt, List.getD_eq_getElem?_getD, hx]
      simpa using hj
theorem texts_one (xs : List ByteArray) : ∀ u ∈ xs.map Value.string, u.oneCell' = true := by
  intro u hu
  obtain ⟨x, _, rfl⟩ := List.mem_map.1 hu
  rfl
theorem ints_one (xs : List Int) : ∀ u ∈ xs.map (Value.int .i64), u.oneCell' = true := by
  intro u hu
  obtain ⟨x, _, rfl⟩ := List.mem_map.1 hu
  rfl
#print axioms IRow.news
end Go.Proofs.YteiojanamkndmaaGreat
/-
  The specification's l4All.
-/
namespace Go.Proofs.YteiojanamkndmaaGreat
open Go.RowKit

theorem has_no {keys : List ByteArray} {own : List Mo} {C : List Int} {j q : Nat} (hj : j < C.length) (hq : C.getD j 0 = (q : Int)) (h1 : keys.getD q ByteArray.empty ≠ ByteArray.empty) (h2 : secAt own (q : Int) = ByteArray.empty) : hasS keys own C = false := by
  unfold hasS
  rw [List.all_eq_false]
  refine ⟨(q : Int), ?_, ?_⟩
  · rw [← hq, List.getD_eq_getElem?_getD, List.getElem?_eq_getElem hj]
    exact List.getElem_mem _
  · rw [show ((q : Int)).toNat = q from rfl, h2, decide_eq_false h1]
    simp
theorem has_yes {keys : List ByteArray} {own : List Mo} {C : List Int} (h : ∀ j, j < C.length → keys.getD (C.getD j 0).toNat ByteArray.empty = ByteArray.empty ∨ secAt own (C.getD j 0) ≠ ByteArray.empty) : hasS keys own C = true := by
  unfold hasS
  rw [List.all_eq_true]
  intro z hz
  obtain ⟨j, hj, rfl⟩ := List.mem_iff_getElem.1 hz
  have hq : C.getD j 0 = C[j] := by rw [List.getD_eq_getElem?_getD, List.getElem?_eq_getElem hj]; rfl
  have := h j hj
  rw [hq] at this
  simp only [Bool.or_eq_true, decide_eq_true_eq]
  exact this

set_option maxRecDepth 100000 in
set_option maxHeartbeats 4000000 in
theorem l4All_any (inn : Bool) (k : Nat) (hk : k < 8) (ks os : Value) (keys : List ByteArray) (own : List Mo) (ep : Int) (init tag : ByteArray) (w : World) (hK : SRow w ks keys) (hO : MRow w os own) (hl : keys.length = 15) :
    Calls Tryz.prog 50 #[.agg (memC inn (k : Int) ks os ep init tag)] w fun e w' => e = .returned (.bool (hasS keys own (chainOf (leafOf (k : Int))) && decide (keys.getD (leafOf (k : Int)).toNat ByteArray.empty ≠ ByteArray.empty))) ∧ Below w.heap.size w w' := by
  have HK := hide hK
  have HO := hide hO
  have HL := hide hl
  obtain ⟨a1, p1, rfl, _, _, g3⟩ := hK.form
  obtain ⟨a2, p2, rfl, g4, g5, _⟩ := hO
  rw [hl] at HK g3 ⊢
  obtain ⟨ad, rfl, _⟩ := g3 0 (by omega)
  unfold maxLen at g5
  clear hK hl g3
  obtain ⟨i0, hi, hz0, hz1, hz2⟩ := info_parts info_int2
  have hI := hide (And.intro hi (And.intro hz0 (And.intro hz1 hz2)))
  clear hi hz0 hz1 hz2
  have HLF : Hid (leafOf (k : Int) = ((7 + k : Nat) : Int)) := by show _ = _; unfold leafOf; rw [if_pos (by omega)]; omega
  have HLT : Hid ((leafOf (k : Int)).toNat = 7 + k) := by show _ = _; rw [HLF.out]; rfl
  have HCH : Hid (chainOf (leafOf (k : Int)) = ((7 + k : Nat) : Int) :: upOf ((7 + k : Nat) : Int)) := by show _ = _; rw [HLF.out]; unfold chainOf; rw [if_pos (by omega)]
  have HC15 : Hid (∀ j, j < (chainOf (leafOf (k : Int))).length → ∃ q : Nat, q < 15 ∧ (chainOf (leafOf (k : Int))).getD j 0 = (q : Int)) := by
    intro j hj
    rw [HCH.out] at hj ⊢
    cases j with
    | zero => exact ⟨7 + k, by omega, rfl⟩
    | succ j =>
      have hj2 : j < (upOf ((7 + k : Nat) : Int)).length := by simpa using hj
      rw [upOf_nat _ (by omega)] at hj2 ⊢
      rw [List.length_map] at hj2
      refine ⟨(ups (7 + k))[j], ?_, ?_⟩
      · have := ups_lt (7 + k) (by omega) _ (List.getElem_mem hj2)
        omega
      · rw [List.getD_eq_getElem?_getD]
        simp [List.getElem?_map, List.getElem?_eq_getElem hj2]
  have hlu : (upOf ((7 + k : Nat) : Int)).length ≤ 4 := by rw [upOf_nat _ (by omega), List.length_map]; have := ups_len (7 + k) (by omega); omega
  have hlf0 : 7 + k < 15 := by omega
  obtain ⟨lf, hlf⟩ : ∃ lf, lf = 7 + k := ⟨_, rfl⟩
  rw [← hlf] at HLF HCH HLT hlf0 hlu
  clear hlf
  have hlf2 : (lf : Int) < 15 := by omega
  have HCL0 : Hid ((chainOf (leafOf (k : Int))).length ≤ 5) := by show _ ≤ _; rw [HCH.out, List.length_cons]; omega
  generalize hC : chainOf (leafOf (k : Int)) = C at *
  clear hC
  obtain ⟨cl, hcl⟩ : ∃ cl, C.length = cl := ⟨_, rfl⟩
  have HCL := hide hcl
  have hcl5 : cl ≤ 5 := by rw [← hcl]; exact HCL0.out
  clear hcl
  have A0 := hide (Blk.new w 35 (memC inn (k : Int) (.slice (some ad) 15 p1) (.slice a2 own.length p2) ep init tag))
  have HB0 : Hid (Below w.heap.size w (w.alloc (.cells (memC inn (k : Int) (.slice (some ad) 15 p1) (.slice a2 own.length p2) ep init tag) 35))) := (Below.refl _ _).alloc (Nat.le_refl _) _
  go_enter Tryz.func50, Tryz.ntmps50
  go_wp2_with fail
  refine (sTreLeaf_any _ _).mono ?_
  rw [HLF.out]
  rintro e wz ⟨rfl, rfl⟩
  go_wp2_with fail
  have hs1 : (w.alloc (.cells (memC inn (k : Int) (.slice (some ad) 15 p1) (.slice a2 own.length p2) ep init tag) 35)).heap.size = w.heap.size + 1 := by simp
  generalize w.alloc (.cells (memC inn (k : Int) (.slice (some ad) 15 p1) (.slice a2 own.length p2) ep init tag) 35) = w1 at *
  refine (sTreUp_any (lf : Int) _).mono ?_
  rintro e wcx ⟨vcx, rfl, hox, hbx⟩
  have Nx := hide hox.irow.news
  have hrx : Hid (wcx.ownsRow (w.heap.size + 1) 3 1 (.slice (some ⟨w.heap.size + 1, 0, none⟩) 1 1) 1 [.int .i64 (lf : Int)]) := by
    have q := own_below' (World.ownsRow_lit (base := w1.heap.size) (e := 3) (size := 1) w1 #[.int .i64 (lf : Int)] 1 (Nat.le_refl _) (by unfold maxLen; omega) rfl) hbx
    rw [hs1] at q
    exact q
  have hcx : Hid (Below w1.heap.size w1 wcx) := ((Below.refl _ _).alloc (Nat.le_refl _) _).trans (hbx.mono (by simp))
  clear hox hbx
  go_wp2_with (at_builtin; refine wpList_append_row _ rfl _ _ 86 rfl (w.heap.size + 1) 3 i0 (.int .i64 0) 1 8 Tryz.underlying86 (unhide hI).1 (unhide hI).2.1 (unhide hI).2.2.1 (unhide hI).2.2.2 rfl (by decide) _ _ _ rfl (unhide hrx) _ _ _ rfl (unhide Nx) (ints_one _) (by unfold maxLen; omega) (by omega) (by have := (unhide hcx).size; omega) ?_)
  intro vx wx hownx hgx
  have hox2 : OwnI (w.heap.size + 1) wx vx C := by
    rw [HCH.out]
    unfold OwnI
    rw [List.length_cons, Nat.add_comm (upOf (lf : Int)).length 1]
    exact hownx
  have hb : Below w1.heap.size w1 wx := (unhide hcx).grown hgx (unhide hcx).size (fun k hk => by simp [Value.ownBlock] at hk; omega)
  obtain ⟨ox, cx, hvx⟩ := row_form' hox2
  subst hvx
  rw [HCL.out] at hox2 ⊢
  have R := hide hox2.irow
  have A := (unhide A0).below hb
  have HB := hide (HB0.out.trans (hb.mono HB0.out.size))
  clear hb hownx hgx hox2 hrx hcx Nx hlu A0 HB0
  have hcl1 : 1 ≤ cl := by rw [← HCL.out, HCH.out]; simp
  obtain ⟨go, rfl⟩ : ∃ g, ox = some g := by
    obtain ⟨ax, c', qx, _, _, qy⟩ := (unhide R).form
    obtain ⟨a', ha', _⟩ := qy 0 (by rw [HCL.out]; omega)
    simp only [Value.slice.injEq] at qx
    exact ⟨a', by rw [qx.1, ha']⟩
  go_wp2_with fail
  go_loopw [5] (fun i wr => ∃ j : Nat, j ≤ cl ∧ i = .int .i64 (j : Int) ∧ Hid (∀ z, z < j → keys.getD (C.getD z 0).toNat ByteArray.empty = ByteArray.empty ∨ secAt own (C.getD z 0) ≠ ByteArray.empty) ∧ Blk wr w.heap.size 35 (memC inn (k : Int) (.slice (some ad) 15 p1) (.slice a2 own.length p2) ep init tag) ∧ Hid (IRow wr (.slice (some go) cl cx) C) ∧ Hid (Below w.heap.size w wr)) (fun i _ => cl - (intOf i).toNat)
  case atStart => exact ⟨0, by omega, rfl, fun z hz => by omega, A, R, HB⟩
  case round =>
    clear A R HB
    obtain ⟨j, hj, rfl, hN, a0, r0, hL⟩ := hrel
    by_cases hlt : j < cl
    · have hlt2 : (j : Int) < (cl : Int) := by omega
      have i3 : IntKind.i64.wrap ((j : Int) + 1) = (j : Int) + 1 := by simp [IntKind.wrap, IntKind.bits, IntKind.signed]; omega
      obtain ⟨nq, hnq, hcj⟩ := HC15.out j (by rw [HCL.out]; exact hlt)
      have hq2 : (nq : Int) < 15 := by omega
      have HCJ := hide hcj
      have HNX : Hid ((keys.getD nq ByteArray.empty = ByteArray.empty ∨ secAt own ((nq : Nat) : Int) ≠ ByteArray.empty) → Hid (∀ z, z < j + 1 → keys.getD (C.getD z 0).toNat ByteArray.empty = ByteArray.empty ∨ secAt own (C.getD z 0) ≠ ByteArray.empty)) := fun q z hz => by
        by_cases e : z = j
        · subst e; rw [HCJ.out]; exact q
        · exact hN.out z (by omega)
      have HNO : Hid (keys.getD nq ByteArray.empty ≠ ByteArray.empty → secAt own ((nq : Nat) : Int) = ByteArray.empty → (hasS keys own C && decide (keys.getD (leafOf (k : Int)).toNat ByteArray.empty ≠ ByteArray.empty)) = false) := fun q1 q2 => by rw [has_no (by rw [HCL.out]; exact hlt) HCJ.out q1 q2]; rfl
      have A : Hid (Blk wr.drew w.heap.size 35 (memC inn (k : Int) (.slice (some ad) 15 p1) (.slice a2 own.length p2) ep init tag)) := a0
      have R := hide (unhide r0).drew
      have HB := hide hL.out.drew
      clear hcj hN a0 r0 hL
      obtain ⟨ky, hky⟩ : ∃ ky, keys.getD nq ByteArray.empty = ky := ⟨_, rfl⟩
      rw [hky] at HNX HNO
      have HKY := hide hky
      clear hky
      by_cases hke : ky = ByteArray.empty
      · have HN1 := HNX.out (.inl hke)
        subst hke
        have hkt : (ByteArray.empty).toList = [] := nil_text
        clear HNX HNO
        go_wp2_with fail
        refine wp_region_later (by kernel_rfl) ?_
        refine later_take (i := 0) (d := 20) (v := ?_) (by kernel_rfl) (by kernel_rfl) (by kernel_rfl) (by kernel_rfl) (fun _ _ _ h => h) (fun oi hoi => ?_) ?_
        rotate_left
        · simp at hoi
          subst hoi
          refine ⟨by rfl, fun w' hw' => ?_⟩
          go_simp
          all_goals rfl
        try simp only [Act.put, List.setIfInBounds_toArray, List.set_cons_zero, List.set_cons_succ]
        refine later_take (i := 1) (d := 21) (v := ?_) (by kernel_rfl) (by kernel_rfl) (by kernel_rfl) (by kernel_rfl) (fun _ _ _ h => h) (fun oi hoi => ?_) ?_
        rotate_left
        · simp at hoi
          subst hoi
          refine ⟨by rfl, fun w' hw' => ?_⟩
          go_simp
          all_goals rfl
        try simp only [Act.put, List.setIfInBounds_toArray, List.set_cons_zero, List.set_cons_succ]
        refine later_take (i := 2) (d := 22) (v := ?_) (by kernel_rfl) (by kernel_rfl) (by kernel_rfl) (by kernel_rfl) (fun _ _ _ h => h) (fun oi hoi => ?_) ?_
        rotate_left
        · simp at hoi
          subst hoi
          refine ⟨by rfl, fun w' hw' => ?_⟩
          have hx := Blk.below (unhide A) hw'
          have x2 := hx.cell 2
          simp only [List.getElem?_toArray, List.getElem?_cons_succ, List.getElem?_cons_zero] at x2
          go_simp
          all_goals rfl
        try simp only [Act.put, List.setIfInBounds_toArray, List.set_cons_zero, List.set_cons_succ]
        refine later_take (i := 3) (d := 23) (v := ?_) (by kernel_rfl) (by kernel_rfl) (by kernel_rfl) (by kernel_rfl) (fun _ _ _ h => h) (fun oi hoi => ?_) ?_
        rotate_left
        · simp at hoi
          subst hoi
          refine ⟨by rfl, fun w' hw' => ?_⟩
          go_simp
          all_goals rfl
        try simp only [Act.put, List.setIfInBounds_toArray, List.set_cons_zero, List.set_cons_succ]
        refine later_take (i := 4) (d := 24) (v := ?_) (by kernel_rfl) (by kernel_rfl) (by kernel_rfl) (by kernel_rfl) (fun _ _ _ h => h) (fun oi hoi => ?_) ?_
        rotate_left
        · simp at hoi
          subst hoi
          refine ⟨by rfl, fun w' hw' => ?_⟩
          go_simp
          all_goals rfl
        try simp only [Act.put, List.setIfInBounds_toArray, List.set_cons_zero, List.set_cons_succ]
        refine later_take (i := 5) (d := 25) (v := ?_) (by kernel_rfl) (by kernel_rfl) (by kernel_rfl) (by kernel_rfl) (fun _ _ _ h => h) (fun oi hoi => ?_) ?_
        rotate_left
        · simp at hoi
          subst hoi
          refine ⟨by rfl, fun w' hw' => ?_⟩
          go_simp
          all_goals rfl
        try simp only [Act.put, List.setIfInBounds_toArray, List.set_cons_zero, List.set_cons_succ]
        refine later_take (i := 6) (d := 26) (v := ?_) (by kernel_rfl) (by kernel_rfl) (by kernel_rfl) (by kernel_rfl) (fun _ _ _ h => h) (fun oi hoi => ?_) ?_
        rotate_left
        · simp at hoi
          subst hoi
          refine ⟨by rfl, fun w' hw' => ?_⟩
          have hx := ((unhide R).below hw').form
          obtain ⟨ax, cx', qx, _, _, qy⟩ := hx
          rw [HCL.out] at qx qy
          simp only [Value.slice.injEq] at qx
          obtain ⟨rfl, _, rfl⟩ := qx
          obtain ⟨a', ha', hcx⟩ := qy j (by omega)
          cases ha'
          rw [HCJ.out] at hcx
          go_simp
          all_goals rfl
        try simp only [Act.put, List.setIfInBounds_toArray, List.set_cons_zero, List.set_cons_succ]
        refine later_take (i := 7) (d := 27) (v := ?_) (by kernel_rfl) (by kernel_rfl) (by kernel_rfl) (by kernel_rfl) (fun _ _ _ h => h) (fun oi hoi => ?_) ?_
        rotate_left
        · simp at hoi
          subst hoi
          refine ⟨by rfl, fun w' hw' => ?_⟩
          go_simp
          all_goals rfl
        try simp only [Act.put, List.setIfInBounds_toArray, List.set_cons_zero, List.set_cons_succ]
        refine later_take (i := 8) (d := 28) (v := ?_) (by kernel_rfl) (by kernel_rfl) (by kernel_rfl) (by kernel_rfl) (fun _ _ _ h => h) (fun oi hoi => ?_) ?_
        rotate_left
        · simp at hoi
          subst hoi
          refine ⟨by rfl, fun w' hw' => ?_⟩
          have hx := ((unhide HK).below ((unhide HB).trans (hw'.mono (unhide HB).size))).form
          obtain ⟨ax, cx', qx, _, _, qy⟩ := hx
          rw [HL.out] at qx qy
          simp only [Value.slice.injEq] at qx
          obtain ⟨rfl, _, rfl⟩ := qx
          obtain ⟨a', ha', hcx⟩ := qy nq (by omega)
          cases ha'
          rw [HKY.out] at hcx
          go_simp
          all_goals rfl
        try simp only [Act.put, List.setIfInBounds_toArray, List.set_cons_zero, List.set_cons_succ]
        refine later_take (i := 9) (d := 29) (v := ?_) (by kernel_rfl) (by kernel_rfl) (by kernel_rfl) (by kernel_rfl) (fun _ _ _ h => h) (fun oi hoi => ?_) ?_
        rotate_left
        · simp at hoi
          subst hoi
          refine ⟨by rfl, fun w' hw' => ?_⟩
          go_simp
          all_goals rfl
        try simp only [Act.put, List.setIfInBounds_toArray, List.set_cons_zero, List.set_cons_succ]
        refine later_take (i := 10) (d := 30) (v := ?_) (by kernel_rfl) (by kernel_rfl) (by kernel_rfl) (by kernel_rfl) (fun _ _ _ h => h) (fun oi hoi => ?_) ?_
        rotate_left
        · simp at hoi
          subst hoi
          refine ⟨by rfl, fun w' hw' => ?_⟩
          go_simp
          all_goals rfl
        try simp only [Act.put, List.setIfInBounds_toArray, List.set_cons_zero, List.set_cons_succ]
        refine later_skip (i := 11) (d := 31) (by kernel_rfl) (by kernel_rfl) (by kernel_rfl) (by kernel_rfl) (fun _ _ _ h => h) (by rfl) ?_
        try simp only [Act.put, List.setIfInBounds_toArray, List.set_cons_zero, List.set_cons_succ]
        refine later_skip (i := 12) (d := 32) (by kernel_rfl) (by kernel_rfl) (by kernel_rfl) (by kernel_rfl) (fun _ _ _ h => h) (by rfl) ?_
        try simp only [Act.put, List.setIfInBounds_toArray, List.set_cons_zero, List.set_cons_succ]
        refine later_skip (i := 13) (d := 33) (by kernel_rfl) (by kernel_rfl) (by kernel_rfl) (by kernel_rfl) (fun _ _ _ h => h) (by rfl) ?_
        try simp only [Act.put, List.setIfInBounds_toArray, List.set_cons_zero, List.set_cons_succ]
        refine later_skip (i := 14) (d := 34) (by kernel_rfl) (by kernel_rfl) (by kernel_rfl) (by kernel_rfl) (fun _ _ _ h => h) (by rfl) ?_
        try simp only [Act.put, List.setIfInBounds_toArray, List.set_cons_zero, List.set_cons_succ]
        refine later_skip (i := 15) (d := 35) (by kernel_rfl) (by kernel_rfl) (by kernel_rfl) (by kernel_rfl) (fun _ _ _ h => h) (by rfl) ?_
        try simp only [Act.put, List.setIfInBounds_toArray, List.set_cons_zero, List.set_cons_succ]
        refine later_skip (i := 16) (d := 36) (by kernel_rfl) (by kernel_rfl) (by kernel_rfl) (by kernel_rfl) (fun _ _ _ h => h) (by rfl) ?_
        try simp only [Act.put, List.setIfInBounds_toArray, List.set_cons_zero, List.set_cons_succ]
        refine later_skip (i := 17) (d := 37) (by kernel_rfl) (by kernel_rfl) (by kernel_rfl) (by kernel_rfl) (fun _ _ _ h => h) (by rfl) ?_
        try simp only [Act.put, List.setIfInBounds_toArray, List.set_cons_zero, List.set_cons_succ]
        refine later_take (i := 18) (d := 38) (v := ?_) (by kernel_rfl) (by kernel_rfl) (by kernel_rfl) (by kernel_rfl) (fun _ _ _ h => h) (fun oi hoi => ?_) ?_
        rotate_left
        · simp at hoi
          subst hoi
          refine ⟨by rfl, fun w' hw' => ?_⟩
          go_simp
          all_goals rfl
        try simp only [Act.put, List.setIfInBounds_toArray, List.set_cons_zero, List.set_cons_succ]
        refine later_done (by kernel_rfl) ?_ _
        go_wp2_with fail
        go_roundw
        case rel => exact ⟨j + 1, by omega, by simp, HN1, unhide A, R, HB⟩
        case measure => simp [intOf]; omega
      · have hkt : ¬ ky.toList = [] := no_text hke
        have hkt2 : ky.toList.isEmpty = false := by simpa using no_text hke
        obtain ⟨ah, hah⟩ : ∃ ah, secAt own ((nq : Nat) : Int) = ah := ⟨_, rfl⟩
        rw [hah] at HNX HNO
        have HAH := hide hah
        clear hah
        by_cases hae : ah = ByteArray.empty
        · have HE := hide (HNO.out hke hae)
          subst hae
          have hat : (ByteArray.empty).toList = [] := nil_text
          clear hke
          go_wp2_with fail
          refine wp_region_later (by kernel_rfl) ?_
          refine later_take (i := 0) (d := 20) (v := ?_) (by kernel_rfl) (by kernel_rfl) (by kernel_rfl) (by kernel_rfl) (fun _ _ _ h => h) (fun oi hoi => ?_) ?_
          rotate_left
          · simp at hoi
            subst hoi
            refine ⟨by rfl, fun w' hw' => ?_⟩
            go_simp
            all_goals rfl
          try simp only [Act.put, List.setIfInBounds_toArray, List.set_cons_zero, List.set_cons_succ]
          refine later_take (i := 1) (d := 21) (v := ?_) (by kernel_rfl) (by kernel_rfl) (by kernel_rfl) (by kernel_rfl) (fun _ _ _ h => h) (fun oi hoi => ?_) ?_
          rotate_left
          · simp at hoi
            subst hoi
            refine ⟨by rfl, fun w' hw' => ?_⟩
            go_simp
            all_goals rfl
          try simp only [Act.put, List.setIfInBounds_toArray, List.set_cons_zero, List.set_cons_succ]
          refine later_take (i := 2) (d := 22) (v := ?_) (by kernel_rfl) (by kernel_rfl) (by kernel_rfl) (by kernel_rfl) (fun _ _ _ h => h) (fun oi hoi => ?_) ?_
          rotate_left
          · simp at hoi
            subst hoi
            refine ⟨by rfl, fun w' hw' => ?_⟩
            have hx := Blk.below (unhide A) hw'
            have x2 := hx.cell 2
            simp only [List.getElem?_toArray, List.getElem?_cons_succ, List.getElem?_cons_zero] at x2
            go_simp
            all_goals rfl
          try simp only [Act.put, List.setIfInBounds_toArray, List.set_cons_zero, List.set_cons_succ]
          refine later_take (i := 3) (d := 23) (v := ?_) (by kernel_rfl) (by kernel_rfl) (by kernel_rfl) (by kernel_rfl) (fun _ _ _ h => h) (fun oi hoi => ?_) ?_
          rotate_left
          · simp at hoi
            subst hoi
            refine ⟨by rfl, fun w' hw' => ?_⟩
            go_simp
            all_goals rfl
          try simp only [Act.put, List.setIfInBounds_toArray, List.set_cons_zero, List.set_cons_succ]
          refine later_take (i := 4) (d := 24) (v := ?_) (by kernel_rfl) (by kernel_rfl) (by kernel_rfl) (by kernel_rfl) (fun _ _ _ h => h) (fun oi hoi => ?_) ?_
          rotate_left
          · simp at hoi
            subst hoi
            refine ⟨by rfl, fun w' hw' => ?_⟩
            go_simp
            all_goals rfl
          try simp only [Act.put, List.setIfInBounds_toArray, List.set_cons_zero, List.set_cons_succ]
          refine later_take (i := 5) (d := 25) (v := ?_) (by kernel_rfl) (by kernel_rfl) (by kernel_rfl) (by kernel_rfl) (fun _ _ _ h => h) (fun oi hoi => ?_) ?_
          rotate_left
          · simp at hoi
            subst hoi
            refine ⟨by rfl, fun w' hw' => ?_⟩
            go_simp
            all_goals rfl
          try simp only [Act.put, List.setIfInBounds_toArray, List.set_cons_zero, List.set_cons_succ]
          refine later_take (i := 6) (d := 26) (v := ?_) (by kernel_rfl) (by kernel_rfl) (by kernel_rfl) (by kernel_rfl) (fun _ _ _ h => h) (fun oi hoi => ?_) ?_
          rotate_left
          · simp at hoi
            subst hoi
            refine ⟨by rfl, fun w' hw' => ?_⟩
            have hx := ((unhide R).below hw').form
            obtain ⟨ax, cx', qx, _, _, qy⟩ := hx
            rw [HCL.out] at qx qy
            simp only [Value.slice.injEq] at qx
            obtain ⟨rfl, _, rfl⟩ := qx
            obtain ⟨a', ha', hcx⟩ := qy j (by omega)
            cases ha'
            rw [HCJ.out] at hcx
            go_simp
            all_goals rfl
          try simp only [Act.put, List.setIfInBounds_toArray, List.set_cons_zero, List.set_cons_succ]
          refine later_take (i := 7) (d := 27) (v := ?_) (by kernel_rfl) (by kernel_rfl) (by kernel_rfl) (by kernel_rfl) (fun _ _ _ h => h) (fun oi hoi => ?_) ?_
          rotate_left
          · simp at hoi
            subst hoi
            refine ⟨by rfl, fun w' hw' => ?_⟩
            go_simp
            all_goals rfl
          try simp only [Act.put, List.setIfInBounds_toArray, List.set_cons_zero, List.set_cons_succ]
          refine later_take (i := 8) (d := 28) (v := ?_) (by kernel_rfl) (by kernel_rfl) (by kernel_rfl) (by kernel_rfl) (fun _ _ _ h => h) (fun oi hoi => ?_) ?_
          rotate_left
          · simp at hoi
            subst hoi
            refine ⟨by rfl, fun w' hw' => ?_⟩
            have hx := ((unhide HK).below ((unhide HB).trans (hw'.mono (unhide HB).size))).form
            obtain ⟨ax, cx', qx, _, _, qy⟩ := hx
            rw [HL.out] at qx qy
            simp only [Value.slice.injEq] at qx
            obtain ⟨rfl, _, rfl⟩ := qx
            obtain ⟨a', ha', hcx⟩ := qy nq (by omega)
            cases ha'
            rw [HKY.out] at hcx
            go_simp
            all_goals rfl
          try simp only [Act.put, List.setIfInBounds_toArray, List.set_cons_zero, List.set_cons_succ]
          refine later_take (i := 9) (d := 29) (v := ?_) (by kernel_rfl) (by kernel_rfl) (by kernel_rfl) (by kernel_rfl) (fun _ _ _ h => h) (fun oi hoi => ?_) ?_
          rotate_left
          · simp at hoi
            subst hoi
            refine ⟨by rfl, fun w' hw' => ?_⟩
            go_simp
            all_goals rfl
          try simp only [Act.put, List.setIfInBounds_toArray, List.set_cons_zero, List.set_cons_succ]
          refine later_take (i := 10) (d := 30) (v := ?_) (by kernel_rfl) (by kernel_rfl) (by kernel_rfl) (by kernel_rfl) (fun _ _ _ h => h) (fun oi hoi => ?_) ?_
          rotate_left
          · simp at hoi
            subst hoi
            refine ⟨by rfl, fun w' hw' => ?_⟩
            go_simp
            all_goals rfl
          try simp only [Act.put, List.setIfInBounds_toArray, List.set_cons_zero, List.set_cons_succ]
          refine later_take (i := 11) (d := 31) (v := ?_) (by kernel_rfl) (by kernel_rfl) (by kernel_rfl) (by kernel_rfl) (fun _ _ _ h => h) (fun oi hoi => ?_) ?_
          rotate_left
          · simp at hoi
            subst hoi
            refine ⟨by rfl, fun w' hw' => ?_⟩
            have hx := Blk.below (unhide A) hw'
            have x0 := hx.cell 0
            have x1 := hx.cell 1
            have x2 := hx.cell 2
            have x3 := hx.cell 3
            have x4 := hx.cell 4
            have x5 := hx.cell 5
            have x6 := hx.cell 6
            simp only [List.getElem?_toArray, List.getElem?_cons_succ, List.getElem?_cons_zero] at x0 x1 x2 x3 x4 x5 x6
            go_simp
            all_goals rfl
          try simp only [Act.put, List.setIfInBounds_toArray, List.set_cons_zero, List.set_cons_succ]
          refine later_take (i := 12) (d := 32) (v := ?_) (by kernel_rfl) (by kernel_rfl) (by kernel_rfl) (by kernel_rfl) (fun _ _ _ h => h) (fun oi hoi => ?_) ?_
          rotate_left
          · simp at hoi
            subst hoi
            refine ⟨by rfl, fun w' hw' => ?_⟩
            go_simp
            all_goals rfl
          try simp only [Act.put, List.setIfInBounds_toArray, List.set_cons_zero, List.set_cons_succ]
          refine later_take (i := 13) (d := 33) (v := ?_) (by kernel_rfl) (by kernel_rfl) (by kernel_rfl) (by kernel_rfl) (fun _ _ _ h => h) (fun oi hoi => ?_) ?_
          rotate_left
          · simp at hoi
            subst hoi
            refine ⟨by rfl, fun w' hw' => ?_⟩
            go_simp
            all_goals rfl
          try simp only [Act.put, List.setIfInBounds_toArray, List.set_cons_zero, List.set_cons_succ]
          refine later_take (i := 14) (d := 34) (v := ?_) (by kernel_rfl) (by kernel_rfl) (by kernel_rfl) (by kernel_rfl) (fun _ _ _ h => h) (fun oi hoi => ?_) ?_
          rotate_left
          · simp at hoi
            subst hoi
            refine ⟨by rfl, fun w' hw' => ?_⟩
            go_simp
            all_goals rfl
          try simp only [Act.put, List.setIfInBounds_toArray, List.set_cons_zero, List.set_cons_succ]
          refine later_take (i := 15) (d := 35) (v := ?_) (by kernel_rfl) (by kernel_rfl) (by kernel_rfl) (by kernel_rfl) (fun _ _ _ h => h) (fun oi hoi => ?_) ?_
          rotate_left
          · simp at hoi
            subst hoi
            refine ⟨by rfl, fun w' hw' => ?_⟩
            have hx := ((unhide R).below hw').form
            obtain ⟨ax, cx', qx, _, _, qy⟩ := hx
            rw [HCL.out] at qx qy
            simp only [Value.slice.injEq] at qx
            obtain ⟨rfl, _, rfl⟩ := qx
            obtain ⟨a', ha', hcx⟩ := qy j (by omega)
            cases ha'
            rw [HCJ.out] at hcx
            go_simp
            all_goals rfl
          try simp only [Act.put, List.setIfInBounds_toArray, List.set_cons_zero, List.set_cons_succ]
          refine later_one (i := 16) (by kernel_rfl) (fun oi K hoi hK => ?_)
          simp at hoi
          subst hoi
          refine ⟨by rfl, ?_⟩
          go_simp
          refine (l4Own_any inn (k : Int) ep _ _ own init tag ((nq : Nat) : Int) _ ((unhide HO).below (unhide HB)) ⟨_, _, _, rfl⟩).mono ?_
          rw [HAH.out]
          rintro e w7 ⟨rfl, hb⟩
          go_simp
          refine hK.out _ _ hb ?_
          clear hK
          replace A := hide ((unhide A).below hb)
          replace R := hide ((unhide R).below hb)
          replace HB := hide (HB.out.trans (hb.mono HB.out.size))
          clear hb
          try simp only [Act.put, List.setIfInBounds_toArray, List.set_cons_zero, List.set_cons_succ]
          refine later_take (i := 17) (d := 37) (v := ?_) (by kernel_rfl) (by kernel_rfl) (by kernel_rfl) (by kernel_rfl) (fun _ _ _ h => h) (fun oi hoi => ?_) ?_
          rotate_left
          · simp at hoi
            subst hoi
            refine ⟨by rfl, fun w' hw' => ?_⟩
            go_simp
            all_goals rfl
          try simp only [Act.put, List.setIfInBounds_toArray, List.set_cons_zero, List.set_cons_succ]
          refine later_take (i := 18) (d := 38) (v := ?_) (by kernel_rfl) (by kernel_rfl) (by kernel_rfl) (by kernel_rfl) (fun _ _ _ h => h) (fun oi hoi => ?_) ?_
          rotate_left
          · simp at hoi
            subst hoi
            refine ⟨by rfl, fun w' hw' => ?_⟩
            go_simp
            all_goals rfl
          try simp only [Act.put, List.setIfInBounds_toArray, List.set_cons_zero, List.set_cons_succ]
          refine later_done (by kernel_rfl) ?_ _
          go_wp2_with fail
          go_ret
          exact ⟨ret_bool' HE.out.symm, unhide HB⟩
        · have HN1 := HNX.out (.inr hae)
          have hat : ¬ ah.toList = [] := no_text hae
          have hat2 : ah.toList.isEmpty = false := by simpa using no_text hae
          clear hke hae
          go_wp2_with fail
          refine wp_region_later (by kernel_rfl) ?_
          refine later_take (i := 0) (d := 20) (v := ?_) (by kernel_rfl) (by kernel_rfl) (by kernel_rfl) (by kernel_rfl) (fun _ _ _ h => h) (fun oi hoi => ?_) ?_
          rotate_left
          · simp at hoi
            subst hoi
            refine ⟨by rfl, fun w' hw' => ?_⟩
            go_simp
            all_goals rfl
          try simp only [Act.put, List.setIfInBounds_toArray, List.set_cons_zero, List.set_cons_succ]
          refine later_take (i := 1) (d := 21) (v := ?_) (by kernel_rfl) (by kernel_rfl) (by kernel_rfl) (by kernel_rfl) (fun _ _ _ h => h) (fun oi hoi => ?_) ?_
          rotate_left
          · simp at hoi
            subst hoi
            refine ⟨by rfl, fun w' hw' => ?_⟩
            go_simp
            all_goals rfl
          try simp only [Act.put, List.setIfInBounds_toArray, List.set_cons_zero, List.set_cons_succ]
          refine later_take (i := 2) (d := 22) (v := ?_) (by kernel_rfl) (by kernel_rfl) (by kernel_rfl) (by kernel_rfl) (fun _ _ _ h => h) (fun oi hoi => ?_) ?_
          rotate_left
          · simp at hoi
            subst hoi
            refine ⟨by rfl, fun w' hw' => ?_⟩
            have hx := Blk.below (unhide A) hw'
            have x2 := hx.cell 2
            simp only [List.getElem?_toArray, List.getElem?_cons_succ, List.getElem?_cons_zero] at x2
            go_simp
            all_goals rfl
          try simp only [Act.put, List.setIfInBounds_toArray, List.set_cons_zero, List.set_cons_succ]
          refine later_take (i := 3) (d := 23) (v := ?_) (by kernel_rfl) (by kernel_rfl) (by kernel_rfl) (by kernel_rfl) (fun _ _ _ h => h) (fun oi hoi => ?_) ?_
          rotate_left
          · simp at hoi
            subst hoi
            refine ⟨by rfl, fun w' hw' => ?_⟩
            go_simp
            all_goals rfl
          try simp only [Act.put, List.setIfInBounds_toArray, List.set_cons_zero, List.set_cons_succ]
          refine later_take (i := 4) (d := 24) (v := ?_) (by kernel_rfl) (by kernel_rfl) (by kernel_rfl) (by kernel_rfl) (fun _ _ _ h => h) (fun oi hoi => ?_) ?_
          rotate_left
          · simp at hoi
            subst hoi
            refine ⟨by rfl, fun w' hw' => ?_⟩
            go_simp
            all_goals rfl
          try simp only [Act.put, List.setIfInBounds_toArray, List.set_cons_zero, List.set_cons_succ]
          refine later_take (i := 5) (d := 25) (v := ?_) (by kernel_rfl) (by kernel_rfl) (by kernel_rfl) (by kernel_rfl) (fun _ _ _ h => h) (fun oi hoi => ?_) ?_
          rotate_left
          · simp at hoi
            subst hoi
            refine ⟨by rfl, fun w' hw' => ?_⟩
            go_simp
            all_goals rfl
          try simp only [Act.put, List.setIfInBounds_toArray, List.set_cons_zero, List.set_cons_succ]
          refine later_take (i := 6) (d := 26) (v := ?_) (by kernel_rfl) (by kernel_rfl) (by kernel_rfl) (by kernel_rfl) (fun _ _ _ h => h) (fun oi hoi => ?_) ?_
          rotate_left
          · simp at hoi
            subst hoi
            refine ⟨by rfl, fun w' hw' => ?_⟩
            have hx := ((unhide R).below hw').form
            obtain ⟨ax, cx', qx, _, _, qy⟩ := hx
            rw [HCL.out] at qx qy
            simp only [Value.slice.injEq] at qx
            obtain ⟨rfl, _, rfl⟩ := qx
            obtain ⟨a', ha', hcx⟩ := qy j (by omega)
            cases ha'
            rw [HCJ.out] at hcx
            go_simp
            all_goals rfl
          try simp only [Act.put, List.setIfInBounds_toArray, List.set_cons_zero, List.set_cons_succ]
          refine later_take (i := 7) (d := 27) (v := ?_) (by kernel_rfl) (by kernel_rfl) (by kernel_rfl) (by kernel_rfl) (fun _ _ _ h => h) (fun oi hoi => ?_) ?_
          rotate_left
          · simp at hoi
            subst hoi
            refine ⟨by rfl, fun w' hw' => ?_⟩
            go_simp
            all_goals rfl
          try simp only [Act.put, List.setIfInBounds_toArray, List.set_cons_zero, List.set_cons_succ]
          refine later_take (i := 8) (d := 28) (v := ?_) (by kernel_rfl) (by kernel_rfl) (by kernel_rfl) (by kernel_rfl) (fun _ _ _ h => h) (fun oi hoi => ?_) ?_
          rotate_left
          · simp at hoi
            subst hoi
            refine ⟨by rfl, fun w' hw' => ?_⟩
            have hx := ((unhide HK).below ((unhide HB).trans (hw'.mono (unhide HB).size))).form
            obtain ⟨ax, cx', qx, _, _, qy⟩ := hx
            rw [HL.out] at qx qy
            simp only [Value.slice.injEq] at qx
            obtain ⟨rfl, _, rfl⟩ := qx
            obtain ⟨a', ha', hcx⟩ := qy nq (by omega)
            cases ha'
            rw [HKY.out] at hcx
            go_simp
            all_goals rfl
          try simp only [Act.put, List.setIfInBounds_toArray, List.set_cons_zero, List.set_cons_succ]
          refine later_take (i := 9) (d := 29) (v := ?_) (by kernel_rfl) (by kernel_rfl) (by kernel_rfl) (by kernel_rfl) (fun _ _ _ h => h) (fun oi hoi => ?_) ?_
          rotate_left
          · simp at hoi
            subst hoi
            refine ⟨by rfl, fun w' hw' => ?_⟩
            go_simp
            all_goals rfl
          try simp only [Act.put, List.setIfInBounds_toArray, List.set_cons_zero, List.set_cons_succ]
          refine later_take (i := 10) (d := 30) (v := ?_) (by kernel_rfl) (by kernel_rfl) (by kernel_rfl) (by kernel_rfl) (fun _ _ _ h => h) (fun oi hoi => ?_) ?_
          rotate_left
          · simp at hoi
            subst hoi
            refine ⟨by rfl, fun w' hw' => ?_⟩
            go_simp
            all_goals rfl
          try simp only [Act.put, List.setIfInBounds_toArray, List.set_cons_zero, List.set_cons_succ]
          refine later_take (i := 11) (d := 31) (v := ?_) (by kernel_rfl) (by kernel_rfl) (by kernel_rfl) (by kernel_rfl) (fun _ _ _ h => h) (fun oi hoi => ?_) ?_
          rotate_left
          · simp at hoi
            subst hoi
            refine ⟨by rfl, fun w' hw' => ?_⟩
            have hx := Blk.below (unhide A) hw'
            have x0 := hx.cell 0
            have x1 := hx.cell 1
            have x2 := hx.cell 2
            have x3 := hx.cell 3
            have x4 := hx.cell 4
            have x5 := hx.cell 5
            have x6 := hx.cell 6
            simp only [List.getElem?_toArray, List.getElem?_cons_succ, List.getElem?_cons_zero] at x0 x1 x2 x3 x4 x5 x6
            go_simp
            all_goals rfl
          try simp only [Act.put, List.setIfInBounds_toArray, List.set_cons_zero, List.set_cons_succ]
          refine later_take (i := 12) (d := 32) (v := ?_) (by kernel_rfl) (by kernel_rfl) (by kernel_rfl) (by kernel_rfl) (fun _ _ _ h => h) (fun oi hoi => ?_) ?_
          rotate_left
          · simp at hoi
            subst hoi
            refine ⟨by rfl, fun w' hw' => ?_⟩
            go_simp
            all_goals rfl
          try simp only [Act.put, List.setIfInBounds_toArray, List.set_cons_zero, List.set_cons_succ]
          refine later_take (i := 13) (d := 33) (v := ?_) (by kernel_rfl) (by kernel_rfl) (by kernel_rfl) (by kernel_rfl) (fun _ _ _ h => h) (fun oi hoi => ?_) ?_
          rotate_left
          · simp at hoi
            subst hoi
            refine ⟨by rfl, fun w' hw' => ?_⟩
            go_simp
            all_goals rfl
          try simp only [Act.put, List.setIfInBounds_toArray, List.set_cons_zero, List.set_cons_succ]
          refine later_take (i := 14) (d := 34) (v := ?_) (by kernel_rfl) (by kernel_rfl) (by kernel_rfl) (by kernel_rfl) (fun _ _ _ h => h) (fun oi hoi => ?_) ?_
          rotate_left
          · simp at hoi
            subst hoi
            refine ⟨by rfl, fun w' hw' => ?_⟩
            go_simp
            all_goals rfl
          try simp only [Act.put, List.setIfInBounds_toArray, List.set_cons_zero, List.set_cons_succ]
          refine later_take (i := 15) (d := 35) (v := ?_) (by kernel_rfl) (by kernel_rfl) (by kernel_rfl) (by kernel_rfl) (fun _ _ _ h => h) (fun oi hoi => ?_) ?_
          rotate_left
          · simp at hoi
            subst hoi
            refine ⟨by rfl, fun w' hw' => ?_⟩
            have hx := ((unhide R).below hw').form
            obtain ⟨ax, cx', qx, _, _, qy⟩ := hx
            rw [HCL.out] at qx qy
            simp only [Value.slice.injEq] at qx
            obtain ⟨rfl, _, rfl⟩ := qx
            obtain ⟨a', ha', hcx⟩ := qy j (by omega)
            cases ha'
            rw [HCJ.out] at hcx
            go_simp
            all_goals rfl
          try simp only [Act.put, List.setIfInBounds_toArray, List.set_cons_zero, List.set_cons_succ]
          refine later_one (i := 16) (by kernel_rfl) (fun oi K hoi hK => ?_)
          simp at hoi
          subst hoi
          refine ⟨by rfl, ?_⟩
          go_simp
          refine (l4Own_any inn (k : Int) ep _ _ own init tag ((nq : Nat) : Int) _ ((unhide HO).below (unhide HB)) ⟨_, _, _, rfl⟩).mono ?_
          rw [HAH.out]
          rintro e w7 ⟨rfl, hb⟩
          go_simp
          refine hK.out _ _ hb ?_
          clear hK
          replace A := hide ((unhide A).below hb)
          replace R := hide ((unhide R).below hb)
          replace HB := hide (HB.out.trans (hb.mono HB.out.size))
          clear hb
          try simp only [Act.put, List.setIfInBounds_toArray, List.set_cons_zero, List.set_cons_succ]
          refine later_take (i := 17) (d := 37) (v := ?_) (by kernel_rfl) (by kernel_rfl) (by kernel_rfl) (by kernel_rfl) (fun _ _ _ h => h) (fun oi hoi => ?_) ?_
          rotate_left
          · simp at hoi
            subst hoi
            refine ⟨by rfl, fun w' hw' => ?_⟩
            go_simp
            all_goals rfl
          try simp only [Act.put, List.setIfInBounds_toArray, List.set_cons_zero, List.set_cons_succ]
          refine later_take (i := 18) (d := 38) (v := ?_) (by kernel_rfl) (by kernel_rfl) (by kernel_rfl) (by kernel_rfl) (fun _ _ _ h => h) (fun oi hoi => ?_) ?_
          rotate_left
          · simp at hoi
            subst hoi
            refine ⟨by rfl, fun w' hw' => ?_⟩
            go_simp
            all_goals rfl
          try simp only [Act.put, List.setIfInBounds_toArray, List.set_cons_zero, List.set_cons_succ]
          refine later_done (by kernel_rfl) ?_ _
          go_wp2_with fail
          go_roundw
          case rel => exact ⟨j + 1, by omega, by simp, HN1, unhide A, R, HB⟩
          case measure => simp [intOf]; omega
    · have hlt2 : decide ((j : Int) < (cl : Int)) = false := by simp; omega
      have HH : Hid (hasS keys own C = true) := has_yes (fun z hz => hN.out z (by rw [HCL.out] at hz; omega))
      have c2 := a0.cell 2
      simp only [List.getElem?_toArray, List.getElem?_cons_succ, List.getElem?_cons_zero] at c2
      obtain ⟨ax, c', qx, _, _, qy⟩ := ((unhide HK).below (unhide hL)).form
      rw [HL.out] at qx qy
      simp only [Value.slice.injEq] at qx
      obtain ⟨rfl, _, rfl⟩ := qx
      obtain ⟨a', ha', hcx⟩ := qy lf hlf0
      cases ha'
      clear qy
      obtain ⟨ky, hky⟩ : ∃ ky, keys.getD lf ByteArray.empty = ky := ⟨_, rfl⟩
      rw [hky] at hcx
      have HKY := hide hky
      clear hky
      by_cases hke : ky = ByteArray.empty
      · have HE : Hid ((hasS keys own C && decide (keys.getD (leafOf (k : Int)).toNat ByteArray.empty ≠ ByteArray.empty)) = false) := by show _ = _; rw [HH.out, HLT.out, HKY.out, hke]; rfl
        subst hke
        have hkt : (ByteArray.empty).toList = [] := nil_text
        go_wp2_with fail
        go_ret
        exact ⟨ret_bool' HE.out.symm, unhide hL⟩
      · have HE : Hid ((hasS keys own C && decide (keys.getD (leafOf (k : Int)).toNat ByteArray.empty ≠ ByteArray.empty)) = true) := by show _ = _; rw [HH.out, HLT.out, HKY.out]; simpa using hke
        have hkt : ¬ ky.toList = [] := no_text hke
        have hkt2 : ky.toList.isEmpty = false := by simpa using no_text hke
        clear hke
        go_wp2_with fail
        go_ret
        exact ⟨ret_bool' HE.out.symm, unhide hL⟩
#print axioms l4All_any
end Go.Proofs.YteiojanamkndmaaGreat
/-
  The specification's MemOk, of one who is in.
-/
namespace Go.Proofs.YteiojanamkndmaaGreat
open Go.RowKit

set_option maxRecDepth 100000 in
set_option maxHeartbeats 4000000 in
theorem sMemOk_in (who ep : Int) (ks os : Value) (keys : List ByteArray) (own : List Mo) (init tag : ByteArray) (w : World) (hK : SRow w ks keys) (hO : MRow w os own)
    (hkm : ∀ x ∈ keys, x.size ≤ maxLen) (hom : ∀ o ∈ own, o.2.size ≤ maxLen) (him : init.size ≤ maxLen) (htm : tag.size ≤ maxLen) :
    Calls Tryz.prog 23 #[.agg (memC true who ks os ep init tag)] w fun e w' => e = .returned (.bool (memOkS ⟨true, who, keys, own, ep, init, tag⟩)) ∧ Below w.heap.size w w' := by
  have HK := hide hK
  have HO := hide hO
  have HKM := hide hkm
  have HOM := hide hom
  have HIM := hide him
  unfold maxLen at htm
  obtain ⟨a1, p1, rfl, _, _, _⟩ := hK.form
  obtain ⟨a2, p2, rfl, _, _, _⟩ := hO
  clear hK hkm hom him
  obtain ⟨kl, hkl⟩ : ∃ kl, keys.length = kl := ⟨_, rfl⟩
  rw [hkl] at HK ⊢
  clear hkl
  have A0 := hide (Blk.new w 35 (memC true who (.slice a1 kl p1) (.slice a2 own.length p2) ep init tag))
  have HB0 : Hid (Below w.heap.size w (w.alloc (.cells (memC true who (.slice a1 kl p1) (.slice a2 own.length p2) ep init tag) 35))) := (Below.refl _ _).alloc (Nat.le_refl _) _
  have HDEF : Hid (memOkS ⟨true, who, keys, own, ep, init, tag⟩ = (decide (0 ≤ who ∧ who ≤ 7) && treOk keys && fitsS keys own (chainOf (leafOf who)) && (hasS keys own (chainOf (leafOf who)) && decide (keys.getD (leafOf who).toNat ByteArray.empty ≠ ByteArray.empty)) && decide (0 ≤ ep ∧ ep ≤ 12) && Kw.ok init && decide (tag.size ≤ 300))) := rfl
  by_cases hp : 0 ≤ who ∧ who ≤ 7
  · obtain ⟨k, rfl⟩ : ∃ k : Nat, who = (k : Int) := ⟨who.toNat, by omega⟩
    have hk8 : k < 8 := by omega
    have HW : Hid (decide (0 ≤ (k : Int) ∧ (k : Int) ≤ 7) = true) := by show _ = _; simp; omega
    clear hp
    go_enter Tryz.func23, Tryz.ntmps23
    go_wp2_with fail
    refine (l1In_yes _ _ _ _ (by omega) (by omega)).mono ?_
    rintro e wa ⟨rfl, rfl⟩
    go_wp2_with fail
    refine (sTreOk_any _ keys _ ((unhide HK).below (unhide HB0)) (unhide HKM)).mono ?_
    rintro e w1 ⟨rfl, hb1⟩
    have A1 := hide ((unhide A0).below hb1)
    have HB1 := hide (HB0.out.trans (hb1.mono HB0.out.size))
    clear hb1 A0 HB0
    cases hto : treOk keys with
    | false =>
      have HE : Hid (memOkS ⟨true, (k : Int), keys, own, ep, init, tag⟩ = false) := by show _ = _; rw [HDEF.out, hto]; simp
      clear hto
      go_wp2_with fail
      go_ret
      exact ⟨ret_bool' HE.out.symm, unhide HB1⟩
    | true =>
      have HTO := hide hto
      have HL : Hid (keys.length = 15) := (treOk_iff.1 hto).1
      clear hto
      have c0 := (unhide A1).cell 0
      have c1 := (unhide A1).cell 1
      have c2 := (unhide A1).cell 2
      have c3 := (unhide A1).cell 3
      have c4 := (unhide A1).cell 4
      have c5 := (unhide A1).cell 5
      have c6 := (unhide A1).cell 6
      simp only [List.getElem?_toArray, List.getElem?_cons_succ, List.getElem?_cons_zero] at c0 c1 c2 c3 c4 c5 c6
      go_wp2_with fail
      refine (l4Fits_any true k hk8 _ _ keys own ep init tag _ ((unhide HK).below (unhide HB1)) ((unhide HO).below (unhide HB1)) HL.out (unhide HOM)).mono ?_
      rintro e w2 ⟨rfl, hb2⟩
      have A2 := hide ((unhide A1).below hb2)
      have HB2 := hide (HB1.out.trans (hb2.mono HB1.out.size))
      clear hb2 A1 HB1 c0 c1 c2 c3 c4 c5 c6
      obtain ⟨bf, hbf⟩ : ∃ bf, fitsS keys own (chainOf (leafOf (k : Int))) = bf := ⟨_, rfl⟩
      rw [hbf]
      have HBF := hide hbf
      clear hbf
      cases bf with
      | false =>
        have HE : Hid (memOkS ⟨true, (k : Int), keys, own, ep, init, tag⟩ = false) := by show _ = _; rw [HDEF.out, HBF.out]; simp
        go_wp2_with fail
        go_ret
        exact ⟨ret_bool' HE.out.symm, unhide HB2⟩
      | true =>
        have c0 := (unhide A2).cell 0
        have c1 := (unhide A2).cell 1
        have c2 := (unhide A2).cell 2
        have c3 := (unhide A2).cell 3
        have c4 := (unhide A2).cell 4
        have c5 := (unhide A2).cell 5
        have c6 := (unhide A2).cell 6
        simp only [List.getElem?_toArray, List.getElem?_cons_succ, List.getElem?_cons_zero] at c0 c1 c2 c3 c4 c5 c6
        go_wp2_with fail
        refine (l4All_any true k hk8 _ _ keys own ep init tag _ ((unhide HK).below (unhide HB2)) ((unhide HO).below (unhide HB2)) HL.out).mono ?_
        rintro e w3 ⟨rfl, hb3⟩
        have A3 := hide ((unhide A2).below hb3)
        have HB3 := hide (HB2.out.trans (hb3.mono HB2.out.size))
        clear hb3 A2 HB2 c0 c1 c2 c3 c4 c5 c6
        obtain ⟨ba, hba⟩ : ∃ ba, (hasS keys own (chainOf (leafOf (k : Int))) && decide (keys.getD (leafOf (k : Int)).toNat ByteArray.empty ≠ ByteArray.empty)) = ba := ⟨_, rfl⟩
        rw [hba]
        have HBA := hide hba
        clear hba
        have c4 := (unhide A3).cell 4
        have c5 := (unhide A3).cell 5
        simp only [List.getElem?_toArray, List.getElem?_cons_succ, List.getElem?_cons_zero] at c4 c5
        cases ba with
        | false =>
          have HE : Hid (memOkS ⟨true, (k : Int), keys, own, ep, init, tag⟩ = false) := by show _ = _; rw [HDEF.out, HBA.out]; simp
          go_wp2_with fail
          go_ret
          exact ⟨ret_bool' HE.out.symm, unhide HB3⟩
        | true =>
          by_cases hep : 0 ≤ ep ∧ ep ≤ 12
          · have HEP := hide hep
            clear hep
            go_wp2_with fail
            refine (l1In_yes _ _ _ _ HEP.out.1 HEP.out.2).mono ?_
            rintro e wb ⟨rfl, rfl⟩
            go_wp2_with fail
            refine (sSecOk_any init _ HIM.out).mono ?_
            rintro e w4 ⟨rfl, hb4⟩
            have A4 := hide ((unhide A3).below hb4)
            have HB4 := hide (HB3.out.trans (hb4.mono HB3.out.size))
            clear hb4 A3 HB3 c4 c5
            have c6 := (unhide A4).cell 6
            simp only [List.getElem?_toArray, List.getElem?_cons_succ, List.getElem?_cons_zero] at c6
            cases hok : Kw.ok init with
            | false =>
              have HE : Hid (memOkS ⟨true, (k : Int), keys, own, ep, init, tag⟩ = false) := by show _ = _; rw [HDEF.out, hok]; simp
              clear hok
              go_wp2_with fail
              go_ret
              exact ⟨ret_bool' HE.out.symm, unhide HB4⟩
            | true =>
              have HE0 : Hid (memOkS ⟨true, (k : Int), keys, own, ep, init, tag⟩ = decide (tag.size ≤ 300)) := by
                show _ = _
                rw [HDEF.out, HW.out, HTO.out, HBF.out, HBA.out, hok, decide_eq_true HEP.out]
                rfl
              clear hok
              by_cases htg : tag.size ≤ 300
              · have htg2 : (tag.size : Int) ≤ 300 := by omega
                have HE : Hid (memOkS ⟨true, (k : Int), keys, own, ep, init, tag⟩ = true) := by show _ = _; rw [HE0.out]; simpa using htg
                go_wp2_with fail
                go_ret
                exact ⟨ret_bool' HE.out.symm, unhide HB4⟩
              · have htg2 : decide ((tag.size : Int) ≤ 300) = false := by simp; omega
                have HE : Hid (memOkS ⟨true, (k : Int), keys, own, ep, init, tag⟩ = false) := by show _ = _; rw [HE0.out]; simpa using htg
                go_wp2_with fail
                go_ret
                exact ⟨ret_bool' HE.out.symm, unhide HB4⟩
          · have HE : Hid (memOkS ⟨true, (k : Int), keys, own, ep, init, tag⟩ = false) := by show _ = _; rw [HDEF.out, decide_eq_false hep]; simp
            have HEP := hide hep
            clear hep
            go_wp2_with fail
            refine (l1In_no _ _ _ _ (by have := HEP.out; omega)).mono ?_
            rintro e wb ⟨rfl, rfl⟩
            go_wp2_with fail
            go_ret
            exact ⟨ret_bool' HE.out.symm, unhide HB3⟩
  · have HE : Hid (memOkS ⟨true, who, keys, own, ep, init, tag⟩ = false) := by show _ = _; rw [HDEF.out, decide_eq_false hp]; simp
    have HP := hide hp
    clear hp
    go_enter Tryz.func23, Tryz.ntmps23
    go_wp2_with fail
    refine (l1In_no _ _ _ _ (by have := HP.out; omega)).mono ?_
    rintro e wa ⟨rfl, rfl⟩
    go_wp2_with fail
    go_ret
    exact ⟨ret_bool' HE.out.symm, unhide HB0⟩
#print axioms sMemOk_in
end Go.Proofs.YteiojanamkndmaaGreat
