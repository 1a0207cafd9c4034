/-
  Proved: at every code the law FnWinOk returns true (of a window that is ok all numbers are behind the greatest, by less than FraWide; and with the greatest twice it is not), and nothing that was there is written. No condition.
-/
import Derived.Test.YtgdhlnfigcaepaaFnWinOkB1
import Derived.Test.YtgdhlnfigcaepaaFnWinOkB10
import Derived.Test.YtgdhlnfigcaepaaFnWinOkB7
namespace Go.Proofs.Ytgdhlnfigcaepaa
open Go.ChangeShapes Go.WideShapes Go.ChangeAt Go.RowKit
open Go.ChangeMaps (open_string shut_string)
set_option linter.unusedVariables false

theorem twice {key : ByteArray} {top : Int} {xs : List Int} (h : winOk ⟨key, top, xs⟩ = true) : winOk ⟨key, top, top :: xs⟩ = false := by
  obtain ⟨_, _, _, h4⟩ := win_facts h
  obtain ⟨h5, h6, _⟩ := falls_facts h4
  simp only at h5 h6
  have e : fallsB top (top :: xs) = false := falls_bad (j := 1) (by simp; exact h5) (by omega) (by
    unfold goodAt
    simp only [Nat.sub_self, List.getD_cons_succ, List.getD_cons_zero]
    rw [h6, decide_eq_false (by omega)]
    rfl)
  unfold winOk
  simp only
  rw [e]
  simp

set_option maxRecDepth 100000 in
set_option maxHeartbeats 2000000 in
theorem walk_FnWinOk (a0 : Option Addr) (len0 cap0 : Nat) (z0 : List Int) (w : World) (w0 : IsRow .u8 w a0 len0 cap0 z0) :
    Calls Try.prog 11 #[.slice a0 len0 cap0] w fun e w' => e = .returned (.bool true) ∧ Below w.heap.size w w' := by
  have hR := hide w0
  clear w0
  obtain ⟨i0, hi, hz0, hz1, hz2⟩ := info_parts info_int2
  have hIn := hide (And.intro hi (And.intro hz0 (And.intro hz1 hz2)))
  clear hi hz0 hz1 hz2
  by_cases h : (1048576 : Int) < (len0 : Int)
  · go_enter Try.func11, Try.ntmps11
    go_wp2_with fail
    go_ret
    exact ⟨rfl, Below.refl _ _⟩
  have h2 : decide ((1048576 : Int) < (len0 : Int)) = false := by simpa using h
  clear h
  go_enter Try.func11, Try.ntmps11
  go_wp2_with fail
  refine (DrawWinOk_any a0 len0 cap0 z0 _ (unhide hR)).mono ?_
  rintro e w1 ⟨⟨key, top, xs⟩, v, rfl, ho, hk, hl, htb, hb1⟩
  simp only at hk hl htb ho
  obtain ⟨so, sc, rfl⟩ := row_form' ho
  have M : Hid (key.size ≤ maxLen) := le_maxLen (by omega)
  have A := hide (Blk.new w1 35 (winC key top (.slice so xs.length sc)))
  have HB := hide hb1
  have I1 := hide ho.irow
  have BA : Below w1.heap.size w1 (w1.alloc (.cells (winC key top (.slice so xs.length sc)) 35)) := (Below.refl _ _).alloc (Nat.le_refl _) _
  replace I1 := hide ((unhide I1).below BA)
  replace HB := hide (HB.out.trans (BA.mono HB.out.size))
  clear hb1 ho BA hk
  go_wp2_with fail
  generalize w1.alloc (.cells (winC key top (.slice so xs.length sc)) 35) = W1 at *
  generalize w1.heap.size = xb at *
  refine (iWinOk_any ⟨key, top, xs⟩ _ _ (unhide I1) M.out (by simp only; omega)).mono ?_
  rintro e w2 ⟨rfl, hb⟩
  replace A := hide ((unhide A).below hb)
  replace I1 := hide ((unhide I1).below hb)
  replace HB := hide (HB.out.trans (hb.mono HB.out.size))
  clear hb
  have c0 := (unhide A).cell 0
  have c1 := (unhide A).cell 1
  have c2 := (unhide A).cell 2
  simp only [List.getElem?_toArray, List.getElem?_cons_zero, List.getElem?_cons_succ] at c0 c1 c2
  go_wp2_with fail
  refine (sWinOk_any ⟨key, top, xs⟩ _ _ (unhide I1) M.out (by simp only; omega)).mono ?_
  rintro e w3 ⟨rfl, hb⟩
  replace A := hide ((unhide A).below hb)
  replace I1 := hide ((unhide I1).below hb)
  replace HB := hide (HB.out.trans (hb.mono HB.out.size))
  clear hb c0 c1 c2
  cases hr : winOk ⟨key, top, xs⟩ with
  | false =>
    clear hr
    go_wp2_with fail
    refine (keOk_any _).mono ?_
    rintro e w4 ⟨rfl, hb⟩
    replace HB := hide (HB.out.trans (hb.mono HB.out.size))
    clear hb
    go_wp2_with fail
    go_ret
    exact ⟨rfl, unhide HB⟩
  | true =>
    obtain ⟨_, _, f3, f4⟩ := win_facts hr
    have HIN := hide (falls_in f4 f3.1)
    have hlen : xs.length ≤ 8 := falls_len f4 f3.1
    have HTW := hide (twice hr)
    simp only at f3 HIN
    have i8 : IntKind.i64.wrap (top - 8) = top - 8 := by simp [IntKind.wrap, IntKind.bits, IntKind.signed]; omega
    clear hr f4
    go_wp2_with fail
    go_loopw [5] (fun i wr => ∃ k : Nat, k ≤ xs.length ∧ i = .int .i64 (k : Int) ∧ Hid (Blk wr xb 35 (winC key top (.slice so xs.length sc))) ∧ Hid (IRow wr (.slice so xs.length sc) xs) ∧ Hid (Below w.heap.size w wr)) (fun i _ => xs.length - (intOf i).toNat)
    case atStart => exact ⟨0, by omega, rfl, A, I1, HB⟩
    case round =>
      clear A I1 HB
      obtain ⟨k, hk, rfl, A, I1, HB⟩ := hrel
      generalize wr = w4 at *
      have c1 := (unhide A).cell 1
      have c2 := (unhide A).cell 2
      simp only [List.getElem?_toArray, List.getElem?_cons_zero, List.getElem?_cons_succ] at c1 c2
      by_cases hlt : k < xs.length
      · have hlt2 : (k : Int) < (xs.length : Int) := by omega
        have hk0 : (0 : Int) ≤ (k : Int) := by omega
        obtain ⟨ad, e9, ca⟩ := irow_at (unhide I1) (Below.refl w4.heap.size w4) hlt
        subst e9
        have i3 : IntKind.i64.wrap ((k : Int) + 1) = (k : Int) + 1 := by simp [IntKind.wrap, IntKind.bits, IntKind.signed]; omega
        have hin := HIN.out (xs.getD k 0) (by rw [getD_at hlt]; exact List.getElem_mem _)
        generalize xs.getD k 0 = y at *
        have g1 : decide (top < y) = false := by simp; omega
        have g2 : decide (y ≤ top - 8) = false := by simp; omega
        clear hin
        go_wp2_with fail
        go_quiet (fail)
        go_wp2_with fail
        go_roundw
        case rel => exact ⟨k + 1, by omega, by simp, (unhide A).below (below_drewN (Below.refl _ _) _), (unhide I1).below (below_drewN (Below.refl _ _) _), below_drewN (unhide HB) _⟩
        case measure => simp [intOf]; omega
      · have hlt2 : decide ((k : Int) < (xs.length : Int)) = false := by simp; omega
        have hlt3 : decide (k < xs.length) = false := by simp; omega
        clear hlt c1
        go_wp2_with fail
        replace A := hide ((unhide A).drew)
        replace I1 := hide (IRow.drew (unhide I1))
        replace HB : Hid (Below w.heap.size w w4.drew) := HB.out.drew
        have hle8 : (xs.length : Int) ≤ 8 := by omega
        clear c2
        refine wp_region_later (by kernel_rfl) ?_
        refine later_take (i := 0) (d := 46) (v := ?_) (by kernel_rfl) (by kernel_rfl) (by kernel_rfl) (by kernel_rfl) (fun _ _ _ h => h) (fun oi hoi => ?_) ?_
        rotate_left
        · simp at hoi
          subst hoi
          refine ⟨by rfl, fun w' hw' => ?_⟩
          go_simp
          all_goals rfl
        try simp only [Act.put, List.setIfInBounds_toArray, List.set_cons_zero, List.set_cons_succ]
        refine later_take (i := 1) (d := 47) (v := ?_) (by kernel_rfl) (by kernel_rfl) (by kernel_rfl) (by kernel_rfl) (fun _ _ _ h => h) (fun oi hoi => ?_) ?_
        rotate_left
        · simp at hoi
          subst hoi
          refine ⟨by rfl, fun w' hw' => ?_⟩
          have hx := Blk.below (unhide A) hw'
          have x0 := hx.cell 0
          simp only [List.getElem?_toArray, List.getElem?_cons_zero] at x0
          go_simp
          all_goals rfl
        try simp only [Act.put, List.setIfInBounds_toArray, List.set_cons_zero, List.set_cons_succ]
        refine later_take (i := 2) (d := 48) (v := ?_) (by kernel_rfl) (by kernel_rfl) (by kernel_rfl) (by kernel_rfl) (fun _ _ _ h => h) (fun oi hoi => ?_) ?_
        rotate_left
        · simp at hoi
          subst hoi
          refine ⟨by rfl, fun w' hw' => ?_⟩
          go_simp
          all_goals rfl
        try simp only [Act.put, List.setIfInBounds_toArray, List.set_cons_zero, List.set_cons_succ]
        refine later_take (i := 3) (d := 49) (v := ?_) (by kernel_rfl) (by kernel_rfl) (by kernel_rfl) (by kernel_rfl) (fun _ _ _ h => h) (fun oi hoi => ?_) ?_
        rotate_left
        · simp at hoi
          subst hoi
          refine ⟨by rfl, fun w' hw' => ?_⟩
          have hx := Blk.below (unhide A) hw'
          have x1 := hx.cell 1
          simp only [List.getElem?_toArray, List.getElem?_cons_succ, List.getElem?_cons_zero] at x1
          go_simp
          all_goals rfl
        try simp only [Act.put, List.setIfInBounds_toArray, List.set_cons_zero, List.set_cons_succ]
        refine later_take (i := 4) (d := 50) (v := ?_) (by kernel_rfl) (by kernel_rfl) (by kernel_rfl) (by kernel_rfl) (fun _ _ _ h => h) (fun oi hoi => ?_) ?_
        rotate_left
        · simp at hoi
          subst hoi
          refine ⟨by rfl, fun w' hw' => ?_⟩
          go_simp
          all_goals rfl
        try simp only [Act.put, List.setIfInBounds_toArray, List.set_cons_zero, List.set_cons_succ]
        refine later_take (i := 5) (d := 51) (v := ?_) (by kernel_rfl) (by kernel_rfl) (by kernel_rfl) (by kernel_rfl) (fun _ _ _ h => h) (fun oi hoi => ?_) ?_
        rotate_left
        · simp at hoi
          subst hoi
          refine ⟨by rfl, fun w' hw' => ?_⟩
          have hx := Blk.below (unhide A) hw'
          have x1 := hx.cell 1
          simp only [List.getElem?_toArray, List.getElem?_cons_succ, List.getElem?_cons_zero] at x1
          go_simp
          all_goals rfl
        try simp only [Act.put, List.setIfInBounds_toArray, List.set_cons_zero, List.set_cons_succ]
        refine later_take (i := 7) (d := 53) (v := ?_) (by kernel_rfl) (by kernel_rfl) (by kernel_rfl) (by kernel_rfl) (fun _ _ _ h => h) (fun oi hoi => ?_) ?_
        rotate_left
        · simp at hoi
          subst hoi
          refine ⟨by rfl, fun w' hw' => ?_⟩
          go_simp
          all_goals rfl
        try simp only [Act.put, List.setIfInBounds_toArray, List.set_cons_zero, List.set_cons_succ]
        refine later_take (i := 8) (d := 54) (v := ?_) (by kernel_rfl) (by kernel_rfl) (by kernel_rfl) (by kernel_rfl) (fun _ _ _ h => h) (fun oi hoi => ?_) ?_
        rotate_left
        · simp at hoi
          subst hoi
          refine ⟨by rfl, fun w' hw' => ?_⟩
          have hx := Blk.below (unhide A) hw'
          have x2 := hx.cell 2
          simp only [List.getElem?_toArray, List.getElem?_cons_succ, List.getElem?_cons_zero] at x2
          go_simp
          all_goals rfl
        try simp only [Act.put, List.setIfInBounds_toArray, List.set_cons_zero, List.set_cons_succ]
        refine later_one (i := 6) (by kernel_rfl) (fun oi K hoi hK => ?_)
        simp at hoi
        subst hoi
        refine ⟨by rfl, ?_⟩
        go_simp
        refine hK.out _ _ ((Below.refl _ _).alloc (Nat.le_refl _) _) ?_
        clear hK
        have BA : Below w4.drew.heap.size w4.drew (w4.drew.alloc (.cells #[.int .i64 top] 3)) := (Below.refl _ _).alloc (Nat.le_refl _) _
        have hlo : w.heap.size ≤ w4.drew.heap.size := HB.out.size
        have ON : Hid (OwnI w.heap.size (w4.drew.alloc (.cells #[.int .i64 top] 3)) (.slice (some ⟨w4.drew.heap.size, 0, none⟩) 1 1) [top]) := World.ownsRow_lit (base := w.heap.size) (e := 3) (size := 1) _ #[.int .i64 top] 1 hlo (by unfold maxLen; omega) rfl
        replace A := hide ((unhide A).below BA)
        replace I1 := hide ((unhide I1).below BA)
        replace HB := hide (HB.out.trans (BA.mono HB.out.size))
        clear BA hlo
        try simp only [Act.put, List.setIfInBounds_toArray, List.set_cons_zero, List.set_cons_succ]
        refine later_one (i := 9) (by kernel_rfl) (fun oi K hoi hK => ?_)
        simp at hoi
        subst hoi
        refine ⟨by rfl, ?_⟩
        refine wp_append_full _ _ _ 30 rfl w.heap.size 3 i0 (.int .i64 0) 1 8 Try.underlying30 (unhide hIn).1 (unhide hIn).2.1 (unhide hIn).2.2.1 (unhide hIn).2.2.2 rfl (by decide) _ 1 [.int .i64 top] rfl (unhide ON) _ xs.length (xs.map (Value.int .i64)) rfl (unhide I1).news (by unfold maxLen; omega) (by omega) (by exact HB.out.size) ?_
        intro g5 c5 w5 hown hlt5
        refine hK.out _ _ hlt5 ?_
        clear hK
        replace A := hide ((unhide A).below hlt5)
        have I5 : Hid (IRow w5 (.slice (some ⟨g5, 0, none⟩) (1 + xs.length) c5) (top :: xs)) := by
          have q : OwnI w.heap.size w5 (.slice (some ⟨g5, 0, none⟩) (1 + xs.length) c5) (top :: xs) := by
            have e : (top :: xs).length = 1 + xs.length := by simp; omega
            unfold OwnI
            rw [e]
            exact hown
          exact q.irow
        replace HB := hide (HB.out.trans (Below.mono hlt5 HB.out.size))
        clear hown hlt5 ON I1
        try simp only [Act.put, List.setIfInBounds_toArray, List.set_cons_zero, List.set_cons_succ]
        refine later_take (i := 10) (d := 56) (v := ?_) (by kernel_rfl) (by kernel_rfl) (by kernel_rfl) (by kernel_rfl) (fun _ _ _ h => h) (fun oi hoi => ?_) ?_
        rotate_left
        · simp at hoi
          subst hoi
          refine ⟨by rfl, fun w' hw' => ?_⟩
          go_simp
          all_goals rfl
        try simp only [Act.put, List.setIfInBounds_toArray, List.set_cons_zero, List.set_cons_succ]
        refine later_one (i := 11) (by kernel_rfl) (fun oi K hoi hK => ?_)
        simp at hoi
        subst hoi
        refine ⟨by rfl, ?_⟩
        go_simp
        refine (iWinOk_any ⟨key, top, top :: xs⟩ _ _ (unhide I5) M.out (by simp only [List.length_cons]; omega)).mono ?_
        rw [HTW.out]
        rintro e w6 ⟨rfl, hb⟩
        go_simp
        refine hK.out _ _ hb ?_
        clear hK
        replace A := hide ((unhide A).below hb)
        replace HB := hide (HB.out.trans (hb.mono HB.out.size))
        clear hb
        try simp only [Act.put, List.setIfInBounds_toArray, List.set_cons_zero, List.set_cons_succ]
        refine later_take (i := 12) (d := 58) (v := ?_) (by kernel_rfl) (by kernel_rfl) (by kernel_rfl) (by kernel_rfl) (fun _ _ _ h => h) (fun oi hoi => ?_) ?_
        rotate_left
        · simp at hoi
          subst hoi
          refine ⟨by rfl, fun w' hw' => ?_⟩
          go_simp
          all_goals rfl
        try simp only [Act.put, List.setIfInBounds_toArray, List.set_cons_zero, List.set_cons_succ]
        refine later_take (i := 13) (d := 59) (v := ?_) (by kernel_rfl) (by kernel_rfl) (by kernel_rfl) (by kernel_rfl) (fun _ _ _ h => h) (fun oi hoi => ?_) ?_
        rotate_left
        · simp at hoi
          subst hoi
          refine ⟨by rfl, fun w' hw' => ?_⟩
          go_simp
          all_goals rfl
        try simp only [Act.put, List.setIfInBounds_toArray, List.set_cons_zero, List.set_cons_succ]
        refine later_take (i := 14) (d := 60) (v := ?_) (by kernel_rfl) (by kernel_rfl) (by kernel_rfl) (by kernel_rfl) (fun _ _ _ h => h) (fun oi hoi => ?_) ?_
        rotate_left
        · simp at hoi
          subst hoi
          refine ⟨by rfl, fun w' hw' => ?_⟩
          go_simp
          all_goals rfl
        try simp only [Act.put, List.setIfInBounds_toArray, List.set_cons_zero, List.set_cons_succ]
        refine later_take (i := 15) (d := 61) (v := ?_) (by kernel_rfl) (by kernel_rfl) (by kernel_rfl) (by kernel_rfl) (fun _ _ _ h => h) (fun oi hoi => ?_) ?_
        rotate_left
        · simp at hoi
          subst hoi
          refine ⟨by rfl, fun w' hw' => ?_⟩
          have hx := Blk.below (unhide A) hw'
          have x2 := hx.cell 2
          simp only [List.getElem?_toArray, List.getElem?_cons_succ, List.getElem?_cons_zero] at x2
          go_simp
          all_goals rfl
        try simp only [Act.put, List.setIfInBounds_toArray, List.set_cons_zero, List.set_cons_succ]
        refine later_take (i := 16) (d := 62) (v := ?_) (by kernel_rfl) (by kernel_rfl) (by kernel_rfl) (by kernel_rfl) (fun _ _ _ h => h) (fun oi hoi => ?_) ?_
        rotate_left
        · simp at hoi
          subst hoi
          refine ⟨by rfl, fun w' hw' => ?_⟩
          go_simp
          all_goals rfl
        try simp only [Act.put, List.setIfInBounds_toArray, List.set_cons_zero, List.set_cons_succ]
        refine later_take (i := 17) (d := 63) (v := ?_) (by kernel_rfl) (by kernel_rfl) (by kernel_rfl) (by kernel_rfl) (fun _ _ _ h => h) (fun oi hoi => ?_) ?_
        rotate_left
        · simp at hoi
          subst hoi
          refine ⟨by rfl, fun w' hw' => ?_⟩
          go_simp
          all_goals rfl
        try simp only [Act.put, List.setIfInBounds_toArray, List.set_cons_zero, List.set_cons_succ]
        refine later_take (i := 18) (d := 64) (v := ?_) (by kernel_rfl) (by kernel_rfl) (by kernel_rfl) (by kernel_rfl) (fun _ _ _ h => h) (fun oi hoi => ?_) ?_
        rotate_left
        · simp at hoi
          subst hoi
          refine ⟨by rfl, fun w' hw' => ?_⟩
          go_simp
          all_goals rfl
        try simp only [Act.put, List.setIfInBounds_toArray, List.set_cons_zero, List.set_cons_succ]
        refine later_take (i := 19) (d := 2) (v := ?_) (by kernel_rfl) (by kernel_rfl) (by kernel_rfl) (by kernel_rfl) (fun _ _ _ h => h) (fun oi hoi => ?_) ?_
        rotate_left
        · simp at hoi
          subst hoi
          refine ⟨by rfl, fun w' hw' => ?_⟩
          go_simp
          all_goals rfl
        try simp only [Act.put, List.setIfInBounds_toArray, List.set_cons_zero, List.set_cons_succ]
        refine later_done (by kernel_rfl) ?_ _
        go_wp2_with fail
        go_ret
        exact ⟨rfl, unhide HB⟩

set_option maxRecDepth 100000 in
theorem lifted_FnWinOk (os : Os) (started : os.Started) (H : Type) (enc : TypeId × Value → H) :
    ReturnsInHanded {} Try.checked os 11 .any (Rows.fnWinOkSpec.pre6 enc Try.prog Try.f11 Rows.fnWinOkRow.domain false) (Rows.fnWinOkSpec.post enc Try.prog Try.f11 false true false false) := by
  refine returnsInHanded_of_change (C := Try.checked) own started (by kernel_rfl) Try.func11
    (ChangeSpec.witness6 (enc := enc) (C := Try.checked) false ⟨#[], #[.slice none 0 0], []⟩ 8 (by kernel_rfl) (by kernel_rfl) (by kernel_rfl) (by kernel_rfl)) ?_
  intro W base args ds gs before hval0 hW hcnd _
  have hval : ∀ (j : Nat) t v, Try.f11.params[j]? = some t → args[j]? = some v → Value.okWide Try.prog W .any base t v := hval0
  have hW' := hW
  obtain ⟨p, q, hA0, hV, rfl, hfz, hnd⟩ := hW
  have hA : DataW.TrodAll enc Try.prog W 0 (fun _ => true) true Try.f11.params.toList args.toList ds p := hA0
  rw [Try.params11] at hA hval
  obtain ⟨v0, vs0, d0, ds0, p0, q0, hargs, rfl, rfl, h0, r0⟩ := trodAll_cons hA
  obtain ⟨rfl, rfl, rfl⟩ := trodAll_nil r0
  obtain rfl : args = #[v0] := by cases args; simp_all
  obtain ⟨rfl, rfl⟩ := trodVars_none hV
  obtain ⟨a0, len0, cap0, rfl⟩ := okWide_slice Try.underlying43 (hval 0 43 v0 rfl rfl)
  have k0 := h0
  have lt0 : ∀ x ∈ p0, x.block < W.heap.size := by obtain ⟨m, hm⟩ := k0; exact DataW.trod_lt m _ _ _ hm
  obtain ⟨z0, w0⟩ : ∃ zs, IsRow .u8 W a0 len0 cap0 zs := by
    obtain ⟨fuel, hf⟩ := h0
    rcases open_ints Try.underlying43 Try.underlying5 (by kernel_rfl) hf with ⟨hcs, _⟩ | ⟨x, l, c, zs, hcs, _, hl, hm, hz, _, hcell, hwz⟩
    · simp [Value.cells] at hcs
      obtain ⟨rfl, rfl, rfl⟩ := hcs
      exact ⟨[], .inl ⟨rfl, rfl, rfl, rfl⟩⟩
    · simp [Value.cells] at hcs
      obtain ⟨rfl, rfl, rfl⟩ := hcs
      exact ⟨zs, .inr ⟨_, rfl, hl, hm, by simpa using hz, hcell, hwz⟩⟩
  clear hA0 hval0
  refine (walk_FnWinOk a0 len0 cap0 z0 W w0).mono fun e W' ⟨he, bel⟩ => ?_
  subst he
  exact ⟨_, rfl, _, _, _, [], _, [], hW', trodAll_mk1 (shut_bool Try.underlying4 _), (trodAll_cons_mk (Below.trod laidOut (by kernel_rfl) (of_decide_eq_true (by kernel_rfl)) k0 bel lt0) trodAll_mk0), rfl, bel.frame _, fun h => by cases h⟩

theorem fnWinOk_holds : Rows.FnWinOkSaid :=
  OpenClaim.holds_of_wide 11 Try.f11 rfl rfl rfl rfl rfl rfl rfl ⟨rfl, rfl, rfl, rfl, rfl⟩ rfl rfl rfl rfl rfl (by kernel_rfl) Try.func11 (by kernel_rfl)
    (of_decide_eq_true (by kernel_rfl)) (by unfold Func.isWrapper; first | (rw [if_pos (by decide +kernel)]; kernel_rfl) | (rw [if_neg (by decide +kernel)]; exact ⟨rfl, rfl⟩))
    (fun os started H enc _ => lifted_FnWinOk os started H enc)

#print axioms fnWinOk_holds
end Go.Proofs.Ytgdhlnfigcaepaa
