/-
  The program's KnwOpen and KnwHas: their contracts.
-/
import Derived.Test.YtjdpabiodalfkaaOpenAll
import Derived.Test.YtjdpabiodalfkaaIMake
import Derived.Test.YtjdpabiodalfkaaClone
namespace Go.Proofs.Ytjdpabiodalfkaa
open Go.RowKit

set_option maxRecDepth 100000 in
set_option maxHeartbeats 2000000 in
theorem areBoxes_any (v : Value) (bs : List Bx) (w : World) (h : BRow w v bs) (hx : ∀ b ∈ bs, b.1.size ≤ maxLen ∧ b.2.size ≤ maxLen) :
    Calls Try.prog 59 #[v] w fun e w' => e = .returned (.bool (okBoxes bs)) ∧ Below w.heap.size w w' := by
  have hR := hide h
  have hX := hide hx
  obtain ⟨ao, cap, rfl, h1, h2, _⟩ := h
  unfold maxLen at h2
  clear hx
  by_cases hmost : 400 < bs.length
  · have h1 : (400 : Int) < (bs.length : Int) := by omega
    have he : okBoxes bs = false := by
      cases q : okBoxes bs with
      | false => rfl
      | true => have := (okBoxes_iff.1 q).1; omega
    go_enter Try.func59, Try.ntmps59
    go_wp2_with fail
    go_ret
    exact ⟨ret_bool' he.symm, Below.refl _ _⟩
  have h1 : decide ((400 : Int) < (bs.length : Int)) = false := by simp; omega
  go_enter Try.func59, Try.ntmps59
  go_wp2_with fail
  go_loopw [10] (fun i wr => ∃ k : Nat, k ≤ bs.length ∧ i = .int .i64 (k : Int) ∧ Hid (∀ j, j < k → Kw.ok (bs.getD j noBx).1 = true ∧ Kw.ok (bs.getD j noBx).2 = true) ∧ Hid (Below w.heap.size w wr)) (fun i _ => bs.length - (intOf i).toNat)
  case atStart => exact ⟨0, by omega, rfl, fun j hj => by omega, Below.refl _ _⟩
  case round =>
    obtain ⟨k, hk, rfl, hN, hL⟩ := hrel
    by_cases hlt : k < bs.length
    · have hlt2 : (k : Int) < (bs.length : Int) := by omega
      obtain ⟨ao', c1, q1, _, _, q2⟩ := BRow.below (unhide hR) (unhide hL)
      simp only [Value.slice.injEq] at q1
      obtain ⟨rfl, z1, rfl⟩ := q1
      clear z1
      obtain ⟨a, rfl, hca, hcb⟩ := q2 k hlt
      rw [add_one] at hcb
      clear q2
      have hmem := getB_mem hlt
      have M : Hid ((bs.getD k noBx).1.size ≤ maxLen ∧ (bs.getD k noBx).2.size ≤ maxLen) := hX.out _ hmem
      have hle := hL.out.size
      have i3 : IntKind.i64.wrap ((k : Int) + 1) = (k : Int) + 1 := by simp [IntKind.wrap, IntKind.bits, IntKind.signed]; omega
      have hNo : Hid (Kw.ok (bs.getD k noBx).1 = false ∨ Kw.ok (bs.getD k noBx).2 = false → okBoxes bs = false) := by
        intro hf
        cases q : okBoxes bs with
        | false => rfl
        | true =>
          have := (okBoxes_iff.1 q).2 _ hmem
          rcases hf with hf | hf
          · rw [hf] at this; cases this.1
          · rw [hf] at this; cases this.2
      have hYes : Hid (Kw.ok (bs.getD k noBx).1 = true → Kw.ok (bs.getD k noBx).2 = true → ∀ j, j < k + 1 → Kw.ok (bs.getD j noBx).1 = true ∧ Kw.ok (bs.getD j noBx).2 = true) := by
        intro ha hb j hj
        by_cases hjk : j = k
        · subst hjk; exact ⟨ha, hb⟩
        · exact hN j (by omega)
      clear hmem
      generalize bs.getD k noBx = y at hca hcb M hNo hYes
      have HBX : Hid (Below w.heap.size w (wr.alloc (.cells #[.string y.1, .string y.2] 42))) := (unhide hL).alloc hle _
      go_wp2_with fail
      refine (iSecOk_any y.1 _ M.out.1).mono ?_
      cases hy : Kw.ok y.1 with
      | false =>
        have he := hNo.out (.inl hy)
        rintro e w1 ⟨rfl, hb1⟩
        have hL1 := hide ((unhide HBX).trans (hb1.mono (by simp; omega)))
        clear hb1 hy
        go_wp2_with fail
        go_ret
        exact ⟨ret_bool' he.symm, unhide hL1⟩
      | true =>
        have HY := hide hy
        rintro e w1 ⟨rfl, hb1⟩
        have hcb1 := keep1 (b := wr.heap.size) (o := 1) (v := .string y.2) hb1 (by simp [go_sem]) (by simp)
        have hL1 := hide ((unhide HBX).trans (hb1.mono (by simp; omega)))
        have hle1 := hL1.out.size
        clear hb1 hy hca hcb
        go_wp2_with fail
        refine (iSecOk_any y.2 _ M.out.2).mono ?_
        cases hz : Kw.ok y.2 with
        | false =>
          have he := hNo.out (.inr hz)
          rintro e w2 ⟨rfl, hb2⟩
          have hL2 := hide ((unhide hL1).trans (hb2.mono hle1))
          clear hb2 hz
          go_wp2_with fail
          go_ret
          exact ⟨ret_bool' he.symm, unhide hL2⟩
        | true =>
          have hN1 := hide (hYes.out HY.out hz)
          rintro e w2 ⟨rfl, hb2⟩
          have hL2 := hide ((unhide hL1).trans (hb2.mono hle1))
          clear hb2 hz
          go_wp2_with fail
          go_roundw
          case rel => exact ⟨k + 1, by omega, by simp, hN1, hL2⟩
          case measure => simp [intOf]; omega
    · have hlt2 : decide ((k : Int) < (bs.length : Int)) = false := by simp; omega
      have he : okBoxes bs = true := okBoxes_iff.2 ⟨by omega, fun b hb => by
        obtain ⟨j, hj, e⟩ := List.getElem_of_mem hb
        have := hN.out j (by omega)
        rw [List.getD_eq_getElem?_getD, List.getElem?_eq_getElem hj] at this
        rw [← e]; exact this⟩
      go_wp2_with fail
      go_ret
      exact ⟨ret_bool' he.symm, unhide hL⟩

set_option maxHeartbeats 2000000 in
theorem cloneNames_any (v : Value) (xs : List ByteArray) (w : World) (h : SRow w v xs) (hl : xs.length ≤ 1048576) (hy : ∀ x ∈ xs, x.size ≤ 1000000) :
    Calls Try.prog 61 #[v] w fun e w' => ∃ v' : Value, e = .returned v' ∧ w'.ownsRow w.heap.size 9 1 v' xs.length (xs.map Value.string) ∧ Below w.heap.size w w' := by
  obtain ⟨ao, cap, rfl, h1, h2, hc⟩ := h.form
  have hR := hide h
  unfold maxLen at h2
  have HY := hide hy
  clear h hc hy
  obtain ⟨i0, hi, hz0, hz1, hz2⟩ := info_parts info_str'
  have hI := hide (And.intro hi (And.intro hz0 (And.intro hz1 hz2)))
  have hB2 : Hid (i0.bytes * xs.length ≤ 281474976710656) := by show _ ≤ _; rw [hz2]; omega
  clear hi hz0 hz1 hz2
  go_enter Try.func61, Try.ntmps61
  go_wp2_with (at_make; refine wpList_make_full _ rfl _ _ 23 rfl w.heap.size 9 i0 (.string ⟨#[]⟩) 1 Try.underlying23 (unhide hI).1 (unhide hI).2.1 (unhide hI).2.2.1 _ _ _ _ xs.length rfl rfl rfl rfl (unhide hB2) (by unfold maxLen; omega) (Nat.le_refl _) ?_)
  intro w1 hown hgrow
  have hO1 : Hid (w1.ownsRow w.heap.size 9 1 (.slice (some ⟨w.heap.size, 0, none⟩) xs.length xs.length) xs.length (part xs 0)) := by
    rw [part_zero]
    have e : (madeCells #[Value.string ⟨#[]⟩] xs.length).toList = List.replicate xs.length (Value.string ⟨#[]⟩) := by
      simp [madeCells, Nat.mod_one, List.map_const']
    rw [← e]
    exact hown
  have hL1 : Hid (Below w.heap.size w w1) := (Below.refl _ _).grown hgrow (Nat.le_refl _) (fun k hk => by cases hk)
  clear hown hgrow
  go_wp2_with fail
  go_loopw [11] (fun i wr => ∃ k : Nat, k ≤ xs.length ∧ i = .int .i64 (k : Int) ∧ Hid (wr.ownsRow w.heap.size 9 1 (.slice (some ⟨w.heap.size, 0, none⟩) xs.length xs.length) xs.length (part xs k)) ∧ Hid (Below w.heap.size w wr)) (fun i _ => xs.length - (intOf i).toNat)
  case atStart => exact ⟨0, by omega, rfl, hO1, hL1⟩
  case round =>
    clear hO1 hL1
    obtain ⟨k, hk, rfl, hO, hL⟩ := hrel
    by_cases hlt : k < xs.length
    · have hlt2 : (k : Int) < (xs.length : Int) := by omega
      obtain ⟨ao', c1, q1, _, _, q2⟩ := (SRow.below (unhide hR) (unhide hL)).form
      simp only [Value.slice.injEq] at q1
      obtain ⟨rfl, _, rfl⟩ := q1
      obtain ⟨a, rfl, hck⟩ := q2 k hlt
      clear q2
      have i3 : IntKind.i64.wrap ((k : Int) + 1) = (k : Int) + 1 := by simp [IntKind.wrap, IntKind.bits, IntKind.signed]; omega
      have hY : Hid ((xs.getD k ByteArray.empty).size ≤ 1000000) := HY.out _ (getD_mem hlt)
      have hps := hide (part_set xs k hlt)
      generalize xs.getD k ByteArray.empty = y at hck hY hps
      have hle := hL.out.size
      go_wp2_with fail
      refine (clone_any y _ hY.out).mono ?_
      rintro e w2 ⟨rfl, hb2⟩
      have hO2 := own_below' (unhide hO) hb2
      have hL2 := (unhide hL).trans (hb2.mono hle)
      have hle2 := hL2.size
      have hfz := hO2.frozenAt k
      have hcell : w2.cell? ⟨w.heap.size, k, none⟩ = some (.string ⟨#[]⟩) := (hO2.cellAt k (by omega)).trans (part_at xs k hlt)
      have hS1 := hO2.stored k (.string y)
      rw [hps.out] at hS1
      have hS2 := hide hS1
      have hL3 := hide hL2
      clear hS1 hO2 hL2 hb2 hck
      go_wp2_with fail
      go_roundw
      case rel => exact ⟨k + 1, by omega, by simp, hS2.out.1, (unhide hL3).grown hS2.out.2 hle2 (fun j hj => by cases hj; exact Nat.le_refl _)⟩
      case measure => simp [intOf]; omega
    · have hlt2 : decide ((k : Int) < (xs.length : Int)) = false := by simp; omega
      have hkn : k = xs.length := by omega
      subst hkn
      rw [part_all] at hO
      go_wp2_with fail
      go_ret
      exact ⟨_, rfl, unhide hO, unhide hL⟩


theorem knwOpen_len {xs : List ByteArray} {bs : List Bx} {L : List ByteArray} (h : Opened xs bs L) (hx : okAll xs = true) (hb : okBoxes bs = true) : L.length ≤ 800 ∧ ∀ x ∈ L, Kw.ok x = true := by
  obtain ⟨⟨N, rfl⟩, _⟩ := h
  have h0 : ∀ N, (Nat.repeat (bfold bs) N (dedup xs)).length + missing bs (Nat.repeat (bfold bs) N (dedup xs)) ≤ 800 ∧ ∀ x ∈ Nat.repeat (bfold bs) N (dedup xs), Kw.ok x = true := by
    intro N
    induction N with
    | zero =>
      refine ⟨?_, fun x hx' => (okAll_iff.1 hx).2 x (has_dedup.1 hx')⟩
      show (dedup xs).length + missing bs (dedup xs) ≤ 800
      have q1 := dedup_len xs xs.length (Nat.le_refl _)
      rw [List.take_length] at q1
      have q2 := missing_most bs (dedup xs)
      have q3 := (okAll_iff.1 hx).1
      have q4 := (okBoxes_iff.1 hb).1
      omega
    | succ N ih =>
      show (bfold bs (Nat.repeat (bfold bs) N (dedup xs))).length + missing bs (bfold bs (Nat.repeat (bfold bs) N (dedup xs))) ≤ 800 ∧ ∀ x ∈ bfold bs (Nat.repeat (bfold bs) N (dedup xs)), Kw.ok x = true
      refine ⟨Nat.le_trans (bfold_bound bs _ (fun c hc => hc)) ih.1, ?_⟩
      have hk : ∀ (cs : List Bx) (L : List ByteArray), (∀ c ∈ cs, c ∈ bs) → (∀ x ∈ L, Kw.ok x = true) → ∀ x ∈ bfold cs L, Kw.ok x = true := by
        intro cs
        induction cs with
        | nil => intro L _ h; exact h
        | cons c cs ih2 =>
          intro L hsub h
          refine ih2 (bstep L c) (fun d hd => hsub d (by simp [hd])) ?_
          unfold bstep
          split
          · intro x hx'
            rcases List.mem_append.1 hx' with hx' | hx'
            · exact h x hx'
            · simp at hx'
              subst hx'
              exact ((okBoxes_iff.1 hb).2 c (hsub c (by simp))).2
          · exact h
      exact hk bs _ (fun c hc => hc) ih.2
  exact ⟨by have := (h0 N).1; omega, (h0 N).2⟩

set_option maxRecDepth 100000 in
set_option maxHeartbeats 2000000 in
theorem iKnwOpen_any (v u : Value) (xs : List ByteArray) (bs : List Bx) (w : World) (h : SRow w v xs) (k : BRow w u bs) (hx : ∀ x ∈ xs, x.size ≤ maxLen) (hy : ∀ b ∈ bs, b.1.size ≤ maxLen ∧ b.2.size ≤ maxLen) :
    Calls Try.prog 27 #[v, u] w fun e w' => ∃ v', e = .returned v' ∧ Own w.heap.size w' v' (knwOpen xs bs) ∧ Below w.heap.size w w' := by
  have hR := hide h
  have hS := hide k
  have HX := hide hx
  have HY := hide hy
  clear h k hx hy
  go_enter Try.func27, Try.ntmps27
  go_wp2_with fail
  refine (areNames_any v xs _ (unhide hR) (unhide HX)).mono ?_
  cases ho : okAll xs with
  | false =>
    have he : Hid (knwOpen xs bs = []) := by show _ = _; unfold knwOpen; rw [ho]; rfl
    rintro e w1 ⟨rfl, hb1⟩
    have HB1 := hide hb1
    clear hb1 ho
    go_wp2_with fail
    go_ret
    exact ⟨_, rfl, by rw [he.out]; exact World.ownsRow_nil _ _ _ _, unhide HB1⟩
  | true =>
    rintro e w1 ⟨rfl, hb1⟩
    have HO := hide ho
    have HB1 := hide hb1
    have hle1 := hb1.size
    clear hb1 ho
    go_wp2_with fail
    refine (areBoxes_any u bs _ (BRow.below (unhide hS) (unhide HB1)) (unhide HY)).mono ?_
    cases hb : okBoxes bs with
    | false =>
      have he : Hid (knwOpen xs bs = []) := by show _ = _; unfold knwOpen; rw [hb, HO.out]; rfl
      rintro e w2 ⟨rfl, hb2⟩
      have HB2 := hide ((unhide HB1).trans (hb2.mono hle1))
      clear hb2 hb
      go_wp2_with fail
      go_ret
      exact ⟨_, rfl, by rw [he.out]; exact World.ownsRow_nil _ _ _ _, unhide HB2⟩
    | true =>
      rintro e w2 ⟨rfl, hb2⟩
      have HOB := hide hb
      have HB2 := hide ((unhide HB1).trans (hb2.mono hle1))
      have hle2 := HB2.out.size
      clear hb2 hb
      go_wp2_with fail
      refine (openAll_any v u xs bs _ (SRow.below (unhide hR) (unhide HB2)) (BRow.below (unhide hS) (unhide HB2)) HO.out HOB.out).mono ?_
      rintro e w3 ⟨bm, q, L, rfl, hV, hOp, hb3⟩
      have he : Hid (knwOpen xs bs = L) := by show _ = _; unfold knwOpen; rw [HO.out, HOB.out, openOf_eq hOp]; rfl
      have hLl := hide (knwOpen_len hOp HO.out HOB.out)
      obtain ⟨qo, qc, hq⟩ := hV.own.form
      subst hq
      have HV := hide hV.own.srow
      have HB3 := hide ((unhide HB2).trans (hb3.mono hle2))
      have hle3 := HB3.out.size
      have hba : Below w3.heap.size w3 (w3.alloc (.cells #[.map (some bm), .slice qo L.length qc] 66)) := (Below.refl _ _).alloc (Nat.le_refl _) _
      have HBA := hide hba
      clear hV hOp hb3 hba
      go_wp2_with fail
      refine (cloneNames_any _ L _ (SRow.below (unhide HV) (unhide HBA)) (by have := hLl.out.1; omega) (fun x hx => by have := (ok_facts (hLl.out.2 x hx)).1; omega)).mono ?_
      rintro e w4 ⟨q4, rfl, ho4, hb4⟩
      have hF : Hid (Own w.heap.size w4 q4 (knwOpen xs bs) ∧ Below w.heap.size w w4) := by
        refine ⟨?_, (unhide HB3).trans (((unhide HBA).trans (hb4.mono (by simp))).mono hle3)⟩
        rw [he.out]
        refine ⟨ho4.1, ho4.2.imp id ?_⟩
        rintro ⟨g, cap', cur, q1, q2, q3⟩
        exact ⟨g, cap', cur, q1, by simp at q2; omega, q3⟩
      clear ho4 hb4
      go_wp2_with fail
      go_ret
      exact ⟨_, rfl, hF.out⟩

set_option maxRecDepth 100000 in
set_option maxHeartbeats 2000000 in
theorem iKnwHas_any (v u : Value) (xs : List ByteArray) (bs : List Bx) (s : ByteArray) (w : World) (h : SRow w v xs) (k : BRow w u bs) (hx : ∀ x ∈ xs, x.size ≤ maxLen) (hy : ∀ b ∈ bs, b.1.size ≤ maxLen ∧ b.2.size ≤ maxLen) (hs : s.size ≤ maxLen) :
    Calls Try.prog 32 #[v, u, .string s] w fun e w' => e = .returned (.bool (knwHas xs bs s)) ∧ Below w.heap.size w w' := by
  have hR := hide h
  have hS := hide k
  have HX := hide hx
  have HY := hide hy
  have M := hide hs
  clear h k hx hy hs
  go_enter Try.func32, Try.ntmps32
  go_wp2_with fail
  refine (areNames_any v xs _ (unhide hR) (unhide HX)).mono ?_
  cases ho : okAll xs with
  | false =>
    have he : knwHas xs bs s = false := by unfold knwHas; rw [ho]; rfl
    rintro e w1 ⟨rfl, hb1⟩
    have HB1 := hide hb1
    clear hb1 ho
    go_wp2_with fail
    go_ret
    exact ⟨ret_bool' he.symm, unhide HB1⟩
  | true =>
    rintro e w1 ⟨rfl, hb1⟩
    have HO := hide ho
    have HB1 := hide hb1
    have hle1 := hb1.size
    clear hb1 ho
    go_wp2_with fail
    refine (areBoxes_any u bs _ (BRow.below (unhide hS) (unhide HB1)) (unhide HY)).mono ?_
    cases hb : okBoxes bs with
    | false =>
      have he : knwHas xs bs s = false := by unfold knwHas; rw [HO.out, hb]; rfl
      rintro e w2 ⟨rfl, hb2⟩
      have HB2 := hide ((unhide HB1).trans (hb2.mono hle1))
      clear hb2 hb
      go_wp2_with fail
      go_ret
      exact ⟨ret_bool' he.symm, unhide HB2⟩
    | true =>
      rintro e w2 ⟨rfl, hb2⟩
      have HOB := hide hb
      have HB2 := hide ((unhide HB1).trans (hb2.mono hle1))
      have hle2 := HB2.out.size
      clear hb2 hb
      go_wp2_with fail
      refine (iSecOk_any s _ M.out).mono ?_
      cases hk : Kw.ok s with
      | false =>
        have he : knwHas xs bs s = false := by unfold knwHas; rw [HO.out, HOB.out, hk]; rfl
        rintro e w3 ⟨rfl, hb3⟩
        have HB3 := hide ((unhide HB2).trans (hb3.mono hle2))
        clear hb3 hk
        go_wp2_with fail
        go_ret
        exact ⟨ret_bool' he.symm, unhide HB3⟩
      | true =>
        rintro e w3 ⟨rfl, hb3⟩
        have HK := hide hk
        have HB3 := hide ((unhide HB2).trans (hb3.mono hle2))
        have hle3 := HB3.out.size
        clear hb3 hk
        go_wp2_with fail
        refine (openAll_any v u xs bs _ (SRow.below (unhide hR) (unhide HB3)) (BRow.below (unhide hS) (unhide HB3)) HO.out HOB.out).mono ?_
        rintro e w4 ⟨bm, q, L, rfl, hV, hOp, hb4⟩
        have he : Hid (knwHas xs bs s = can L s) := by show _ = _; unfold knwHas; rw [HO.out, HOB.out, HK.out, openOf_eq hOp]; rfl
        obtain ⟨qo, qc, hq⟩ := hV.own.form
        have hle4 := hb4.size
        have hba : Below w4.heap.size w4 (w4.alloc (.cells #[.map (some bm), q] 66)) := (Below.refl _ _).alloc (Nat.le_refl _) _
        have HB4 := hide (((unhide HB3).trans (hb4.mono hle3)).trans (hba.mono (by omega)))
        have HA : Hid (SetAt w3.heap.size (w4.alloc (.cells #[.map (some bm), q] 66)) w4.heap.size bm q L) := ⟨heap_alloc_new _ _, hV.below hba⟩
        subst hq
        clear hV hOp hb4 hba
        go_wp2_with fail
        refine (makingOf_any s.size s (Nat.le_refl _) HK.out _).mono ?_
        rintro e w5 ⟨f, rfl, hf, hb5⟩
        have HF := hide hf
        obtain ⟨fo, fn, fc, hff⟩ := hf.form
        have hle5 := hb5.size
        have HB5 := hide ((unhide HB4).trans (hb5.mono (by simp; omega)))
        have HA5 := hide ((unhide HA).below hb5)
        subst hff
        clear hf hb5
        go_wp2_with fail
        refine (canBeFrom_any s.size s (Nat.le_refl _) HK.out _ _ _ _ (unhide HA5) (unhide HF) (Nat.le_refl _)).mono ?_
        rw [← he.out]
        rintro e w6 ⟨rfl, hb6⟩
        have HB6 := hide ((unhide HB5).trans (hb6.mono (by simp at hle5; omega)))
        clear hb6
        go_wp2_with fail
        go_ret
        exact ⟨rfl, unhide HB6⟩
#print axioms iKnwOpen_any
#print axioms iKnwHas_any
end Go.Proofs.Ytjdpabiodalfkaa
