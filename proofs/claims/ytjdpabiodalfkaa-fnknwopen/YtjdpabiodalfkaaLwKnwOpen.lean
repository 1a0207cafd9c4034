/-
  Proved: of every code: behind KnwOpen all that was known is known; what else is known is what is in boxes whose keys can be made from what is known; each box whose key can be made from it is opened; opened once more nothing more is known. No condition.
-/
import Derived.Test.YtjdpabiodalfkaaFrame
import Derived.Test.YtjdpabiodalfkaaSmallM
import Derived.Test.YtjdpabiodalfkaaKeHas
import Derived.Test.YtjdpabiodalfkaaKeTexts
import Derived.Test.YtjdpabiodalfkaaClos
import Derived.Deep.RegionHeld3
namespace Go.Proofs.Ytjdpabiodalfkaa
open Go.ChangeShapes Go.WideShapes Go.ChangeAt Go.RowKit
open Go.ChangeMaps (open_string shut_string)
set_option linter.unusedVariables false

/-- What KnwMake says of a key. -/
noncomputable def mk (L : List ByteArray) (k : ByteArray) : Bool := okAll L && Kw.ok k && can L k
/-- Told by what was known, or by one of the first j boxes. -/
noncomputable def told (xs : List ByteArray) (bs : List Bx) (L : List ByteArray) (y : ByteArray) (j : Nat) : Bool := has xs y || (bs.take j).any fun b => decide (b.2 = y) && mk L b.1
theorem told_succ {xs : List ByteArray} {bs : List Bx} {L : List ByteArray} {y : ByteArray} {j : Nat} (h : j < bs.length) :
    told xs bs L y (j + 1) = (told xs bs L y j || (decide ((bs.getD j noBx).2 = y) && mk L (bs.getD j noBx).1)) := by
  unfold told
  rw [List.take_succ_eq_append_getElem h, List.any_append, List.getD_eq_getElem?_getD, List.getElem?_eq_getElem h]
  simp [Bool.or_assoc]
theorem told_all {xs : List ByteArray} {bs : List Bx} {y : ByteArray} (hx : okAll xs = true) (hb : okBoxes bs = true) (hl : xs.length + bs.length ≤ 400) (hy : y ∈ openOf xs bs) : told xs bs (openOf xs bs) y bs.length = true := by
  unfold told
  rw [List.take_length]
  have hok : okAll (openOf xs bs) = true := okAll_iff.2 ⟨by have := @openOf_size xs bs; omega, (knwOpen_len (openOf_opened xs bs) hx hb).2⟩
  rcases openOf_from hy with h | ⟨b, h1, h2, h3⟩
  · rw [has_iff.2 h]; rfl
  · have : (bs.any fun b => decide (b.2 = y) && mk (openOf xs bs) b.1) = true := by
      rw [List.any_eq_true]
      refine ⟨b, h1, ?_⟩
      have k := ((okBoxes_iff.1 hb).2 b h1).1
      unfold mk
      rw [hok, k, h3]
      simp [h2]
    rw [this]; simp
theorem nodup_take {L : List ByteArray} (h : L.Nodup) {k : Nat} (hk : k < L.length) : has (L.take k) (L.getD k ByteArray.empty) = false := by
  refine has_not fun hm => ?_
  rw [List.getD_eq_getElem?_getD, List.getElem?_eq_getElem hk] at hm
  have h2 : (L.take k ++ L.drop k).Nodup := by rw [List.take_append_drop]; exact h
  rw [List.nodup_append] at h2
  have h3 : L[k] ∈ L.drop k := by rw [List.drop_eq_getElem_cons hk]; exact List.mem_cons_self
  exact h2.2.2 _ hm L[k] h3 rfl
theorem srow_take {w : World} {ao : Option Addr} {cap : Nat} {xs : List ByteArray} {k : Nat} (h : SRow w (.slice ao xs.length cap) xs) (hk : k < xs.length) : SRow w (.slice ao k cap) (xs.take k) := by
  obtain ⟨ao', c1, q1, q3, q4, q2⟩ := h.form
  simp only [Value.slice.injEq] at q1
  obtain ⟨rfl, _, rfl⟩ := q1
  obtain ⟨a, rfl, _⟩ := q2 k hk
  have hl : (xs.take k).length = k := by simp; omega
  refine .inr ⟨a, cap, by rw [hl], by omega, q4, fun i hi => ?_⟩
  obtain ⟨a', e, hc⟩ := q2 i (by omega)
  cases e
  rw [hc]
  have : i < k := by omega
  simp [List.getD_eq_getElem?_getD, this]

set_option maxRecDepth 100000 in
set_option maxHeartbeats 4000000 in
theorem walk_FnKnwOpen (a0 : Option Addr) (len cap : Nat) (zs : List Int) (w : World) (h : IsRow .u8 w a0 len cap zs) :
    Calls Try.prog 5 #[.slice a0 len cap] w fun e w' => e = .returned (.bool true) ∧ Below w.heap.size w w' := by
  have hlm : len ≤ 9223372036854775807 := by
    rcases h with ⟨_, rfl, _⟩ | ⟨x, _, h1, h2, _⟩
    · omega
    · unfold maxLen at h2; omega
  have HR := hide h
  clear h
  by_cases hb : (1048576 : Int) < (len : Int)
  · go_enter Try.func5, Try.ntmps5
    go_wp2_with fail
    go_ret
    exact ⟨rfl, Below.refl _ _⟩
  have hb2 : decide ((1048576 : Int) < (len : Int)) = false := by simpa using hb
  clear hb
  go_enter Try.func5, Try.ntmps5
  go_wp2_with fail
  refine (DrawKnwOpen_any a0 len cap zs _ (unhide HR)).mono ?_
  rintro e w1 ⟨v, u, xs, bs, rfl, hnn, hnnb, hO, hOB, hl, hlb, hsm, hsmb, hb1⟩
  have HB1 := hide hb1
  have hle1 := hb1.size
  have HO1 : Hid (Own 0 w1 v xs) := row_low hO (Nat.zero_le _)
  have HU1 : Hid (OwnB 0 w1 u bs) := row_low hOB (Nat.zero_le _)
  have HX := hide (smallm hsm)
  have HY := hide (smallB_max hsmb)
  obtain ⟨g, vc, hv, _⟩ := row_nn hnn hO
  obtain ⟨gb, uc, hu, _⟩ := row_nn hnnb hOB
  subst hv
  subst hu
  have HNN := hide hnn
  have HNB := hide hnnb
  clear hb1 hO hsm hOB hsmb hnn hnnb
  go_wp2_with fail
  refine (iKnwOpen_any _ _ xs bs _ (Own.srow (unhide HO1)) (OwnB.brow (unhide HU1)) (unhide HX) (unhide HY)).mono ?_
  rintro e w3 ⟨r, rfl, ho3, hb3'⟩
  obtain ⟨ro, rc, hr⟩ := row_form' ho3
  subst hr
  have HB3 := hide ((unhide HB1).trans (hb3'.mono hle1))
  have hle3 := HB3.out.size
  have HO3 := hide ((unhide HO1).below hb3')
  have HU3 : Hid (OwnB 0 w3 _ bs) := own_below' (unhide HU1) hb3'
  have HQ3 := hide (Own.srow ho3)
  clear ho3 hb3' HO1 HU1
  go_wp2_with fail
  refine (sKnwOpen_any _ _ xs bs _ (Own.srow (unhide HO3)) (OwnB.brow (unhide HU3)) (unhide HX) (unhide HY)).mono ?_
  rintro e w4 ⟨r4, rfl, ho4, hb4⟩
  obtain ⟨ro4, rc4, hr4⟩ := row_form' ho4
  subst hr4
  have HB4 := hide ((unhide HB3).trans (hb4.mono hle3))
  have hle4 := HB4.out.size
  have HO4 := hide ((unhide HO3).below hb4)
  have HU4 : Hid (OwnB 0 w4 _ bs) := own_below' (unhide HU3) hb4
  have HQ4 := hide (SRow.below (unhide HQ3) hb4)
  have HT4 := hide (Own.srow ho4)
  clear ho4 hb4 HO3 HU3 HQ3
  go_wp2_with fail
  refine (keTexts_any _ _ (knwOpen xs bs) (knwOpen xs bs) _ (unhide HQ4) (unhide HT4)).mono ?_
  rw [show decide (knwOpen xs bs = knwOpen xs bs) = true by simp]
  rintro e w5 ⟨rfl, hb5⟩
  have HB5 := hide ((unhide HB4).trans (hb5.mono hle4))
  have hle5 := HB5.out.size
  have HO5 := hide ((unhide HO4).below hb5)
  have HU5 : Hid (OwnB 0 w5 _ bs) := own_below' (unhide HU4) hb5
  have HQ5 := hide (SRow.below (unhide HQ4) hb5)
  clear hb5 HO4 HU4 HQ4 HT4
  have hkl : (knwOpen xs bs).length ≤ 13 := by
    unfold knwOpen
    split
    · have := @openOf_size xs bs; omega
    · simp
  have hN1 : Hid (okAll xs = false → (knwOpen xs bs) = []) := by intro q; unfold knwOpen; rw [q]; rfl
  have hN2 : Hid (okBoxes bs = false → (knwOpen xs bs) = []) := by intro q; unfold knwOpen; rw [q, Bool.and_false]; rfl
  have hN3 : Hid (okAll xs = true → okBoxes bs = true → knwOpen xs bs = openOf xs bs) := by intro q1 q2; unfold knwOpen; rw [q1, q2]; rfl
  generalize hko : knwOpen xs bs = ko at *
  have HKO := hide hko
  clear hko
  go_wp2_with fail
  go_loopw [6] (fun i wr => ∃ k : Nat, k ≤ xs.length ∧ i = .int .i64 (k : Int) ∧ Hid (∀ j, j < k → Kw.ok (xs.getD j ByteArray.empty) = true) ∧ Hid (Below w5.heap.size w5 wr)) (fun i _ => xs.length - (intOf i).toNat)
  case atStart => exact ⟨0, by omega, rfl, fun j hj => by omega, Below.refl _ _⟩
  case round =>
    obtain ⟨k, hk, rfl, hN, hL⟩ := hrel
    have hleL := hL.out.size
    by_cases hlt : k < xs.length
    · have hlt2 : (k : Int) < (xs.length : Int) := by omega
      obtain ⟨ao', c1, q1, _, _, q2⟩ := (SRow.below (Own.srow (unhide HO5)) (unhide hL)).form
      simp only [Value.slice.injEq] at q1
      obtain ⟨rfl, _, rfl⟩ := q1
      obtain ⟨a, ha, hck⟩ := q2 k hlt
      cases ha
      rw [Addr.add_lit, Nat.zero_add] at hck
      clear q2
      have M : Hid ((xs.getD k ByteArray.empty).size ≤ maxLen) := HX.out _ (getD_mem hlt)
      have i3 : IntKind.i64.wrap ((k : Int) + 1) = (k : Int) + 1 := by simp [IntKind.wrap, IntKind.bits, IntKind.signed]; omega
      have hNo : Hid (Kw.ok (xs.getD k ByteArray.empty) = false → ko = []) := fun hf => hN1.out (by
        cases q : okAll xs with
        | false => rfl
        | true => have := (okAll_iff.1 q).2 _ (getD_mem hlt); rw [hf] at this; cases this)
      have hYes : Hid (Kw.ok (xs.getD k ByteArray.empty) = true → ∀ j, j < k + 1 → Kw.ok (xs.getD j ByteArray.empty) = true) := by
        intro ht j hj
        by_cases hjk : j = k
        · subst hjk; exact ht
        · exact hN j (by omega)
      generalize xs.getD k ByteArray.empty = y at hck M hYes hNo
      go_wp2_with fail
      refine (sSecOk_any y _ M.out).mono ?_
      cases hy : Kw.ok y with
      | false =>
        rintro e w6 ⟨rfl, hb6⟩
        have HB6 := hide ((unhide HB5).trans (((unhide hL).trans (hb6.mono hleL)).mono hle5))
        have hle6 := HB6.out.size
        have he := hNo.out hy
        clear hb6 hy
        subst he
        rw [show ([] : List ByteArray).length = 0 from rfl]
        go_wp2_with fail
        refine (keOk_any _).mono ?_
        rintro e w7 ⟨rfl, hb7⟩
        go_wp2_with fail
        go_ret
        exact ⟨rfl, (unhide HB6).trans (hb7.mono hle6)⟩
      | true =>
        rintro e w6 ⟨rfl, hb6⟩
        have hL6 := hide ((unhide hL).trans (hb6.mono hleL))
        have hN1' := hide (hYes.out hy)
        clear hb6 hy hck
        go_wp2_with fail
        go_roundw
        case rel => exact ⟨k + 1, by omega, by simp, hN1', hL6⟩
        case measure => simp [intOf]; omega
    · have hlt2 : decide ((k : Int) < (xs.length : Int)) = false := by simp; omega
      have hxok : Hid (okAll xs = true) := okAll_iff.2 ⟨by omega, fun y hy => by
        obtain ⟨j, hj, e⟩ := mem_getD hy
        rw [← e]; exact hN.out j (by omega)⟩
      have HB6 := hide ((unhide HB5).trans ((unhide hL).mono hle5))
      have HO6 := hide ((unhide HO5).below (unhide hL))
      have HU6 : Hid (OwnB 0 wr _ bs) := own_below' (unhide HU5) (unhide hL)
      have HQ6 := hide (SRow.below (unhide HQ5) (unhide hL))
      have hle6 := HB6.out.size
      clear hN hL hleL HO5 HU5 HQ5 hN1
      generalize wr = w6 at *
      go_wp2_with fail
      go_loopw [7] (fun i wr => ∃ k : Nat, k ≤ bs.length ∧ i = .int .i64 (k : Int) ∧ Hid (∀ j, j < k → Kw.ok (bs.getD j noBx).1 = true ∧ Kw.ok (bs.getD j noBx).2 = true) ∧ Hid (Below w6.heap.size w6 wr)) (fun i _ => bs.length - (intOf i).toNat)
      case atStart => exact ⟨0, by omega, rfl, fun j hj => by omega, Below.refl _ _⟩
      case round =>
        obtain ⟨k7, hk7, rfl, hN, hL⟩ := hrel
        have hleL := hL.out.size
        by_cases hlt : k7 < bs.length
        · have hlt2 : (k7 : Int) < (bs.length : Int) := by omega
          have hq : OwnB 0 wr _ bs := own_below' (unhide HU6) (unhide hL)
          obtain ⟨g', c', hv', hcell⟩ := row_nn (unhide HNB) hq
          cases hv'
          obtain ⟨p1, p2⟩ := bcells_get bs k7 hlt
          have hca := hcell _ _ p1
          have hcb := hcell _ _ p2
          rw [Addr.add_lit, Nat.zero_add] at hca hcb
          clear hq hcell p1 p2
          have M : Hid ((bs.getD k7 noBx).1.size ≤ maxLen ∧ (bs.getD k7 noBx).2.size ≤ maxLen) := HY.out _ (getB_mem hlt)
          have i3 : IntKind.i64.wrap ((k7 : Int) + 1) = (k7 : Int) + 1 := by simp [IntKind.wrap, IntKind.bits, IntKind.signed]; omega
          have hNo : Hid (Kw.ok (bs.getD k7 noBx).1 = false ∨ Kw.ok (bs.getD k7 noBx).2 = false → ko = []) := fun hf => hN2.out (by
            cases q : okBoxes bs with
            | false => rfl
            | true =>
              have := (okBoxes_iff.1 q).2 _ (getB_mem hlt)
              rcases hf with hf | hf
              · rw [hf] at this; cases this.1
              · rw [hf] at this; cases this.2)
          have hYes : Hid (Kw.ok (bs.getD k7 noBx).1 = true → Kw.ok (bs.getD k7 noBx).2 = true → ∀ j, j < k7 + 1 → Kw.ok (bs.getD j noBx).1 = true ∧ Kw.ok (bs.getD j noBx).2 = true) := by
            intro ht ht2 j hj
            by_cases hjk : j = k7
            · subst hjk; exact ⟨ht, ht2⟩
            · exact hN j (by omega)
          generalize bs.getD k7 noBx = y at hca hcb M hYes hNo
          go_wp2_with fail
          refine (sSecOk_any y.1 _ M.out.1).mono ?_
          cases hy : Kw.ok y.1 with
          | false =>
            rintro e w7 ⟨rfl, hb7⟩
            have HB7 := hide ((unhide HB6).trans (((unhide hL).trans (hb7.mono hleL)).mono hle6))
            have hle7 := HB7.out.size
            have he := hNo.out (.inl hy)
            clear hb7 hy
            subst he
            rw [show ([] : List ByteArray).length = 0 from rfl]
            go_wp2_with fail
            refine (keOk_any _).mono ?_
            rintro e w8 ⟨rfl, hb8⟩
            go_wp2_with fail
            go_ret
            exact ⟨rfl, (unhide HB7).trans (hb8.mono hle7)⟩
          | true =>
            rintro e w7 ⟨rfl, hb7⟩
            have hcb7 := (hb7.cell (cell_lt hcb)).trans hcb
            have hL7 := hide ((unhide hL).trans (hb7.mono hleL))
            have hleL7 := hL7.out.size
            have HY1 := hide hy
            clear hb7 hy hca hcb hL
            go_wp2_with fail
            refine (sSecOk_any y.2 _ M.out.2).mono ?_
            cases hy2 : Kw.ok y.2 with
            | false =>
              rintro e w8 ⟨rfl, hb8⟩
              have HB8 := hide ((unhide HB6).trans (((unhide hL7).trans (hb8.mono hleL7)).mono hle6))
              have hle8 := HB8.out.size
              have he := hNo.out (.inr hy2)
              clear hb8 hy2
              subst he
              rw [show ([] : List ByteArray).length = 0 from rfl]
              go_wp2_with fail
              refine (keOk_any _).mono ?_
              rintro e w9 ⟨rfl, hb9⟩
              go_wp2_with fail
              go_ret
              exact ⟨rfl, (unhide HB8).trans (hb9.mono hle8)⟩
            | true =>
              rintro e w8 ⟨rfl, hb8⟩
              have hL8 := hide ((unhide hL7).trans (hb8.mono hleL7))
              have hN1' := hide (hYes.out HY1.out hy2)
              clear hb8 hy2 hcb7
              go_wp2_with fail
              go_roundw
              case rel => exact ⟨k7 + 1, by omega, by simp, hN1', hL8⟩
              case measure => simp [intOf]; omega
        · have hlt2 : decide ((k7 : Int) < (bs.length : Int)) = false := by simp; omega
          have hbok : Hid (okBoxes bs = true) := okBoxes_iff.2 ⟨by omega, fun y hy => by
            obtain ⟨j, hj, e⟩ := List.getElem_of_mem hy
            have := hN.out j (by omega)
            rw [List.getD_eq_getElem?_getD, List.getElem?_eq_getElem hj] at this
            rw [← e]; exact this⟩
          have hkoo : Hid (ko = openOf xs bs) := hN3.out hxok.out hbok.out
          have HB7 := hide ((unhide HB6).trans ((unhide hL).mono hle6))
          have HO7 := hide ((unhide HO6).below (unhide hL))
          have HU7 : Hid (OwnB 0 wr _ bs) := own_below' (unhide HU6) (unhide hL)
          have HQ7 := hide (SRow.below (unhide HQ6) (unhide hL))
          have hle7 := HB7.out.size
          clear hN hL hleL HO6 HU6 HQ6 hN2 hN3
          generalize wr = w7 at *
          go_wp2_with fail
          have hmk : Hid (okAll ko = true) := by
            show _ = _
            rw [hkoo.out]
            exact okAll_iff.2 ⟨by have := @openOf_size xs bs; omega, (knwOpen_len (openOf_opened xs bs) hxok.out hbok.out).2⟩
          have HZ : Hid (∀ x ∈ ko, x.size ≤ maxLen) := fun x hx => okm ((okAll_iff.1 hmk.out).2 x hx)
          go_loopw [8] (fun i wr => ∃ k : Nat, k ≤ xs.length ∧ i = .int .i64 (k : Int) ∧ Hid (Below w7.heap.size w7 wr)) (fun i _ => xs.length - (intOf i).toNat)
          case atStart => exact ⟨0, by omega, rfl, Below.refl _ _⟩
          case round =>
            obtain ⟨k8, hk8, rfl, hL⟩ := hrel
            have hleL := hL.out.size
            by_cases hlt : k8 < xs.length
            · have hlt2 : (k8 : Int) < (xs.length : Int) := by omega
              obtain ⟨ao', c1, q1, _, _, q2⟩ := (SRow.below (Own.srow (unhide HO7)) (unhide hL)).form
              simp only [Value.slice.injEq] at q1
              obtain ⟨rfl, _, rfl⟩ := q1
              obtain ⟨a, ha, hck⟩ := q2 k8 hlt
              cases ha
              rw [Addr.add_lit, Nat.zero_add] at hck
              clear q2
              have i3 : IntKind.i64.wrap ((k8 : Int) + 1) = (k8 : Int) + 1 := by simp [IntKind.wrap, IntKind.bits, IntKind.signed]; omega
              have hin : Hid (has ko (xs.getD k8 ByteArray.empty) = true) := by
                show _ = _
                rw [hkoo.out]
                exact has_iff.2 (openOf_known (getD_mem hlt))
              generalize xs.getD k8 ByteArray.empty = y at hck hin
              go_wp2_with fail
              refine (keHas_any _ ko y _ (SRow.below (unhide HQ7) (unhide hL))).mono ?_
              rw [hin.out]
              rintro e w8 ⟨rfl, hb8⟩
              have hL8 := hide ((unhide hL).trans (hb8.mono hleL))
              clear hb8 hck hL
              go_wp2_with fail
              go_roundw
              case rel => exact ⟨k8 + 1, by omega, by simp, hL8⟩
              case measure => simp [intOf]; omega
            · have hlt2 : decide ((k8 : Int) < (xs.length : Int)) = false := by simp; omega
              have HB8 := hide ((unhide HB7).trans ((unhide hL).mono hle7))
              have HO8 := hide ((unhide HO7).below (unhide hL))
              have HU8 : Hid (OwnB 0 wr _ bs) := own_below' (unhide HU7) (unhide hL)
              have HQ8 := hide (SRow.below (unhide HQ7) (unhide hL))
              have hle8 := HB8.out.size
              clear hL hleL HO7 HU7 HQ7
              generalize wr = w8 at *
              go_wp2_with fail
              go_loopw [9] (fun i wr => ∃ k : Nat, k ≤ ko.length ∧ i = .int .i64 (k : Int) ∧ Hid (Below w8.heap.size w8 wr)) (fun i _ => ko.length - (intOf i).toNat)
              case atStart => exact ⟨0, by omega, rfl, Below.refl _ _⟩
              case round =>
                obtain ⟨k9, hk9, rfl, hL⟩ := hrel
                have hleL := hL.out.size
                by_cases hlt : k9 < ko.length
                · have hlt2 : (k9 : Int) < (ko.length : Int) := by omega
                  obtain ⟨ao', c1, q1, qq1, qq2, q2⟩ := (SRow.below (unhide HQ8) (unhide hL)).form
                  simp only [Value.slice.injEq] at q1
                  obtain ⟨rfl, _, rfl⟩ := q1
                  obtain ⟨a, ha, hck⟩ := q2 k9 hlt
                  subst ha
                  clear q2
                  have i3 : IntKind.i64.wrap ((k9 : Int) + 1) = (k9 : Int) + 1 := by simp [IntKind.wrap, IntKind.bits, IntKind.signed]; omega
                  have hYM : ko.getD k9 ByteArray.empty ∈ ko := getD_mem hlt
                  have hall : Hid (told xs bs ko (ko.getD k9 ByteArray.empty) bs.length = true) := by
                    show _ = _
                    rw [hkoo.out] at hYM ⊢
                    exact told_all hxok.out hbok.out (by omega) hYM
                  have hdist : Hid (has (ko.take k9) (ko.getD k9 ByteArray.empty) = false) := nodup_take (by rw [hkoo.out]; exact nodup_openOf xs bs) hlt
                  have hcell0 : Hid (∀ wx, Below w8.heap.size w8 wx → wx.cell? (a.add k9) = some (.string (ko.getD k9 ByteArray.empty))) := fun wx hx => by
                    obtain ⟨ao2, c2, z1, _, _, z2⟩ := (SRow.below (unhide HQ8) hx).form
                    simp only [Value.slice.injEq] at z1
                    obtain ⟨z3, _, _⟩ := z1
                    obtain ⟨a2, z4, z5⟩ := z2 k9 hlt
                    rw [← z3] at z4
                    cases z4
                    exact z5
                  generalize ko.getD k9 ByteArray.empty = y at hck hall hdist hcell0
                  clear hYM
                  go_wp2_with fail
                  refine (keHas_any _ xs y _ (Own.srow ((unhide HO8).below (unhide hL)))).mono ?_
                  rintro e w9 ⟨rfl, hb9⟩
                  have hL9 := hide ((unhide hL).trans (hb9.mono hleL))
                  have hleL9 := hL9.out.size
                  clear hb9 hck hL
                  go_wp2_with fail
                  go_loopw [10, 11] (fun t i wr => ∃ j : Nat, j ≤ bs.length ∧ i = .int .i64 (j : Int) ∧ t = .bool (told xs bs ko y j) ∧ Hid (Below w8.heap.size w8 wr)) (fun _ i _ => bs.length - (intOf i).toNat)
                  case atStart => exact ⟨0, by omega, rfl, by simp [told], hL9⟩
                  case round =>
                    clear hL9
                    obtain ⟨j, hj, rfl, rfl, hL⟩ := hrel
                    have hleL := hL.out.size
                    have hck := hcell0.out _ (unhide hL)
                    by_cases hltj : j < bs.length
                    · have hltj2 : (j : Int) < (bs.length : Int) := by omega
                      have i4 : IntKind.i64.wrap ((j : Int) + 1) = (j : Int) + 1 := by simp [IntKind.wrap, IntKind.bits, IntKind.signed]; omega
                      have hq : OwnB 0 wr _ bs := own_below' (own_below' (unhide HU8) (unhide hL)) (Below.refl _ _)
                      obtain ⟨g', c', hv', hcell⟩ := row_nn (unhide HNB) hq
                      cases hv'
                      obtain ⟨p1, p2⟩ := bcells_get bs j hltj
                      have hca := hcell _ _ p1
                      have hcb := hcell _ _ p2
                      rw [Addr.add_lit, Nat.zero_add] at hca hcb
                      clear hq hcell p1 p2
                      have M : Hid ((bs.getD j noBx).1.size ≤ maxLen) := (HY.out _ (getB_mem hltj)).1
                      have htS := hide (told_succ (xs := xs) (L := ko) (y := y) hltj)
                      generalize bs.getD j noBx = b at hca hcb M htS
                      generalize htb : told xs bs ko y j = tb at htS ⊢
                      clear htb
                      cases tb with
                      | true =>
                        have hF : Hid (told xs bs ko y (j + 1) = true) := by show _ = _; rw [htS.out]; rfl
                        go_wp2_with fail
                        go_quiet (fail)
                        go_wp2_with fail
                        go_roundw
                        case rel => exact ⟨j + 1, by omega, by simp, by rw [hF.out], below_drewN (unhide hL) _⟩
                        case measure => simp [intOf]; omega
                      | false =>
                        by_cases hby : b.2 = y
                        · have hF : Hid (told xs bs ko y (j + 1) = mk ko b.1) := by show _ = _; rw [htS.out]; simp [hby]
                          rw [hby] at hcb
                          go_wp2_with fail
                          go_region_held3 (fun w' => w'.cell? ⟨gb, j * 2, none⟩ = some (.string b.1) ∧ w'.cell? ⟨gb, j * 2 + 1, none⟩ = some (.string y) ∧ w'.cell? (a.add k9) = some (.string y))
                            ((first | exact ⟨hca, hcb, hck⟩ | exact ⟨pca, pcb, pck⟩))
                            ((go_at_call 15; refine (iKnwMake_any _ ko b.1 wr.drew (SRow.drew (SRow.below (unhide HQ8) (unhide hL))) (unhide HZ) M.out).mono ?_; rintro e w10 ⟨rfl, hb10⟩; have pca := (hb10.cell (p := ⟨gb, j * 2, none⟩) (cell_lt hca)).trans hca; have pcb := (hb10.cell (p := ⟨gb, j * 2 + 1, none⟩) (cell_lt hcb)).trans hcb; have pck := (hb10.cell (cell_lt hck)).trans hck; have hL10 : Hid (Below w8.heap.size w8 w10) := ((unhide hL).drew).trans (hb10.mono hleL); clear hb10))
                          go_wp2_with fail
                          go_roundw
                          case rel => exact ⟨j + 1, by omega, by simp, by rw [hF.out]; rfl, hL10⟩
                          case measure => simp [intOf]; omega
                        · have hF : Hid (told xs bs ko y (j + 1) = false) := by show _ = _; rw [htS.out]; simp [hby]
                          have hnk : (b.2.toList == y.toList) = false := by
                            cases q : (b.2.toList == y.toList) with
                            | false => rfl
                            | true => exact absurd (toList_eq.1 q) hby
                          go_wp2_with fail
                          go_quiet (fail)
                          go_wp2_with fail
                          go_roundw
                          case rel => exact ⟨j + 1, by omega, by simp, by rw [hF.out], below_drewN (unhide hL) _⟩
                          case measure => simp [intOf]; omega
                    · have hltj2 : decide ((j : Int) < (bs.length : Int)) = false := by simp; omega
                      have hjn : j = bs.length := by omega
                      subst hjn
                      rw [hall.out]
                      have hkc : (k9 : Int) ≤ (rc : Int) := by omega
                      have hk0 : (0 : Int) ≤ (k9 : Int) := by omega
                      go_wp2_with fail
                      go_region_held3 (fun w' => w'.cell? (a.add k9) = some (.string y))
                        ((first | exact hck | exact pck))
                        ((go_at_call 30; refine (keHas_any _ (ko.take k9) y wr.drew (SRow.drew (srow_take (SRow.below (unhide HQ8) (unhide hL)) hlt))).mono ?_; rw [hdist.out]; rintro e w10 ⟨rfl, hb10⟩; have pck := (hb10.cell (cell_lt hck)).trans hck; have hL10 : Hid (Below w8.heap.size w8 w10) := ((unhide hL).drew).trans (hb10.mono hleL); clear hb10))
                      go_wp2_with fail
                      go_roundw
                      case rel => exact ⟨k9 + 1, by omega, by simp, hL10⟩
                      case measure => simp [intOf]; omega
                · have hlt2 : decide ((k9 : Int) < (ko.length : Int)) = false := by simp; omega
                  have HB9 := hide ((unhide HB8).trans ((unhide hL).mono hle8))
                  have HO9 := hide ((unhide HO8).below (unhide hL))
                  have HU9 : Hid (OwnB 0 wr _ bs) := own_below' (unhide HU8) (unhide hL)
                  have HQ9 := hide (SRow.below (unhide HQ8) (unhide hL))
                  have hle9 := HB9.out.size
                  clear hL hleL HO8 HU8 HQ8
                  generalize wr = w9 at *
                  go_wp2_with fail
                  go_loopw [12] (fun i wr => ∃ k : Nat, k ≤ bs.length ∧ i = .int .i64 (k : Int) ∧ Hid (Below w9.heap.size w9 wr)) (fun i _ => bs.length - (intOf i).toNat)
                  case atStart => exact ⟨0, by omega, rfl, Below.refl _ _⟩
                  case round =>
                    obtain ⟨k12, hk12, rfl, hL⟩ := hrel
                    have hleL := hL.out.size
                    by_cases hltj : k12 < bs.length
                    · have hltj2 : (k12 : Int) < (bs.length : Int) := by omega
                      have i4 : IntKind.i64.wrap ((k12 : Int) + 1) = (k12 : Int) + 1 := by simp [IntKind.wrap, IntKind.bits, IntKind.signed]; omega
                      have hq : OwnB 0 wr _ bs := own_below' (unhide HU9) (unhide hL)
                      obtain ⟨g', c', hv', hcell⟩ := row_nn (unhide HNB) hq
                      cases hv'
                      obtain ⟨p1, p2⟩ := bcells_get bs k12 hltj
                      have hca := hcell _ _ p1
                      have hcb := hcell _ _ p2
                      rw [Addr.add_lit, Nat.zero_add] at hca hcb
                      clear hq hcell p1 p2
                      have M : Hid ((bs.getD k12 noBx).1.size ≤ maxLen) := (HY.out _ (getB_mem hltj)).1
                      have hsh : Hid ((okAll ko && Kw.ok (bs.getD k12 noBx).1 && can ko (bs.getD k12 noBx).1) = true → has ko (bs.getD k12 noBx).2 = true) := by
                        intro hc
                        rw [Bool.and_eq_true] at hc
                        have hc2 := hc.2
                        rw [hkoo.out] at hc2 ⊢
                        exact has_iff.2 (openOf_shut xs bs _ (getB_mem hltj) hc2)
                      generalize bs.getD k12 noBx = b at hca hcb M hsh
                      go_wp2_with fail
                      refine (iKnwMake_any _ ko b.1 _ (SRow.below (unhide HQ9) (unhide hL)) (unhide HZ) M.out).mono ?_
                      cases hc : (okAll ko && Kw.ok b.1 && can ko b.1) with
                      | false =>
                        rintro e w10 ⟨rfl, hb10⟩
                        have hL10 := hide ((unhide hL).trans (hb10.mono hleL))
                        clear hb10 hc hca hcb hL
                        go_wp2_with fail
                        go_roundw
                        case rel => exact ⟨k12 + 1, by omega, by simp, hL10⟩
                        case measure => simp [intOf]; omega
                      | true =>
                        rintro e w10 ⟨rfl, hb10⟩
                        have hcb10 := (hb10.cell (cell_lt hcb)).trans hcb
                        have hL10 := hide ((unhide hL).trans (hb10.mono hleL))
                        have hleL10 := hL10.out.size
                        have hin := hide (hsh.out hc)
                        clear hb10 hc hca hcb hL
                        go_wp2_with fail
                        refine (keHas_any _ ko b.2 _ (SRow.below (unhide HQ9) (unhide hL10))).mono ?_
                        rw [hin.out]
                        rintro e w11 ⟨rfl, hb11⟩
                        have hL11 := hide ((unhide hL10).trans (hb11.mono hleL10))
                        clear hb11 hcb10 hL10
                        go_wp2_with fail
                        go_roundw
                        case rel => exact ⟨k12 + 1, by omega, by simp, hL11⟩
                        case measure => simp [intOf]; omega
                    · have hltj2 : decide ((k12 : Int) < (bs.length : Int)) = false := by simp; omega
                      have HB10 := hide ((unhide HB9).trans ((unhide hL).mono hle9))
                      have HU10 : Hid (OwnB 0 wr _ bs) := own_below' (unhide HU9) (unhide hL)
                      have HQ10 := hide (SRow.below (unhide HQ9) (unhide hL))
                      have hle10 := HB10.out.size
                      have hagain : Hid (knwOpen ko bs = ko) := by
                        show _ = _
                        have e1 : knwOpen ko bs = openOf ko bs := by unfold knwOpen; rw [hmk.out, hbok.out]; rfl
                        rw [e1, hkoo.out, openOf_again]
                      clear hL hleL HU9 HQ9 HO9
                      go_wp2_with fail
                      refine (iKnwOpen_any _ _ ko bs _ (unhide HQ10) (OwnB.brow (unhide HU10)) (unhide HZ) (unhide HY)).mono ?_
                      rw [hagain.out]
                      rintro e w11 ⟨r11, rfl, ho11, hb11⟩
                      obtain ⟨ro11, rc11, hr11⟩ := row_form' ho11
                      subst hr11
                      have HB11 := hide ((unhide HB10).trans (hb11.mono hle10))
                      have hle11 := HB11.out.size
                      have HQ11 := hide (SRow.below (unhide HQ10) hb11)
                      have HT11 := hide (Own.srow ho11)
                      clear ho11 hb11 HQ10 HU10
                      go_wp2_with fail
                      refine (keTexts_any _ _ ko ko _ (unhide HT11) (unhide HQ11)).mono ?_
                      rw [show decide (ko = ko) = true by simp]
                      rintro e w12 ⟨rfl, hb12⟩
                      have HB12 := hide ((unhide HB11).trans (hb12.mono hle11))
                      have hle12 := HB12.out.size
                      clear hb12
                      go_wp2_with fail
                      refine (keOk_any _).mono ?_
                      rintro e w13 ⟨rfl, hb13⟩
                      go_wp2_with fail
                      go_ret
                      exact ⟨rfl, (unhide HB12).trans (hb13.mono hle12)⟩

set_option maxRecDepth 100000 in
theorem lifted_FnKnwOpen (os : Os) (started : os.Started) (H : Type) (enc : TypeId × Value → H) :
    ReturnsInHanded {} Try.checked os 5 .any (Rows.fnKnwOpenSpec.pre6 enc Try.prog Try.f5 Rows.fnKnwOpenRow.domain false) (Rows.fnKnwOpenSpec.post enc Try.prog Try.f5 false true false false) := by
  refine returnsInHanded_of_change (C := Try.checked) own started (by kernel_rfl) Try.func5
    (ChangeSpec.witness6 (enc := enc) (C := Try.checked) false ⟨#[], #[.slice none 0 0], []⟩ 8 (by kernel_rfl) (by kernel_rfl) (by kernel_rfl) (by kernel_rfl)) ?_
  intro W base args ds gs before hval0 hW hcnd _
  have hval : ∀ (j : Nat) t v, Try.f5.params[j]? = some t → args[j]? = some v → Value.okWide Try.prog W .any base t v := hval0
  have hW' := hW
  obtain ⟨p, q, hA0, hV, rfl, hfz, hnd⟩ := hW
  have hA : DataW.TrodAll enc Try.prog W 0 (fun _ => true) true Try.f5.params.toList args.toList ds p := hA0
  rw [Try.params5] at hA hval
  obtain ⟨v0, vs0, d0, ds0, p0, q0, hargs, rfl, rfl, h0, r0⟩ := trodAll_cons hA
  obtain ⟨rfl, rfl, rfl⟩ := trodAll_nil r0
  obtain rfl : args = #[v0] := by cases args; simp_all
  obtain ⟨rfl, rfl⟩ := trodVars_none hV
  obtain ⟨a0, len0, cap0, rfl⟩ := okWide_slice Try.underlying22 (hval 0 22 v0 rfl rfl)
  have k0 := h0
  have lt0 : ∀ x ∈ p0, x.block < W.heap.size := by obtain ⟨m, hm⟩ := k0; exact DataW.trod_lt m _ _ _ hm
  obtain ⟨z0, w0⟩ : ∃ zs, IsRow .u8 W a0 len0 cap0 zs := by
    obtain ⟨fuel, hf⟩ := h0
    rcases open_ints Try.underlying22 Try.underlying5 (by kernel_rfl) hf with ⟨hcs, _⟩ | ⟨x, l, c, zs, hcs, _, hl, hm, hz, _, hcell, hwz⟩
    · simp [Value.cells] at hcs
      obtain ⟨rfl, rfl, rfl⟩ := hcs
      exact ⟨[], .inl ⟨rfl, rfl, rfl, rfl⟩⟩
    · simp [Value.cells] at hcs
      obtain ⟨rfl, rfl, rfl⟩ := hcs
      exact ⟨zs, .inr ⟨_, rfl, hl, hm, by simpa using hz, hcell, hwz⟩⟩
  clear hA0 hval0
  refine (walk_FnKnwOpen a0 len0 cap0 z0 W w0).mono fun e W' ⟨he, bel⟩ => ?_
  subst he
  exact ⟨_, rfl, _, _, _, [], _, [], hW', trodAll_mk1 (shut_bool Try.underlying4 _), (trodAll_cons_mk (Below.trod laidOut (by kernel_rfl) (of_decide_eq_true (by kernel_rfl)) k0 bel lt0) trodAll_mk0), rfl, bel.frame _, fun h => by cases h⟩

theorem fnKnwOpen_holds : Rows.FnKnwOpenSaid :=
  OpenClaim.holds_of_wide 5 Try.f5 rfl rfl rfl rfl rfl rfl rfl ⟨rfl, rfl, rfl, rfl, rfl⟩ rfl rfl rfl rfl rfl (by kernel_rfl) Try.func5 (by kernel_rfl)
    (of_decide_eq_true (by kernel_rfl)) (by unfold Func.isWrapper; first | (rw [if_pos (by decide +kernel)]; kernel_rfl) | (rw [if_neg (by decide +kernel)]; exact ⟨rfl, rfl⟩))
    (fun os started H enc _ => lifted_FnKnwOpen os started H enc)

#print axioms fnKnwOpen_holds
end Go.Proofs.Ytjdpabiodalfkaa
