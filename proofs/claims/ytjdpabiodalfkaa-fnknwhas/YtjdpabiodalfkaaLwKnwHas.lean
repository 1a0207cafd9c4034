/-
  Proved: of every code: knwHas is KnwMake from KnwOpen; with more boxes, and with more known, nothing can be known less; and in which order boxes come makes no difference. No condition.
-/
import Derived.Test.YtjdpabiodalfkaaFrame
import Derived.Test.YtjdpabiodalfkaaSmallM
import Derived.Test.YtjdpabiodalfkaaKeHas
import Derived.Test.YtjdpabiodalfkaaKeTexts
import Derived.Test.YtjdpabiodalfkaaClos
namespace Go.Proofs.Ytjdpabiodalfkaa
open Go.ChangeShapes Go.WideShapes Go.ChangeAt Go.RowKit
open Go.ChangeMaps (open_string shut_string)
set_option linter.unusedVariables false

theorem has_open {xs : List ByteArray} {bs : List Bx} {s : ByteArray} (h : knwHas xs bs s = true) (hl : xs.length + bs.length ≤ 400) : okAll (knwOpen xs bs) = true ∧ Kw.ok s = true ∧ can (knwOpen xs bs) s = true := by
  unfold knwHas at h
  simp only [Bool.and_eq_true] at h
  obtain ⟨⟨⟨h1, h2⟩, h3⟩, h4⟩ := h
  have e : knwOpen xs bs = openOf xs bs := by unfold knwOpen; rw [h1, h2]; rfl
  rw [e]
  refine ⟨okAll_iff.2 ⟨by have := @openOf_size xs bs; omega, (knwOpen_len (openOf_opened xs bs) h1 h2).2⟩, h3, h4⟩
theorem okBoxes_back (bs : List Bx) : okBoxes bs.reverse = okBoxes bs := by unfold okBoxes; simp
theorem can_same {L M : List ByteArray} (h1 : ∀ x ∈ L, x ∈ M) (h2 : ∀ x ∈ M, x ∈ L) (s : ByteArray) : can L s = can M s := by
  rw [Bool.eq_iff_iff]
  exact ⟨can_more h1, can_more h2⟩
theorem has_back (xs : List ByteArray) (bs : List Bx) (s : ByteArray) : knwHas xs bs.reverse s = knwHas xs bs s := by
  unfold knwHas
  rw [okBoxes_back, can_same (openOf_more (fun x hx => hx) (fun b hb => by simpa using hb)) (openOf_more (fun x hx => hx) (fun b hb => by simpa using hb))]
theorem has_more' {xs ys : List ByteArray} {bs cs : List Bx} {s : ByteArray} (h : knwHas xs bs s = true) (hy : okAll (xs ++ ys) = true) (hc : okBoxes (bs ++ cs) = true) : knwHas (xs ++ ys) (bs ++ cs) s = true := by
  unfold knwHas at h ⊢
  simp only [Bool.and_eq_true] at h ⊢
  exact ⟨⟨⟨hy, hc⟩, h.1.2⟩, can_more (openOf_more (fun x hx => by simp [hx]) (fun b hb => by simp [hb])) h.2⟩

set_option maxRecDepth 100000 in
set_option maxHeartbeats 2000000 in
theorem walk_FnKnwHas (a0 : Option Addr) (len cap : Nat) (zs : List Int) (w : World) (h : IsRow .u8 w a0 len cap zs) :
    Calls Try.prog 6 #[.slice a0 len cap] w fun e w' => e = .returned (.bool true) ∧ Below w.heap.size w w' := by
  have hlm : len ≤ 9223372036854775807 := by
    rcases h with ⟨_, rfl, _⟩ | ⟨x, _, h1, h2, _⟩
    · omega
    · unfold maxLen at h2; omega
  have HR := hide h
  clear h
  by_cases hb : (1048576 : Int) < (len : Int)
  · go_enter Try.func6, Try.ntmps6
    go_wp2_with fail
    go_ret
    exact ⟨rfl, Below.refl _ _⟩
  have hb2 : decide ((1048576 : Int) < (len : Int)) = false := by simpa using hb
  clear hb
  obtain ⟨i0, hi, hz0, hz1, hz2⟩ := info_parts info_str2
  have hI := hide (And.intro hi (And.intro hz0 (And.intro hz1 hz2)))
  clear hi hz0 hz1 hz2
  obtain ⟨j0, hi, hz0, hz1, hz2⟩ := info_parts info_bx
  have hJ := hide (And.intro hi (And.intro hz0 (And.intro hz1 hz2)))
  clear hi hz0 hz1 hz2
  go_enter Try.func6, Try.ntmps6
  go_wp2_with fail
  refine (DrawKnwHas_any a0 len cap zs _ (unhide HR)).mono ?_
  rintro e w1 ⟨v, u, xs, bs, s, rfl, hs, hnn, hnnb, hO, hOB, hl, hlb, hsm, hsmb, hb1⟩
  have HB1 := hide hb1
  have hle1 := hb1.size
  have HO1 : Hid (Own 0 w1 v xs) := row_low hO (Nat.zero_le _)
  have HU1 : Hid (OwnB 0 w1 u bs) := row_low hOB (Nat.zero_le _)
  have HX := hide (smallm hsm)
  have HY := hide (smallB_max hsmb)
  have M : Hid (s.size ≤ maxLen) := by show s.size ≤ maxLen; unfold maxLen; omega
  obtain ⟨g, vc, hv, _⟩ := row_nn hnn hO
  obtain ⟨gb, uc, hu, _⟩ := row_nn hnnb hOB
  subst hv
  subst hu
  have HNN := hide hnn
  have HNB := hide hnnb
  clear hb1 hO hsm hOB hsmb hnn hnnb
  go_wp2_with fail
  refine (iKnwHas_any _ _ xs bs s _ (Own.srow (unhide HO1)) (OwnB.brow (unhide HU1)) (unhide HX) (unhide HY) M.out).mono ?_
  rintro e w2 ⟨rfl, hb2'⟩
  have HB2 := hide ((unhide HB1).trans (hb2'.mono hle1))
  have hle2 := HB2.out.size
  have HO2 := hide ((unhide HO1).below hb2')
  have HU2 : Hid (OwnB 0 w2 _ bs) := own_below' (unhide HU1) hb2'
  clear hb2' HO1 HU1
  generalize hbv : knwHas xs bs s = b
  have HBV := hide hbv
  clear hbv
  go_wp2_with fail
  refine (sKnwHas_any _ _ xs bs s _ (Own.srow (unhide HO2)) (OwnB.brow (unhide HU2)) (unhide HX) (unhide HY) M.out).mono ?_
  rw [HBV.out]
  rintro e w3 ⟨rfl, hb3⟩
  have HB3 := hide ((unhide HB2).trans (hb3.mono hle2))
  have hle3 := HB3.out.size
  have HO3 := hide ((unhide HO2).below hb3)
  have HU3 : Hid (OwnB 0 w3 _ bs) := own_below' (unhide HU2) hb3
  clear hb3 HO2 HU2
  cases b with
  | false =>
    go_wp2_with fail
    have hO0 : Hid (OwnB w3.heap.size (w3.alloc (.cells #[] 42)) (.slice (some ⟨w3.heap.size, 0, none⟩) 0 0) ((bs.drop bs.length).reverse)) := by
      rw [List.drop_length]; exact World.ownsRow_made w3 #[] 0 (Nat.le_refl _) (by omega) rfl
    have hL0 : Hid (Below w3.heap.size w3 (w3.alloc (.cells #[] 42))) := (Below.refl _ _).alloc (Nat.le_refl _) _
    go_loopw [7, 8] (fun o i wr => ∃ j : Nat, j ≤ bs.length ∧ i = .int .i64 ((j : Int) - 1) ∧ Hid (OwnB w3.heap.size wr o ((bs.drop j).reverse)) ∧ Hid (Below w3.heap.size w3 wr)) (fun _ i _ => ((intOf i) + 1).toNat)
    case atStart => exact ⟨bs.length, Nat.le_refl _, rfl, hO0, hL0⟩
    case round =>
      clear hO0 hL0
      obtain ⟨j, hj, rfl, hOb, hLb⟩ := hrel
      have hleL := hLb.out.size
      cases j with
      | zero =>
        rw [List.drop_zero] at hOb
        rw [show ((0 : Nat) : Int) - 1 = -1 from rfl]
        obtain ⟨ro, rc, hr⟩ := row_form' (unhide hOb)
        subst hr
        rw [List.length_reverse] at hOb ⊢
        have HB4 := hide ((unhide HB3).trans ((unhide hLb).mono hle3))
        have hle4 := HB4.out.size
        have HO4 := hide ((unhide HO3).below (unhide hLb))
        have HU4 : Hid (OwnB 0 wr _ bs) := own_below' (unhide HU3) (unhide hLb)
        have HK4 := hide (OwnB.brow (unhide hOb))
        have HYr : Hid (∀ b ∈ bs.reverse, b.1.size ≤ maxLen ∧ b.2.size ≤ maxLen) := fun b hb => HY.out b (by simpa using hb)
        clear hOb hLb HO3 HU3
        go_wp2_with fail
        refine (iKnwHas_any _ _ xs bs.reverse s _ (Own.srow (unhide HO4)) (unhide HK4) (unhide HX) (unhide HYr) M.out).mono ?_
        rw [has_back, HBV.out]
        rintro e w5 ⟨rfl, hb5⟩
        have HB5 := hide ((unhide HB4).trans (hb5.mono hle4))
        have hle5 := HB5.out.size
        have HO5 := hide ((unhide HO4).below hb5)
        have HU5 : Hid (OwnB 0 w5 _ bs) := own_below' (unhide HU4) hb5
        clear hb5 HO4 HU4 HK4
        go_wp2_with fail
        refine (keOk_any _).mono ?_
        rintro e w6 ⟨rfl, hb6⟩
        go_wp2_with fail
        go_ret
        exact ⟨rfl, (unhide HB5).trans (hb6.mono hle5)⟩
      | succ j =>
        have hjl : j < bs.length := by omega
        rw [show ((j + 1 : Nat) : Int) - 1 = (j : Int) by omega]
        have hpos : (0 : Int) ≤ (j : Int) := by omega
        have hlt2 : (j : Int) < (bs.length : Int) := by omega
        have i3 : IntKind.i64.wrap ((j : Int) - 1) = (j : Int) - 1 := by simp [IntKind.wrap, IntKind.bits, IntKind.signed]; omega
        have hq : OwnB 0 wr _ bs := own_below' (unhide HU3) (unhide hLb)
        obtain ⟨g', c', hv', hcell⟩ := row_nn (unhide HNB) hq
        cases hv'
        obtain ⟨p1, p2⟩ := bcells_get bs j hjl
        have hca := hcell _ _ p1
        have hcb := hcell _ _ p2
        rw [Addr.add_lit, Nat.zero_add] at hca hcb
        have hstep : Hid ((bs.drop j).reverse = (bs.drop (j + 1)).reverse ++ [bs.getD j noBx]) := by
          show _ = _
          rw [List.drop_eq_getElem_cons hjl, List.reverse_cons, List.getD_eq_getElem?_getD, List.getElem?_eq_getElem hjl]; rfl
        have hlen : (bs.drop (j + 1)).reverse.length ≤ 8 := by simp; omega
        clear hq hcell p1 p2
        generalize bs.getD j noBx = y at hca hcb hstep
        generalize hbk : (bs.drop (j + 1)).reverse = bk at *
        clear hbk
        go_wp2_with (at_builtin; refine wpList_append_own _ rfl _ _ 36 rfl w3.heap.size 42 j0 (.agg #[.string ⟨#[]⟩, .string ⟨#[]⟩]) 2 32 underBx (unhide hJ).1 (unhide hJ).2.1 (unhide hJ).2.2.1 (unhide hJ).2.2.2 rfl (by decide) _ _ _ rfl (World.ownsRow.alloc (unhide hOb) _) ⟨wr.heap.size, 0, none⟩ 1 1 [.string y.1, .string y.2] rfl rfl ?c1 ?c2 ?c3 ?c4 ?c5 ?_)
        case c1 =>
          intro j u hj
          match j, hj with
          | 0, hj => simp at hj; subst hj; simp [Addr.add]
          | 1, hj => simp at hj; subst hj; simp [Addr.add]
        case c2 => intro u hu; simp at hu; rcases hu with rfl | rfl <;> rfl
        case c3 => unfold maxLen; omega
        case c4 => omega
        case c5 => simp; omega
        intro v' w4 hown' hgrow _
        have R : Hid (OwnB w3.heap.size w4 v' ((bs.drop j).reverse) ∧ Below w3.heap.size w3 w4) := by
          refine ⟨?_, ((unhide hLb).alloc hleL _).grown hgrow (by simp; omega) (fun k hk => (World.ownsRow.lt (unhide hOb) k hk).1)⟩
          rw [hstep.out]
          unfold OwnB
          rw [List.length_append, bcells_snoc]
          exact hown'
        clear hown' hgrow hOb hLb hca hcb
        go_wp2_with fail
        go_roundw
        case rel => exact ⟨j, by omega, rfl, R.out.1, R.out.2⟩
        case measure => simp [intOf]
  | true =>
    obtain ⟨n1, n2, n3⟩ := has_open HBV.out (by omega)
    have N1 : Hid ((okAll (knwOpen xs bs) && Kw.ok s && can (knwOpen xs bs) s) = true) := by show _ = _; rw [n1, n2, n3]; rfl
    have N2 : Hid (∀ x ∈ knwOpen xs bs, x.size ≤ maxLen) := fun x hx => okm ((okAll_iff.1 n1).2 x hx)
    clear n1 n2 n3
    go_wp2_with fail
    refine (iKnwOpen_any _ _ xs bs _ (Own.srow (unhide HO3)) (OwnB.brow (unhide HU3)) (unhide HX) (unhide HY)).mono ?_
    rintro e w4 ⟨r4, rfl, ho4, hb4⟩
    obtain ⟨ro4, rc4, hr4⟩ := row_form' ho4
    subst hr4
    have HB4' := hide ((unhide HB3).trans (hb4.mono hle3))
    have hle4' := HB4'.out.size
    have HO4' := hide ((unhide HO3).below hb4)
    have HU4' : Hid (OwnB 0 w4 _ bs) := own_below' (unhide HU3) hb4
    have HT4 := hide (Own.srow ho4)
    clear ho4 hb4 HO3 HU3
    go_wp2_with fail
    refine (iKnwMake_any _ (knwOpen xs bs) s _ (unhide HT4) (unhide N2) M.out).mono ?_
    rw [N1.out]
    rintro e w5' ⟨rfl, hb5'⟩
    have HB5' := hide ((unhide HB4').trans (hb5'.mono hle4'))
    have hle5' := HB5'.out.size
    have HO5' := hide ((unhide HO4').below hb5')
    have HU5' : Hid (OwnB 0 w5' _ bs) := own_below' (unhide HU4') hb5'
    clear hb5' HO4' HU4' HT4 N1 N2
    go_wp2_with fail
    have hO0 : Hid (OwnB w5'.heap.size (w5'.alloc (.cells #[] 42)) (.slice (some ⟨w5'.heap.size, 0, none⟩) 0 0) ((bs.drop bs.length).reverse)) := by
      rw [List.drop_length]; exact World.ownsRow_made w5' #[] 0 (Nat.le_refl _) (by omega) rfl
    have hL0 : Hid (Below w5'.heap.size w5' (w5'.alloc (.cells #[] 42))) := (Below.refl _ _).alloc (Nat.le_refl _) _
    go_loopw [7, 8] (fun o i wr => ∃ j : Nat, j ≤ bs.length ∧ i = .int .i64 ((j : Int) - 1) ∧ Hid (OwnB w5'.heap.size wr o ((bs.drop j).reverse)) ∧ Hid (Below w5'.heap.size w5' wr)) (fun _ i _ => ((intOf i) + 1).toNat)
    case atStart => exact ⟨bs.length, Nat.le_refl _, rfl, hO0, hL0⟩
    case round =>
      clear hO0 hL0
      obtain ⟨j, hj, rfl, hOb, hLb⟩ := hrel
      have hleL := hLb.out.size
      cases j with
      | zero =>
        rw [List.drop_zero] at hOb
        rw [show ((0 : Nat) : Int) - 1 = -1 from rfl]
        obtain ⟨ro, rc, hr⟩ := row_form' (unhide hOb)
        subst hr
        rw [List.length_reverse] at hOb ⊢
        have HB4 := hide ((unhide HB5').trans ((unhide hLb).mono hle5'))
        have hle4 := HB4.out.size
        have HO4 := hide ((unhide HO5').below (unhide hLb))
        have HU4 : Hid (OwnB 0 wr _ bs) := own_below' (unhide HU5') (unhide hLb)
        have HK4 := hide (OwnB.brow (unhide hOb))
        have HYr : Hid (∀ b ∈ bs.reverse, b.1.size ≤ maxLen ∧ b.2.size ≤ maxLen) := fun b hb => HY.out b (by simpa using hb)
        clear hOb hLb HO5' HU5'
        go_wp2_with fail
        refine (iKnwHas_any _ _ xs bs.reverse s _ (Own.srow (unhide HO4)) (unhide HK4) (unhide HX) (unhide HYr) M.out).mono ?_
        rw [has_back, HBV.out]
        rintro e w5 ⟨rfl, hb5⟩
        have HB5 := hide ((unhide HB4).trans (hb5.mono hle4))
        have hle5 := HB5.out.size
        have HO5 := hide ((unhide HO4).below hb5)
        have HU5 : Hid (OwnB 0 w5 _ bs) := own_below' (unhide HU4) hb5
        clear hb5 HO4 HU4 HK4
        go_wp2_with (at_builtin; refine wpList_append_own _ rfl _ _ 23 rfl w5.heap.size 9 i0 (.string ⟨#[]⟩) 1 16 Try.underlying23 (unhide hI).1 (unhide hI).2.1 (unhide hI).2.2.1 (unhide hI).2.2.2 rfl (by decide) _ _ _ rfl (own_empty w5.heap.size w5 (Nat.le_refl _)) ⟨g, 0, none⟩ xs.length vc (xs.map Value.string) rfl ?l1 ?c1 (strs_one _) ?c3 ?c4 ?c5 ?_)
        case l1 => simp
        case c1 =>
          have hq := (unhide HO5).below ((Below.refl w5.heap.size w5).alloc (Nat.le_refl _) (.cells #[] 9))
          obtain ⟨g', c', hv', hcell⟩ := row_nn (unhide HNN) hq
          cases hv'
          exact hcell
        case c3 => (try simp only [List.length_nil]); unfold maxLen; omega
        case c4 => (try simp only [List.length_nil]); omega
        case c5 => simp
        intro vA w6 hown1 hgrow1 _
        have hA : Hid (Own w5.heap.size w6 vA xs ∧ Below w5.heap.size w5 w6) := by
          refine ⟨?_, ((Below.refl w5.heap.size w5).alloc (Nat.le_refl _) _).grown hgrow1 (by simp) (fun k hk => by cases hk; exact Nat.le_refl _)⟩
          unfold Own
          simpa using hown1
        obtain ⟨vAo, vAc, hvA⟩ := row_form' hA.out.1
        subst hvA
        have hleA := hA.out.2.size
        clear hown1 hgrow1
        go_wp2_with (at_builtin; refine wpList_append_own _ rfl _ _ 23 rfl w5.heap.size 9 i0 (.string ⟨#[]⟩) 1 16 Try.underlying23 (unhide hI).1 (unhide hI).2.1 (unhide hI).2.2.1 (unhide hI).2.2.2 rfl (by decide) _ _ _ rfl (World.ownsRow.alloc hA.out.1 _) ⟨w6.heap.size, 0, none⟩ 1 1 [.string ⟨#[72, 57, 59]⟩] rfl rfl ?c1 ?c2 ?c3 ?c4 ?c5 ?_)
        case c1 =>
          intro j u hj
          match j, hj with
          | 0, hj => simp at hj; subst hj; simp [Addr.add]
        case c2 => intro u hu; simp at hu; subst hu; rfl
        case c3 => unfold maxLen; omega
        case c4 => omega
        case c5 => simp; omega
        intro vB w7 hown2 hgrow2 _
        obtain ⟨vBo, vBc, hvB⟩ := row_form' hown2
        subst hvB
        have hB' : Hid (Own w5.heap.size w7 (.slice vBo (xs.length + 1) vBc) (xs ++ [⟨#[72, 57, 59]⟩]) ∧ Below w5.heap.size w5 w7) := by
          refine ⟨?_, (hA.out.2.alloc hleA _).grown hgrow2 (by simp; omega) (fun k hk => (World.ownsRow.lt hA.out.1 k hk).1)⟩
          unfold Own
          rw [List.length_append, List.map_append]
          exact hown2
        have hleB := hB'.out.2.size
        clear hown2 hgrow2 hA
        go_wp2_with (at_builtin; refine wpList_append_own _ rfl _ _ 36 rfl w7.heap.size 42 j0 (.agg #[.string ⟨#[]⟩, .string ⟨#[]⟩]) 2 32 underBx (unhide hJ).1 (unhide hJ).2.1 (unhide hJ).2.2.1 (unhide hJ).2.2.2 rfl (by decide) _ _ _ rfl (World.ownsRow_made w7 #[] 0 (Nat.le_refl _) (by omega) rfl) ⟨gb, 0, none⟩ bs.length uc (bcells bs) rfl (bcells_len bs) ?c1 (bcells_one _) ?c3 ?c4 ?c5 ?_)
        case c1 =>
          have hq : OwnB 0 (w7.alloc (.cells #[] 42)) _ bs := own_below' (own_below' (unhide HU5) hB'.out.2) ((Below.refl w7.heap.size w7).alloc (Nat.le_refl _) (.cells #[] 42))
          obtain ⟨g', c', hv', hcell⟩ := row_nn (unhide HNB) hq
          cases hv'
          exact hcell
        case c3 => unfold maxLen; omega
        case c4 => omega
        case c5 => simp
        intro vC w8 hown3 hgrow3 _
        have hC : Hid (OwnB w7.heap.size w8 vC bs ∧ Below w7.heap.size w7 w8) := by
          refine ⟨?_, ((Below.refl w7.heap.size w7).alloc (Nat.le_refl _) _).grown hgrow3 (by simp) (fun k hk => by cases hk; exact Nat.le_refl _)⟩
          unfold OwnB
          simpa using hown3
        obtain ⟨vCo, vCc, hvC⟩ := row_form' hC.out.1
        subst hvC
        have hleC := hC.out.2.size
        clear hown3 hgrow3
        go_wp2_with (at_builtin; refine wpList_append_own _ rfl _ _ 36 rfl w7.heap.size 42 j0 (.agg #[.string ⟨#[]⟩, .string ⟨#[]⟩]) 2 32 underBx (unhide hJ).1 (unhide hJ).2.1 (unhide hJ).2.2.1 (unhide hJ).2.2.2 rfl (by decide) _ _ _ rfl (World.ownsRow.alloc hC.out.1 _) ⟨w8.heap.size, 0, none⟩ 1 1 [.string ⟨#[107, 72, 56, 59]⟩, .string ⟨#[72, 55, 59]⟩] rfl rfl ?c1 ?c2 ?c3 ?c4 ?c5 ?_)
        case c1 =>
          intro j u hj
          match j, hj with
          | 0, hj => simp at hj; subst hj; simp [Addr.add]
          | 1, hj => simp at hj; subst hj; simp [Addr.add]
        case c2 => intro u hu; simp at hu; rcases hu with rfl | rfl <;> rfl
        case c3 => unfold maxLen; omega
        case c4 => omega
        case c5 => simp; omega
        intro vD w9 hown4 hgrow4 _
        obtain ⟨vDo, vDc, hvD⟩ := row_form' hown4
        subst hvD
        have hD' : Hid (OwnB w7.heap.size w9 (.slice vDo (bs.length + 1) vDc) (bs ++ [(⟨#[107, 72, 56, 59]⟩, ⟨#[72, 55, 59]⟩)]) ∧ Below w7.heap.size w7 w9) := by
          refine ⟨?_, (hC.out.2.alloc hleC _).grown hgrow4 (by simp; omega) (fun k hk => (World.ownsRow.lt hC.out.1 k hk).1)⟩
          unfold OwnB
          rw [List.length_append, bcells_snoc]
          exact hown4
        have hleD := hD'.out.2.size
        clear hown4 hgrow4 hC
        have k1 : Kw.ok ⟨#[72, 57, 59]⟩ = true := by decide +kernel
        have k2 : Kw.ok ⟨#[107, 72, 56, 59]⟩ = true := by decide +kernel
        have k3 : Kw.ok ⟨#[72, 55, 59]⟩ = true := by decide +kernel
        have hok : okAll xs = true ∧ okBoxes bs = true := by
          have := HBV.out
          unfold knwHas at this
          simp only [Bool.and_eq_true] at this
          exact this.1.1
        have HF : Hid (knwHas (xs ++ [⟨#[72, 57, 59]⟩]) (bs ++ [(⟨#[107, 72, 56, 59]⟩, ⟨#[72, 55, 59]⟩)]) s = true) := by
          refine has_more' HBV.out (okAll_iff.2 ⟨by simp; omega, fun x hx => ?_⟩) (okBoxes_iff.2 ⟨by simp; omega, fun x hx => ?_⟩)
          · rcases List.mem_append.1 hx with hx | hx
            · exact (okAll_iff.1 hok.1).2 x hx
            · simp at hx; subst hx; exact k1
          · rcases List.mem_append.1 hx with hx | hx
            · exact (okBoxes_iff.1 hok.2).2 x hx
            · simp at hx; subst hx; exact ⟨k2, k3⟩
        have HX2 : Hid (∀ x ∈ xs ++ [⟨#[72, 57, 59]⟩], x.size ≤ maxLen) := fun x hx => by
          rcases List.mem_append.1 hx with hx | hx
          · exact HX.out x hx
          · simp at hx; subst hx; exact okm k1
        have HY2 : Hid (∀ b ∈ bs ++ [((⟨#[107, 72, 56, 59]⟩ : ByteArray), (⟨#[72, 55, 59]⟩ : ByteArray))], b.1.size ≤ maxLen ∧ b.2.size ≤ maxLen) := fun b hb => by
          rcases List.mem_append.1 hb with hb | hb
          · exact HY.out b hb
          · simp at hb; subst hb; exact ⟨okm k2, okm k3⟩
        have HS9 := hide (SRow.below (Own.srow hB'.out.1) hD'.out.2)
        have HT9 := hide (OwnB.brow hD'.out.1)
        have HB9 := hide ((unhide HB5).trans ((hB'.out.2.trans (hD'.out.2.mono hleB)).mono hle5))
        have hle9 := HB9.out.size
        clear k1 k2 k3 hok hB' hD' HO5 HU5
        go_wp2_with fail
        refine (iKnwHas_any _ _ (xs ++ [⟨#[72, 57, 59]⟩]) (bs ++ [(⟨#[107, 72, 56, 59]⟩, ⟨#[72, 55, 59]⟩)]) s _ (unhide HS9) (unhide HT9) (unhide HX2) (unhide HY2) M.out).mono ?_
        rw [HF.out]
        rintro e w10 ⟨rfl, hb10⟩
        go_wp2_with fail
        go_ret
        exact ⟨rfl, (unhide HB9).trans (hb10.mono hle9)⟩
      | succ j =>
        have hjl : j < bs.length := by omega
        rw [show ((j + 1 : Nat) : Int) - 1 = (j : Int) by omega]
        have hpos : (0 : Int) ≤ (j : Int) := by omega
        have hlt2 : (j : Int) < (bs.length : Int) := by omega
        have i3 : IntKind.i64.wrap ((j : Int) - 1) = (j : Int) - 1 := by simp [IntKind.wrap, IntKind.bits, IntKind.signed]; omega
        have hq : OwnB 0 wr _ bs := own_below' (unhide HU5') (unhide hLb)
        obtain ⟨g', c', hv', hcell⟩ := row_nn (unhide HNB) hq
        cases hv'
        obtain ⟨p1, p2⟩ := bcells_get bs j hjl
        have hca := hcell _ _ p1
        have hcb := hcell _ _ p2
        rw [Addr.add_lit, Nat.zero_add] at hca hcb
        have hstep : Hid ((bs.drop j).reverse = (bs.drop (j + 1)).reverse ++ [bs.getD j noBx]) := by
          show _ = _
          rw [List.drop_eq_getElem_cons hjl, List.reverse_cons, List.getD_eq_getElem?_getD, List.getElem?_eq_getElem hjl]; rfl
        have hlen : (bs.drop (j + 1)).reverse.length ≤ 8 := by simp; omega
        clear hq hcell p1 p2
        generalize bs.getD j noBx = y at hca hcb hstep
        generalize hbk : (bs.drop (j + 1)).reverse = bk at *
        clear hbk
        go_wp2_with (at_builtin; refine wpList_append_own _ rfl _ _ 36 rfl w5'.heap.size 42 j0 (.agg #[.string ⟨#[]⟩, .string ⟨#[]⟩]) 2 32 underBx (unhide hJ).1 (unhide hJ).2.1 (unhide hJ).2.2.1 (unhide hJ).2.2.2 rfl (by decide) _ _ _ rfl (World.ownsRow.alloc (unhide hOb) _) ⟨wr.heap.size, 0, none⟩ 1 1 [.string y.1, .string y.2] rfl rfl ?c1 ?c2 ?c3 ?c4 ?c5 ?_)
        case c1 =>
          intro j u hj
          match j, hj with
          | 0, hj => simp at hj; subst hj; simp [Addr.add]
          | 1, hj => simp at hj; subst hj; simp [Addr.add]
        case c2 => intro u hu; simp at hu; rcases hu with rfl | rfl <;> rfl
        case c3 => unfold maxLen; omega
        case c4 => omega
        case c5 => simp; omega
        intro v' w4 hown' hgrow _
        have R : Hid (OwnB w5'.heap.size w4 v' ((bs.drop j).reverse) ∧ Below w5'.heap.size w5' w4) := by
          refine ⟨?_, ((unhide hLb).alloc hleL _).grown hgrow (by simp; omega) (fun k hk => (World.ownsRow.lt (unhide hOb) k hk).1)⟩
          rw [hstep.out]
          unfold OwnB
          rw [List.length_append, bcells_snoc]
          exact hown'
        clear hown' hgrow hOb hLb hca hcb
        go_wp2_with fail
        go_roundw
        case rel => exact ⟨j, by omega, rfl, R.out.1, R.out.2⟩
        case measure => simp [intOf]

set_option maxRecDepth 100000 in
theorem lifted_FnKnwHas (os : Os) (started : os.Started) (H : Type) (enc : TypeId × Value → H) :
    ReturnsInHanded {} Try.checked os 6 .any (Rows.fnKnwHasSpec.pre6 enc Try.prog Try.f6 Rows.fnKnwHasRow.domain false) (Rows.fnKnwHasSpec.post enc Try.prog Try.f6 false true false false) := by
  refine returnsInHanded_of_change (C := Try.checked) own started (by kernel_rfl) Try.func6
    (ChangeSpec.witness6 (enc := enc) (C := Try.checked) false ⟨#[], #[.slice none 0 0], []⟩ 8 (by kernel_rfl) (by kernel_rfl) (by kernel_rfl) (by kernel_rfl)) ?_
  intro W base args ds gs before hval0 hW hcnd _
  have hval : ∀ (j : Nat) t v, Try.f6.params[j]? = some t → args[j]? = some v → Value.okWide Try.prog W .any base t v := hval0
  have hW' := hW
  obtain ⟨p, q, hA0, hV, rfl, hfz, hnd⟩ := hW
  have hA : DataW.TrodAll enc Try.prog W 0 (fun _ => true) true Try.f6.params.toList args.toList ds p := hA0
  rw [Try.params6] at hA hval
  obtain ⟨v0, vs0, d0, ds0, p0, q0, hargs, rfl, rfl, h0, r0⟩ := trodAll_cons hA
  obtain ⟨rfl, rfl, rfl⟩ := trodAll_nil r0
  obtain rfl : args = #[v0] := by cases args; simp_all
  obtain ⟨rfl, rfl⟩ := trodVars_none hV
  obtain ⟨a0, len0, cap0, rfl⟩ := okWide_slice Try.underlying22 (hval 0 22 v0 rfl rfl)
  have k0 := h0
  have lt0 : ∀ x ∈ p0, x.block < W.heap.size := by obtain ⟨m, hm⟩ := k0; exact DataW.trod_lt m _ _ _ hm
  obtain ⟨z0, w0⟩ : ∃ zs, IsRow .u8 W a0 len0 cap0 zs := by
    obtain ⟨fuel, hf⟩ := h0
    rcases open_ints Try.underlying22 Try.underlying5 (by kernel_rfl) hf with ⟨hcs, _⟩ | ⟨x, l, c, zs, hcs, _, hl, hm, hz, _, hcell, hwz⟩
    · simp [Value.cells] at hcs
      obtain ⟨rfl, rfl, rfl⟩ := hcs
      exact ⟨[], .inl ⟨rfl, rfl, rfl, rfl⟩⟩
    · simp [Value.cells] at hcs
      obtain ⟨rfl, rfl, rfl⟩ := hcs
      exact ⟨zs, .inr ⟨_, rfl, hl, hm, by simpa using hz, hcell, hwz⟩⟩
  clear hA0 hval0
  refine (walk_FnKnwHas a0 len0 cap0 z0 W w0).mono fun e W' ⟨he, bel⟩ => ?_
  subst he
  exact ⟨_, rfl, _, _, _, [], _, [], hW', trodAll_mk1 (shut_bool Try.underlying4 _), (trodAll_cons_mk (Below.trod laidOut (by kernel_rfl) (of_decide_eq_true (by kernel_rfl)) k0 bel lt0) trodAll_mk0), rfl, bel.frame _, fun h => by cases h⟩

theorem fnKnwHas_holds : Rows.FnKnwHasSaid :=
  OpenClaim.holds_of_wide 6 Try.f6 rfl rfl rfl rfl rfl rfl rfl ⟨rfl, rfl, rfl, rfl, rfl⟩ rfl rfl rfl rfl rfl (by kernel_rfl) Try.func6 (by kernel_rfl)
    (of_decide_eq_true (by kernel_rfl)) (by unfold Func.isWrapper; first | (rw [if_pos (by decide +kernel)]; kernel_rfl) | (rw [if_neg (by decide +kernel)]; exact ⟨rfl, rfl⟩))
    (fun os started H enc _ => lifted_FnKnwHas os started H enc)

#print axioms fnKnwHas_holds
end Go.Proofs.Ytjdpabiodalfkaa
