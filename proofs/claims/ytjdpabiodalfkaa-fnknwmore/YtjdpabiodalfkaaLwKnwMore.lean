/-
  Proved: of every two codes: knwOpen of what is known, and others, has all that KnwOpen of what is known has; and a secret twice makes no difference. No condition.
-/
import Derived.Test.YtjdpabiodalfkaaFrame
import Derived.Test.YtjdpabiodalfkaaSmallM
import Derived.Test.YtjdpabiodalfkaaKeHas
import Derived.Test.YtjdpabiodalfkaaKeTexts
import Derived.Test.YtjdpabiodalfkaaClos
namespace Go.Proofs.Ytjdpabiodalfkaa
open Go.ChangeShapes Go.WideShapes Go.ChangeAt Go.RowKit
open Go.ChangeMaps (open_string shut_string)
set_option linter.unusedVariables false

theorem knwOpen_twice (xs : List ByteArray) (bs : List Bx) (h : xs.length ≤ 200) : knwOpen (xs ++ xs) bs = knwOpen xs bs := by
  unfold knwOpen
  have e : okAll (xs ++ xs) = okAll xs := by
    rw [Bool.eq_iff_iff, okAll_iff, okAll_iff]
    constructor
    · rintro ⟨_, h2⟩
      exact ⟨by omega, fun x hx => h2 x (by simp [hx])⟩
    · rintro ⟨_, h2⟩
      exact ⟨by simp; omega, fun x hx => h2 x (by simpa using hx)⟩
  rw [e, openOf_twice]
theorem knwOpen_more (xs ys : List ByteArray) (bs : List Bx) (h : xs.length + ys.length ≤ 400) (hy : ∀ y ∈ ys, Kw.ok y = true) : ∀ x ∈ knwOpen xs bs, x ∈ knwOpen (xs ++ ys) bs := by
  intro x hx
  unfold knwOpen at hx ⊢
  by_cases hc : (okAll xs && okBoxes bs) = true
  · rw [if_pos hc] at hx
    rw [Bool.and_eq_true] at hc
    have h2 : okAll (xs ++ ys) = true := okAll_iff.2 ⟨by simp; omega, fun z hz => by
      rcases List.mem_append.1 hz with hz | hz
      · exact (okAll_iff.1 hc.1).2 z hz
      · exact hy z hz⟩
    rw [if_pos (by rw [h2, hc.2]; rfl)]
    exact openOf_more (fun z hz => by simp [hz]) (fun b hb => hb) x hx
  · rw [if_neg hc] at hx
    cases hx

set_option maxRecDepth 100000 in
set_option maxHeartbeats 2000000 in
theorem walk_FnKnwMore (a0 : Option Addr) (len0 cap0 : Nat) (z0 : List Int) (a1 : Option Addr) (len1 cap1 : Nat) (z1 : List Int) (w : World) (h0 : IsRow .u8 w a0 len0 cap0 z0) (h1 : IsRow .u8 w a1 len1 cap1 z1) :
    Calls Try.prog 9 #[.slice a0 len0 cap0, .slice a1 len1 cap1] w fun e w' => e = .returned (.bool true) ∧ Below w.heap.size w w' := by
  have hm0 : len0 ≤ 9223372036854775807 := by
    rcases h0 with ⟨_, rfl, _⟩ | ⟨x, _, q1, q2, _⟩
    · omega
    · unfold maxLen at q2; omega
  have hm1 : len1 ≤ 9223372036854775807 := by
    rcases h1 with ⟨_, rfl, _⟩ | ⟨x, _, q1, q2, _⟩
    · omega
    · unfold maxLen at q2; omega
  have HR0 := hide h0
  have HR1 := hide h1
  clear h0 h1
  by_cases hb : (1048576 : Int) < (len0 : Int)
  · go_enter Try.func9, Try.ntmps9
    go_wp2_with fail
    go_ret
    exact ⟨rfl, Below.refl _ _⟩
  have hb2 : decide ((1048576 : Int) < (len0 : Int)) = false := by simpa using hb
  clear hb
  by_cases hb : (1048576 : Int) < (len1 : Int)
  · go_enter Try.func9, Try.ntmps9
    go_wp2_with fail
    go_ret
    exact ⟨rfl, Below.refl _ _⟩
  have hb3 : decide ((1048576 : Int) < (len1 : Int)) = false := by simpa using hb
  clear hb
  obtain ⟨i0, hi, hz0, hz1, hz2⟩ := info_parts info_str2
  have hI := hide (And.intro hi (And.intro hz0 (And.intro hz1 hz2)))
  clear hi hz0 hz1 hz2
  go_enter Try.func9, Try.ntmps9
  go_wp2_with fail
  refine (DrawKnwOpen_any a0 len0 cap0 z0 _ (unhide HR0)).mono ?_
  rintro e w1 ⟨v, u, xs, bs, rfl, hnn, _, hO, hOB, hl, hlb, hsm, hsmb, hb1⟩
  have HB1 := hide hb1
  have hle1 := hb1.size
  have HO1 : Hid (Own 0 w1 v xs) := row_low hO (Nat.zero_le _)
  have HU1 := hide hOB.brow
  have HX := hide (smallm hsm)
  have HY := hide (smallB_max hsmb)
  obtain ⟨g, vc, hv, _⟩ := row_nn hnn hO
  obtain ⟨bo, uc, hu⟩ := row_form' hOB
  subst hv
  subst hu
  have HNN := hide hnn
  clear hb1 hO hsm hOB hsmb hnn
  go_wp2_with fail
  refine (DrawKnwOpen_any a1 len1 cap1 z1 _ (by
    rcases (unhide HR1) with q | ⟨x, q1, q2, q3, q4, q5, q6⟩
    · exact .inl q
    · exact .inr ⟨x, q1, q2, q3, q4, fun i hi => ((unhide HB1).cell (cell_lt (q5 i hi))).trans (q5 i hi), q6⟩)).mono ?_
  rintro e w2 ⟨v2, u2, ys, cs, rfl, hnn2, _, hO2, hOB2, hl2, hlb2, hsm2, hsmb2, hb2'⟩
  have HB2 := hide ((unhide HB1).trans (hb2'.mono hle1))
  have hle2 := HB2.out.size
  have HO2 := hide ((unhide HO1).below hb2')
  have HU2 := hide (BRow.below (unhide HU1) hb2')
  have HP2 : Hid (Own 0 w2 v2 ys) := row_low hO2 (Nat.zero_le _)
  have HZ := hide (smallm hsm2)
  obtain ⟨g2, vc2, hv2, _⟩ := row_nn hnn2 hO2
  obtain ⟨bo2, uc2, hu2⟩ := row_form' hOB2
  subst hv2
  subst hu2
  have HNN2 := hide hnn2
  clear hb2' hO2 hsm2 hOB2 hsmb2 hnn2 HO1 HU1
  go_wp2_with fail
  refine (iKnwOpen_any _ _ xs bs _ (Own.srow (unhide HO2)) (unhide HU2) (unhide HX) (unhide HY)).mono ?_
  rintro e w3 ⟨r, rfl, ho3, hb3'⟩
  obtain ⟨ro, rc, hr⟩ := row_form' ho3
  subst hr
  have HB3 := hide ((unhide HB2).trans (hb3'.mono hle2))
  have hle3 := HB3.out.size
  have HO3 := hide ((unhide HO2).below hb3')
  have HP3 := hide ((unhide HP2).below hb3')
  have HU3 := hide (BRow.below (unhide HU2) hb3')
  have HQ3 := hide (Own.srow ho3)
  clear ho3 hb3' HO2 HP2 HU2
  go_wp2_with fail
  refine (sKnwOpen_any _ _ xs bs _ (Own.srow (unhide HO3)) (unhide HU3) (unhide HX) (unhide HY)).mono ?_
  rintro e w4 ⟨r4, rfl, ho4, hb4⟩
  obtain ⟨ro4, rc4, hr4⟩ := row_form' ho4
  subst hr4
  have HB4 := hide ((unhide HB3).trans (hb4.mono hle3))
  have hle4 := HB4.out.size
  have HO4 := hide ((unhide HO3).below hb4)
  have HP4 := hide ((unhide HP3).below hb4)
  have HU4 := hide (BRow.below (unhide HU3) hb4)
  have HQ4 := hide (SRow.below (unhide HQ3) hb4)
  have HT4 := hide (Own.srow ho4)
  clear ho4 hb4 HO3 HP3 HU3 HQ3
  go_wp2_with fail
  refine (keTexts_any _ _ (knwOpen xs bs) (knwOpen xs bs) _ (unhide HQ4) (unhide HT4)).mono ?_
  rw [show decide (knwOpen xs bs = knwOpen xs bs) = true by simp]
  rintro e w5 ⟨rfl, hb5⟩
  have HB5 := hide ((unhide HB4).trans (hb5.mono hle4))
  have hle5 := HB5.out.size
  have HO5 := hide ((unhide HO4).below hb5)
  have HP5 := hide ((unhide HP4).below hb5)
  have HU5 := hide (BRow.below (unhide HU4) hb5)
  have HQ5 := hide (SRow.below (unhide HQ4) hb5)
  clear hb5 HO4 HP4 HU4 HQ4 HT4
  have hkl : (knwOpen xs bs).length ≤ 13 := by
    unfold knwOpen
    split
    · have := @openOf_size xs bs; omega
    · simp
  have HK : Hid (∀ x ∈ knwOpen xs bs, ys.all Kw.ok = true → x ∈ knwOpen (xs ++ ys) bs) := fun x hx hy => knwOpen_more xs ys bs (by omega) (by simpa using hy) x hx
  have HT := hide (knwOpen_twice xs bs (by omega))
  generalize hko : knwOpen xs bs = ko at *
  clear hko
  go_wp2_with fail
  go_loopw [10] (fun i wr => ∃ k : Nat, k ≤ ys.length ∧ i = .int .i64 (k : Int) ∧ Hid (∀ j, j < k → Kw.ok (ys.getD j ByteArray.empty) = true) ∧ Hid (Below w5.heap.size w5 wr)) (fun i _ => ys.length - (intOf i).toNat)
  case atStart => exact ⟨0, by omega, rfl, fun j hj => by omega, Below.refl _ _⟩
  case round =>
    obtain ⟨k, hk, rfl, hN, hL⟩ := hrel
    have hleL := hL.out.size
    by_cases hlt : k < ys.length
    · have hlt2 : (k : Int) < (ys.length : Int) := by omega
      have hc := (unhide HP5).below (unhide hL)
      obtain ⟨g', c', hv', hcell⟩ := row_nn (unhide HNN2) hc
      cases hv'
      have hck : wr.cell? ((⟨g2, 0, none⟩ : Addr).add k) = some (.string (ys.getD k ByteArray.empty)) := hcell k _ (by rw [List.getElem?_map, List.getElem?_eq_getElem hlt, List.getD_eq_getElem?_getD, List.getElem?_eq_getElem hlt]; rfl)
      rw [Addr.add_lit, Nat.zero_add] at hck
      have M : Hid ((ys.getD k ByteArray.empty).size ≤ maxLen) := HZ.out _ (getD_mem hlt)
      have i3 : IntKind.i64.wrap ((k : Int) + 1) = (k : Int) + 1 := by simp [IntKind.wrap, IntKind.bits, IntKind.signed]; omega
      have hYes : Hid (Kw.ok (ys.getD k ByteArray.empty) = true → ∀ j, j < k + 1 → Kw.ok (ys.getD j ByteArray.empty) = true) := by
        intro ht j hj
        by_cases hjk : j = k
        · subst hjk; exact ht
        · exact hN j (by omega)
      clear hc hcell
      generalize ys.getD k ByteArray.empty = y at hck M hYes
      go_wp2_with fail
      refine (sSecOk_any y _ M.out).mono ?_
      cases hy : Kw.ok y with
      | false =>
        rintro e w6 ⟨rfl, hb6⟩
        have HB6 := hide ((unhide HB5).trans (((unhide hL).trans (hb6.mono hleL)).mono hle5))
        have hle6 := HB6.out.size
        clear hb6 hy
        go_wp2_with fail
        refine (keOk_any _).mono ?_
        rintro e w7 ⟨rfl, hb7⟩
        go_wp2_with fail
        go_ret
        exact ⟨rfl, (unhide HB6).trans (hb7.mono hle6)⟩
      | true =>
        rintro e w6 ⟨rfl, hb6⟩
        have hL6 := hide ((unhide hL).trans (hb6.mono hleL))
        have hN1 := hide (hYes.out hy)
        clear hb6 hy hck
        go_wp2_with fail
        go_roundw
        case rel => exact ⟨k + 1, by omega, by simp, hN1, hL6⟩
        case measure => simp [intOf]; omega
    · have hlt2 : decide ((k : Int) < (ys.length : Int)) = false := by simp; omega
      have hys : Hid (ys.all Kw.ok = true) := by
        show _ = _
        rw [List.all_eq_true]
        intro y hy
        obtain ⟨j, hj, e⟩ := mem_getD hy
        rw [← e]; exact hN.out j (by omega)
      have HB6 := hide ((unhide HB5).trans ((unhide hL).mono hle5))
      have HO6 := hide ((unhide HO5).below (unhide hL))
      have HP6 := hide ((unhide HP5).below (unhide hL))
      have HU6 := hide (BRow.below (unhide HU5) (unhide hL))
      have HQ6 := hide (SRow.below (unhide HQ5) (unhide hL))
      have hle6 := HB6.out.size
      have HKK : Hid (∀ x ∈ ko, x ∈ knwOpen (xs ++ ys) bs) := fun x hx => HK.out x hx hys.out
      clear hN hL hleL HO5 HP5 HU5 HQ5 HK
      go_wp2_with (at_builtin; refine wpList_append_own _ rfl _ _ 23 rfl wr.heap.size 9 i0 (.string ⟨#[]⟩) 1 16 Try.underlying23 (unhide hI).1 (unhide hI).2.1 (unhide hI).2.2.1 (unhide hI).2.2.2 rfl (by decide) _ _ _ rfl (own_empty wr.heap.size wr (Nat.le_refl _)) ⟨g, 0, none⟩ xs.length vc (xs.map Value.string) rfl ?l1 ?c1 (strs_one _) ?c3 ?c4 ?c5 ?_)
      case l1 => simp
      case c1 =>
        have hq := (unhide HO6).below ((Below.refl wr.heap.size wr).alloc (Nat.le_refl _) (.cells #[] 9))
        obtain ⟨g', c', hv', hcell⟩ := row_nn (unhide HNN) hq
        cases hv'
        exact hcell
      case c3 => (try simp only [List.length_nil]); unfold maxLen; omega
      case c4 => (try simp only [List.length_nil]); omega
      case c5 => simp
      intro vA w7 hown1 hgrow1 _
      have hA : Hid (Own wr.heap.size w7 vA xs ∧ Below wr.heap.size wr w7) := by
        refine ⟨?_, ((Below.refl wr.heap.size wr).alloc (Nat.le_refl _) _).grown hgrow1 (by simp) (fun k hk => by cases hk; exact Nat.le_refl _)⟩
        unfold Own
        simpa using hown1
      obtain ⟨vAo, vAc, hvA⟩ := row_form' hA.out.1
      subst hvA
      have hleA := hA.out.2.size
      clear hown1 hgrow1
      go_wp2_with (at_builtin; refine wpList_append_own _ rfl _ _ 23 rfl wr.heap.size 9 i0 (.string ⟨#[]⟩) 1 16 Try.underlying23 (unhide hI).1 (unhide hI).2.1 (unhide hI).2.2.1 (unhide hI).2.2.2 rfl (by decide) _ _ _ rfl hA.out.1 ⟨g2, 0, none⟩ ys.length vc2 (ys.map Value.string) rfl ?l1 ?c1 (strs_one _) ?c3 ?c4 ?c5 ?_)
      case l1 => simp
      case c1 =>
        have hq := (unhide HP6).below hA.out.2
        obtain ⟨g', c', hv', hcell⟩ := row_nn (unhide HNN2) hq
        cases hv'
        exact hcell
      case c3 => (try simp only [List.length_nil]); unfold maxLen; omega
      case c4 => (try simp only [List.length_nil]); omega
      case c5 => exact hleA
      intro vB w8 hown2 hgrow2 _
      obtain ⟨vBo, vBc, hvB⟩ := row_form' hown2
      subst hvB
      have hB' : Hid (Own wr.heap.size w8 (.slice vBo (xs.length + ys.length) vBc) (xs ++ ys) ∧ Below wr.heap.size wr w8) := by
        refine ⟨?_, hA.out.2.grown hgrow2 hleA (fun k hk => (World.ownsRow.lt hA.out.1 k hk).1)⟩
        unfold Own
        rw [List.length_append, List.map_append]
        exact hown2
      have hleB := hB'.out.2.size
      clear hown2 hgrow2 hA
      have HB8 := hide ((unhide HB6).trans (hB'.out.2.mono hle6))
      have hle8 := HB8.out.size
      have HO8 := hide ((unhide HO6).below hB'.out.2)
      have HU8 := hide (BRow.below (unhide HU6) hB'.out.2)
      have HQ8 := hide (SRow.below (unhide HQ6) hB'.out.2)
      have HZ8 : Hid (∀ x ∈ xs ++ ys, x.size ≤ maxLen) := fun x hx => by
        rcases List.mem_append.1 hx with hx | hx
        · exact HX.out x hx
        · exact HZ.out x hx
      go_wp2_with fail
      refine (iKnwOpen_any _ _ (xs ++ ys) bs _ (Own.srow hB'.out.1) (unhide HU8) (unhide HZ8) (unhide HY)).mono ?_
      rintro e w9 ⟨r9, rfl, ho9, hb9⟩
      obtain ⟨ro9, rc9, hr9⟩ := row_form' ho9
      subst hr9
      have HB9 := hide ((unhide HB8).trans (hb9.mono hle8))
      have hle9 := HB9.out.size
      have HO9 := hide ((unhide HO8).below hb9)
      have HU9 := hide (BRow.below (unhide HU8) hb9)
      have HQ9 := hide (SRow.below (unhide HQ8) hb9)
      have HA9 := hide (Own.srow ho9)
      clear ho9 hb9 hB' HO8 HU8 HQ8 HO6 HP6 HU6 HQ6
      go_wp2_with fail
      go_loopw [12] (fun i wr => ∃ k : Nat, k ≤ ko.length ∧ i = .int .i64 (k : Int) ∧ Hid (Below w9.heap.size w9 wr)) (fun i _ => ko.length - (intOf i).toNat)
      case atStart => exact ⟨0, by omega, rfl, Below.refl _ _⟩
      case round =>
        obtain ⟨k2, hk2, rfl, hL2⟩ := hrel
        have hleL2 := hL2.out.size
        by_cases hlt' : k2 < ko.length
        · have hlt3 : (k2 : Int) < (ko.length : Int) := by omega
          obtain ⟨ao', c1, q1, _, _, q2⟩ := (SRow.below (unhide HQ9) (unhide hL2)).form
          simp only [Value.slice.injEq] at q1
          obtain ⟨rfl, _, rfl⟩ := q1
          obtain ⟨ad, rfl, hck⟩ := q2 k2 hlt'
          clear q2
          have hin : Hid (has (knwOpen (xs ++ ys) bs) (ko.getD k2 ByteArray.empty) = true) := has_iff.2 (HKK.out _ (getD_mem hlt'))
          have i3 : IntKind.i64.wrap ((k2 : Int) + 1) = (k2 : Int) + 1 := by simp [IntKind.wrap, IntKind.bits, IntKind.signed]; omega
          generalize ko.getD k2 ByteArray.empty = y at hck hin
          go_wp2_with fail
          refine (keHas_any _ (knwOpen (xs ++ ys) bs) y _ (SRow.below (unhide HA9) (unhide hL2))).mono ?_
          rw [hin.out]
          rintro e w10 ⟨rfl, hb10⟩
          have hL10 := hide ((unhide hL2).trans (hb10.mono hleL2))
          clear hb10 hck hL2
          go_wp2_with fail
          go_roundw
          case rel => exact ⟨k2 + 1, by omega, by simp, hL10⟩
          case measure => simp [intOf]; omega
        · have hlt3 : decide ((k2 : Int) < (ko.length : Int)) = false := by simp; omega
          have HB10 := hide ((unhide HB9).trans ((unhide hL2).mono hle9))
          have hle10 := HB10.out.size
          have HO10 := hide ((unhide HO9).below (unhide hL2))
          have HU10 := hide (BRow.below (unhide HU9) (unhide hL2))
          have HQ10 := hide (SRow.below (unhide HQ9) (unhide hL2))
          clear hL2 HO9 HU9 HQ9 HA9 hleL2
          go_wp2_with (at_builtin; refine wpList_append_own _ rfl _ _ 23 rfl wr.heap.size 9 i0 (.string ⟨#[]⟩) 1 16 Try.underlying23 (unhide hI).1 (unhide hI).2.1 (unhide hI).2.2.1 (unhide hI).2.2.2 rfl (by decide) _ _ _ rfl (own_empty wr.heap.size wr (Nat.le_refl _)) ⟨g, 0, none⟩ xs.length vc (xs.map Value.string) rfl ?l1 ?c1 (strs_one _) ?c3 ?c4 ?c5 ?_)
          case l1 => simp
          case c1 =>
            have hq := (unhide HO10).below ((Below.refl wr.heap.size wr).alloc (Nat.le_refl _) (.cells #[] 9))
            obtain ⟨g', c', hv', hcell⟩ := row_nn (unhide HNN) hq
            cases hv'
            exact hcell
          case c3 => (try simp only [List.length_nil]); unfold maxLen; omega
          case c4 => (try simp only [List.length_nil]); omega
          case c5 => simp
          intro vA w11 hown1 hgrow1 _
          have hA : Hid (Own wr.heap.size w11 vA xs ∧ Below wr.heap.size wr w11) := by
            refine ⟨?_, ((Below.refl wr.heap.size wr).alloc (Nat.le_refl _) _).grown hgrow1 (by simp) (fun k hk => by cases hk; exact Nat.le_refl _)⟩
            unfold Own
            simpa using hown1
          obtain ⟨vAo, vAc, hvA⟩ := row_form' hA.out.1
          subst hvA
          have hleA := hA.out.2.size
          clear hown1 hgrow1
          go_wp2_with (at_builtin; refine wpList_append_own _ rfl _ _ 23 rfl wr.heap.size 9 i0 (.string ⟨#[]⟩) 1 16 Try.underlying23 (unhide hI).1 (unhide hI).2.1 (unhide hI).2.2.1 (unhide hI).2.2.2 rfl (by decide) _ _ _ rfl hA.out.1 ⟨g, 0, none⟩ xs.length vc (xs.map Value.string) rfl ?l1 ?c1 (strs_one _) ?c3 ?c4 ?c5 ?_)
          case l1 => simp
          case c1 =>
            have hq := (unhide HO10).below hA.out.2
            obtain ⟨g', c', hv', hcell⟩ := row_nn (unhide HNN) hq
            cases hv'
            exact hcell
          case c3 => (try simp only [List.length_nil]); unfold maxLen; omega
          case c4 => (try simp only [List.length_nil]); omega
          case c5 => exact hleA
          intro vB w12 hown2 hgrow2 _
          obtain ⟨vBo, vBc, hvB⟩ := row_form' hown2
          subst hvB
          have hB' : Hid (Own wr.heap.size w12 (.slice vBo (xs.length + xs.length) vBc) (xs ++ xs) ∧ Below wr.heap.size wr w12) := by
            refine ⟨?_, hA.out.2.grown hgrow2 hleA (fun k hk => (World.ownsRow.lt hA.out.1 k hk).1)⟩
            unfold Own
            rw [List.length_append, List.map_append]
            exact hown2
          have hleB := hB'.out.2.size
          clear hown2 hgrow2 hA
          have HB12 := hide ((unhide HB10).trans (hB'.out.2.mono hle10))
          have hle12 := HB12.out.size
          have HU12 := hide (BRow.below (unhide HU10) hB'.out.2)
          have HQ12 := hide (SRow.below (unhide HQ10) hB'.out.2)
          have HZ12 : Hid (∀ x ∈ xs ++ xs, x.size ≤ maxLen) := fun x hx => by
            rcases List.mem_append.1 hx with hx | hx
            · exact HX.out x hx
            · exact HX.out x hx
          go_wp2_with fail
          refine (iKnwOpen_any _ _ (xs ++ xs) bs _ (Own.srow hB'.out.1) (unhide HU12) (unhide HZ12) (unhide HY)).mono ?_
          rw [HT.out]
          rintro e w13 ⟨r13, rfl, ho13, hb13⟩
          obtain ⟨ro13, rc13, hr13⟩ := row_form' ho13
          subst hr13
          have HB13 := hide ((unhide HB12).trans (hb13.mono hle12))
          have hle13 := HB13.out.size
          have HQ13 := hide (SRow.below (unhide HQ12) hb13)
          have HA13 := hide (Own.srow ho13)
          clear ho13 hb13 hB' HU12 HQ12
          go_wp2_with fail
          refine (keTexts_any _ _ ko ko _ (unhide HA13) (unhide HQ13)).mono ?_
          rw [show decide (ko = ko) = true by simp]
          rintro e w14 ⟨rfl, hb14⟩
          have HB14 := hide ((unhide HB13).trans (hb14.mono hle13))
          have hle14 := HB14.out.size
          clear hb14
          go_wp2_with fail
          refine (keOk_any _).mono ?_
          rintro e w15 ⟨rfl, hb15⟩
          go_wp2_with fail
          go_ret
          exact ⟨rfl, (unhide HB14).trans (hb15.mono hle14)⟩

set_option maxRecDepth 100000 in
theorem lifted_FnKnwMore (os : Os) (started : os.Started) (H : Type) (enc : TypeId × Value → H) :
    ReturnsInHanded {} Try.checked os 9 .any (Rows.fnKnwMoreSpec.pre6 enc Try.prog Try.f9 Rows.fnKnwMoreRow.domain false) (Rows.fnKnwMoreSpec.post enc Try.prog Try.f9 false true false false) := by
  refine returnsInHanded_of_change (C := Try.checked) own started (by kernel_rfl) Try.func9
    (ChangeSpec.witness6 (enc := enc) (C := Try.checked) false ⟨#[], #[.slice none 0 0, .slice none 0 0], []⟩ 8 (by kernel_rfl) (by kernel_rfl) (by kernel_rfl) (by kernel_rfl)) ?_
  intro W base args ds gs before hval0 hW hcnd _
  have hval : ∀ (j : Nat) t v, Try.f9.params[j]? = some t → args[j]? = some v → Value.okWide Try.prog W .any base t v := hval0
  have hW' := hW
  obtain ⟨p, q, hA0, hV, rfl, hfz, hnd⟩ := hW
  have hA : DataW.TrodAll enc Try.prog W 0 (fun _ => true) true Try.f9.params.toList args.toList ds p := hA0
  rw [Try.params9] at hA hval
  obtain ⟨v0, vs0, d0, ds0, p0, q0, hargs, rfl, rfl, h0, r0⟩ := trodAll_cons hA
  obtain ⟨v1, vs1, d1, ds1, p1, q1, rfl, rfl, rfl, h1, r1⟩ := trodAll_cons r0
  obtain ⟨rfl, rfl, rfl⟩ := trodAll_nil r1
  obtain rfl : args = #[v0, v1] := by cases args; simp_all
  obtain ⟨rfl, rfl⟩ := trodVars_none hV
  obtain ⟨a0, len0, cap0, rfl⟩ := okWide_slice Try.underlying22 (hval 0 22 v0 rfl rfl)
  have k0 := h0
  have lt0 : ∀ x ∈ p0, x.block < W.heap.size := by obtain ⟨m, hm⟩ := k0; exact DataW.trod_lt m _ _ _ hm
  obtain ⟨z0, w0⟩ : ∃ zs, IsRow .u8 W a0 len0 cap0 zs := by
    obtain ⟨fuel, hf⟩ := h0
    rcases open_ints Try.underlying22 Try.underlying5 (by kernel_rfl) hf with ⟨hcs, _⟩ | ⟨x, l, c, zs, hcs, _, hl, hm, hz, _, hcell, hwz⟩
    · simp [Value.cells] at hcs
      obtain ⟨rfl, rfl, rfl⟩ := hcs
      exact ⟨[], .inl ⟨rfl, rfl, rfl, rfl⟩⟩
    · simp [Value.cells] at hcs
      obtain ⟨rfl, rfl, rfl⟩ := hcs
      exact ⟨zs, .inr ⟨_, rfl, hl, hm, by simpa using hz, hcell, hwz⟩⟩
  obtain ⟨a1, len1, cap1, rfl⟩ := okWide_slice Try.underlying22 (hval 1 22 v1 rfl rfl)
  have k1 := h1
  have lt1 : ∀ x ∈ p1, x.block < W.heap.size := by obtain ⟨m, hm⟩ := k1; exact DataW.trod_lt m _ _ _ hm
  obtain ⟨z1, w1⟩ : ∃ zs, IsRow .u8 W a1 len1 cap1 zs := by
    obtain ⟨fuel, hf⟩ := h1
    rcases open_ints Try.underlying22 Try.underlying5 (by kernel_rfl) hf with ⟨hcs, _⟩ | ⟨x, l, c, zs, hcs, _, hl, hm, hz, _, hcell, hwz⟩
    · simp [Value.cells] at hcs
      obtain ⟨rfl, rfl, rfl⟩ := hcs
      exact ⟨[], .inl ⟨rfl, rfl, rfl, rfl⟩⟩
    · simp [Value.cells] at hcs
      obtain ⟨rfl, rfl, rfl⟩ := hcs
      exact ⟨zs, .inr ⟨_, rfl, hl, hm, by simpa using hz, hcell, hwz⟩⟩
  clear hA0 hval0
  refine (walk_FnKnwMore a0 len0 cap0 z0 a1 len1 cap1 z1 W w0 w1).mono fun e W' ⟨he, bel⟩ => ?_
  subst he
  exact ⟨_, rfl, _, _, _, [], _, [], hW', trodAll_mk1 (shut_bool Try.underlying4 _), (trodAll_cons_mk (Below.trod laidOut (by kernel_rfl) (of_decide_eq_true (by kernel_rfl)) k0 bel lt0) (trodAll_cons_mk (Below.trod laidOut (by kernel_rfl) (of_decide_eq_true (by kernel_rfl)) k1 bel lt1) trodAll_mk0)), rfl, bel.frame _, fun h => by cases h⟩

theorem fnKnwMore_holds : Rows.FnKnwMoreSaid :=
  OpenClaim.holds_of_wide 9 Try.f9 rfl rfl rfl rfl rfl rfl rfl ⟨rfl, rfl, rfl, rfl, rfl⟩ rfl rfl rfl rfl rfl (by kernel_rfl) Try.func9 (by kernel_rfl)
    (of_decide_eq_true (by kernel_rfl)) (by unfold Func.isWrapper; first | (rw [if_pos (by decide +kernel)]; kernel_rfl) | (rw [if_neg (by decide +kernel)]; exact ⟨rfl, rfl⟩))
    (fun os started H enc _ => lifted_FnKnwMore os started H enc)

#print axioms fnKnwMore_holds
end Go.Proofs.Ytjdpabiodalfkaa
