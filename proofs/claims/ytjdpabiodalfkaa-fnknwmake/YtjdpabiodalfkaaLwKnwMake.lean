/-
  Proved: of every two codes: a secret that can be made from some can be from these and others; each of these can be; and what is made from what can be made can be. No condition.
-/
import Derived.Test.YtjdpabiodalfkaaFrame
import Derived.Test.YtjdpabiodalfkaaSmallM
import Derived.Test.YtjdpabiodalfkaaKeHas
import Derived.Test.YtjdpabiodalfkaaMak
import Derived.Test.YtjdpabiodalfkaaMade3
import Derived.Test.YtjdpabiodalfkaaClos
namespace Go.Proofs.Ytjdpabiodalfkaa
open Go.ChangeShapes Go.WideShapes Go.ChangeAt Go.RowKit
open Go.ChangeMaps (open_string shut_string)
set_option linter.unusedVariables false

theorem kmake_more {xs ys : List ByteArray} {s : ByteArray} (h : (okAll xs && Kw.ok s && can xs s) = true) (hl : xs.length + ys.length ≤ 400) (hy : ys.all Kw.ok = true) : (okAll (xs ++ ys) && Kw.ok s && can (xs ++ ys) s) = true := by
  simp only [Bool.and_eq_true] at h ⊢
  refine ⟨⟨okAll_iff.2 ⟨by simp; omega, fun x hx => ?_⟩, h.1.2⟩, can_more (fun x hx => by simp [hx]) h.2⟩
  rcases List.mem_append.1 hx with hx | hx
  · exact (okAll_iff.1 h.1.1).2 x hx
  · exact List.all_eq_true.1 hy x hx

theorem kmake_one {xs : List ByteArray} {s t : ByteArray} {op : Int} (h : (okAll xs && Kw.ok s && can xs s) = true) (ht : Tells t op 0 0 s ⟨#[]⟩) (h1 : op ≠ 1) (h4 : op ≠ 4) : (okAll xs && Kw.ok t && can xs t) = true := by
  simp only [Bool.and_eq_true] at h ⊢
  obtain ⟨t1, t2, _, _, t5, _⟩ := ht
  exact ⟨⟨h.1.1, t1⟩, can_iff.2 (.one t1 (by omega) (by omega) (by rw [t5]; exact can_iff.1 h.2))⟩
theorem mk_next {s : ByteArray} (hk : Kw.ok s = true) (hs : s.size < 300) : mkNext s = nextT s ∧ mkKey s = keyT s := by
  unfold mkNext mkKey
  rw [if_pos hk, if_pos hk, cap_yes (by rw [next_size]; omega), cap_yes (by rw [key_size]; omega)]
  exact ⟨rfl, rfl⟩

set_option maxRecDepth 100000 in
set_option maxHeartbeats 2000000 in
theorem walk_FnKnwMake (a0 : Option Addr) (len0 cap0 : Nat) (z0 : List Int) (a1 : Option Addr) (len1 cap1 : Nat) (z1 : List Int) (w : World) (h0 : IsRow .u8 w a0 len0 cap0 z0) (h1 : IsRow .u8 w a1 len1 cap1 z1) :
    Calls Try.prog 3 #[.slice a0 len0 cap0, .slice a1 len1 cap1] w fun e w' => e = .returned (.bool true) ∧ Below w.heap.size w w' := by
  have hm0 : len0 ≤ 9223372036854775807 := by
    rcases h0 with ⟨_, rfl, _⟩ | ⟨x, _, q1, q2, _⟩
    · omega
    · unfold maxLen at q2; omega
  have hm1 : len1 ≤ 9223372036854775807 := by
    rcases h1 with ⟨_, rfl, _⟩ | ⟨x, _, q1, q2, _⟩
    · omega
    · unfold maxLen at q2; omega
  have HR0 := hide h0
  have HR1 := hide h1
  clear h0 h1
  by_cases hb : (1048576 : Int) < (len0 : Int)
  · go_enter Try.func3, Try.ntmps3
    go_wp2_with fail
    go_ret
    exact ⟨rfl, Below.refl _ _⟩
  have hb2 : decide ((1048576 : Int) < (len0 : Int)) = false := by simpa using hb
  clear hb
  by_cases hb : (1048576 : Int) < (len1 : Int)
  · go_enter Try.func3, Try.ntmps3
    go_wp2_with fail
    go_ret
    exact ⟨rfl, Below.refl _ _⟩
  have hb3 : decide ((1048576 : Int) < (len1 : Int)) = false := by simpa using hb
  clear hb
  obtain ⟨i0, hi, hz0, hz1, hz2⟩ := info_parts info_str2
  have hI := hide (And.intro hi (And.intro hz0 (And.intro hz1 hz2)))
  clear hi hz0 hz1 hz2
  go_enter Try.func3, Try.ntmps3
  go_wp2_with fail
  refine (DrawKnwMake_any a0 len0 cap0 z0 _ (unhide HR0)).mono ?_
  rintro e w1 ⟨v, xs, s, rfl, hnn, hO, hl, hsm, hs, hb1⟩
  have HB1 := hide hb1
  have hle1 := hb1.size
  have HO1 : Hid (Own 0 w1 v xs) := row_low hO (Nat.zero_le _)
  have HX := hide (smallm hsm)
  have M : Hid (s.size ≤ maxLen) := by show s.size ≤ maxLen; unfold maxLen; omega
  obtain ⟨g, vc, hv, _⟩ := row_nn hnn hO
  subst hv
  have HNN := hide hnn
  clear hb1 hO hsm hnn
  go_wp2_with fail
  refine (DrawKnwMake_any a1 len1 cap1 z1 _ (by
    rcases (unhide HR1) with q | ⟨x, q1, q2, q3, q4, q5, q6⟩
    · exact .inl q
    · exact .inr ⟨x, q1, q2, q3, q4, fun i hi => ((unhide HB1).cell (cell_lt (q5 i hi))).trans (q5 i hi), q6⟩)).mono ?_
  rintro e w2 ⟨v2, ys, s2, rfl, hnn2, hO2, hl2, hsm2, hs2, hb2'⟩
  have HB2 := hide ((unhide HB1).trans (hb2'.mono hle1))
  have hle2 := HB2.out.size
  have HO2 := hide ((unhide HO1).below hb2')
  have HP2 : Hid (Own 0 w2 v2 ys) := row_low hO2 (Nat.zero_le _)
  have HZ := hide (smallm hsm2)
  obtain ⟨g2, vc2, hv2, _⟩ := row_nn hnn2 hO2
  subst hv2
  have HNN2 := hide hnn2
  clear hb2' hO2 hsm2 hnn2 HO1
  go_wp2_with fail
  refine (iKnwMake_any _ xs s _ (Own.srow (unhide HO2)) (unhide HX) M.out).mono ?_
  rintro e w3 ⟨rfl, hb3'⟩
  have HB3 := hide ((unhide HB2).trans (hb3'.mono hle2))
  have hle3 := HB3.out.size
  have HO3 := hide ((unhide HO2).below hb3')
  have HP3 := hide ((unhide HP2).below hb3')
  clear hb3' HO2 HP2
  generalize hbv : (okAll xs && Kw.ok s && can xs s) = b
  have HBV := hide hbv
  clear hbv
  go_wp2_with fail
  refine (sKnwMake_any _ xs s _ (Own.srow (unhide HO3)) (unhide HX) M.out).mono ?_
  rw [HBV.out]
  rintro e w5 ⟨rfl, hb5⟩
  have HB5 := hide ((unhide HB3).trans (hb5.mono hle3))
  have hle5 := HB5.out.size
  have HO5 := hide ((unhide HO3).below hb5)
  have HP5 := hide ((unhide HP3).below hb5)
  clear hb5 HO3 HP3
  go_wp2_with fail
  go_loopw [10] (fun i wr => ∃ k : Nat, k ≤ xs.length ∧ i = .int .i64 (k : Int) ∧ Hid (∀ j, j < k → Kw.ok (xs.getD j ByteArray.empty) = true) ∧ Hid (Below w5.heap.size w5 wr)) (fun i _ => xs.length - (intOf i).toNat)
  case atStart => exact ⟨0, by omega, rfl, fun j hj => by omega, Below.refl _ _⟩
  case round =>
    obtain ⟨k, hk, rfl, hN, hL⟩ := hrel
    have hleL := hL.out.size
    by_cases hlt : k < xs.length
    · have hlt2 : (k : Int) < (xs.length : Int) := by omega
      obtain ⟨ao', c1, q1, _, _, q2⟩ := (SRow.below (Own.srow (unhide HO5)) (unhide hL)).form
      simp only [Value.slice.injEq] at q1
      obtain ⟨rfl, _, rfl⟩ := q1
      obtain ⟨a, ha, hck⟩ := q2 k hlt
      cases ha
      rw [Addr.add_lit, Nat.zero_add] at hck
      clear q2
      have My : Hid ((xs.getD k ByteArray.empty).size ≤ maxLen) := HX.out _ (getD_mem hlt)
      have i3 : IntKind.i64.wrap ((k : Int) + 1) = (k : Int) + 1 := by simp [IntKind.wrap, IntKind.bits, IntKind.signed]; omega
      have hNo : Hid (Kw.ok (xs.getD k ByteArray.empty) = false → b = false) := fun hf => by
        have q : okAll xs = false := by
          cases q : okAll xs with
          | false => rfl
          | true => have := (okAll_iff.1 q).2 _ (getD_mem hlt); rw [hf] at this; cases this
        have := HBV.out
        rw [q] at this
        simpa using this.symm
      have hYes : Hid (Kw.ok (xs.getD k ByteArray.empty) = true → ∀ j, j < k + 1 → Kw.ok (xs.getD j ByteArray.empty) = true) := by
        intro ht j hj
        by_cases hjk : j = k
        · subst hjk; exact ht
        · exact hN j (by omega)
      generalize xs.getD k ByteArray.empty = y at hck My hYes hNo
      go_wp2_with fail
      refine (sSecOk_any y _ My.out).mono ?_
      cases hy : Kw.ok y with
      | false =>
        rintro e w6 ⟨rfl, hb6⟩
        have HB6 := hide ((unhide HB5).trans (((unhide hL).trans (hb6.mono hleL)).mono hle5))
        have hle6 := HB6.out.size
        have he := hNo.out hy
        clear hb6 hy
        subst he
        go_wp2_with fail
        refine (keOk_any _).mono ?_
        rintro e w7 ⟨rfl, hb7⟩
        go_wp2_with fail
        go_ret
        exact ⟨rfl, (unhide HB6).trans (hb7.mono hle6)⟩
      | true =>
        rintro e w6 ⟨rfl, hb6⟩
        have hL6 := hide ((unhide hL).trans (hb6.mono hleL))
        have hN1' := hide (hYes.out hy)
        clear hb6 hy hck
        go_wp2_with fail
        go_roundw
        case rel => exact ⟨k + 1, by omega, by simp, hN1', hL6⟩
        case measure => simp [intOf]; omega
    · have hlt2 : decide ((k : Int) < (xs.length : Int)) = false := by simp; omega
      have hxok : Hid (okAll xs = true) := okAll_iff.2 ⟨by omega, fun y hy => by
        obtain ⟨j, hj, e⟩ := mem_getD hy
        rw [← e]; exact hN.out j (by omega)⟩
      have HB6' := hide ((unhide HB5).trans ((unhide hL).mono hle5))
      have HO6' := hide ((unhide HO5).below (unhide hL))
      have HP6' := hide ((unhide HP5).below (unhide hL))
      have hle6' := HB6'.out.size
      clear hN hL hleL HO5 HP5
      generalize wr = w6 at *
      go_wp2_with fail
      go_loopw [11] (fun i wr => ∃ k : Nat, k ≤ ys.length ∧ i = .int .i64 (k : Int) ∧ Hid (∀ j, j < k → Kw.ok (ys.getD j ByteArray.empty) = true) ∧ Hid (Below w6.heap.size w6 wr)) (fun i _ => ys.length - (intOf i).toNat)
      case atStart => exact ⟨0, by omega, rfl, fun j hj => by omega, Below.refl _ _⟩
      case round =>
        obtain ⟨k7, hk7, rfl, hN, hL⟩ := hrel
        have hleL := hL.out.size
        by_cases hlt : k7 < ys.length
        · have hlt2 : (k7 : Int) < (ys.length : Int) := by omega
          obtain ⟨ao', c1, q1, _, _, q2⟩ := (SRow.below (Own.srow (unhide HP6')) (unhide hL)).form
          simp only [Value.slice.injEq] at q1
          obtain ⟨rfl, _, rfl⟩ := q1
          obtain ⟨a, ha, hck⟩ := q2 k7 hlt
          cases ha
          rw [Addr.add_lit, Nat.zero_add] at hck
          clear q2
          have My : Hid ((ys.getD k7 ByteArray.empty).size ≤ maxLen) := HZ.out _ (getD_mem hlt)
          have i3 : IntKind.i64.wrap ((k7 : Int) + 1) = (k7 : Int) + 1 := by simp [IntKind.wrap, IntKind.bits, IntKind.signed]; omega
          have hYes : Hid (Kw.ok (ys.getD k7 ByteArray.empty) = true → ∀ j, j < k7 + 1 → Kw.ok (ys.getD j ByteArray.empty) = true) := by
            intro ht j hj
            by_cases hjk : j = k7
            · subst hjk; exact ht
            · exact hN j (by omega)
          generalize ys.getD k7 ByteArray.empty = y at hck My hYes
          go_wp2_with fail
          refine (sSecOk_any y _ My.out).mono ?_
          cases hy : Kw.ok y with
          | false =>
            rintro e w7 ⟨rfl, hb7⟩
            have HB7 := hide ((unhide HB6').trans (((unhide hL).trans (hb7.mono hleL)).mono hle6'))
            have hle7 := HB7.out.size
            clear hb7 hy
            go_wp2_with fail
            refine (keOk_any _).mono ?_
            rintro e w8 ⟨rfl, hb8⟩
            go_wp2_with fail
            go_ret
            exact ⟨rfl, (unhide HB7).trans (hb8.mono hle7)⟩
          | true =>
            rintro e w7 ⟨rfl, hb7⟩
            have hL7 := hide ((unhide hL).trans (hb7.mono hleL))
            have hN1' := hide (hYes.out hy)
            clear hb7 hy hck
            go_wp2_with fail
            go_roundw
            case rel => exact ⟨k7 + 1, by omega, by simp, hN1', hL7⟩
            case measure => simp [intOf]; omega
        · have hlt2 : decide ((k7 : Int) < (ys.length : Int)) = false := by simp; omega
          have hys : Hid (ys.all Kw.ok = true) := by
            show _ = _
            rw [List.all_eq_true]
            intro y hy
            obtain ⟨j, hj, e⟩ := mem_getD hy
            rw [← e]; exact hN.out j (by omega)
          have HB6 := hide ((unhide HB6').trans ((unhide hL).mono hle6'))
          have HO6 := hide ((unhide HO6').below (unhide hL))
          have HP6 := hide ((unhide HP6').below (unhide hL))
          have hle6 := HB6.out.size
          clear hN hL hleL HO6' HP6'
          go_wp2_with (at_builtin; refine wpList_append_own _ rfl _ _ 23 rfl wr.heap.size 9 i0 (.string ⟨#[]⟩) 1 16 Try.underlying23 (unhide hI).1 (unhide hI).2.1 (unhide hI).2.2.1 (unhide hI).2.2.2 rfl (by decide) _ _ _ rfl (own_empty wr.heap.size wr (Nat.le_refl _)) ⟨g, 0, none⟩ xs.length vc (xs.map Value.string) rfl ?l1 ?c1 (strs_one _) ?c3 ?c4 ?c5 ?_)
          case l1 => simp
          case c1 =>
            have hq := (unhide HO6).below ((Below.refl wr.heap.size wr).alloc (Nat.le_refl _) (.cells #[] 9))
            obtain ⟨g', c', hv', hcell⟩ := row_nn (unhide HNN) hq
            cases hv'
            exact hcell
          case c3 => (try simp only [List.length_nil]); unfold maxLen; omega
          case c4 => (try simp only [List.length_nil]); omega
          case c5 => simp
          intro vA w7 hown1 hgrow1 _
          have hA : Hid (Own wr.heap.size w7 vA xs ∧ Below wr.heap.size wr w7) := by
            refine ⟨?_, ((Below.refl wr.heap.size wr).alloc (Nat.le_refl _) _).grown hgrow1 (by simp) (fun k hk => by cases hk; exact Nat.le_refl _)⟩
            unfold Own
            simpa using hown1
          obtain ⟨vAo, vAc, hvA⟩ := row_form' hA.out.1
          subst hvA
          have hleA := hA.out.2.size
          clear hown1 hgrow1
          go_wp2_with (at_builtin; refine wpList_append_own _ rfl _ _ 23 rfl wr.heap.size 9 i0 (.string ⟨#[]⟩) 1 16 Try.underlying23 (unhide hI).1 (unhide hI).2.1 (unhide hI).2.2.1 (unhide hI).2.2.2 rfl (by decide) _ _ _ rfl hA.out.1 ⟨g2, 0, none⟩ ys.length vc2 (ys.map Value.string) rfl ?l1 ?c1 (strs_one _) ?c3 ?c4 ?c5 ?_)
          case l1 => simp
          case c1 =>
            have hq := (unhide HP6).below hA.out.2
            obtain ⟨g', c', hv', hcell⟩ := row_nn (unhide HNN2) hq
            cases hv'
            exact hcell
          case c3 => (try simp only [List.length_nil]); unfold maxLen; omega
          case c4 => (try simp only [List.length_nil]); omega
          case c5 => exact hleA
          intro vB w8 hown2 hgrow2 _
          obtain ⟨vBo, vBc, hvB⟩ := row_form' hown2
          subst hvB
          have hB' : Hid (Own wr.heap.size w8 (.slice vBo (xs.length + ys.length) vBc) (xs ++ ys) ∧ Below wr.heap.size wr w8) := by
            refine ⟨?_, hA.out.2.grown hgrow2 hleA (fun k hk => (World.ownsRow.lt hA.out.1 k hk).1)⟩
            unfold Own
            rw [List.length_append, List.map_append]
            exact hown2
          have hleB := hB'.out.2.size
          clear hown2 hgrow2 hA
          have HB8 := hide ((unhide HB6).trans (hB'.out.2.mono hle6))
          have hle8 := HB8.out.size
          have HO8 := hide ((unhide HO6).below hB'.out.2)
          have HA8 := hide (Own.srow hB'.out.1)
          have HZ8 : Hid (∀ x ∈ xs ++ ys, x.size ≤ maxLen) := fun x hx => by
            rcases List.mem_append.1 hx with hx | hx
            · exact HX.out x hx
            · exact HZ.out x hx
          clear hB' HO6 HP6
          go_wp2_with fail
          go_loopw [13] (fun i wr => ∃ k : Nat, k ≤ xs.length ∧ i = .int .i64 (k : Int) ∧ Hid (Below w8.heap.size w8 wr)) (fun i _ => xs.length - (intOf i).toNat)
          case atStart => exact ⟨0, by omega, rfl, Below.refl _ _⟩
          case round =>
            obtain ⟨k9, hk9, rfl, hL⟩ := hrel
            have hleL := hL.out.size
            by_cases hlt : k9 < xs.length
            · have hlt2 : (k9 : Int) < (xs.length : Int) := by omega
              obtain ⟨ao', c1, q1, _, _, q2⟩ := (SRow.below (Own.srow (unhide HO8)) (unhide hL)).form
              simp only [Value.slice.injEq] at q1
              obtain ⟨rfl, _, rfl⟩ := q1
              obtain ⟨a, ha, hck⟩ := q2 k9 hlt
              cases ha
              rw [Addr.add_lit, Nat.zero_add] at hck
              clear q2
              have My : Hid ((xs.getD k9 ByteArray.empty).size ≤ maxLen) := HX.out _ (getD_mem hlt)
              have i3 : IntKind.i64.wrap ((k9 : Int) + 1) = (k9 : Int) + 1 := by simp [IntKind.wrap, IntKind.bits, IntKind.signed]; omega
              have hin : Hid ((okAll xs && Kw.ok (xs.getD k9 ByteArray.empty) && can xs (xs.getD k9 ByteArray.empty)) = true) := by
                show _ = _
                rw [hxok.out, (okAll_iff.1 hxok.out).2 _ (getD_mem hlt), can_has (has_iff.2 (getD_mem hlt))]; rfl
              generalize xs.getD k9 ByteArray.empty = y at hck My hin
              go_wp2_with fail
              refine (iKnwMake_any _ xs y _ (SRow.below (Own.srow (unhide HO8)) (unhide hL)) (unhide HX) My.out).mono ?_
              rw [hin.out]
              rintro e w9 ⟨rfl, hb9⟩
              have hL9 := hide ((unhide hL).trans (hb9.mono hleL))
              clear hb9 hck hL
              go_wp2_with fail
              go_roundw
              case rel => exact ⟨k9 + 1, by omega, by simp, hL9⟩
              case measure => simp [intOf]; omega
            · have hlt2 : decide ((k9 : Int) < (xs.length : Int)) = false := by simp; omega
              have HB9 := hide ((unhide HB8).trans ((unhide hL).mono hle8))
              have HO9 := hide (SRow.below (Own.srow (unhide HO8)) (unhide hL))
              have HA9 := hide (SRow.below (unhide HA8) (unhide hL))
              have hle9 := HB9.out.size
              clear hL hleL HO8 HA8
              cases b with
              | false =>
                go_wp2_with fail
                refine (keOk_any _).mono ?_
                rintro e w10 ⟨rfl, hb10⟩
                go_wp2_with fail
                go_ret
                exact ⟨rfl, (unhide HB9).trans (hb10.mono hle9)⟩
              | true =>
                have hmore := hide (kmake_more (ys := ys) HBV.out (by omega) hys.out)
                go_wp2_with fail
                refine (iKnwMake_any _ (xs ++ ys) s _ (unhide HA9) (unhide HZ8) M.out).mono ?_
                rw [hmore.out]
                rintro e w10 ⟨rfl, hb10⟩
                have HB10 := hide ((unhide HB9).trans (hb10.mono hle9))
                have HO10 := hide (SRow.below (unhide HO9) hb10)
                have hle10 := HB10.out.size
                clear hb10 HO9 HA9
                by_cases h300 : (300 : Int) ≤ (s.size : Int)
                · go_wp2_with fail
                  go_ret
                  exact ⟨rfl, unhide HB10⟩
                · have h300' : decide ((300 : Int) ≤ (s.size : Int)) = false := by simpa using h300
                  have hks : Kw.ok s = true := by have := HBV.out; simp only [Bool.and_eq_true] at this; exact this.1.2
                  have hE := mk_next hks (by omega)
                  have n1 : Hid ((okAll xs && Kw.ok (mkNext s) && can xs (mkNext s)) = true) := by show _ = _; rw [hE.1]; exact kmake_one HBV.out (made_next hks (by omega)) (by omega) (by omega)
                  have n2 : Hid ((okAll xs && Kw.ok (mkKey s) && can xs (mkKey s)) = true) := by show _ = _; rw [hE.2]; exact kmake_one HBV.out (made_key hks (by omega)) (by omega) (by omega)
                  have m1 : Hid ((mkNext s).size ≤ maxLen) := by
                    have := n1.out; simp only [Bool.and_eq_true] at this; exact okm this.1.2
                  have m2 : Hid ((mkKey s).size ≤ maxLen) := by
                    have := n2.out; simp only [Bool.and_eq_true] at this; exact okm this.1.2
                  clear hks hE h300
                  go_wp2_with fail
                  refine (iMakNext_any s _ M.out).mono ?_
                  rintro e w11 ⟨rfl, hb11⟩
                  have HB11 := hide ((unhide HB10).trans (hb11.mono hle10))
                  have HO11 := hide (SRow.below (unhide HO10) hb11)
                  have hle11 := HB11.out.size
                  clear hb11 HO10
                  generalize mkNext s = t1 at n1 m1 ⊢
                  go_wp2_with fail
                  refine (iKnwMake_any _ xs t1 _ (unhide HO11) (unhide HX) m1.out).mono ?_
                  rw [n1.out]
                  rintro e w12 ⟨rfl, hb12⟩
                  have HB12 := hide ((unhide HB11).trans (hb12.mono hle11))
                  have HO12 := hide (SRow.below (unhide HO11) hb12)
                  have hle12 := HB12.out.size
                  clear hb12 HO11
                  go_wp2_with fail
                  refine (iMakKey_any s _ M.out).mono ?_
                  rintro e w13 ⟨rfl, hb13⟩
                  have HB13 := hide ((unhide HB12).trans (hb13.mono hle12))
                  have HO13 := hide (SRow.below (unhide HO12) hb13)
                  have hle13 := HB13.out.size
                  clear hb13 HO12
                  generalize mkKey s = t2 at n2 m2 ⊢
                  go_wp2_with fail
                  refine (iKnwMake_any _ xs t2 _ (unhide HO13) (unhide HX) m2.out).mono ?_
                  rw [n2.out]
                  rintro e w14 ⟨rfl, hb14⟩
                  have HB14 := hide ((unhide HB13).trans (hb14.mono hle13))
                  clear hb14
                  go_wp2_with fail
                  go_ret
                  exact ⟨rfl, unhide HB14⟩

set_option maxRecDepth 100000 in
theorem lifted_FnKnwMake (os : Os) (started : os.Started) (H : Type) (enc : TypeId × Value → H) :
    ReturnsInHanded {} Try.checked os 3 .any (Rows.fnKnwMakeSpec.pre6 enc Try.prog Try.f3 Rows.fnKnwMakeRow.domain false) (Rows.fnKnwMakeSpec.post enc Try.prog Try.f3 false true false false) := by
  refine returnsInHanded_of_change (C := Try.checked) own started (by kernel_rfl) Try.func3
    (ChangeSpec.witness6 (enc := enc) (C := Try.checked) false ⟨#[], #[.slice none 0 0, .slice none 0 0], []⟩ 8 (by kernel_rfl) (by kernel_rfl) (by kernel_rfl) (by kernel_rfl)) ?_
  intro W base args ds gs before hval0 hW hcnd _
  have hval : ∀ (j : Nat) t v, Try.f3.params[j]? = some t → args[j]? = some v → Value.okWide Try.prog W .any base t v := hval0
  have hW' := hW
  obtain ⟨p, q, hA0, hV, rfl, hfz, hnd⟩ := hW
  have hA : DataW.TrodAll enc Try.prog W 0 (fun _ => true) true Try.f3.params.toList args.toList ds p := hA0
  rw [Try.params3] at hA hval
  obtain ⟨v0, vs0, d0, ds0, p0, q0, hargs, rfl, rfl, h0, r0⟩ := trodAll_cons hA
  obtain ⟨v1, vs1, d1, ds1, p1, q1, rfl, rfl, rfl, h1, r1⟩ := trodAll_cons r0
  obtain ⟨rfl, rfl, rfl⟩ := trodAll_nil r1
  obtain rfl : args = #[v0, v1] := by cases args; simp_all
  obtain ⟨rfl, rfl⟩ := trodVars_none hV
  obtain ⟨a0, len0, cap0, rfl⟩ := okWide_slice Try.underlying22 (hval 0 22 v0 rfl rfl)
  have k0 := h0
  have lt0 : ∀ x ∈ p0, x.block < W.heap.size := by obtain ⟨m, hm⟩ := k0; exact DataW.trod_lt m _ _ _ hm
  obtain ⟨z0, w0⟩ : ∃ zs, IsRow .u8 W a0 len0 cap0 zs := by
    obtain ⟨fuel, hf⟩ := h0
    rcases open_ints Try.underlying22 Try.underlying5 (by kernel_rfl) hf with ⟨hcs, _⟩ | ⟨x, l, c, zs, hcs, _, hl, hm, hz, _, hcell, hwz⟩
    · simp [Value.cells] at hcs
      obtain ⟨rfl, rfl, rfl⟩ := hcs
      exact ⟨[], .inl ⟨rfl, rfl, rfl, rfl⟩⟩
    · simp [Value.cells] at hcs
      obtain ⟨rfl, rfl, rfl⟩ := hcs
      exact ⟨zs, .inr ⟨_, rfl, hl, hm, by simpa using hz, hcell, hwz⟩⟩
  obtain ⟨a1, len1, cap1, rfl⟩ := okWide_slice Try.underlying22 (hval 1 22 v1 rfl rfl)
  have k1 := h1
  have lt1 : ∀ x ∈ p1, x.block < W.heap.size := by obtain ⟨m, hm⟩ := k1; exact DataW.trod_lt m _ _ _ hm
  obtain ⟨z1, w1⟩ : ∃ zs, IsRow .u8 W a1 len1 cap1 zs := by
    obtain ⟨fuel, hf⟩ := h1
    rcases open_ints Try.underlying22 Try.underlying5 (by kernel_rfl) hf with ⟨hcs, _⟩ | ⟨x, l, c, zs, hcs, _, hl, hm, hz, _, hcell, hwz⟩
    · simp [Value.cells] at hcs
      obtain ⟨rfl, rfl, rfl⟩ := hcs
      exact ⟨[], .inl ⟨rfl, rfl, rfl, rfl⟩⟩
    · simp [Value.cells] at hcs
      obtain ⟨rfl, rfl, rfl⟩ := hcs
      exact ⟨zs, .inr ⟨_, rfl, hl, hm, by simpa using hz, hcell, hwz⟩⟩
  clear hA0 hval0
  refine (walk_FnKnwMake a0 len0 cap0 z0 a1 len1 cap1 z1 W w0 w1).mono fun e W' ⟨he, bel⟩ => ?_
  subst he
  exact ⟨_, rfl, _, _, _, [], _, [], hW', trodAll_mk1 (shut_bool Try.underlying4 _), (trodAll_cons_mk (Below.trod laidOut (by kernel_rfl) (of_decide_eq_true (by kernel_rfl)) k0 bel lt0) (trodAll_cons_mk (Below.trod laidOut (by kernel_rfl) (of_decide_eq_true (by kernel_rfl)) k1 bel lt1) trodAll_mk0)), rfl, bel.frame _, fun h => by cases h⟩

theorem fnKnwMake_holds : Rows.FnKnwMakeSaid :=
  OpenClaim.holds_of_wide 3 Try.f3 rfl rfl rfl rfl rfl rfl rfl ⟨rfl, rfl, rfl, rfl, rfl⟩ rfl rfl rfl rfl rfl (by kernel_rfl) Try.func3 (by kernel_rfl)
    (of_decide_eq_true (by kernel_rfl)) (by unfold Func.isWrapper; first | (rw [if_pos (by decide +kernel)]; kernel_rfl) | (rw [if_neg (by decide +kernel)]; exact ⟨rfl, rfl⟩))
    (fun os started H enc _ => lifted_FnKnwMake os started H enc)

#print axioms fnKnwMake_holds
end Go.Proofs.Ytjdpabiodalfkaa
