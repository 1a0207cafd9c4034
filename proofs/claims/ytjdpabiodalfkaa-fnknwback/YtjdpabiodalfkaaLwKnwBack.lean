/-
  Proved: of every code: from what is made from a secret, for the place above, as a key, for one who says, or for a room, alone, that secret cannot be made; and from what a group has neither of both. No condition.
-/
import Derived.Test.YtjdpabiodalfkaaFrame
import Derived.Test.YtjdpabiodalfkaaDrawE
import Derived.Test.YtjdpabiodalfkaaMak2
import Derived.Test.YtjdpabiodalfkaaMade3
import Derived.Test.YtjdpabiodalfkaaOpenAll
import Derived.Test.YtjdpabiodalfkaaIMake
import Derived.Deep.RegionHeld3
namespace Go.Proofs.Ytjdpabiodalfkaa
open Go.ChangeShapes Go.WideShapes Go.ChangeAt Go.RowKit
open Go.ChangeMaps (open_string shut_string)
set_option linter.unusedVariables false

theorem can_size {y s : ByteArray} (h : Can [y] s) : y.size ≤ s.size := by
  induction h with
  | has h => simp at h; subst h; exact Nat.le_refl _
  | @one s h1 h2 h3 _ ih =>
    rcases parts_kn h1 with ⟨q, _⟩ | ⟨_, _, _, q, _⟩ | ⟨q, _⟩
    · exact absurd q h2
    · omega
    · exact absurd q h3
  | @two s h1 h2 _ _ ih1 _ =>
    rcases parts_kn h1 with ⟨q, _⟩ | ⟨_, q, _⟩ | ⟨_, _, _, q, _⟩
    · omega
    · exact absurd h2 q
    · omega
theorem back_no {y s : ByteArray} (h : s.size < y.size) : (okAll [y] && Kw.ok s && can [y] s) = false := by
  have : can [y] s = false := by
    cases q : can [y] s with
    | false => rfl
    | true => have := can_size (can_iff.1 q); omega
  rw [this, Bool.and_false]
theorem back_yes {y : ByteArray} (h : Kw.ok y = true) : (okAll [y] && Kw.ok y && can [y] y) = true := by
  have h1 : okAll [y] = true := okAll_iff.2 ⟨by simp, fun x hx => by simp at hx; subst hx; exact h⟩
  rw [h1, h, can_has (has_iff.2 (by simp))]; rfl

theorem cell_al {w : World} {b o : Nat} (h : b < w.heap.size) (ob : Obj) : (w.alloc ob).cell? ⟨b, o, none⟩ = w.cell? ⟨b, o, none⟩ := ((Below.refl w.heap.size w).alloc (Nat.le_refl _) ob).cell (p := ⟨b, o, none⟩) h
theorem srow_one (w : World) (y : ByteArray) : SRow (w.alloc (.cells #[.string y] 9)) (.slice (some ⟨w.heap.size, 0, none⟩) 1 1) [y] :=
  .inr ⟨_, 1, rfl, by simp, by unfold maxLen; omega, fun i hi => by
    have : i = 0 := by simp at hi; omega
    subst this
    rw [Addr.add_lit, Nat.zero_add, cell_of_row _ _ _ _ _ _ (heap_alloc_new _ _)]; rfl⟩

/-- The five that are made. -/
def five (a b : ByteArray) : List ByteArray := [mkNext a, mkKey a, mkSay a 0, mkRoom a 1, mkEpoch a b]
theorem five_all {a b : ByteArray} (ha : Kw.ok a = true) (hb : Kw.ok b = true) (hs : a.size + b.size ≤ 250) : (∀ y ∈ five a b, Kw.ok y = true ∧ a.size < y.size) ∧ b.size < (mkEpoch a b).size := by
  have e1 : mkNext a = nextT a := by unfold mkNext; rw [if_pos ha, cap_self (made_next ha (by omega)).1]
  have e2 : mkKey a = keyT a := by unfold mkKey; rw [if_pos ha, cap_self (made_key ha (by omega)).1]
  have e3 : mkSay a 0 = sayT a 0 := by unfold mkSay; rw [if_pos ⟨ha, by omega, by omega⟩]; exact cap_self (made_say (who := 0) ha (by omega) (by omega)).1
  have e4 : mkRoom a 1 = roomT a 1 := by unfold mkRoom; rw [if_pos ⟨ha, by omega, by omega⟩]; exact cap_self (made_room (room := 1) ha (by omega) (by omega) (by omega)).1
  have e5 : mkEpoch a b = epochT a b := by unfold mkEpoch; rw [if_pos ⟨ha, hb⟩, cap_self (made_epoch ha hb (by omega)).1]
  have hb0 := (ok_facts hb).2.1
  refine ⟨fun y hy => ?_, by rw [e5, epoch_size]; omega⟩
  unfold five at hy
  rw [e1, e2, e3, e4, e5] at hy
  simp only [List.mem_cons, List.mem_nil_iff, or_false] at hy
  rcases hy with rfl | rfl | rfl | rfl | rfl
  · exact ⟨(made_next ha (by omega)).1, by rw [next_size]; omega⟩
  · exact ⟨(made_key ha (by omega)).1, by rw [key_size]; omega⟩
  · exact ⟨(made_say (who := 0) ha (by omega) (by omega)).1, by rw [say_size]; omega⟩
  · exact ⟨(made_room (room := 1) ha (by omega) (by omega) (by omega)).1, by rw [room_size]; omega⟩
  · exact ⟨(made_epoch ha hb (by omega)).1, by rw [epoch_size]; omega⟩

set_option maxRecDepth 100000 in
set_option maxHeartbeats 4000000 in
theorem walk_FnKnwBack (a0 : Option Addr) (len cap : Nat) (zs : List Int) (w : World) (h : IsRow .u8 w a0 len cap zs) :
    Calls Try.prog 4 #[.slice a0 len cap] w fun e w' => e = .returned (.bool true) ∧ Below w.heap.size w w' := by
  have hlm : len ≤ 9223372036854775807 := by
    rcases h with ⟨_, rfl, _⟩ | ⟨x, _, h1, h2, _⟩
    · omega
    · unfold maxLen at h2; omega
  have HR := hide h
  clear h
  by_cases hb : (1048576 : Int) < (len : Int)
  · go_enter Try.func4, Try.ntmps4
    go_wp2_with fail
    go_ret
    exact ⟨rfl, Below.refl _ _⟩
  have hb2 : decide ((1048576 : Int) < (len : Int)) = false := by simpa using hb
  clear hb
  go_enter Try.func4, Try.ntmps4
  go_wp2_with fail
  refine (DrawMakEpoch_any a0 len cap zs _ (unhide HR)).mono ?_
  rintro e w1 ⟨a, b, rfl, ha, hb, hb1⟩
  have HB1 := hide hb1
  have hle1 := hb1.size
  have MA : Hid (a.size ≤ maxLen) := by show a.size ≤ maxLen; unfold maxLen; omega
  have MB : Hid (b.size ≤ maxLen) := by show b.size ≤ maxLen; unfold maxLen; omega
  clear hb1
  go_wp2_with fail
  refine (sSecOk_any a _ MA.out).mono ?_
  cases hka : Kw.ok a with
  | false =>
    rintro e w2 ⟨rfl, hb2'⟩
    have HB2 := hide ((unhide HB1).trans (hb2'.mono hle1))
    have hle2 := HB2.out.size
    have HKA := hide hka
    clear hb2' hka
    go_wp2_with fail
    refine (iSecOk_any a _ MA.out).mono ?_
    rw [HKA.out]
    rintro e w3 ⟨rfl, hb3⟩
    have HB3 := hide ((unhide HB2).trans (hb3.mono hle2))
    have hle3 := HB3.out.size
    clear hb3
    go_wp2_with fail
    refine (sSecOk_any a _ MA.out).mono ?_
    rw [HKA.out]
    rintro e w4 ⟨rfl, hb4⟩
    have HB4 := hide ((unhide HB3).trans (hb4.mono hle3))
    have hle4 := HB4.out.size
    clear hb4
    go_wp2_with fail
    refine (keOk_any _).mono ?_
    rintro e w5 ⟨rfl, hb5⟩
    go_wp2_with fail
    go_ret
    exact ⟨rfl, (unhide HB4).trans (hb5.mono hle4)⟩
  | true =>
    rintro e w2 ⟨rfl, hb2'⟩
    have HB2 := hide ((unhide HB1).trans (hb2'.mono hle1))
    have hle2 := HB2.out.size
    have HKA := hide hka
    clear hb2' hka
    go_wp2_with fail
    refine (sSecOk_any b _ MB.out).mono ?_
    by_cases hbad : Kw.ok b = false ∨ 250 < a.size + b.size
    · rintro e w3 ⟨rfl, hb3⟩
      have HB3 := hide ((unhide HB2).trans (hb3.mono hle2))
      have hle3 := HB3.out.size
      clear hb3
      cases hkb : Kw.ok b with
      | false =>
        clear hkb hbad
        go_wp2_with fail
        refine (iSecOk_any a _ MA.out).mono ?_
        rw [HKA.out]
        rintro e w4 ⟨rfl, hb4⟩
        have HB4 := hide ((unhide HB3).trans (hb4.mono hle3))
        have hle4 := HB4.out.size
        clear hb4
        go_wp2_with fail
        refine (sSecOk_any a _ MA.out).mono ?_
        rw [HKA.out]
        rintro e w5 ⟨rfl, hb5⟩
        have HB5 := hide ((unhide HB4).trans (hb5.mono hle4))
        have hle5 := HB5.out.size
        clear hb5
        go_wp2_with fail
        refine (keOk_any _).mono ?_
        rintro e w6 ⟨rfl, hb6⟩
        go_wp2_with fail
        go_ret
        exact ⟨rfl, (unhide HB5).trans (hb6.mono hle5)⟩
      | true =>
        have h250 : (250 : Int) < (a.size : Int) + (b.size : Int) := by
          rcases hbad with q | q
          · rw [hkb] at q; cases q
          · omega
        clear hkb hbad
        go_wp2_with fail
        refine (iSecOk_any a _ MA.out).mono ?_
        rw [HKA.out]
        rintro e w4 ⟨rfl, hb4⟩
        have HB4 := hide ((unhide HB3).trans (hb4.mono hle3))
        have hle4 := HB4.out.size
        clear hb4
        go_wp2_with fail
        refine (sSecOk_any a _ MA.out).mono ?_
        rw [HKA.out]
        rintro e w5 ⟨rfl, hb5⟩
        have HB5 := hide ((unhide HB4).trans (hb5.mono hle4))
        have hle5 := HB5.out.size
        clear hb5
        go_wp2_with fail
        refine (keOk_any _).mono ?_
        rintro e w6 ⟨rfl, hb6⟩
        go_wp2_with fail
        go_ret
        exact ⟨rfl, (unhide HB5).trans (hb6.mono hle5)⟩
    · have hkb : Kw.ok b = true := by
        cases q : Kw.ok b with
        | true => rfl
        | false => exact absurd (.inl q) hbad
      have h250n : a.size + b.size ≤ 250 := by
        rcases Nat.lt_or_ge 250 (a.size + b.size) with q | q
        · exact absurd (.inr q) hbad
        · exact q
      have h250 : decide ((250 : Int) < (a.size : Int) + (b.size : Int)) = false := by simp; omega
      have H5 := hide (five_all HKA.out hkb h250n)
      rw [hkb]
      clear hbad hkb
      rintro e w3 ⟨rfl, hb3⟩
      have HB3 := hide ((unhide HB2).trans (hb3.mono hle2))
      have hle3 := HB3.out.size
      clear hb3
      go_wp2_with fail
      refine (iMakNext_any a _ MA.out).mono ?_
      rintro e w4 ⟨rfl, hb4⟩
      have HB4 := hide ((unhide HB3).trans (hb4.mono hle3))
      have hle4 := HB4.out.size
      clear hb4
      go_wp2_with fail
      refine (iMakKey_any a _ MA.out).mono ?_
      rintro e w5 ⟨rfl, hb5⟩
      have HB5 := hide ((unhide HB4).trans (hb5.mono hle4))
      have hle5 := HB5.out.size
      clear hb5
      go_wp2_with fail
      refine (iMakSay_any a 0 _ MA.out).mono ?_
      rintro e w6 ⟨rfl, hb6⟩
      have HB6 := hide ((unhide HB5).trans (hb6.mono hle5))
      have hle6 := HB6.out.size
      clear hb6
      go_wp2_with fail
      refine (iMakRoom_any a 1 _ MA.out).mono ?_
      rintro e w7 ⟨rfl, hb7⟩
      have HB7 := hide ((unhide HB6).trans (hb7.mono hle6))
      have hle7 := HB7.out.size
      clear hb7
      go_wp2_with fail
      refine (iMakEpoch_any a b _ MA.out MB.out).mono ?_
      rintro e w8 ⟨rfl, hb8⟩
      have HB8 := hide ((unhide HB7).trans (hb8.mono hle7))
      have hle8 := HB8.out.size
      clear hb8
      have HF : Hid (∀ k, k < 5 → Kw.ok ((five a b).getD k ByteArray.empty) = true ∧ a.size < ((five a b).getD k ByteArray.empty).size) := fun k hk => H5.out.1 _ (getD_mem (by unfold five; simpa using hk))
      have HE : Hid (b.size < ((five a b).getD 4 ByteArray.empty).size) := H5.out.2
      have HS : Hid (SRow (w8.alloc (.cells #[.string (mkNext a), .string (mkKey a), .string (mkSay a 0), .string (mkRoom a 1), .string (mkEpoch a b)] 9)) (.slice (some ⟨w8.heap.size, 0, none⟩) 5 5) (five a b)) := by
        refine .inr ⟨_, 5, rfl, by unfold five; simp, by unfold maxLen; omega, fun i hi => ?_⟩
        have hi5 : i < 5 := by unfold five at hi; simpa using hi
        rw [Addr.add_lit, Nat.zero_add, cell_of_row _ _ _ _ _ _ (heap_alloc_new _ _)]
        match i, hi5 with
        | 0, _ => rfl
        | 1, _ => rfl
        | 2, _ => rfl
        | 3, _ => rfl
        | 4, _ => rfl
      have HB9 : Hid (Below w.heap.size w (w8.alloc (.cells #[.string (mkNext a), .string (mkKey a), .string (mkSay a 0), .string (mkRoom a 1), .string (mkEpoch a b)] 9))) := (unhide HB8).alloc hle8 _
      have hsz9 : (w8.alloc (.cells #[.string (mkNext a), .string (mkKey a), .string (mkSay a 0), .string (mkRoom a 1), .string (mkEpoch a b)] 9)).heap.size = w8.heap.size + 1 := by simp
      go_wp2_with fail
      generalize five a b = fv at HF HE HS
      generalize w8.alloc (.cells #[.string (mkNext a), .string (mkKey a), .string (mkSay a 0), .string (mkRoom a 1), .string (mkEpoch a b)] 9) = w9 at *
      have hle9 := HB9.out.size
      go_loopw [6] (fun i wr => ∃ k : Nat, k ≤ 5 ∧ i = .int .i64 (k : Int) ∧ Hid (Below w9.heap.size w9 wr)) (fun i _ => 5 - (intOf i).toNat)
      case atStart => exact ⟨0, by omega, rfl, Below.refl _ _⟩
      case round =>
        obtain ⟨k, hk, rfl, hL⟩ := hrel
        have hleL := hL.out.size
        have hcellk : Hid (∀ j, j < 5 → wr.cell? ⟨w8.heap.size, j, none⟩ = some (.string (fv.getD j ByteArray.empty))) := fun j hj => by
          rcases (SRow.below (unhide HS) (unhide hL)) with ⟨q, _⟩ | ⟨p, c, q, _, _, hc⟩
          · cases q
          · have hfl : fv.length = 5 := by simp only [Value.slice.injEq] at q; exact q.2.1.symm
            simp only [Value.slice.injEq, Option.some.injEq] at q
            obtain ⟨rfl, _, _⟩ := q
            have := hc j (by omega)
            rw [Addr.add_lit, Nat.zero_add] at this
            exact this
        by_cases hlt : k < 5
        · have hlt2 : (k : Int) < 5 := by omega
          have hck := hcellk.out k hlt
          have i3 : IntKind.i64.wrap ((k : Int) + 1) = (k : Int) + 1 := by simp [IntKind.wrap, IntKind.bits, IntKind.signed]; omega
          have hF := HF.out k hlt
          generalize fv.getD k ByteArray.empty = y at hck hF
          have My := hide (okm hF.1)
          have N1 := hide (back_no hF.2)
          have N2 := hide (back_yes hF.1)
          have HY : Hid (∀ x ∈ [y], x.size ≤ maxLen) := fun x hx => by simp at hx; subst hx; exact okm hF.1
          clear hF
          have hlt8 : w8.heap.size < wr.heap.size := by omega
          go_wp2_with fail
          go_region_held3 (fun w' => w'.cell? ⟨w8.heap.size, k, none⟩ = some (.string y))
            ((first | exact hck | exact pck | exact qck | exact (cell_al hlt8 _).trans hck | exact (cell_al hlt10 _).trans pck))
            ((first
              | (go_at_call 15; refine (iKnwMake_any _ [y] y (w10.alloc (.cells #[.string y] 9)) (srow_one w10 y) (unhide HY) My.out).mono ?_; rw [N2.out]; rintro e w11 ⟨rfl, hb11⟩; have qck : w11.cell? ⟨w8.heap.size, k, none⟩ = some (.string y) := (hb11.cell (p := ⟨w8.heap.size, k, none⟩) (by simp; omega)).trans ((cell_al hlt10 _).trans pck); have hL11 : Hid (Below w9.heap.size w9 w11) := ((unhide hL10).alloc (by omega) _).trans (hb11.mono (by simp; omega)); clear hb11)
              | (go_at_call 15; refine (iKnwMake_any _ [y] a (wr.alloc (.cells #[.string y] 9)).drew (SRow.drew (srow_one wr y)) (unhide HY) MA.out).mono ?_; rw [N1.out]; rintro e w10 ⟨rfl, hb10⟩; have pck : w10.cell? ⟨w8.heap.size, k, none⟩ = some (.string y) := (hb10.cell (p := ⟨w8.heap.size, k, none⟩) (by simp; omega)).trans ((cell_al hlt8 _).trans hck); have hL10 : Hid (Below w9.heap.size w9 w10) := (((unhide hL).alloc hleL _).drew).trans (hb10.mono (by simp; omega)); have hle10 : wr.heap.size + 1 ≤ w10.heap.size := (by have := hb10.size; simpa using this); have hlt10 : w8.heap.size < w10.heap.size := (by omega); clear hb10)))
          go_wp2_with fail
          go_roundw
          case rel => exact ⟨k + 1, by omega, by simp, hL11⟩
          case measure => simp [intOf]; omega
        · have hlt2 : decide ((k : Int) < 5) = false := by simp; omega
          have hc4 := hcellk.out 4 (by omega)
          have hE := HE.out
          have hF := HF.out 4 (by omega)
          generalize fv.getD 4 ByteArray.empty = y at hc4 hE hF
          have N1 := hide (back_no hE)
          have HY : Hid (∀ x ∈ [y], x.size ≤ maxLen) := fun x hx => by simp at hx; subst hx; exact okm hF.1
          have HB10 := hide ((unhide HB9).trans ((unhide hL).mono hle9))
          have hle10 := HB10.out.size
          clear hE hF
          go_wp2_with fail
          have HBA : Hid (Below wr.heap.size wr (wr.alloc (.cells #[.string y] 9))) := (Below.refl _ _).alloc (Nat.le_refl _) _
          have HS1 : Hid (SRow (wr.alloc (.cells #[.string y] 9)) (.slice (some ⟨wr.heap.size, 0, none⟩) 1 1) [y]) := .inr ⟨_, 1, rfl, by simp, by unfold maxLen; omega, fun i hi => by
            have : i = 0 := by simp at hi; omega
            subst this
            rw [Addr.add_lit, Nat.zero_add, cell_of_row _ _ _ _ _ _ (heap_alloc_new _ _)]; rfl⟩
          refine (iKnwMake_any _ [y] b _ (unhide HS1) (unhide HY) MB.out).mono ?_
          rw [N1.out]
          rintro e w11 ⟨rfl, hb11⟩
          have HB11 := hide ((unhide HB10).trans (((unhide HBA).trans (hb11.mono (by simp))).mono hle10))
          clear hb11
          go_wp2_with fail
          go_ret
          exact ⟨rfl, unhide HB11⟩

set_option maxRecDepth 100000 in
theorem lifted_FnKnwBack (os : Os) (started : os.Started) (H : Type) (enc : TypeId × Value → H) :
    ReturnsInHanded {} Try.checked os 4 .any (Rows.fnKnwBackSpec.pre6 enc Try.prog Try.f4 Rows.fnKnwBackRow.domain false) (Rows.fnKnwBackSpec.post enc Try.prog Try.f4 false true false false) := by
  refine returnsInHanded_of_change (C := Try.checked) own started (by kernel_rfl) Try.func4
    (ChangeSpec.witness6 (enc := enc) (C := Try.checked) false ⟨#[], #[.slice none 0 0], []⟩ 8 (by kernel_rfl) (by kernel_rfl) (by kernel_rfl) (by kernel_rfl)) ?_
  intro W base args ds gs before hval0 hW hcnd _
  have hval : ∀ (j : Nat) t v, Try.f4.params[j]? = some t → args[j]? = some v → Value.okWide Try.prog W .any base t v := hval0
  have hW' := hW
  obtain ⟨p, q, hA0, hV, rfl, hfz, hnd⟩ := hW
  have hA : DataW.TrodAll enc Try.prog W 0 (fun _ => true) true Try.f4.params.toList args.toList ds p := hA0
  rw [Try.params4] at hA hval
  obtain ⟨v0, vs0, d0, ds0, p0, q0, hargs, rfl, rfl, h0, r0⟩ := trodAll_cons hA
  obtain ⟨rfl, rfl, rfl⟩ := trodAll_nil r0
  obtain rfl : args = #[v0] := by cases args; simp_all
  obtain ⟨rfl, rfl⟩ := trodVars_none hV
  obtain ⟨a0, len0, cap0, rfl⟩ := okWide_slice Try.underlying22 (hval 0 22 v0 rfl rfl)
  have k0 := h0
  have lt0 : ∀ x ∈ p0, x.block < W.heap.size := by obtain ⟨m, hm⟩ := k0; exact DataW.trod_lt m _ _ _ hm
  obtain ⟨z0, w0⟩ : ∃ zs, IsRow .u8 W a0 len0 cap0 zs := by
    obtain ⟨fuel, hf⟩ := h0
    rcases open_ints Try.underlying22 Try.underlying5 (by kernel_rfl) hf with ⟨hcs, _⟩ | ⟨x, l, c, zs, hcs, _, hl, hm, hz, _, hcell, hwz⟩
    · simp [Value.cells] at hcs
      obtain ⟨rfl, rfl, rfl⟩ := hcs
      exact ⟨[], .inl ⟨rfl, rfl, rfl, rfl⟩⟩
    · simp [Value.cells] at hcs
      obtain ⟨rfl, rfl, rfl⟩ := hcs
      exact ⟨zs, .inr ⟨_, rfl, hl, hm, by simpa using hz, hcell, hwz⟩⟩
  clear hA0 hval0
  refine (walk_FnKnwBack a0 len0 cap0 z0 W w0).mono fun e W' ⟨he, bel⟩ => ?_
  subst he
  exact ⟨_, rfl, _, _, _, [], _, [], hW', trodAll_mk1 (shut_bool Try.underlying4 _), (trodAll_cons_mk (Below.trod laidOut (by kernel_rfl) (of_decide_eq_true (by kernel_rfl)) k0 bel lt0) trodAll_mk0), rfl, bel.frame _, fun h => by cases h⟩

theorem fnKnwBack_holds : Rows.FnKnwBackSaid :=
  OpenClaim.holds_of_wide 4 Try.f4 rfl rfl rfl rfl rfl rfl rfl ⟨rfl, rfl, rfl, rfl, rfl⟩ rfl rfl rfl rfl rfl (by kernel_rfl) Try.func4 (by kernel_rfl)
    (of_decide_eq_true (by kernel_rfl)) (by unfold Func.isWrapper; first | (rw [if_pos (by decide +kernel)]; kernel_rfl) | (rw [if_neg (by decide +kernel)]; exact ⟨rfl, rfl⟩))
    (fun os started H enc _ => lifted_FnKnwBack os started H enc)

#print axioms fnKnwBack_holds
end Go.Proofs.Ytjdpabiodalfkaa
