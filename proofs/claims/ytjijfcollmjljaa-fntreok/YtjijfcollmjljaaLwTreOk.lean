/-
  Proved: at every code the law FnTreOk returns true (TreOk answers as the specification's; a tree that is ok is so without any of its keys; with what is no key in a place it is not), and nothing that was there is written. No condition.
-/
import Derived.Test.YtjijfcollmjljaaFnTreOkB1
import Derived.Test.YtjijfcollmjljaaFnTreOkB4
import Derived.Test.YtjijfcollmjljaaFnTreOkB7
import Derived.Test.YtjijfcollmjljaaFnTreOkB5
namespace Go.Proofs.Ytjijfcollmjljaa
open Go.ChangeShapes Go.WideShapes Go.ChangeAt Go.RowKit
open Go.ChangeMaps (open_string shut_string)
set_option linter.unusedVariables false

theorem nokey : keyOk ⟨#[110, 65, 49, 59]⟩ = false := by decide +kernel
theorem ok_without {xs : List ByteArray} (h : treOk xs = true) (k : Nat) : treOk (xs.set k ⟨#[]⟩) = true := keyOk_set h keyOk_none
theorem ok_bent {xs : List ByteArray} (h : treOk xs = true) {k : Nat} (hk : k < 15) : treOk (xs.set k ⟨#[110, 65, 49, 59]⟩) = false := by
  have hl := (treOk_iff.1 h).1
  refine treOk_bad (k := k) (by rw [List.length_set]; omega) ?_
  rw [List.getD_eq_getElem?_getD, List.getElem?_set_self (by omega)]
  exact nokey
theorem set_max {xs : List ByteArray} (h : treOk xs = true) (k : Nat) (y : ByteArray) (hy : y.size ≤ 300) : ∀ x ∈ xs.set k y, x.size ≤ maxLen := by
  intro x hx
  rcases List.mem_or_eq_of_mem_set hx with q | rfl
  · exact Nat.le_trans (treOk_small h x q) (by unfold maxLen; omega)
  · exact Nat.le_trans hy (by unfold maxLen; omega)

set_option maxRecDepth 100000 in
set_option maxHeartbeats 8000000 in
theorem walk_FnTreOk (a0 : Option Addr) (len0 cap0 : Nat) (z0 : List Int) (w : World) (w0 : IsRow .u8 w a0 len0 cap0 z0) :
    Calls Try.prog 6 #[.slice a0 len0 cap0] w fun e w' => e = .returned (.bool true) ∧ Below w.heap.size w w' := by
  have hR := hide w0
  clear w0
  by_cases h : (1048576 : Int) < (len0 : Int)
  · go_enter Try.func6, Try.ntmps6
    go_wp2_with fail
    go_ret
    exact ⟨rfl, Below.refl _ _⟩
  have h2 : decide ((1048576 : Int) < (len0 : Int)) = false := by simpa using h
  clear h
  obtain ⟨i0, hi, hz0, hz1, hz2⟩ := info_parts info_str2
  have hI := hide (And.intro hi (And.intro hz0 (And.intro hz1 hz2)))
  clear hi hz0 hz1 hz2
  go_enter Try.func6, Try.ntmps6
  go_wp2_with fail
  refine (DrawTreOk_any a0 len0 cap0 z0 _ (unhide hR)).mono ?_
  rintro e w1 ⟨v, xs, rfl, hG, hb1⟩
  obtain ⟨ao, kp, rfl, _, _, _⟩ := hG.row.1.form
  have HM := hide hG.max
  have T1 := hide (TV.new hG.row.1)
  have HB1 := hide (hb1.trans ((below_new w1 (.cells #[.slice ao xs.length kp] 25)).mono hb1.size))
  clear hG hb1 hR h2
  go_wp2_with fail
  refine (iTreOk_any _ xs _ (unhide T1).row (unhide HM)).mono ?_
  rintro e w2 ⟨rfl, hb2⟩
  have T2 := hide ((unhide T1).below hb2)
  have HB2 := hide (HB1.out.trans (hb2.mono HB1.out.size))
  have l1 := (unhide T2).box.cell
  clear hb2 T1 HB1
  cases hok : treOk xs with
  | false =>
    have HOK := hide hok
    clear hok
    go_wp2_with fail
    refine (sTreOk_any _ xs _ (unhide T2).row (unhide HM)).mono ?_
    rw [HOK.out]
    rintro e w3 ⟨rfl, hb3⟩
    have HB3 := hide (HB2.out.trans (hb3.mono HB2.out.size))
    clear hb3 T2 HB2 l1
    go_wp2_with fail
    refine (keOk_any _).mono ?_
    rintro e w4 ⟨rfl, hb4⟩
    have HB4 := hide (HB3.out.trans (hb4.mono HB3.out.size))
    clear hb4
    go_wp2_with fail
    go_ret
    exact ⟨rfl, unhide HB4⟩
  | true =>
    have HOK := hide hok
    have HL : Hid (xs.length = 15) := (treOk_iff.1 hok).1
    clear hok
    go_wp2_with fail
    refine (sTreOk_any _ xs _ (unhide T2).row (unhide HM)).mono ?_
    rw [HOK.out]
    rintro e w3 ⟨rfl, hb3⟩
    have T3 := hide ((unhide T2).below hb3)
    have HB3 := hide (HB2.out.trans (hb3.mono HB2.out.size))
    clear hb3 T2 HB2 l1
    rw [HL.out] at T3 ⊢
    go_wp2_with fail
    go_loopw [5, 6, 7] (fun i b1 b2 wr => ∃ k : Nat, k ≤ 15 ∧ i = .int .i64 (k : Int) ∧ Hid (TV w1.heap.size (.slice ao 15 kp) xs wr) ∧ Hid (Below w.heap.size w wr)) (fun i _ _ _ => 15 - (intOf i).toNat)
    case atStart => exact ⟨0, by omega, rfl, T3, HB3⟩
    case round =>
      clear T3 HB3
      obtain ⟨k, hk, rfl, hT, hL⟩ := hrel
      by_cases hlt : k < 15
      · have hlt2 : (k : Int) < 15 := by omega
        have i3 : IntKind.i64.wrap ((k : Int) + 1) = (k : Int) + 1 := by simp [IntKind.wrap, IntKind.bits, IntKind.signed]; omega
        have hle := hL.out.size
        have al1 := below_new wr (.cells #[] 9)
        have T4 := (unhide hT).below al1
        have l1 := T4.box.cell
        have NW := hide T4.row.news
        rw [HL.out] at NW
        have hO : Hid ((wr.alloc (.cells #[] 9)).ownsRow wr.heap.size 9 1 (.slice (some ⟨wr.heap.size, 0, none⟩) 0 0) 0 []) := World.ownsRow_lit (base := wr.heap.size) (e := 9) (size := 1) wr #[] 0 (Nat.le_refl _) (by unfold maxLen; omega) rfl
        have AL1 := hide al1
        clear T4 al1
        go_wp2_with (at_builtin; refine wpList_append_row _ rfl _ _ 23 rfl wr.heap.size 9 i0 (.string ⟨#[]⟩) 1 16 Try.underlying23 (unhide hI).1 (unhide hI).2.1 (unhide hI).2.2.1 (unhide hI).2.2.2 rfl (by decide) _ _ _ rfl (unhide hO) _ _ _ rfl (unhide NW) (texts_one _) (by unfold maxLen; omega) (by omega) (by simp) ?_)
        intro v2 w2 ho2 hg2
        have ho2 : w2.ownsRow wr.heap.size 9 1 v2 15 (xs.map Value.string) := by first | exact ho2 | simpa using ho2
        have hB2 : Below wr.heap.size wr w2 := (unhide AL1).grown hg2 (by simp) (fun z hz => by simp [Value.ownBlock] at hz; omega)
        obtain ⟨g, c, rfl, hg3, hg4, hg5, hg6⟩ := row15 ho2
        obtain ⟨s1, s2, _, _⟩ := row15_set HL.out (own_below' ho2 (below_new w2 (.cells #[.slice (some ⟨g, 0, none⟩) 15 c] 25))) k hlt ⟨#[]⟩
        obtain ⟨s1', s2', s3, s4⟩ := row15_set HL.out ho2 k hlt ⟨#[]⟩
        have hg9 : (w2.setCell ⟨g, k, none⟩ (.string ⟨#[]⟩)).heap.size = w2.heap.size := by simp [World.setCell]
        have bx := Boxed.new (w2.setCell ⟨g, k, none⟩ (.string ⟨#[]⟩)) 25 (.slice (some ⟨g, 0, none⟩) 15 c)
        rw [hg9] at bx
        have SX : Hid (SRow ((w2.setCell ⟨g, k, none⟩ (.string ⟨#[]⟩)).alloc (.cells #[.slice (some ⟨g, 0, none⟩) 15 c] 25)) (.slice (some ⟨g, 0, none⟩) 15 c) (xs.set k ⟨#[]⟩)) := own_srow (xs := xs.set k ⟨#[]⟩) (by rw [List.length_set, HL.out]; exact own_below' s3 (below_new _ _))
        have b3 : Below wr.heap.size wr ((w2.setCell ⟨g, k, none⟩ (.string ⟨#[]⟩)).alloc (.cells #[.slice (some ⟨g, 0, none⟩) 15 c] 25)) := (hB2.setCell (p := ⟨g, k, none⟩) (by show wr.heap.size ≤ g; omega) _).alloc (by rw [hg9]; exact hB2.size) _
        have T5 := (unhide hT).below b3
        have hs5 : ((w2.setCell ⟨g, k, none⟩ (.string ⟨#[]⟩)).alloc (.cells #[.slice (some ⟨g, 0, none⟩) 15 c] 25)).heap.size = w2.heap.size + 1 := by simp [World.setCell]
        have BX := hide bx
        have B3 := hide b3
        have HBL := hide (hL.out.trans (b3.mono hle))
        have al4 := below_new ((w2.setCell ⟨g, k, none⟩ (.string ⟨#[]⟩)).alloc (.cells #[.slice (some ⟨g, 0, none⟩) 15 c] 25)) (.cells #[] 9)
        have T6 := T5.below al4
        have l5 := T6.box.cell
        have NW2 := hide T6.row.news
        rw [HL.out] at NW2
        have o2 := World.ownsRow_lit (base := ((w2.setCell ⟨g, k, none⟩ (.string ⟨#[]⟩)).alloc (.cells #[.slice (some ⟨g, 0, none⟩) 15 c] 25)).heap.size) (e := 9) (size := 1) ((w2.setCell ⟨g, k, none⟩ (.string ⟨#[]⟩)).alloc (.cells #[.slice (some ⟨g, 0, none⟩) 15 c] 25)) #[] 0 (Nat.le_refl _) (by unfold maxLen; omega) rfl
        rw [hs5] at o2
        have hO2 : Hid ((((w2.setCell ⟨g, k, none⟩ (.string ⟨#[]⟩)).alloc (.cells #[.slice (some ⟨g, 0, none⟩) 15 c] 25)).alloc (.cells #[] 9)).ownsRow (w2.heap.size + 1) 9 1 (.slice (some ⟨w2.heap.size + 1, 0, none⟩) 0 0) 0 []) := o2
        have AL4 := hide al4
        have T5h := hide T5
        clear T6 al4 o2 T5 hO NW ho2 hg2 s3 s4 b3 bx hB2
        go_wp2_with (at_builtin; refine wpList_append_row _ rfl _ _ 23 rfl (w2.heap.size + 1) 9 i0 (.string ⟨#[]⟩) 1 16 Try.underlying23 (unhide hI).1 (unhide hI).2.1 (unhide hI).2.2.1 (unhide hI).2.2.2 rfl (by decide) _ _ _ rfl (unhide hO2) _ _ _ rfl (unhide NW2) (texts_one _) (by unfold maxLen; omega) (by omega) (by simp [World.setCell]) ?_)
        intro v3 w3 ho3 hg3'
        have ho3 : w3.ownsRow (w2.heap.size + 1) 9 1 v3 15 (xs.map Value.string) := by first | exact ho3 | simpa using ho3
        have hB3 : Below ((w2.setCell ⟨g, k, none⟩ (.string ⟨#[]⟩)).alloc (.cells #[.slice (some ⟨g, 0, none⟩) 15 c] 25)).heap.size ((w2.setCell ⟨g, k, none⟩ (.string ⟨#[]⟩)).alloc (.cells #[.slice (some ⟨g, 0, none⟩) 15 c] 25)) w3 := (unhide AL4).grown hg3' (by simp [World.setCell]) (fun z hz => by simp [Value.ownBlock] at hz; omega)
        obtain ⟨g2, c2, rfl, hk3, hk4, hk5, hk6⟩ := row15 ho3
        obtain ⟨r1, r2, _, _⟩ := row15_set HL.out (own_below' ho3 (below_new w3 (.cells #[.slice (some ⟨g2, 0, none⟩) 15 c2] 25))) k hlt ⟨#[110, 65, 49, 59]⟩
        obtain ⟨r1', r2', r3, r4⟩ := row15_set HL.out ho3 k hlt ⟨#[110, 65, 49, 59]⟩
        have hk9 : (w3.setCell ⟨g2, k, none⟩ (.string ⟨#[110, 65, 49, 59]⟩)).heap.size = w3.heap.size := by simp [World.setCell]
        have by1 := Boxed.new (w3.setCell ⟨g2, k, none⟩ (.string ⟨#[110, 65, 49, 59]⟩)) 25 (.slice (some ⟨g2, 0, none⟩) 15 c2)
        rw [hk9] at by1
        have BY : Hid (Boxed ((w3.setCell ⟨g2, k, none⟩ (.string ⟨#[110, 65, 49, 59]⟩)).alloc (.cells #[.slice (some ⟨g2, 0, none⟩) 15 c2] 25)) w3.heap.size 25 (.slice (some ⟨g2, 0, none⟩) 15 c2)) := by1
        have SY : Hid (SRow ((w3.setCell ⟨g2, k, none⟩ (.string ⟨#[110, 65, 49, 59]⟩)).alloc (.cells #[.slice (some ⟨g2, 0, none⟩) 15 c2] 25)) (.slice (some ⟨g2, 0, none⟩) 15 c2) (xs.set k ⟨#[110, 65, 49, 59]⟩)) := own_srow (xs := xs.set k ⟨#[110, 65, 49, 59]⟩) (by rw [List.length_set, HL.out]; exact own_below' r3 (below_new _ _))
        have b5 : Below ((w2.setCell ⟨g, k, none⟩ (.string ⟨#[]⟩)).alloc (.cells #[.slice (some ⟨g, 0, none⟩) 15 c] 25)).heap.size ((w2.setCell ⟨g, k, none⟩ (.string ⟨#[]⟩)).alloc (.cells #[.slice (some ⟨g, 0, none⟩) 15 c] 25)) ((w3.setCell ⟨g2, k, none⟩ (.string ⟨#[110, 65, 49, 59]⟩)).alloc (.cells #[.slice (some ⟨g2, 0, none⟩) 15 c2] 25)) := (hB3.setCell (p := ⟨g2, k, none⟩) (by show ((w2.setCell ⟨g, k, none⟩ (.string ⟨#[]⟩)).alloc (.cells #[.slice (some ⟨g, 0, none⟩) 15 c] 25)).heap.size ≤ g2; rw [hs5]; omega) _).alloc (by rw [hk9]; exact hB3.size) _
        have BX5 := hide (box_below (unhide BX) b5)
        have SX5 := hide ((unhide SX).below b5)
        have T7 := hide ((unhide T5h).below b5)
        have HB5 := hide (HBL.out.trans (b5.mono HBL.out.size))
        have m1 := (unhide BX5).cell
        clear ho3 hg3' hB3 r3 r4 b5 BX SX hO2 NW2 AL4 T5h HBL
        go_wp2_with fail
        generalize ((w3.setCell ⟨g2, k, none⟩ (.string ⟨#[110, 65, 49, 59]⟩)).alloc (.cells #[.slice (some ⟨g2, 0, none⟩) 15 c2] 25)) = W at *
        refine (iTreOk_any _ (xs.set k ⟨#[]⟩) _ (unhide SX5) (set_max HOK.out k _ (by decide))).mono ?_
        rw [ok_without HOK.out k]
        rintro e w6 ⟨rfl, hb6⟩
        have BY6 := box_below (unhide BY) hb6
        have SY6 := hide ((unhide SY).below hb6)
        have T8 := hide ((unhide T7).below hb6)
        have HB6 := hide (HB5.out.trans (hb6.mono HB5.out.size))
        have m2 := BY6.cell
        clear hb6 BY SY T7 HB5 BX5 SX5 m1 BY6
        go_wp2_with fail
        refine (iTreOk_any _ (xs.set k ⟨#[110, 65, 49, 59]⟩) _ (unhide SY6) (set_max HOK.out k _ (by decide))).mono ?_
        rw [ok_bent HOK.out hlt]
        rintro e w7 ⟨rfl, hb7⟩
        have T9 := hide ((unhide T8).below hb7)
        have HB7 := hide (HB6.out.trans (hb7.mono HB6.out.size))
        clear hb7 T8 HB6 SY6 m2
        go_wp2_with fail
        go_roundw
        case rel => exact ⟨k + 1, by omega, by simp, T9, HB7⟩
        case measure => simp [intOf]; omega
      · have hlt2 : decide ((k : Int) < 15) = false := by simp; omega
        go_wp2_with fail
        go_ret
        exact ⟨rfl, unhide hL⟩

set_option maxRecDepth 100000 in
theorem lifted_FnTreOk (os : Os) (started : os.Started) (H : Type) (enc : TypeId × Value → H) :
    ReturnsInHanded {} Try.checked os 6 .any (Rows.fnTreOkSpec.pre6 enc Try.prog Try.f6 Rows.fnTreOkRow.domain false) (Rows.fnTreOkSpec.post enc Try.prog Try.f6 false true false false) := by
  refine returnsInHanded_of_change (C := Try.checked) own started (by kernel_rfl) Try.func6
    (ChangeSpec.witness6 (enc := enc) (C := Try.checked) false ⟨#[], #[.slice none 0 0], []⟩ 8 (by kernel_rfl) (by kernel_rfl) (by kernel_rfl) (by kernel_rfl)) ?_
  intro W base args ds gs before hval0 hW hcnd _
  have hval : ∀ (j : Nat) t v, Try.f6.params[j]? = some t → args[j]? = some v → Value.okWide Try.prog W .any base t v := hval0
  have hW' := hW
  obtain ⟨p, q, hA0, hV, rfl, hfz, hnd⟩ := hW
  have hA : DataW.TrodAll enc Try.prog W 0 (fun _ => true) true Try.f6.params.toList args.toList ds p := hA0
  rw [Try.params6] at hA hval
  obtain ⟨v0, vs0, d0, ds0, p0, q0, hargs, rfl, rfl, h0, r0⟩ := trodAll_cons hA
  obtain ⟨rfl, rfl, rfl⟩ := trodAll_nil r0
  obtain rfl : args = #[v0] := by cases args; simp_all
  obtain ⟨rfl, rfl⟩ := trodVars_none hV
  obtain ⟨a0, len0, cap0, rfl⟩ := okWide_slice Try.underlying22 (hval 0 22 v0 rfl rfl)
  have k0 := h0
  have lt0 : ∀ x ∈ p0, x.block < W.heap.size := by obtain ⟨m, hm⟩ := k0; exact DataW.trod_lt m _ _ _ hm
  obtain ⟨z0, w0⟩ : ∃ zs, IsRow .u8 W a0 len0 cap0 zs := by
    obtain ⟨fuel, hf⟩ := h0
    rcases open_ints Try.underlying22 Try.underlying5 (by kernel_rfl) hf with ⟨hcs, _⟩ | ⟨x, l, c, zs, hcs, _, hl, hm, hz, _, hcell, hwz⟩
    · simp [Value.cells] at hcs
      obtain ⟨rfl, rfl, rfl⟩ := hcs
      exact ⟨[], .inl ⟨rfl, rfl, rfl, rfl⟩⟩
    · simp [Value.cells] at hcs
      obtain ⟨rfl, rfl, rfl⟩ := hcs
      exact ⟨zs, .inr ⟨_, rfl, hl, hm, by simpa using hz, hcell, hwz⟩⟩
  clear hA0 hval0
  refine (walk_FnTreOk a0 len0 cap0 z0 W w0).mono fun e W' ⟨he, bel⟩ => ?_
  subst he
  exact ⟨_, rfl, _, _, _, [], _, [], hW', trodAll_mk1 (shut_bool Try.underlying4 _), (trodAll_cons_mk (Below.trod laidOut (by kernel_rfl) (of_decide_eq_true (by kernel_rfl)) k0 bel lt0) trodAll_mk0), rfl, bel.frame _, fun h => by cases h⟩

theorem fnTreOk_holds : Rows.FnTreOkSaid :=
  OpenClaim.holds_of_wide 6 Try.f6 rfl rfl rfl rfl rfl rfl rfl ⟨rfl, rfl, rfl, rfl, rfl⟩ rfl rfl rfl rfl rfl (by kernel_rfl) Try.func6 (by kernel_rfl)
    (of_decide_eq_true (by kernel_rfl)) (by unfold Func.isWrapper; first | (rw [if_pos (by decide +kernel)]; kernel_rfl) | (rw [if_neg (by decide +kernel)]; exact ⟨rfl, rfl⟩))
    (fun os started H enc _ => lifted_FnTreOk os started H enc)

#print axioms fnTreOk_holds
end Go.Proofs.Ytjijfcollmjljaa
