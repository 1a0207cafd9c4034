/-
  Proved: at every texts and boxes the program's KnwOpen answers as the specification's KnwOpen; it writes into no argument and keeps nothing of one; its answer owns its memory, behind another call too. No condition.
-/
import Derived.Test.YtjdpabiodalfkaaFrameB
import Derived.Test.YtjdpabiodalfkaaMarks2
import Derived.Test.YtjdpabiodalfkaaClos
namespace Go.Proofs.Ytjdpabiodalfkaa
open Go.ChangeShapes Go.WideShapes Go.ChangeAt Go.RowKit
open Go.ChangeMaps (open_string shut_string)
set_option linter.unusedVariables false

/-- A slice of the call's own, its row between two numbers. -/
def RowIn (lo hi : Nat) (e : TypeId) (size : Nat) (w : World) (v : Value) (n : Nat) (xs : List Value) : Prop := w.ownsRow lo e size v n xs ∧ ∀ g, v.ownBlock = some g → g < hi
theorem RowIn.of {lo : Nat} {e : TypeId} {size : Nat} {w : World} {v : Value} {n : Nat} {xs : List Value} (h : w.ownsRow lo e size v n xs) : RowIn lo w.heap.size e size w v n xs := ⟨h, fun g hg => (h.lt g hg).2⟩
theorem RowIn.below {lo hi : Nat} {e : TypeId} {size : Nat} {w w' : World} {v : Value} {n : Nat} {xs : List Value} (h : RowIn lo hi e size w v n xs) (hb : Below w.heap.size w w') : RowIn lo hi e size w' v n xs := ⟨own_below' h.1 hb, h.2⟩
theorem RowIn.grown {lo hi : Nat} {e : TypeId} {size : Nat} {w w' : World} {v : Value} {n : Nat} {xs : List Value} {r : Option Nat} (h : RowIn lo hi e size w v n xs) (hg : w.grownBy w' r) (hr : ∀ k, r = some k → k < lo ∨ hi ≤ k) : RowIn lo hi e size w' v n xs := by
  refine ⟨h.1.kept hg ?_, h.2⟩
  cases hv : v.ownBlock with
  | none => exact .inl rfl
  | some g =>
    right
    intro e'
    have h1 := (h.1.lt g hv).1
    have h2 := h.2 g hv
    have := hr g e'.symm
    omega
theorem RowIn.out {lo hi : Nat} {e : TypeId} {size : Nat} {w : World} {v : Value} {n : Nat} {xs : List Value} (h : RowIn lo hi e size w v n xs) : ∀ k, v.ownBlock = some k → lo ≤ k ∧ k < hi := fun k hk => ⟨(h.1.lt k hk).1, h.2 k hk⟩
/-- Texts, so. -/
def TIn (lo hi : Nat) (w : World) (v : Value) (xs : List ByteArray) : Prop := RowIn lo hi 9 1 w v xs.length (xs.map Value.string)
def BIn (lo hi : Nat) (w : World) (v : Value) (bs : List Bx) : Prop := RowIn lo hi 42 2 w v bs.length (bcells bs)
theorem TIn.srow {lo hi : Nat} {w : World} {v : Value} {xs : List ByteArray} (h : TIn lo hi w v xs) : SRow w v xs := own_srow h.1
theorem BIn.brow {lo hi : Nat} {w : World} {v : Value} {bs : List Bx} (h : BIn lo hi w v bs) : BRow w v bs := OwnB.brow h.1
theorem TIn.below {lo hi : Nat} {w w' : World} {v : Value} {xs : List ByteArray} (h : TIn lo hi w v xs) (hb : Below w.heap.size w w') : TIn lo hi w' v xs := RowIn.below h hb
theorem BIn.below {lo hi : Nat} {w w' : World} {v : Value} {bs : List Bx} (h : BIn lo hi w v bs) (hb : Below w.heap.size w w') : BIn lo hi w' v bs := RowIn.below h hb
theorem TIn.grown {lo hi : Nat} {w w' : World} {v : Value} {xs : List ByteArray} {r : Option Nat} (h : TIn lo hi w v xs) (hg : w.grownBy w' r) (hr : ∀ k, r = some k → k < lo ∨ hi ≤ k) : TIn lo hi w' v xs := RowIn.grown h hg hr
theorem BIn.grown {lo hi : Nat} {w w' : World} {v : Value} {bs : List Bx} {r : Option Nat} (h : BIn lo hi w v bs) (hg : w.grownBy w' r) (hr : ∀ k, r = some k → k < lo ∨ hi ≤ k) : BIn lo hi w' v bs := RowIn.grown h hg hr

theorem knwOpen_many (xs : List ByteArray) (bs : List Bx) : (knwOpen xs bs).length ≤ 800 := by
  unfold knwOpen
  split
  · rename_i h
    rw [Bool.and_eq_true] at h
    exact (knwOpen_len (openOf_opened xs bs) h.1 h.2).1
  · simp

set_option maxRecDepth 100000 in
set_option maxHeartbeats 4000000 in
theorem walk_FnExactKnwOpen (v : Value) (xs : List ByteArray) (u : Value) (bs : List Bx) (w : World) (h : SRow w v xs) (hx : ∀ x ∈ xs, x.size ≤ maxLen) (k : BRow w u bs) (hy : ∀ b ∈ bs, b.1.size ≤ maxLen ∧ b.2.size ≤ maxLen) :
    Calls Try.prog 12 #[v, u] w fun e w' => e = .returned (.bool true) ∧ Below w.heap.size w w' := by
  have HR := hide h
  have HU := hide k
  have HX := hide hx
  have HY := hide hy
  clear h hx k hy
  go_enter Try.func12, Try.ntmps12
  go_wp2_with fail
  refine (szStringS_any v xs 1048576 _ (unhide HR) (unhide HX) (by omega) (by omega)).mono ?_
  rintro e w1 ⟨r, rfl, hr1, hr2, hb1⟩
  have HB1 := hide hb1
  have hle1 := hb1.size
  have hR2 := hide hr2
  clear hb1 hr2
  by_cases hneg : r < 0
  · go_wp2_with fail
    go_ret
    exact ⟨rfl, unhide HB1⟩
  have hneg2 : decide (r < 0) = false := by simpa using hneg
  have HL : Hid (xs.length ≤ 1048576) := by
    have := (hR2.out (by omega)).1
    show _ ≤ _
    omega
  have hr0 : 0 ≤ r := by omega
  clear hneg
  go_wp2_with fail
  refine (szKnwBoxS_any u bs r _ (BRow.below (unhide HU) (unhide HB1)) (unhide HY) hr0 (by omega)).mono ?_
  rintro e w2 ⟨q, rfl, hq1, hq2, hb2⟩
  have HB2 := hide ((unhide HB1).trans (hb2.mono hle1))
  have hle2 := HB2.out.size
  have hQ2 := hide hq2
  clear hb2 hq2
  by_cases hneg : q < 0
  · go_wp2_with fail
    go_ret
    exact ⟨rfl, unhide HB2⟩
  have hneg3 : decide (q < 0) = false := by simpa using hneg
  have HLB : Hid (bs.length ≤ 1048576) := by
    have := hQ2.out (by omega)
    show _ ≤ _
    omega
  clear hneg
  go_wp2_with fail
  refine (toStringS_any v xs _ (SRow.below (unhide HR) (unhide HB2)) HL.out).mono ?_
  rintro e w3 ⟨p3, rfl, ho3, hb3⟩
  have HO3 := hide (own_srow ho3)
  have HB3 := hide ((unhide HB2).trans (hb3.mono hle2))
  have hle3 := HB3.out.size
  clear ho3 hb3
  go_wp2_with fail
  refine (toKnwBoxS_any u bs _ (BRow.below (unhide HU) (unhide HB3)) HLB.out).mono ?_
  rintro e w4 ⟨p4, rfl, ho4, hb4⟩
  have HO4 := hide (OwnB.brow ho4)
  have HO34 := hide (SRow.below (unhide HO3) hb4)
  have HB4 := hide ((unhide HB3).trans (hb4.mono hle3))
  have hle4 := HB4.out.size
  clear ho4 hb4
  go_wp2_with fail
  refine (sKnwOpen_any p3 p4 xs bs _ (unhide HO34) (unhide HO4) (unhide HX) (unhide HY)).mono ?_
  have hml := knwOpen_many xs bs
  generalize hko : knwOpen xs bs = L at *
  have HKO := hide hko
  clear hko
  rintro e w5 ⟨r5, rfl, ho5, hb5⟩
  have HB5 := hide ((unhide HB4).trans (hb5.mono hle4))
  have hle5 := HB5.out.size
  have W5 : Hid (TIn w4.heap.size w5.heap.size w5 r5 L) := RowIn.of ho5
  clear ho5 hb5 HO3 HO34 HO4
  go_wp2_with fail
  refine (toStringS_any v xs _ (SRow.below (unhide HR) (unhide HB5)) HL.out).mono ?_
  rintro e w6 ⟨p6, rfl, ho6, hb6⟩
  have X6 : Hid (TIn w5.heap.size w6.heap.size w6 p6 xs) := RowIn.of ho6
  have W6 := hide ((unhide W5).below hb6)
  have HB6 := hide ((unhide HB5).trans (hb6.mono hle5))
  have hle6 := HB6.out.size
  have hs6 := hb6.size
  clear ho6 hb6 W5
  go_wp2_with fail
  refine (toKnwBoxS_any u bs _ (BRow.below (unhide HU) (unhide HB6)) HLB.out).mono ?_
  rintro e w7 ⟨p7, rfl, ho7, hb7⟩
  have Y7 : Hid (BIn w6.heap.size w7.heap.size w7 p7 bs) := RowIn.of ho7
  have X7 := hide ((unhide X6).below hb7)
  have W7 := hide ((unhide W6).below hb7)
  have HB7 := hide ((unhide HB6).trans (hb7.mono hle6))
  have hle7 := HB7.out.size
  have hs7 := hb7.size
  clear ho7 hb7 X6 W6
  go_wp2_with fail
  refine (iKnwOpen_any p6 p7 xs bs _ (unhide X7).srow (unhide Y7).brow (unhide HX) (unhide HY)).mono ?_
  rw [HKO.out]
  rintro e w8 ⟨r8, rfl, ho8, hb8⟩
  have G8 : Hid (TIn w7.heap.size w8.heap.size w8 r8 L) := RowIn.of ho8
  have Y8 := hide ((unhide Y7).below hb8)
  have X8 := hide ((unhide X7).below hb8)
  have W8 := hide ((unhide W7).below hb8)
  have HB8 := hide ((unhide HB7).trans (hb8.mono hle7))
  have hle8 := HB8.out.size
  have hs8 := hb8.size
  clear ho8 hb8 X7 W7 Y7
  go_wp2_with fail
  refine (eqStringS_any r8 r5 L L _ (unhide G8).srow (unhide W8).srow).mono ?_
  rw [show decide (L = L) = true by simp]
  rintro e w9 ⟨rfl, hb9⟩
  have G9 := hide ((unhide G8).below hb9)
  have Y9 := hide ((unhide Y8).below hb9)
  have X9 := hide ((unhide X8).below hb9)
  have W9 := hide ((unhide W8).below hb9)
  have HB9 := hide ((unhide HB8).trans (hb9.mono hle8))
  have hle9 := HB9.out.size
  have hs9 := hb9.size
  clear hb9 G8 X8 W8 Y8
  go_wp2_with fail
  refine (toStringS_any v xs _ (SRow.below (unhide HR) (unhide HB9)) HL.out).mono ?_
  rintro e w10 ⟨p10, rfl, ho10, hb10⟩
  have HQ10 := hide (own_srow ho10)
  have G10 := hide ((unhide G9).below hb10)
  have Y10 := hide ((unhide Y9).below hb10)
  have X10 := hide ((unhide X9).below hb10)
  have W10 := hide ((unhide W9).below hb10)
  have HB10 := hide ((unhide HB9).trans (hb10.mono hle9))
  have hle10 := HB10.out.size
  have hs10 := hb10.size
  clear ho10 hb10 G9 X9 W9 Y9
  go_wp2_with fail
  refine (eqStringS_any p6 p10 xs xs _ (unhide X10).srow (unhide HQ10)).mono ?_
  rw [show decide (xs = xs) = true by simp]
  rintro e w11 ⟨rfl, hb11⟩
  have G11 := hide ((unhide G10).below hb11)
  have Y11 := hide ((unhide Y10).below hb11)
  have X11 := hide ((unhide X10).below hb11)
  have W11 := hide ((unhide W10).below hb11)
  have HB11 := hide ((unhide HB10).trans (hb11.mono hle10))
  have hle11 := HB11.out.size
  have hs11 := hb11.size
  clear hb11 G10 X10 W10 Y10 HQ10
  go_wp2_with fail
  refine (toKnwBoxS_any u bs _ (BRow.below (unhide HU) (unhide HB11)) HLB.out).mono ?_
  rintro e w12 ⟨p12, rfl, ho12, hb12⟩
  have HQ12 := hide (OwnB.brow ho12)
  have G12 := hide ((unhide G11).below hb12)
  have Y12 := hide ((unhide Y11).below hb12)
  have X12 := hide ((unhide X11).below hb12)
  have W12 := hide ((unhide W11).below hb12)
  have HB12 := hide ((unhide HB11).trans (hb12.mono hle11))
  have hle12 := HB12.out.size
  have hs12 := hb12.size
  clear ho12 hb12 G11 X11 W11 Y11
  go_wp2_with fail
  refine (eqKnwBoxS_any p7 p12 bs _ (unhide Y12).brow (unhide HQ12)).mono ?_
  rintro e w13 ⟨rfl, hb13⟩
  have G13 := hide ((unhide G12).below hb13)
  have Y13 := hide ((unhide Y12).below hb13)
  have X13 := hide ((unhide X12).below hb13)
  have W13 := hide ((unhide W12).below hb13)
  have HB13 := hide ((unhide HB12).trans (hb13.mono hle12))
  have hle13 := HB13.out.size
  have hs13 := hb13.size
  clear hb13 G12 X12 W12 Y12 HQ12
  go_wp2_with fail
  refine (markStringS_any _ p6 xs 1 _ (unhide X13).1 (by omega) (by omega) HL.out).mono ?_
  rintro e w14 ⟨rfl, _, hg14⟩
  have hx14 := (unhide X13).out
  have G14 := hide ((unhide G13).grown hg14 (fun k hk => by have := hx14 k hk; omega))
  have Y14 := hide ((unhide Y13).grown hg14 (fun k hk => by have := hx14 k hk; omega))
  have W14 := hide ((unhide W13).grown hg14 (fun k hk => by have := hx14 k hk; omega))
  have HB14 : Hid (Below w.heap.size w w14) := (unhide HB13).grown hg14 hle13 (fun k hk => by have := hx14 k hk; omega)
  have hle14 := HB14.out.size
  have hs14 := hg14.size
  clear hg14 hx14 G13 X13 W13 Y13
  have hn1 : 1 + xs.length ≤ 2000000 := by have := HL.out; omega
  have hn0 : 0 < 1 + xs.length := by omega
  generalize 1 + xs.length = k1 at hn1 hn0 ⊢
  go_wp2_with fail
  refine (markKnwBoxS_any _ p7 bs k1 _ (unhide Y14).1 hn0 hn1 HLB.out).mono ?_
  rintro e w15 ⟨⟨r, rfl, hr⟩, hg15⟩
  have hy15 := (unhide Y14).out
  have G15 := hide ((unhide G14).grown hg15 (fun k hk => by have := hy15 k hk; omega))
  have W15 := hide ((unhide W14).grown hg15 (fun k hk => by have := hy15 k hk; omega))
  have HB15 : Hid (Below w.heap.size w w15) := (unhide HB14).grown hg15 hle14 (fun k hk => by have := hy15 k hk; omega)
  have hle15 := HB15.out.size
  have hs15 := hg15.size
  clear hg15 hy15 G14 W14 Y14
  have hrn : decide ((r : Int) < 0) = false := by simp
  go_wp2_with fail
  refine (eqStringS_any r8 r5 L L _ (unhide G15).srow (unhide W15).srow).mono ?_
  rw [show decide (L = L) = true by simp]
  rintro e w16 ⟨rfl, hb16⟩
  have G16 := hide ((unhide G15).below hb16)
  have W16 := hide ((unhide W15).below hb16)
  have HB16 := hide ((unhide HB15).trans (hb16.mono hle15))
  have hle16 := HB16.out.size
  have hs16 := hb16.size
  clear hb16 G15 W15
  go_wp2_with fail
  refine (markStringS_any _ r8 L 1 _ (unhide G16).1 (by omega) (by omega) (by omega)).mono ?_
  rintro e w17 ⟨rfl, ho17, hg17⟩
  have hx17 := (unhide G16).out
  have W17 := hide ((unhide W16).grown hg17 (fun k hk => by have := hx17 k hk; omega))
  have HB17 : Hid (Below w.heap.size w w17) := (unhide HB16).grown hg17 hle16 (fun k hk => by have := hx17 k hk; omega)
  have hle17 := HB17.out.size
  have hs17 := hg17.size
  have G17 := hide (Own.srow ho17)
  clear ho17 hg17 hx17 G16 W16
  have hkk : Hid (1 + L.length ≤ 900) := by show _ ≤ _; omega
  have hkp : decide (((1 + L.length : Nat) : Int) < 0) = false := by simp; omega
  have HEL : Hid (∀ u : World, SRow u r8 (marks 1 L.length) → Calls Try.prog 44 #[r8, .int .i64 1] u fun e w' => e = .returned (.int .i64 ((1 + L.length : Nat) : Int)) ∧ Below u.heap.size u w') := fun u hu => heldStringS_any r8 L.length 1 u hu (by omega) (by omega) (by omega)
  generalize 1 + L.length = m1 at hkk hkp HEL ⊢
  go_wp2_with fail
  refine (HEL.out _ (unhide G17)).mono ?_
  rintro e w18 ⟨rfl, hb18⟩
  have G18 := hide (SRow.below (unhide G17) hb18)
  have W18 := hide ((unhide W17).below hb18)
  have HB18 := hide ((unhide HB17).trans (hb18.mono hle17))
  have hle18 := HB18.out.size
  clear hb18 G17 W17
  go_wp2_with fail
  refine (toStringS_any v xs _ (SRow.below (unhide HR) (unhide HB18)) HL.out).mono ?_
  rintro e w19 ⟨p19, rfl, ho19, hb19⟩
  have HQ19 := hide (own_srow ho19)
  have G19 := hide (SRow.below (unhide G18) hb19)
  have W19 := hide ((unhide W18).below hb19)
  have HB19 := hide ((unhide HB18).trans (hb19.mono hle18))
  have hle19 := HB19.out.size
  clear ho19 hb19 G18 W18
  go_wp2_with fail
  refine (toKnwBoxS_any u bs _ (BRow.below (unhide HU) (unhide HB19)) HLB.out).mono ?_
  rintro e w20 ⟨p20, rfl, ho20, hb20⟩
  have HP20 := hide (OwnB.brow ho20)
  have HQ20 := hide (SRow.below (unhide HQ19) hb20)
  have G20 := hide (SRow.below (unhide G19) hb20)
  have W20 := hide ((unhide W19).below hb20)
  have HB20 := hide ((unhide HB19).trans (hb20.mono hle19))
  have hle20 := HB20.out.size
  clear ho20 hb20 G19 W19 HQ19
  go_wp2_with fail
  refine (iKnwOpen_any p19 p20 xs bs _ (unhide HQ20) (unhide HP20) (unhide HX) (unhide HY)).mono ?_
  rw [HKO.out]
  rintro e w21 ⟨r21, rfl, ho21, hb21⟩
  have H21 := hide (Own.srow ho21)
  have G21 := hide (SRow.below (unhide G20) hb21)
  have W21 := hide ((unhide W20).below hb21)
  have HB21 := hide ((unhide HB20).trans (hb21.mono hle20))
  have hle21 := HB21.out.size
  clear ho21 hb21 G20 W20 HQ20 HP20
  go_wp2_with fail
  refine (eqStringS_any r21 r5 L L _ (unhide H21) (unhide W21).srow).mono ?_
  rw [show decide (L = L) = true by simp]
  rintro e w22 ⟨rfl, hb22⟩
  have G22 := hide (SRow.below (unhide G21) hb22)
  have HB22 := hide ((unhide HB21).trans (hb22.mono hle21))
  have hle22 := HB22.out.size
  clear hb22 G21 W21 H21
  go_wp2_with fail
  refine (HEL.out _ (unhide G22)).mono ?_
  rintro e w23 ⟨rfl, hb23⟩
  have HB23 := hide ((unhide HB22).trans (hb23.mono hle22))
  clear hb23
  go_wp2_with fail
  go_ret
  exact ⟨rfl, unhide HB23⟩

set_option maxRecDepth 100000 in
theorem lifted_FnExactKnwOpen (os : Os) (started : os.Started) (H : Type) (enc : TypeId × Value → H) :
    ReturnsInHanded {} Try.checked os 12 .any (Rows.fnExactKnwOpenSpec.pre6 enc Try.prog Try.f12 Rows.fnExactKnwOpenRow.domain false) (Rows.fnExactKnwOpenSpec.post enc Try.prog Try.f12 false true false false) := by
  refine returnsInHanded_of_change (C := Try.checked) own started (by kernel_rfl) Try.func12
    (ChangeSpec.witness6 (enc := enc) (C := Try.checked) false ⟨#[], #[.slice none 0 0, .slice none 0 0], []⟩ 8 (by kernel_rfl) (by kernel_rfl) (by kernel_rfl) (by kernel_rfl)) ?_
  intro W base args ds gs before hval0 hW hcnd _
  have hval : ∀ (j : Nat) t v, Try.f12.params[j]? = some t → args[j]? = some v → Value.okWide Try.prog W .any base t v := hval0
  have hW' := hW
  obtain ⟨p, q, hA0, hV, rfl, hfz, hnd⟩ := hW
  have hA : DataW.TrodAll enc Try.prog W 0 (fun _ => true) true Try.f12.params.toList args.toList ds p := hA0
  rw [Try.params12] at hA hval
  obtain ⟨v0, vs0, d0, ds0, p0, q0, hargs, rfl, rfl, h0, r0⟩ := trodAll_cons hA
  obtain ⟨v1, vs1, d1, ds1, p1, q1, rfl, rfl, rfl, h1, r1⟩ := trodAll_cons r0
  obtain ⟨rfl, rfl, rfl⟩ := trodAll_nil r1
  obtain rfl : args = #[v0, v1] := by cases args; simp_all
  obtain ⟨rfl, rfl⟩ := trodVars_none hV
  obtain ⟨a0, len0, cap0, rfl⟩ := okWide_slice Try.underlying23 (hval 0 23 v0 rfl rfl)
  have k0 := h0
  have lt0 : ∀ x ∈ p0, x.block < W.heap.size := by obtain ⟨m, hm⟩ := k0; exact DataW.trod_lt m _ _ _ hm
  obtain ⟨z0, w0, x0⟩ : ∃ zs, SRow W (.slice a0 len0 cap0) zs ∧ ∀ x ∈ zs, x.size ≤ maxLen := by
    obtain ⟨fuel, hf⟩ := h0
    exact open_srow hf
  obtain ⟨a1, len1, cap1, rfl⟩ := okWide_slice Try.underlying52 (hval 1 52 v1 rfl rfl)
  have k1 := h1
  have lt1 : ∀ x ∈ p1, x.block < W.heap.size := by obtain ⟨m, hm⟩ := k1; exact DataW.trod_lt m _ _ _ hm
  obtain ⟨z1, w1, x1⟩ : ∃ zs, BRow W (.slice a1 len1 cap1) zs ∧ ∀ x ∈ zs, x.1.size ≤ maxLen ∧ x.2.size ≤ maxLen := by
    obtain ⟨fuel, hf⟩ := h1
    exact open_brow hf
  clear hA0 hval0
  refine (walk_FnExactKnwOpen (.slice a0 len0 cap0) z0 (.slice a1 len1 cap1) z1 W w0 x0 w1 x1).mono fun e W' ⟨he, bel⟩ => ?_
  subst he
  exact ⟨_, rfl, _, _, _, [], _, [], hW', trodAll_mk1 (shut_bool Try.underlying4 _), (trodAll_cons_mk (Below.trod laidOut (by kernel_rfl) (of_decide_eq_true (by kernel_rfl)) k0 bel lt0) (trodAll_cons_mk (Below.trod laidOut (by kernel_rfl) (of_decide_eq_true (by kernel_rfl)) k1 bel lt1) trodAll_mk0)), rfl, bel.frame _, fun h => by cases h⟩

theorem fnExactKnwOpen_holds : Rows.FnExactKnwOpenSaid :=
  OpenClaim.holds_of_wide 12 Try.f12 rfl rfl rfl rfl rfl rfl rfl ⟨rfl, rfl, rfl, rfl, rfl⟩ rfl rfl rfl rfl rfl (by kernel_rfl) Try.func12 (by kernel_rfl)
    (of_decide_eq_true (by kernel_rfl)) (by unfold Func.isWrapper; first | (rw [if_pos (by decide +kernel)]; kernel_rfl) | (rw [if_neg (by decide +kernel)]; exact ⟨rfl, rfl⟩))
    (fun os started H enc _ => lifted_FnExactKnwOpen os started H enc)

#print axioms fnExactKnwOpen_holds
end Go.Proofs.Ytjdpabiodalfkaa
