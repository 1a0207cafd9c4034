/-
  Proved: at every code the law FnTreMeet returns true (TreMeet of two is above both, or one of them; it is the same either way; and all places above both are it, or above it), and nothing that was there is written. No condition.
-/
import Derived.Test.YtenjkhabcpfnaaaFrame
import Derived.Test.YtenjkhabcpfnaaaPlcM
import Derived.Test.YtenjkhabcpfnaaaPlcU
import Derived.Test.YtenjkhabcpfnaaaTreS2
import Derived.Test.YtenjkhabcpfnaaaDrTre2
import Derived.Test.YtenjkhabcpfnaaaRowInI
import Derived.Test.YtenjkhabcpfnaaaKeIn
import Derived.Test.YtenjkhabcpfnaaaKeOk
import Derived.Test.YtenjkhabcpfnaaaAppR
namespace Go.Proofs.Ytenjkhabcpfnaaa
open Go.ChangeShapes Go.WideShapes Go.ChangeAt Go.RowKit
open Go.ChangeMaps (open_string shut_string)
set_option linter.unusedVariables false

theorem meet_comm (a b : Int) : meetOf b a = meetOf a b := by
  unfold meetOf
  by_cases h : (0 ≤ a ∧ a ≤ 14) ∧ 0 ≤ b ∧ b ≤ 14
  · rw [if_pos h, if_pos ⟨h.2, h.1⟩, meets_comm _ (by omega) _ (by omega)]
  · rw [if_neg h, if_neg (fun q => h ⟨q.2, q.1⟩)]
/-- Those above both are where they meet, and all above. -/
theorem meet_filter (a b : Int) (ha : 0 ≤ a ∧ a ≤ 14) (hb : 0 ≤ b ∧ b ≤ 14) : (chainOf a).filter (fun x => decide (x ∈ chainOf b)) = chainOf (meetOf a b) := by
  obtain ⟨x, rfl⟩ : ∃ k : Nat, a = (k : Int) := ⟨a.toNat, by omega⟩
  obtain ⟨y, rfl⟩ : ∃ k : Nat, b = (k : Int) := ⟨b.toNat, by omega⟩
  have hm : meetOf (x : Int) (y : Int) = (meets x y : Int) := by unfold meetOf; rw [if_pos ⟨ha, hb⟩]; rfl
  have hl := meets_lt x (by omega) y (by omega)
  rw [hm, chain_nat x (by omega), chain_nat y (by omega), chain_nat _ hl, List.filter_map, ← meets_above x (by omega) y (by omega)]
  congr 1
  apply List.filter_congr
  intro z _
  rw [Bool.eq_iff_iff]
  simp only [Function.comp, decide_eq_true_eq, List.mem_map, List.contains_iff_mem]
  constructor
  · rintro ⟨k, hk, e⟩
    obtain rfl : k = z := by omega
    exact hk
  · intro hk; exact ⟨z, hk, rfl⟩

/-- How many of the first k are ones of others. -/
def cnt (X Y : List Int) (k : Nat) : Nat := ((X.take k).filter (fun x => decide (x ∈ Y))).length
theorem cnt_zero (X Y : List Int) : cnt X Y 0 = 0 := by simp [cnt]
theorem cnt_all (X Y : List Int) : cnt X Y X.length = (X.filter (fun x => decide (x ∈ Y))).length := by simp [cnt]
theorem cnt_le (X Y : List Int) (k : Nat) : cnt X Y k ≤ X.length := by
  unfold cnt
  exact Nat.le_trans (List.length_filter_le _ _) (by simp; omega)
theorem cnt_yes {X Y : List Int} {k : Nat} (h : k < X.length) (hy : X.getD k 0 ∈ Y) : cnt X Y (k + 1) = cnt X Y k + 1 := by
  unfold cnt
  rw [List.take_succ_eq_append_getElem h, List.filter_append]
  rw [List.getD_eq_getElem?_getD, List.getElem?_eq_getElem h] at hy
  have hy' : X[k] ∈ Y := hy
  simp [hy']
theorem cnt_no {X Y : List Int} {k : Nat} (h : k < X.length) (hy : ¬ X.getD k 0 ∈ Y) : cnt X Y (k + 1) = cnt X Y k := by
  unfold cnt
  rw [List.take_succ_eq_append_getElem h, List.filter_append]
  rw [List.getD_eq_getElem?_getD, List.getElem?_eq_getElem h] at hy
  have hy' : ¬ X[k] ∈ Y := hy
  simp [hy']

set_option maxRecDepth 100000 in
set_option maxHeartbeats 4000000 in
theorem walk_FnTreMeet (a0 : Option Addr) (len0 cap0 : Nat) (z0 : List Int) (w : World) (w0 : IsRow .u8 w a0 len0 cap0 z0) :
    Calls Try.prog 4 #[.slice a0 len0 cap0] w fun e w' => e = .returned (.bool true) ∧ Below w.heap.size w w' := by
  have hR := hide w0
  clear w0
  by_cases h : (1048576 : Int) < (len0 : Int)
  · go_enter Try.func4, Try.ntmps4
    go_wp2_with fail
    go_ret
    exact ⟨rfl, Below.refl _ _⟩
  have h2 : decide ((1048576 : Int) < (len0 : Int)) = false := by simpa using h
  clear h
  obtain ⟨i0, hi, hz0, hz1, hz2⟩ := info_parts info_int2
  have hI := hide (And.intro hi (And.intro hz0 (And.intro hz1 hz2)))
  clear hi hz0 hz1 hz2
  go_enter Try.func4, Try.ntmps4
  go_wp2_with fail
  refine (DrawTreMeet_any a0 len0 cap0 z0 _ (unhide hR)).mono ?_
  rintro e w0 ⟨a, b, rfl, ha1, ha2, hc1, hc2, hb0⟩
  have HB0 := hide hb0
  clear hb0 hR h2
  go_wp2_with fail
  refine (iTreMeet_any a b _).mono ?_
  rintro e w1 ⟨rfl, hb1⟩
  have HB1 := hide (HB0.out.trans (hb1.mono HB0.out.size))
  have HM : Hid (meetOf b a = meetOf a b) := meet_comm a b
  obtain ⟨m, hm⟩ : ∃ m, meetOf a b = m := ⟨_, rfl⟩
  rw [hm] at HM ⊢
  have HMM := hide hm
  clear hb1 HB0 hm
  go_wp2_with fail
  refine (sTreMeet_any a b _).mono ?_
  rw [HMM.out]
  rintro e w2 ⟨rfl, rfl⟩
  go_wp2_with fail
  refine (iTreMeet_any b a _).mono ?_
  rw [HM.out]
  rintro e w3 ⟨rfl, hb3⟩
  have HB3 := hide (HB1.out.trans (hb3.mono HB1.out.size))
  clear hb3 HB1
  by_cases hab : (0 ≤ a ∧ a ≤ 14) ∧ 0 ≤ b ∧ b ≤ 14
  · have d1 : decide (a < 0) = false := by simp; omega
    have d2 : decide (15 ≤ a) = false := by simp; omega
    have d3 : decide (b < 0) = false := by simp; omega
    have d4 : decide (15 ≤ b) = false := by simp; omega
    have HF := hide (meet_filter a b hab.1 hab.2)
    have hmr : 0 ≤ m ∧ m ≤ 14 := by
      have q := HMM.out
      unfold meetOf at q
      rw [if_pos hab] at q
      have := meets_lt a.toNat (by omega) b.toNat (by omega)
      omega
    have XA : Hid (chainOf a = a :: upOf a) := by show _ = _; unfold chainOf; rw [if_pos hab.1]
    have XB : Hid (chainOf b = b :: upOf b) := by show _ = _; unfold chainOf; rw [if_pos hab.2]
    have XM : Hid (chainOf m = m :: upOf m) := by show _ = _; unfold chainOf; rw [if_pos hmr]
    have LA := chain_len a
    have LB := chain_len b
    have LM := chain_len m
    rw [HMM.out] at HF
    clear hab hmr ha1 ha2 hc1 hc2
    go_wp2_with fail
    refine (iTreUp_any a _).mono ?_
    rintro e wcx ⟨vcx, rfl, hox, hbx⟩
    have Nx := hide hox.irow.news
    have hrx : Hid (wcx.ownsRow w3.heap.size 3 1 (.slice (some ⟨w3.heap.size, 0, none⟩) 1 1) 1 [.int .i64 a]) := own_below' (World.ownsRow_lit (base := w3.heap.size) (e := 3) (size := 1) w3 #[.int .i64 a] 1 (Nat.le_refl _) (by unfold maxLen; omega) rfl) hbx
    have hcx : Hid (Below w3.heap.size w3 wcx) := ((Below.refl _ _).alloc (Nat.le_refl _) _).trans (hbx.mono (by simp))
    have hlx : (upOf a).length ≤ 4 := by rw [upOf_chain]; exact chain_len _
    clear hox hbx
    go_wp2_with (at_builtin; refine wpList_append_row _ rfl _ _ 24 rfl w3.heap.size 3 i0 (.int .i64 0) 1 8 Try.underlying24 (unhide hI).1 (unhide hI).2.1 (unhide hI).2.2.1 (unhide hI).2.2.2 rfl (by decide) _ _ _ rfl (unhide hrx) _ _ _ rfl (unhide Nx) (ints_one _) (by unfold maxLen; omega) (by omega) (unhide hcx).size ?_)
    intro vx wx hownx hgx
    have hox2 : OwnI w3.heap.size wx vx (chainOf a) := by
      rw [XA.out]
      unfold OwnI
      rw [List.length_cons, Nat.add_comm]
      exact hownx
    have hbx2 : Below w3.heap.size w3 wx := (unhide hcx).grown hgx (unhide hcx).size (fun k hk => by cases hk; exact Nat.le_refl _)
    have Rx := hide (IIn.of hox2)
    skip
    have HB4 := hide ((unhide HB3).trans (hbx2.mono HB3.out.size))
    have hsx := hbx2.size
    obtain ⟨ox, cx, hvx⟩ := row_form' hox2
    subst hvx
    clear hownx hgx hox2 hbx2 hrx hcx Nx HB3
    go_wp2_with fail
    refine (iTreUp_any b _).mono ?_
    rintro e wcy ⟨vcy, rfl, hoy, hby⟩
    have Ny := hide hoy.irow.news
    have hry : Hid (wcy.ownsRow wx.heap.size 3 1 (.slice (some ⟨wx.heap.size, 0, none⟩) 1 1) 1 [.int .i64 b]) := own_below' (World.ownsRow_lit (base := wx.heap.size) (e := 3) (size := 1) wx #[.int .i64 b] 1 (Nat.le_refl _) (by unfold maxLen; omega) rfl) hby
    have hcy : Hid (Below wx.heap.size wx wcy) := ((Below.refl _ _).alloc (Nat.le_refl _) _).trans (hby.mono (by simp))
    have hly : (upOf b).length ≤ 4 := by rw [upOf_chain]; exact chain_len _
    clear hoy hby
    go_wp2_with (at_builtin; refine wpList_append_row _ rfl _ _ 24 rfl wx.heap.size 3 i0 (.int .i64 0) 1 8 Try.underlying24 (unhide hI).1 (unhide hI).2.1 (unhide hI).2.2.1 (unhide hI).2.2.2 rfl (by decide) _ _ _ rfl (unhide hry) _ _ _ rfl (unhide Ny) (ints_one _) (by unfold maxLen; omega) (by omega) (unhide hcy).size ?_)
    intro vy wy howny hgy
    have hoy2 : OwnI wx.heap.size wy vy (chainOf b) := by
      rw [XB.out]
      unfold OwnI
      rw [List.length_cons, Nat.add_comm]
      exact howny
    have hby2 : Below wx.heap.size wx wy := (unhide hcy).grown hgy (unhide hcy).size (fun k hk => by cases hk; exact Nat.le_refl _)
    have Ry := hide (IIn.of hoy2)
    have Rx2 := hide ((unhide Rx).below (hby2.mono (Nat.le_refl _)))
    have HB5 := hide ((unhide HB4).trans (hby2.mono HB4.out.size))
    have hsy := hby2.size
    obtain ⟨oy, cy, hvy⟩ := row_form' hoy2
    subst hvy
    clear howny hgy hoy2 hby2 hry hcy Ny HB4
    go_wp2_with fail
    refine (iTreUp_any m _).mono ?_
    rintro e wcz ⟨vcz, rfl, hoz, hbz⟩
    have Nz := hide hoz.irow.news
    have hrz : Hid (wcz.ownsRow wy.heap.size 3 1 (.slice (some ⟨wy.heap.size, 0, none⟩) 1 1) 1 [.int .i64 m]) := own_below' (World.ownsRow_lit (base := wy.heap.size) (e := 3) (size := 1) wy #[.int .i64 m] 1 (Nat.le_refl _) (by unfold maxLen; omega) rfl) hbz
    have hcz : Hid (Below wy.heap.size wy wcz) := ((Below.refl _ _).alloc (Nat.le_refl _) _).trans (hbz.mono (by simp))
    have hlz : (upOf m).length ≤ 4 := by rw [upOf_chain]; exact chain_len _
    clear hoz hbz
    go_wp2_with (at_builtin; refine wpList_append_row _ rfl _ _ 24 rfl wy.heap.size 3 i0 (.int .i64 0) 1 8 Try.underlying24 (unhide hI).1 (unhide hI).2.1 (unhide hI).2.2.1 (unhide hI).2.2.2 rfl (by decide) _ _ _ rfl (unhide hrz) _ _ _ rfl (unhide Nz) (ints_one _) (by unfold maxLen; omega) (by omega) (unhide hcz).size ?_)
    intro vz wz hownz hgz
    have hoz2 : OwnI wy.heap.size wz vz (chainOf m) := by
      rw [XM.out]
      unfold OwnI
      rw [List.length_cons, Nat.add_comm]
      exact hownz
    have hbz2 : Below wy.heap.size wy wz := (unhide hcz).grown hgz (unhide hcz).size (fun k hk => by cases hk; exact Nat.le_refl _)
    have Rz := hide (IIn.of hoz2)
    have Rx3 := hide ((unhide Rx2).below (hbz2.mono (Nat.le_refl _)))
    have Ry3 := hide ((unhide Ry).below (hbz2.mono (Nat.le_refl _)))
    have HB6 := hide ((unhide HB5).trans (hbz2.mono HB5.out.size))
    have hsz := hbz2.size
    obtain ⟨oz, cz, hvz⟩ := row_form' hoz2
    subst hvz
    clear hownz hgz hoz2 hbz2 hrz hcz Nz HB5
    have HX := hide XA.out
    generalize chainOf a = X at *
    generalize chainOf b = Y at *
    generalize chainOf m = Z at *
    have Sub : Hid (∀ x, x ∈ X → x ∈ Y → x ∈ Z) := by
      intro x h1 h2
      rw [← HF.out]
      exact List.mem_filter.2 ⟨h1, by simpa using h2⟩
    have MZ : Hid (m ∈ X ∧ m ∈ Y) := by
      have q : m ∈ Z := by rw [XM.out]; simp
      rw [← HF.out] at q
      have q2 := List.mem_filter.1 q
      exact ⟨q2.1, by simpa using q2.2⟩
    have CZ : Hid (cnt X Y X.length = Z.length) := by show _ = _; rw [cnt_all, HF.out]
    clear XA XB XM HX HF
    go_wp2_with fail
    go_loop [9, 10] (fun c i => ∃ k : Nat, k ≤ X.length ∧ i = .int .i64 (k : Int) ∧ c = .int .i64 ((cnt X Y k : Nat) : Int)) (fun _ i => X.length - (intOf i).toNat)
    case atStart => exact ⟨0, by omega, rfl, by rw [cnt_zero]; rfl⟩
    case round =>
      obtain ⟨k, hk, rfl, rfl⟩ := hrel
      by_cases hlt : k < X.length
      · have hlt2 : (k : Int) < (X.length : Int) := by omega
        obtain ⟨q0, q1, q2, q3, q4, q5⟩ := (unhide Rx3).irow.form
        simp only [Value.slice.injEq] at q2
        obtain ⟨rfl, _, rfl⟩ := q2
        obtain ⟨ad, rfl, hck⟩ := q5 k hlt
        clear q5 q3 q4
        have i3 : IntKind.i64.wrap ((k : Int) + 1) = (k : Int) + 1 := by simp [IntKind.wrap, IntKind.bits, IntKind.signed]; omega
        have hcl := cnt_le X Y k
        have hin : Hid (X.getD k 0 ∈ X) := getI_mem hlt
        by_cases hy : X.getD k 0 ∈ Y
        · have C1 := hide (cnt_yes hlt hy)
          have HZ : Hid (X.getD k 0 ∈ Z) := unhide Sub _ hin.out hy
          have HY := hide hy
          clear hy
          generalize X.getD k 0 = y at hck hin HZ HY
          obtain ⟨t, ht⟩ : ∃ t, cnt X Y k = t := ⟨_, rfl⟩
          rw [ht] at C1 hcl ⊢
          clear ht
          have i4 : IntKind.i64.wrap ((t : Int) + 1) = (t : Int) + 1 := by simp [IntKind.wrap, IntKind.bits, IntKind.signed]; omega
          go_wp2_with fail
          refine (keIn_any _ Y y _ (unhide Ry3).irow).mono ?_
          rw [decide_eq_true HY.out]
          rintro e wk ⟨rfl, rfl⟩
          go_wp2_with fail
          refine (keIn_any _ Z y _ (unhide Rz).irow).mono ?_
          rw [decide_eq_true HZ.out]
          rintro e wk ⟨rfl, rfl⟩
          go_wp2_with fail
          exact ⟨⟨k + 1, by omega, by simp, by rw [C1.out]; simp⟩, by simp [intOf]; omega⟩
        · have C1 := hide (cnt_no hlt hy)
          have HY := hide hy
          clear hy
          generalize X.getD k 0 = y at hck hin HY
          obtain ⟨t, ht⟩ : ∃ t, cnt X Y k = t := ⟨_, rfl⟩
          rw [ht] at C1 hcl ⊢
          clear ht
          go_wp2_with fail
          refine (keIn_any _ Y y _ (unhide Ry3).irow).mono ?_
          rw [decide_eq_false HY.out]
          rintro e wk ⟨rfl, rfl⟩
          go_wp2_with fail
          exact ⟨⟨k + 1, by omega, by simp, by rw [C1.out]⟩, by simp [intOf]; omega⟩
      · have hlt2 : decide ((k : Int) < (X.length : Int)) = false := by simp; omega
        have hkn : k = X.length := by omega
        subst hkn
        rw [CZ.out]
        go_wp2_with fail
        refine (keIn_any _ X m _ (unhide Rx3).irow).mono ?_
        rw [decide_eq_true MZ.out.1]
        rintro e wk ⟨rfl, rfl⟩
        go_wp2_with fail
        refine (keIn_any _ Y m _ (unhide Ry3).irow).mono ?_
        rw [decide_eq_true MZ.out.2]
        rintro e wk ⟨rfl, rfl⟩
        go_wp2_with fail
        go_ret
        exact ⟨rfl, unhide HB6⟩
  · have hm : m = -1 := by
      have q := HMM.out
      unfold meetOf at q
      rw [if_neg hab] at q
      omega
    subst hm
    have HAB := hide hab
    clear hab
    by_cases x1 : a < 0
    · clear ha1 ha2 hc1 hc2
      go_wp2_with fail
      refine (keOk_any _).mono ?_
      rintro e wk ⟨rfl, hbk⟩
      go_wp2_with fail
      go_ret
      exact ⟨rfl, HB3.out.trans (hbk.mono HB3.out.size)⟩
    have d1 : decide (a < 0) = false := by simpa using x1
    clear x1
    by_cases x2 : 15 ≤ a
    · clear ha1 ha2 hc1 hc2
      go_wp2_with fail
      refine (keOk_any _).mono ?_
      rintro e wk ⟨rfl, hbk⟩
      go_wp2_with fail
      go_ret
      exact ⟨rfl, HB3.out.trans (hbk.mono HB3.out.size)⟩
    have d2 : decide (15 ≤ a) = false := by simpa using x2
    clear x2
    by_cases x3 : b < 0
    · clear ha1 ha2 hc1 hc2
      go_wp2_with fail
      refine (keOk_any _).mono ?_
      rintro e wk ⟨rfl, hbk⟩
      go_wp2_with fail
      go_ret
      exact ⟨rfl, HB3.out.trans (hbk.mono HB3.out.size)⟩
    have d3 : decide (b < 0) = false := by simpa using x3
    have d4 : 15 ≤ b := by have := HAB.out; simp at d1 d2; omega
    clear x3 ha1 ha2 hc1 hc2
    go_wp2_with fail
    refine (keOk_any _).mono ?_
    rintro e wk ⟨rfl, hbk⟩
    go_wp2_with fail
    go_ret
    exact ⟨rfl, HB3.out.trans (hbk.mono HB3.out.size)⟩

set_option maxRecDepth 100000 in
theorem lifted_FnTreMeet (os : Os) (started : os.Started) (H : Type) (enc : TypeId × Value → H) :
    ReturnsInHanded {} Try.checked os 4 .any (Rows.fnTreMeetSpec.pre6 enc Try.prog Try.f4 Rows.fnTreMeetRow.domain false) (Rows.fnTreMeetSpec.post enc Try.prog Try.f4 false true false false) := by
  refine returnsInHanded_of_change (C := Try.checked) own started (by kernel_rfl) Try.func4
    (ChangeSpec.witness6 (enc := enc) (C := Try.checked) false ⟨#[], #[.slice none 0 0], []⟩ 8 (by kernel_rfl) (by kernel_rfl) (by kernel_rfl) (by kernel_rfl)) ?_
  intro W base args ds gs before hval0 hW hcnd _
  have hval : ∀ (j : Nat) t v, Try.f4.params[j]? = some t → args[j]? = some v → Value.okWide Try.prog W .any base t v := hval0
  have hW' := hW
  obtain ⟨p, q, hA0, hV, rfl, hfz, hnd⟩ := hW
  have hA : DataW.TrodAll enc Try.prog W 0 (fun _ => true) true Try.f4.params.toList args.toList ds p := hA0
  rw [Try.params4] at hA hval
  obtain ⟨v0, vs0, d0, ds0, p0, q0, hargs, rfl, rfl, h0, r0⟩ := trodAll_cons hA
  obtain ⟨rfl, rfl, rfl⟩ := trodAll_nil r0
  obtain rfl : args = #[v0] := by cases args; simp_all
  obtain ⟨rfl, rfl⟩ := trodVars_none hV
  obtain ⟨a0, len0, cap0, rfl⟩ := okWide_slice Try.underlying22 (hval 0 22 v0 rfl rfl)
  have k0 := h0
  have lt0 : ∀ x ∈ p0, x.block < W.heap.size := by obtain ⟨m, hm⟩ := k0; exact DataW.trod_lt m _ _ _ hm
  obtain ⟨z0, w0⟩ : ∃ zs, IsRow .u8 W a0 len0 cap0 zs := by
    obtain ⟨fuel, hf⟩ := h0
    rcases open_ints Try.underlying22 Try.underlying5 (by kernel_rfl) hf with ⟨hcs, _⟩ | ⟨x, l, c, zs, hcs, _, hl, hm, hz, _, hcell, hwz⟩
    · simp [Value.cells] at hcs
      obtain ⟨rfl, rfl, rfl⟩ := hcs
      exact ⟨[], .inl ⟨rfl, rfl, rfl, rfl⟩⟩
    · simp [Value.cells] at hcs
      obtain ⟨rfl, rfl, rfl⟩ := hcs
      exact ⟨zs, .inr ⟨_, rfl, hl, hm, by simpa using hz, hcell, hwz⟩⟩
  clear hA0 hval0
  refine (walk_FnTreMeet a0 len0 cap0 z0 W w0).mono fun e W' ⟨he, bel⟩ => ?_
  subst he
  exact ⟨_, rfl, _, _, _, [], _, [], hW', trodAll_mk1 (shut_bool Try.underlying4 _), (trodAll_cons_mk (Below.trod laidOut (by kernel_rfl) (of_decide_eq_true (by kernel_rfl)) k0 bel lt0) trodAll_mk0), rfl, bel.frame _, fun h => by cases h⟩

theorem fnTreMeet_holds : Rows.FnTreMeetSaid :=
  OpenClaim.holds_of_wide 4 Try.f4 rfl rfl rfl rfl rfl rfl rfl ⟨rfl, rfl, rfl, rfl, rfl⟩ rfl rfl rfl rfl rfl (by kernel_rfl) Try.func4 (by kernel_rfl)
    (of_decide_eq_true (by kernel_rfl)) (by unfold Func.isWrapper; first | (rw [if_pos (by decide +kernel)]; kernel_rfl) | (rw [if_neg (by decide +kernel)]; exact ⟨rfl, rfl⟩))
    (fun os started H enc _ => lifted_FnTreMeet os started H enc)

#print axioms fnTreMeet_holds
end Go.Proofs.Ytenjkhabcpfnaaa
