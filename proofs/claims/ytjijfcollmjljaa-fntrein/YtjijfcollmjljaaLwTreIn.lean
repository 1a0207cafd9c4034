/-
  Proved: at every code the law FnTreIn returns true (TreIn is, rising, all whose places have keys; of TreNew nobody is), and nothing that was there is written. No condition.
-/
import Derived.Test.YtjijfcollmjljaaFnTreInB1
import Derived.Test.YtjijfcollmjljaaFnTreInB5
import Derived.Test.YtjijfcollmjljaaFnTreInB8
import Derived.Test.YtjijfcollmjljaaTreNI
namespace Go.Proofs.Ytjijfcollmjljaa
open Go.ChangeShapes Go.WideShapes Go.ChangeAt Go.RowKit
open Go.ChangeMaps (open_string shut_string)
set_option linter.unusedVariables false

theorem in_mem (xs : List ByteArray) (k : Nat) (hk : k < 8) : decide ((k : Int) ∈ inUp xs 8) = keyed xs (7 + k) := by
  unfold inUp ints
  rw [Bool.eq_iff_iff, decide_eq_true_eq, List.mem_map]
  constructor
  · rintro ⟨z, hz, e⟩
    obtain rfl : z = k := by omega
    exact (List.mem_filter.1 hz).2
  · intro h
    exact ⟨k, List.mem_filter.2 ⟨List.mem_range.2 hk, h⟩, rfl⟩
theorem in_rises (xs : List ByteArray) (j : Nat) (h : j + 1 < (inUp xs 8).length) : (inUp xs 8).getD j 0 < (inUp xs 8).getD (j + 1) 0 := by
  have hp : (inUp xs 8).Pairwise (· < ·) := by
    unfold inUp ints
    rw [List.pairwise_map]
    refine List.Pairwise.imp (R := (· < ·)) (fun hab => by omega) ?_
    exact List.Pairwise.filter _ List.pairwise_lt_range
  rw [List.getD_eq_getElem?_getD, List.getD_eq_getElem?_getD, List.getElem?_eq_getElem (by omega), List.getElem?_eq_getElem h]
  exact List.pairwise_iff_getElem.1 hp j (j + 1) (by omega) h (by omega)
theorem in_bare : inRes bare = [] := by decide
theorem bare_max : ∀ x ∈ bare, x.size ≤ maxLen := fun x hx => by rw [List.eq_of_mem_replicate hx]; exact Nat.zero_le _
theorem bare_ok : treOk bare = true := by decide

set_option maxRecDepth 100000 in
set_option maxHeartbeats 8000000 in
theorem walk_FnTreIn (a0 : Option Addr) (len0 cap0 : Nat) (z0 : List Int) (w : World) (w0 : IsRow .u8 w a0 len0 cap0 z0) :
    Calls Try.prog 4 #[.slice a0 len0 cap0] w fun e w' => e = .returned (.bool true) ∧ Below w.heap.size w w' := by
  have hR := hide w0
  clear w0
  by_cases h : (1048576 : Int) < (len0 : Int)
  · go_enter Try.func4, Try.ntmps4
    go_wp2_with fail
    go_ret
    exact ⟨rfl, Below.refl _ _⟩
  have h2 : decide ((1048576 : Int) < (len0 : Int)) = false := by simpa using h
  clear h
  go_enter Try.func4, Try.ntmps4
  go_wp2_with fail
  refine (DrawTreIn_any a0 len0 cap0 z0 _ (unhide hR)).mono ?_
  rintro e w1 ⟨v, xs, rfl, hG, hb1⟩
  obtain ⟨ao, kp, rfl, _, _, _⟩ := hG.row.1.form
  have HM := hide hG.max
  have T1 := hide (TV.new hG.row.1)
  have HB1 := hide (hb1.trans ((below_new w1 (.cells #[.slice ao xs.length kp] 25)).mono hb1.size))
  clear hG hb1 hR h2
  go_wp2_with fail
  refine (iTreIn_any _ xs _ (unhide T1).row (unhide HM)).mono ?_
  have hlen := inRes_len xs
  obtain ⟨ins, hins⟩ : ∃ ins, inRes xs = ins := ⟨_, rfl⟩
  rw [hins] at hlen ⊢
  have HIN := hide hins
  clear hins
  rintro e w2 ⟨u2, rfl, ho2, hb2⟩
  obtain ⟨uo, uc, hu2⟩ := row_form' ho2
  subst hu2
  have I : Hid (IRow w2.drew (.slice uo ins.length uc) ins) := ho2.irow
  have T := hide ((unhide T1).below hb2).drew
  have HB := hide (HB1.out.trans (hb2.mono HB1.out.size)).drew
  clear ho2 hb2 T1 HB1
  obtain ⟨okb, hok⟩ : ∃ okb, treOk xs = okb := ⟨_, rfl⟩
  have HOK := hide hok
  clear hok
  go_wp2_with fail
  refine wp_region_later (by kernel_rfl) ?_
  refine later_take (i := 0) (d := 14) (v := ?_) (by kernel_rfl) (by kernel_rfl) (by kernel_rfl) (by kernel_rfl) (fun _ _ _ h => h) (fun oi hoi => ?_) ?_
  rotate_left
  · simp at hoi
    subst hoi
    refine ⟨by rfl, fun w' hw' => ?_⟩
    go_simp
    all_goals rfl
  try simp only [Act.put, List.setIfInBounds_toArray, List.set_cons_zero, List.set_cons_succ]
  refine later_take (i := 1) (d := 15) (v := ?_) (by kernel_rfl) (by kernel_rfl) (by kernel_rfl) (by kernel_rfl) (fun _ _ _ h => h) (fun oi hoi => ?_) ?_
  rotate_left
  · simp at hoi
    subst hoi
    refine ⟨by rfl, fun w' hw' => ?_⟩
    have hx := (box_below (unhide T).box hw').cell
    go_simp
    all_goals rfl
  try simp only [Act.put, List.setIfInBounds_toArray, List.set_cons_zero, List.set_cons_succ]
  refine later_one (i := 2) (by kernel_rfl) (fun oi K hoi hK => ?_)
  simp at hoi
  subst hoi
  refine ⟨by rfl, ?_⟩
  go_simp
  refine (sTreIn_any _ xs _ (unhide T).row (unhide HM)).mono ?_
  rw [HIN.out]
  rintro e w3 ⟨u3, rfl, ho3, hb⟩
  go_simp
  refine hK.out _ _ hb ?_
  clear hK
  have J := hide ho3.irow
  clear ho3
  replace T := hide ((unhide T).below hb)
  replace I := hide ((unhide I).below hb)
  replace HB := hide (HB.out.trans (hb.mono HB.out.size))
  clear hb
  try simp only [Act.put, List.setIfInBounds_toArray, List.set_cons_zero, List.set_cons_succ]
  refine later_one (i := 3) (by kernel_rfl) (fun oi K hoi hK => ?_)
  simp at hoi
  subst hoi
  refine ⟨by rfl, ?_⟩
  go_simp
  refine (keInts_any _ u3 ins ins _ (unhide I) (unhide J)).mono ?_
  rw [show decide (ins = ins) = true by simp]
  rintro e w4 ⟨rfl, hb⟩
  go_simp
  refine hK.out _ _ hb ?_
  clear hK
  clear J
  replace T := hide ((unhide T).below hb)
  replace I := hide ((unhide I).below hb)
  replace HB := hide (HB.out.trans (hb.mono HB.out.size))
  clear hb
  try simp only [Act.put, List.setIfInBounds_toArray, List.set_cons_zero, List.set_cons_succ]
  refine later_take (i := 4) (d := 18) (v := ?_) (by kernel_rfl) (by kernel_rfl) (by kernel_rfl) (by kernel_rfl) (fun _ _ _ h => h) (fun oi hoi => ?_) ?_
  rotate_left
  · simp at hoi
    subst hoi
    refine ⟨by rfl, fun w' hw' => ?_⟩
    go_simp
    all_goals rfl
  try simp only [Act.put, List.setIfInBounds_toArray, List.set_cons_zero, List.set_cons_succ]
  refine later_take (i := 5) (d := 19) (v := ?_) (by kernel_rfl) (by kernel_rfl) (by kernel_rfl) (by kernel_rfl) (fun _ _ _ h => h) (fun oi hoi => ?_) ?_
  rotate_left
  · simp at hoi
    subst hoi
    refine ⟨by rfl, fun w' hw' => ?_⟩
    go_simp
    all_goals rfl
  try simp only [Act.put, List.setIfInBounds_toArray, List.set_cons_zero, List.set_cons_succ]
  refine later_take (i := 6) (d := 20) (v := ?_) (by kernel_rfl) (by kernel_rfl) (by kernel_rfl) (by kernel_rfl) (fun _ _ _ h => h) (fun oi hoi => ?_) ?_
  rotate_left
  · simp at hoi
    subst hoi
    refine ⟨by rfl, fun w' hw' => ?_⟩
    have hx := (box_below (unhide T).box hw').cell
    go_simp
    all_goals rfl
  try simp only [Act.put, List.setIfInBounds_toArray, List.set_cons_zero, List.set_cons_succ]
  refine later_take (i := 8) (d := 22) (v := ?_) (by kernel_rfl) (by kernel_rfl) (by kernel_rfl) (by kernel_rfl) (fun _ _ _ h => h) (fun oi hoi => ?_) ?_
  rotate_left
  · simp at hoi
    subst hoi
    refine ⟨by rfl, fun w' hw' => ?_⟩
    have hx := (box_below (unhide T).box hw').cell
    go_simp
    all_goals rfl
  try simp only [Act.put, List.setIfInBounds_toArray, List.set_cons_zero, List.set_cons_succ]
  refine later_one (i := 7) (by kernel_rfl) (fun oi K hoi hK => ?_)
  simp at hoi
  subst hoi
  refine ⟨by rfl, ?_⟩
  go_simp
  refine (iTreOk_any _ xs _ (unhide T).row (unhide HM)).mono ?_
  rw [HOK.out]
  rintro e w5 ⟨rfl, hb⟩
  go_simp
  refine hK.out _ _ hb ?_
  clear hK
  replace T := hide ((unhide T).below hb)
  replace I := hide ((unhide I).below hb)
  replace HB := hide (HB.out.trans (hb.mono HB.out.size))
  clear hb
  try simp only [Act.put, List.setIfInBounds_toArray, List.set_cons_zero, List.set_cons_succ]
  refine later_one (i := 9) (by kernel_rfl) (fun oi K hoi hK => ?_)
  simp at hoi
  subst hoi
  refine ⟨by rfl, ?_⟩
  go_simp
  refine (sTreOk_any _ xs _ (unhide T).row (unhide HM)).mono ?_
  rw [HOK.out]
  rintro e w6 ⟨rfl, hb⟩
  go_simp
  refine hK.out _ _ hb ?_
  clear hK
  replace T := hide ((unhide T).below hb)
  replace I := hide ((unhide I).below hb)
  replace HB := hide (HB.out.trans (hb.mono HB.out.size))
  clear hb
  try simp only [Act.put, List.setIfInBounds_toArray, List.set_cons_zero, List.set_cons_succ]
  refine later_take (i := 10) (d := 24) (v := ?_) (by kernel_rfl) (by kernel_rfl) (by kernel_rfl) (by kernel_rfl) (fun _ _ _ h => h) (fun oi hoi => ?_) ?_
  rotate_left
  · simp at hoi
    subst hoi
    refine ⟨by rfl, fun w' hw' => ?_⟩
    go_simp
    all_goals rfl
  try simp only [Act.put, List.setIfInBounds_toArray, List.set_cons_zero, List.set_cons_succ]
  refine later_take (i := 11) (d := 25) (v := ?_) (by kernel_rfl) (by kernel_rfl) (by kernel_rfl) (by kernel_rfl) (fun _ _ _ h => h) (fun oi hoi => ?_) ?_
  rotate_left
  · simp at hoi
    subst hoi
    refine ⟨by rfl, fun w' hw' => ?_⟩
    go_simp
    all_goals rfl
  try simp only [Act.put, List.setIfInBounds_toArray, List.set_cons_zero, List.set_cons_succ]
  refine later_take (i := 12) (d := 26) (v := ?_) (by kernel_rfl) (by kernel_rfl) (by kernel_rfl) (by kernel_rfl) (fun _ _ _ h => h) (fun oi hoi => ?_) ?_
  rotate_left
  · simp at hoi
    subst hoi
    refine ⟨by rfl, fun w' hw' => ?_⟩
    go_simp
    all_goals rfl
  try simp only [Act.put, List.setIfInBounds_toArray, List.set_cons_zero, List.set_cons_succ]
  refine later_one (i := 13) (by kernel_rfl) (fun oi K hoi hK => ?_)
  simp at hoi
  subst hoi
  refine ⟨by rfl, ?_⟩
  go_simp
  refine (iTreNew_any _).mono ?_
  rintro e w7 ⟨u7, rfl, ho7, hb⟩
  go_simp
  refine hK.out _ _ hb ?_
  clear hK
  have K7 := hide ho7.srow
  clear ho7
  replace T := hide ((unhide T).below hb)
  replace I := hide ((unhide I).below hb)
  replace HB := hide (HB.out.trans (hb.mono HB.out.size))
  clear hb
  try simp only [Act.put, List.setIfInBounds_toArray, List.set_cons_zero, List.set_cons_succ]
  refine later_take (i := 14) (d := 28) (v := ?_) (by kernel_rfl) (by kernel_rfl) (by kernel_rfl) (by kernel_rfl) (fun _ _ _ h => h) (fun oi hoi => ?_) ?_
  rotate_left
  · simp at hoi
    subst hoi
    refine ⟨by rfl, fun w' hw' => ?_⟩
    have hf := keys_op u7 w'
    go_simp
    all_goals rfl
  try simp only [Act.put, List.setIfInBounds_toArray, List.set_cons_zero, List.set_cons_succ]
  refine later_one (i := 15) (by kernel_rfl) (fun oi K hoi hK => ?_)
  simp at hoi
  subst hoi
  refine ⟨by rfl, ?_⟩
  go_simp
  refine (sTreNew_any _).mono ?_
  rintro e w8 ⟨u8, rfl, ho8, hb⟩
  go_simp
  refine hK.out _ _ hb ?_
  clear hK
  have K8 := hide ho8.srow
  clear ho8
  replace T := hide ((unhide T).below hb)
  replace I := hide ((unhide I).below hb)
  replace HB := hide (HB.out.trans (hb.mono HB.out.size))
  replace K7 := hide ((unhide K7).below hb)
  clear hb
  try simp only [Act.put, List.setIfInBounds_toArray, List.set_cons_zero, List.set_cons_succ]
  refine later_take (i := 16) (d := 30) (v := ?_) (by kernel_rfl) (by kernel_rfl) (by kernel_rfl) (by kernel_rfl) (fun _ _ _ h => h) (fun oi hoi => ?_) ?_
  rotate_left
  · simp at hoi
    subst hoi
    refine ⟨by rfl, fun w' hw' => ?_⟩
    have hf := keys_op u8 w'
    go_simp
    all_goals rfl
  try simp only [Act.put, List.setIfInBounds_toArray, List.set_cons_zero, List.set_cons_succ]
  refine later_one (i := 17) (by kernel_rfl) (fun oi K hoi hK => ?_)
  simp at hoi
  subst hoi
  refine ⟨by rfl, ?_⟩
  go_simp
  refine (keTexts_any u7 u8 bare bare _ (unhide K7) (unhide K8)).mono ?_
  rw [show decide (bare = bare) = true by simp]
  rintro e w9 ⟨rfl, hb⟩
  go_simp
  refine hK.out _ _ hb ?_
  clear hK
  clear K7 K8
  replace T := hide ((unhide T).below hb)
  replace I := hide ((unhide I).below hb)
  replace HB := hide (HB.out.trans (hb.mono HB.out.size))
  clear hb
  try simp only [Act.put, List.setIfInBounds_toArray, List.set_cons_zero, List.set_cons_succ]
  refine later_take (i := 18) (d := 32) (v := ?_) (by kernel_rfl) (by kernel_rfl) (by kernel_rfl) (by kernel_rfl) (fun _ _ _ h => h) (fun oi hoi => ?_) ?_
  rotate_left
  · simp at hoi
    subst hoi
    refine ⟨by rfl, fun w' hw' => ?_⟩
    go_simp
    all_goals rfl
  try simp only [Act.put, List.setIfInBounds_toArray, List.set_cons_zero, List.set_cons_succ]
  refine later_take (i := 19) (d := 33) (v := ?_) (by kernel_rfl) (by kernel_rfl) (by kernel_rfl) (by kernel_rfl) (fun _ _ _ h => h) (fun oi hoi => ?_) ?_
  rotate_left
  · simp at hoi
    subst hoi
    refine ⟨by rfl, fun w' hw' => ?_⟩
    go_simp
    all_goals rfl
  try simp only [Act.put, List.setIfInBounds_toArray, List.set_cons_zero, List.set_cons_succ]
  refine later_done (by kernel_rfl) ?_ _
  cases okb with
  | _ => _
  all_goals
    have l1 := (unhide T).box.cell
    go_wp2_with fail
    refine (sTreOk_any _ xs _ (unhide T).row (unhide HM)).mono ?_
    rw [HOK.out]
    rintro e w10 ⟨rfl, hb⟩
    replace T := hide ((unhide T).below hb)
    replace I := hide ((unhide I).below hb)
    replace HB := hide (HB.out.trans (hb.mono HB.out.size))
    clear hb
    clear l1
  · have HE : Hid (ins.length = 0) := by show _ = _; rw [← HIN.out]; unfold inRes; rw [HOK.out]; rfl
    rw [HE.out]
    go_wp2_with fail
    refine (keOk_any _).mono ?_
    rintro e w11 ⟨rfl, hb⟩
    replace T := hide ((unhide T).below hb)
    replace I := hide ((unhide I).below hb)
    replace HB := hide (HB.out.trans (hb.mono HB.out.size))
    clear hb
    go_wp2_with fail
    go_ret
    exact ⟨rfl, unhide HB⟩
  · have HU : Hid (ins = inUp xs 8) := by show _ = _; rw [← HIN.out]; unfold inRes; rw [if_pos HOK.out]
    have HL : Hid (xs.length = 15) := (treOk_iff.1 HOK.out).1
    rw [HL.out] at T ⊢
    go_wp2_with fail
    go_loopw [5] (fun i wr => ∃ k : Nat, k ≤ 8 ∧ i = .int .i64 (k : Int) ∧ Hid (TV w1.heap.size (.slice ao 15 kp) xs wr) ∧ Hid (IRow wr (.slice uo ins.length uc) ins) ∧ Hid (Below w.heap.size w wr)) (fun i _ => 8 - (intOf i).toNat)
    case atStart => exact ⟨0, by omega, rfl, T, I, HB⟩
    case round =>
      clear T I HB
      obtain ⟨k, hk, rfl, T0, I0, HB0⟩ := hrel
      by_cases hlt : k < 8
      · have hlt2 : (k : Int) < 8 := by omega
        have i3 : IntKind.i64.wrap ((k : Int) + 1) = (k : Int) + 1 := by simp [IntKind.wrap, IntKind.bits, IntKind.signed]; omega
        have HKI : Hid (decide ((k : Int) ∈ ins) = keyed xs (7 + k)) := by show _ = _; rw [HU.out]; exact in_mem xs k hlt
        have HLF0 : leafOf (k : Int) = ((7 + k : Nat) : Int) := by unfold leafOf; rw [if_pos (by omega)]; omega
        have hlf1 : 7 + k < 15 := by omega
        obtain ⟨lf, hlf⟩ : ∃ lf, lf = 7 + k := ⟨_, rfl⟩
        rw [← hlf] at HKI HLF0 hlf1
        have hlf2 : (lf : Int) < 15 := by omega
        have HLF := hide HLF0
        clear HLF0 hlf
        have T := hide (unhide T0).drew
        have I := hide (unhide I0).drew
        have HB := hide HB0.out.drew
        clear T0 I0 HB0
        have HQ : ∃ g, (.slice ao 15 kp : Value) = .slice (some g) 15 kp := by
          obtain ⟨ax, cx, qx, _, _, qy⟩ := (unhide T).row.form
          rw [HL.out] at qx qy
          obtain ⟨a', ha', _⟩ := qy 0 (by omega)
          exact ⟨a', by rw [qx, ha']; simp only [Value.slice.injEq] at qx; rw [qx.2.2]⟩
        obtain ⟨g, hg⟩ := HQ
        simp only [Value.slice.injEq] at hg
        obtain ⟨rfl, _, _⟩ := hg
        cases hky : keyed xs lf with
        | true =>
          have HKI2 : Hid (decide ((k : Int) ∈ ins) = true) := by show _ = _; rw [HKI.out, hky]
          have hy1 : xs.getD lf ByteArray.empty ≠ ByteArray.empty := by simpa [keyed] using hky
          obtain ⟨y, hy⟩ : ∃ y, xs.getD lf ByteArray.empty = y := ⟨_, rfl⟩
          rw [hy] at hy1
          have HY := hide hy
          have hyt : y.toList.isEmpty = false := by simpa using no_text hy1
          have hyt2 : ¬ y.toList = [] := no_text hy1
          clear hky hy hy1 HKI
          have HKI := HKI2
          go_wp2_with fail
          refine wp_region_later (by kernel_rfl) ?_
          refine later_take (i := 0) (d := 47) (v := ?_) (by kernel_rfl) (by kernel_rfl) (by kernel_rfl) (by kernel_rfl) (fun _ _ _ h => h) (fun oi hoi => ?_) ?_
          rotate_left
          · simp at hoi
            subst hoi
            refine ⟨by rfl, fun w' hw' => ?_⟩
            go_simp
            all_goals rfl
          try simp only [Act.put, List.setIfInBounds_toArray, List.set_cons_zero, List.set_cons_succ]
          refine later_take (i := 1) (d := 48) (v := ?_) (by kernel_rfl) (by kernel_rfl) (by kernel_rfl) (by kernel_rfl) (fun _ _ _ h => h) (fun oi hoi => ?_) ?_
          rotate_left
          · simp at hoi
            subst hoi
            refine ⟨by rfl, fun w' hw' => ?_⟩
            go_simp
            all_goals rfl
          try simp only [Act.put, List.setIfInBounds_toArray, List.set_cons_zero, List.set_cons_succ]
          refine later_take (i := 3) (d := 50) (v := ?_) (by kernel_rfl) (by kernel_rfl) (by kernel_rfl) (by kernel_rfl) (fun _ _ _ h => h) (fun oi hoi => ?_) ?_
          rotate_left
          · simp at hoi
            subst hoi
            refine ⟨by rfl, fun w' hw' => ?_⟩
            go_simp
            all_goals rfl
          try simp only [Act.put, List.setIfInBounds_toArray, List.set_cons_zero, List.set_cons_succ]
          refine later_take (i := 4) (d := 51) (v := ?_) (by kernel_rfl) (by kernel_rfl) (by kernel_rfl) (by kernel_rfl) (fun _ _ _ h => h) (fun oi hoi => ?_) ?_
          rotate_left
          · simp at hoi
            subst hoi
            refine ⟨by rfl, fun w' hw' => ?_⟩
            have hx := (box_below (unhide T).box hw').cell
            go_simp
            all_goals rfl
          try simp only [Act.put, List.setIfInBounds_toArray, List.set_cons_zero, List.set_cons_succ]
          refine later_take (i := 5) (d := 52) (v := ?_) (by kernel_rfl) (by kernel_rfl) (by kernel_rfl) (by kernel_rfl) (fun _ _ _ h => h) (fun oi hoi => ?_) ?_
          rotate_left
          · simp at hoi
            subst hoi
            refine ⟨by rfl, fun w' hw' => ?_⟩
            go_simp
            all_goals rfl
          try simp only [Act.put, List.setIfInBounds_toArray, List.set_cons_zero, List.set_cons_succ]
          refine later_one (i := 2) (by kernel_rfl) (fun oi K hoi hK => ?_)
          simp at hoi
          subst hoi
          refine ⟨by rfl, ?_⟩
          go_simp
          refine (keIn_any _ ins (k : Int) _ (unhide I)).mono ?_
          rw [HKI.out]
          rintro e wk ⟨rfl, rfl⟩
          go_simp
          refine hK.out _ _ (Below.refl _ _) ?_
          clear hK
          try simp only [Act.put, List.setIfInBounds_toArray, List.set_cons_zero, List.set_cons_succ]
          refine later_one (i := 6) (by kernel_rfl) (fun oi K hoi hK => ?_)
          simp at hoi
          subst hoi
          refine ⟨by rfl, ?_⟩
          go_simp
          refine (iTreLeaf_any (k : Int) _).mono ?_
          rw [HLF.out]
          rintro e wz ⟨rfl, rfl⟩
          go_simp
          refine hK.out _ _ (Below.refl _ _) ?_
          clear hK
          try simp only [Act.put, List.setIfInBounds_toArray, List.set_cons_zero, List.set_cons_succ]
          refine later_take (i := 7) (d := 54) (v := ?_) (by kernel_rfl) (by kernel_rfl) (by kernel_rfl) (by kernel_rfl) (fun _ _ _ h => h) (fun oi hoi => ?_) ?_
          rotate_left
          · simp at hoi
            subst hoi
            refine ⟨by rfl, fun w' hw' => ?_⟩
            go_simp
            all_goals rfl
          try simp only [Act.put, List.setIfInBounds_toArray, List.set_cons_zero, List.set_cons_succ]
          refine later_take (i := 8) (d := 55) (v := ?_) (by kernel_rfl) (by kernel_rfl) (by kernel_rfl) (by kernel_rfl) (fun _ _ _ h => h) (fun oi hoi => ?_) ?_
          rotate_left
          · simp at hoi
            subst hoi
            refine ⟨by rfl, fun w' hw' => ?_⟩
            have hx := ((unhide T).row.below hw').form
            obtain ⟨ax, cx, qx, _, _, qy⟩ := hx
            rw [HL.out] at qx qy
            simp only [Value.slice.injEq] at qx
            obtain ⟨rfl, _, rfl⟩ := qx
            obtain ⟨a', ha', hcx⟩ := qy lf (by omega)
            cases ha'
            rw [HY.out] at hcx
            go_simp
            all_goals rfl
          try simp only [Act.put, List.setIfInBounds_toArray, List.set_cons_zero, List.set_cons_succ]
          refine later_take (i := 9) (d := 56) (v := ?_) (by kernel_rfl) (by kernel_rfl) (by kernel_rfl) (by kernel_rfl) (fun _ _ _ h => h) (fun oi hoi => ?_) ?_
          rotate_left
          · simp at hoi
            subst hoi
            refine ⟨by rfl, fun w' hw' => ?_⟩
            go_simp
            all_goals rfl
          try simp only [Act.put, List.setIfInBounds_toArray, List.set_cons_zero, List.set_cons_succ]
          refine later_take (i := 10) (d := 57) (v := ?_) (by kernel_rfl) (by kernel_rfl) (by kernel_rfl) (by kernel_rfl) (fun _ _ _ h => h) (fun oi hoi => ?_) ?_
          rotate_left
          · simp at hoi
            subst hoi
            refine ⟨by rfl, fun w' hw' => ?_⟩
            go_simp
            all_goals rfl
          try simp only [Act.put, List.setIfInBounds_toArray, List.set_cons_zero, List.set_cons_succ]
          refine later_done (by kernel_rfl) ?_ _
          go_wp2_with fail
          go_roundw
          case rel => exact ⟨k + 1, by omega, by simp, T, I, HB⟩
          case measure => simp [intOf]; omega
        | false =>
          have HKI2 : Hid (decide ((k : Int) ∈ ins) = false) := by show _ = _; rw [HKI.out, hky]
          have hy1 : xs.getD lf ByteArray.empty = ByteArray.empty := by simpa [keyed] using hky
          have HY := hide hy1
          have hyt : (ByteArray.empty).toList = [] := nil_text
          clear hky hy1 HKI
          have HKI := HKI2
          go_wp2_with fail
          refine wp_region_later (by kernel_rfl) ?_
          refine later_take (i := 0) (d := 47) (v := ?_) (by kernel_rfl) (by kernel_rfl) (by kernel_rfl) (by kernel_rfl) (fun _ _ _ h => h) (fun oi hoi => ?_) ?_
          rotate_left
          · simp at hoi
            subst hoi
            refine ⟨by rfl, fun w' hw' => ?_⟩
            go_simp
            all_goals rfl
          try simp only [Act.put, List.setIfInBounds_toArray, List.set_cons_zero, List.set_cons_succ]
          refine later_take (i := 1) (d := 48) (v := ?_) (by kernel_rfl) (by kernel_rfl) (by kernel_rfl) (by kernel_rfl) (fun _ _ _ h => h) (fun oi hoi => ?_) ?_
          rotate_left
          · simp at hoi
            subst hoi
            refine ⟨by rfl, fun w' hw' => ?_⟩
            go_simp
            all_goals rfl
          try simp only [Act.put, List.setIfInBounds_toArray, List.set_cons_zero, List.set_cons_succ]
          refine later_take (i := 3) (d := 50) (v := ?_) (by kernel_rfl) (by kernel_rfl) (by kernel_rfl) (by kernel_rfl) (fun _ _ _ h => h) (fun oi hoi => ?_) ?_
          rotate_left
          · simp at hoi
            subst hoi
            refine ⟨by rfl, fun w' hw' => ?_⟩
            go_simp
            all_goals rfl
          try simp only [Act.put, List.setIfInBounds_toArray, List.set_cons_zero, List.set_cons_succ]
          refine later_take (i := 4) (d := 51) (v := ?_) (by kernel_rfl) (by kernel_rfl) (by kernel_rfl) (by kernel_rfl) (fun _ _ _ h => h) (fun oi hoi => ?_) ?_
          rotate_left
          · simp at hoi
            subst hoi
            refine ⟨by rfl, fun w' hw' => ?_⟩
            have hx := (box_below (unhide T).box hw').cell
            go_simp
            all_goals rfl
          try simp only [Act.put, List.setIfInBounds_toArray, List.set_cons_zero, List.set_cons_succ]
          refine later_take (i := 5) (d := 52) (v := ?_) (by kernel_rfl) (by kernel_rfl) (by kernel_rfl) (by kernel_rfl) (fun _ _ _ h => h) (fun oi hoi => ?_) ?_
          rotate_left
          · simp at hoi
            subst hoi
            refine ⟨by rfl, fun w' hw' => ?_⟩
            go_simp
            all_goals rfl
          try simp only [Act.put, List.setIfInBounds_toArray, List.set_cons_zero, List.set_cons_succ]
          refine later_one (i := 2) (by kernel_rfl) (fun oi K hoi hK => ?_)
          simp at hoi
          subst hoi
          refine ⟨by rfl, ?_⟩
          go_simp
          refine (keIn_any _ ins (k : Int) _ (unhide I)).mono ?_
          rw [HKI.out]
          rintro e wk ⟨rfl, rfl⟩
          go_simp
          refine hK.out _ _ (Below.refl _ _) ?_
          clear hK
          try simp only [Act.put, List.setIfInBounds_toArray, List.set_cons_zero, List.set_cons_succ]
          refine later_one (i := 6) (by kernel_rfl) (fun oi K hoi hK => ?_)
          simp at hoi
          subst hoi
          refine ⟨by rfl, ?_⟩
          go_simp
          refine (iTreLeaf_any (k : Int) _).mono ?_
          rw [HLF.out]
          rintro e wz ⟨rfl, rfl⟩
          go_simp
          refine hK.out _ _ (Below.refl _ _) ?_
          clear hK
          try simp only [Act.put, List.setIfInBounds_toArray, List.set_cons_zero, List.set_cons_succ]
          refine later_take (i := 7) (d := 54) (v := ?_) (by kernel_rfl) (by kernel_rfl) (by kernel_rfl) (by kernel_rfl) (fun _ _ _ h => h) (fun oi hoi => ?_) ?_
          rotate_left
          · simp at hoi
            subst hoi
            refine ⟨by rfl, fun w' hw' => ?_⟩
            go_simp
            all_goals rfl
          try simp only [Act.put, List.setIfInBounds_toArray, List.set_cons_zero, List.set_cons_succ]
          refine later_take (i := 8) (d := 55) (v := ?_) (by kernel_rfl) (by kernel_rfl) (by kernel_rfl) (by kernel_rfl) (fun _ _ _ h => h) (fun oi hoi => ?_) ?_
          rotate_left
          · simp at hoi
            subst hoi
            refine ⟨by rfl, fun w' hw' => ?_⟩
            have hx := ((unhide T).row.below hw').form
            obtain ⟨ax, cx, qx, _, _, qy⟩ := hx
            rw [HL.out] at qx qy
            simp only [Value.slice.injEq] at qx
            obtain ⟨rfl, _, rfl⟩ := qx
            obtain ⟨a', ha', hcx⟩ := qy lf (by omega)
            cases ha'
            rw [HY.out] at hcx
            go_simp
            all_goals rfl
          try simp only [Act.put, List.setIfInBounds_toArray, List.set_cons_zero, List.set_cons_succ]
          refine later_take (i := 9) (d := 56) (v := ?_) (by kernel_rfl) (by kernel_rfl) (by kernel_rfl) (by kernel_rfl) (fun _ _ _ h => h) (fun oi hoi => ?_) ?_
          rotate_left
          · simp at hoi
            subst hoi
            refine ⟨by rfl, fun w' hw' => ?_⟩
            go_simp
            all_goals rfl
          try simp only [Act.put, List.setIfInBounds_toArray, List.set_cons_zero, List.set_cons_succ]
          refine later_take (i := 10) (d := 57) (v := ?_) (by kernel_rfl) (by kernel_rfl) (by kernel_rfl) (by kernel_rfl) (fun _ _ _ h => h) (fun oi hoi => ?_) ?_
          rotate_left
          · simp at hoi
            subst hoi
            refine ⟨by rfl, fun w' hw' => ?_⟩
            go_simp
            all_goals rfl
          try simp only [Act.put, List.setIfInBounds_toArray, List.set_cons_zero, List.set_cons_succ]
          refine later_done (by kernel_rfl) ?_ _
          go_wp2_with fail
          go_roundw
          case rel => exact ⟨k + 1, by omega, by simp, T, I, HB⟩
          case measure => simp [intOf]; omega
      · have hlt2 : decide ((k : Int) < 8) = false := by simp; omega
        obtain rfl : k = 8 := by omega
        go_wp2_with fail
        go_loopw [6] (fun i wq => ∃ j : Nat, 1 ≤ j ∧ i = .int .i64 (j : Int) ∧ Hid (IRow wq (.slice uo ins.length uc) ins) ∧ Hid (Below w.heap.size w wq)) (fun i _ => ins.length - (intOf i).toNat)
        case atStart => exact ⟨1, by omega, rfl, I0, HB0⟩
        case round =>
          clear T0 I0 HB0
          obtain ⟨j, hj, rfl, I, HB⟩ := hrel
          by_cases hlt : j < ins.length
          · have hlj : (j : Int) < (ins.length : Int) := by omega
            have i3 : IntKind.i64.wrap ((j : Int) + 1) = (j : Int) + 1 := by simp [IntKind.wrap, IntKind.bits, IntKind.signed]; omega
            obtain ⟨m, hm⟩ : ∃ m : Nat, m + 1 = j := ⟨j - 1, by omega⟩
            have i4 : IntKind.i64.wrap ((j : Int) - 1) = (m : Int) := by simp [IntKind.wrap, IntKind.bits, IntKind.signed]; omega
            have hmj : (m : Int) < (ins.length : Int) := by omega
            have hrs : ins.getD m 0 < ins.getD j 0 := by
              have := in_rises xs m (by rw [← HU.out]; omega)
              rw [← HU.out, hm] at this
              exact this
            obtain ⟨ax, cx, qx, _, _, qy⟩ := (unhide I).form
            simp only [Value.slice.injEq] at qx
            obtain ⟨rfl, _, rfl⟩ := qx
            obtain ⟨ad, rfl, hc1⟩ := qy m (by omega)
            obtain ⟨ad2, he2, hc2⟩ := qy j hlt
            cases he2
            clear qy hm
            generalize ins.getD m 0 = x at hc1 hrs
            generalize ins.getD j 0 = y at hc2 hrs
            have hge : decide (y ≤ x) = false := by simpa using hrs
            go_wp2_with fail
            go_quiet (fail)
            go_wp2_with fail
            go_roundw
            case rel => exact ⟨j + 1, by omega, by simp, (unhide I).below (below_drewN (Below.refl _ _) _), below_drewN (unhide HB) _⟩
            case measure => simp [intOf]; omega
          · have hlj : decide ((j : Int) < (ins.length : Int)) = false := by simp; omega
            go_wp2_with fail
            refine (iTreNew_any _).mono ?_
            rintro e wa ⟨ua, rfl, hoa, hba⟩
            have Ra := hide hoa.srow
            have HBa := hide (HB.out.trans (hba.mono HB.out.size))
            clear hoa hba HB I
            go_wp2_with fail
            refine (iTreOk_any _ bare _ (unhide Ra) bare_max).mono ?_
            rw [bare_ok]
            rintro e wb ⟨rfl, hbb⟩
            have HBb := hide (HBa.out.trans (hbb.mono HBa.out.size))
            clear hbb HBa Ra
            go_wp2_with fail
            refine (iTreNew_any _).mono ?_
            rintro e wc ⟨uc2, rfl, hoc, hbc⟩
            have Rc := hide hoc.srow
            have HBc := hide (HBb.out.trans (hbc.mono HBb.out.size))
            clear hoc hbc HBb
            go_wp2_with fail
            refine (iTreIn_any _ bare _ (unhide Rc) bare_max).mono ?_
            rw [in_bare]
            rintro e wd ⟨ud, rfl, hod, hbd⟩
            have HBd := hide (HBc.out.trans (hbd.mono HBc.out.size))
            obtain ⟨uo4, uc4, hu4⟩ := row_form' hod
            subst hu4
            clear hod hbd HBc Rc
            go_wp2_with fail
            go_ret
            exact ⟨rfl, unhide HBd⟩

set_option maxRecDepth 100000 in
theorem lifted_FnTreIn (os : Os) (started : os.Started) (H : Type) (enc : TypeId × Value → H) :
    ReturnsInHanded {} Try.checked os 4 .any (Rows.fnTreInSpec.pre6 enc Try.prog Try.f4 Rows.fnTreInRow.domain false) (Rows.fnTreInSpec.post enc Try.prog Try.f4 false true false false) := by
  refine returnsInHanded_of_change (C := Try.checked) own started (by kernel_rfl) Try.func4
    (ChangeSpec.witness6 (enc := enc) (C := Try.checked) false ⟨#[], #[.slice none 0 0], []⟩ 8 (by kernel_rfl) (by kernel_rfl) (by kernel_rfl) (by kernel_rfl)) ?_
  intro W base args ds gs before hval0 hW hcnd _
  have hval : ∀ (j : Nat) t v, Try.f4.params[j]? = some t → args[j]? = some v → Value.okWide Try.prog W .any base t v := hval0
  have hW' := hW
  obtain ⟨p, q, hA0, hV, rfl, hfz, hnd⟩ := hW
  have hA : DataW.TrodAll enc Try.prog W 0 (fun _ => true) true Try.f4.params.toList args.toList ds p := hA0
  rw [Try.params4] at hA hval
  obtain ⟨v0, vs0, d0, ds0, p0, q0, hargs, rfl, rfl, h0, r0⟩ := trodAll_cons hA
  obtain ⟨rfl, rfl, rfl⟩ := trodAll_nil r0
  obtain rfl : args = #[v0] := by cases args; simp_all
  obtain ⟨rfl, rfl⟩ := trodVars_none hV
  obtain ⟨a0, len0, cap0, rfl⟩ := okWide_slice Try.underlying22 (hval 0 22 v0 rfl rfl)
  have k0 := h0
  have lt0 : ∀ x ∈ p0, x.block < W.heap.size := by obtain ⟨m, hm⟩ := k0; exact DataW.trod_lt m _ _ _ hm
  obtain ⟨z0, w0⟩ : ∃ zs, IsRow .u8 W a0 len0 cap0 zs := by
    obtain ⟨fuel, hf⟩ := h0
    rcases open_ints Try.underlying22 Try.underlying5 (by kernel_rfl) hf with ⟨hcs, _⟩ | ⟨x, l, c, zs, hcs, _, hl, hm, hz, _, hcell, hwz⟩
    · simp [Value.cells] at hcs
      obtain ⟨rfl, rfl, rfl⟩ := hcs
      exact ⟨[], .inl ⟨rfl, rfl, rfl, rfl⟩⟩
    · simp [Value.cells] at hcs
      obtain ⟨rfl, rfl, rfl⟩ := hcs
      exact ⟨zs, .inr ⟨_, rfl, hl, hm, by simpa using hz, hcell, hwz⟩⟩
  clear hA0 hval0
  refine (walk_FnTreIn a0 len0 cap0 z0 W w0).mono fun e W' ⟨he, bel⟩ => ?_
  subst he
  exact ⟨_, rfl, _, _, _, [], _, [], hW', trodAll_mk1 (shut_bool Try.underlying4 _), (trodAll_cons_mk (Below.trod laidOut (by kernel_rfl) (of_decide_eq_true (by kernel_rfl)) k0 bel lt0) trodAll_mk0), rfl, bel.frame _, fun h => by cases h⟩

theorem fnTreIn_holds : Rows.FnTreInSaid :=
  OpenClaim.holds_of_wide 4 Try.f4 rfl rfl rfl rfl rfl rfl rfl ⟨rfl, rfl, rfl, rfl, rfl⟩ rfl rfl rfl rfl rfl (by kernel_rfl) Try.func4 (by kernel_rfl)
    (of_decide_eq_true (by kernel_rfl)) (by unfold Func.isWrapper; first | (rw [if_pos (by decide +kernel)]; kernel_rfl) | (rw [if_neg (by decide +kernel)]; exact ⟨rfl, rfl⟩))
    (fun os started H enc _ => lifted_FnTreIn os started H enc)

#print axioms fnTreIn_holds
end Go.Proofs.Ytjijfcollmjljaa
