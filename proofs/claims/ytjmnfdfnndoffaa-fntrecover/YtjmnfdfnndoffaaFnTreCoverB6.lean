/-
  The spec's places: TreLeaf, TreSide, TreMeet, TreUp.
-/
import Derived.Test.YtjmnfdfnndoffaaFnTreCoverB3
import Derived.Test.YtjmnfdfnndoffaaFnTreCoverB2
import Derived.Test.YtjmnfdfnndoffaaFnTreCoverB4
import Derived.Deep.RegionHeld3
import Derived.Test.YtjmnfdfnndoffaaFnTreCoverB5
namespace Go.Proofs.Ytjmnfdfnndoffaa
open Go.RowKit

set_option maxHeartbeats 400000 in
theorem sTreLeaf_any (who : Int) (w : World) :
    Calls Try.prog 62 #[.int .i64 who] w fun e w' => e = .returned (.int .i64 (leafOf who)) ∧ w' = w := by
  by_cases h : 0 ≤ who ∧ who ≤ 7
  · obtain ⟨h1, h2⟩ := h
    have hl : leafOf who = 7 + who := by unfold leafOf; rw [if_pos ⟨h1, h2⟩]
    rw [hl]
    have HH := hide hl
    clear hl
    have i3 : IntKind.i64.wrap (7 + who) = 7 + who := by simp [IntKind.wrap, IntKind.bits, IntKind.signed]; omega
    go_enter Try.func62, Try.ntmps62
    go_wp2_with fail
    refine (l1In_yes _ _ _ _ (by omega) (by omega)).mono ?_
    rintro e w1 ⟨rfl, rfl⟩
    go_wp2_with fail
    go_ret
    exact ⟨rfl, rfl⟩
  · have hl : leafOf who = -1 := by unfold leafOf; rw [if_neg h]
    rw [hl]
    have HH := hide h
    clear hl h
    go_enter Try.func62, Try.ntmps62
    go_wp2_with fail
    refine (l1In_no _ _ _ _ (by have := HH.out; omega)).mono ?_
    rintro e w1 ⟨rfl, rfl⟩
    go_wp2_with fail
    go_ret
    exact ⟨rfl, rfl⟩

theorem half_wrap (x : Nat) (h0 : 0 < x) (h : x < 15) : IntKind.i64.wrap ((x : Int) - 1) = (x : Int) - 1 ∧ IntKind.i64.wrap (((x : Int) - 1).tdiv 2) = (((x - 1) / 2 : Nat) : Int) := by
  constructor
  · simp [IntKind.wrap, IntKind.bits, IntKind.signed]; omega
  · rw [show ((x : Int) - 1) = ((x - 1 : Nat) : Int) by omega, Int.tdiv_eq_ediv_of_nonneg (by omega)]
    have : ((x - 1 : Nat) : Int) / 2 = (((x - 1) / 2 : Nat) : Int) := by omega
    rw [this]
    simp [IntKind.wrap, IntKind.bits, IntKind.signed]
    omega

set_option maxRecDepth 100000 in
set_option maxHeartbeats 4000000 in
theorem sTreUp_any (n : Int) (w : World) :
    Calls Try.prog 64 #[.int .i64 n] w fun e w' => ∃ v, e = .returned v ∧ OwnI w.heap.size w' v (upOf n) ∧ Below w.heap.size w w' := by
  obtain ⟨i0, hi, hz0, hz1, hz2⟩ := info_parts info_int2
  have hI := hide (And.intro hi (And.intro hz0 (And.intro hz1 hz2)))
  clear hi hz0 hz1 hz2
  have hO0 : Hid (OwnI w.heap.size (w.alloc (Obj.cells #[] 3)) (.slice (some ⟨w.heap.size, 0, none⟩) 0 0) []) := by
    have h := World.ownsRow_lit (base := w.heap.size) (e := 3) (size := 1) w #[] 0 (Nat.le_refl _) (by unfold maxLen; omega) rfl
    exact h
  have hL0 := hide ((Below.refl w.heap.size w).alloc (Nat.le_refl _) (Obj.cells #[] 3))
  by_cases h : 0 ≤ n ∧ n ≤ 14
  · obtain ⟨x, rfl⟩ : ∃ k : Nat, n = (k : Int) := ⟨n.toNat, by omega⟩
    have hx : x < 15 := by omega
    have hl : Hid (upOf (x : Int) = (ups x).map (fun (k : Nat) => (k : Int))) := by show upOf (x : Int) = _; unfold upOf; rw [if_pos h]; rfl
    clear h
    go_enter Try.func64, Try.ntmps64
    go_wp2_with fail
    refine (l1In_yes _ _ _ _ (by omega) (by omega)).mono ?_
    rintro e w1 ⟨rfl, rfl⟩
    go_wp2_with fail
    go_loopw [3, 4] (fun o i wr => ∃ (k : Nat) (out : List Int), k < 15 ∧ i = .int .i64 (k : Int) ∧ Hid (OwnI w.heap.size wr o out) ∧ Hid (Below w.heap.size w wr) ∧ Hid (out ++ (ups k).map (fun (k : Nat) => (k : Int)) = (ups x).map (fun (k : Nat) => (k : Int)))) (fun _ i _ => (intOf i).toNat)
    case atStart => exact ⟨x, [], hx, rfl, hO0, hL0, rfl⟩
    case round =>
      clear hO0 hL0
      obtain ⟨k, out, hk, rfl, hO, hL, hU⟩ := hrel
      have hle := hL.out.size
      have hol : out.length ≤ 3 := by
        have q := congrArg List.length hU.out
        rw [List.length_append, List.length_map, List.length_map] at q
        have := ups_len x hx
        omega
      by_cases h0 : 0 < k
      · have h02 : (0 : Int) < (k : Int) := by omega
        obtain ⟨i1, i2⟩ := half_wrap k h0 hk
        have hs := hide (ups_step k hk h0)
        have hp : (k - 1) / 2 < 15 := by omega
        have hpk : (k - 1) / 2 < k := by omega
        generalize (k - 1) / 2 = p at i2 hs hp hpk
        go_wp2_with (at_builtin; refine wpList_append_own _ rfl _ _ 28 rfl w.heap.size 3 i0 (.int .i64 0) 1 8 Try.underlying28 (unhide hI).1 (unhide hI).2.1 (unhide hI).2.2.1 (unhide hI).2.2.2 rfl (by decide) _ _ _ rfl ((unhide hO).alloc _) ⟨wr.heap.size, 0, none⟩ 1 1 [.int .i64 (p : Int)] rfl rfl ?c1 ?c2 ?c3 ?c4 ?c5 ?_)
        case c1 =>
          intro j u hj
          match j, hj with
          | 0, hj => simp at hj; subst hj; simp [Addr.add]
        case c2 => intro u hu; simp at hu; subst hu; rfl
        case c3 => unfold maxLen; omega
        case c4 => omega
        case c5 => simp; omega
        intro v' w7 hown' hgrow _
        have R := OwnI.grow (unhide hO) (unhide hL) (Nat.le_refl _) hown' hgrow
        have R1 := hide R.1
        have R2 := hide R.2
        have R3 : Hid ((out ++ [(p : Int)]) ++ (ups p).map (fun (k : Nat) => (k : Int)) = (ups x).map (fun (k : Nat) => (k : Int))) := by
          show (out ++ [(p : Int)]) ++ _ = _
          rw [← hU.out, hs.out, List.map_cons, List.append_assoc]
          rfl
        clear R hown' hgrow hO hL hU
        go_wp2_with fail
        go_roundw
        case rel => exact ⟨p, out ++ [(p : Int)], hp, rfl, R1, R2, R3⟩
        case measure => simp [intOf]; omega
      · have h02 : decide ((0 : Int) < (k : Int)) = false := by simp; omega
        have hk0 : k = 0 := by omega
        subst hk0
        have hU2 : Hid (out = upOf (x : Int)) := by
          show out = _
          have q := hU.out
          rw [ups_zero, List.map_nil, List.append_nil] at q
          rw [hl.out]
          exact q
        clear hU h0 hk
        go_wp2_with fail
        go_ret
        exact ⟨_, rfl, by rw [← hU2.out]; exact unhide hO, unhide hL⟩
  · have hl : Hid (upOf n = []) := by show upOf n = []; unfold upOf; rw [if_neg h]
    have HH := hide h
    clear h
    go_enter Try.func64, Try.ntmps64
    go_wp2_with fail
    refine (l1In_no _ _ _ _ (by have := HH.out; omega)).mono ?_
    rintro e w1 ⟨rfl, rfl⟩
    go_wp2_with fail
    go_ret
    exact ⟨_, rfl, by rw [hl.out]; exact unhide hO0, unhide hL0⟩
#print axioms sTreUp_any
end Go.Proofs.Ytjmnfdfnndoffaa
/-
  TreIn of both sides.
-/
namespace Go.Proofs.Ytjmnfdfnndoffaa
open Go.RowKit

/-- Who of the first k is in. -/
def inUp (xs : List ByteArray) (k : Nat) : List Int := ints ((List.range k).filter fun k => keyed xs (7 + k))
theorem inUp_zero (xs : List ByteArray) : inUp xs 0 = [] := rfl
theorem inUp_yes {xs : List ByteArray} {k : Nat} (h : keyed xs (7 + k) = true) : inUp xs (k + 1) = inUp xs k ++ [(k : Int)] := by
  unfold inUp ints
  rw [List.range_succ, List.filter_append, List.map_append]
  simp [h]
theorem inUp_no {xs : List ByteArray} {k : Nat} (h : keyed xs (7 + k) = false) : inUp xs (k + 1) = inUp xs k := by
  unfold inUp ints
  rw [List.range_succ, List.filter_append, List.map_append]
  simp [h]
theorem inUp_len (xs : List ByteArray) (k : Nat) : (inUp xs k).length ≤ k := by
  unfold inUp ints
  rw [List.length_map]
  exact Nat.le_trans (List.length_filter_le _ _) (by simp)
/-- Who is in. -/
def inRes (xs : List ByteArray) : List Int := if treOk xs = true then inUp xs 8 else []
theorem inRes_len (xs : List ByteArray) : (inRes xs).length ≤ 8 := by
  unfold inRes
  split
  · exact inUp_len xs 8
  · simp

set_option maxRecDepth 100000 in
set_option maxHeartbeats 4000000 in
theorem iTreIn_any (v : Value) (xs : List ByteArray) (w : World) (h : SRow w v xs) (hx : ∀ x ∈ xs, x.size ≤ maxLen) :
    Calls Try.prog 13 #[.agg #[v]] w fun e w' => ∃ u, e = .returned u ∧ OwnI w.heap.size w' u (inRes xs) ∧ Below w.heap.size w w' := by
  obtain ⟨i0, hi, hz0, hz1, hz2⟩ := info_parts info_int2
  have hI := hide (And.intro hi (And.intro hz0 (And.intro hz1 hz2)))
  clear hi hz0 hz1 hz2
  obtain ⟨ao, cap, rfl, h1, h2, _⟩ := h.form
  have HX := hide hx
  have hR := hide h
  clear h hx
  go_enter Try.func13, Try.ntmps13
  go_wp2_with fail
  refine (iTreOk_any _ xs _ ((unhide hR).below ((Below.refl _ _).alloc (Nat.le_refl _) _)) (unhide HX)).mono ?_
  rintro e w1 ⟨rfl, hb1⟩
  have A1 := hide (box_below (Boxed.new w 25 (.slice ao xs.length cap)) hb1)
  have HB1 : Hid (Below w.heap.size w w1) := ((Below.refl _ _).alloc (Nat.le_refl _) _).trans (hb1.mono (by simp))
  have hs1 := hb1.size
  rw [World.size_alloc] at hs1
  have O1 : Hid (OwnI (w.heap.size + 1) w1 (.slice none 0 0) []) := World.ownsRow_nil _ _ _ _
  clear hb1
  cases hk : treOk xs with
  | false =>
    have HE : Hid (inRes xs = []) := by show _ = _; unfold inRes; rw [hk]; rfl
    clear hk
    go_wp2_with fail
    go_ret
    exact ⟨_, rfl, by rw [HE.out]; exact World.ownsRow_nil _ _ _ _, unhide HB1⟩
  | true =>
    have HE : Hid (inRes xs = inUp xs 8) := by show _ = _; unfold inRes; rw [hk]; rfl
    have HL : Hid (xs.length = 15) := (treOk_iff.1 hk).1
    clear hk
    go_wp2_with fail
    go_loopw [3, 8] (fun o i wr => ∃ k : Nat, k ≤ 8 ∧ i = .int .i64 (k : Int) ∧ Hid (OwnI (w.heap.size + 1) wr o (inUp xs k)) ∧ Hid (Boxed wr w.heap.size 25 (.slice ao xs.length cap)) ∧ Hid (Below w.heap.size w wr)) (fun _ i _ => 8 - (intOf i).toNat)
    case atStart => exact ⟨0, by omega, rfl, O1, A1, HB1⟩
    case round =>
      clear O1 A1 HB1 hs1
      obtain ⟨k, hk, rfl, hO, hA, hB⟩ := hrel
      have hle := hB.out.size
      have hlA := (unhide hA).lt
      by_cases hlt : k < 8
      · have hlt2 : (k : Int) < 8 := by omega
        have i3 : IntKind.i64.wrap ((k : Int) + 1) = (k : Int) + 1 := by simp [IntKind.wrap, IntKind.bits, IntKind.signed]; omega
        obtain ⟨ao', c1, q1, _, _, q2⟩ := (SRow.below (unhide hR) (unhide hB)).form
        simp only [Value.slice.injEq] at q1
        obtain ⟨rfl, _, rfl⟩ := q1
        obtain ⟨a, rfl, hck⟩ := q2 (7 + k) (by rw [HL.out]; omega)
        clear q2
        have hLf : Hid (leafOf (k : Int) = ((7 + k : Nat) : Int)) := by show _ = _; unfold leafOf; rw [if_pos (by omega)]; omega
        have hll := inUp_len xs k
        have HLL : Hid (xs.length = 15) := HL
        rw [HL.out] at hA h1 ⊢
        obtain ⟨n7, hn7⟩ : ∃ n : Nat, n = 7 + k := ⟨_, rfl⟩
        rw [← hn7] at hck hLf
        have j1 : (n7 : Int) < 15 := by omega
        have HK : Hid (keyed xs n7 = decide (xs.getD n7 ByteArray.empty ≠ ByteArray.empty)) := rfl
        have HY1 : Hid (keyed xs n7 = true → inUp xs (k + 1) = inUp xs k ++ [(k : Int)]) := by rw [hn7]; exact inUp_yes
        have HN1 : Hid (keyed xs n7 = false → inUp xs (k + 1) = inUp xs k) := by rw [hn7]; exact inUp_no
        clear hn7
        generalize xs.getD n7 ByteArray.empty = y at hck HK
        by_cases hy : y = ByteArray.empty
        · have hN := hide (HN1.out (by rw [HK.out]; simp [hy]))
          have hne : y.toList = [] := by rw [hy]; exact nil_text
          have hne2 : y.toList.isEmpty = true := by rw [hne]; rfl
          clear hy HY1 HN1 HK
          go_wp2_with fail
          refine wp_region_later (by kernel_rfl) ?_
          refine later_take (i := 0) (d := 11) (v := ?_) (by kernel_rfl) (by kernel_rfl) (by kernel_rfl) (by kernel_rfl) (fun _ _ _ h => h) (fun oi hoi => ?_) ?_
          rotate_left
          · simp at hoi
            subst hoi
            refine ⟨by rfl, fun w' hw' => ?_⟩
            go_simp
            all_goals rfl
          try simp only [Act.put, List.setIfInBounds_toArray, List.set_cons_zero, List.set_cons_succ]
          refine later_take (i := 1) (d := 12) (v := ?_) (by kernel_rfl) (by kernel_rfl) (by kernel_rfl) (by kernel_rfl) (fun _ _ _ h => h) (fun oi hoi => ?_) ?_
          rotate_left
          · simp at hoi
            subst hoi
            refine ⟨by rfl, fun w' hw' => ?_⟩
            have hx := (box_below (w := wr.drew) (unhide hA) hw').cell
            go_simp
            all_goals rfl
          try simp only [Act.put, List.setIfInBounds_toArray, List.set_cons_zero, List.set_cons_succ]
          refine later_take (i := 2) (d := 13) (v := ?_) (by kernel_rfl) (by kernel_rfl) (by kernel_rfl) (by kernel_rfl) (fun _ _ _ h => h) (fun oi hoi => ?_) ?_
          rotate_left
          · simp at hoi
            subst hoi
            refine ⟨by rfl, fun w' hw' => ?_⟩
            go_simp
            all_goals rfl
          try simp only [Act.put, List.setIfInBounds_toArray, List.set_cons_zero, List.set_cons_succ]
          refine later_one (i := 3) (by kernel_rfl) (fun oi K hoi hK => ?_)
          simp at hoi
          subst hoi
          refine ⟨by rfl, ?_⟩
          go_simp
          refine (placeOf_any _ _).mono ?_
          rw [hLf.out]
          rintro e wq ⟨rfl, rfl⟩
          go_simp
          refine hK.out _ _ (laterPre.refl _) ?_
          clear hK
          try simp only [Act.put, List.setIfInBounds_toArray, List.set_cons_zero, List.set_cons_succ]
          refine later_take (i := 4) (d := 15) (v := ?_) (by kernel_rfl) (by kernel_rfl) (by kernel_rfl) (by kernel_rfl) (fun _ _ _ h => h) (fun oi hoi => ?_) ?_
          rotate_left
          · simp at hoi
            subst hoi
            refine ⟨by rfl, fun w' hw' => ?_⟩
            go_simp
            all_goals rfl
          try simp only [Act.put, List.setIfInBounds_toArray, List.set_cons_zero, List.set_cons_succ]
          refine later_take (i := 5) (d := 16) (v := ?_) (by kernel_rfl) (by kernel_rfl) (by kernel_rfl) (by kernel_rfl) (fun _ _ _ h => h) (fun oi hoi => ?_) ?_
          rotate_left
          · simp at hoi
            subst hoi
            refine ⟨by rfl, fun w' hw' => ?_⟩
            have hx := (Below.cell hw' (cell_lt (w := wr.drew) hck)).trans hck
            go_simp
            all_goals rfl
          try simp only [Act.put, List.setIfInBounds_toArray, List.set_cons_zero, List.set_cons_succ]
          refine later_take (i := 6) (d := 17) (v := ?_) (by kernel_rfl) (by kernel_rfl) (by kernel_rfl) (by kernel_rfl) (fun _ _ _ h => h) (fun oi hoi => ?_) ?_
          rotate_left
          · simp at hoi
            subst hoi
            refine ⟨by rfl, fun w' hw' => ?_⟩
            go_simp
            all_goals rfl
          try simp only [Act.put, List.setIfInBounds_toArray, List.set_cons_zero, List.set_cons_succ]
          refine later_done (by kernel_rfl) ?_ _
          go_wp2_with fail
          go_roundw
          case rel => exact ⟨k + 1, by omega, by simp, by rw [hN.out]; exact OwnI.below (unhide hO) (Below.refl _ _).drew, hA, (unhide hB).drew⟩
          case measure => simp [intOf]; omega
        · have hY := hide (HY1.out (by rw [HK.out]; simpa using hy))
          have hne : ¬ y.toList = [] := no_text hy
          have hne2 : y.toList.isEmpty = false := by simpa using hne
          clear hy HY1 HN1 HK
          go_wp2_with fail
          refine wp_region_later (by kernel_rfl) ?_
          refine later_take (i := 0) (d := 11) (v := ?_) (by kernel_rfl) (by kernel_rfl) (by kernel_rfl) (by kernel_rfl) (fun _ _ _ h => h) (fun oi hoi => ?_) ?_
          rotate_left
          · simp at hoi
            subst hoi
            refine ⟨by rfl, fun w' hw' => ?_⟩
            go_simp
            all_goals rfl
          try simp only [Act.put, List.setIfInBounds_toArray, List.set_cons_zero, List.set_cons_succ]
          refine later_take (i := 1) (d := 12) (v := ?_) (by kernel_rfl) (by kernel_rfl) (by kernel_rfl) (by kernel_rfl) (fun _ _ _ h => h) (fun oi hoi => ?_) ?_
          rotate_left
          · simp at hoi
            subst hoi
            refine ⟨by rfl, fun w' hw' => ?_⟩
            have hx := (box_below (w := wr.drew) (unhide hA) hw').cell
            go_simp
            all_goals rfl
          try simp only [Act.put, List.setIfInBounds_toArray, List.set_cons_zero, List.set_cons_succ]
          refine later_take (i := 2) (d := 13) (v := ?_) (by kernel_rfl) (by kernel_rfl) (by kernel_rfl) (by kernel_rfl) (fun _ _ _ h => h) (fun oi hoi => ?_) ?_
          rotate_left
          · simp at hoi
            subst hoi
            refine ⟨by rfl, fun w' hw' => ?_⟩
            go_simp
            all_goals rfl
          try simp only [Act.put, List.setIfInBounds_toArray, List.set_cons_zero, List.set_cons_succ]
          refine later_one (i := 3) (by kernel_rfl) (fun oi K hoi hK => ?_)
          simp at hoi
          subst hoi
          refine ⟨by rfl, ?_⟩
          go_simp
          refine (placeOf_any _ _).mono ?_
          rw [hLf.out]
          rintro e wq ⟨rfl, rfl⟩
          go_simp
          refine hK.out _ _ (laterPre.refl _) ?_
          clear hK
          try simp only [Act.put, List.setIfInBounds_toArray, List.set_cons_zero, List.set_cons_succ]
          refine later_take (i := 4) (d := 15) (v := ?_) (by kernel_rfl) (by kernel_rfl) (by kernel_rfl) (by kernel_rfl) (fun _ _ _ h => h) (fun oi hoi => ?_) ?_
          rotate_left
          · simp at hoi
            subst hoi
            refine ⟨by rfl, fun w' hw' => ?_⟩
            go_simp
            all_goals rfl
          try simp only [Act.put, List.setIfInBounds_toArray, List.set_cons_zero, List.set_cons_succ]
          refine later_take (i := 5) (d := 16) (v := ?_) (by kernel_rfl) (by kernel_rfl) (by kernel_rfl) (by kernel_rfl) (fun _ _ _ h => h) (fun oi hoi => ?_) ?_
          rotate_left
          · simp at hoi
            subst hoi
            refine ⟨by rfl, fun w' hw' => ?_⟩
            have hx := (Below.cell hw' (cell_lt (w := wr.drew) hck)).trans hck
            go_simp
            all_goals rfl
          try simp only [Act.put, List.setIfInBounds_toArray, List.set_cons_zero, List.set_cons_succ]
          refine later_take (i := 6) (d := 17) (v := ?_) (by kernel_rfl) (by kernel_rfl) (by kernel_rfl) (by kernel_rfl) (fun _ _ _ h => h) (fun oi hoi => ?_) ?_
          rotate_left
          · simp at hoi
            subst hoi
            refine ⟨by rfl, fun w' hw' => ?_⟩
            go_simp
            all_goals rfl
          try simp only [Act.put, List.setIfInBounds_toArray, List.set_cons_zero, List.set_cons_succ]
          refine later_done (by kernel_rfl) ?_ _
          have hO2 := hide (OwnI.below (unhide hO) (Below.refl _ _).drew)
          go_wp2_with (at_builtin; refine wpList_append_own _ rfl _ _ 28 rfl (w.heap.size + 1) 3 i0 (.int .i64 0) 1 8 Try.underlying28 (unhide hI).1 (unhide hI).2.1 (unhide hI).2.2.1 (unhide hI).2.2.2 rfl (by decide) _ _ _ rfl ((unhide hO2).alloc _) ⟨wr.heap.size, 0, none⟩ 1 1 [.int .i64 (k : Int)] rfl rfl ?c1 ?c2 ?c3 ?c4 ?c5 ?_)
          case c1 =>
            intro j u hj
            match j, hj with
            | 0, hj => simp at hj; subst hj; simp [Addr.add]
          case c2 => intro u hu; simp at hu; subst hu; rfl
          case c3 => unfold maxLen; omega
          case c4 => omega
          case c5 => simp; omega
          intro v' w7 hown' hgrow _
          have R := OwnI.grow (unhide hO2) (Below.refl (w.heap.size + 1) wr.drew) (by show _ ≤ wr.heap.size; omega) hown' hgrow
          have R1 := hide R.1
          have hA7 : Hid (Boxed w7 w.heap.size 25 (.slice (some a) 15 cap)) := box_below0 (w := wr.drew) (unhide hA) R.2 (by omega)
          have R2 : Hid (Below w.heap.size w w7) := (unhide hB).drew.trans (R.2.mono (by omega))
          clear R hown' hgrow hO hO2 hA hB
          go_wp2_with fail
          go_roundw
          case rel => exact ⟨k + 1, by omega, by simp, by rw [hY.out]; exact unhide R1, hA7, R2⟩
          case measure => simp [intOf]; omega
      · have hlt2 : decide ((k : Int) < 8) = false := by simp; omega
        obtain rfl : k = 8 := by omega
        go_wp2_with fail
        go_ret
        exact ⟨_, rfl, by rw [HE.out]; exact row_lowB (unhide hO) (by omega), unhide hB⟩

#print axioms iTreIn_any
end Go.Proofs.Ytjmnfdfnndoffaa
/-
  What TreClear and TreSet answer, plain; stores into rows of texts. No Go function in it.
-/
namespace Go.Proofs.Ytjmnfdfnndoffaa
open Go.RowKit Kw

theorem keyOk_small {x : ByteArray} (h : keyOk x = true) : x.size ≤ 300 := by
  unfold keyOk at h
  by_cases he : x = ByteArray.empty
  · subst he; show (0 : Nat) ≤ 300; omega
  · simp [he] at h
    exact (ok_facts h.1).1
theorem treOk_small {xs : List ByteArray} (h : treOk xs = true) : ∀ x ∈ xs, x.size ≤ 300 := by
  intro x hx
  obtain ⟨k, hk, rfl⟩ := mem_getD hx
  exact keyOk_small ((treOk_iff.1 h).2 k hk)
/-- What TreClear answers. -/
def clrRes (xs : List ByteArray) (p : Int) : List ByteArray := if treOk xs = true ∧ 0 ≤ p ∧ p ≤ 7 then clearOf xs p.toNat else []
theorem clearOf_len (xs : List ByteArray) (k : Nat) : (clearOf xs k).length = xs.length := wipe_len _ _
theorem clrRes_len (xs : List ByteArray) (p : Int) : (clrRes xs p).length ≤ 15 := by
  unfold clrRes
  split
  · next h => rw [clearOf_len, (treOk_iff.1 h.1).1]; omega
  · simp
theorem clrRes_no {xs : List ByteArray} {p : Int} (h : ¬ (treOk xs = true ∧ 0 ≤ p ∧ p ≤ 7)) : clrRes xs p = [] := by unfold clrRes; rw [if_neg h]
theorem clrRes_yes {xs : List ByteArray} {k : Nat} (h : treOk xs = true) (hk : k < 8) : clrRes xs (k : Int) = clearOf xs k := by unfold clrRes; rw [if_pos ⟨h, by omega, by omega⟩]; rfl
theorem clear_small {xs : List ByteArray} {M : Nat} (h : ∀ x ∈ xs, x.size ≤ M) (k : Nat) : ∀ x ∈ clearOf xs k, x.size ≤ M := by
  intro x hx
  obtain ⟨j, hj, rfl⟩ := mem_getD hx
  unfold clearOf
  rw [wipe_at]
  split
  · show (0 : Nat) ≤ M; omega
  · rw [clearOf_len] at hj
    exact h _ (getD_mem hj)
theorem wipe_snoc (xs : List ByteArray) (ps : List Nat) (p : Nat) : wipe xs (ps ++ [p]) = (wipe xs ps).set p ByteArray.empty := by unfold wipe; rw [List.foldl_append]; rfl

/-- A row of fifteen texts, written out. -/
theorem row15 {B : Nat} {w : World} {v : Value} {zs : List Value} (h : w.ownsRow B 9 1 v 15 zs) : ∃ g cap, v = .slice (some ⟨g, 0, none⟩) 15 cap ∧ B ≤ g ∧ g < w.heap.size ∧ 15 ≤ cap ∧ cap ≤ maxLen := by
  have hh := h
  rcases h.2 with ⟨_, q⟩ | ⟨g, cap, cur, rfl, h1, h2, h3, h4, h5, h6⟩
  · omega
  · exact ⟨g, cap, rfl, h1, (hh.lt g rfl).2, h3, h4⟩
/-- What a store at a place of it wants, and leaves. -/
theorem row15_set {B : Nat} {w : World} {g cap : Nat} {xs : List ByteArray} (hl : xs.length = 15) (h : w.ownsRow B 9 1 (.slice (some ⟨g, 0, none⟩) 15 cap) 15 (xs.map Value.string)) (j : Nat) (hj : j < 15) (y : ByteArray) :
    w.cell? ⟨g, j, none⟩ = some (.string (xs.getD j ByteArray.empty)) ∧ w.frozen? ⟨g, j, none⟩ = false ∧ (w.setCell ⟨g, j, none⟩ (.string y)).ownsRow B 9 1 (.slice (some ⟨g, 0, none⟩) 15 cap) 15 ((xs.set j y).map Value.string) ∧ w.grownBy (w.setCell ⟨g, j, none⟩ (.string y)) (some g) := by
  refine ⟨?_, h.frozenAt j, ?_⟩
  · rw [h.cellAt j (by omega), List.getElem?_map, List.getElem?_eq_getElem (by omega), List.getD_eq_getElem?_getD, List.getElem?_eq_getElem (by omega)]; rfl
  · obtain ⟨s1, s2⟩ := h.stored j (.string y)
    rw [List.map_set]
    exact ⟨s1, s2⟩
theorem grown_drew {w w' : World} {r : Option Nat} (h : w.grownBy w' r) : w.grownBy w'.drew r := ⟨h.os, h.tape, h.output, h.size, h.block⟩
theorem grown_below0 {wr u u' : World} {r : Option Nat} (h : wr.grownBy u r) (hb : Below u.heap.size u u') : wr.grownBy u' r :=
  ⟨hb.os.trans h.os, hb.tape.trans h.tape, hb.output.trans h.output, Nat.le_trans h.size hb.size, fun k hk hr => (hb.block k (Nat.lt_of_lt_of_le hk h.size)).trans (h.block k hk hr)⟩
end Go.Proofs.Ytjmnfdfnndoffaa
/-
  Slices of numbers of the call's own, their rows between two numbers. No Go function in it.
-/
namespace Go.Proofs.Ytjmnfdfnndoffaa
open Go.RowKit

/-- Numbers, so. -/
def IIn (lo hi : Nat) (w : World) (v : Value) (xs : List Int) : Prop := RowIn lo hi 3 1 w v xs.length (xs.map (Value.int .i64))
theorem IIn.of {lo : Nat} {w : World} {v : Value} {xs : List Int} (h : OwnI lo w v xs) : IIn lo w.heap.size w v xs := RowIn.of h
theorem IIn.irow {lo hi : Nat} {w : World} {v : Value} {xs : List Int} (h : IIn lo hi w v xs) : IRow w v xs := OwnI.irow h.1
theorem IIn.below {lo hi : Nat} {w w' : World} {v : Value} {xs : List Int} (h : IIn lo hi w v xs) (hb : Below w.heap.size w w') : IIn lo hi w' v xs := RowIn.below h hb
theorem IIn.grown {lo hi : Nat} {w w' : World} {v : Value} {xs : List Int} {r : Option Nat} (h : IIn lo hi w v xs) (hg : w.grownBy w' r) (hr : ∀ k, r = some k → k < lo ∨ hi ≤ k) : IIn lo hi w' v xs := RowIn.grown h hg hr
theorem IIn.drew {lo hi : Nat} {w : World} {v : Value} {xs : List Int} (h : IIn lo hi w v xs) : IIn lo hi w.drew v xs := h.below (Below.refl _ _).drew
end Go.Proofs.Ytjmnfdfnndoffaa
/-
  The specification's TreClear.
-/
namespace Go.Proofs.Ytjmnfdfnndoffaa
open Go.RowKit

set_option maxRecDepth 100000 in
set_option maxHeartbeats 2000000 in
theorem l3Copy_any (v : Value) (xs : List ByteArray) (w : World) (h : SRow w v xs) (hl : xs.length ≤ 1048576) :
    Calls Try.prog 45 #[.agg #[v]] w fun e w' => ∃ u, e = .returned (.agg #[u]) ∧ Own w.heap.size w' u xs ∧ Below w.heap.size w w' := by
  obtain ⟨i0, hi, hz0, hz1, hz2⟩ := info_parts info_str2
  have hI := hide (And.intro hi (And.intro hz0 (And.intro hz1 hz2)))
  clear hi hz0 hz1 hz2
  have hR := hide h
  obtain ⟨ao, cap, rfl, _, _, _⟩ := h.form
  clear h
  have NW : Hid _ := (((((unhide hR).below ((Below.refl _ _).alloc (Nat.le_refl _) (.cells #[.slice ao xs.length cap] 25))).below ((Below.refl _ _).alloc (Nat.le_refl _) (.cells #[.slice none 0 0] 25))).below ((Below.refl _ _).alloc (Nat.le_refl _) (.cells #[] 9)))).news
  have hB0 : Hid (Below w.heap.size w (((w.alloc (.cells #[.slice ao xs.length cap] 25)).alloc (.cells #[.slice none 0 0] 25)).alloc (.cells #[] 9))) := (((Below.refl _ _).alloc (Nat.le_refl _) _).alloc (by simp) _).alloc (by simp; omega) _
  have b1 := ((Boxed.new (w.alloc (.cells #[.slice ao xs.length cap] 25)) 25 (.slice none 0 0))).alloc (.cells #[] 9)
  rw [World.size_alloc] at b1
  have B1 := hide b1
  have hO : Hid ((((w.alloc (.cells #[.slice ao xs.length cap] 25)).alloc (.cells #[.slice none 0 0] 25)).alloc (.cells #[] 9)).ownsRow w.heap.size 9 1 (.slice (some ⟨w.heap.size + 1 + 1, 0, none⟩) 0 0) 0 []) := by
    have q := World.ownsRow_lit (base := w.heap.size) (e := 9) (size := 1) ((w.alloc (.cells #[.slice ao xs.length cap] 25)).alloc (.cells #[.slice none 0 0] 25)) #[] 0 (by simp; omega) (by unfold maxLen; omega) rfl
    simp only [World.size_alloc] at q
    exact q
  clear b1
  go_enter Try.func45, Try.ntmps45
  go_wp2_with (at_builtin; refine wpList_append_row _ rfl _ _ 23 rfl w.heap.size 9 i0 (.string ⟨#[]⟩) 1 16 Try.underlying23 (unhide hI).1 (unhide hI).2.1 (unhide hI).2.2.1 (unhide hI).2.2.2 rfl (by decide) _ _ _ rfl (unhide hO) _ _ _ rfl (unhide NW) (texts_one _) (by unfold maxLen; omega) (by omega) (by simp; omega) ?_)
  intro v2 w2 ho2 hg2
  have ho2 : w2.ownsRow w.heap.size 9 1 v2 xs.length (xs.map Value.string) := by first | exact ho2 | simpa using ho2
  have hBg : Hid (Below w.heap.size w w2) := (unhide hB0).grown hg2 (by simp; omega) (fun z hz => by simp [Value.ownBlock] at hz; omega)
  have B2 := box_grown (unhide B1) (unhide hO) (by decide) hg2
  obtain ⟨o2, c2, hv2⟩ := row_form' ho2
  subst hv2
  have l1 := B2.cell
  have l2 := B2.frozen
  have l3 := (B2.set (.slice o2 xs.length c2)).cell
  have R2 := hide (row_box ho2 B2 (by decide) (.slice o2 xs.length c2))
  have HB2 := hide (below_box (unhide hBg) (b := w.heap.size + 1) (by omega) (.slice o2 xs.length c2))
  clear ho2 hg2 B2 hO B1 NW hB0 hBg
  go_wp2_with fail
  refine bodyPost_ret (v := .agg #[.slice o2 xs.length c2]) (by simp [results, Try.results45, go_sem, l3]) rfl ⟨_, rfl, unhide R2, unhide HB2⟩
#print axioms l3Copy_any

set_option maxRecDepth 100000 in
set_option maxHeartbeats 4000000 in
theorem l3Clear_any (B g c : Nat) (xs : List ByteArray) (hl : xs.length = 15) (k : Nat) (hk : k < 8) (w : World) (h : w.ownsRow B 9 1 (.slice (some ⟨g, 0, none⟩) 15 c) 15 (xs.map Value.string)) :
    Calls Try.prog 47 #[.agg #[.slice (some ⟨g, 0, none⟩) 15 c], .int .i64 (k : Int)] w fun e w' => e = .returned (.agg #[.slice (some ⟨g, 0, none⟩) 15 c]) ∧ w'.ownsRow B 9 1 (.slice (some ⟨g, 0, none⟩) 15 c) 15 ((clearOf xs k).map Value.string) ∧ w.grownBy w' (some g) := by
  obtain ⟨_, _, e0, hg1, hg2, hg3, hg4⟩ := row15 h
  simp only [Value.slice.injEq, Option.some.injEq, Addr.mk.injEq, true_and, and_true] at e0
  obtain ⟨rfl, rfl⟩ := e0
  have hLf : Hid (leafOf (k : Int) = ((7 + k : Nat) : Int)) := by show _ = _; unfold leafOf; rw [if_pos (by omega)]; omega
  have HUP : Hid (upOf ((7 + k : Nat) : Int) = ints (ups (7 + k))) := by show upOf _ = _; unfold upOf; rw [if_pos (by omega)]; rfl
  have hul := ups_len (7 + k) (by omega)
  have hult := ups_lt (7 + k) (by omega)
  have HEND : Hid (clearOf xs k = wipe xs ([7 + k] ++ (ups (7 + k)).take (ups (7 + k)).length)) := by show _ = _; rw [List.take_length]; rfl
  generalize hN : ups (7 + k) = N at *
  clear hN
  obtain ⟨lf, hlf⟩ : ∃ lf : Nat, lf = 7 + k := ⟨_, rfl⟩
  rw [← hlf] at hLf HUP HEND
  have hlf2 : lf < 15 := by omega
  have jl : (lf : Int) < 15 := by omega
  clear hlf
  have hrW := own_below' (own_below' h ((Below.refl _ _).alloc (Nat.le_refl _) (.cells #[.slice (some ⟨g, 0, none⟩) 15 c] 25))) ((Below.refl _ _).alloc (Nat.le_refl _) (.cells #[.slice none 0 0] 25))
  obtain ⟨s1, s2, _, _⟩ := row15_set hl hrW lf hlf2 ByteArray.empty
  obtain ⟨_, _, s3, s4⟩ := row15_set hl h lf hlf2 ByteArray.empty
  have hse : (w.setCell ⟨g, lf, none⟩ (.string ByteArray.empty)).heap.size = w.heap.size := by simp [World.setCell]
  have bA := (Boxed.new (w.setCell ⟨g, lf, none⟩ (.string ByteArray.empty)) 25 (.slice (some ⟨g, 0, none⟩) 15 c)).alloc (.cells #[.slice none 0 0] 25)
  have bR := Boxed.new ((w.setCell ⟨g, lf, none⟩ (.string ByteArray.empty)).alloc (.cells #[.slice (some ⟨g, 0, none⟩) 15 c] 25)) 25 (.slice none 0 0)
  rw [World.size_alloc, hse] at bR
  rw [hse] at bA
  have bA2 := hide bA
  have bR2 := hide bR
  have S3 : Hid _ := own_below' (own_below' s3 ((Below.refl _ _).alloc (Nat.le_refl _) (.cells #[.slice (some ⟨g, 0, none⟩) 15 c] 25))) ((Below.refl _ _).alloc (Nat.le_refl _) (.cells #[.slice none 0 0] 25))
  have hG2 : Hid (w.grownBy (((w.setCell ⟨g, lf, none⟩ (.string ByteArray.empty)).alloc (.cells #[.slice (some ⟨g, 0, none⟩) 15 c] 25)).alloc (.cells #[.slice none 0 0] 25)) (some g)) := (s4.trans (World.grownBy_alloc _ _ _)).trans (World.grownBy_alloc _ _ _)
  have HL := hide hl
  generalize xs.getD lf ByteArray.empty = old at s1
  clear h hrW bA bR s3 s4 hl
  go_enter Try.func47, Try.ntmps47
  go_wp2_with fail
  refine (sTreLeaf_any _ _).mono ?_
  rw [hLf.out]
  rintro e wz ⟨rfl, rfl⟩
  go_wp2_with fail
  refine (sTreUp_any _ _).mono ?_
  rw [HUP.out]
  rintro e w2 ⟨u2, rfl, ho2, hb2⟩
  have U2 := hide (IIn.of ho2)
  have hs2 := hb2.size
  have A2 := hide (box_below (unhide bA2) hb2)
  have R2 := hide (box_below (unhide bR2) hb2)
  have O2 := hide (own_below' (unhide S3) hb2)
  have G2 : Hid (w.grownBy w2 (some g)) := ⟨hb2.os.trans hG2.out.os, hb2.tape.trans hG2.out.tape, hb2.output.trans hG2.out.output, Nat.le_trans hG2.out.size hb2.size, fun j hj hr => (hb2.block j (Nat.lt_of_lt_of_le hj hG2.out.size)).trans (hG2.out.block j hj hr)⟩
  have hgs : (((w.setCell ⟨g, lf, none⟩ (.string ⟨#[]⟩)).alloc (.cells #[.slice (some ⟨g, 0, none⟩) 15 c] 25)).alloc (.cells #[.slice none 0 0] 25)).heap.size = w.heap.size + 2 := by simp [World.setCell]
  rw [hgs] at U2 hs2
  obtain ⟨uo, uc, hu⟩ := row_form' ho2
  subst hu
  rw [show (ints N).length = N.length by simp [ints]] at *
  clear ho2 hb2 bA2 bR2 S3 hG2 s1 s2 hgs
  go_wp2_with fail
  go_loopw [7] (fun i wr => ∃ j : Nat, j ≤ N.length ∧ i = .int .i64 (j : Int) ∧ Hid (wr.ownsRow B 9 1 (.slice (some ⟨g, 0, none⟩) 15 c) 15 ((wipe xs ([lf] ++ N.take j)).map Value.string)) ∧ Hid (IIn (w.heap.size + 2) w2.heap.size wr (.slice uo N.length uc) (ints N)) ∧ Hid (Boxed wr w.heap.size 25 (.slice (some ⟨g, 0, none⟩) 15 c)) ∧ Hid (Boxed wr (w.heap.size + 1) 25 (.slice none 0 0)) ∧ Hid (w.grownBy wr (some g))) (fun i _ => N.length - (intOf i).toNat)
  case atStart => exact ⟨0, by omega, rfl, O2, U2, A2, R2, G2⟩
  case round =>
    clear O2 U2 A2 R2 G2
    obtain ⟨j, hj, rfl, hO, hU, hA, hR, hG⟩ := hrel
    by_cases hlt : j < N.length
    · have hlt2 : (j : Int) < (N.length : Int) := by omega
      have i3 : IntKind.i64.wrap ((j : Int) + 1) = (j : Int) + 1 := by simp [IntKind.wrap, IntKind.bits, IntKind.signed]; omega
      obtain ⟨q0, q1, q2, _, _, q5⟩ := (unhide hU).irow.form
      rw [show (ints N).length = N.length by simp [ints]] at q2 q5
      simp only [Value.slice.injEq] at q2
      obtain ⟨rfl, _, rfl⟩ := q2
      obtain ⟨ad, rfl, hck⟩ := q5 j hlt
      have hnj : (ints N).getD j 0 = ((N.getD j 0 : Nat) : Int) := by
        unfold ints
        rw [List.getD_eq_getElem?_getD, List.getElem?_map, List.getD_eq_getElem?_getD, List.getElem?_eq_getElem hlt]
        rfl
      rw [hnj] at hck
      have hnl : N.getD j 0 < 7 := hult _ (by rw [List.getD_eq_getElem?_getD, List.getElem?_eq_getElem hlt]; exact List.getElem_mem hlt)
      have HTK : Hid (wipe xs ([lf] ++ N.take (j + 1)) = (wipe xs ([lf] ++ N.take j)).set (N.getD j 0) ByteArray.empty) := by
        show _ = _
        rw [List.take_succ_eq_append_getElem hlt, ← List.append_assoc, wipe_snoc, List.getD_eq_getElem?_getD, List.getElem?_eq_getElem hlt]
        rfl
      generalize N.getD j 0 = q at hck hnl HTK
      have hq2 : (q : Int) < 15 := by omega
      obtain ⟨s1, s2, s3, s4⟩ := row15_set (w := wr.drew) (by rw [wipe_len]; exact HL.out) (unhide hO) q (by omega) ByteArray.empty
      have S3 : Hid _ := s3
      have A3 : Hid _ := box_grown (w := wr.drew) (unhide hA) (unhide hO) (by decide) s4
      have R3 : Hid _ := box_grown (w := wr.drew) (unhide hR) (unhide hO) (by decide) s4
      have U3 : Hid (IIn (w.heap.size + 2) w2.heap.size (wr.drew.setCell ⟨g, q, none⟩ (.string ByteArray.empty)) (.slice (some ad) N.length uc) (ints N)) := RowIn.grown (w := wr.drew) (unhide hU) s4 (fun z hz => .inl (by cases hz; omega))
      have G3 : Hid (w.grownBy (wr.drew.setCell ⟨g, q, none⟩ (.string ByteArray.empty)) (some g)) := (grown_drew (unhide hG)).trans s4
      generalize (wipe xs ([lf] ++ N.take j)).getD q ByteArray.empty = old2 at s1
      clear s3 s4 q5
      go_wp2_with fail
      refine wp_region_later (by kernel_rfl) ?_
      refine later_take (i := 0) (d := 22) (v := ?_) (by kernel_rfl) (by kernel_rfl) (by kernel_rfl) (by kernel_rfl) (fun _ _ _ h => h) (fun oi hoi => ?_) ?_
      rotate_left
      · simp at hoi
        subst hoi
        refine ⟨by rfl, fun w' hw' => ?_⟩
        go_simp
        all_goals rfl
      try simp only [Act.put, List.setIfInBounds_toArray, List.set_cons_zero, List.set_cons_succ]
      refine later_take (i := 1) (d := 23) (v := ?_) (by kernel_rfl) (by kernel_rfl) (by kernel_rfl) (by kernel_rfl) (fun _ _ _ h => h) (fun oi hoi => ?_) ?_
      rotate_left
      · simp at hoi
        subst hoi
        refine ⟨by rfl, fun w' hw' => ?_⟩
        have hx := (box_below (w := wr.drew) (unhide hA) hw').cell
        go_simp
        all_goals rfl
      try simp only [Act.put, List.setIfInBounds_toArray, List.set_cons_zero, List.set_cons_succ]
      refine later_take (i := 2) (d := 24) (v := ?_) (by kernel_rfl) (by kernel_rfl) (by kernel_rfl) (by kernel_rfl) (fun _ _ _ h => h) (fun oi hoi => ?_) ?_
      rotate_left
      · simp at hoi
        subst hoi
        refine ⟨by rfl, fun w' hw' => ?_⟩
        go_simp
        all_goals rfl
      try simp only [Act.put, List.setIfInBounds_toArray, List.set_cons_zero, List.set_cons_succ]
      refine later_take (i := 3) (d := 25) (v := ?_) (by kernel_rfl) (by kernel_rfl) (by kernel_rfl) (by kernel_rfl) (fun _ _ _ h => h) (fun oi hoi => ?_) ?_
      rotate_left
      · simp at hoi
        subst hoi
        refine ⟨by rfl, fun w' hw' => ?_⟩
        go_simp
        all_goals rfl
      try simp only [Act.put, List.setIfInBounds_toArray, List.set_cons_zero, List.set_cons_succ]
      refine later_take (i := 4) (d := 26) (v := ?_) (by kernel_rfl) (by kernel_rfl) (by kernel_rfl) (by kernel_rfl) (fun _ _ _ h => h) (fun oi hoi => ?_) ?_
      rotate_left
      · simp at hoi
        subst hoi
        refine ⟨by rfl, fun w' hw' => ?_⟩
        go_simp
        all_goals rfl
      try simp only [Act.put, List.setIfInBounds_toArray, List.set_cons_zero, List.set_cons_succ]
      refine later_take (i := 5) (d := 27) (v := ?_) (by kernel_rfl) (by kernel_rfl) (by kernel_rfl) (by kernel_rfl) (fun _ _ _ h => h) (fun oi hoi => ?_) ?_
      rotate_left
      · simp at hoi
        subst hoi
        refine ⟨by rfl, fun w' hw' => ?_⟩
        have hx := (Below.cell hw' (cell_lt (w := wr.drew) hck)).trans hck
        go_simp
        all_goals rfl
      try simp only [Act.put, List.setIfInBounds_toArray, List.set_cons_zero, List.set_cons_succ]
      refine later_take (i := 6) (d := 28) (v := ?_) (by kernel_rfl) (by kernel_rfl) (by kernel_rfl) (by kernel_rfl) (fun _ _ _ h => h) (fun oi hoi => ?_) ?_
      rotate_left
      · simp at hoi
        subst hoi
        refine ⟨by rfl, fun w' hw' => ?_⟩
        go_simp
        all_goals rfl
      try simp only [Act.put, List.setIfInBounds_toArray, List.set_cons_zero, List.set_cons_succ]
      refine ord_last (i := 7) (by kernel_rfl) (by kernel_rfl) (by kernel_rfl) (fun oi K hoi hK => ?_)
      simp at hoi
      subst hoi
      refine ⟨by rfl, ?_⟩
      go_simp
      refine hK.out _ _ ?_
      clear hK
      try simp only [Act.put, List.setIfInBounds_toArray, List.set_cons_zero, List.set_cons_succ]
      go_wp2_with fail
      go_roundw
      case rel => exact ⟨j + 1, by omega, by simp, by rw [HTK.out]; exact unhide S3, U3, A3, R3, G3⟩
      case measure => simp [intOf]; omega
    · have hlt2 : decide ((j : Int) < (N.length : Int)) = false := by simp; omega
      obtain rfl : j = N.length := by omega
      have l1 := (unhide hA).cell
      have l2 := (unhide hR).cell
      have l3 := (unhide hR).frozen
      have l4 := ((unhide hR).set (.slice (some ⟨g, 0, none⟩) 15 c)).cell
      have O4 : Hid _ := row_box (unhide hO) (unhide hR) (by decide) (.slice (some ⟨g, 0, none⟩) 15 c)
      have G4 : Hid (w.grownBy (wr.setCell ⟨w.heap.size + 1, 0, none⟩ (.slice (some ⟨g, 0, none⟩) 15 c)) (some g)) := by
        have q := unhide hG
        refine ⟨q.os, q.tape, q.output, by simpa [World.setCell] using q.size, fun z hz hr => ?_⟩
        rw [Below.heap_setCell wr ⟨w.heap.size + 1, 0, none⟩ _ z (by show z ≠ w.heap.size + 1; omega)]
        exact q.block z hz hr
      go_wp2_with fail
      refine bodyPost_ret (v := .agg #[.slice (some ⟨g, 0, none⟩) 15 c]) (by simp [results, Try.results47, go_sem, l4]) rfl ⟨rfl, ?_, unhide G4⟩
      rw [HEND.out]
      exact unhide O4
#print axioms l3Clear_any

set_option maxRecDepth 100000 in
set_option maxHeartbeats 2000000 in
theorem sTreClear_any (v : Value) (xs : List ByteArray) (p : Int) (w : World) (h : SRow w v xs) (hx : ∀ x ∈ xs, x.size ≤ maxLen) :
    Calls Try.prog 23 #[.agg #[v], .int .i64 p] w fun e w' => ∃ u, e = .returned (.agg #[u]) ∧ Own w.heap.size w' u (clrRes xs p) ∧ Below w.heap.size w w' := by
  obtain ⟨ao, cap, rfl, h1, h2, _⟩ := h.form
  have HX := hide hx
  have hR := hide h
  clear h hx
  go_enter Try.func23, Try.ntmps23
  go_wp2_with fail
  refine (sTreOk_any _ xs _ (((unhide hR).below ((Below.refl _ _).alloc (Nat.le_refl _) _)).below ((Below.refl _ _).alloc (Nat.le_refl _) _)) (unhide HX)).mono ?_
  rintro e w1 ⟨rfl, hb1⟩
  have A1 := hide (box_below ((Boxed.new w 25 (.slice ao xs.length cap)).alloc (.cells #[.slice none 0 0] 25)) hb1)
  have B1 := hide (box_below (Boxed.new (w.alloc (.cells #[.slice ao xs.length cap] 25)) 25 (.slice none 0 0)) hb1)
  rw [World.size_alloc] at B1
  have HB1 : Hid (Below w.heap.size w w1) := (((Below.refl _ _).alloc (Nat.le_refl _) _).alloc (by simp) _).trans (hb1.mono (by simp; omega))
  have hs1 := hb1.size
  rw [World.size_alloc, World.size_alloc] at hs1
  have HB2 := hide (below_box (unhide HB1) (b := w.heap.size + 1) (by omega) (.slice none 0 0))
  have l0 := (unhide A1).cell
  have l1 := (unhide B1).cell
  have l2 := (unhide B1).frozen
  have l3 := ((unhide B1).set (.slice none 0 0)).cell
  clear hb1
  cases hk : treOk xs with
  | false =>
    have HE : Hid (clrRes xs p = []) := clrRes_no (by rw [hk]; simp)
    clear hk
    go_wp2_with fail
    refine bodyPost_ret (v := .agg #[.slice none 0 0]) (by simp [results, Try.results23, go_sem, l3]) rfl ⟨_, rfl, by rw [HE.out]; exact World.ownsRow_nil _ _ _ _, unhide HB2⟩
  | true =>
    by_cases hp : 0 ≤ p ∧ p ≤ 7
    · obtain ⟨k, rfl⟩ : ∃ k : Nat, p = (k : Int) := ⟨p.toNat, by omega⟩
      have hk8 : k < 8 := by omega
      have HE := hide (clrRes_yes hk hk8)
      have HL : Hid (xs.length = 15) := (treOk_iff.1 hk).1
      clear hk hp
      go_wp2_with fail
      refine (l1In_yes _ _ _ _ (by omega) (by omega)).mono ?_
      rintro e wa ⟨rfl, rfl⟩
      go_wp2_with fail
      refine (l3Copy_any _ xs _ ((unhide hR).below (unhide HB1)) (by have := HL.out; omega)).mono ?_
      rintro e w2 ⟨u2, rfl, ho2, hb2⟩
      unfold Own at ho2
      rw [HL.out] at ho2
      obtain ⟨g, c, rfl, hg1, hg2, hg3, hg4⟩ := row15 ho2
      have O2 := hide ho2
      have B2 := hide (box_below (unhide B1) hb2)
      have HB3 := hide (HB1.out.trans (hb2.mono HB1.out.size))
      have hs2 := hb2.size
      clear ho2 hb2 A1 B1 HB2 l0 l1 l2 l3
      go_wp2_with fail
      refine (l3Clear_any wa.heap.size g c xs HL.out k hk8 _ (unhide O2)).mono ?_
      rintro e w3 ⟨rfl, ho3, hg⟩
      have B3 := hide (box_grown (unhide B2) (unhide O2) (by decide) hg)
      have HB4 : Hid (Below w.heap.size w w3) := (unhide HB3).grown hg HB3.out.size (fun z hz => by cases hz; omega)
      have O3 : Hid _ := row_box ho3 (unhide B3) (by decide) (.slice (some ⟨g, 0, none⟩) 15 c)
      have l1 := (unhide B3).cell
      have l2 := (unhide B3).frozen
      have l3 := ((unhide B3).set (.slice (some ⟨g, 0, none⟩) 15 c)).cell
      have HB5 := hide (below_box (unhide HB4) (b := w.heap.size + 1) (by omega) (.slice (some ⟨g, 0, none⟩) 15 c))
      clear ho3 hg B2 O2 HB3 HB4 B3
      go_wp2_with fail
      refine bodyPost_ret (v := .agg #[.slice (some ⟨g, 0, none⟩) 15 c]) (by simp [results, Try.results23, go_sem, l3]) rfl ⟨_, rfl, ?_, unhide HB5⟩
      rw [HE.out]
      unfold Own
      rw [clearOf_len, HL.out]
      exact row_lowB (unhide O3) (by omega)
    · have HE : Hid (clrRes xs p = []) := clrRes_no (fun q => hp q.2)
      have HP := hide hp
      clear hk hp
      go_wp2_with fail
      refine (l1In_no _ _ _ _ (by have := HP.out; omega)).mono ?_
      rintro e wa ⟨rfl, rfl⟩
      go_wp2_with fail
      refine bodyPost_ret (v := .agg #[.slice none 0 0]) (by simp [results, Try.results23, go_sem, l3]) rfl ⟨_, rfl, by rw [HE.out]; exact World.ownsRow_nil _ _ _ _, unhide HB2⟩
#print axioms sTreClear_any
end Go.Proofs.Ytjmnfdfnndoffaa
/-
  What TreSet answers, plain. No Go function in it.
-/
namespace Go.Proofs.Ytjmnfdfnndoffaa
open Go.RowKit Kw

/-- The secret so many places above. -/
def nextN (s : ByteArray) : Nat → ByteArray
  | 0 => s
  | n + 1 => mkNext (nextN s n)
theorem nextN_in (s : ByteArray) : ∀ n, nextN (mkNext s) n = nextN s (n + 1)
  | 0 => rfl
  | n + 1 => by show mkNext (nextN (mkNext s) n) = mkNext (nextN s (n + 1)); rw [nextN_in s n]
theorem fill_snoc (ps : List Nat) (p : Nat) : ∀ xs s, fill xs s (ps ++ [p]) = (fill xs s ps).set p (mkKey (nextN s ps.length)) := by
  induction ps with
  | nil => intro xs s; rfl
  | cons q ps ih =>
    intro xs s
    show fill (xs.set q (mkKey s)) (mkNext s) (ps ++ [p]) = (fill (xs.set q (mkKey s)) (mkNext s) ps).set p (mkKey (nextN s (ps.length + 1)))
    rw [ih, nextN_in]
/-- What TreSet wants of a secret. -/
def maySet (s : ByteArray) : Bool := Kw.ok s && decide (s.size ≤ 292)
def setRes (xs : List ByteArray) (p : Int) (s : ByteArray) : List ByteArray := if (treOk xs = true ∧ 0 ≤ p ∧ p ≤ 7) ∧ maySet s = true then setKeys xs p.toNat s else []
theorem setKeys_len (xs : List ByteArray) (k : Nat) (s : ByteArray) : (setKeys xs k s).length = xs.length := fill_len _ _ _
theorem setRes_len (xs : List ByteArray) (p : Int) (s : ByteArray) : (setRes xs p s).length ≤ 15 := by
  unfold setRes
  split
  · next h => rw [setKeys_len, (treOk_iff.1 h.1.1).1]; omega
  · simp
theorem setRes_no {xs : List ByteArray} {p : Int} {s : ByteArray} (h : ¬ ((treOk xs = true ∧ 0 ≤ p ∧ p ≤ 7) ∧ maySet s = true)) : setRes xs p s = [] := by unfold setRes; rw [if_neg h]
theorem setRes_yes {xs : List ByteArray} {k : Nat} {s : ByteArray} (h : treOk xs = true) (hk : k < 8) (hs : maySet s = true) : setRes xs (k : Int) s = setKeys xs k s := by unfold setRes; rw [if_pos ⟨⟨h, by omega, by omega⟩, hs⟩]; rfl
theorem nextN_size (s : ByteArray) (hs : s.size ≤ 300) : ∀ n, (nextN s n).size ≤ 300
  | 0 => hs
  | n + 1 => by
    show (mkNext (nextN s n)).size ≤ 300
    unfold mkNext
    split
    · unfold cap; split
      · assumption
      · show (0 : Nat) ≤ 300; omega
    · show (0 : Nat) ≤ 300; omega
theorem treOk_set {xs : List ByteArray} {k : Nat} {s : ByteArray} (h : treOk xs = true) (hk : k < 8) (hs : maySet s = true) : treOk (setKeys xs k s) = true := by
  unfold maySet at hs
  simp at hs
  have := ups_len (7 + k) (by omega)
  exact treOk_fill _ _ _ h hs.1 (by simp; omega)
theorem treOk_clear {xs : List ByteArray} {k : Nat} (h : treOk xs = true) : treOk (clearOf xs k) = true := treOk_wipe _ _ h
end Go.Proofs.Ytjmnfdfnndoffaa
/-
  Contracts of MakNext, MakKey and MakEpoch, the program's and the specification's.
-/
namespace Go.Proofs.Ytjmnfdfnndoffaa
open Go.RowKit

theorem cap_yes {x : ByteArray} (h : x.size ≤ 300) : cap x = x := by unfold cap; rw [if_pos h]
theorem cap_no {x : ByteArray} (h : 300 < x.size) : cap x = ⟨#[]⟩ := by unfold cap; rw [if_neg (by omega)]

theorem method_next (x : Value) (w : World) : (method 239 83 x "loop.example/keyward/impl.name").run Try.prog w = .ok (102, x) w := by kernel_rfl
theorem method_key (x : Value) (w : World) : (method 239 82 x "loop.example/keyward/impl.name").run Try.prog w = .ok (101, x) w := by kernel_rfl
theorem method_epoch (x : Value) (w : World) : (method 239 101 x "loop.example/keyward/impl.name").run Try.prog w = .ok (119, x) w := by kernel_rfl

set_option maxHeartbeats 400000 in
theorem nextName_any (s : ByteArray) (w : World) (hs : s.size ≤ 300) :
    Calls Try.prog 102 #[.agg #[.string s]] w fun e w' => e = .returned (.string (nextT s)) ∧ Below w.heap.size w w' := by
  go_enter Try.func102, Try.ntmps102
  go_wp2
  go_ret
  exact ⟨ret_str rfl, (Below.refl _ _).alloc (Nat.le_refl _) _⟩

set_option maxHeartbeats 400000 in
theorem keyName_any (s : ByteArray) (w : World) (hs : s.size ≤ 300) :
    Calls Try.prog 101 #[.agg #[.string s]] w fun e w' => e = .returned (.string (keyT s)) ∧ Below w.heap.size w w' := by
  go_enter Try.func101, Try.ntmps101
  go_wp2
  go_ret
  exact ⟨ret_str rfl, (Below.refl _ _).alloc (Nat.le_refl _) _⟩

set_option maxHeartbeats 400000 in
theorem epochName_any (a b : ByteArray) (w : World) (ha : a.size ≤ 300) (hb : b.size ≤ 300) :
    Calls Try.prog 119 #[.agg #[.string a, .string b]] w fun e w' => e = .returned (.string (epochT a b)) ∧ Below w.heap.size w w' := by
  go_enter Try.func119, Try.ntmps119
  go_wp2
  go_ret
  exact ⟨ret_str rfl, (Below.refl _ _).alloc (Nat.le_refl _) _⟩

set_option maxRecDepth 100000 in
set_option maxHeartbeats 400000 in
theorem nameOf_next (s : ByteArray) (w : World) (hs : s.size ≤ 300) :
    Calls Try.prog 61 #[.iface 83 (.agg #[.string s])] w fun e w' => e = .returned (.string (cap (nextT s))) ∧ Below w.heap.size w w' := by
  have hm := method_next
  have hz := next_size s
  by_cases hc : (nextT s).size ≤ 300
  · rw [cap_yes hc]
    have hd : decide ((300 : Int) < ((nextT s).size : Int)) = false := by simp; omega
    clear hz hc
    go_enter Try.func61, Try.ntmps61
    go_wp2_with (go_at_call 102; refine (nextName_any _ _ hs).mono ?_; rintro e w' ⟨rfl, hb⟩)
    go_ret
    exact ⟨rfl, hb⟩
  · rw [cap_no (by omega)]
    have hd : (300 : Int) < ((nextT s).size : Int) := by omega
    clear hz hc
    go_enter Try.func61, Try.ntmps61
    go_wp2_with (go_at_call 102; refine (nextName_any _ _ hs).mono ?_; rintro e w' ⟨rfl, hb⟩)
    go_ret
    exact ⟨rfl, hb⟩

set_option maxHeartbeats 400000 in
theorem iMakNext_any (s : ByteArray) (w : World) (hm : s.size ≤ maxLen) :
    Calls Try.prog 43 #[.string s] w fun e w' => e = .returned (.string (mkNext s)) ∧ Below w.heap.size w w' := by
  have M := hide hm
  clear hm
  cases hk : Kw.ok s with
  | false =>
    rw [show mkNext s = ⟨#[]⟩ by unfold mkNext; rw [if_neg (by rw [hk]; simp)]]
    have K := hide hk
    clear hk
    go_enter Try.func43, Try.ntmps43
    go_wp2_with fail
    refine (iSecOk_any s _ M.out).mono ?_
    rw [K.out]
    rintro e w1 ⟨rfl, hb1⟩
    go_wp2_with fail
    go_ret
    exact ⟨rfl, hb1⟩
  | true =>
    rw [show mkNext s = cap (nextT s) by unfold mkNext; rw [if_pos hk]]
    have hs := (ok_facts hk).1
    have K := hide hk
    clear hk
    go_enter Try.func43, Try.ntmps43
    go_wp2_with fail
    refine (iSecOk_any s _ M.out).mono ?_
    rw [K.out]
    rintro e w1 ⟨rfl, hb1⟩
    go_wp2_with fail
    refine (nameOf_next s _ hs).mono ?_
    rintro e w2 ⟨rfl, hb2⟩
    go_wp2_with fail
    go_ret
    exact ⟨rfl, hb1.trans (hb2.mono hb1.size)⟩

set_option maxHeartbeats 400000 in
theorem sMakNext_any (s : ByteArray) (w : World) (hm : s.size ≤ maxLen) :
    Calls Try.prog 65 #[.string s] w fun e w' => e = .returned (.string (mkNext s)) ∧ Below w.heap.size w w' := by
  have M := hide hm
  clear hm
  cases hk : Kw.ok s with
  | false =>
    rw [show mkNext s = ⟨#[]⟩ by unfold mkNext; rw [if_neg (by rw [hk]; simp)]]
    have K := hide hk
    clear hk
    go_enter Try.func65, Try.ntmps65
    go_wp2_with fail
    refine (sSecOk_any s _ M.out).mono ?_
    rw [K.out]
    rintro e w1 ⟨rfl, hb1⟩
    go_wp2_with fail
    go_ret
    exact ⟨rfl, hb1⟩
  | true =>
    have hz := next_size s
    have hs := (ok_facts hk).1
    rw [show mkNext s = only (nextT s) by unfold mkNext; rw [if_pos hk, only_cap (by omega) (len_next hk)]]
    have M2 : Hid ((nextT s).size ≤ maxLen) := by show _ ≤ maxLen; unfold maxLen; omega
    have K := hide hk
    clear hk hz
    go_enter Try.func65, Try.ntmps65
    go_wp2_with fail
    refine (sSecOk_any s _ M.out).mono ?_
    rw [K.out]
    rintro e w1 ⟨rfl, hb1⟩
    go_wp2_with fail
    refine (l1Ok_any (nextT s) _ M2.out).mono ?_
    rintro e w2 ⟨rfl, hb2⟩
    go_wp2_with fail
    go_ret
    exact ⟨rfl, hb1.trans (hb2.mono hb1.size)⟩
set_option maxRecDepth 100000 in
set_option maxHeartbeats 400000 in
theorem nameOf_key (s : ByteArray) (w : World) (hs : s.size ≤ 300) :
    Calls Try.prog 61 #[.iface 82 (.agg #[.string s])] w fun e w' => e = .returned (.string (cap (keyT s))) ∧ Below w.heap.size w w' := by
  have hm := method_key
  have hz := key_size s
  by_cases hc : (keyT s).size ≤ 300
  · rw [cap_yes hc]
    have hd : decide ((300 : Int) < ((keyT s).size : Int)) = false := by simp; omega
    clear hz hc
    go_enter Try.func61, Try.ntmps61
    go_wp2_with (go_at_call 101; refine (keyName_any _ _ hs).mono ?_; rintro e w' ⟨rfl, hb⟩)
    go_ret
    exact ⟨rfl, hb⟩
  · rw [cap_no (by omega)]
    have hd : (300 : Int) < ((keyT s).size : Int) := by omega
    clear hz hc
    go_enter Try.func61, Try.ntmps61
    go_wp2_with (go_at_call 101; refine (keyName_any _ _ hs).mono ?_; rintro e w' ⟨rfl, hb⟩)
    go_ret
    exact ⟨rfl, hb⟩

set_option maxHeartbeats 400000 in
theorem iMakKey_any (s : ByteArray) (w : World) (hm : s.size ≤ maxLen) :
    Calls Try.prog 42 #[.string s] w fun e w' => e = .returned (.string (mkKey s)) ∧ Below w.heap.size w w' := by
  have M := hide hm
  clear hm
  cases hk : Kw.ok s with
  | false =>
    rw [show mkKey s = ⟨#[]⟩ by unfold mkKey; rw [if_neg (by rw [hk]; simp)]]
    have K := hide hk
    clear hk
    go_enter Try.func42, Try.ntmps42
    go_wp2_with fail
    refine (iSecOk_any s _ M.out).mono ?_
    rw [K.out]
    rintro e w1 ⟨rfl, hb1⟩
    go_wp2_with fail
    go_ret
    exact ⟨rfl, hb1⟩
  | true =>
    rw [show mkKey s = cap (keyT s) by unfold mkKey; rw [if_pos hk]]
    have hs := (ok_facts hk).1
    have K := hide hk
    clear hk
    go_enter Try.func42, Try.ntmps42
    go_wp2_with fail
    refine (iSecOk_any s _ M.out).mono ?_
    rw [K.out]
    rintro e w1 ⟨rfl, hb1⟩
    go_wp2_with fail
    refine (nameOf_key s _ hs).mono ?_
    rintro e w2 ⟨rfl, hb2⟩
    go_wp2_with fail
    go_ret
    exact ⟨rfl, hb1.trans (hb2.mono hb1.size)⟩

set_option maxHeartbeats 400000 in
theorem sMakKey_any (s : ByteArray) (w : World) (hm : s.size ≤ maxLen) :
    Calls Try.prog 63 #[.string s] w fun e w' => e = .returned (.string (mkKey s)) ∧ Below w.heap.size w w' := by
  have M := hide hm
  clear hm
  cases hk : Kw.ok s with
  | false =>
    rw [show mkKey s = ⟨#[]⟩ by unfold mkKey; rw [if_neg (by rw [hk]; simp)]]
    have K := hide hk
    clear hk
    go_enter Try.func63, Try.ntmps63
    go_wp2_with fail
    refine (sSecOk_any s _ M.out).mono ?_
    rw [K.out]
    rintro e w1 ⟨rfl, hb1⟩
    go_wp2_with fail
    go_ret
    exact ⟨rfl, hb1⟩
  | true =>
    have hz := key_size s
    have hs := (ok_facts hk).1
    rw [show mkKey s = only (keyT s) by unfold mkKey; rw [if_pos hk, only_cap (by omega) (len_key hk)]]
    have M2 : Hid ((keyT s).size ≤ maxLen) := by show _ ≤ maxLen; unfold maxLen; omega
    have K := hide hk
    clear hk hz
    go_enter Try.func63, Try.ntmps63
    go_wp2_with fail
    refine (sSecOk_any s _ M.out).mono ?_
    rw [K.out]
    rintro e w1 ⟨rfl, hb1⟩
    go_wp2_with fail
    refine (l1Ok_any (keyT s) _ M2.out).mono ?_
    rintro e w2 ⟨rfl, hb2⟩
    go_wp2_with fail
    go_ret
    exact ⟨rfl, hb1.trans (hb2.mono hb1.size)⟩
set_option maxRecDepth 100000 in
set_option maxHeartbeats 400000 in
theorem nameOf_epoch (a b : ByteArray) (w : World) (ha : a.size ≤ 300) (hb : b.size ≤ 300) :
    Calls Try.prog 61 #[.iface 101 (.agg #[.string a, .string b])] w fun e w' => e = .returned (.string (cap (epochT a b))) ∧ Below w.heap.size w w' := by
  have hm := method_epoch
  have hz := epoch_size a b
  by_cases hc : (epochT a b).size ≤ 300
  · rw [cap_yes hc]
    have hd : decide ((300 : Int) < ((epochT a b).size : Int)) = false := by simp; omega
    clear hz hc
    go_enter Try.func61, Try.ntmps61
    go_wp2_with (go_at_call 119; refine (epochName_any _ _ _ ha hb).mono ?_; rintro e w' ⟨rfl, hb⟩)
    go_ret
    exact ⟨rfl, hb⟩
  · rw [cap_no (by omega)]
    have hd : (300 : Int) < ((epochT a b).size : Int) := by omega
    have hd2 : ((epochT a b).size : Int) ≤ 1000 := by omega
    clear hz hc
    go_enter Try.func61, Try.ntmps61
    go_wp2_with (go_at_call 119; refine (epochName_any _ _ _ ha hb).mono ?_; rintro e w' ⟨rfl, hb⟩)
    go_ret
    exact ⟨rfl, hb⟩

set_option maxHeartbeats 400000 in
theorem sMakEpoch_any (a b : ByteArray) (w : World) (hm : a.size ≤ maxLen) (hn : b.size ≤ maxLen) :
    Calls Try.prog 72 #[.string a, .string b] w fun e w' => e = .returned (.string (mkEpoch a b)) ∧ Below w.heap.size w w' := by
  have M := hide hm
  have N := hide hn
  clear hm hn
  cases hk : Kw.ok a with
  | false =>
    rw [show mkEpoch a b = ⟨#[]⟩ by unfold mkEpoch; rw [if_neg (by rw [hk]; simp)]]
    have K := hide hk
    clear hk
    go_enter Try.func72, Try.ntmps72
    go_wp2_with fail
    refine (sSecOk_any a _ M.out).mono ?_
    rw [K.out]
    rintro e w1 ⟨rfl, hb1⟩
    go_wp2_with fail
    go_ret
    exact ⟨rfl, hb1⟩
  | true =>
    cases hj : Kw.ok b with
    | false =>
      rw [show mkEpoch a b = ⟨#[]⟩ by unfold mkEpoch; rw [if_neg (by rw [hj]; simp)]]
      have K := hide hk
      have J := hide hj
      clear hk hj
      go_enter Try.func72, Try.ntmps72
      go_wp2_with fail
      refine (sSecOk_any a _ M.out).mono ?_
      rw [K.out]
      rintro e w1 ⟨rfl, hb1⟩
      go_wp2_with fail
      refine (sSecOk_any b _ N.out).mono ?_
      rw [J.out]
      rintro e w2 ⟨rfl, hb2⟩
      go_wp2_with fail
      go_ret
      exact ⟨rfl, hb1.trans (hb2.mono hb1.size)⟩
    | true =>
      have ha := (ok_facts hk).1
      have hb := (ok_facts hj).1
      have hz := epoch_size a b
      rw [show mkEpoch a b = only (epochT a b) by unfold mkEpoch; rw [if_pos ⟨hk, hj⟩, only_cap (by omega) (len_epoch hk hj)]]
      have M2 : Hid ((epochT a b).size ≤ maxLen) := by show _ ≤ maxLen; unfold maxLen; omega
      have K := hide hk
      have J := hide hj
      clear hk hj hz
      go_enter Try.func72, Try.ntmps72
      go_wp2_with fail
      refine (sSecOk_any a _ M.out).mono ?_
      rw [K.out]
      rintro e w1 ⟨rfl, hb1⟩
      go_wp2_with fail
      refine (sSecOk_any b _ N.out).mono ?_
      rw [J.out]
      rintro e w2 ⟨rfl, hb2⟩
      go_wp2_with fail
      refine (l1Ok_any (epochT a b) _ M2.out).mono ?_
      rintro e w3 ⟨rfl, hb3⟩
      go_wp2_with fail
      go_ret
      have hb12 := hb1.trans (hb2.mono hb1.size)
      exact ⟨rfl, hb12.trans (hb3.mono hb12.size)⟩

#print axioms sMakNext_any
#print axioms sMakKey_any
#print axioms sMakEpoch_any
end Go.Proofs.Ytjmnfdfnndoffaa
