/-
  TreIn of both sides.
-/
import Derived.Test.YticmbajfdpchnaaTOk
import Derived.Test.YticmbajfdpchnaaTreS
import Derived.Test.YticmbajfdpchnaaPlc
import Derived.Test.YticmbajfdpchnaaBxd
import Derived.Test.YticmbajfdpchnaaOrdR
namespace Go.Proofs.Yticmbajfdpchnaa
open Go.RowKit

/-- Who of the first k is in. -/
def inUp (xs : List ByteArray) (k : Nat) : List Int := ints ((List.range k).filter fun k => keyed xs (7 + k))
theorem inUp_zero (xs : List ByteArray) : inUp xs 0 = [] := rfl
theorem inUp_yes {xs : List ByteArray} {k : Nat} (h : keyed xs (7 + k) = true) : inUp xs (k + 1) = inUp xs k ++ [(k : Int)] := by
  unfold inUp ints
  rw [List.range_succ, List.filter_append, List.map_append]
  simp [h]
theorem inUp_no {xs : List ByteArray} {k : Nat} (h : keyed xs (7 + k) = false) : inUp xs (k + 1) = inUp xs k := by
  unfold inUp ints
  rw [List.range_succ, List.filter_append, List.map_append]
  simp [h]
theorem inUp_len (xs : List ByteArray) (k : Nat) : (inUp xs k).length ≤ k := by
  unfold inUp ints
  rw [List.length_map]
  exact Nat.le_trans (List.length_filter_le _ _) (by simp)
/-- Who is in. -/
def inRes (xs : List ByteArray) : List Int := if treOk xs = true then inUp xs 8 else []
theorem inRes_len (xs : List ByteArray) : (inRes xs).length ≤ 8 := by
  unfold inRes
  split
  · exact inUp_len xs 8
  · simp

set_option maxRecDepth 100000 in
set_option maxHeartbeats 4000000 in
theorem iTreIn_any (v : Value) (xs : List ByteArray) (w : World) (h : SRow w v xs) (hx : ∀ x ∈ xs, x.size ≤ maxLen) :
    Calls Try.prog 19 #[.agg #[v]] w fun e w' => ∃ u, e = .returned u ∧ OwnI w.heap.size w' u (inRes xs) ∧ Below w.heap.size w w' := by
  obtain ⟨i0, hi, hz0, hz1, hz2⟩ := info_parts info_int2
  have hI := hide (And.intro hi (And.intro hz0 (And.intro hz1 hz2)))
  clear hi hz0 hz1 hz2
  obtain ⟨ao, cap, rfl, h1, h2, _⟩ := h.form
  have HX := hide hx
  have hR := hide h
  clear h hx
  go_enter Try.func19, Try.ntmps19
  go_wp2_with fail
  refine (iTreOk_any _ xs _ ((unhide hR).below ((Below.refl _ _).alloc (Nat.le_refl _) _)) (unhide HX)).mono ?_
  rintro e w1 ⟨rfl, hb1⟩
  have A1 := hide (box_below (Boxed.new w 25 (.slice ao xs.length cap)) hb1)
  have HB1 : Hid (Below w.heap.size w w1) := ((Below.refl _ _).alloc (Nat.le_refl _) _).trans (hb1.mono (by simp))
  have hs1 := hb1.size
  rw [World.size_alloc] at hs1
  have O1 : Hid (OwnI (w.heap.size + 1) w1 (.slice none 0 0) []) := World.ownsRow_nil _ _ _ _
  clear hb1
  cases hk : treOk xs with
  | false =>
    have HE : Hid (inRes xs = []) := by show _ = _; unfold inRes; rw [hk]; rfl
    clear hk
    go_wp2_with fail
    go_ret
    exact ⟨_, rfl, by rw [HE.out]; exact World.ownsRow_nil _ _ _ _, unhide HB1⟩
  | true =>
    have HE : Hid (inRes xs = inUp xs 8) := by show _ = _; unfold inRes; rw [hk]; rfl
    have HL : Hid (xs.length = 15) := (treOk_iff.1 hk).1
    clear hk
    go_wp2_with fail
    go_loopw [3, 8] (fun o i wr => ∃ k : Nat, k ≤ 8 ∧ i = .int .i64 (k : Int) ∧ Hid (OwnI (w.heap.size + 1) wr o (inUp xs k)) ∧ Hid (Boxed wr w.heap.size 25 (.slice ao xs.length cap)) ∧ Hid (Below w.heap.size w wr)) (fun _ i _ => 8 - (intOf i).toNat)
    case atStart => exact ⟨0, by omega, rfl, O1, A1, HB1⟩
    case round =>
      clear O1 A1 HB1 hs1
      obtain ⟨k, hk, rfl, hO, hA, hB⟩ := hrel
      have hle := hB.out.size
      have hlA := (unhide hA).lt
      by_cases hlt : k < 8
      · have hlt2 : (k : Int) < 8 := by omega
        have i3 : IntKind.i64.wrap ((k : Int) + 1) = (k : Int) + 1 := by simp [IntKind.wrap, IntKind.bits, IntKind.signed]; omega
        obtain ⟨ao', c1, q1, _, _, q2⟩ := (SRow.below (unhide hR) (unhide hB)).form
        simp only [Value.slice.injEq] at q1
        obtain ⟨rfl, _, rfl⟩ := q1
        obtain ⟨a, rfl, hck⟩ := q2 (7 + k) (by rw [HL.out]; omega)
        clear q2
        have hLf : Hid (leafOf (k : Int) = ((7 + k : Nat) : Int)) := by show _ = _; unfold leafOf; rw [if_pos (by omega)]; omega
        have hll := inUp_len xs k
        have HLL : Hid (xs.length = 15) := HL
        rw [HL.out] at hA h1 ⊢
        obtain ⟨n7, hn7⟩ : ∃ n : Nat, n = 7 + k := ⟨_, rfl⟩
        rw [← hn7] at hck hLf
        have j1 : (n7 : Int) < 15 := by omega
        have HK : Hid (keyed xs n7 = decide (xs.getD n7 ByteArray.empty ≠ ByteArray.empty)) := rfl
        have HY1 : Hid (keyed xs n7 = true → inUp xs (k + 1) = inUp xs k ++ [(k : Int)]) := by rw [hn7]; exact inUp_yes
        have HN1 : Hid (keyed xs n7 = false → inUp xs (k + 1) = inUp xs k) := by rw [hn7]; exact inUp_no
        clear hn7
        generalize xs.getD n7 ByteArray.empty = y at hck HK
        by_cases hy : y = ByteArray.empty
        · have hN := hide (HN1.out (by rw [HK.out]; simp [hy]))
          have hne : y.toList = [] := by rw [hy]; exact nil_text
          have hne2 : y.toList.isEmpty = true := by rw [hne]; rfl
          clear hy HY1 HN1 HK
          go_wp2_with fail
          refine wp_region_later (by kernel_rfl) ?_
          refine later_take (i := 0) (d := 11) (v := ?_) (by kernel_rfl) (by kernel_rfl) (by kernel_rfl) (by kernel_rfl) (fun _ _ _ h => h) (fun oi hoi => ?_) ?_
          rotate_left
          · simp at hoi
            subst hoi
            refine ⟨by rfl, fun w' hw' => ?_⟩
            go_simp
            all_goals rfl
          try simp only [Act.put, List.setIfInBounds_toArray, List.set_cons_zero, List.set_cons_succ]
          refine later_take (i := 1) (d := 12) (v := ?_) (by kernel_rfl) (by kernel_rfl) (by kernel_rfl) (by kernel_rfl) (fun _ _ _ h => h) (fun oi hoi => ?_) ?_
          rotate_left
          · simp at hoi
            subst hoi
            refine ⟨by rfl, fun w' hw' => ?_⟩
            have hx := (box_below (w := wr.drew) (unhide hA) hw').cell
            go_simp
            all_goals rfl
          try simp only [Act.put, List.setIfInBounds_toArray, List.set_cons_zero, List.set_cons_succ]
          refine later_take (i := 2) (d := 13) (v := ?_) (by kernel_rfl) (by kernel_rfl) (by kernel_rfl) (by kernel_rfl) (fun _ _ _ h => h) (fun oi hoi => ?_) ?_
          rotate_left
          · simp at hoi
            subst hoi
            refine ⟨by rfl, fun w' hw' => ?_⟩
            go_simp
            all_goals rfl
          try simp only [Act.put, List.setIfInBounds_toArray, List.set_cons_zero, List.set_cons_succ]
          refine later_one (i := 3) (by kernel_rfl) (fun oi K hoi hK => ?_)
          simp at hoi
          subst hoi
          refine ⟨by rfl, ?_⟩
          go_simp
          refine (placeOf_any _ _).mono ?_
          rw [hLf.out]
          rintro e wq ⟨rfl, rfl⟩
          go_simp
          refine hK.out _ _ (laterPre.refl _) ?_
          clear hK
          try simp only [Act.put, List.setIfInBounds_toArray, List.set_cons_zero, List.set_cons_succ]
          refine later_take (i := 4) (d := 15) (v := ?_) (by kernel_rfl) (by kernel_rfl) (by kernel_rfl) (by kernel_rfl) (fun _ _ _ h => h) (fun oi hoi => ?_) ?_
          rotate_left
          · simp at hoi
            subst hoi
            refine ⟨by rfl, fun w' hw' => ?_⟩
            go_simp
            all_goals rfl
          try simp only [Act.put, List.setIfInBounds_toArray, List.set_cons_zero, List.set_cons_succ]
          refine later_take (i := 5) (d := 16) (v := ?_) (by kernel_rfl) (by kernel_rfl) (by kernel_rfl) (by kernel_rfl) (fun _ _ _ h => h) (fun oi hoi => ?_) ?_
          rotate_left
          · simp at hoi
            subst hoi
            refine ⟨by rfl, fun w' hw' => ?_⟩
            have hx := (Below.cell hw' (cell_lt (w := wr.drew) hck)).trans hck
            go_simp
            all_goals rfl
          try simp only [Act.put, List.setIfInBounds_toArray, List.set_cons_zero, List.set_cons_succ]
          refine later_take (i := 6) (d := 17) (v := ?_) (by kernel_rfl) (by kernel_rfl) (by kernel_rfl) (by kernel_rfl) (fun _ _ _ h => h) (fun oi hoi => ?_) ?_
          rotate_left
          · simp at hoi
            subst hoi
            refine ⟨by rfl, fun w' hw' => ?_⟩
            go_simp
            all_goals rfl
          try simp only [Act.put, List.setIfInBounds_toArray, List.set_cons_zero, List.set_cons_succ]
          refine later_done (by kernel_rfl) ?_ _
          go_wp2_with fail
          go_roundw
          case rel => exact ⟨k + 1, by omega, by simp, by rw [hN.out]; exact OwnI.below (unhide hO) (Below.refl _ _).drew, hA, (unhide hB).drew⟩
          case measure => simp [intOf]; omega
        · have hY := hide (HY1.out (by rw [HK.out]; simpa using hy))
          have hne : ¬ y.toList = [] := no_text hy
          have hne2 : y.toList.isEmpty = false := by simpa using hne
          clear hy HY1 HN1 HK
          go_wp2_with fail
          refine wp_region_later (by kernel_rfl) ?_
          refine later_take (i := 0) (d := 11) (v := ?_) (by kernel_rfl) (by kernel_rfl) (by kernel_rfl) (by kernel_rfl) (fun _ _ _ h => h) (fun oi hoi => ?_) ?_
          rotate_left
          · simp at hoi
            subst hoi
            refine ⟨by rfl, fun w' hw' => ?_⟩
            go_simp
            all_goals rfl
          try simp only [Act.put, List.setIfInBounds_toArray, List.set_cons_zero, List.set_cons_succ]
          refine later_take (i := 1) (d := 12) (v := ?_) (by kernel_rfl) (by kernel_rfl) (by kernel_rfl) (by kernel_rfl) (fun _ _ _ h => h) (fun oi hoi => ?_) ?_
          rotate_left
          · simp at hoi
            subst hoi
            refine ⟨by rfl, fun w' hw' => ?_⟩
            have hx := (box_below (w := wr.drew) (unhide hA) hw').cell
            go_simp
            all_goals rfl
          try simp only [Act.put, List.setIfInBounds_toArray, List.set_cons_zero, List.set_cons_succ]
          refine later_take (i := 2) (d := 13) (v := ?_) (by kernel_rfl) (by kernel_rfl) (by kernel_rfl) (by kernel_rfl) (fun _ _ _ h => h) (fun oi hoi => ?_) ?_
          rotate_left
          · simp at hoi
            subst hoi
            refine ⟨by rfl, fun w' hw' => ?_⟩
            go_simp
            all_goals rfl
          try simp only [Act.put, List.setIfInBounds_toArray, List.set_cons_zero, List.set_cons_succ]
          refine later_one (i := 3) (by kernel_rfl) (fun oi K hoi hK => ?_)
          simp at hoi
          subst hoi
          refine ⟨by rfl, ?_⟩
          go_simp
          refine (placeOf_any _ _).mono ?_
          rw [hLf.out]
          rintro e wq ⟨rfl, rfl⟩
          go_simp
          refine hK.out _ _ (laterPre.refl _) ?_
          clear hK
          try simp only [Act.put, List.setIfInBounds_toArray, List.set_cons_zero, List.set_cons_succ]
          refine later_take (i := 4) (d := 15) (v := ?_) (by kernel_rfl) (by kernel_rfl) (by kernel_rfl) (by kernel_rfl) (fun _ _ _ h => h) (fun oi hoi => ?_) ?_
          rotate_left
          · simp at hoi
            subst hoi
            refine ⟨by rfl, fun w' hw' => ?_⟩
            go_simp
            all_goals rfl
          try simp only [Act.put, List.setIfInBounds_toArray, List.set_cons_zero, List.set_cons_succ]
          refine later_take (i := 5) (d := 16) (v := ?_) (by kernel_rfl) (by kernel_rfl) (by kernel_rfl) (by kernel_rfl) (fun _ _ _ h => h) (fun oi hoi => ?_) ?_
          rotate_left
          · simp at hoi
            subst hoi
            refine ⟨by rfl, fun w' hw' => ?_⟩
            have hx := (Below.cell hw' (cell_lt (w := wr.drew) hck)).trans hck
            go_simp
            all_goals rfl
          try simp only [Act.put, List.setIfInBounds_toArray, List.set_cons_zero, List.set_cons_succ]
          refine later_take (i := 6) (d := 17) (v := ?_) (by kernel_rfl) (by kernel_rfl) (by kernel_rfl) (by kernel_rfl) (fun _ _ _ h => h) (fun oi hoi => ?_) ?_
          rotate_left
          · simp at hoi
            subst hoi
            refine ⟨by rfl, fun w' hw' => ?_⟩
            go_simp
            all_goals rfl
          try simp only [Act.put, List.setIfInBounds_toArray, List.set_cons_zero, List.set_cons_succ]
          refine later_done (by kernel_rfl) ?_ _
          have hO2 := hide (OwnI.below (unhide hO) (Below.refl _ _).drew)
          go_wp2_with (at_builtin; refine wpList_append_own _ rfl _ _ 31 rfl (w.heap.size + 1) 3 i0 (.int .i64 0) 1 8 Try.underlying31 (unhide hI).1 (unhide hI).2.1 (unhide hI).2.2.1 (unhide hI).2.2.2 rfl (by decide) _ _ _ rfl ((unhide hO2).alloc _) ⟨wr.heap.size, 0, none⟩ 1 1 [.int .i64 (k : Int)] rfl rfl ?c1 ?c2 ?c3 ?c4 ?c5 ?_)
          case c1 =>
            intro j u hj
            match j, hj with
            | 0, hj => simp at hj; subst hj; simp [Addr.add]
          case c2 => intro u hu; simp at hu; subst hu; rfl
          case c3 => unfold maxLen; omega
          case c4 => omega
          case c5 => simp; omega
          intro v' w7 hown' hgrow _
          have R := OwnI.grow (unhide hO2) (Below.refl (w.heap.size + 1) wr.drew) (by show _ ≤ wr.heap.size; omega) hown' hgrow
          have R1 := hide R.1
          have hA7 : Hid (Boxed w7 w.heap.size 25 (.slice (some a) 15 cap)) := box_below0 (w := wr.drew) (unhide hA) R.2 (by omega)
          have R2 : Hid (Below w.heap.size w w7) := (unhide hB).drew.trans (R.2.mono (by omega))
          clear R hown' hgrow hO hO2 hA hB
          go_wp2_with fail
          go_roundw
          case rel => exact ⟨k + 1, by omega, by simp, by rw [hY.out]; exact unhide R1, hA7, R2⟩
          case measure => simp [intOf]; omega
      · have hlt2 : decide ((k : Int) < 8) = false := by simp; omega
        obtain rfl : k = 8 := by omega
        go_wp2_with fail
        go_ret
        exact ⟨_, rfl, by rw [HE.out]; exact row_lowB (unhide hO) (by omega), unhide hB⟩

#print axioms iTreIn_any
end Go.Proofs.Yticmbajfdpchnaa
