/-
  TreOk of both sides.
-/
import Derived.Test.YtkcopldlobomhaaTreM
import Derived.Test.YtkcopldlobomhaaTreV
import Derived.Test.YtkcopldlobomhaaMadeI
namespace Go.Proofs.Ytkcopldlobomhaa
open Go.RowKit Kw

theorem keyOk_op (y : ByteArray) : keyOk y = (decide (y = ByteArray.empty) || decide (mOp y = 3)) := by
  unfold keyOk
  cases h : Kw.ok y with
  | true => simp
  | false =>
    have : mOp y = 0 := by unfold mOp; rw [if_neg (by rw [h]; simp)]
    rw [this]
    simp
theorem treOk_short {xs : List ByteArray} (h : xs.length ≠ 15) : treOk xs = false := by unfold treOk; simp [h]
theorem treOk_bad {xs : List ByteArray} {k : Nat} (hk : k < xs.length) (h : keyOk (xs.getD k ByteArray.empty) = false) : treOk xs = false := by
  cases q : treOk xs with
  | false => rfl
  | true => rw [(treOk_iff.1 q).2 k hk] at h; cases h
theorem treOk_good {xs : List ByteArray} (hl : xs.length = 15) (h : ∀ j, j < 15 → keyOk (xs.getD j ByteArray.empty) = true) : treOk xs = true := treOk_iff.2 ⟨hl, fun k hk => h k (by omega)⟩

theorem how_field (a b c : Int) (d e : ByteArray) : howV a b c d e = .agg #[.int .i64 a, .int .i64 b, .int .i64 c, .string d, .string e] := rfl

theorem field_op (a b c : Int) (d e : ByteArray) (w : World) : (Instr.field 96 (.agg #[.int .i64 a, .int .i64 b, .int .i64 c, .string d, .string e]) 0).run Try.prog w = .ok (.int .i64 a) w := by kernel_rfl

set_option maxRecDepth 100000 in
set_option maxHeartbeats 400000 in
theorem isKey_any (s : ByteArray) (w : World) (hm : s.size ≤ maxLen) :
    Calls Try.prog 58 #[.string s] w fun e w' => e = .returned (.bool (decide (mOp s = 3))) ∧ Below w.heap.size w w' := by
  have M := hide hm
  clear hm
  go_enter Try.func58, Try.ntmps58
  go_wp2_with fail
  refine (iSecMade_any s _ M.out).mono ?_
  rw [how_field]
  rintro e w1 ⟨rfl, hb1⟩
  have hfl := field_op
  go_wp2_with fail
  go_ret
  refine ⟨ret_bool' ?_, hb1⟩
  rw [Bool.eq_iff_iff]
  simp

set_option maxRecDepth 100000 in
set_option maxHeartbeats 2000000 in
theorem iTreOk_any (v : Value) (xs : List ByteArray) (w : World) (h : SRow w v xs) (hx : ∀ x ∈ xs, x.size ≤ maxLen) :
    Calls Try.prog 37 #[.agg #[v]] w fun e w' => e = .returned (.bool (treOk xs)) ∧ Below w.heap.size w w' := by
  obtain ⟨ao, cap, rfl, h1, h2, _⟩ := h.form
  have HX := hide hx
  have hR : Hid (SRow (w.alloc (.cells #[.slice ao xs.length cap] 27)) (.slice ao xs.length cap) xs) := h.below ((Below.refl _ _).alloc (Nat.le_refl _) _)
  have hW : Hid (Below w.heap.size w (w.alloc (.cells #[.slice ao xs.length cap] 27))) := (Below.refl _ _).alloc (Nat.le_refl _) _
  unfold maxLen at h2
  clear h hx
  by_cases hl : xs.length = 15
  · rw [hl] at hR hW h1 ⊢
    have HL := hide hl
    clear hl
    go_enter Try.func37, Try.ntmps37
    go_wp2_with fail
    go_loopw [12] (fun i wr => ∃ k : Nat, k ≤ 15 ∧ i = .int .i64 (k : Int) ∧ Hid (∀ j, j < k → keyOk (xs.getD j ByteArray.empty) = true) ∧ Hid (Below (w.heap.size + 1) (w.alloc (.cells #[.slice ao 15 cap] 27)) wr)) (fun i _ => 15 - (intOf i).toNat)
    case atStart => exact ⟨0, by omega, rfl, fun j hj => by omega, Below.refl _ _⟩
    case round =>
      obtain ⟨k, hk, rfl, hN, hL⟩ := hrel
      have hle := hL.out.size
      rw [World.size_alloc] at hle
      by_cases hlt : k < 15
      · have hlt2 : (k : Int) < 15 := by omega
        have i3 : IntKind.i64.wrap ((k : Int) + 1) = (k : Int) + 1 := by simp [IntKind.wrap, IntKind.bits, IntKind.signed]; omega
        obtain ⟨ao', c1, q1, _, _, q2⟩ := (SRow.below (unhide hR) (by rw [World.size_alloc]; exact unhide hL)).form
        rw [HL.out] at q1 q2
        simp only [Value.slice.injEq] at q1
        obtain ⟨rfl, _, rfl⟩ := q1
        obtain ⟨a, rfl, hck⟩ := q2 k hlt
        clear q2
        have hsz : Hid ((xs.getD k ByteArray.empty).size ≤ maxLen) := HX.out _ (getD_mem (by have := HL.out; omega))
        have hYes : Hid (keyOk (xs.getD k ByteArray.empty) = true → ∀ j, j < k + 1 → keyOk (xs.getD j ByteArray.empty) = true) := by
          intro ht j hj
          by_cases hjk : j = k
          · subst hjk; exact ht
          · exact hN j (by omega)
        have hNo : Hid (keyOk (xs.getD k ByteArray.empty) = false → treOk xs = false) := treOk_bad (by have := HL.out; omega)
        have hKO := hide (keyOk_op (xs.getD k ByteArray.empty))
        generalize xs.getD k ByteArray.empty = y at hck hsz hYes hNo hKO
        by_cases hy : y = ByteArray.empty
        · have hN1 := hide (hYes.out (by rw [hKO.out]; simp [hy]))
          have hne : y.toList = [] := by rw [hy]; exact nil_text
          have hne2 : y.toList.isEmpty = true := by rw [hne]; rfl
          clear hy hYes hNo hKO
          go_wp2_with fail
          go_roundw
          case rel => exact ⟨k + 1, by omega, by simp, hN1, hL⟩
          case measure => simp [intOf]; omega
        · have hne : ¬ y.toList = [] := no_text hy
          have hne2 : y.toList.isEmpty = false := by simpa using hne
          have HY := hide hy
          clear hy
          go_wp2_with fail
          refine (isKey_any y _ hsz.out).mono ?_
          cases hd : decide (mOp y = 3) with
          | true =>
            rintro e w1 ⟨rfl, hb1⟩
            have hN1 := hide (hYes.out (by rw [hKO.out, hd]; simp))
            have hL1 := hide ((unhide hL).trans (hb1.mono hle))
            clear hd hb1 hL hYes hNo hKO
            go_wp2_with fail
            go_roundw
            case rel => exact ⟨k + 1, by omega, by simp, hN1, hL1⟩
            case measure => simp [intOf]; omega
          | false =>
            rintro e w1 ⟨rfl, hb1⟩
            have hF := hide (hNo.out (by rw [hKO.out, hd]; simpa using HY.out))
            have hL1 := hide ((unhide hL).trans (hb1.mono hle))
            clear hd hb1 hL hYes hNo hKO
            go_wp2_with fail
            go_ret
            exact ⟨ret_bool' hF.out.symm, (unhide hW).trans ((unhide hL1).mono (by omega))⟩
      · have hlt2 : decide ((k : Int) < 15) = false := by simp; omega
        have hF : Hid (treOk xs = true) := treOk_good HL.out (fun j hj => hN j (by omega))
        go_wp2_with fail
        go_ret
        exact ⟨ret_bool' hF.out.symm, (unhide hW).trans ((unhide hL).mono (by omega))⟩
  · have hl2 : ((xs.length : Int) == 15) = false := by simp; omega
    have hF : Hid (treOk xs = false) := treOk_short hl
    clear hl
    go_enter Try.func37, Try.ntmps37
    go_wp2_with fail
    go_ret
    exact ⟨ret_bool' hF.out.symm, unhide hW⟩

end Go.Proofs.Ytkcopldlobomhaa
