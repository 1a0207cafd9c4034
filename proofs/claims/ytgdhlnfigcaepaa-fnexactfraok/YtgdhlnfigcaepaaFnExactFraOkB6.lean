/-
  The program's FraText: whether a text may be said.
-/
import Derived.Test.YtgdhlnfigcaepaaFnExactFraOkB3
import Derived.Test.YtgdhlnfigcaepaaFnExactFraOkB2
namespace Go.Proofs.Ytgdhlnfigcaepaa
open Go.RowKit

set_option maxHeartbeats 1000000 in
theorem iFraText_any (s : ByteArray) (w : World) :
    Calls Try.prog 13 #[.string s] w fun e w' => e = .returned (.bool (textB s)) ∧ w' = w := by
  by_cases hl : s.size ≤ 8
  · have hl2 : decide ((8 : Int) < (s.size : Int)) = false := by simp; omega
    have hl3 : (s.size : Int) ≤ 8 := by omega
    go_enter Try.func13, Try.ntmps13
    go_wp2_with fail
    go_loop [9] (fun i => ∃ k : Nat, k ≤ s.size ∧ i = .int .i64 (k : Int) ∧ Hid (∀ t (_ : t < k) (ht : t < s.size), letB s[t] = true)) (fun i => s.size - (intOf i).toNat)
    case atStart => exact ⟨0, Nat.zero_le _, rfl, fun t ht => absurd ht (Nat.not_lt_zero _)⟩
    case round =>
      obtain ⟨k, hk, rfl, hE⟩ := hrel
      by_cases hlt : k < s.size
      · have i3 : IntKind.i64.wrap ((k : Int) + 1) = (k : Int) + 1 := by simp [IntKind.wrap, IntKind.bits, IntKind.signed]; omega
        have hlt2 : (k : Int) < (s.size : Int) := by omega
        by_cases h1 : s[k].toNat < 97
        · have HT := hide (text_no hlt (by unfold letB; rw [decide_eq_false (by omega)]; rfl))
          have h2 : (s[k].toNat : Int) < 97 := by omega
          go_wp2_with fail
          go_ret
          exact ⟨by rw [HT.out]; rfl, rfl⟩
        · have h2 : decide ((s[k].toNat : Int) < 97) = false := by simp; omega
          have h3 : 97 ≤ s[k].toNat := by omega
          by_cases h4 : s[k].toNat ≤ 122
          · have h5 : decide ((122 : Int) < (s[k].toNat : Int)) = false := by simp; omega
            have HL : Hid (letB s[k] = true) := by show _ = _; unfold letB; rw [decide_eq_true h3, decide_eq_true h4]; rfl
            go_wp2_with fail
            go_round
            case rel =>
              refine ⟨k + 1, by omega, by simp, fun t htk ht => ?_⟩
              by_cases e : t = k
              · subst e; exact HL.out
              · exact hE.out t (by omega) ht
            case measure => simp [intOf]; omega
          · have HT := hide (text_no hlt (by unfold letB; rw [decide_eq_false h4, Bool.and_false]))
            have h5 : (122 : Int) < (s[k].toNat : Int) := by omega
            go_wp2_with fail
            go_ret
            exact ⟨by rw [HT.out]; rfl, rfl⟩
      · have hlt2 : decide ((k : Int) < (s.size : Int)) = false := by simp; omega
        have hkk : k = s.size := by omega
        have HT := hide (text_yes hl (fun t ht => hE.out t (by omega) ht))
        go_wp2_with fail
        go_ret
        exact ⟨by rw [HT.out]; rfl, rfl⟩
  · have hl2 : (8 : Int) < (s.size : Int) := by omega
    have HT := hide (text_long hl)
    go_enter Try.func13, Try.ntmps13
    go_wp2_with fail
    go_ret
    exact ⟨by rw [HT.out]; rfl, rfl⟩
#print axioms iFraText_any
end Go.Proofs.Ytgdhlnfigcaepaa
/-
  The program's FraOk, and isNumber.
-/
namespace Go.Proofs.Ytgdhlnfigcaepaa
open Go.RowKit

set_option maxHeartbeats 400000 in
theorem isNumber_any (n : Int) (w : World) : Calls Try.prog 40 #[.int .i64 n] w fun e w' => e = .returned (.bool (inB 1 999 n)) ∧ w' = w := by
  by_cases h : 1 ≤ n
  · by_cases h2 : n ≤ 999
    · have HE : Hid (inB 1 999 n = true) := by show _ = _; unfold inB; simp [h, h2]
      go_enter Try.func40, Try.ntmps40
      go_wp2_with fail
      go_ret
      exact ⟨ret_bool' HE.out.symm, rfl⟩
    · have HE : Hid (inB 1 999 n = false) := by show _ = _; unfold inB; simp [h2]
      have h3 : decide (n ≤ 999) = false := by simpa using h2
      go_enter Try.func40, Try.ntmps40
      go_wp2_with fail
      go_ret
      exact ⟨ret_bool' HE.out.symm, rfl⟩
  · have HE : Hid (inB 1 999 n = false) := by show _ = _; unfold inB; simp [h]
    have h3 : decide (1 ≤ n) = false := by simpa using h
    go_enter Try.func40, Try.ntmps40
    go_wp2_with fail
    go_ret
    exact ⟨ret_bool' HE.out.symm, rfl⟩
theorem isOne_any (n : Int) (w : World) : Calls Try.prog 39 #[.int .i64 n] w fun e w' => e = .returned (.bool (inB 0 7 n)) ∧ w' = w := by
  by_cases h : 0 ≤ n ∧ n ≤ 7
  · rw [show inB 0 7 n = true by unfold inB; simp [h.1, h.2]]
    exact isOne_yes n w h.1 (by omega)
  · rw [show inB 0 7 n = false by unfold inB; simp; omega]
    exact isOne_no n w (by omega)
theorem mOp_name {s : ByteArray} {n : Int} (h : mOp s = n) (hn : n ≠ 0) : Kw.ok s = true := by
  cases q : Kw.ok s with
  | true => rfl
  | false => exact absurd (by rw [← h]; unfold mOp; rw [if_neg (by rw [q]; simp)]) hn
theorem fraOk_impl (f : Fra) : fraOk f = (inB 0 7 f.fr && (decide (mOp f.key = 5) && (decide (mWho f.key = f.fr) && (inB 1 999 f.n && textB f.text)))) := by
  rw [fraOk_eq]
  by_cases h : mOp f.key = 5
  · rw [mOp_name h (by decide)]; simp
  · simp [h]

set_option maxRecDepth 100000 in
set_option maxHeartbeats 2000000 in
theorem iFraOk_any (f : Fra) (w : World) (hm : f.key.size ≤ maxLen) :
    Calls Try.prog 17 #[.agg f.cells] w fun e w' => e = .returned (.bool (fraOk f)) ∧ Below w.heap.size w w' := by
  have HE : Hid (fraOk f = _) := fraOk_impl f
  obtain ⟨fr, key, n, text⟩ := f
  simp only at hm HE ⊢
  have M := hide hm
  clear hm
  obtain ⟨r, hr⟩ : ∃ r, fraOk ⟨fr, key, n, text⟩ = r := ⟨_, rfl⟩
  rw [hr] at HE ⊢
  clear hr
  have A := hide (Blk.new w 27 (fraC fr key n text))
  have HB : Hid (Below w.heap.size w (w.alloc (.cells (fraC fr key n text) 27))) := (Below.refl _ _).alloc (Nat.le_refl _) _
  go_enter Try.func17, Try.ntmps17
  go_wp2_with fail
  generalize w.alloc (.cells (fraC fr key n text) 27) = W0 at *
  refine (iSecMade_any key _ M.out).mono ?_
  rw [how_field]
  rintro e w1 ⟨rfl, hb⟩
  replace A := hide ((unhide A).below hb)
  replace HB := hide (HB.out.trans (hb.mono HB.out.size))
  clear hb
  have B := hide (Blk.new w1 49 #[.int .i64 (mOp key), .int .i64 (mWho key), .int .i64 (mN key), .string (mA key), .string (mB key)])
  have A2 := hide ((unhide A).alloc (.cells #[.int .i64 (mOp key), .int .i64 (mWho key), .int .i64 (mN key), .string (mA key), .string (mB key)] 49))
  have HBS := HB.out.size
  have HB2 := hide (HB.out.alloc HBS (.cells #[.int .i64 (mOp key), .int .i64 (mWho key), .int .i64 (mN key), .string (mA key), .string (mB key)] 49))
  have c0 := (unhide A2).cell 0
  simp only [List.getElem?_toArray, List.getElem?_cons_zero] at c0
  clear HBS
  go_wp2_with fail
  clear c0
  refine (isOne_any fr _).mono ?_
  obtain ⟨b0, hb0⟩ : ∃ b, inB 0 7 fr = b := ⟨_, rfl⟩
  rw [hb0] at HE ⊢
  clear hb0
  cases b0 with
  | false =>
    rintro e wz ⟨rfl, rfl⟩
    have HF : Hid (r = false) := by show _ = _; rw [HE.out]; simp
    clear HE
    go_wp2_with fail
    go_ret
    exact ⟨ret_bool' HF.out.symm, unhide HB2⟩
  | true =>
    rintro e wz ⟨rfl, rfl⟩
    simp only [Bool.true_and] at HE
    generalize w1.alloc (.cells #[.int .i64 (mOp key), .int .i64 (mWho key), .int .i64 (mN key), .string (mA key), .string (mB key)] 49) = W2 at *
    have d0 := (unhide B).cell 0
    have d1 := (unhide B).cell 1
    have c0 := (unhide A2).cell 0
    have c2 := (unhide A2).cell 2
    simp only [List.getElem?_toArray, List.getElem?_cons_zero, List.getElem?_cons_succ] at d0 d1 c0 c2
    clear A HB
    by_cases h5 : mOp key = 5
    rotate_left
    · have HF : Hid (r = false) := by show _ = _; rw [HE.out]; simp [h5]
      have h6 : (mOp key == 5) = false := by simpa using h5
      clear HE h5
      go_wp2_with fail
      go_ret
      exact ⟨ret_bool' HF.out.symm, unhide HB2⟩
    have h6 : (mOp key == 5) = true := by simpa using h5
    rw [show decide (mOp key = 5) = true by simpa using h5] at HE
    simp only [Bool.true_and] at HE
    clear h5
    by_cases h7 : mWho key = fr
    rotate_left
    · have HF : Hid (r = false) := by show _ = _; rw [HE.out]; simp [h7]
      have h8 : (mWho key == fr) = false := by simpa using h7
      clear HE h7
      go_wp2_with fail
      go_ret
      exact ⟨ret_bool' HF.out.symm, unhide HB2⟩
    have h8 : (mWho key == fr) = true := by simpa using h7
    rw [show decide (mWho key = fr) = true by simpa using h7] at HE
    simp only [Bool.true_and] at HE
    clear h7
    go_wp2_with fail
    refine (isNumber_any n _).mono ?_
    obtain ⟨b1, hb1⟩ : ∃ b, inB 1 999 n = b := ⟨_, rfl⟩
    rw [hb1] at HE ⊢
    clear hb1
    cases b1 with
    | false =>
      rintro e wz ⟨rfl, rfl⟩
      have HF : Hid (r = false) := by show _ = _; rw [HE.out]; simp
      clear HE
      go_wp2_with fail
      go_ret
      exact ⟨ret_bool' HF.out.symm, unhide HB2⟩
    | true =>
      rintro e wz ⟨rfl, rfl⟩
      simp only [Bool.true_and] at HE
      have c3 := (unhide A2).cell 3
      simp only [List.getElem?_toArray, List.getElem?_cons_zero, List.getElem?_cons_succ] at c3
      go_wp2_with fail
      refine (iFraText_any text _).mono ?_
      rw [← HE.out]
      rintro e wz ⟨rfl, rfl⟩
      go_wp2_with fail
      go_ret
      exact ⟨rfl, unhide HB2⟩
#print axioms iFraOk_any
end Go.Proofs.Ytgdhlnfigcaepaa
