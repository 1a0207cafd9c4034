/-
  What can be made from some: the spec's way to find it, for every secret.
-/
import Derived.Test.YtjdpabiodalfkaaRemake
import Derived.Test.YtjdpabiodalfkaaKnow
namespace Go.Proofs.Ytjdpabiodalfkaa
open Go.RowKit

theorem parts_kn {s : ByteArray} (hk : Kw.ok s = true) :
    (mOp s = 1 ∧ mA s = ⟨#[]⟩ ∧ mB s = ⟨#[]⟩) ∨ (mOp s ≠ 1 ∧ mOp s ≠ 4 ∧ Kw.ok (mA s) = true ∧ (mA s).size < s.size ∧ mB s = ⟨#[]⟩) ∨
    (mOp s = 4 ∧ Kw.ok (mA s) = true ∧ Kw.ok (mB s) = true ∧ (mA s).size + (mB s).size + 1 = s.size ∧ (mB s).size ≠ 0) := by
  obtain ⟨h1, h2, h3⟩ := ok_facts hk
  unfold mOp mA mB
  simp only [if_pos hk]
  by_cases c1 : Kw.g s 0 = 110
  · obtain ⟨q1, q2⟩ := parts_nk hk (.inl c1)
    simp only [if_pos c1]
    exact .inr (.inl ⟨by omega, by omega, rest_ok hk 1 (by omega) q1 q2, by simp [ByteArray.size_extract]; omega, trivial⟩)
  simp only [if_neg c1]
  by_cases c2 : Kw.g s 0 = 107
  · obtain ⟨q1, q2⟩ := parts_nk hk (.inr c2)
    simp only [if_pos c2]
    exact .inr (.inl ⟨by omega, by omega, rest_ok hk 1 (by omega) q1 q2, by simp [ByteArray.size_extract]; omega, trivial⟩)
  simp only [if_neg c2]
  by_cases c3 : Kw.g s 0 = 101
  · obtain ⟨q1, q2, q3⟩ := parts_e hk c3
    simp only [if_pos c3]
    exact .inr (.inr ⟨trivial, mid_ok hk 1 q1, rest_ok hk _ (by omega) q2 q3, by simp [ByteArray.size_extract]; omega, by simp [ByteArray.size_extract]; omega⟩)
  simp only [if_neg c3]
  by_cases c4 : Kw.g s 0 = 109
  · obtain ⟨_, _, q1, q2⟩ := parts_m hk c4
    simp only [if_pos c4]
    exact .inr (.inl ⟨by omega, by omega, rest_ok hk 2 (by omega) q1 q2, by simp [ByteArray.size_extract]; omega, trivial⟩)
  simp only [if_neg c4]
  by_cases c5 : Kw.g s 0 = 114
  · obtain ⟨_, _, q1, q2⟩ := parts_r hk c5
    simp only [if_pos c5]
    exact .inr (.inl ⟨by omega, by omega, rest_ok hk 2 (by omega) q1 q2, by simp [ByteArray.size_extract]; omega, trivial⟩)
  simp only [if_neg c5]
  exact .inl ⟨trivial, trivial, trivial⟩

/-- A secret can be made from some: it is one of them, or was made from one, or two, that can be. -/
inductive Can (xs : List ByteArray) : ByteArray → Prop
  | has {s : ByteArray} : s ∈ xs → Can xs s
  | one {s : ByteArray} : Kw.ok s = true → mOp s ≠ 1 → mOp s ≠ 4 → Can xs (mA s) → Can xs s
  | two {s : ByteArray} : Kw.ok s = true → mOp s = 4 → Can xs (mA s) → Can xs (mB s) → Can xs s

theorem Can.more {xs ys : List ByteArray} (hsub : ∀ x ∈ xs, x ∈ ys) {s : ByteArray} (h : Can xs s) : Can ys s := by
  induction h with
  | has h => exact .has (hsub _ h)
  | one h1 h2 h3 _ ih => exact .one h1 h2 h3 ih
  | two h1 h2 _ _ ih1 ih2 => exact .two h1 h2 ih1 ih2
theorem Can.trans {xs ys : List ByteArray} (hsub : ∀ x ∈ xs, Can ys x) {s : ByteArray} (h : Can xs s) : Can ys s := by
  induction h with
  | has h => exact hsub _ h
  | one h1 h2 h3 _ ih => exact .one h1 h2 h3 ih
  | two h1 h2 _ _ ih1 ih2 => exact .two h1 h2 ih1 ih2

noncomputable def can (xs : List ByteArray) (s : ByteArray) : Bool := @decide (Can xs s) (Classical.propDecidable _)
theorem can_iff {xs : List ByteArray} {s : ByteArray} : can xs s = true ↔ Can xs s := by
  unfold can
  exact @decide_eq_true_iff _ (Classical.propDecidable _)
theorem can_has {xs : List ByteArray} {s : ByteArray} (h : has xs s = true) : can xs s = true := can_iff.2 (.has (has_iff.1 h))
theorem can_new {xs : List ByteArray} {s : ByteArray} (h : has xs s = false) (h1 : mOp s = 1) : can xs s = false := by
  cases q : can xs s with
  | false => rfl
  | true =>
    cases can_iff.1 q with
    | has hm => rw [has_iff.2 hm] at h; cases h
    | one _ h2 _ _ => exact absurd h1 h2
    | two _ h2 _ _ => omega
theorem can_one {xs : List ByteArray} {s : ByteArray} (h : has xs s = false) (hk : Kw.ok s = true) (h1 : mOp s ≠ 1) (h4 : mOp s ≠ 4) : can xs s = can xs (mA s) := by
  rw [Bool.eq_iff_iff, can_iff, can_iff]
  constructor
  · intro q
    cases q with
    | has hm => rw [has_iff.2 hm] at h; cases h
    | one _ _ _ q => exact q
    | two _ h2 _ _ => exact absurd h2 h4
  · exact .one hk h1 h4
theorem can_two {xs : List ByteArray} {s : ByteArray} (h : has xs s = false) (hk : Kw.ok s = true) (h4 : mOp s = 4) : can xs s = (can xs (mA s) && can xs (mB s)) := by
  rw [Bool.eq_iff_iff, Bool.and_eq_true, can_iff, can_iff, can_iff]
  constructor
  · intro q
    cases q with
    | has hm => rw [has_iff.2 hm] at h; cases h
    | one _ _ h2 _ => exact absurd h4 h2
    | two _ _ q1 q2 => exact ⟨q1, q2⟩
  · rintro ⟨q1, q2⟩; exact .two hk h4 q1 q2

theorem how_cells8 (op who n : Int) (a b : ByteArray) : howV op who n a b = .agg #[.int .i64 op, .int .i64 who, .int .i64 n, .string a, .string b] := rfl
theorem op_range {s : ByteArray} (hk : Kw.ok s = true) : mOp s = 1 ∨ mOp s = 2 ∨ mOp s = 3 ∨ mOp s = 4 ∨ mOp s = 5 ∨ mOp s = 6 := by
  unfold mOp
  rw [if_pos hk]
  by_cases c1 : Kw.g s 0 = 110
  · simp [c1]
  by_cases c2 : Kw.g s 0 = 107
  · simp [c2]
  by_cases c3 : Kw.g s 0 = 101
  · simp [c3]
  by_cases c4 : Kw.g s 0 = 109
  · simp [c4]
  by_cases c5 : Kw.g s 0 = 114
  · simp [c5]
  simp [c1, c2, c3, c4, c5]

set_option maxRecDepth 100000 in
set_option maxHeartbeats 2000000 in
theorem l2Make_any (xs : List ByteArray) : ∀ (n : Nat) (s : ByteArray), s.size ≤ n → Kw.ok s = true → ∀ (v : Value) (w : World), SRow w v xs →
    Calls Try.prog 53 #[v, .string s] w fun e w' => e = .returned (.bool (can xs s)) ∧ Below w.heap.size w w' := by
  intro n
  induction n with
  | zero =>
    intro s hs hk
    have := (ok_facts hk).2.1
    omega
  | succ n ih =>
    intro s hs hk v w hR
    have HR := hide hR
    have HK := hide hk
    have IH := hide ih
    have HS := hide hs
    clear hR hk ih hs
    go_enter Try.func53, Try.ntmps53
    go_wp2_with fail
    refine (l2Has_any v xs s _ (unhide HR)).mono ?_
    cases hh : has xs s with
    | true =>
      have he := can_has hh
      rintro e w1 ⟨rfl, hb1⟩
      go_wp2_with fail
      go_ret
      exact ⟨ret_bool' he.symm, hb1⟩
    | false =>
      rintro e w1 ⟨rfl, hb1⟩
      have HH := hide hh
      have HB1 := hide hb1
      have hle1 := hb1.size
      clear hb1 hh
      go_wp2_with fail
      refine (l1How_any s _ HK.out).mono ?_
      rintro e w2 ⟨rfl, hb2⟩
      have HB2 := hide ((unhide HB1).trans (hb2.mono hle1))
      have hle2 := HB2.out.size
      clear hb2
      rw [how_cells8]
      rcases op_range HK.out with h | h | h | h | h | h
      · have he := can_new HH.out h
        rw [h]
        go_wp2_with fail
        go_ret
        exact ⟨ret_bool' he.symm, (unhide HB2).alloc hle2 _⟩
      · have hp : Hid (Kw.ok (mA s) = true ∧ (mA s).size ≤ n) := by
          rcases parts_kn HK.out with ⟨q, _⟩ | ⟨_, _, q1, q2, _⟩ | ⟨q, _⟩
          · omega
          · exact ⟨q1, by have := HS.out; omega⟩
          · omega
        have he : Hid (can xs s = can xs (mA s)) := can_one HH.out HK.out (by omega) (by omega)
        rw [h]
        clear h
        go_wp2_with fail
        have HBW := hide ((unhide HB2).alloc hle2 (.cells #[.int .i64 2, .int .i64 (mWho s), .int .i64 (mN s), .string (mA s), .string (mB s)] 48))
        refine (IH.out (mA s) hp.out.2 hp.out.1 v _ (SRow.below (unhide HR) (unhide HBW))).mono ?_
        rw [← he.out]
        rintro e w3 ⟨rfl, hb3⟩
        have HB3 := hide ((unhide HBW).trans (hb3.mono (by simp; omega)))
        clear hb3
        go_wp2_with fail
        go_ret
        exact ⟨rfl, unhide HB3⟩
      · have hp : Hid (Kw.ok (mA s) = true ∧ (mA s).size ≤ n) := by
          rcases parts_kn HK.out with ⟨q, _⟩ | ⟨_, _, q1, q2, _⟩ | ⟨q, _⟩
          · omega
          · exact ⟨q1, by have := HS.out; omega⟩
          · omega
        have he : Hid (can xs s = can xs (mA s)) := can_one HH.out HK.out (by omega) (by omega)
        rw [h]
        clear h
        go_wp2_with fail
        have HBW := hide ((unhide HB2).alloc hle2 (.cells #[.int .i64 3, .int .i64 (mWho s), .int .i64 (mN s), .string (mA s), .string (mB s)] 48))
        refine (IH.out (mA s) hp.out.2 hp.out.1 v _ (SRow.below (unhide HR) (unhide HBW))).mono ?_
        rw [← he.out]
        rintro e w3 ⟨rfl, hb3⟩
        have HB3 := hide ((unhide HBW).trans (hb3.mono (by simp; omega)))
        clear hb3
        go_wp2_with fail
        go_ret
        exact ⟨rfl, unhide HB3⟩
      · have hp : Hid (Kw.ok (mA s) = true ∧ (mA s).size ≤ n ∧ Kw.ok (mB s) = true ∧ (mB s).size ≤ n) := by
          rcases parts_kn HK.out with ⟨q, _⟩ | ⟨_, q, _⟩ | ⟨_, q1, q2, q3, q4⟩
          · omega
          · omega
          · have := HS.out
            have := (ok_facts q1).2.1
            exact ⟨q1, by omega, q2, by omega⟩
        have he : Hid (can xs s = (can xs (mA s) && can xs (mB s))) := can_two HH.out HK.out h
        rw [h]
        clear h
        go_wp2_with fail
        have HBW := hide ((unhide HB2).alloc hle2 (.cells #[.int .i64 4, .int .i64 (mWho s), .int .i64 (mN s), .string (mA s), .string (mB s)] 48))
        refine (IH.out (mA s) hp.out.2.1 hp.out.1 v _ (SRow.below (unhide HR) (unhide HBW))).mono ?_
        cases hc : can xs (mA s) with
        | false =>
          have he2 : can xs s = false := by rw [he.out, hc]; rfl
          rintro e w3 ⟨rfl, hb3⟩
          have HB3 := hide ((unhide HBW).trans (hb3.mono (by simp; omega)))
          clear hb3 hc
          go_wp2_with fail
          go_ret
          exact ⟨ret_bool' he2.symm, unhide HB3⟩
        | true =>
          have he2 : Hid (can xs s = can xs (mB s)) := by show can xs s = can xs (mB s); rw [he.out, hc]; rfl
          rintro e w3 ⟨rfl, hb3⟩
          have c4 := keep1 (b := w2.heap.size) (o := 4) (v := .string (mB s)) hb3 (by simp [go_sem]) (by simp)
          have HB3 := hide ((unhide HBW).trans (hb3.mono (by simp; omega)))
          have hle3 := HB3.out.size
          clear hb3 hc
          go_wp2_with fail
          refine (IH.out (mB s) hp.out.2.2.2 hp.out.2.2.1 v _ (SRow.below (unhide HR) (unhide HB3))).mono ?_
          rw [← he2.out]
          rintro e w4 ⟨rfl, hb4⟩
          have HB4 := hide ((unhide HB3).trans (hb4.mono hle3))
          clear hb4
          go_wp2_with fail
          go_ret
          exact ⟨rfl, unhide HB4⟩
      · have hp : Hid (Kw.ok (mA s) = true ∧ (mA s).size ≤ n) := by
          rcases parts_kn HK.out with ⟨q, _⟩ | ⟨_, _, q1, q2, _⟩ | ⟨q, _⟩
          · omega
          · exact ⟨q1, by have := HS.out; omega⟩
          · omega
        have he : Hid (can xs s = can xs (mA s)) := can_one HH.out HK.out (by omega) (by omega)
        rw [h]
        clear h
        go_wp2_with fail
        have HBW := hide ((unhide HB2).alloc hle2 (.cells #[.int .i64 5, .int .i64 (mWho s), .int .i64 (mN s), .string (mA s), .string (mB s)] 48))
        refine (IH.out (mA s) hp.out.2 hp.out.1 v _ (SRow.below (unhide HR) (unhide HBW))).mono ?_
        rw [← he.out]
        rintro e w3 ⟨rfl, hb3⟩
        have HB3 := hide ((unhide HBW).trans (hb3.mono (by simp; omega)))
        clear hb3
        go_wp2_with fail
        go_ret
        exact ⟨rfl, unhide HB3⟩
      · have hp : Hid (Kw.ok (mA s) = true ∧ (mA s).size ≤ n) := by
          rcases parts_kn HK.out with ⟨q, _⟩ | ⟨_, _, q1, q2, _⟩ | ⟨q, _⟩
          · omega
          · exact ⟨q1, by have := HS.out; omega⟩
          · omega
        have he : Hid (can xs s = can xs (mA s)) := can_one HH.out HK.out (by omega) (by omega)
        rw [h]
        clear h
        go_wp2_with fail
        have HBW := hide ((unhide HB2).alloc hle2 (.cells #[.int .i64 6, .int .i64 (mWho s), .int .i64 (mN s), .string (mA s), .string (mB s)] 48))
        refine (IH.out (mA s) hp.out.2 hp.out.1 v _ (SRow.below (unhide HR) (unhide HBW))).mono ?_
        rw [← he.out]
        rintro e w3 ⟨rfl, hb3⟩
        have HB3 := hide ((unhide HBW).trans (hb3.mono (by simp; omega)))
        clear hb3
        go_wp2_with fail
        go_ret
        exact ⟨rfl, unhide HB3⟩

set_option maxHeartbeats 400000 in
theorem sKnwMake_any (v : Value) (xs : List ByteArray) (s : ByteArray) (w : World) (h : SRow w v xs) (hx : ∀ x ∈ xs, x.size ≤ maxLen) (hs : s.size ≤ maxLen) :
    Calls Try.prog 16 #[v, .string s] w fun e w' => e = .returned (.bool (okAll xs && Kw.ok s && can xs s)) ∧ Below w.heap.size w w' := by
  have HR := hide h
  have HX := hide hx
  have M := hide hs
  clear h hx hs
  go_enter Try.func16, Try.ntmps16
  go_wp2_with fail
  refine (l2Ok_any v xs _ (unhide HR) (unhide HX)).mono ?_
  cases ho : okAll xs with
  | false =>
    rintro e w1 ⟨rfl, hb1⟩
    have HO := hide ho
    clear ho
    go_wp2_with fail
    go_ret
    exact ⟨ret_bool' (by rw [HO.out]; rfl), hb1⟩
  | true =>
    rintro e w1 ⟨rfl, hb1⟩
    have HB1 := hide hb1
    have hle1 := hb1.size
    have HO := hide ho
    clear hb1 ho
    go_wp2_with fail
    refine (sSecOk_any s _ M.out).mono ?_
    cases hk : Kw.ok s with
    | false =>
      rintro e w2 ⟨rfl, hb2⟩
      have HB2 := hide ((unhide HB1).trans (hb2.mono hle1))
      have HK := hide hk
      clear hb2 hk
      go_wp2_with fail
      go_ret
      exact ⟨ret_bool' (by rw [HO.out, HK.out]; rfl), unhide HB2⟩
    | true =>
      rintro e w2 ⟨rfl, hb2⟩
      have HK := hide hk
      have HB2 := hide ((unhide HB1).trans (hb2.mono hle1))
      have hle2 := HB2.out.size
      clear hb2 hk
      go_wp2_with fail
      refine (l2Make_any xs s.size s (Nat.le_refl _) HK.out v _ (SRow.below (unhide HR) (unhide HB2))).mono ?_
      rintro e w3 ⟨rfl, hb3⟩
      have HB3 := hide ((unhide HB2).trans (hb3.mono hle2))
      clear hb3
      go_wp2_with fail
      go_ret
      exact ⟨ret_bool' (by rw [HO.out, HK.out]; rfl), unhide HB3⟩
#print axioms sKnwMake_any
end Go.Proofs.Ytjdpabiodalfkaa
