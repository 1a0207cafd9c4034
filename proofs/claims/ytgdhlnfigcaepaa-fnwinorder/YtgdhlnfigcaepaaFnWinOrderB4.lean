/-
  The specification's FraText: whether a text may be said.
-/
import Derived.Test.YtgdhlnfigcaepaaFnWinOrderB1
import Derived.Test.YtgdhlnfigcaepaaFnWinOrderB2
import Derived.Test.YtgdhlnfigcaepaaFnWinOrderB3
import Derived.Deep.MidRow
import Derived.OrdersHeld
import Derived.Deep.RegionHeld3
namespace Go.Proofs.Ytgdhlnfigcaepaa
open Go.RowKit

def letB (b : UInt8) : Bool := decide (97 ≤ b.toNat) && decide (b.toNat ≤ 122)
/-- A text that may be said. -/
def textB (s : ByteArray) : Bool := decide (s.size ≤ 8) && s.data.toList.all letB
theorem text_long {s : ByteArray} (h : ¬ s.size ≤ 8) : textB s = false := by unfold textB; rw [decide_eq_false h]; rfl
theorem text_no {s : ByteArray} {k : Nat} (hk : k < s.size) (h : letB s[k] = false) : textB s = false := by
  unfold textB
  have : s.data.toList.all letB = false := by
    rw [List.all_eq_false]
    exact ⟨s[k], List.getElem_mem (l := s.data.toList) (by simpa using hk), by rw [h]; simp⟩
  rw [this, Bool.and_false]
theorem text_yes {s : ByteArray} (hl : s.size ≤ 8) (h : ∀ t (ht : t < s.size), letB s[t] = true) : textB s = true := by
  unfold textB
  rw [decide_eq_true hl, Bool.true_and, List.all_eq_true]
  intro b hb
  obtain ⟨t, ht, rfl⟩ := List.mem_iff_getElem.1 hb
  exact h t (by simpa using ht)

set_option maxHeartbeats 1000000 in
theorem sFraText_any (s : ByteArray) (w : World) :
    Calls Try.prog 12 #[.string s] w fun e w' => e = .returned (.bool (textB s)) ∧ w' = w := by
  by_cases hl : s.size ≤ 8
  · have hl2 : decide ((8 : Int) < (s.size : Int)) = false := by simp; omega
    have hl3 : (s.size : Int) ≤ 8 := by omega
    go_enter Try.func12, Try.ntmps12
    go_wp2_with fail
    go_loop [3] (fun i => ∃ k : Nat, k ≤ s.size ∧ i = .int .i64 (k : Int) ∧ Hid (∀ t (_ : t < k) (ht : t < s.size), letB s[t] = true)) (fun i => s.size - (intOf i).toNat)
    case atStart => exact ⟨0, Nat.zero_le _, rfl, fun t ht => absurd ht (Nat.not_lt_zero _)⟩
    case round =>
      obtain ⟨k, hk, rfl, hE⟩ := hrel
      by_cases hlt : k < s.size
      · have i3 : IntKind.i64.wrap ((k : Int) + 1) = (k : Int) + 1 := by simp [IntKind.wrap, IntKind.bits, IntKind.signed]; omega
        have hlt2 : (k : Int) < (s.size : Int) := by omega
        by_cases h1 : s[k].toNat < 97
        · have HT := hide (text_no hlt (by unfold letB; rw [decide_eq_false (by omega)]; rfl))
          have h2 : (s[k].toNat : Int) < 97 := by omega
          go_wp2_with fail
          go_ret
          exact ⟨by rw [HT.out]; rfl, rfl⟩
        · have h2 : decide ((s[k].toNat : Int) < 97) = false := by simp; omega
          have h3 : 97 ≤ s[k].toNat := by omega
          by_cases h4 : s[k].toNat ≤ 122
          · have h5 : decide ((122 : Int) < (s[k].toNat : Int)) = false := by simp; omega
            have HL : Hid (letB s[k] = true) := by show _ = _; unfold letB; rw [decide_eq_true h3, decide_eq_true h4]; rfl
            go_wp2_with fail
            go_round
            case rel =>
              refine ⟨k + 1, by omega, by simp, fun t htk ht => ?_⟩
              by_cases e : t = k
              · subst e; exact HL.out
              · exact hE.out t (by omega) ht
            case measure => simp [intOf]; omega
          · have HT := hide (text_no hlt (by unfold letB; rw [decide_eq_false h4, Bool.and_false]))
            have h5 : (122 : Int) < (s[k].toNat : Int) := by omega
            go_wp2_with fail
            go_ret
            exact ⟨by rw [HT.out]; rfl, rfl⟩
      · have hlt2 : decide ((k : Int) < (s.size : Int)) = false := by simp; omega
        have hkk : k = s.size := by omega
        have HT := hide (text_yes hl (fun t ht => hE.out t (by omega) ht))
        go_wp2_with fail
        go_ret
        exact ⟨by rw [HT.out]; rfl, rfl⟩
  · have hl2 : (8 : Int) < (s.size : Int) := by omega
    have HT := hide (text_long hl)
    go_enter Try.func12, Try.ntmps12
    go_wp2_with fail
    go_ret
    exact ⟨by rw [HT.out]; rfl, rfl⟩
#print axioms sFraText_any
end Go.Proofs.Ytgdhlnfigcaepaa
/-
  A frame, as a value; whether it is ok, as plain words.
-/
namespace Go.Proofs.Ytgdhlnfigcaepaa
open Go.RowKit

/-- What one says. -/
structure Fra where
  fr : Int
  key : ByteArray
  n : Int
  text : ByteArray
abbrev fraC (fr : Int) (key : ByteArray) (n : Int) (text : ByteArray) : Array Value := #[.int .i64 fr, .string key, .int .i64 n, .string text]
abbrev Fra.cells (f : Fra) : Array Value := fraC f.fr f.key f.n f.text
/-- Whether a frame is ok. -/
def fraOk (f : Fra) : Bool := inB 0 7 f.fr && (Kw.ok f.key && (decide (mOp f.key = 5) && (decide (mWho f.key = f.fr) && (inB 1 999 f.n && textB f.text))))
theorem fraOk_eq (f : Fra) : fraOk f = (inB 0 7 f.fr && (Kw.ok f.key && (decide (mOp f.key = 5) && (decide (mWho f.key = f.fr) && (inB 1 999 f.n && textB f.text))))) := rfl
end Go.Proofs.Ytgdhlnfigcaepaa
/-
  The program's FraText: whether a text may be said.
-/
namespace Go.Proofs.Ytgdhlnfigcaepaa
open Go.RowKit

set_option maxHeartbeats 1000000 in
theorem iFraText_any (s : ByteArray) (w : World) :
    Calls Try.prog 13 #[.string s] w fun e w' => e = .returned (.bool (textB s)) ∧ w' = w := by
  by_cases hl : s.size ≤ 8
  · have hl2 : decide ((8 : Int) < (s.size : Int)) = false := by simp; omega
    have hl3 : (s.size : Int) ≤ 8 := by omega
    go_enter Try.func13, Try.ntmps13
    go_wp2_with fail
    go_loop [9] (fun i => ∃ k : Nat, k ≤ s.size ∧ i = .int .i64 (k : Int) ∧ Hid (∀ t (_ : t < k) (ht : t < s.size), letB s[t] = true)) (fun i => s.size - (intOf i).toNat)
    case atStart => exact ⟨0, Nat.zero_le _, rfl, fun t ht => absurd ht (Nat.not_lt_zero _)⟩
    case round =>
      obtain ⟨k, hk, rfl, hE⟩ := hrel
      by_cases hlt : k < s.size
      · have i3 : IntKind.i64.wrap ((k : Int) + 1) = (k : Int) + 1 := by simp [IntKind.wrap, IntKind.bits, IntKind.signed]; omega
        have hlt2 : (k : Int) < (s.size : Int) := by omega
        by_cases h1 : s[k].toNat < 97
        · have HT := hide (text_no hlt (by unfold letB; rw [decide_eq_false (by omega)]; rfl))
          have h2 : (s[k].toNat : Int) < 97 := by omega
          go_wp2_with fail
          go_ret
          exact ⟨by rw [HT.out]; rfl, rfl⟩
        · have h2 : decide ((s[k].toNat : Int) < 97) = false := by simp; omega
          have h3 : 97 ≤ s[k].toNat := by omega
          by_cases h4 : s[k].toNat ≤ 122
          · have h5 : decide ((122 : Int) < (s[k].toNat : Int)) = false := by simp; omega
            have HL : Hid (letB s[k] = true) := by show _ = _; unfold letB; rw [decide_eq_true h3, decide_eq_true h4]; rfl
            go_wp2_with fail
            go_round
            case rel =>
              refine ⟨k + 1, by omega, by simp, fun t htk ht => ?_⟩
              by_cases e : t = k
              · subst e; exact HL.out
              · exact hE.out t (by omega) ht
            case measure => simp [intOf]; omega
          · have HT := hide (text_no hlt (by unfold letB; rw [decide_eq_false h4, Bool.and_false]))
            have h5 : (122 : Int) < (s[k].toNat : Int) := by omega
            go_wp2_with fail
            go_ret
            exact ⟨by rw [HT.out]; rfl, rfl⟩
      · have hlt2 : decide ((k : Int) < (s.size : Int)) = false := by simp; omega
        have hkk : k = s.size := by omega
        have HT := hide (text_yes hl (fun t ht => hE.out t (by omega) ht))
        go_wp2_with fail
        go_ret
        exact ⟨by rw [HT.out]; rfl, rfl⟩
  · have hl2 : (8 : Int) < (s.size : Int) := by omega
    have HT := hide (text_long hl)
    go_enter Try.func13, Try.ntmps13
    go_wp2_with fail
    go_ret
    exact ⟨by rw [HT.out]; rfl, rfl⟩
#print axioms iFraText_any
end Go.Proofs.Ytgdhlnfigcaepaa
/-
  The program's FraOk, and isNumber.
-/
namespace Go.Proofs.Ytgdhlnfigcaepaa
open Go.RowKit

set_option maxHeartbeats 400000 in
theorem isNumber_any (n : Int) (w : World) : Calls Try.prog 40 #[.int .i64 n] w fun e w' => e = .returned (.bool (inB 1 999 n)) ∧ w' = w := by
  by_cases h : 1 ≤ n
  · by_cases h2 : n ≤ 999
    · have HE : Hid (inB 1 999 n = true) := by show _ = _; unfold inB; simp [h, h2]
      go_enter Try.func40, Try.ntmps40
      go_wp2_with fail
      go_ret
      exact ⟨ret_bool' HE.out.symm, rfl⟩
    · have HE : Hid (inB 1 999 n = false) := by show _ = _; unfold inB; simp [h2]
      have h3 : decide (n ≤ 999) = false := by simpa using h2
      go_enter Try.func40, Try.ntmps40
      go_wp2_with fail
      go_ret
      exact ⟨ret_bool' HE.out.symm, rfl⟩
  · have HE : Hid (inB 1 999 n = false) := by show _ = _; unfold inB; simp [h]
    have h3 : decide (1 ≤ n) = false := by simpa using h
    go_enter Try.func40, Try.ntmps40
    go_wp2_with fail
    go_ret
    exact ⟨ret_bool' HE.out.symm, rfl⟩
theorem isOne_any (n : Int) (w : World) : Calls Try.prog 39 #[.int .i64 n] w fun e w' => e = .returned (.bool (inB 0 7 n)) ∧ w' = w := by
  by_cases h : 0 ≤ n ∧ n ≤ 7
  · rw [show inB 0 7 n = true by unfold inB; simp [h.1, h.2]]
    exact isOne_yes n w h.1 (by omega)
  · rw [show inB 0 7 n = false by unfold inB; simp; omega]
    exact isOne_no n w (by omega)
theorem mOp_name {s : ByteArray} {n : Int} (h : mOp s = n) (hn : n ≠ 0) : Kw.ok s = true := by
  cases q : Kw.ok s with
  | true => rfl
  | false => exact absurd (by rw [← h]; unfold mOp; rw [if_neg (by rw [q]; simp)]) hn
theorem fraOk_impl (f : Fra) : fraOk f = (inB 0 7 f.fr && (decide (mOp f.key = 5) && (decide (mWho f.key = f.fr) && (inB 1 999 f.n && textB f.text)))) := by
  rw [fraOk_eq]
  by_cases h : mOp f.key = 5
  · rw [mOp_name h (by decide)]; simp
  · simp [h]

set_option maxRecDepth 100000 in
set_option maxHeartbeats 2000000 in
theorem iFraOk_any (f : Fra) (w : World) (hm : f.key.size ≤ maxLen) :
    Calls Try.prog 17 #[.agg f.cells] w fun e w' => e = .returned (.bool (fraOk f)) ∧ Below w.heap.size w w' := by
  have HE : Hid (fraOk f = _) := fraOk_impl f
  obtain ⟨fr, key, n, text⟩ := f
  simp only at hm HE ⊢
  have M := hide hm
  clear hm
  obtain ⟨r, hr⟩ : ∃ r, fraOk ⟨fr, key, n, text⟩ = r := ⟨_, rfl⟩
  rw [hr] at HE ⊢
  clear hr
  have A := hide (Blk.new w 27 (fraC fr key n text))
  have HB : Hid (Below w.heap.size w (w.alloc (.cells (fraC fr key n text) 27))) := (Below.refl _ _).alloc (Nat.le_refl _) _
  go_enter Try.func17, Try.ntmps17
  go_wp2_with fail
  generalize w.alloc (.cells (fraC fr key n text) 27) = W0 at *
  refine (iSecMade_any key _ M.out).mono ?_
  rw [how_field]
  rintro e w1 ⟨rfl, hb⟩
  replace A := hide ((unhide A).below hb)
  replace HB := hide (HB.out.trans (hb.mono HB.out.size))
  clear hb
  have B := hide (Blk.new w1 49 #[.int .i64 (mOp key), .int .i64 (mWho key), .int .i64 (mN key), .string (mA key), .string (mB key)])
  have A2 := hide ((unhide A).alloc (.cells #[.int .i64 (mOp key), .int .i64 (mWho key), .int .i64 (mN key), .string (mA key), .string (mB key)] 49))
  have HBS := HB.out.size
  have HB2 := hide (HB.out.alloc HBS (.cells #[.int .i64 (mOp key), .int .i64 (mWho key), .int .i64 (mN key), .string (mA key), .string (mB key)] 49))
  have c0 := (unhide A2).cell 0
  simp only [List.getElem?_toArray, List.getElem?_cons_zero] at c0
  clear HBS
  go_wp2_with fail
  clear c0
  refine (isOne_any fr _).mono ?_
  obtain ⟨b0, hb0⟩ : ∃ b, inB 0 7 fr = b := ⟨_, rfl⟩
  rw [hb0] at HE ⊢
  clear hb0
  cases b0 with
  | false =>
    rintro e wz ⟨rfl, rfl⟩
    have HF : Hid (r = false) := by show _ = _; rw [HE.out]; simp
    clear HE
    go_wp2_with fail
    go_ret
    exact ⟨ret_bool' HF.out.symm, unhide HB2⟩
  | true =>
    rintro e wz ⟨rfl, rfl⟩
    simp only [Bool.true_and] at HE
    generalize w1.alloc (.cells #[.int .i64 (mOp key), .int .i64 (mWho key), .int .i64 (mN key), .string (mA key), .string (mB key)] 49) = W2 at *
    have d0 := (unhide B).cell 0
    have d1 := (unhide B).cell 1
    have c0 := (unhide A2).cell 0
    have c2 := (unhide A2).cell 2
    simp only [List.getElem?_toArray, List.getElem?_cons_zero, List.getElem?_cons_succ] at d0 d1 c0 c2
    clear A HB
    by_cases h5 : mOp key = 5
    rotate_left
    · have HF : Hid (r = false) := by show _ = _; rw [HE.out]; simp [h5]
      have h6 : (mOp key == 5) = false := by simpa using h5
      clear HE h5
      go_wp2_with fail
      go_ret
      exact ⟨ret_bool' HF.out.symm, unhide HB2⟩
    have h6 : (mOp key == 5) = true := by simpa using h5
    rw [show decide (mOp key = 5) = true by simpa using h5] at HE
    simp only [Bool.true_and] at HE
    clear h5
    by_cases h7 : mWho key = fr
    rotate_left
    · have HF : Hid (r = false) := by show _ = _; rw [HE.out]; simp [h7]
      have h8 : (mWho key == fr) = false := by simpa using h7
      clear HE h7
      go_wp2_with fail
      go_ret
      exact ⟨ret_bool' HF.out.symm, unhide HB2⟩
    have h8 : (mWho key == fr) = true := by simpa using h7
    rw [show decide (mWho key = fr) = true by simpa using h7] at HE
    simp only [Bool.true_and] at HE
    clear h7
    go_wp2_with fail
    refine (isNumber_any n _).mono ?_
    obtain ⟨b1, hb1⟩ : ∃ b, inB 1 999 n = b := ⟨_, rfl⟩
    rw [hb1] at HE ⊢
    clear hb1
    cases b1 with
    | false =>
      rintro e wz ⟨rfl, rfl⟩
      have HF : Hid (r = false) := by show _ = _; rw [HE.out]; simp
      clear HE
      go_wp2_with fail
      go_ret
      exact ⟨ret_bool' HF.out.symm, unhide HB2⟩
    | true =>
      rintro e wz ⟨rfl, rfl⟩
      simp only [Bool.true_and] at HE
      have c3 := (unhide A2).cell 3
      simp only [List.getElem?_toArray, List.getElem?_cons_zero, List.getElem?_cons_succ] at c3
      go_wp2_with fail
      refine (iFraText_any text _).mono ?_
      rw [← HE.out]
      rintro e wz ⟨rfl, rfl⟩
      go_wp2_with fail
      go_ret
      exact ⟨rfl, unhide HB2⟩
#print axioms iFraOk_any
end Go.Proofs.Ytgdhlnfigcaepaa
/-
  The program's WinOk: isTooFar, fallsFrom.
-/
namespace Go.Proofs.Ytgdhlnfigcaepaa
open Go.RowKit

theorem irow_at {w w' : World} {ao : Option Addr} {n cap : Nat} {xs : List Int} (h : IRow w (.slice ao n cap) xs) (hb : Below w.heap.size w w') {i : Nat} (hi : i < xs.length) : ∃ a, ao = some a ∧ w'.cell? (a.add i) = some (.int .i64 (xs.getD i 0)) := by
  obtain ⟨ao', c, q, _, _, q2⟩ := (h.below hb).form
  simp only [Value.slice.injEq] at q
  obtain ⟨rfl, _, rfl⟩ := q
  exact q2 i hi
set_option maxHeartbeats 400000 in
theorem isTooFar_any (n top : Int) (w : World) (h1 : -10000 ≤ n ∧ n ≤ 10000) (h2 : -10000 ≤ top ∧ top ≤ 10000) :
    Calls Try.prog 62 #[.int .i64 n, .int .i64 top] w fun e w' => e = .returned (.bool (decide (8 ≤ top - n))) ∧ w' = w := by
  have i1 : IntKind.i64.wrap (top - n) = top - n := by simp [IntKind.wrap, IntKind.bits, IntKind.signed]; omega
  go_enter Try.func62, Try.ntmps62
  go_wp2_with fail
  go_ret
  exact ⟨rfl, rfl⟩

set_option maxRecDepth 100000 in
set_option maxHeartbeats 2000000 in
theorem fallsFrom_any (top : Int) (xs : List Int) (v : Value) (w : World) (hI : IRow w v xs) (ht : 1 ≤ top ∧ top ≤ 999) (hl : xs.length ≤ 2000000) :
    Calls Try.prog 43 #[.int .i64 top, v] w fun e w' => e = .returned (.bool (fallsB top xs)) ∧ Below w.heap.size w w' := by
  have HI := hide hI
  obtain ⟨ao, cap, rfl, _, hcap, _⟩ := hI.form
  clear hI
  unfold maxLen at hcap
  obtain ⟨r, hr⟩ : ∃ r, fallsB top xs = r := ⟨_, rfl⟩
  have HR := hide hr
  rw [hr]
  clear hr
  by_cases hl0 : 0 < xs.length
  rotate_left
  · obtain rfl : xs = [] := List.eq_nil_of_length_eq_zero (by omega)
    have HF : Hid (r = false) := by show _ = _; rw [← HR.out]; rfl
    clear HR
    simp only [List.length_nil]
    go_enter Try.func43, Try.ntmps43
    go_wp2_with fail
    go_ret
    exact ⟨ret_bool' HF.out.symm, Below.refl _ _⟩
  have hz1 : ((xs.length : Int) == 0) = false := by simp; intro q; rw [q] at hl0; simp at hl0
  have hz2 : (xs.length == 0) = false := by simp; intro q; rw [q] at hl0; simp at hl0
  have hz3 : (0 : Int) < (xs.length : Int) := by omega
  obtain ⟨a0, rfl, c0⟩ := irow_at (unhide HI) (Below.refl w.heap.size w) hl0
  obtain ⟨y0, hy0⟩ : ∃ y, xs.getD 0 0 = y := ⟨_, rfl⟩
  have HY := hide hy0
  have c8 : w.cell? a0 = some (.int .i64 y0) := by rw [← hy0]; exact c0
  clear hy0 c0
  by_cases hf : y0 = top
  rotate_left
  · have hq1 : (y0 != top) = true := by simpa using hf
    have hq2 : (y0 == top) = false := by simpa using hf
    have HF : Hid (r = false) := by show _ = _; rw [← HR.out]; exact falls_first (by rw [HY.out]; exact hf)
    clear hf HR
    go_enter Try.func43, Try.ntmps43
    go_wp2_with fail
    go_ret
    exact ⟨ret_bool' HF.out.symm, Below.refl _ _⟩
  subst hf
  have i1 : IntKind.i64.wrap (y0 + 1) = y0 + 1 := by simp [IntKind.wrap, IntKind.bits, IntKind.signed]; omega
  go_enter Try.func43, Try.ntmps43
  go_wp2_with fail
  clear c8 hz1 hz2
  go_loop [5, 22] (fun l i => ∃ (k : Nat) (last : Int), k ≤ xs.length ∧ i = .int .i64 (k : Int) ∧ l = .int .i64 last ∧ last ≤ 1000 ∧ Hid (last = if k = 0 then y0 + 1 else xs.getD (k - 1) 0) ∧ Hid (∀ j, j < k → 1 ≤ j → goodAt y0 xs j = true)) (fun _ i => xs.length - (intOf i).toNat)
  case atStart => exact ⟨0, y0 + 1, by omega, rfl, rfl, by omega, by show _ = _; rfl, fun j hj => by omega⟩
  case round =>
    obtain ⟨k, last, hk, rfl, rfl, hla, hL, hG⟩ := hrel
    by_cases hlt : k < xs.length
    rotate_left
    · have hlt2 : decide ((k : Int) < (xs.length : Int)) = false := by simp; omega
      have HF : Hid (r = true) := by show _ = _; rw [← HR.out]; exact falls_all hl0 HY.out (fun j hj h1 => hG.out j (by omega) h1)
      clear HR
      go_wp2_with fail
      go_ret
      exact ⟨ret_bool' HF.out.symm, Below.refl _ _⟩
    have hlt2 : (k : Int) < (xs.length : Int) := by omega
    have hk0 : (0 : Int) ≤ (k : Int) := by omega
    obtain ⟨_, e9, ca⟩ := irow_at (unhide HI) (Below.refl w.heap.size w) hlt
    cases e9
    have i3 : IntKind.i64.wrap ((k : Int) + 1) = (k : Int) + 1 := by simp [IntKind.wrap, IntKind.bits, IntKind.signed]; omega
    have hGO : Hid (1 ≤ k → goodAt y0 xs k = (decide (xs.getD k 0 < last) && (decide (y0 - 8 < xs.getD k 0) && decide (1 ≤ xs.getD k 0)))) := by intro h1; rw [hL.out, if_neg (by omega)]; rfl
    have HBAD : Hid (1 ≤ k → goodAt y0 xs k = false → fallsB y0 xs = false) := fun h1 q => falls_bad (top := y0) hlt h1 q
    have HZ : Hid (k = 0 → xs.getD k 0 = y0 ∧ last = y0 + 1) := fun e => ⟨by rw [e]; exact HY.out, by rw [hL.out, if_pos e]⟩
    have HN : Hid (xs.getD (k + 1 - 1) 0 = xs.getD k 0) := rfl
    generalize xs.getD k 0 = y at *
    clear hL
    by_cases g1 : 1 ≤ y
    rotate_left
    · have g2 : y < 1 := by omega
      have HF : Hid (r = false) := by
        show _ = _
        rw [← HR.out]
        by_cases e : k = 0
        · exact absurd (HZ.out e) (by omega)
        · exact HBAD.out (by omega) (by rw [hGO.out (by omega), decide_eq_false g1]; simp)
      clear HR g1
      go_wp2_with fail
      go_ret
      exact ⟨ret_bool' HF.out.symm, Below.refl _ _⟩
    have g2 : decide (y < 1) = false := by simp; omega
    by_cases g3 : y < last
    rotate_left
    · have g4 : last ≤ y := by omega
      have HF : Hid (r = false) := by
        show _ = _
        rw [← HR.out]
        by_cases e : k = 0
        · exact absurd (HZ.out e) (by omega)
        · exact HBAD.out (by omega) (by rw [hGO.out (by omega), decide_eq_false g3]; simp)
      clear HR g3
      go_wp2_with fail
      go_ret
      exact ⟨ret_bool' HF.out.symm, Below.refl _ _⟩
    have g4 : decide (last ≤ y) = false := by simp; omega
    go_wp2_with fail
    refine (isTooFar_any y y0 _ (by omega) (by omega)).mono ?_
    by_cases g5 : y0 - 8 < y
    rotate_left
    · rw [show decide (8 ≤ y0 - y) = true by simp; omega]
      rintro e wz ⟨rfl, rfl⟩
      have HF : Hid (r = false) := by
        show _ = _
        rw [← HR.out]
        by_cases e : k = 0
        · exact absurd (HZ.out e) (by omega)
        · exact HBAD.out (by omega) (by rw [hGO.out (by omega), decide_eq_false g5]; simp)
      clear HR g3 g5
      go_wp2_with fail
      go_ret
      exact ⟨ret_bool' HF.out.symm, Below.refl _ _⟩
    rw [show decide (8 ≤ y0 - y) = false by simp; omega]
    rintro e wz ⟨rfl, rfl⟩
    have HGK : Hid (1 ≤ k → goodAt y0 xs k = true) := by intro h1; rw [hGO.out h1]; simp [g1, g3, g5]
    have hy1 : y ≤ 1000 := by omega
    clear g3 g5
    go_wp2_with fail
    refine ⟨⟨k + 1, y, by omega, by simp, rfl, by omega, ?_, fun j hj h1 => ?_⟩, by simp [intOf]; omega⟩
    · show _ = _
      rw [if_neg (by omega), HN.out]
    · by_cases e : j = k
      · subst e; exact HGK.out h1
      · exact hG.out j (by omega) h1
theorem winOk_impl (x : Win) : winOk x = (decide (mOp x.key = 5) && (inB 1 999 x.top && fallsB x.top x.seen)) := by
  rw [winOk_eq]
  by_cases h : mOp x.key = 5
  · rw [mOp_name h (by decide)]; simp
  · simp [h]

set_option maxRecDepth 100000 in
set_option maxHeartbeats 2000000 in
theorem iWinOk_any (x : Win) (v : Value) (w : World) (hI : IRow w v x.seen) (hm : x.key.size ≤ maxLen) (hl : x.seen.length ≤ 2000000) :
    Calls Try.prog 21 #[.agg (x.cells v)] w fun e w' => e = .returned (.bool (winOk x)) ∧ Below w.heap.size w w' := by
  have HE : Hid (winOk x = _) := winOk_impl x
  obtain ⟨key, top, xs⟩ := x
  simp only at hI hm hl HE ⊢
  have M := hide hm
  have HI := hide hI
  obtain ⟨ao, cap, rfl, _, hcap, _⟩ := hI.form
  clear hm hI
  obtain ⟨r, hr⟩ : ∃ r, winOk ⟨key, top, xs⟩ = r := ⟨_, rfl⟩
  rw [hr] at HE ⊢
  clear hr
  have A := hide (Blk.new w 35 (winC key top (.slice ao xs.length cap)))
  have HB : Hid (Below w.heap.size w (w.alloc (.cells (winC key top (.slice ao xs.length cap)) 35))) := (Below.refl _ _).alloc (Nat.le_refl _) _
  go_enter Try.func21, Try.ntmps21
  go_wp2_with fail
  generalize w.alloc (.cells (winC key top (.slice ao xs.length cap)) 35) = W0 at *
  refine (iSecMade_any key _ M.out).mono ?_
  rw [how_field]
  rintro e w1 ⟨rfl, hb⟩
  replace A := hide ((unhide A).below hb)
  replace HB := hide (HB.out.trans (hb.mono HB.out.size))
  have hfl := field_op
  clear hb
  by_cases h5 : mOp key = 5
  rotate_left
  · have HF : Hid (r = false) := by show _ = _; rw [HE.out]; simp [h5]
    have h6 : (mOp key == 5) = false := by simpa using h5
    clear HE h5
    go_wp2_with fail
    go_ret
    exact ⟨ret_bool' HF.out.symm, unhide HB⟩
  have h6 : (mOp key == 5) = true := by simpa using h5
  rw [show decide (mOp key = 5) = true by simpa using h5] at HE
  simp only [Bool.true_and] at HE
  have c1 := (unhide A).cell 1
  simp only [List.getElem?_toArray, List.getElem?_cons_zero, List.getElem?_cons_succ] at c1
  clear h5
  go_wp2_with fail
  refine (isNumber_any top _).mono ?_
  obtain ⟨b1, hb1⟩ : ∃ b, inB 1 999 top = b := ⟨_, rfl⟩
  rw [hb1] at HE ⊢
  have H1 := hide hb1
  clear hb1
  cases b1 with
  | false =>
    rintro e wz ⟨rfl, rfl⟩
    have HF : Hid (r = false) := by show _ = _; rw [HE.out]; simp
    clear HE
    go_wp2_with fail
    go_ret
    exact ⟨ret_bool' HF.out.symm, unhide HB⟩
  | true =>
    rintro e wz ⟨rfl, rfl⟩
    simp only [Bool.true_and] at HE
    have c2 := (unhide A).cell 2
    simp only [List.getElem?_toArray, List.getElem?_cons_zero, List.getElem?_cons_succ] at c2
    go_wp2_with fail
    refine (fallsFrom_any top xs _ _ ((unhide HI).below HB.out) (by have := H1.out; unfold inB at this; simpa using this) hl).mono ?_
    rw [← HE.out]
    rintro e w2 ⟨rfl, hb⟩
    replace HB := hide (HB.out.trans (hb.mono HB.out.size))
    clear hb
    go_wp2_with fail
    go_ret
    exact ⟨rfl, unhide HB⟩
#print axioms iWinOk_any
end Go.Proofs.Ytgdhlnfigcaepaa
/-
  Several cells out of and into the middle of a block that a call made. No Go function in it.
-/
namespace Go.Proofs.Ytgdhlnfigcaepaa
open Go.RowKit

theorem heap_setAt {w : World} {b i : Nat} {t : TypeId} {cs : Array Value} (h : Blk w b t cs) (v : Value) : Blk (w.setCell ⟨b, i, none⟩ v) b t (cs.setIfInBounds i v) := by
  unfold Blk
  rw [heap_setCell_same w b i _ _ v h]
theorem Blk.otherC {w : World} {b b' i : Nat} {t : TypeId} {cs : Array Value} (h : Blk w b t cs) (hne : b ≠ b') (v : Value) : Blk (w.setCell ⟨b', i, none⟩ v) b t cs := by
  unfold Blk
  rw [Below.heap_setCell _ _ _ _ hne]
  exact h
theorem grown_setC (w : World) (b i : Nat) (v : Value) : w.grownBy (w.setCell ⟨b, i, none⟩ v) (some b) :=
  ⟨rfl, rfl, rfl, by simp [World.setCell], fun k _ hk => Below.heap_setCell _ _ _ _ (fun e => hk (by rw [e]))⟩
theorem row_setC {B : Nat} {w : World} {e t : TypeId} {size n b i : Nat} {v : Value} {xs : List Value} {cs : Array Value} (h : w.ownsRow B e size v n xs) (hx : Blk w b t cs) (hte : t ≠ e) (x : Value) : (w.setCell ⟨b, i, none⟩ x).ownsRow B e size v n xs :=
  h.kept (grown_setC w b i x) (.inr (hx.not_row hte h).symm)

/-- These cells, from a place on, in others' stead. -/
def setAll : Array Value → Nat → List Value → Array Value
  | cs, _, [] => cs
  | cs, o, v :: r => setAll (cs.setIfInBounds o v) (o + 1) r
theorem Blk.setCells {b : Nat} {t : TypeId} : ∀ (vs : List Value) (o : Nat) {w : World} {cs : Array Value}, Blk w b t cs → Blk (w.setCells b o vs) b t (setAll cs o vs)
  | [], _, _, _, h => h
  | v :: r, o, _, _, h => Blk.setCells r (o + 1) (heap_setAt h v)
theorem grown_trans {u v w : World} {b : Nat} (h : u.grownBy v (some b)) (k : v.grownBy w (some b)) : u.grownBy w (some b) :=
  ⟨k.os.trans h.os, k.tape.trans h.tape, k.output.trans h.output, Nat.le_trans h.size k.size, fun z hz hne => (k.block z (Nat.lt_of_lt_of_le hz h.size) hne).trans (h.block z hz hne)⟩
theorem grown_setCells (b : Nat) : ∀ (vs : List Value) (o : Nat) (w : World), w.grownBy (w.setCells b o vs) (some b)
  | [], _, _ => ⟨rfl, rfl, rfl, Nat.le_refl _, fun _ _ _ => rfl⟩
  | v :: r, o, w => grown_trans (grown_setC w b o v) (grown_setCells b r (o + 1) _)
theorem Blk.there {w : World} {b : Nat} {t : TypeId} {cs : Array Value} (h : Blk w b t cs) {o n : Nat} (hn : o + n ≤ cs.size) : w.there b o n := fun j hj => by
  rw [h.cell, h.frozen]
  refine ⟨?_, rfl⟩
  rw [Array.getElem?_eq_getElem (by omega)]
  rfl
theorem Blk.range {w : World} {b : Nat} {t : TypeId} {cs : Array Value} (h : Blk w b t cs) {o : Nat} {vs : List Value} (hv : ∀ j v, vs[j]? = some v → cs[o + j]? = some v) : w.rangeAt b o vs := fun j v hj => by
  rw [h.cell]; exact hv j v hj
theorem Blk.otherCs {w : World} {b b' o : Nat} {t : TypeId} {cs : Array Value} (h : Blk w b t cs) (hne : b ≠ b') (vs : List Value) : Blk (w.setCells b' o vs) b t cs := h.kept (grown_setCells b' vs o w) (fun e => hne (by cases e; rfl))
theorem row_setCs {B : Nat} {w : World} {e t : TypeId} {size n b o : Nat} {v : Value} {xs : List Value} {cs : Array Value} (h : w.ownsRow B e size v n xs) (hx : Blk w b t cs) (hte : t ≠ e) (vs : List Value) : (w.setCells b o vs).ownsRow B e size v n xs :=
  h.kept (grown_setCells b vs o w) (.inr (hx.not_row hte h).symm)
theorem below_setCs {B : Nat} {w w' : World} {b o : Nat} (h : Below B w w') (hb : B ≤ b) (hs : B ≤ w'.heap.size) (vs : List Value) : Below B w (w'.setCells b o vs) := h.grown (grown_setCells b vs o w') hs (fun k hk => by cases hk; exact hb)
end Go.Proofs.Ytgdhlnfigcaepaa
/-
  A region that draws its order: whatever yields its value in every later world may be taken first; so what makes or writes memory alone comes up, one by one; what waits for all others may write what it likes.
-/
namespace Go.Proofs.Ytgdhlnfigcaepaa
open Go.RowKit

/-- An order of worlds. -/
structure Pre (R : World → World → Prop) : Prop where
  refl : ∀ w, R w w
  trans : ∀ u v w, R u v → R v w → R u w

section
variable {P : Program} {ops : Array Oper} {Q : Exit → Act → World → Prop} {md : Region.Mode} {R : World → World → Prop}

/-- Operation j waits for all others. -/
def waitsB (md : Region.Mode) (ops : Array Oper) (j : Nat) : Bool :=
  (List.range ops.size).all fun k => k == j || ((ops[j]?).map (fun o => o.after.any fun e => Region.binds md e && e.on == k)).getD false

/-- Whatever order is picked from here on, and each operation leads from a world to a later one, but one that waits for all others. -/
def wpAnyR (P : Program) (md : Region.Mode) (ops : Array Oper) (Q : Exit → Act → World → Prop) (R : World → World → Prop) : Nat → Array Bool → Act → World → Prop
  | 0, listed, a, w => Region.ready md ops listed = [] ∧ Q .normal a w
  | fuel + 1, listed, a, w =>
    (Region.ready md ops listed = [] → Q .normal a w) ∧
    ∀ i ∈ Region.ready md ops listed, wpOp P ops Q i (fun a' w' => (waitsB md ops i = true ∧ Region.ready md ops (listed.setIfInBounds i true) = [] ∧ Q .normal a' w') ∨ (R w w' ∧ wpAnyR P md ops Q R fuel (listed.setIfInBounds i true) a' w')) a w

theorem wpAny_of_R : ∀ (fuel : Nat) (listed : Array Bool) (a : Act) (w : World), wpAnyR P md ops Q R fuel listed a w → wpAny P md ops Q fuel listed a w
  | 0, _, _, _, h => h
  | fuel + 1, _, _, _, h => ⟨h.1, fun i hi => wpOp_mono (fun a' w' h' => by
      rcases h' with ⟨_, h1, h2⟩ | h'
      · cases fuel with
        | zero => exact ⟨h1, h2⟩
        | succ f => exact ⟨fun _ => h2, by rw [h1]; simp⟩
      · exact wpAny_of_R fuel _ a' w' h'.2) (h.2 i hi)⟩

theorem YieldsIf.later {S S' : World → Prop} {o : Oper} {v : Value} {a : Act} (h : YieldsIf P ops S o v a) (hs : ∀ w, S' w → S w) : YieldsIf P ops S' o v a :=
  h.imp (fun ⟨hw, hv⟩ => ⟨hw, fun w hS => hv w (hs w hS)⟩) id

theorem waits_spec {j i : Nat} {oj : Oper} (hj : ops[j]? = some oj) (h : waitsB md ops j = true) (hi : i < ops.size) (hne : i ≠ j) : ∃ e ∈ oj.after, Region.binds md e = true ∧ e.on = i := by
  unfold waitsB at h
  rw [List.all_eq_true] at h
  have h1 := h i (by rw [List.mem_range]; exact hi)
  rw [hj] at h1
  simp only [Option.map_some, Option.getD_some, Bool.or_eq_true, beq_iff_eq, hne, false_or, Array.any_eq_true', Bool.and_eq_true] at h1
  exact h1

theorem wpAnyR_first (hP : Pre R) {i : Nat} {oi : Oper} {v : Value} (hi : ops[i]? = some oi) (hsel : ∀ (j : Nat) (o : Oper) cs b, ops[j]? = some o → o.op ≠ .select cs b)
    (hQ : ∀ c a w, Q (.panic c) (a.put oi.dst v) w → Q (.panic c) a w) :
    ∀ (fuel : Nat) (listed : Array Bool) (a : Act) (w : World),
      (∀ j oj, ops[j]? = some oj → j ≠ i → listed.getD j true = false → (∀ e ∈ oj.after, Region.binds md e = true → e.on ≠ i) → oi.apart ops oj = true) →
      i ∈ Region.ready md ops listed → YieldsIf P ops (R w) oi v a →
      wpAnyR P md ops Q R fuel (listed.setIfInBounds i true) (a.put oi.dst v) w → wpAnyR P md ops Q R (fuel + 1) listed a w := by
  intro fuel
  induction fuel with
  | zero =>
    intro listed a w _ hr hy H
    refine ⟨fun h => (by rw [h] at hr; cases hr), fun j hj => ?_⟩
    by_cases hji : j = i
    · subst hji; exact hy.wpOp hi (hP.refl w) (.inr ⟨hP.refl w, H⟩)
    · have := ready_mono hj hji
      rw [H.1] at this
      cases this
  | succ fuel ih =>
    intro listed a w hfree hr hy H
    refine ⟨fun h => (by rw [h] at hr; cases hr), fun j hj => ?_⟩
    by_cases hji : j = i
    · subst hji; exact hy.wpOp hi (hP.refl w) (.inr ⟨hP.refl w, H⟩)
    · have h1 := H.2 j (ready_mono hj hji)
      obtain ⟨hjun, oj, hoj, hall⟩ := mem_ready.1 hj
      have hnot : ∀ e ∈ oj.after, Region.binds md e = true → e.on ≠ i := fun e he hb heq => by
        have h1 := hall e he hb
        have h0 := (mem_ready.1 hr).1
        rw [heq] at h1
        rcases Nat.lt_or_ge i listed.size with h' | h'
        · simp [h'] at h0 h1; rw [h0] at h1; cases h1
        · simp [Array.getElem?_eq_none h'] at h1
      have hnw : ¬ waitsB md ops j = true := fun q => by
        obtain ⟨e, he, hb, heq⟩ := waits_spec hoj q (Array.getElem?_eq_some_iff.1 hi).1 (Ne.symm hji)
        exact hnot e he hb heq
      have h2 := wpOp_putIf hoj (hfree j oj hoj hji hjun hnot) (fun cs b => hsel i oi cs b hi) (fun cs b => hsel j oj cs b hoj) hQ hy h1
      have hfree' : ∀ k ok, ops[k]? = some ok → k ≠ i → (listed.setIfInBounds j true).getD k true = false →
          (∀ e ∈ ok.after, Region.binds md e = true → e.on ≠ i) → oi.apart ops ok = true := fun k ok hk hki hun hno => by
        refine hfree k ok hk hki ?_ hno
        by_cases hjk : j = k
        · subst hjk; exact hjun
        · rw [getD_set_ne true hjk] at hun; exact hun
      refine wpOp_mono (fun a' w' h3 => ?_) h2
      rcases h3.2 with ⟨q, _⟩ | ⟨h4, h5⟩
      · exact absurd q hnw
      refine .inr ⟨h4, ih (listed.setIfInBounds j true) a' w' hfree' (ready_mono hr (Ne.symm hji)) (YieldsIf.later h3.1 (fun u hu => hP.trans _ _ _ h4 hu)) ?_⟩
      rw [Array.setIfInBounds_comm _ _ hji]
      exact h5

/-- Take number i first: it yields v in every later world. -/
theorem ord_take (hP : Pre R) {i d : Nat} {v : Value} {fuel : Nat} {listed : Array Bool} {a : Act} {w : World}
    (hs : Region.noSelect ops = true) (hf : Region.free md ops listed i = true) (hr : (Region.ready md ops listed).contains i = true) (hd : (ops[i]?).bind (·.dst) = some d)
    (hQ : ∀ c a w, Q (.panic c) (a.put (some d) v) w → Q (.panic c) a w)
    (hy : ∀ oi, ops[i]? = some oi → Region.wanted oi (yielded ops a.tmps) = true ∧ ∀ w', R w w' → (execOp a.eval oi).run P w' = .ok (.value v) w')
    (h : wpAnyR P md ops Q R fuel (listed.setIfInBounds i true) (a.put (some d) v) w) : wpAnyR P md ops Q R (fuel + 1) listed a w := by
  cases hi : ops[i]? with
  | none => rw [hi] at hd; cases hd
  | some oi =>
    rw [hi] at hd
    have hd' : oi.dst = some d := hd
    rw [← hd'] at h hQ
    exact wpAnyR_first hP hi (Region.noSelect_spec hs) hQ fuel listed a w (Region.free_spec hi hf) (by simpa using hr) (.inl (hy oi hi)) h
/-- Take number i first: it is not wanted. -/
theorem ord_skip (hP : Pre R) {i d : Nat} {fuel : Nat} {listed : Array Bool} {a : Act} {w : World}
    (hs : Region.noSelect ops = true) (hf : Region.free md ops listed i = true) (hr : (Region.ready md ops listed).contains i = true) (hd : (ops[i]?).bind (·.dst) = some d)
    (hQ : ∀ c a w, Q (.panic c) (a.put (some d) undef) w → Q (.panic c) a w)
    (hy : ((ops[i]?).map fun oi => Region.wanted oi (yielded ops a.tmps)) = some false)
    (h : wpAnyR P md ops Q R fuel (listed.setIfInBounds i true) (a.put (some d) undef) w) : wpAnyR P md ops Q R (fuel + 1) listed a w := by
  cases hi : ops[i]? with
  | none => rw [hi] at hd; cases hd
  | some oi =>
    rw [hi] at hd hy
    have hd' : oi.dst = some d := hd
    rw [← hd'] at h hQ
    exact wpAnyR_first hP hi (Region.noSelect_spec hs) hQ fuel listed a w (Region.free_spec hi hf) (by simpa using hr) (.inr ⟨by simpa using hy, rfl⟩) h
/-- Number i alone comes up. -/
theorem ord_one {i : Nat} {fuel : Nat} {listed : Array Bool} {a : Act} {w : World} (hr : Region.ready md ops listed = [i])
    (h : ∀ oi K, ops[i]? = some oi → Shut (∀ a' w', R w w' → wpAnyR P md ops Q R fuel (listed.setIfInBounds i true) a' w' → K a' w') → Region.wanted oi (yielded ops a.tmps) = true ∧ oi.wp P a w K Q) : wpAnyR P md ops Q R (fuel + 1) listed a w := by
  refine ⟨fun h0 => (by rw [hr] at h0; cases h0), fun j hj => ?_⟩
  rw [hr] at hj
  obtain rfl : j = i := by simpa using hj
  unfold wpOp
  cases hi : ops[j]? with
  | none =>
    have : j ∈ Region.ready md ops listed := by rw [hr]; simp
    obtain ⟨_, o, ho, _⟩ := mem_ready.1 this
    rw [hi] at ho
    cases ho
  | some oi =>
    obtain ⟨hw, hwp⟩ := h oi (fun a' w' => (waitsB md ops j = true ∧ Region.ready md ops (listed.setIfInBounds j true) = [] ∧ Q .normal a' w') ∨ (R w w' ∧ wpAnyR P md ops Q R fuel (listed.setIfInBounds j true) a' w')) hi (fun a' w' hl hk => .inr (And.intro hl hk))
    simp only [hw, if_true]
    exact .inl hwp
/-- Number i comes up last: it waits for all others. -/
theorem ord_last {i : Nat} {fuel : Nat} {listed : Array Bool} {a : Act} {w : World} (hr : Region.ready md ops listed = [i]) (hwt : waitsB md ops i = true) (he : Region.ready md ops (listed.setIfInBounds i true) = [])
    (h : ∀ oi K, ops[i]? = some oi → Shut (∀ a' w', Q .normal a' w' → K a' w') → Region.wanted oi (yielded ops a.tmps) = true ∧ oi.wp P a w K Q) : wpAnyR P md ops Q R (fuel + 1) listed a w := by
  refine ⟨fun h0 => (by rw [hr] at h0; cases h0), fun j hj => ?_⟩
  rw [hr] at hj
  obtain rfl : j = i := by simpa using hj
  unfold wpOp
  cases hi : ops[j]? with
  | none =>
    have : j ∈ Region.ready md ops listed := by rw [hr]; simp
    obtain ⟨_, o, ho, _⟩ := mem_ready.1 this
    rw [hi] at ho
    cases ho
  | some oi =>
    obtain ⟨hw, hwp⟩ := h oi (fun a' w' => (waitsB md ops j = true ∧ Region.ready md ops (listed.setIfInBounds j true) = [] ∧ Q .normal a' w') ∨ (R w w' ∧ wpAnyR P md ops Q R fuel (listed.setIfInBounds j true) a' w')) hi (fun a' w' hl => .inl ⟨hwt, he, hl⟩)
    simp only [hw, if_true]
    exact .inl hwp
/-- All have come up. -/
theorem later_done {listed : Array Bool} {a : Act} {w : World} (hr : Region.ready md ops listed = []) (h : Q .normal a w) : ∀ fuel, wpAnyR P md ops Q R fuel listed a w
  | 0 => ⟨hr, h⟩
  | _ + 1 => ⟨fun _ => h, by rw [hr]; simp⟩
/-- The beginning. -/
theorem wp_region_ord (R : World → World → Prop) {id : Nat} {a : Act} {w : World} (hm : P.follows .mixedOrders = true)
    (h : wpAnyR P .any ops Q R ops.size (Array.replicate ops.size false) a w.drew) : (Code.region id ops true).wp P Q a w :=
  wp_region_any hm (wpAny_of_R _ _ _ _ h)
end

/-- Later worlds: what was there is as it was. -/
def Later (w w' : World) : Prop := Below w.heap.size w w'
theorem laterPre : Pre Later := ⟨fun _ => Below.refl _ _, fun _ _ _ h k => Below.trans h (Below.mono k h.size)⟩
/-- Worlds in which what lay below B is as it was. -/
theorem belowPre (B : Nat) : Pre (Below B) := ⟨fun _ => Below.refl _ _, fun _ _ _ h k => Below.trans h k⟩

section
variable {P : Program} {ops : Array Oper} {Q : Exit → Act → World → Prop} {md : Region.Mode}
theorem later_take {i d : Nat} {v : Value} {fuel : Nat} {listed : Array Bool} {a : Act} {w : World}
    (hs : Region.noSelect ops = true) (hf : Region.free md ops listed i = true) (hr : (Region.ready md ops listed).contains i = true) (hd : (ops[i]?).bind (·.dst) = some d)
    (hQ : ∀ c a w, Q (.panic c) (a.put (some d) v) w → Q (.panic c) a w)
    (hy : ∀ oi, ops[i]? = some oi → Region.wanted oi (yielded ops a.tmps) = true ∧ ∀ w', Later w w' → (execOp a.eval oi).run P w' = .ok (.value v) w')
    (h : wpAnyR P md ops Q Later fuel (listed.setIfInBounds i true) (a.put (some d) v) w) : wpAnyR P md ops Q Later (fuel + 1) listed a w := ord_take laterPre hs hf hr hd hQ hy h
theorem later_skip {i d : Nat} {fuel : Nat} {listed : Array Bool} {a : Act} {w : World}
    (hs : Region.noSelect ops = true) (hf : Region.free md ops listed i = true) (hr : (Region.ready md ops listed).contains i = true) (hd : (ops[i]?).bind (·.dst) = some d)
    (hQ : ∀ c a w, Q (.panic c) (a.put (some d) undef) w → Q (.panic c) a w)
    (hy : ((ops[i]?).map fun oi => Region.wanted oi (yielded ops a.tmps)) = some false)
    (h : wpAnyR P md ops Q Later fuel (listed.setIfInBounds i true) (a.put (some d) undef) w) : wpAnyR P md ops Q Later (fuel + 1) listed a w := ord_skip laterPre hs hf hr hd hQ hy h
theorem later_one {i : Nat} {fuel : Nat} {listed : Array Bool} {a : Act} {w : World} (hr : Region.ready md ops listed = [i])
    (h : ∀ oi K, ops[i]? = some oi → Shut (∀ a' w', Later w w' → wpAnyR P md ops Q Later fuel (listed.setIfInBounds i true) a' w' → K a' w') → Region.wanted oi (yielded ops a.tmps) = true ∧ oi.wp P a w K Q) : wpAnyR P md ops Q Later (fuel + 1) listed a w := ord_one hr h
theorem wp_region_later {id : Nat} {a : Act} {w : World} (hm : P.follows .mixedOrders = true)
    (h : wpAnyR P .any ops Q Later ops.size (Array.replicate ops.size false) a w.drew) : (Code.region id ops true).wp P Q a w := wp_region_ord Later hm h
end
#print axioms wp_region_later
end Go.Proofs.Ytgdhlnfigcaepaa
/-
  A region that draws its order: two that make memory may come up, one ahead of the other.
-/
namespace Go.Proofs.Ytgdhlnfigcaepaa
open Go.RowKit
section
variable {P : Program} {ops : Array Oper} {Q : Exit → Act → World → Prop} {md : Region.Mode} {R : World → World → Prop}
theorem ord_two {i j : Nat} {fuel : Nat} {listed : Array Bool} {a : Act} {w : World} (hr : Region.ready md ops listed = [i, j])
    (h : ∀ oi K, ops[i]? = some oi → Shut (∀ a' w', R w w' → wpAnyR P md ops Q R fuel (listed.setIfInBounds i true) a' w' → K a' w') → Region.wanted oi (yielded ops a.tmps) = true ∧ oi.wp P a w K Q)
    (k : ∀ oi K, ops[j]? = some oi → Shut (∀ a' w', R w w' → wpAnyR P md ops Q R fuel (listed.setIfInBounds j true) a' w' → K a' w') → Region.wanted oi (yielded ops a.tmps) = true ∧ oi.wp P a w K Q) : wpAnyR P md ops Q R (fuel + 1) listed a w := by
  refine ⟨fun h0 => (by rw [hr] at h0; cases h0), fun z hz => ?_⟩
  have step : ∀ z, z ∈ Region.ready md ops listed → (∀ oi K, ops[z]? = some oi → Shut (∀ a' w', R w w' → wpAnyR P md ops Q R fuel (listed.setIfInBounds z true) a' w' → K a' w') → Region.wanted oi (yielded ops a.tmps) = true ∧ oi.wp P a w K Q) →
      wpOp P ops Q z (fun a' w' => (waitsB md ops z = true ∧ Region.ready md ops (listed.setIfInBounds z true) = [] ∧ Q .normal a' w') ∨ (R w w' ∧ wpAnyR P md ops Q R fuel (listed.setIfInBounds z true) a' w')) a w := by
    intro z hm hh
    unfold wpOp
    cases hi : ops[z]? with
    | none =>
      obtain ⟨_, o, ho, _⟩ := mem_ready.1 hm
      rw [hi] at ho
      cases ho
    | some oi =>
      obtain ⟨hw, hwp⟩ := hh oi (fun a' w' => (waitsB md ops z = true ∧ Region.ready md ops (listed.setIfInBounds z true) = [] ∧ Q .normal a' w') ∨ (R w w' ∧ wpAnyR P md ops Q R fuel (listed.setIfInBounds z true) a' w')) hi (fun a' w' hl hk => .inr (And.intro hl hk))
      simp only [hw, if_true]
      exact .inl hwp
  rw [hr] at hz
  rcases (by simpa using hz : z = i ∨ z = j) with rfl | rfl
  · exact step z (by rw [hr]; simp) h
  · exact step z (by rw [hr]; simp) k
theorem later_two {i j : Nat} {fuel : Nat} {listed : Array Bool} {a : Act} {w : World} (hr : Region.ready md ops listed = [i, j])
    (h : ∀ oi K, ops[i]? = some oi → Shut (∀ a' w', Later w w' → wpAnyR P md ops Q Later fuel (listed.setIfInBounds i true) a' w' → K a' w') → Region.wanted oi (yielded ops a.tmps) = true ∧ oi.wp P a w K Q)
    (k : ∀ oi K, ops[j]? = some oi → Shut (∀ a' w', Later w w' → wpAnyR P md ops Q Later fuel (listed.setIfInBounds j true) a' w' → K a' w') → Region.wanted oi (yielded ops a.tmps) = true ∧ oi.wp P a w K Q) : wpAnyR P md ops Q Later (fuel + 1) listed a w := ord_two hr h k
end
end Go.Proofs.Ytgdhlnfigcaepaa
/-
  A drawn region's order of worlds: a list of cells stays. No Go function in it.
-/
namespace Go.Proofs.Ytgdhlnfigcaepaa
open Go.RowKit

/-- Cells that stay. -/
def KeepC (L : List Addr) (u u' : World) : Prop := ∀ a ∈ L, u'.cell? a = u.cell? a
theorem keepCPre (L : List Addr) : Pre (KeepC L) := ⟨fun _ _ _ => rfl, fun _ _ _ h k a ha => (k a ha).trans (h a ha)⟩

theorem keepC_below {L : List Addr} {u u' : World} (h : Below u.heap.size u u') (hl : ∀ a ∈ L, a.block < u.heap.size) : KeepC L u u' := fun a ha => h.cell (hl a ha)
theorem keepC_grown {L : List Addr} {u u' : World} {r : Option Nat} (h : u.grownBy u' r) (hl : ∀ a ∈ L, a.block < u.heap.size ∧ some a.block ≠ r) : KeepC L u u' := fun a ha => World.cell?_of_block (w := u) (h.block a.block (hl a ha).1 (hl a ha).2)
/-- A value of several cells is stored whole, in a drawn region. -/
theorem keepC_row {L : List Addr} {u : World} {b : Nat} {cs : Array Value} (hl : ∀ a ∈ L, a.block < u.heap.size ∧ a.block ≠ b) (hg : u.grownBy (u.setRow b cs) (some b)) : KeepC L u (u.setRow b cs) := keepC_grown hg (fun a ha => ⟨(hl a ha).1, fun e => (hl a ha).2 (by cases e; rfl)⟩)
end Go.Proofs.Ytgdhlnfigcaepaa
