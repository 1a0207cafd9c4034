/-
  What covers: coverFrom of the program, l3Cover of the specification.
-/
import Derived.Test.YticmbajfdpchnaaTOk
import Derived.Test.YticmbajfdpchnaaTreV
import Derived.Test.YticmbajfdpchnaaPlcS0
import Derived.Test.YticmbajfdpchnaaBxd
import Derived.Test.YticmbajfdpchnaaAppR
import Derived.Test.YticmbajfdpchnaaOrdR
namespace Go.Proofs.Yticmbajfdpchnaa
open Go.RowKit

/-- What covers from a place down, if it is one. -/
def covR (xs : List ByteArray) (p : Int) : List Int := if 0 ≤ p ∧ p ≤ 14 then ints (cover xs p.toNat) else []
theorem covR_nat (xs : List ByteArray) (n : Nat) (h : n < 15) : covR xs (n : Int) = ints (cover xs n) := by unfold covR; rw [if_pos (by omega)]; rfl
theorem covR_out (xs : List ByteArray) (p : Int) (h : ¬ (0 ≤ p ∧ p ≤ 14)) : covR xs p = [] := by unfold covR; rw [if_neg h]
theorem covR_both (xs : List ByteArray) (n : Nat) (h : n < 15) (hk : keyed xs n = false) : covR xs (n : Int) = covR xs (2 * (n : Int) + 1) ++ covR xs (2 * (n : Int) + 2) := by
  by_cases h7 : n < 7
  · rw [covR_nat xs n h, cover_both xs n hk h7]
    have e1 : 2 * (n : Int) + 1 = ((2 * n + 1 : Nat) : Int) := by omega
    have e2 : 2 * (n : Int) + 2 = ((2 * n + 2 : Nat) : Int) := by omega
    rw [e1, e2, covR_nat xs _ (by omega), covR_nat xs _ (by omega)]
    simp [ints]
  · rw [covR_nat xs n h, cover_bare xs n hk (by omega), covR_out xs _ (by omega), covR_out xs _ (by omega)]
    rfl
theorem ints_len (ps : List Nat) : (ints ps).length = ps.length := by simp [ints]
theorem cover_le (xs : List ByteArray) : ∀ n, n < 15 → (cover xs n).length ≤ 8 ∧ (1 ≤ n → (cover xs n).length ≤ 4) ∧ (3 ≤ n → (cover xs n).length ≤ 2) ∧ (7 ≤ n → (cover xs n).length ≤ 1) := by
  apply down
  · intro n h h'
    cases q : keyed xs n with
    | true => rw [cover_keyed xs n q]; simp
    | false => rw [cover_bare xs n q h]; simp
  · intro n h i1 i2
    cases q : keyed xs n with
    | true => rw [cover_keyed xs n q]; simp
    | false =>
      rw [cover_both xs n q h, List.length_append]
      have := i1.2.1 (by omega)
      have := i2.2.1 (by omega)
      refine ⟨by omega, fun h1 => ?_, fun h3 => ?_, fun h7 => by omega⟩
      · have := i1.2.2.1 (by omega); have := i2.2.2.1 (by omega); omega
      · have := i1.2.2.2 (by omega); have := i2.2.2.2 (by omega); omega
theorem covR_len (xs : List ByteArray) (p : Int) : (covR xs p).length ≤ 8 := by
  unfold covR
  split
  · rw [ints_len]; exact (cover_le xs p.toNat (by omega)).1
  · simp

/-- What TreCover answers. -/
def covRes (xs : List ByteArray) (p : Int) : List Int := if treOk xs = true then covR xs p else []
theorem covRes_len (xs : List ByteArray) (p : Int) : (covRes xs p).length ≤ 8 := by
  unfold covRes
  split
  · exact covR_len xs p
  · simp

/-- What coverFrom leaves. -/
def CovC (xs : List ByteArray) (v : Value) (p : Int) : Prop := ∀ w : World, SRow w v xs →
  Calls Try.prog 39 #[v, .int .i64 p] w fun e w' => ∃ u, e = .returned u ∧ OwnI w.heap.size w' u (covR xs p) ∧ Below w.heap.size w w'

set_option maxHeartbeats 1000000 in
theorem covC_out (xs : List ByteArray) (v : Value) (p : Int) (h : ¬ (0 ≤ p ∧ p ≤ 14)) : CovC xs v p := by
  intro w hs
  have HE := hide (covR_out xs p h)
  have hh := hide h
  clear h hs
  go_enter Try.func39, Try.ntmps39
  go_wp2_with fail
  refine (isThere_no _ _ (by have := hh.out; omega)).mono ?_
  rintro e w1 ⟨rfl, rfl⟩
  go_wp2_with fail
  go_ret
  exact ⟨_, rfl, by rw [HE.out]; exact World.ownsRow_nil _ _ _ _, Below.refl _ _⟩

set_option maxRecDepth 100000 in
set_option maxHeartbeats 2000000 in
theorem covC_keyed (xs : List ByteArray) (hl : xs.length = 15) (v : Value) (n : Nat) (hn : n < 15) (q : keyed xs n = true) : CovC xs v (n : Int) := by
  intro w hs
  obtain ⟨ao, cap, rfl, h1, h2, h3⟩ := hs.form
  obtain ⟨a, rfl, hc⟩ := h3 n (by omega)
  have hne : ¬ (xs.getD n ByteArray.empty).toList = [] := no_text (by simpa [keyed] using q)
  have hne2 : (xs.getD n ByteArray.empty).toList.isEmpty = false := by simpa using hne
  have HC : Hid (covR xs (n : Int) = [(n : Int)]) := by show _ = _; rw [covR_nat xs n hn, cover_keyed xs n q]; rfl
  have HO : Hid (OwnI w.heap.size (w.alloc (.cells #[.int .i64 (n : Int)] 3)) (.slice (some ⟨w.heap.size, 0, none⟩) 1 1) [(n : Int)]) := World.ownsRow_lit (base := w.heap.size) (e := 3) (size := 1) w #[.int .i64 (n : Int)] 1 (Nat.le_refl _) (by unfold maxLen; omega) rfl
  have HB : Hid (Below w.heap.size w (w.alloc (.cells #[.int .i64 (n : Int)] 3))) := (Below.refl _ _).alloc (Nat.le_refl _) _
  have hn2 : (n : Int) < 15 := by omega
  clear q h3 hs
  rw [hl] at h1 ⊢
  generalize xs.getD n ByteArray.empty = y at hc hne hne2
  go_enter Try.func39, Try.ntmps39
  go_wp2_with fail
  refine (isThere_yes _ _ (by omega) (by omega)).mono ?_
  rintro e w1 ⟨rfl, rfl⟩
  go_wp2_with fail
  go_ret
  exact ⟨_, rfl, by rw [HC.out]; exact unhide HO, unhide HB⟩

theorem idx_0 (p1 p2 : Int) (w : World) : (Instr.index 82 (.agg #[.int .i64 p1, .int .i64 p2]) (.int .i64 0)).run Try.prog w = .ok (.int .i64 p1) w := by kernel_rfl
theorem idx_1 (p1 p2 : Int) (w : World) : (Instr.index 82 (.agg #[.int .i64 p1, .int .i64 p2]) (.int .i64 1)).run Try.prog w = .ok (.int .i64 p2) w := by kernel_rfl

set_option maxRecDepth 100000 in
set_option maxHeartbeats 4000000 in
theorem covC_both (xs : List ByteArray) (hl : xs.length = 15) (v : Value) (n : Nat) (hn : n < 15) (q : keyed xs n = false) (ih1 : CovC xs v (2 * (n : Int) + 1)) (ih2 : CovC xs v (2 * (n : Int) + 2)) : CovC xs v (n : Int) := by
  intro w hs
  obtain ⟨i0, hi, hz0, hz1, hz2⟩ := info_parts info_int2
  have hI := hide (And.intro hi (And.intro hz0 (And.intro hz1 hz2)))
  clear hi hz0 hz1 hz2
  have hR := hide hs
  obtain ⟨ao, cap, rfl, h1, h2, h3⟩ := hs.form
  obtain ⟨a, rfl, hc⟩ := h3 n (by omega)
  have hne : (xs.getD n ByteArray.empty).toList = [] := by
    have e : xs.getD n ByteArray.empty = ByteArray.empty := by simpa [keyed] using q
    rw [e]; exact nil_text
  have hne2 : (xs.getD n ByteArray.empty).toList.isEmpty = true := by rw [hne]; rfl
  have HC := hide (covR_both xs n hn q)
  have L1 := covR_len xs (2 * (n : Int) + 1)
  have L2 := covR_len xs (2 * (n : Int) + 2)
  have I1 := hide ih1
  have I2 := hide ih2
  have hn2 : (n : Int) < 15 := by omega
  clear q h3 hs ih1 ih2
  rw [hl] at h1 hR I1 I2 ⊢
  have HL := hide hl
  clear hl
  generalize xs.getD n ByteArray.empty = y at hc hne hne2
  go_enter Try.func39, Try.ntmps39
  go_wp2_with fail
  refine (isThere_yes _ _ (by omega) (by omega)).mono ?_
  rintro e wa ⟨rfl, rfl⟩
  go_wp2_with fail
  refine (under_any _ (by omega) (by omega) _).mono ?_
  rintro e w1 ⟨rfl, hb1⟩
  have HB1 := hide hb1
  clear hb1 hc
  generalize 2 * (n : Int) + 1 = p1 at *
  generalize 2 * (n : Int) + 2 = p2 at *
  go_wp2_with fail
  go_loopw [5, 20] (fun o i wr => ∃ k : Nat, k ≤ 2 ∧ i = .int .i64 (k : Int) ∧ Hid (OwnI wa.heap.size wr o (if k = 0 then [] else if k = 1 then covR xs p1 else covR xs p1 ++ covR xs p2)) ∧ Hid (Below wa.heap.size wa wr)) (fun _ i _ => 2 - (intOf i).toNat)
  case atStart => exact ⟨0, by omega, rfl, World.ownsRow_nil _ _ _ _, HB1⟩
  case round =>
    clear HB1
    obtain ⟨k, hk, rfl, hO, hB⟩ := hrel
    have hle := hB.out.size
    rcases (by omega : k = 0 ∨ k = 1 ∨ k = 2) with rfl | rfl | rfl
    · rw [show ((0 : Nat) : Int) = 0 from rfl]
      have hix := idx_0 p1 p2
      go_wp2_with fail
      refine (unhide I1 _ ((unhide hR).below (unhide hB))).mono ?_
      rintro e w2 ⟨u2, rfl, ho2, hb2⟩
      have N2 := hide ho2.irow.news
      have hO2 : Hid (OwnI wa.heap.size w2 u5 []) := OwnI.below (unhide hO) hb2
      have hB2 := hide ((unhide hB).trans (hb2.mono hle))
      have hle2 := hB2.out.size
      clear hb2 ho2 hO hB
      go_wp2_with (at_builtin; refine wpList_append_row _ rfl _ _ 31 rfl wa.heap.size 3 i0 (.int .i64 0) 1 8 Try.underlying31 (unhide hI).1 (unhide hI).2.1 (unhide hI).2.2.1 (unhide hI).2.2.2 rfl (by decide) _ _ _ rfl (unhide hO2) _ _ _ rfl (unhide N2) (ints_one _) (by unfold maxLen; simp; omega) (by simp; omega) (by omega) ?_)
      intro v3 w3 ho3 hg3
      have R1 : Hid (OwnI wa.heap.size w3 v3 (covR xs p1)) := by
        show OwnI _ _ _ _
        unfold OwnI
        simpa using ho3
      have R2 : Hid (Below wa.heap.size wa w3) := (unhide hB2).grown hg3 hle2 (fun k hk => ((unhide hO2).lt k hk).1)
      clear ho3 hg3 hO2 hB2 N2
      go_wp2_with fail
      go_roundw
      case rel => exact ⟨1, by omega, rfl, R1, R2⟩
      case measure => simp [intOf]
    · rw [show ((1 : Nat) : Int) = 1 from rfl]
      have hO1 : Hid (OwnI wa.heap.size wr u5 (covR xs p1)) := hO
      have hix := idx_1 p1 p2
      go_wp2_with fail
      refine (unhide I2 _ ((unhide hR).below (unhide hB))).mono ?_
      rintro e w2 ⟨u2, rfl, ho2, hb2⟩
      have N2 := hide ho2.irow.news
      have hO2 : Hid (OwnI wa.heap.size w2 u5 (covR xs p1)) := OwnI.below (unhide hO1) hb2
      have hB2 := hide ((unhide hB).trans (hb2.mono hle))
      have hle2 := hB2.out.size
      clear hb2 ho2 hO hB hO1
      go_wp2_with (at_builtin; refine wpList_append_row _ rfl _ _ 31 rfl wa.heap.size 3 i0 (.int .i64 0) 1 8 Try.underlying31 (unhide hI).1 (unhide hI).2.1 (unhide hI).2.2.1 (unhide hI).2.2.2 rfl (by decide) _ _ _ rfl (unhide hO2) _ _ _ rfl (unhide N2) (ints_one _) (by unfold maxLen; omega) (by omega) (by omega) ?_)
      intro v3 w3 ho3 hg3
      have R1 : Hid (OwnI wa.heap.size w3 v3 (covR xs p1 ++ covR xs p2)) := by
        unfold OwnI
        rw [List.length_append, List.map_append]
        exact ho3
      have R2 : Hid (Below wa.heap.size wa w3) := (unhide hB2).grown hg3 hle2 (fun k hk => ((unhide hO2).lt k hk).1)
      clear ho3 hg3 hO2 hB2 N2
      go_wp2_with fail
      go_roundw
      case rel => exact ⟨2, by omega, rfl, R1, R2⟩
      case measure => simp [intOf]
    · rw [show ((2 : Nat) : Int) = 2 from rfl]
      have hO1 : Hid (OwnI wa.heap.size wr u5 (covR xs p1 ++ covR xs p2)) := hO
      go_wp2_with fail
      go_ret
      exact ⟨_, rfl, by rw [HC.out]; exact unhide hO1, unhide hB⟩

theorem coverFrom_any (xs : List ByteArray) (hl : xs.length = 15) (v : Value) (p : Int) : CovC xs v p := by
  by_cases h : 0 ≤ p ∧ p ≤ 14
  · obtain ⟨n, rfl⟩ : ∃ k : Nat, p = (k : Int) := ⟨p.toNat, by omega⟩
    have key : ∀ n : Nat, n < 15 → CovC xs v ((n : Nat) : Int) := by
      apply down (P := fun n => CovC xs v ((n : Nat) : Int))
      · intro n h7 h15
        cases q : keyed xs n with
        | true => exact covC_keyed xs hl v n h15 q
        | false => exact covC_both xs hl v n h15 q (covC_out xs v _ (by omega)) (covC_out xs v _ (by omega))
      · intro n h7 i1 i2
        cases q : keyed xs n with
        | true => exact covC_keyed xs hl v n (by omega) q
        | false =>
          have e1 : 2 * (n : Int) + 1 = ((2 * n + 1 : Nat) : Int) := by omega
          have e2 : 2 * (n : Int) + 2 = ((2 * n + 2 : Nat) : Int) := by omega
          exact covC_both xs hl v n (by omega) q (by rw [e1]; exact i1) (by rw [e2]; exact i2)
    exact key n (by omega)
  · exact covC_out xs v p h
#print axioms coverFrom_any

set_option maxRecDepth 100000 in
set_option maxHeartbeats 2000000 in
theorem iTreCover_any (v : Value) (xs : List ByteArray) (p : Int) (w : World) (h : SRow w v xs) (hx : ∀ x ∈ xs, x.size ≤ maxLen) :
    Calls Try.prog 14 #[.agg #[v], .int .i64 p] w fun e w' => ∃ u, e = .returned u ∧ OwnI w.heap.size w' u (covRes xs p) ∧ Below w.heap.size w w' := by
  obtain ⟨ao, cap, rfl, h1, h2, _⟩ := h.form
  have HX := hide hx
  have hR := hide h
  clear h hx
  go_enter Try.func14, Try.ntmps14
  go_wp2_with fail
  refine (iTreOk_any _ xs _ ((unhide hR).below ((Below.refl _ _).alloc (Nat.le_refl _) _)) (unhide HX)).mono ?_
  rintro e w1 ⟨rfl, hb1⟩
  have A1 := hide (box_below (Boxed.new w 25 (.slice ao xs.length cap)) hb1)
  have HB1 : Hid (Below w.heap.size w w1) := ((Below.refl _ _).alloc (Nat.le_refl _) _).trans (hb1.mono (by simp))
  clear hb1
  have l1 := (unhide A1).cell
  cases hk : treOk xs with
  | false =>
    have HK := hide hk
    clear hk
    go_wp2_with fail
    go_ret
    exact ⟨_, rfl, by unfold covRes; rw [if_neg (by rw [HK.out]; simp)]; exact World.ownsRow_nil _ _ _ _, unhide HB1⟩
  | true =>
    have HK := hide hk
    have HL : Hid (xs.length = 15) := (treOk_iff.1 hk).1
    clear hk
    go_wp2_with fail
    refine (coverFrom_any xs HL.out _ p _ ((unhide hR).below (unhide HB1))).mono ?_
    rintro e w2 ⟨u2, rfl, ho2, hb2⟩
    have O2 := hide ho2
    have HB2 := hide (HB1.out.trans (hb2.mono HB1.out.size))
    clear ho2 hb2
    go_wp2_with fail
    go_ret
    exact ⟨_, rfl, by unfold covRes; rw [if_pos HK.out]; exact row_lowB (unhide O2) HB1.out.size, unhide HB2⟩

set_option maxRecDepth 100000 in
set_option maxHeartbeats 4000000 in
theorem l3Cover_both (xs : List ByteArray) (hl : xs.length = 15) (n : Nat) (h7 : n < 7) (q : keyed xs n = false) (v : Value)
    (ih1 : ∀ w, SRow w v xs → Calls Try.prog 40 #[.agg #[v], .int .i64 ((2 * n + 1 : Nat) : Int)] w (Covers xs (2 * n + 1) w))
    (ih2 : ∀ w, SRow w v xs → Calls Try.prog 40 #[.agg #[v], .int .i64 ((2 * n + 2 : Nat) : Int)] w (Covers xs (2 * n + 2) w))
    (w : World) (h : SRow w v xs) : Calls Try.prog 40 #[.agg #[v], .int .i64 (n : Int)] w (Covers xs n w) := by
  obtain ⟨i0, hi, hz0, hz1, hz2⟩ := info_parts info_int2
  have hI := hide (And.intro hi (And.intro hz0 (And.intro hz1 hz2)))
  clear hi hz0 hz1 hz2
  have hR0 := hide h
  obtain ⟨ao, cap, rfl, h1, h2, h3⟩ := h.form
  obtain ⟨a, rfl, hc0⟩ := h3 n (by omega)
  have hc := (((Below.refl w.heap.size w).alloc (Nat.le_refl _) (Obj.cells #[.slice (some a) xs.length cap] 25)).cell (cell_lt hc0)).trans hc0
  have hne : (xs.getD n ByteArray.empty).toList = [] := by
    have e : xs.getD n ByteArray.empty = ByteArray.empty := by simpa [keyed] using q
    rw [e]; exact nil_text
  have hne2 : (xs.getD n ByteArray.empty).toList.isEmpty = true := by rw [hne]; rfl
  have HC := hide (cover_both xs n q h7)
  have h72 : decide ((7 : Int) ≤ (n : Int)) = false := by simp; omega
  have L1 := (cover_le xs (2 * n + 1) (by omega)).1
  have L2 := (cover_le xs (2 * n + 2) (by omega)).1
  have i1 : IntKind.i64.wrap (2 * (n : Int)) = 2 * (n : Int) := wrap_small _ (by omega) (by omega)
  have i2 : IntKind.i64.wrap (2 * (n : Int) + 1) = ((2 * n + 1 : Nat) : Int) := by rw [wrap_small _ (by omega) (by omega)]; omega
  have i3 : IntKind.i64.wrap (2 * (n : Int) + 2) = ((2 * n + 2 : Nat) : Int) := by rw [wrap_small _ (by omega) (by omega)]; omega
  have I1 := hide ih1
  have I2 := hide ih2
  clear q h3 hc0 h ih1 ih2
  rw [hl] at h1 hc hR0 I1 I2 ⊢
  have HL := hide hl
  clear hl
  generalize xs.getD n ByteArray.empty = y at hc hne hne2
  have hA := hide (Boxed.new w 25 (.slice (some a) 15 cap))
  have hR : Hid (SRow (w.alloc (.cells #[.slice (some a) 15 cap] 25)) (.slice (some a) 15 cap) xs) := (unhide hR0).below ((Below.refl _ _).alloc (Nat.le_refl _) _)
  have hB0 : Hid (Below w.heap.size w (w.alloc (.cells #[.slice (some a) 15 cap] 25))) := (Below.refl _ _).alloc (Nat.le_refl _) _
  generalize 2 * n + 1 = n1 at *
  generalize 2 * n + 2 = n2 at *
  go_enter Try.func40, Try.ntmps40
  go_wp2_with fail
  refine wp_region_ord (Below (w.heap.size + 1)) (by kernel_rfl) ?_
  refine ord_take (belowPre (w.heap.size + 1)) (i := 0) (d := 16) (v := ?_) (by kernel_rfl) (by kernel_rfl) (by kernel_rfl) (by kernel_rfl) (fun _ _ _ h => h) (fun oi hoi => ?_) ?_
  rotate_left
  · simp at hoi
    subst hoi
    refine ⟨by rfl, fun w' hw' => ?_⟩
    have hx := (box_below0 (w := (w.alloc (.cells #[.slice (some a) 15 cap] 25)).drew) (unhide hA) hw' (by omega)).cell
    go_simp
    all_goals rfl
  try simp only [Act.put, List.setIfInBounds_toArray, List.set_cons_zero, List.set_cons_succ]
  refine ord_take (belowPre (w.heap.size + 1)) (i := 1) (d := 17) (v := ?_) (by kernel_rfl) (by kernel_rfl) (by kernel_rfl) (by kernel_rfl) (fun _ _ _ h => h) (fun oi hoi => ?_) ?_
  rotate_left
  · simp at hoi
    subst hoi
    refine ⟨by rfl, fun w' hw' => ?_⟩
    go_simp
    all_goals rfl
  try simp only [Act.put, List.setIfInBounds_toArray, List.set_cons_zero, List.set_cons_succ]
  refine ord_take (belowPre (w.heap.size + 1)) (i := 2) (d := 18) (v := ?_) (by kernel_rfl) (by kernel_rfl) (by kernel_rfl) (by kernel_rfl) (fun _ _ _ h => h) (fun oi hoi => ?_) ?_
  rotate_left
  · simp at hoi
    subst hoi
    refine ⟨by rfl, fun w' hw' => ?_⟩
    go_simp
    all_goals rfl
  try simp only [Act.put, List.setIfInBounds_toArray, List.set_cons_zero, List.set_cons_succ]
  refine ord_take (belowPre (w.heap.size + 1)) (i := 3) (d := 19) (v := ?_) (by kernel_rfl) (by kernel_rfl) (by kernel_rfl) (by kernel_rfl) (fun _ _ _ h => h) (fun oi hoi => ?_) ?_
  rotate_left
  · simp at hoi
    subst hoi
    refine ⟨by rfl, fun w' hw' => ?_⟩
    go_simp
    all_goals rfl
  try simp only [Act.put, List.setIfInBounds_toArray, List.set_cons_zero, List.set_cons_succ]
  refine ord_take (belowPre (w.heap.size + 1)) (i := 5) (d := 21) (v := ?_) (by kernel_rfl) (by kernel_rfl) (by kernel_rfl) (by kernel_rfl) (fun _ _ _ h => h) (fun oi hoi => ?_) ?_
  rotate_left
  · simp at hoi
    subst hoi
    refine ⟨by rfl, fun w' hw' => ?_⟩
    have hx := (box_below0 (w := (w.alloc (.cells #[.slice (some a) 15 cap] 25)).drew) (unhide hA) hw' (by omega)).cell
    go_simp
    all_goals rfl
  try simp only [Act.put, List.setIfInBounds_toArray, List.set_cons_zero, List.set_cons_succ]
  refine ord_take (belowPre (w.heap.size + 1)) (i := 6) (d := 22) (v := ?_) (by kernel_rfl) (by kernel_rfl) (by kernel_rfl) (by kernel_rfl) (fun _ _ _ h => h) (fun oi hoi => ?_) ?_
  rotate_left
  · simp at hoi
    subst hoi
    refine ⟨by rfl, fun w' hw' => ?_⟩
    go_simp
    all_goals rfl
  try simp only [Act.put, List.setIfInBounds_toArray, List.set_cons_zero, List.set_cons_succ]
  refine ord_take (belowPre (w.heap.size + 1)) (i := 7) (d := 23) (v := ?_) (by kernel_rfl) (by kernel_rfl) (by kernel_rfl) (by kernel_rfl) (fun _ _ _ h => h) (fun oi hoi => ?_) ?_
  rotate_left
  · simp at hoi
    subst hoi
    refine ⟨by rfl, fun w' hw' => ?_⟩
    go_simp
    all_goals rfl
  try simp only [Act.put, List.setIfInBounds_toArray, List.set_cons_zero, List.set_cons_succ]
  refine ord_take (belowPre (w.heap.size + 1)) (i := 8) (d := 24) (v := ?_) (by kernel_rfl) (by kernel_rfl) (by kernel_rfl) (by kernel_rfl) (fun _ _ _ h => h) (fun oi hoi => ?_) ?_
  rotate_left
  · simp at hoi
    subst hoi
    refine ⟨by rfl, fun w' hw' => ?_⟩
    go_simp
    all_goals rfl
  try simp only [Act.put, List.setIfInBounds_toArray, List.set_cons_zero, List.set_cons_succ]
  refine ord_one (i := 4) (by kernel_rfl) (fun oi K hoi hK => ?_)
  simp at hoi
  subst hoi
  refine ⟨by rfl, ?_⟩
  go_simp
  refine (unhide I1 _ (unhide hR).drew).mono ?_
  rintro e w2 ⟨u2, rfl, ho2, hb2⟩
  go_simp
  refine hK.out _ _ (hb2.mono (by simp)) ?_
  clear hK
  have O2 := hide ho2
  have HB2 : Hid (Below w.heap.size w w2) := (unhide hB0).drew.trans (hb2.mono (by simp))
  have hs2 := hb2.size
  have R2 := hide ((unhide hR).drew.below hb2)
  clear ho2 hb2
  try simp only [Act.put, List.setIfInBounds_toArray, List.set_cons_zero, List.set_cons_succ]
  refine ord_one (i := 9) (by kernel_rfl) (fun oi K hoi hK => ?_)
  simp at hoi
  subst hoi
  refine ⟨by rfl, ?_⟩
  go_simp
  refine (unhide I2 _ (unhide R2)).mono ?_
  rintro e w3 ⟨u3, rfl, ho3, hb3⟩
  go_simp
  refine hK.out _ _ (hb3.mono (by simp at hs2; omega)) ?_
  clear hK
  have N3 := hide ho3.irow.news
  have O3 := hide (OwnI.below (unhide O2) hb3)
  have HB3 := hide (HB2.out.trans (hb3.mono HB2.out.size))
  have hs3 := hb3.size
  clear ho3 hb3 O2 HB2
  try simp only [Act.put, List.setIfInBounds_toArray, List.set_cons_zero, List.set_cons_succ]
  refine ord_one (i := 10) (by kernel_rfl) (fun oi K hoi hK => ?_)
  simp at hoi
  subst hoi
  refine ⟨by rfl, ?_⟩
  refine wp_append_row _ _ _ 31 rfl (w.heap.size + 1) 3 i0 (.int .i64 0) 1 8 Try.underlying31 (unhide hI).1 (unhide hI).2.1 (unhide hI).2.2.1 (unhide hI).2.2.2 rfl (by decide) _ _ _ rfl (row_lowB (unhide O3) (by simp)) _ _ _ rfl (unhide N3) (ints_one _) (by rw [ints_len, ints_len]; unfold maxLen; omega) (by rw [ints_len, ints_len]; omega) (by simp at hs2; omega) ?_
  intro v4 w4 ho4 hg4
  have R5 : Hid (OwnI w.heap.size w4 v4 (ints (cover xs n1 ++ cover xs n2))) := by
    show OwnI _ _ _ _
    unfold OwnI ints
    rw [List.map_append, List.length_append, List.map_append]
    exact row_lowB ho4 (by omega)
  have HB5 : Hid (Below w.heap.size w w4) := (unhide HB3).grown hg4 HB3.out.size (fun k hk => by have := ((unhide O3).lt k hk).1; simp at this; omega)
  refine hK.out _ _ ((Below.refl _ _).grown hg4 (by simp at hs2; omega) (fun k hk => by have := ((unhide O3).lt k hk).1; simp at this; omega)) ?_
  clear hK ho4 hg4 O3 N3 HB3
  try simp only [Act.put, List.setIfInBounds_toArray, List.set_cons_zero, List.set_cons_succ]
  refine ord_take (belowPre (w.heap.size + 1)) (i := 11) (d := 4) (v := ?_) (by kernel_rfl) (by kernel_rfl) (by kernel_rfl) (by kernel_rfl) (fun _ _ _ h => h) (fun oi hoi => ?_) ?_
  rotate_left
  · simp at hoi
    subst hoi
    refine ⟨by rfl, fun w' hw' => ?_⟩
    go_simp
    all_goals rfl
  try simp only [Act.put, List.setIfInBounds_toArray, List.set_cons_zero, List.set_cons_succ]
  refine later_done (by kernel_rfl) ?_ _
  go_wp2_with fail
  go_ret
  refine ⟨_, rfl, ?_, unhide HB5⟩
  rw [HC.out]
  exact unhide R5

theorem l3Cover_any (xs : List ByteArray) (hl : xs.length = 15) (v : Value) : ∀ n : Nat, n < 15 → ∀ w, SRow w v xs → Calls Try.prog 40 #[.agg #[v], .int .i64 ((n : Nat) : Int)] w (Covers xs n w) := by
  apply down (P := fun n => ∀ w, SRow w v xs → Calls Try.prog 40 #[.agg #[v], .int .i64 ((n : Nat) : Int)] w (Covers xs n w))
  · intro n h7 h15 w h
    cases q : keyed xs n with
    | true => exact cov_keyed xs hl n h15 q v w h
    | false => exact cov_bare xs hl n h7 h15 q v w h
  · intro n h7 i1 i2 w h
    cases q : keyed xs n with
    | true => exact cov_keyed xs hl n (by omega) q v w h
    | false => exact l3Cover_both xs hl n h7 q v i1 i2 w h

set_option maxRecDepth 100000 in
set_option maxHeartbeats 2000000 in
theorem sTreCover_any (v : Value) (xs : List ByteArray) (p : Int) (w : World) (h : SRow w v xs) (hx : ∀ x ∈ xs, x.size ≤ maxLen) :
    Calls Try.prog 16 #[.agg #[v], .int .i64 p] w fun e w' => ∃ u, e = .returned u ∧ OwnI w.heap.size w' u (covRes xs p) ∧ Below w.heap.size w w' := by
  obtain ⟨ao, cap, rfl, h1, h2, _⟩ := h.form
  have HX := hide hx
  have hR := hide h
  clear h hx
  go_enter Try.func16, Try.ntmps16
  go_wp2_with fail
  refine (sTreOk_any _ xs _ ((unhide hR).below ((Below.refl _ _).alloc (Nat.le_refl _) _)) (unhide HX)).mono ?_
  rintro e w1 ⟨rfl, hb1⟩
  have A1 := hide (box_below (Boxed.new w 25 (.slice ao xs.length cap)) hb1)
  have HB1 : Hid (Below w.heap.size w w1) := ((Below.refl _ _).alloc (Nat.le_refl _) _).trans (hb1.mono (by simp))
  have O1 : Hid (OwnI w.heap.size (w1.alloc (.cells #[] 3)) (.slice (some ⟨w1.heap.size, 0, none⟩) 0 0) []) := World.ownsRow_lit (base := w.heap.size) (e := 3) (size := 1) w1 #[] 0 (unhide HB1).size (by unfold maxLen; omega) rfl
  have HB2 : Hid (Below w.heap.size w (w1.alloc (.cells #[] 3))) := (unhide HB1).alloc (unhide HB1).size _
  clear hb1
  have l1 := (unhide A1).cell
  cases hk : treOk xs with
  | false =>
    have HK := hide hk
    clear hk
    go_wp2_with fail
    go_ret
    exact ⟨_, rfl, by unfold covRes; rw [if_neg (by rw [HK.out]; simp)]; exact unhide O1, unhide HB2⟩
  | true =>
    have HK := hide hk
    have HL : Hid (xs.length = 15) := (treOk_iff.1 hk).1
    clear hk
    by_cases hp : 0 ≤ p ∧ p ≤ 14
    · obtain ⟨n, rfl⟩ : ∃ k : Nat, p = (k : Int) := ⟨p.toNat, by omega⟩
      have hn : n < 15 := by omega
      have HE := hide (covR_nat xs n hn)
      clear hp
      go_wp2_with fail
      refine (l1In_yes _ _ _ _ (by omega) (by omega)).mono ?_
      rintro e wa ⟨rfl, rfl⟩
      go_wp2_with fail
      refine (l3Cover_any xs HL.out _ n hn _ ((unhide hR).below (unhide HB1))).mono ?_
      rintro e w2 ⟨u2, rfl, ho2, hb2⟩
      have O2 := hide ho2
      have HB3 := hide (HB1.out.trans (hb2.mono HB1.out.size))
      clear ho2 hb2
      go_wp2_with fail
      go_ret
      exact ⟨_, rfl, by unfold covRes; rw [if_pos HK.out, HE.out]; exact row_lowB (unhide O2) HB1.out.size, unhide HB3⟩
    · have HE := hide (covR_out xs p hp)
      have HP := hide hp
      clear hp
      go_wp2_with fail
      refine (l1In_no _ _ _ _ (by have := HP.out; omega)).mono ?_
      rintro e wa ⟨rfl, rfl⟩
      go_wp2_with fail
      go_ret
      exact ⟨_, rfl, by unfold covRes; rw [if_pos HK.out, HE.out]; exact unhide O1, unhide HB2⟩
#print axioms iTreCover_any
#print axioms sTreCover_any
end Go.Proofs.Yticmbajfdpchnaa
