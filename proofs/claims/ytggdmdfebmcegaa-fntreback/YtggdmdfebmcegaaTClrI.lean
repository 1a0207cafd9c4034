/-
  The program's TreClear.
-/
import Derived.Test.YtggdmdfebmcegaaTClr0
import Derived.Test.YtggdmdfebmcegaaCloneN
import Derived.Test.YtggdmdfebmcegaaPlcF
namespace Go.Proofs.Ytggdmdfebmcegaa
open Go.RowKit Go.Shelf
attribute [local go_sem] Oper.semAt_some

def vals (ps : List (Fin 15)) : List Nat := ps.map (·.val)
theorem vals_snoc (ps : List (Fin 15)) (x : Fin 15) : vals (ps ++ [x]) = vals ps ++ [x.val] := by simp [vals]
theorem vals_chain (k : Nat) (h : k < 8) : vals (chainF ((7 + k : Nat) : Int)) = (7 + k) :: ups (7 + k) := by
  rw [chainF_nat (7 + k) (by omega)]
  exact chainT_val _

set_option maxRecDepth 100000 in
set_option maxHeartbeats 2000000 in
theorem iTreClear_no (v : Value) (xs : List ByteArray) (p : Int) (w : World) (h : SRow w v xs) (hx : ∀ x ∈ xs, x.size ≤ maxLen) (hno : ¬ (treOk xs = true ∧ 0 ≤ p ∧ p ≤ 7)) :
    Calls Try.prog 27 #[.agg #[v], .int .i64 p] w fun e w' => ∃ u, e = .returned (.agg #[u]) ∧ Own w.heap.size w' u [] ∧ Below w.heap.size w w' := by
  obtain ⟨ao, cap, rfl, h1, h2, _⟩ := h.form
  have HX := hide hx
  have hR := hide h
  have HN := hide hno
  clear h hx hno
  go_enter Try.func27, Try.ntmps27
  go_wp2_with fail
  refine (iTreOk_any _ xs _ (((unhide hR).below ((Below.refl _ _).alloc (Nat.le_refl _) _)).below ((Below.refl _ _).alloc (Nat.le_refl _) _)) (unhide HX)).mono ?_
  rintro e w1 ⟨rfl, hb1⟩
  have B1 := hide (box_below (Boxed.new (w.alloc (.cells #[.slice ao xs.length cap] 25)) 25 (.slice none 0 0)) hb1)
  rw [World.size_alloc] at B1
  have HB1 : Hid (Below w.heap.size w w1) := (((Below.refl _ _).alloc (Nat.le_refl _) _).alloc (by simp) _).trans (hb1.mono (by simp; omega))
  have HB2 := hide (below_box (unhide HB1) (b := w.heap.size + 1) (by omega) (.slice none 0 0))
  have l1 := (unhide B1).cell
  have l2 := (unhide B1).frozen
  have l3 := ((unhide B1).set (.slice none 0 0)).cell
  clear hb1
  cases hk : treOk xs with
  | false =>
    clear hk
    go_wp2_with fail
    refine bodyPost_ret (v := .agg #[.slice none 0 0]) (by simp [results, Try.results27, go_sem, l3]) rfl ⟨_, rfl, World.ownsRow_nil _ _ _ _, unhide HB2⟩
  | true =>
    have hp : p < 0 ∨ 8 ≤ p := by
      have q := HN.out
      rw [hk] at q
      simp at q
      omega
    clear hk
    go_wp2_with fail
    refine (isOne_no _ _ hp).mono ?_
    rintro e wq ⟨rfl, rfl⟩
    go_wp2_with fail
    refine bodyPost_ret (v := .agg #[.slice none 0 0]) (by simp [results, Try.results27, go_sem, l3]) rfl ⟨_, rfl, World.ownsRow_nil _ _ _ _, unhide HB2⟩

set_option maxRecDepth 100000 in
set_option maxHeartbeats 8000000 in
theorem iTreClear_ok (v : Value) (xs : List ByteArray) (k : Nat) (hk : k < 8) (w : World) (h : SRow w v xs) (hok : treOk xs = true) (n : Nat) (hn : 4 ≤ n) :
    CallsIn Fence.wide n Try.prog 27 #[.agg #[v], .int .i64 (k : Int)] w fun e w' => ∃ u, e = .returned (.agg #[u]) ∧ Own w.heap.size w' u (clearOf xs k) ∧ Below w.heap.size w w' := by
  have hl : xs.length = 15 := (treOk_iff.1 hok).1
  have hsm := treOk_small hok
  obtain ⟨ao, cap, rfl, h1, h2, _⟩ := h.form
  rw [hl] at h ⊢
  have h1' : 1 ≤ n := by omega
  have h2' : 1 ≤ n - 1 := by omega
  have hro : Fence.wide.round = none := rfl
  have HSM := hide hsm
  have HOK := hide hok
  have hR := hide h
  have hLf : Hid (leafOf (k : Int) = ((7 + k : Nat) : Int)) := by show _ = _; unfold leafOf; rw [if_pos (by omega)]; omega
  have HL := hide hl
  clear h hok hsm h1 h2 hl
  refine callsIn_of_wp_marks Try.func27 rfl trivial ?_ hro
  simp only [Try.ntmps27, List.size_toArray, List.length_cons, List.length_nil, Nat.reduceAdd, Nat.reduceSub, Array.replicate_succ, Array.replicate_zero, List.push_toArray, List.append_toArray, List.nil_append, List.cons_append]
  gi_wp2_with (first
    | (refine ⟨trivial, ?_⟩; gi_at_call 31; refine (callsIn_wide.2 (iTreOk_any _ xs _ (((unhide hR).below ((Below.refl _ _).alloc (Nat.le_refl _) _)).below ((Below.refl _ _).alloc (Nat.le_refl _) _)) (fun x hx => Nat.le_trans (HSM.out x hx) (by unfold maxLen; omega)))).mono ?_; rw [HOK.out]; rintro e w1 ⟨rfl, hb1⟩; have A1 := box_below ((Boxed.new w 25 (.slice ao 15 cap)).alloc (.cells #[.slice none 0 0] 25)) hb1; have B1 := box_below (Boxed.new (w.alloc (.cells #[.slice ao 15 cap] 25)) 25 (.slice none 0 0)) hb1; rw [World.size_alloc] at B1; have HA1 := A1.cell; have HB1 : Hid (Below w.heap.size w w1) := (((Below.refl _ _).alloc (Nat.le_refl _) _).alloc (by simp) _).trans (hb1.mono (by simp; omega)); have A1h := hide A1; have B1h := hide B1; have hs1 := hb1.size; rw [World.size_alloc, World.size_alloc] at hs1; clear hb1 A1 B1)
    | (refine ⟨trivial, ?_⟩; gi_at_call 52; refine (callsIn_wide.2 (isOne_yes (k : Int) _ (by omega) (by omega))).mono ?_; rintro e wq ⟨rfl, rfl⟩)
    | (refine ⟨trivial, ?_⟩; gi_at_call 54; refine (callsIn_wide.2 (cloneNames_any _ xs _ ((unhide hR).below (unhide HB1)) (by have := HL.out; omega) (fun x hx => Nat.le_trans (HSM.out x hx) (by omega)))).mono ?_; rw [HL.out]; rintro e w2 ⟨v2, rfl, ho2, hb2⟩; obtain ⟨g, c2, rfl, hg1, hg2, hg3, hg4⟩ := row15 ho2; have O2 := hide ho2; have HB2 := hide (HB1.out.trans (hb2.mono HB1.out.size)); have B2h := hide (box_below (unhide B1h) hb2); have hs2 := hb2.size; clear ho2 hb2 HA1)
    | (refine ⟨trivial, ?_⟩; gi_at_call 49; refine (callsIn_wide.2 (placeOf_any (k : Int) _)).mono ?_; rw [hLf.out]; rintro e wq ⟨rfl, rfl⟩)
    | (refine ⟨trivial, ?_⟩; gi_at_call 55; refine (upward_in _ _ _).mono ?_; rintro e wq ⟨rfl, rfl⟩))
  have bK := (Boxed.new w2 23 (.slice (some ⟨g, 0, none⟩) 15 c2)).alloc (.cells #[.int .i64 (7 + (k : Int))] 59)
  have bN := Boxed.new (w2.alloc (.cells #[.slice (some ⟨g, 0, none⟩) 15 c2] 23)) 59 (.int .i64 (7 + (k : Int)))
  have bR := ((unhide B2h).alloc (.cells #[.slice (some ⟨g, 0, none⟩) 15 c2] 23)).alloc (.cells #[.int .i64 (7 + (k : Int))] 59)
  rw [World.size_alloc] at bN
  have hO3 := own_below' (own_below' (unhide O2) ((Below.refl _ _).alloc (Nat.le_refl _) (.cells #[.slice (some ⟨g, 0, none⟩) 15 c2] 23))) ((Below.refl _ _).alloc (Nat.le_refl _) (.cells #[.int .i64 (7 + (k : Int))] 59))
  have hB3 : Below w.heap.size w ((w2.alloc (.cells #[.slice (some ⟨g, 0, none⟩) 15 c2] 23)).alloc (.cells #[.int .i64 (7 + (k : Int))] 59)) := ((unhide HB2).alloc HB2.out.size _).alloc (by simp; have := HB2.out.size; omega) _
  have hsz : ((w2.alloc (.cells #[.slice (some ⟨g, 0, none⟩) 15 c2] 23)).alloc (.cells #[.int .i64 (7 + (k : Int))] 59)).heap.size = w2.heap.size + 2 := by simp
  have hw2 := HB2.out.size
  have hw1 := HB1.out.size
  obtain ⟨W0, hW0⟩ : ∃ W0, (w2.alloc (.cells #[.slice (some ⟨g, 0, none⟩) 15 c2] 23)).alloc (.cells #[.int .i64 (7 + (k : Int))] 59) = W0 := ⟨_, rfl⟩
  rw [hW0] at bK bN bR hO3 hB3 hsz ⊢
  clear hW0
  refine wpIn_rangeFunc_ownG hro h1' (gf := 79) (lb := #[.pointer (some ⟨w2.heap.size + 1, 0, none⟩)]) rfl trivial (enters_of Try.func79 (by kernel_rfl) rfl)
    (upwardF_stops (n - 1) h2' (w2.heap.size + 1) w.heap.size (7 + (k : Int)) W0 (by omega) bN.cell) belowK_t (belowK_b (by omega)) (Below.refl _ _) (fun _ => rfl)
    (fun pre W => ((∃ u, Boxed W w2.heap.size 23 u ∧ W.ownsRow wq.heap.size 9 1 u 15 ((wipe xs (vals pre)).map Value.string) ∧ u = .slice (some ⟨g, 0, none⟩) 15 c2) ∧ Boxed W (w.heap.size + 1) 25 (.slice none 0 0)) ∧ Below w.heap.size w W)
    (fun _ _ _ => False)
    (OwnFrom.and (OwnFrom.and (Own.from (holdsRow_own wq.heap.size w2.heap.size 23 9 1 (fun (_ : List (Fin 15)) => 15) (fun (pre : List (Fin 15)) => (wipe xs (vals pre)).map Value.string) (fun _ u => u = .slice (some ⟨g, 0, none⟩) 15 c2)) _) (Own.from (boxed_own _ _ _) _)) (ownFrom_below (Nat.le_refl _) (by omega)))
    (fun _ _ _ _ _ hs _ _ => hs)
    ⟨⟨⟨_, bK, hO3, rfl⟩, bR⟩, hB3⟩
    (fun x => { tmps := #[.agg #[.slice ao 15 cap], .int .i64 (k : Int), .pointer (some ⟨w.heap.size, 0, none⟩), undef, .pointer (some ⟨w.heap.size + 1, 0, none⟩), .pointer (some ⟨w2.heap.size, 0, none⟩), .int .i64 ((x.val : Nat) : Int), .agg #[.slice ao 15 cap], .bool true, .bool false, .bool false, .int .i64 (k : Int), .bool true, .bool false, .bool false, undef, .pointer (some ⟨w.heap.size, 0, none⟩), .slice ao 15 cap, .slice (some ⟨g, 0, none⟩) 15 c2, .int .i64 (k : Int), .int .i64 (7 + (k : Int)), .func (.func 79) #[] #[.pointer (some ⟨w2.heap.size + 1, 0, none⟩)], .int .i64 ((x.val : Nat) : Int), undef, undef, undef, undef, undef], defers := [] }) ?assign ?body ?done ?stop
  case assign =>
    intro l x W K hK
    gi_wp2
    exact hK
  case body =>
    rintro l pre x W ⟨⟨⟨u, hu, hrow, rfl⟩, hbR⟩, hB⟩ hlt
    have hj := x.isLt
    obtain ⟨s1, s2, s3, s4⟩ := row15_set (by rw [wipe_len]; exact HL.out) hrow x.val hj ByteArray.empty
    have hc := hu.cell
    have j1 : ((x.val : Nat) : Int) < 15 := by omega
    have S3 := hide s3
    have S4 := hide s4
    have HU2 : Hid (Boxed (W.setCell ⟨g, x.val, none⟩ (.string ByteArray.empty)) w2.heap.size 23 (.slice (some ⟨g, 0, none⟩) 15 c2)) := box_grown hu hrow (by decide) s4
    have HR2 : Hid (Boxed (W.setCell ⟨g, x.val, none⟩ (.string ByteArray.empty)) (w.heap.size + 1) 25 (.slice none 0 0)) := box_grown hbR hrow (by decide) s4
    have HW : Hid (wipe xs (vals (pre ++ [x])) = (wipe xs (vals pre)).set x.val ByteArray.empty) := by show _ = _; rw [vals_snoc, wipe_snoc]
    have HBW : Hid (Below w.heap.size W (W.setCell ⟨g, x.val, none⟩ (.string ByteArray.empty))) := (Below.refl _ _).setCell (p := ⟨g, x.val, none⟩) (by show w.heap.size ≤ g; omega) _
    clear s3 s4
    generalize (wipe xs (vals pre)).getD x.val ByteArray.empty = old at s1
    gi_wp2
    exact ⟨(KeepsOthers.setCell _ _ _).from _, unhide HBW, ⟨⟨_, unhide HU2, by rw [HW.out]; exact unhide S3, rfl⟩, unhide HR2⟩, hB.trans (unhide HBW)⟩
  case done =>
    rintro D ys W hD rfl ⟨⟨⟨u, hu, hrow, rfl⟩, hbR⟩, hB⟩ hK
    have hc := hu.cell
    have hc2 := hbR.cell
    have hc3 := hbR.frozen
    have HE : Hid (wipe xs (vals (chainF (7 + (k : Int)))) = clearOf xs k) := by
      show _ = _
      have q := vals_chain k hk
      rw [show (((7 + k : Nat) : Int)) = 7 + (k : Int) by omega] at q
      rw [q]
      rfl
    have R1 := row_box hrow hbR (by decide) (.slice (some ⟨g, 0, none⟩) 15 c2)
    gi_wp2
    have hK' := (KeepsOthers.setCell W ⟨w.heap.size + 1, 0, none⟩ (.slice (some ⟨g, 0, none⟩) 15 c2)).same D _ hK rfl
    refine ⟨by simp, .inl ⟨_, _, rfl, run_takeDeferred hK', ?_⟩⟩
    have hc5 := cell_kept (hbR.set (.slice (some ⟨g, 0, none⟩) 15 c2)).cell (grownBy_putObj' _ D (.deferred none)) (fun r e => by cases e; exact ⟨_, hK', rfl⟩)
    refine ⟨.agg #[.slice (some ⟨g, 0, none⟩) 15 c2], ?_, _, rfl, ?_, (hB.setCell (p := ⟨w.heap.size + 1, 0, none⟩) (by simp) _).trans (belowK_b (w := w) (Nat.le_refl _) _ D _ _ (by omega) hK' rfl rfl)⟩
    · simp [results, Try.f27, go_sem, hc5]
    · have q := ownsRow_putObj R1 (.deferred none) hK' rfl
      rw [HE.out] at q
      unfold Own
      rw [clearOf_len, HL.out]
      exact row_lowB q hw1
  case stop =>
    rintro D c pre W _ _ h _
    exact h.elim

theorem iTreClear_any (v : Value) (xs : List ByteArray) (p : Int) (w : World) (h : SRow w v xs) (hx : ∀ x ∈ xs, x.size ≤ maxLen) :
    Calls Try.prog 27 #[.agg #[v], .int .i64 p] w fun e w' => ∃ u, e = .returned (.agg #[u]) ∧ Own w.heap.size w' u (clrRes xs p) ∧ Below w.heap.size w w' := by
  by_cases hy : treOk xs = true ∧ 0 ≤ p ∧ p ≤ 7
  · obtain ⟨k, rfl⟩ : ∃ k : Nat, p = (k : Int) := ⟨p.toNat, by omega⟩
    rw [clrRes_yes hy.1 (by omega)]
    exact callsIn_wide.1 (iTreClear_ok v xs k (by omega) w h hy.1 4 (Nat.le_refl _))
  · rw [clrRes_no hy]
    exact iTreClear_no v xs p w h hx hy
#print axioms iTreClear_any
end Go.Proofs.Ytggdmdfebmcegaa
