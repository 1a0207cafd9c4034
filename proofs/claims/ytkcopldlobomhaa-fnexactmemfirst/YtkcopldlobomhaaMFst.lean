/-
  The specification's MemFirst.
-/
import Derived.Test.YtkcopldlobomhaaMemT
import Derived.Test.YtkcopldlobomhaaL4Path
import Derived.Test.YtkcopldlobomhaaTSetS
import Derived.Test.YtkcopldlobomhaaTreN
import Derived.Test.YtkcopldlobomhaaIn
namespace Go.Proofs.Ytkcopldlobomhaa
open Go.RowKit

/-- Whether MemFirst makes one. -/
def fstOk (p : Int) (s t : ByteArray) : Prop := (0 ≤ p ∧ p ≤ 7) ∧ maySet s = true ∧ Kw.ok t = true
instance (p : Int) (s t : ByteArray) : Decidable (fstOk p s t) := by unfold fstOk; infer_instance
/-- What MemFirst answers. -/
def fstOf (p : Int) (s t : ByteArray) : Mem := if fstOk p s t then ⟨true, p, setKeys bare p.toNat s, pathOf (chainOf (7 + p)) s, 0, t, ⟨#[]⟩⟩ else Mem.none
theorem fst_no {p : Int} {s t : ByteArray} (h : ¬ fstOk p s t) : fstOf p s t = Mem.none := by unfold fstOf; rw [if_neg h]
theorem fst_yes {p : Int} {s t : ByteArray} (h : fstOk p s t) : fstOf p s t = ⟨true, p, setKeys bare p.toNat s, pathOf (chainOf (7 + p)) s, 0, t, ⟨#[]⟩⟩ := by unfold fstOf; rw [if_pos h]

set_option maxRecDepth 100000 in
set_option maxHeartbeats 4000000 in
theorem sMemFirst_any (p : Int) (s t : ByteArray) (w : World) (hs : s.size ≤ maxLen) (ht : t.size ≤ maxLen) :
    Calls Try.prog 8 #[.int .i64 p, .string s, .string t] w fun e w' => ∃ v, e = .returned v ∧ MemO w.heap.size w' v (fstOf p s t) ∧ Below w.heap.size w w' := by
  have HS := hide hs
  have HT := hide ht
  unfold maxLen at hs ht
  have HB0 : Hid (Below w.heap.size w (w.alloc (.cells noMem 30))) := (Below.refl _ _).alloc (Nat.le_refl _) _
  have A0 := hide (Blk.new w 30 noMem)
  have hs0 : (w.alloc (.cells noMem 30)).heap.size = w.heap.size + 1 := by simp
  by_cases hp : 0 ≤ p ∧ p ≤ 7
  · obtain ⟨k, rfl⟩ : ∃ k : Nat, p = (k : Int) := ⟨p.toNat, by omega⟩
    have hk8 : k < 8 := by omega
    have HK8 := hide hk8
    clear hp
    go_enter Try.func8, Try.ntmps8
    go_wp2_with fail
    refine (l1In_yes _ _ _ _ (by omega) (by omega)).mono ?_
    rintro e wa ⟨rfl, rfl⟩
    go_wp2_with fail
    refine (sSecOk_any s _ HS.out).mono ?_
    rintro e w1 ⟨rfl, hb1⟩
    have A1 := hide ((unhide A0).below hb1)
    have HB1 := hide (HB0.out.trans (hb1.mono HB0.out.size))
    have hs1 := hb1.size
    rw [hs0] at hs1
    clear hb1 A0 HB0 hs0
    cases hos : Kw.ok s with
    | false =>
      have HE : Hid (¬ fstOk (k : Int) s t) := by show ¬ _; unfold fstOk maySet; rw [hos]; simp
      have l1 := load_mm ((unhide A1).set noMem) rfl
      have HB2 := hide (below_blk (unhide HB1) (Nat.le_refl _) noMem)
      clear hos
      go_wp2_with (refine wpList_store_whole rfl 30 _ _ rfl w.heap.size noMem rfl rfl 30 _ (unhide A1) info_mm rfl (one_mm _ _ _ _ _ _ _ _ _ _ _) ?_)
      refine bodyPost_ret (v := .agg noMem) (results_cell rfl rfl l1) rfl ⟨_, rfl, ?_, unhide HB2⟩
      rw [fst_no HE.out]
      exact MemO.none _ _
    | true =>
      have HOS := hide hos
      clear hos
      go_wp2_with fail
      refine (sSecOk_any t _ HT.out).mono ?_
      rintro e w2 ⟨rfl, hb2⟩
      have A2 := hide ((unhide A1).below hb2)
      have HB2 := hide (HB1.out.trans (hb2.mono HB1.out.size))
      have hs2 := hb2.size
      clear hb2 A1 HB1
      cases hot : Kw.ok t with
      | false =>
        have HE : Hid (¬ fstOk (k : Int) s t) := by show ¬ _; unfold fstOk; rw [hot]; simp
        have l1 := load_mm ((unhide A2).set noMem) rfl
        have HB3 := hide (below_blk (unhide HB2) (Nat.le_refl _) noMem)
        clear hot
        go_wp2_with (refine wpList_store_whole rfl 30 _ _ rfl w.heap.size noMem rfl rfl 30 _ (unhide A2) info_mm rfl (one_mm _ _ _ _ _ _ _ _ _ _ _) ?_)
        refine bodyPost_ret (v := .agg noMem) (results_cell rfl rfl l1) rfl ⟨_, rfl, ?_, unhide HB3⟩
        rw [fst_no HE.out]
        exact MemO.none _ _
      | true =>
        have HOT := hide hot
        clear hot
        by_cases hsz : s.size ≤ 292
        · have hsz2 : decide ((292 : Int) < (s.size : Int)) = false := by simp; omega
          have HE : Hid (fstOk (k : Int) s t) := ⟨by have := HK8.out; omega, by unfold maySet; rw [HOS.out]; simpa using hsz, HOT.out⟩
          go_wp2_with fail
          refine (sTreNew_any _).mono ?_
          rintro e w3 ⟨v3, rfl, ho3, hb3⟩
          have A3 := hide ((unhide A2).below hb3)
          have HB3 := hide (HB2.out.trans (hb3.mono HB2.out.size))
          have hs3 := hb3.size
          obtain ⟨g, c, rfl, hg1, hg2, hg3, hg4⟩ := row15 (show w3.ownsRow w2.heap.size 9 1 v3 15 (bare.map Value.string) from ho3)
          have O3 : Hid (w3.ownsRow w2.heap.size 9 1 (.slice (some ⟨g, 0, none⟩) 15 c) 15 (bare.map Value.string)) := ho3
          clear ho3 hb3 A2 HB2
          go_wp2_with fail
          refine (l3Set_any w2.heap.size g c bare rfl k HK8.out s (by omega) _ (unhide O3)).mono ?_
          rintro e w5 ⟨rfl, ho5, hg⟩
          have A5 := hide ((unhide A3).kept hg (Blk.not_row (unhide A3) (by decide) (unhide O3)))
          have HB5 : Hid (Below w.heap.size w w5) := (unhide HB3).grown hg HB3.out.size (fun z hz => by cases hz; omega)
          have O5 := hide ho5
          have hs5 := hg.size
          clear ho5 hg A3 HB3 O3
          go_wp2_with fail
          refine (sTreLeaf_any _ _).mono ?_
          rw [show leafOf (k : Int) = ((7 + k : Nat) : Int) by unfold leafOf; rw [if_pos (by have := HK8.out; omega)]; omega]
          rintro e wz ⟨rfl, rfl⟩
          go_wp2_with fail
          refine (l4Path_any (7 + k) (by have := HK8.out; omega) s (by omega) _).mono ?_
          rintro e w6 ⟨v6, rfl, ho6, hb6⟩
          obtain ⟨oo, oc, hv6⟩ := row_form' ho6
          subst hv6
          generalize hPL : (pathOf (chainOf ((7 + k : Nat) : Int)) s).length = PL at *
          have A6 := hide ((unhide A5).below hb6)
          have HB6 := hide (HB5.out.trans (hb6.mono HB5.out.size))
          have O6 := hide (own_below' (unhide O5) hb6)
          have M6 := hide ho6
          have hs6 := hb6.size
          have HPL := hide hPL
          clear ho6 hb6 A5 HB5 O5 hPL
          have l1 := load_mm ((unhide A6).set (memC true (k : Int) (.slice (some ⟨g, 0, none⟩) 15 c) (.slice oo PL oc) 0 t ⟨#[]⟩)) rfl
          have HB7 := hide (below_blk (unhide HB6) (Nat.le_refl _) (memC true (k : Int) (.slice (some ⟨g, 0, none⟩) 15 c) (.slice oo PL oc) 0 t ⟨#[]⟩))
          have O7 := hide (row_blk (unhide O6) (unhide A6) (by decide) (memC true (k : Int) (.slice (some ⟨g, 0, none⟩) 15 c) (.slice oo PL oc) 0 t ⟨#[]⟩))
          have M7 := hide (row_blk (unhide M6) (unhide A6) (by decide) (memC true (k : Int) (.slice (some ⟨g, 0, none⟩) 15 c) (.slice oo PL oc) 0 t ⟨#[]⟩))
          go_wp2_with (refine wpList_store_whole rfl 30 _ _ rfl w.heap.size (memC true (k : Int) (.slice (some ⟨g, 0, none⟩) 15 c) (.slice oo PL oc) 0 t ⟨#[]⟩) rfl rfl 30 _ (unhide A6) info_mm rfl (one_mm _ _ _ _ _ _ _ _ _ _ _) ?_)
          refine bodyPost_ret (v := .agg (memC true (k : Int) (.slice (some ⟨g, 0, none⟩) 15 c) (.slice oo PL oc) 0 t ⟨#[]⟩)) (results_cell rfl rfl l1) rfl ⟨_, rfl, ?_, unhide HB7⟩
          rw [fst_yes HE.out]
          refine ⟨_, _, rfl, ?_, ?_⟩
          · unfold Own
            rw [setKeys_len, show ((k : Int)).toNat = k from rfl]
            exact row_lowB (unhide O7) (by omega)
          · rw [show (7 + (k : Int)) = ((7 + k : Nat) : Int) by omega]
            exact row_lowB (unhide M7) (by omega)
        · have hsz2 : (292 : Int) < (s.size : Int) := by omega
          have HE : Hid (¬ fstOk (k : Int) s t) := by show ¬ _; unfold fstOk maySet; rw [HOS.out]; simp; omega
          have l1 := load_mm ((unhide A2).set noMem) rfl
          have HB3 := hide (below_blk (unhide HB2) (Nat.le_refl _) noMem)
          go_wp2_with (refine wpList_store_whole rfl 30 _ _ rfl w.heap.size noMem rfl rfl 30 _ (unhide A2) info_mm rfl (one_mm _ _ _ _ _ _ _ _ _ _ _) ?_)
          refine bodyPost_ret (v := .agg noMem) (results_cell rfl rfl l1) rfl ⟨_, rfl, ?_, unhide HB3⟩
          rw [fst_no HE.out]
          exact MemO.none _ _
  · have HE : Hid (¬ fstOk p s t) := fun q => hp q.1
    have l1 := load_mm ((unhide A0).set noMem) rfl
    have HB3 := hide (below_blk (unhide HB0) (Nat.le_refl _) noMem)
    have HP := hide hp
    clear hp
    go_enter Try.func8, Try.ntmps8
    go_wp2_with fail
    refine (l1In_no _ _ _ _ (by have := HP.out; omega)).mono ?_
    rintro e wa ⟨rfl, rfl⟩
    go_wp2_with (refine wpList_store_whole rfl 30 _ _ rfl w.heap.size noMem rfl rfl 30 _ (unhide A0) info_mm rfl (one_mm _ _ _ _ _ _ _ _ _ _ _) ?_)
    refine bodyPost_ret (v := .agg noMem) (results_cell rfl rfl l1) rfl ⟨_, rfl, ?_, unhide HB3⟩
    rw [fst_no HE.out]
    exact MemO.none _ _
#print axioms sMemFirst_any
end Go.Proofs.Ytkcopldlobomhaa
