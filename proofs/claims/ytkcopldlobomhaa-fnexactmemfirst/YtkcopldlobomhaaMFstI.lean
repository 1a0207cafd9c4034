/-
  The program's MemFirst.
-/
import Derived.Test.YtkcopldlobomhaaMFst
import Derived.Test.YtkcopldlobomhaaOwnUp
import Derived.Test.YtkcopldlobomhaaTSetI
import Derived.Test.YtkcopldlobomhaaTreNI
namespace Go.Proofs.Ytkcopldlobomhaa
open Go.RowKit

theorem treOk_bare : treOk bare = true := by decide

set_option maxRecDepth 100000 in
set_option maxHeartbeats 4000000 in
theorem iMemFirst_any (p : Int) (s t : ByteArray) (w : World) (hs : s.size ≤ maxLen) (ht : t.size ≤ maxLen) :
    Calls Try.prog 6 #[.int .i64 p, .string s, .string t] w fun e w' => ∃ v, e = .returned v ∧ MemO w.heap.size w' v (fstOf p s t) ∧ Below w.heap.size w w' := by
  have HS := hide hs
  have HT := hide ht
  unfold maxLen at hs ht
  have HB0 : Hid (Below w.heap.size w (w.alloc (.cells noMem 30))) := (Below.refl _ _).alloc (Nat.le_refl _) _
  have A0 := hide (Blk.new w 30 noMem)
  have hs0 : (w.alloc (.cells noMem 30)).heap.size = w.heap.size + 1 := by simp
  by_cases hp : 0 ≤ p ∧ p ≤ 7
  · obtain ⟨k, rfl⟩ : ∃ k : Nat, p = (k : Int) := ⟨p.toNat, by omega⟩
    have hk8 : k < 8 := by omega
    have HK8 := hide hk8
    clear hp
    go_enter Try.func6, Try.ntmps6
    go_wp2_with fail
    refine (isOne_yes _ _ (by omega) (by omega)).mono ?_
    rintro e wa ⟨rfl, rfl⟩
    go_wp2_with fail
    refine (mayBeSet_any s _ HS.out).mono ?_
    rintro e w1 ⟨rfl, hb1⟩
    have A1 := hide ((unhide A0).below hb1)
    have HB1 := hide (HB0.out.trans (hb1.mono HB0.out.size))
    have hs1 := hb1.size
    rw [hs0] at hs1
    clear hb1 A0 HB0 hs0
    cases hos : maySet s with
    | false =>
      have HE : Hid (¬ fstOk (k : Int) s t) := by show ¬ _; unfold fstOk; rw [hos]; simp
      have l1 := load_mm ((unhide A1).set noMem) rfl
      have HB2 := hide (below_blk (unhide HB1) (Nat.le_refl _) noMem)
      clear hos
      go_wp2_with (refine wpList_store_whole rfl 30 _ _ rfl w.heap.size noMem rfl rfl 30 _ (unhide A1) info_mm rfl (one_mm _ _ _ _ _ _ _ _ _ _ _) ?_)
      refine bodyPost_ret (v := .agg noMem) (results_cell rfl rfl l1) rfl ⟨_, rfl, ?_, unhide HB2⟩
      rw [fst_no HE.out]
      exact MemO.none _ _
    | true =>
      have HOS := hide hos
      have HSZ : Hid (s.size ≤ 292) := by show _ ≤ _; unfold maySet at hos; simp at hos; exact hos.2
      clear hos
      go_wp2_with fail
      refine (iSecOk_any t _ HT.out).mono ?_
      rintro e w2 ⟨rfl, hb2⟩
      have A2 := hide ((unhide A1).below hb2)
      have HB2 := hide (HB1.out.trans (hb2.mono HB1.out.size))
      have hs2 := hb2.size
      clear hb2 A1 HB1
      cases hot : Kw.ok t with
      | false =>
        have HE : Hid (¬ fstOk (k : Int) s t) := by show ¬ _; unfold fstOk; rw [hot]; simp
        have l1 := load_mm ((unhide A2).set noMem) rfl
        have HB3 := hide (below_blk (unhide HB2) (Nat.le_refl _) noMem)
        clear hot
        go_wp2_with (refine wpList_store_whole rfl 30 _ _ rfl w.heap.size noMem rfl rfl 30 _ (unhide A2) info_mm rfl (one_mm _ _ _ _ _ _ _ _ _ _ _) ?_)
        refine bodyPost_ret (v := .agg noMem) (results_cell rfl rfl l1) rfl ⟨_, rfl, ?_, unhide HB3⟩
        rw [fst_no HE.out]
        exact MemO.none _ _
      | true =>
        have HOT := hide hot
        have HTZ : Hid (t.size ≤ 300) := (ok_facts hot).1
        clear hot
        have HE : Hid (fstOk (k : Int) s t) := ⟨by have := HK8.out; omega, HOS.out, HOT.out⟩
        go_wp2_with fail
        refine (iTreNew_any _).mono ?_
        rintro e w3 ⟨v3, rfl, ho3, hb3⟩
        have A3 := hide ((unhide A2).below hb3)
        have HB3 := hide (HB2.out.trans (hb3.mono HB2.out.size))
        have hs3 := hb3.size
        have R3 := hide ho3.srow
        clear ho3 hb3 A2 HB2
        go_wp2_with fail
        refine (iTreSet_any _ bare (k : Int) s _ (unhide R3) (fun x hx => by rw [List.eq_of_mem_replicate hx]; exact Nat.zero_le _) HS.out).mono ?_
        rw [setRes_yes treOk_bare HK8.out HOS.out]
        rintro e w5 ⟨u5, rfl, ho5, hb5⟩
        obtain ⟨go, c, hu5⟩ := row_form' ho5
        subst hu5
        rw [show (setKeys bare k s).length = 15 from setKeys_len _ _ _] at *
        have A5 := hide ((unhide A3).below hb5)
        have HB5 := hide (HB3.out.trans (hb5.mono HB3.out.size))
        have O5 := hide ho5
        have hs5 := hb5.size
        clear ho5 hb5 A3 HB3 R3
        go_wp2_with fail
        refine (placeOf_any _ _).mono ?_
        rw [show leafOf (k : Int) = 7 + (k : Int) by unfold leafOf; rw [if_pos (by have := HK8.out; omega)]]
        rintro e wz ⟨rfl, rfl⟩
        go_wp2_with fail
        refine (ownUpward_any (7 + (k : Int)) s (by have := HSZ.out; omega) _).mono ?_
        rintro e w6 ⟨v6, rfl, ho6, hb6⟩
        obtain ⟨oo, oc, hv6⟩ := row_form' ho6
        subst hv6
        generalize hPL : (pathOf (chainOf (7 + (k : Int))) s).length = PL at *
        have A6 := hide ((unhide A5).below hb6)
        have HB6 := hide (HB5.out.trans (hb6.mono HB5.out.size))
        have O6 := hide ((unhide O5).below hb6)
        have M6 := hide ho6
        have hs6 := hb6.size
        have HPL := hide hPL
        clear ho6 hb6 A5 HB5 O5 hPL
        go_wp2_with fail
        refine (clone_any t _ (by have := HTZ.out; omega)).mono ?_
        rintro e w7 ⟨rfl, hb7⟩
        have A7 := hide ((unhide A6).below hb7)
        have HB7 := hide (HB6.out.trans (hb7.mono HB6.out.size))
        have O7 := hide ((unhide O6).below hb7)
        have M7 := hide (own_below' (unhide M6) hb7)
        clear hb7 A6 HB6 O6 M6
        have l1 := load_mm ((unhide A7).set (memC true (k : Int) (.slice go 15 c) (.slice oo PL oc) 0 t ⟨#[]⟩)) rfl
        have HB8 := hide (below_blk (unhide HB7) (Nat.le_refl _) (memC true (k : Int) (.slice go 15 c) (.slice oo PL oc) 0 t ⟨#[]⟩))
        have O8 : Hid _ := row_blk (unhide O7) (unhide A7) (by decide) (memC true (k : Int) (.slice go 15 c) (.slice oo PL oc) 0 t ⟨#[]⟩)
        have M8 : Hid _ := row_blk (unhide M7) (unhide A7) (by decide) (memC true (k : Int) (.slice go 15 c) (.slice oo PL oc) 0 t ⟨#[]⟩)
        go_wp2_with (refine wpList_store_whole rfl 30 _ _ rfl w.heap.size (memC true (k : Int) (.slice go 15 c) (.slice oo PL oc) 0 t ⟨#[]⟩) rfl rfl 30 _ (unhide A7) info_mm rfl (one_mm _ _ _ _ _ _ _ _ _ _ _) ?_)
        refine bodyPost_ret (v := .agg (memC true (k : Int) (.slice go 15 c) (.slice oo PL oc) 0 t ⟨#[]⟩)) (results_cell rfl rfl l1) rfl ⟨_, rfl, ?_, unhide HB8⟩
        rw [fst_yes HE.out]
        exact ⟨_, _, rfl, row_lowB (unhide O8) (by omega), row_lowB (unhide M8) (by omega)⟩
  · have HE : Hid (¬ fstOk p s t) := fun q => hp q.1
    have l1 := load_mm ((unhide A0).set noMem) rfl
    have HB3 := hide (below_blk (unhide HB0) (Nat.le_refl _) noMem)
    have HP := hide hp
    clear hp
    go_enter Try.func6, Try.ntmps6
    go_wp2_with fail
    refine (isOne_no _ _ (by have := HP.out; omega)).mono ?_
    rintro e wa ⟨rfl, rfl⟩
    go_wp2_with (refine wpList_store_whole rfl 30 _ _ rfl w.heap.size noMem rfl rfl 30 _ (unhide A0) info_mm rfl (one_mm _ _ _ _ _ _ _ _ _ _ _) ?_)
    refine bodyPost_ret (v := .agg noMem) (results_cell rfl rfl l1) rfl ⟨_, rfl, ?_, unhide HB3⟩
    rw [fst_no HE.out]
    exact MemO.none _ _
#print axioms iMemFirst_any
end Go.Proofs.Ytkcopldlobomhaa
