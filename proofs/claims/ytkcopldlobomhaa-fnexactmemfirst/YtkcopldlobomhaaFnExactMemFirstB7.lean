/-
  Trees without keys: TreNew of the program.
-/
import Derived.Test.YtkcopldlobomhaaFnExactMemFirstB6
import Derived.Test.YtkcopldlobomhaaFnExactMemFirstB1
import Derived.Test.YtkcopldlobomhaaFnExactMemFirstB3
import Derived.Deep.RegionHeld3
import Derived.Test.YtkcopldlobomhaaFnExactMemFirstB4
import Derived.Test.YtkcopldlobomhaaRows
import Derived.WalkKit
import Derived.ProofKit
import Derived.OpenShut
import Derived.ShutString
import Derived.ChangeOld
import Derived.Below
import Derived.SliceStrings
namespace Go.Proofs.Ytkcopldlobomhaa
open Go.RowKit

set_option maxRecDepth 100000 in
set_option maxHeartbeats 1000000 in
theorem iTreNew_any (w : World) : Calls Try.prog 25 #[] w fun e w' => ∃ v, e = .returned (.agg #[v]) ∧ Own w.heap.size w' v bare ∧ Below w.heap.size w w' := by
  obtain ⟨i0, hi, hz0, hz1, hz2⟩ := info_parts info_str2
  have hI := hide (And.intro hi (And.intro hz0 hz1))
  have hB2 : Hid (i0.bytes * 15 ≤ 281474976710656) := by show _ ≤ _; rw [hz2]; omega
  clear hi hz0 hz1 hz2
  go_enter Try.func25, Try.ntmps25
  go_wp2_with (at_make; refine wpList_make_full _ rfl _ _ 25 rfl w.heap.size 9 i0 (.string ⟨#[]⟩) 1 Try.underlying25 (unhide hI).1 (unhide hI).2.1 (unhide hI).2.2 _ _ _ _ 15 rfl rfl rfl rfl (unhide hB2) (by unfold maxLen; omega) (by simp) ?_)
  intro w1 hown hgrow
  have hO1 : Hid (Own w.heap.size w1 (.slice (some ⟨w.heap.size + 1, 0, none⟩) 15 15) bare) := by
    have e : (madeCells #[Value.string ⟨#[]⟩] 15).toList = bare.map Value.string := by
      simp [madeCells, Nat.mod_one, List.map_const', bare]; rfl
    rw [e] at hown
    exact hown
  have hL1 : Hid (Below w.heap.size w w1) := ((Below.refl _ _).alloc (Nat.le_refl _) _).grown hgrow (by simp) (fun k hk => by cases hk)
  have hblk : w1.heap[w.heap.size]? = some (.cells #[.slice none 0 0] 27) := (hgrow.block w.heap.size (by simp) (by simp)).trans (World.alloc_heap_new w _)
  have hc : w1.cell? ⟨w.heap.size, 0, none⟩ = some (.slice none 0 0) := by simp [World.cell?, hblk]
  have hf : w1.frozen? ⟨w.heap.size, 0, none⟩ = false := by simp [World.frozen?, hblk]
  clear hown hgrow
  go_wp2_with fail
  refine bodyPost_ret (v := .agg #[.slice (some ⟨w.heap.size + 1, 0, none⟩) 15 15]) (by simp [results, Try.results25, go_sem, hc]) rfl ⟨_, rfl, ?_, (unhide hL1).setCell (p := ⟨w.heap.size, 0, none⟩) (Nat.le_refl _) _⟩
  refine World.ownsRow.kept (unhide hO1) (grownBy_setCell0 w1 w.heap.size _) (.inr ?_)
  simp [Value.ownBlock]

#print axioms iTreNew_any
end Go.Proofs.Ytkcopldlobomhaa
/-
  The program's MemFirst.
-/
namespace Go.Proofs.Ytkcopldlobomhaa
open Go.RowKit

theorem treOk_bare : treOk bare = true := by decide

set_option maxRecDepth 100000 in
set_option maxHeartbeats 4000000 in
theorem iMemFirst_any (p : Int) (s t : ByteArray) (w : World) (hs : s.size ≤ maxLen) (ht : t.size ≤ maxLen) :
    Calls Try.prog 6 #[.int .i64 p, .string s, .string t] w fun e w' => ∃ v, e = .returned v ∧ MemO w.heap.size w' v (fstOf p s t) ∧ Below w.heap.size w w' := by
  have HS := hide hs
  have HT := hide ht
  unfold maxLen at hs ht
  have HB0 : Hid (Below w.heap.size w (w.alloc (.cells noMem 30))) := (Below.refl _ _).alloc (Nat.le_refl _) _
  have A0 := hide (Blk.new w 30 noMem)
  have hs0 : (w.alloc (.cells noMem 30)).heap.size = w.heap.size + 1 := by simp
  by_cases hp : 0 ≤ p ∧ p ≤ 7
  · obtain ⟨k, rfl⟩ : ∃ k : Nat, p = (k : Int) := ⟨p.toNat, by omega⟩
    have hk8 : k < 8 := by omega
    have HK8 := hide hk8
    clear hp
    go_enter Try.func6, Try.ntmps6
    go_wp2_with fail
    refine (isOne_yes _ _ (by omega) (by omega)).mono ?_
    rintro e wa ⟨rfl, rfl⟩
    go_wp2_with fail
    refine (mayBeSet_any s _ HS.out).mono ?_
    rintro e w1 ⟨rfl, hb1⟩
    have A1 := hide ((unhide A0).below hb1)
    have HB1 := hide (HB0.out.trans (hb1.mono HB0.out.size))
    have hs1 := hb1.size
    rw [hs0] at hs1
    clear hb1 A0 HB0 hs0
    cases hos : maySet s with
    | false =>
      have HE : Hid (¬ fstOk (k : Int) s t) := by show ¬ _; unfold fstOk; rw [hos]; simp
      have l1 := load_mm ((unhide A1).set noMem) rfl
      have HB2 := hide (below_blk (unhide HB1) (Nat.le_refl _) noMem)
      clear hos
      go_wp2_with (refine wpList_store_whole rfl 30 _ _ rfl w.heap.size noMem rfl rfl 30 _ (unhide A1) info_mm rfl (one_mm _ _ _ _ _ _ _ _ _ _ _) ?_)
      refine bodyPost_ret (v := .agg noMem) (results_cell rfl rfl l1) rfl ⟨_, rfl, ?_, unhide HB2⟩
      rw [fst_no HE.out]
      exact MemO.none _ _
    | true =>
      have HOS := hide hos
      have HSZ : Hid (s.size ≤ 292) := by show _ ≤ _; unfold maySet at hos; simp at hos; exact hos.2
      clear hos
      go_wp2_with fail
      refine (iSecOk_any t _ HT.out).mono ?_
      rintro e w2 ⟨rfl, hb2⟩
      have A2 := hide ((unhide A1).below hb2)
      have HB2 := hide (HB1.out.trans (hb2.mono HB1.out.size))
      have hs2 := hb2.size
      clear hb2 A1 HB1
      cases hot : Kw.ok t with
      | false =>
        have HE : Hid (¬ fstOk (k : Int) s t) := by show ¬ _; unfold fstOk; rw [hot]; simp
        have l1 := load_mm ((unhide A2).set noMem) rfl
        have HB3 := hide (below_blk (unhide HB2) (Nat.le_refl _) noMem)
        clear hot
        go_wp2_with (refine wpList_store_whole rfl 30 _ _ rfl w.heap.size noMem rfl rfl 30 _ (unhide A2) info_mm rfl (one_mm _ _ _ _ _ _ _ _ _ _ _) ?_)
        refine bodyPost_ret (v := .agg noMem) (results_cell rfl rfl l1) rfl ⟨_, rfl, ?_, unhide HB3⟩
        rw [fst_no HE.out]
        exact MemO.none _ _
      | true =>
        have HOT := hide hot
        have HTZ : Hid (t.size ≤ 300) := (ok_facts hot).1
        clear hot
        have HE : Hid (fstOk (k : Int) s t) := ⟨by have := HK8.out; omega, HOS.out, HOT.out⟩
        go_wp2_with fail
        refine (iTreNew_any _).mono ?_
        rintro e w3 ⟨v3, rfl, ho3, hb3⟩
        have A3 := hide ((unhide A2).below hb3)
        have HB3 := hide (HB2.out.trans (hb3.mono HB2.out.size))
        have hs3 := hb3.size
        have R3 := hide ho3.srow
        clear ho3 hb3 A2 HB2
        go_wp2_with fail
        refine (iTreSet_any _ bare (k : Int) s _ (unhide R3) (fun x hx => by rw [List.eq_of_mem_replicate hx]; exact Nat.zero_le _) HS.out).mono ?_
        rw [setRes_yes treOk_bare HK8.out HOS.out]
        rintro e w5 ⟨u5, rfl, ho5, hb5⟩
        obtain ⟨go, c, hu5⟩ := row_form' ho5
        subst hu5
        rw [show (setKeys bare k s).length = 15 from setKeys_len _ _ _] at *
        have A5 := hide ((unhide A3).below hb5)
        have HB5 := hide (HB3.out.trans (hb5.mono HB3.out.size))
        have O5 := hide ho5
        have hs5 := hb5.size
        clear ho5 hb5 A3 HB3 R3
        go_wp2_with fail
        refine (placeOf_any _ _).mono ?_
        rw [show leafOf (k : Int) = 7 + (k : Int) by unfold leafOf; rw [if_pos (by have := HK8.out; omega)]]
        rintro e wz ⟨rfl, rfl⟩
        go_wp2_with fail
        refine (ownUpward_any (7 + (k : Int)) s (by have := HSZ.out; omega) _).mono ?_
        rintro e w6 ⟨v6, rfl, ho6, hb6⟩
        obtain ⟨oo, oc, hv6⟩ := row_form' ho6
        subst hv6
        generalize hPL : (pathOf (chainOf (7 + (k : Int))) s).length = PL at *
        have A6 := hide ((unhide A5).below hb6)
        have HB6 := hide (HB5.out.trans (hb6.mono HB5.out.size))
        have O6 := hide ((unhide O5).below hb6)
        have M6 := hide ho6
        have hs6 := hb6.size
        have HPL := hide hPL
        clear ho6 hb6 A5 HB5 O5 hPL
        go_wp2_with fail
        refine (clone_any t _ (by have := HTZ.out; omega)).mono ?_
        rintro e w7 ⟨rfl, hb7⟩
        have A7 := hide ((unhide A6).below hb7)
        have HB7 := hide (HB6.out.trans (hb7.mono HB6.out.size))
        have O7 := hide ((unhide O6).below hb7)
        have M7 := hide (own_below' (unhide M6) hb7)
        clear hb7 A6 HB6 O6 M6
        have l1 := load_mm ((unhide A7).set (memC true (k : Int) (.slice go 15 c) (.slice oo PL oc) 0 t ⟨#[]⟩)) rfl
        have HB8 := hide (below_blk (unhide HB7) (Nat.le_refl _) (memC true (k : Int) (.slice go 15 c) (.slice oo PL oc) 0 t ⟨#[]⟩))
        have O8 : Hid _ := row_blk (unhide O7) (unhide A7) (by decide) (memC true (k : Int) (.slice go 15 c) (.slice oo PL oc) 0 t ⟨#[]⟩)
        have M8 : Hid _ := row_blk (unhide M7) (unhide A7) (by decide) (memC true (k : Int) (.slice go 15 c) (.slice oo PL oc) 0 t ⟨#[]⟩)
        go_wp2_with (refine wpList_store_whole rfl 30 _ _ rfl w.heap.size (memC true (k : Int) (.slice go 15 c) (.slice oo PL oc) 0 t ⟨#[]⟩) rfl rfl 30 _ (unhide A7) info_mm rfl (one_mm _ _ _ _ _ _ _ _ _ _ _) ?_)
        refine bodyPost_ret (v := .agg (memC true (k : Int) (.slice go 15 c) (.slice oo PL oc) 0 t ⟨#[]⟩)) (results_cell rfl rfl l1) rfl ⟨_, rfl, ?_, unhide HB8⟩
        rw [fst_yes HE.out]
        exact ⟨_, _, rfl, row_lowB (unhide O8) (by omega), row_lowB (unhide M8) (by omega)⟩
  · have HE : Hid (¬ fstOk p s t) := fun q => hp q.1
    have l1 := load_mm ((unhide A0).set noMem) rfl
    have HB3 := hide (below_blk (unhide HB0) (Nat.le_refl _) noMem)
    have HP := hide hp
    clear hp
    go_enter Try.func6, Try.ntmps6
    go_wp2_with fail
    refine (isOne_no _ _ (by have := HP.out; omega)).mono ?_
    rintro e wa ⟨rfl, rfl⟩
    go_wp2_with (refine wpList_store_whole rfl 30 _ _ rfl w.heap.size noMem rfl rfl 30 _ (unhide A0) info_mm rfl (one_mm _ _ _ _ _ _ _ _ _ _ _) ?_)
    refine bodyPost_ret (v := .agg noMem) (results_cell rfl rfl l1) rfl ⟨_, rfl, ?_, unhide HB3⟩
    rw [fst_no HE.out]
    exact MemO.none _ _
#print axioms iMemFirst_any
end Go.Proofs.Ytkcopldlobomhaa
/-
  The laws' own marks: texts that are written into rows, and looked up again.
-/
namespace Go.Proofs.Ytkcopldlobomhaa
open Go.RowKit

theorem grown_below' {wr u u' : World} {r : Option Nat} (h : wr.grownBy u r) (hb : Below u.heap.size u u') : wr.grownBy u' r :=
  ⟨hb.os.trans h.os, hb.tape.trans h.tape, hb.output.trans h.output, Nat.le_trans h.size hb.size, fun k hk hr => (hb.block k (Nat.lt_of_lt_of_le hk h.size)).trans (h.block k hk hr)⟩

/-- The digits of a number, ahead of some. -/
def mtd (k : Nat) (t : ByteArray) : ByteArray := if _h : k = 0 then t else mtd (k / 10) (by1 (48 + k % 10) ++ t)
termination_by k
decreasing_by omega
theorem mtd_zero (t : ByteArray) : mtd 0 t = t := by unfold mtd; simp
theorem mtd_pos {k : Nat} (h : k ≠ 0) (t : ByteArray) : mtd k t = mtd (k / 10) (by1 (48 + k % 10) ++ t) := by rw [mtd]; simp [h]
/-- The mark of a number. -/
def mt (k : Nat) : ByteArray := ⟨#[109]⟩ ++ mtd k ⟨#[]⟩

set_option maxRecDepth 100000 in
set_option maxHeartbeats 1000000 in
theorem markText_any (n : Nat) (w : World) (h0 : 0 < n) (h : n ≤ 10000000) :
    Calls Try.prog 63 #[.int .i64 (n : Int)] w fun e w' => e = .returned (.string (mt n)) ∧ Below w.heap.size w w' := by
  have hc := conv1
  have hp : decide ((n : Int) ≤ 0) = false := by simp; omega
  go_enter Try.func63, Try.ntmps63
  go_wp2_with fail
  go_loopw [0, 3] (fun a s wr => ∃ (k : Nat) (t : ByteArray), a = .int .i64 (k : Int) ∧ s = .string t ∧ k + t.size ≤ n ∧ Hid (mtd k t = mtd n ⟨#[]⟩) ∧ Hid (Below w.heap.size w wr)) (fun a _ _ => (intOf a).toNat)
  case atStart => exact ⟨n, ⟨#[]⟩, rfl, rfl, Nat.le_refl _, rfl, Below.refl _ _⟩
  case round =>
    obtain ⟨k, t, rfl, rfl, hk, hm, hL⟩ := hrel
    have hle := hL.out.size
    by_cases hpos : 0 < k
    · have hpos2 : (0 : Int) < (k : Int) := by omega
      have e10 : (k : Int).tmod 10 = ((k % 10 : Nat) : Int) := by rw [Int.tmod_eq_emod_of_nonneg (by omega)]; omega
      have d10 : (k : Int).tdiv 10 = ((k / 10 : Nat) : Int) := by rw [Int.tdiv_eq_ediv_of_nonneg (by omega)]; omega
      have hr : k % 10 < 10 := Nat.mod_lt _ (by omega)
      have hm1 : Hid (mtd (k / 10) (by1 (48 + k % 10) ++ t) = mtd n ⟨#[]⟩) := by show _ = _; rw [← mtd_pos (by omega)]; exact hm.out
      have hd : k / 10 < k := by omega
      generalize k % 10 = r at e10 hr hm1
      generalize k / 10 = q at d10 hm1 hd
      have u8 : IntKind.u8.wrap (48 + (r : Int)) = 48 + (r : Int) := by simp [IntKind.wrap, IntKind.bits, IntKind.signed]; omega
      have hnat : ((48 : Int) + (r : Int)).toNat = 48 + r := by omega
      have hs1 : (by1 (48 + r)).size = 1 := rfl
      have hts : t.size ≤ 10000000 := by omega
      have hHA : Hid (Below w.heap.size w (wr.alloc (.cells #[.int .u8 (48 + (r : Int))] 5))) := (unhide hL).alloc hle _
      go_wp2_with fail
      go_roundw
      case rel => exact ⟨q, by1 (48 + r) ++ t, rfl, rfl, by rw [ByteArray.size_append, hs1]; omega, hm1, hHA⟩
      case measure => simp [intOf]; omega
    · have hpos2 : decide ((0 : Int) < (k : Int)) = false := by simp; omega
      have hk0 : k = 0 := by omega
      subst hk0
      have he : Hid (⟨#[109]⟩ ++ t = mt n) := by show _ = _; unfold mt; rw [← hm.out, mtd_zero]
      go_wp2_with fail
      go_ret
      exact ⟨congrArg (fun x => Ending.returned (.string x)) he.out, unhide hL⟩
/-- The marks from one on. -/
def marks (k n : Nat) : List ByteArray := (List.range n).map fun i => mt (k + i)
theorem marks_len (k n : Nat) : (marks k n).length = n := by unfold marks; simp
theorem marks_get {k n i : Nat} (h : i < n) : (marks k n).getD i ByteArray.empty = mt (k + i) := by
  unfold marks
  rw [List.getD_eq_getElem?_getD]
  simp [h]

/-- The first j marked, the rest as they were. -/
def markd (k : Nat) (xs : List ByteArray) (j : Nat) : List ByteArray := marks k j ++ xs.drop j
theorem markd_zero (k : Nat) (xs : List ByteArray) : markd k xs 0 = xs := by unfold markd marks; simp
theorem markd_all (k : Nat) (xs : List ByteArray) : markd k xs xs.length = marks k xs.length := by unfold markd; simp
theorem markd_len {k : Nat} {xs : List ByteArray} {j : Nat} (h : j ≤ xs.length) : (markd k xs j).length = xs.length := by unfold markd; rw [List.length_append, marks_len, List.length_drop]; omega
theorem markd_set {k : Nat} {xs : List ByteArray} {j : Nat} (h : j < xs.length) : (markd k xs j).set j (mt (k + j)) = markd k xs (j + 1) := by
  unfold markd marks
  rw [List.range_succ, List.map_append, List.set_append_right _ _ (by simp)]
  have e : (xs.drop j).set 0 (mt (k + j)) = mt (k + j) :: xs.drop (j + 1) := by rw [List.drop_eq_getElem_cons h]; rfl
  simp [e]

set_option maxRecDepth 100000 in
set_option maxHeartbeats 1000000 in
theorem markStringS_any (B : Nat) (v : Value) (xs : List ByteArray) (k : Nat) (w : World) (h : Own B w v xs) (hk : 0 < k) (hk2 : k ≤ 4000000) (hl : xs.length ≤ 1048576) :
    Calls Try.prog 62 #[v, .int .i64 (k : Int)] w fun e w' => e = .returned (.int .i64 ((k + xs.length : Nat) : Int)) ∧ Own B w' v (marks k xs.length) ∧ w.grownBy w' v.ownBlock := by
  have hO := hide h
  obtain ⟨ao, cap, hv⟩ := row_form' h
  subst hv
  clear h
  go_enter Try.func62, Try.ntmps62
  go_wp2_with fail
  go_loopw [1, 5] (fun c i wr => ∃ j : Nat, j ≤ xs.length ∧ i = .int .i64 (j : Int) ∧ c = .int .i64 ((k + j : Nat) : Int) ∧ Hid (wr.ownsRow B 9 1 (.slice ao xs.length cap) xs.length ((markd k xs j).map Value.string)) ∧ Hid (w.grownBy wr (Value.ownBlock (.slice ao xs.length cap)))) (fun _ i _ => xs.length - (intOf i).toNat)
  case atStart => exact ⟨0, by omega, rfl, by simp, by rw [markd_zero]; exact unhide hO, ⟨rfl, rfl, rfl, Nat.le_refl _, fun _ _ _ => rfl⟩⟩
  case round =>
    obtain ⟨j, hj, rfl, rfl, hOj, hG⟩ := hrel
    by_cases hlt : j < xs.length
    · have hlt2 : (j : Int) < (xs.length : Int) := by omega
      have i3 : IntKind.i64.wrap ((j : Int) + 1) = (j : Int) + 1 := by simp [IntKind.wrap, IntKind.bits, IntKind.signed]; omega
      obtain ⟨z, hz⟩ : ∃ z : Nat, z = k + j := ⟨_, rfl⟩
      rw [← hz]
      have hz1 : 0 < z := by omega
      have hz2 : z ≤ 6000000 := by omega
      have HZ := hide hz
      clear hz
      have i4 : IntKind.i64.wrap ((z : Int) + 1) = (z : Int) + 1 := by simp [IntKind.wrap, IntKind.bits, IntKind.signed]; omega
      rcases (unhide hOj).2 with ⟨q, _⟩ | ⟨g, cap', cur, hq, hBg, hcur, _⟩
      · simp at q; omega
      simp only [Value.slice.injEq] at hq
      obtain ⟨rfl, _, rfl⟩ := hq
      clear hcur
      go_wp2_with fail
      refine (markText_any z _ (by omega) (by omega)).mono ?_
      rintro e w2 ⟨rfl, hb2⟩
      have hO2 := own_below' (unhide hOj) hb2
      have hG2 := hide (grown_below' (unhide hG) hb2)
      have hml := markd_len (k := k) (xs := xs) (j := j) hj
      have hfz := hO2.frozenAt j
      have hcell : w2.cell? ⟨g, j, none⟩ = some (.string ((markd k xs j).getD j ByteArray.empty)) := by
        rw [hO2.cellAt j (by omega), List.getElem?_map, List.getElem?_eq_getElem (by omega), List.getD_eq_getElem?_getD, List.getElem?_eq_getElem (by omega)]; rfl
      obtain ⟨s1, s2⟩ := hO2.stored j (.string (mt z))
      rw [← List.map_set, HZ.out, markd_set hlt] at s1
      have HS1 := hide s1
      have HG3 : Hid (w.grownBy (w2.setCell ⟨g, j, none⟩ (.string (mt z))) (some g)) := (unhide hG2).trans s2
      clear s1 s2 hO2 hb2 hOj hG hG2 hml
      generalize (markd k xs j).getD j ByteArray.empty = old at hcell
      rw [← HZ.out] at HS1
      generalize mt z = y at HS1 HG3 ⊢
      go_wp2_with fail
      go_roundw
      case rel => exact ⟨j + 1, by omega, by simp, by rw [show ((k + (j + 1) : Nat) : Int) = (z : Int) + 1 by have := HZ.out; omega], HS1, HG3⟩
      case measure => simp [intOf]; omega
    · have hlt2 : decide ((j : Int) < (xs.length : Int)) = false := by simp; omega
      have hjn : j = xs.length := by omega
      subst hjn
      rw [markd_all] at hOj
      go_wp2_with fail
      go_ret
      refine ⟨rfl, ?_, unhide hG⟩
      unfold Own
      rw [marks_len]
      exact unhide hOj

#print axioms markStringS_any
end Go.Proofs.Ytkcopldlobomhaa
/-
  The laws' own marks: texts that are looked up again.
-/
namespace Go.Proofs.Ytkcopldlobomhaa
open Go.RowKit

set_option maxRecDepth 100000 in
set_option maxHeartbeats 2000000 in
theorem heldStringS_any (v : Value) (n k : Nat) (w : World) (h : SRow w v (marks k n)) (hk : 0 < k) (hk2 : k ≤ 4000000) (hl : n ≤ 1048576) :
    Calls Try.prog 64 #[v, .int .i64 (k : Int)] w fun e w' => e = .returned (.int .i64 ((k + n : Nat) : Int)) ∧ Below w.heap.size w w' := by
  have hR := hide h
  obtain ⟨ao, cap, rfl, h1, h2, _⟩ := h.form
  rw [marks_len] at h1 hR ⊢
  unfold maxLen at h2
  clear h
  go_enter Try.func64, Try.ntmps64
  go_wp2_with fail
  go_loopw [1, 5] (fun c i wr => ∃ j : Nat, j ≤ n ∧ i = .int .i64 (j : Int) ∧ c = .int .i64 ((k + j : Nat) : Int) ∧ Hid (Below w.heap.size w wr)) (fun _ i _ => n - (intOf i).toNat)
  case atStart => exact ⟨0, by omega, rfl, by simp, Below.refl _ _⟩
  case round =>
    obtain ⟨j, hj, rfl, rfl, hL⟩ := hrel
    have hle := hL.out.size
    by_cases hlt : j < n
    · have hlt2 : (j : Int) < (n : Int) := by omega
      have i3 : IntKind.i64.wrap ((j : Int) + 1) = (j : Int) + 1 := by simp [IntKind.wrap, IntKind.bits, IntKind.signed]; omega
      obtain ⟨ao', c1, q1, _, _, q2⟩ := (SRow.below (unhide hR) (unhide hL)).form
      rw [marks_len] at q1 q2
      simp only [Value.slice.injEq] at q1
      obtain ⟨rfl, _, rfl⟩ := q1
      obtain ⟨ad, rfl, hck⟩ := q2 j hlt
      rw [marks_get hlt] at hck
      clear q2
      obtain ⟨z, hz⟩ : ∃ z : Nat, z = k + j := ⟨_, rfl⟩
      rw [← hz] at hck ⊢
      have hz1 : 0 < z := by omega
      have hz2 : z ≤ 6000000 := by omega
      have HZ := hide hz
      clear hz
      have i4 : IntKind.i64.wrap ((z : Int) + 1) = (z : Int) + 1 := by simp [IntKind.wrap, IntKind.bits, IntKind.signed]; omega
      have HM : Hid (∀ u : World, Calls Try.prog 63 #[.int .i64 (z : Int)] u fun e w' => e = .returned (.string (mt z)) ∧ Below u.heap.size u w') := fun u => markText_any z u hz1 (by omega)
      generalize mt z = y at hck HM
      go_wp2_with fail
      go_region_held3 (fun w' => w'.cell? (ad.add j) = some (.string y))
        ((first | exact hck | exact pck))
        ((go_at_call 63; refine (HM.out wr.drew).mono ?_; rintro e w2 ⟨rfl, hb2⟩; have pck := (hb2.cell (cell_lt hck)).trans hck; have hL2 : Hid (Below w.heap.size w w2) := ((unhide hL).drew).trans (hb2.mono hle); clear hb2))
      go_wp2_with fail
      go_roundw
      case rel => exact ⟨j + 1, by omega, by simp, by rw [show ((k + (j + 1) : Nat) : Int) = (z : Int) + 1 by have := HZ.out; omega], hL2⟩
      case measure => simp [intOf]; omega
    · have hlt2 : decide ((j : Int) < (n : Int)) = false := by simp; omega
      have hjn : j = n := by omega
      subst hjn
      go_wp2_with fail
      go_ret
      exact ⟨rfl, unhide hL⟩
end Go.Proofs.Ytkcopldlobomhaa
/-
  The laws' own helpers over secrets with their places: whether two rows are the same; marks in one, looked up again.
-/
namespace Go.Proofs.Ytkcopldlobomhaa
open Go.RowKit

set_option maxHeartbeats 400000 in
theorem eqMemOwn_same (b : Mo) (w : World) : Calls Try.prog 61 #[.agg #[.int .i64 b.1, .string b.2], .agg #[.int .i64 b.1, .string b.2]] w fun e w' => e = .returned (.bool true) ∧ Below w.heap.size w w' := by
  have HBA : Hid (Below w.heap.size w ((w.alloc (.cells #[.int .i64 b.1, .string b.2] 55)).alloc (.cells #[.int .i64 b.1, .string b.2] 55))) := ((Below.refl _ _).alloc (Nat.le_refl _) _).alloc (by simp) _
  obtain ⟨b1, b2⟩ := b
  simp only
  go_enter Try.func61, Try.ntmps61
  go_wp2_with fail
  go_ret
  exact ⟨rfl, unhide HBA⟩

set_option maxRecDepth 100000 in
set_option maxHeartbeats 2000000 in
theorem eqMemOwnS_same (v u : Value) (bs : List Mo) (w : World) (h : MRow w v bs) (k : MRow w u bs) :
    Calls Try.prog 41 #[v, u] w fun e w' => e = .returned (.bool true) ∧ Below w.heap.size w w' := by
  have hR := hide h
  have hS := hide k
  obtain ⟨ao, cap, rfl, h1, h2, _⟩ := h
  obtain ⟨bo, cap', rfl, h1', h2', _⟩ := k
  unfold maxLen at h2 h2'
  go_enter Try.func41, Try.ntmps41
  go_wp2_with fail
  go_loopw [5] (fun i wr => ∃ k : Nat, k ≤ bs.length ∧ i = .int .i64 (k : Int) ∧ Hid (Below w.heap.size w wr)) (fun i _ => bs.length - (intOf i).toNat)
  case atStart => exact ⟨0, by omega, rfl, Below.refl _ _⟩
  case round =>
    obtain ⟨k, hk, rfl, hL⟩ := hrel
    have hle := hL.out.size
    by_cases hlt : k < bs.length
    · have hlt2 : (k : Int) < (bs.length : Int) := by omega
      obtain ⟨ao', c1, q1, _, _, q2⟩ := (MRow.below (unhide hR) (unhide hL)).form
      simp only [Value.slice.injEq] at q1
      obtain ⟨rfl, z1, rfl⟩ := q1
      obtain ⟨bo', c2, q3, _, _, q4⟩ := (MRow.below (unhide hS) (unhide hL)).form
      simp only [Value.slice.injEq] at q3
      obtain ⟨rfl, z3, rfl⟩ := q3
      clear z1 z3
      obtain ⟨a, rfl, hca, hcb⟩ := q2 k hlt
      obtain ⟨b, rfl, hda, hdb⟩ := q4 k hlt
      clear q2 q4
      have i3 : IntKind.i64.wrap ((k : Int) + 1) = (k : Int) + 1 := by simp [IntKind.wrap, IntKind.bits, IntKind.signed]; omega
      generalize bs.getD k noMo = y at hca hcb hda hdb
      go_wp2_with fail
      go_region_held3 (fun w' => w'.cell? (a.add (k * 2)) = some (.int .i64 y.1) ∧ w'.cell? ⟨(a.add (k * 2)).block, (a.add (k * 2)).off + 1, none⟩ = some (.string y.2) ∧ w'.cell? (b.add (k * 2)) = some (.int .i64 y.1) ∧ w'.cell? ⟨(b.add (k * 2)).block, (b.add (k * 2)).off + 1, none⟩ = some (.string y.2))
        ((first | exact ⟨hca, hcb, hda, hdb⟩ | exact ⟨pca, pcb, pda, pdb⟩))
        ((go_at_call 61; refine (eqMemOwn_same y wr.drew).mono ?_; rintro e w2 ⟨rfl, hb2⟩; have pca := (hb2.cell (cell_lt hca)).trans hca; have pcb := (hb2.cell (cell_lt hcb)).trans hcb; have pda := (hb2.cell (cell_lt hda)).trans hda; have pdb := (hb2.cell (cell_lt hdb)).trans hdb; have hL2 : Hid (Below w.heap.size w w2) := ((unhide hL).drew).trans (hb2.mono hle); clear hb2))
      go_wp2_with fail
      go_roundw
      case rel => exact ⟨k + 1, by omega, by simp, hL2⟩
      case measure => simp [intOf]; omega
    · have hlt2 : decide ((k : Int) < (bs.length : Int)) = false := by simp; omega
      go_wp2_with fail
      go_ret
      exact ⟨rfl, unhide hL⟩

/-- The marks from one on, two a secret. -/
def mmarks (k n : Nat) : List Mo := (List.range n).map fun i => (((k + 2 * i : Nat) : Int), mt (k + 2 * i + 1))
theorem mmarks_len (k n : Nat) : (mmarks k n).length = n := by unfold mmarks; simp
theorem mmarks_get {k n i : Nat} (h : i < n) : (mmarks k n).getD i noMo = (((k + 2 * i : Nat) : Int), mt (k + 2 * i + 1)) := by
  unfold mmarks
  rw [List.getD_eq_getElem?_getD]
  simp [h]
/-- The first j marked, the rest as they were. -/
def mmarkd (k : Nat) (xs : List Mo) (j : Nat) : List Mo := mmarks k j ++ xs.drop j
theorem mmarkd_zero (k : Nat) (xs : List Mo) : mmarkd k xs 0 = xs := by unfold mmarkd mmarks; simp
theorem mmarkd_all (k : Nat) (xs : List Mo) : mmarkd k xs xs.length = mmarks k xs.length := by unfold mmarkd; simp
theorem mmarkd_len {k : Nat} {xs : List Mo} {j : Nat} (h : j ≤ xs.length) : (mmarkd k xs j).length = xs.length := by unfold mmarkd; rw [List.length_append, mmarks_len, List.length_drop]; omega
theorem mmarkd_set {k : Nat} {xs : List Mo} {j : Nat} (h : j < xs.length) : (mmarkd k xs j).set j (((k + 2 * j : Nat) : Int), mt (k + 2 * j + 1)) = mmarkd k xs (j + 1) := by
  unfold mmarkd mmarks
  rw [List.range_succ, List.map_append, List.set_append_right _ _ (by simp)]
  have e : (xs.drop j).set 0 ((((k + 2 * j : Nat) : Int), mt (k + 2 * j + 1)) : Mo) = (((k + 2 * j : Nat) : Int), mt (k + 2 * j + 1)) :: xs.drop (j + 1) := by rw [List.drop_eq_getElem_cons h]; rfl
  simpa using e
theorem mcells_set : ∀ (cs : List Mo) (k : Nat) (b : Mo), k < cs.length → ((mcells cs).set (k * 2) (.int .i64 b.1)).set (k * 2 + 1) (.string b.2) = mcells (cs.set k b)
  | [], k, _, h => absurd h (Nat.not_lt_zero _)
  | c :: cs, 0, b, _ => by simp [mcells]
  | c :: cs, k + 1, b, h => by
    have := mcells_set cs k b (by simpa using h)
    rw [show (k + 1) * 2 = k * 2 + 1 + 1 by omega]
    simpa [mcells] using this

set_option maxRecDepth 100000 in
set_option maxHeartbeats 2000000 in
theorem markMemOwnS_any (B : Nat) (v : Value) (bs : List Mo) (k : Nat) (w : World) (h : OwnM B w v bs) (hk : 0 < k) (hk2 : k ≤ 2000000) (hl : bs.length ≤ 1048576) :
    Calls Try.prog 43 #[v, .int .i64 (k : Int)] w fun e w' => e = .returned (.int .i64 ((k + 2 * bs.length : Nat) : Int)) ∧ OwnM B w' v (mmarks k bs.length) ∧ w.grownBy w' v.ownBlock := by
  have hO := hide h
  obtain ⟨ao, cap, hv⟩ := row_form' h
  subst hv
  clear h
  go_enter Try.func43, Try.ntmps43
  go_wp2_with fail
  go_loopw [1, 5] (fun c i wr => ∃ (j z : Nat), j ≤ bs.length ∧ i = .int .i64 (j : Int) ∧ c = .int .i64 (z : Int) ∧ 0 < z ∧ z = k + 2 * j ∧ Hid (wr.ownsRow B 55 2 (.slice ao bs.length cap) bs.length (mcells (mmarkd k bs j))) ∧ Hid (w.grownBy wr (Value.ownBlock (.slice ao bs.length cap)))) (fun _ i _ => bs.length - (intOf i).toNat)
  case atStart => exact ⟨0, k, by omega, rfl, rfl, hk, by omega, by rw [mmarkd_zero]; exact unhide hO, ⟨rfl, rfl, rfl, Nat.le_refl _, fun _ _ _ => rfl⟩⟩
  case round =>
    obtain ⟨j, z, hj, rfl, rfl, hz1, hz, hOj, hG⟩ := hrel
    have hz2 : z ≤ 5000000 := by omega
    have HZ := hide hz
    clear hz
    by_cases hlt : j < bs.length
    · have hlt2 : (j : Int) < (bs.length : Int) := by omega
      have HCL : Hid ((mmarkd k bs j).length = bs.length) := mmarkd_len hj
      have HST : Hid ((mmarkd k bs j).set j ((z : Int), mt (z + 1)) = mmarkd k bs (j + 1)) := by show _ = _; rw [HZ.out]; exact mmarkd_set hlt
      generalize mmarkd k bs j = cs at *
      have hjc : j < cs.length := by have := HCL.out; omega
      have i3 : IntKind.i64.wrap ((j : Int) + 1) = (j : Int) + 1 := by simp [IntKind.wrap, IntKind.bits, IntKind.signed]; omega
      have i4 : IntKind.i64.wrap ((z : Int) + 1) = (z : Int) + 1 := by simp [IntKind.wrap, IntKind.bits, IntKind.signed]; omega
      have i5 : IntKind.i64.wrap ((z : Int) + 1 + 1) = (z : Int) + 1 + 1 := by simp [IntKind.wrap, IntKind.bits, IntKind.signed]; omega
      rcases (unhide hOj).2 with ⟨q, _⟩ | ⟨g, cap', cur, hq, hBg, hcur, _⟩
      · simp at q; omega
      simp only [Value.slice.injEq] at hq
      obtain ⟨rfl, _, rfl⟩ := hq
      clear hcur
      obtain ⟨p1, p2⟩ := mcells_get cs j hjc
      have P1 := hide p1
      have P2 := hide p2
      have hlen2 := (unhide hOj).1
      have HM : Hid (∀ (zz : Nat) (u : World), 0 < zz → zz ≤ 10000000 → Calls Try.prog 63 #[.int .i64 (zz : Int)] u fun e w' => e = .returned (.string (mt zz)) ∧ Below u.heap.size u w') := fun zz u q1 q2 => markText_any zz u q1 q2
      clear p1 p2
      have f0 := (unhide hOj).frozenAt (j * 2)
      have e0 : wr.cell? ⟨g, j * 2, none⟩ = some (.int .i64 (cs.getD j noMo).1) := ((unhide hOj).cellAt (j * 2) (by omega)).trans P1.out
      obtain ⟨s1, s2⟩ := (unhide hOj).stored (j * 2) (.int .i64 (z : Int))
      have HS1 := hide s1
      have HG1 := hide ((unhide hG).trans s2)
      clear s1 s2 hOj hG
      go_wp2_with fail
      have hcast : (z : Int) + 1 = ((z + 1 : Nat) : Int) := by omega
      rw [hcast]
      refine (HM.out (z + 1) _ (by omega) (by omega)).mono ?_
      rw [← hcast]
      rintro e w3 ⟨rfl, hb3⟩
      have hO3 := own_below' (unhide HS1) hb3
      have hG3 := grown_below' (unhide HG1) hb3
      have f1 := hO3.frozenAt (j * 2 + 1)
      have e1 : w3.cell? ⟨g, j * 2 + 1, none⟩ = some (.string (cs.getD j noMo).2) := by
        rw [hO3.cellAt (j * 2 + 1) (by omega), List.getElem?_set_ne (by omega)]; exact P2.out
      obtain ⟨s1, s2⟩ := hO3.stored (j * 2 + 1) (.string (mt (z + 1)))
      rw [mcells_set cs j ((z : Int), mt (z + 1)) hjc, HST.out] at s1
      generalize mt (z + 1) = y2 at s1 s2 ⊢
      have HS3 := hide s1
      have HG3' := hide (hG3.trans s2)
      clear s1 s2 hO3 hG3 hb3 HS1 HG1 hcast e0 f0
      go_wp2_with fail
      go_roundw
      case rel => exact ⟨j + 1, z + 2, by omega, by simp, by rw [show ((z + 2 : Nat) : Int) = (z : Int) + 1 + 1 by omega], by omega, by have := HZ.out; omega, HS3, HG3'⟩
      case measure => simp [intOf]; omega
    · have hlt2 : decide ((j : Int) < (bs.length : Int)) = false := by simp; omega
      have hjn : j = bs.length := by omega
      subst hjn
      rw [mmarkd_all] at hOj
      go_wp2_with fail
      go_ret
      refine ⟨congrArg (fun (t : Nat) => Ending.returned (.int .i64 (t : Int))) HZ.out, ?_, unhide hG⟩
      unfold OwnM
      rw [mmarks_len]
      exact unhide hOj

set_option maxRecDepth 100000 in
set_option maxHeartbeats 2000000 in
theorem heldMemOwnS_any (v : Value) (n k : Nat) (w : World) (h : MRow w v (mmarks k n)) (hk : 0 < k) (hk2 : k ≤ 2000000) (hl : n ≤ 1048576) :
    Calls Try.prog 45 #[v, .int .i64 (k : Int)] w fun e w' => e = .returned (.int .i64 ((k + 2 * n : Nat) : Int)) ∧ Below w.heap.size w w' := by
  have hR := hide h
  obtain ⟨ao, cap, rfl, h1, h2, _⟩ := h.form
  rw [mmarks_len] at h1 hR ⊢
  unfold maxLen at h2
  clear h
  go_enter Try.func45, Try.ntmps45
  go_wp2_with fail
  go_loopw [1, 5] (fun c i wr => ∃ j : Nat, j ≤ n ∧ i = .int .i64 (j : Int) ∧ c = .int .i64 ((k + 2 * j : Nat) : Int) ∧ Hid (Below w.heap.size w wr)) (fun _ i _ => n - (intOf i).toNat)
  case atStart => exact ⟨0, by omega, rfl, by simp, Below.refl _ _⟩
  case round =>
    obtain ⟨j, hj, rfl, rfl, hL⟩ := hrel
    have hle := hL.out.size
    by_cases hlt : j < n
    · have hlt2 : (j : Int) < (n : Int) := by omega
      have i3 : IntKind.i64.wrap ((j : Int) + 1) = (j : Int) + 1 := by simp [IntKind.wrap, IntKind.bits, IntKind.signed]; omega
      obtain ⟨ao', c1, q1, _, _, q2⟩ := (MRow.below (unhide hR) (unhide hL)).form
      rw [mmarks_len] at q1 q2
      simp only [Value.slice.injEq] at q1
      obtain ⟨rfl, _, rfl⟩ := q1
      obtain ⟨ad, rfl, hck, hcs⟩ := q2 j hlt
      rw [mmarks_get hlt] at hck hcs
      clear q2
      obtain ⟨z, hz⟩ : ∃ z : Nat, z = k + 2 * j := ⟨_, rfl⟩
      rw [← hz] at hck hcs ⊢
      dsimp only at hck hcs
      have hz1 : 0 < z := by omega
      have hz2 : z ≤ 6000000 := by omega
      have HZ := hide hz
      clear hz
      have i4 : IntKind.i64.wrap ((z : Int) + 1) = (z : Int) + 1 := by simp [IntKind.wrap, IntKind.bits, IntKind.signed]; omega
      have i5 : IntKind.i64.wrap ((z : Int) + 1 + 1) = (z : Int) + 1 + 1 := by simp [IntKind.wrap, IntKind.bits, IntKind.signed]; omega
      have HM : Hid (∀ u : World, Calls Try.prog 63 #[.int .i64 ((z : Int) + 1)] u fun e w' => e = .returned (.string (mt (z + 1))) ∧ Below u.heap.size u w') := fun u => by
        have := markText_any (z + 1) u (by omega) (by omega)
        rw [show ((z + 1 : Nat) : Int) = (z : Int) + 1 by omega] at this
        exact this
      generalize mt (z + 1) = y at hcs HM
      go_wp2_with fail
      go_region_held3 (fun w' => w'.cell? ⟨(ad.add (j * 2)).block, (ad.add (j * 2)).off + 1, none⟩ = some (.string y))
        ((first | exact hcs | exact pcs))
        ((go_at_call 63; refine (HM.out wr.drew).mono ?_; rintro e w2 ⟨rfl, hb2⟩; have pcs := (hb2.cell (cell_lt hcs)).trans hcs; have hL2 : Hid (Below w.heap.size w w2) := ((unhide hL).drew).trans (hb2.mono hle); clear hb2))
      go_wp2_with fail
      go_roundw
      case rel => exact ⟨j + 1, by omega, by simp, by rw [show ((k + 2 * (j + 1) : Nat) : Int) = (z : Int) + 1 + 1 by have := HZ.out; omega], hL2⟩
      case measure => simp [intOf]; omega
    · have hlt2 : decide ((j : Int) < (n : Int)) = false := by simp; omega
      have hjn : j = n := by omega
      subst hjn
      go_wp2_with fail
      go_ret
      exact ⟨rfl, unhide hL⟩
#print axioms heldMemOwnS_any
end Go.Proofs.Ytkcopldlobomhaa
/-
  The laws' own helpers over trees: whether two are the same; marks in one, looked up again.
-/
namespace Go.Proofs.Ytkcopldlobomhaa
open Go.RowKit

theorem SRow.alloc {w : World} {v : Value} {xs : List ByteArray} (h : SRow w v xs) (o : Obj) : SRow (w.alloc o) v xs := h.below ((Below.refl _ _).alloc (Nat.le_refl _) _)

set_option maxHeartbeats 1000000 in
theorem eqTreTree_any (v u : Value) (xs ys : List ByteArray) (w : World) (h : SRow w v xs) (k : SRow w u ys) :
    Calls Try.prog 40 #[.agg #[v], .agg #[u]] w fun e w' => e = .returned (.bool (decide (xs = ys))) ∧ Below w.heap.size w w' := by
  have hR := hide h
  have hS := hide k
  obtain ⟨ao, cap, rfl, _, _, _⟩ := h.form
  obtain ⟨bo, cap', rfl, _, _, _⟩ := k.form
  clear h k
  go_enter Try.func40, Try.ntmps40
  go_wp2_with fail
  refine (eqStringS_any _ _ xs ys _ (((unhide hR).alloc _).alloc _) (((unhide hS).alloc _).alloc _)).mono ?_
  rintro e w1 ⟨rfl, hb1⟩
  have HB1 : Hid (Below w.heap.size w w1) := (((Below.refl _ _).alloc (Nat.le_refl _) _).alloc (by simp) _).trans (hb1.mono (by simp; omega))
  clear hb1
  cases hd : decide (xs = ys) with
  | true =>
    have HD := hide hd
    clear hd
    go_wp2_with fail
    go_ret
    exact ⟨ret_bool' HD.out.symm, unhide HB1⟩
  | false =>
    have HD := hide hd
    clear hd
    go_wp2_with fail
    go_ret
    exact ⟨ret_bool' HD.out.symm, unhide HB1⟩

set_option maxHeartbeats 1000000 in
theorem markTreTree_any (B : Nat) (v : Value) (xs : List ByteArray) (k : Nat) (w : World) (h : Own B w v xs) (hk : 0 < k) (hk2 : k ≤ 4000000) (hl : xs.length ≤ 1048576) :
    Calls Try.prog 42 #[.agg #[v], .int .i64 (k : Int)] w fun e w' => e = .returned (.int .i64 ((k + xs.length : Nat) : Int)) ∧ Own B w' v (marks k xs.length) ∧ w.grownBy w' v.ownBlock := by
  have hO := hide h
  obtain ⟨ao, cap, hv⟩ := row_form' h
  subst hv
  clear h
  go_enter Try.func42, Try.ntmps42
  go_wp2_with fail
  refine (markStringS_any B _ xs k _ ((unhide hO).below ((Below.refl _ _).alloc (Nat.le_refl _) _)) hk hk2 hl).mono ?_
  rintro e w1 ⟨rfl, ho1, hg1⟩
  have H1 := hide ho1
  have G1 := hide ((World.grownBy_alloc w _ _).trans hg1)
  clear ho1 hg1
  go_wp2_with fail
  go_ret
  exact ⟨rfl, unhide H1, unhide G1⟩

set_option maxHeartbeats 1000000 in
theorem heldTreTree_any (v : Value) (n k : Nat) (w : World) (h : SRow w v (marks k n)) (hk : 0 < k) (hk2 : k ≤ 4000000) (hl : n ≤ 1048576) :
    Calls Try.prog 44 #[.agg #[v], .int .i64 (k : Int)] w fun e w' => e = .returned (.int .i64 ((k + n : Nat) : Int)) ∧ Below w.heap.size w w' := by
  have hR := hide h
  obtain ⟨ao, cap, rfl, _, _, _⟩ := h.form
  clear h
  go_enter Try.func44, Try.ntmps44
  go_wp2_with fail
  refine (heldStringS_any _ n k _ ((unhide hR).alloc _) hk hk2 hl).mono ?_
  rintro e w1 ⟨rfl, hb1⟩
  have HB1 : Hid (Below w.heap.size w w1) := ((Below.refl _ _).alloc (Nat.le_refl _) _).trans (hb1.mono (by simp))
  clear hb1
  obtain ⟨z, hz⟩ : ∃ z : Nat, z = k + n := ⟨_, rfl⟩
  rw [← hz]
  have hz0 : decide ((z : Int) < 0) = false := by simp
  have HZ := hide hz
  clear hz
  go_wp2_with fail
  go_ret
  exact ⟨congrArg (fun (t : Nat) => Ending.returned (.int .i64 (t : Int))) HZ.out, unhide HB1⟩
#print axioms heldTreTree_any
end Go.Proofs.Ytkcopldlobomhaa
/-
  The laws' own helpers over one in a group: whether two are the same; marks in one, looked up again.
-/
namespace Go.Proofs.Ytkcopldlobomhaa
open Go.RowKit

set_option maxRecDepth 100000 in
set_option maxHeartbeats 2000000 in
theorem eqMemMember_same (m : Mem) (ks os ks' os' : Value) (w : World) (h1 : SRow w ks m.keys) (h2 : MRow w os m.own) (h3 : SRow w ks' m.keys) (h4 : MRow w os' m.own) :
    Calls Try.prog 15 #[.agg (m.cells ks os), .agg (m.cells ks' os')] w fun e w' => e = .returned (.bool true) ∧ Below w.heap.size w w' := by
  obtain ⟨inn, who, keys, own, ep, init, tag⟩ := m
  have H1 := hide h1
  have H2 := hide h2
  have H3 := hide h3
  have H4 := hide h4
  obtain ⟨a1, p1, rfl, _, _, _⟩ := h1.form
  obtain ⟨a2, p2, rfl, _, _, _⟩ := h2
  obtain ⟨a3, p3, rfl, _, _, _⟩ := h3.form
  obtain ⟨a4, p4, rfl, _, _, _⟩ := h4
  clear h1 h3
  simp only at H1 H2 H3 H4 ⊢
  generalize hkl : keys.length = kl at *
  generalize hol : own.length = ol at *
  have HBA : Hid (Below w.heap.size w ((w.alloc (.cells (memC inn who (.slice a1 kl p1) (.slice a2 ol p2) ep init tag) 30)).alloc (.cells (memC inn who (.slice a3 kl p3) (.slice a4 ol p4) ep init tag) 30))) := ((Below.refl _ _).alloc (Nat.le_refl _) _).alloc (by simp) _
  have A0 := hide ((Blk.new w 30 (memC inn who (.slice a1 kl p1) (.slice a2 ol p2) ep init tag)).alloc (.cells (memC inn who (.slice a3 kl p3) (.slice a4 ol p4) ep init tag) 30))
  have b0 := Blk.new (w.alloc (.cells (memC inn who (.slice a1 kl p1) (.slice a2 ol p2) ep init tag) 30)) 30 (memC inn who (.slice a3 kl p3) (.slice a4 ol p4) ep init tag)
  rw [World.size_alloc] at b0
  have B0 := hide b0
  clear b0
  go_enter Try.func15, Try.ntmps15
  cases inn with
  | true => _
  | false => _
  all_goals
    go_wp2_with fail
    refine (eqTreTree_any _ _ keys keys _ (((unhide H1).alloc _).alloc _) (((unhide H3).alloc _).alloc _)).mono ?_
    rw [show decide (keys = keys) = true by simp]
    rintro e w1 ⟨rfl, hb1⟩
    have A1 := hide ((unhide A0).below hb1)
    have B1 := hide ((unhide B0).below hb1)
    have HB1 := hide (HBA.out.trans (hb1.mono HBA.out.size))
    have c1 := (unhide A1).cell 3
    have c2 := (unhide B1).cell 3
    simp only [List.getElem?_toArray, List.getElem?_cons_succ, List.getElem?_cons_zero] at c1 c2
    clear hb1 A0 B0 HBA
    go_wp2_with fail
    refine (eqMemOwnS_same _ _ own _ ((unhide H2).below (unhide HB1)) ((unhide H4).below (unhide HB1))).mono ?_
    rintro e w2 ⟨rfl, hb2⟩
    have A2 := hide ((unhide A1).below hb2)
    have B2 := hide ((unhide B1).below hb2)
    have HB2 := hide (HB1.out.trans (hb2.mono HB1.out.size))
    have c3 := (unhide A2).cell 4
    have c4 := (unhide B2).cell 4
    have c5 := (unhide A2).cell 5
    have c6 := (unhide B2).cell 5
    have c7 := (unhide A2).cell 6
    have c8 := (unhide B2).cell 6
    simp only [List.getElem?_toArray, List.getElem?_cons_succ, List.getElem?_cons_zero] at c3 c4 c5 c6 c7 c8
    clear hb2 A1 B1 HB1 c1 c2
    go_wp2_with fail
    go_ret
    exact ⟨rfl, unhide HB2⟩

set_option maxRecDepth 100000 in
set_option maxHeartbeats 2000000 in
theorem markMemMember_any (B : Nat) (m : Mem) (ks os : Value) (k : Nat) (w : World) (h1 : Own B w ks m.keys) (h2 : OwnM B w os m.own) (hk : 0 < k) (hk2 : k ≤ 100000) (hl : m.keys.length ≤ 1000) (hl2 : m.own.length ≤ 1000) :
    Calls Try.prog 16 #[.agg (m.cells ks os), .int .i64 (k : Int)] w fun e w' => e = .returned (.int .i64 ((k + m.keys.length + 2 * m.own.length : Nat) : Int)) ∧ Own B w' ks (marks k m.keys.length) ∧ OwnM B w' os (mmarks (k + m.keys.length) m.own.length) ∧ w.heap.size ≤ w'.heap.size ∧ ∃ u, w.grownBy u ks.ownBlock ∧ u.grownBy w' os.ownBlock := by
  obtain ⟨inn, who, keys, own, ep, init, tag⟩ := m
  have H1 := hide h1
  have H2 := hide h2
  obtain ⟨a1, p1, hv1⟩ := row_form' h1
  obtain ⟨a2, p2, hv2⟩ := row_form' h2
  subst hv1 hv2
  clear h1 h2
  simp only at H1 H2 hl hl2 ⊢
  have A0 := hide (Blk.new w 30 (memC inn who (.slice a1 keys.length p1) (.slice a2 own.length p2) ep init tag))
  have O0 := hide (Own.below (unhide H1) ((Below.refl w.heap.size w).alloc (Nat.le_refl _) (.cells (memC inn who (.slice a1 keys.length p1) (.slice a2 own.length p2) ep init tag) 30)))
  have M0 := hide (own_below' (unhide H2) ((Below.refl w.heap.size w).alloc (Nat.le_refl _) (.cells (memC inn who (.slice a1 keys.length p1) (.slice a2 own.length p2) ep init tag) 30)))
  have G0 := hide (World.grownBy_alloc w (.cells (memC inn who (.slice a1 keys.length p1) (.slice a2 own.length p2) ep init tag) 30) (Value.slice a1 keys.length p1).ownBlock)
  go_enter Try.func16, Try.ntmps16
  go_wp2_with fail
  refine (markTreTree_any B _ keys k _ (unhide O0) hk (by omega) (by omega)).mono ?_
  rintro e w1 ⟨rfl, ho1, hg1⟩
  have A1 := hide ((unhide A0).kept hg1 (Blk.not_row (unhide A0) (by decide) (unhide O0)))
  have M1 := hide (World.ownsRow.kept (unhide M0) hg1 (row_apart (unhide M0) (unhide O0) (by decide)))
  have O1 := hide ho1
  have G1 := hide ((unhide G0).trans hg1)
  have c1 := (unhide A1).cell 3
  simp only [List.getElem?_toArray, List.getElem?_cons_succ, List.getElem?_cons_zero] at c1
  clear ho1 hg1 A0 M0 O0 G0
  go_wp2_with fail
  refine (markMemOwnS_any B _ own (k + keys.length) _ (unhide M1) (by omega) (by omega) (by omega)).mono ?_
  rintro e w2 ⟨rfl, ho2, hg2⟩
  have hap := row_apart (unhide O1) (unhide M1) (by decide)
  have O2 : Hid (Own B w2 (.slice a1 keys.length p1) (marks k keys.length)) := World.ownsRow.kept (unhide O1) hg2 (by rcases hap with q | q; exact .inl q; exact .inr q)
  have M2 := hide ho2
  have G2 := hide hg2
  clear ho2 hg2 hap M1 O1 A1 c1
  go_wp2_with fail
  go_ret
  exact ⟨rfl, unhide O2, unhide M2, Nat.le_trans G1.out.size G2.out.size, _, unhide G1, unhide G2⟩

set_option maxRecDepth 100000 in
set_option maxHeartbeats 2000000 in
theorem heldMemMember_any (inn : Bool) (who ep : Int) (init tag : ByteArray) (n n' : Nat) (ks os : Value) (k : Nat) (w : World) (h1 : SRow w ks (marks k n)) (h2 : MRow w os (mmarks (k + n) n')) (hk : 0 < k) (hk2 : k ≤ 100000) (hl : n ≤ 1000) (hl2 : n' ≤ 1000) :
    Calls Try.prog 17 #[.agg (memC inn who ks os ep init tag), .int .i64 (k : Int)] w fun e w' => e = .returned (.int .i64 ((k + n + 2 * n' : Nat) : Int)) ∧ Below w.heap.size w w' := by
  have H1 := hide h1
  have H2 := hide h2
  obtain ⟨a1, p1, rfl, _, _, _⟩ := h1.form
  obtain ⟨a2, p2, rfl, _, _, _⟩ := h2
  rw [marks_len] at H1 ⊢
  rw [mmarks_len] at H2 ⊢
  clear h1
  have A0 := hide (Blk.new w 30 (memC inn who (.slice a1 n p1) (.slice a2 n' p2) ep init tag))
  have HB0 : Hid (Below w.heap.size w (w.alloc (.cells (memC inn who (.slice a1 n p1) (.slice a2 n' p2) ep init tag) 30))) := (Below.refl _ _).alloc (Nat.le_refl _) _
  go_enter Try.func17, Try.ntmps17
  go_wp2_with fail
  refine (heldTreTree_any _ n k _ ((unhide H1).alloc _) hk (by omega) (by omega)).mono ?_
  rintro e w1 ⟨rfl, hb1⟩
  have A1 := hide ((unhide A0).below hb1)
  have HB1 := hide (HB0.out.trans (hb1.mono HB0.out.size))
  have c1 := (unhide A1).cell 3
  simp only [List.getElem?_toArray, List.getElem?_cons_succ, List.getElem?_cons_zero] at c1
  clear hb1 A0 HB0
  obtain ⟨z, hz⟩ : ∃ z : Nat, z = k + n := ⟨_, rfl⟩
  rw [← hz] at H2 ⊢
  have hz0 : decide ((z : Int) < 0) = false := by simp
  have hz1 : 0 < z ∧ z ≤ 200000 := by omega
  have HZ := hide hz
  clear hz
  go_wp2_with fail
  refine (heldMemOwnS_any _ n' z _ ((unhide H2).below (unhide HB1)) hz1.1 (by omega) (by omega)).mono ?_
  rintro e w2 ⟨rfl, hb2⟩
  have HB2 := hide (HB1.out.trans (hb2.mono HB1.out.size))
  clear hb2 A1 HB1 c1
  obtain ⟨y, hy⟩ : ∃ y : Nat, y = z + 2 * n' := ⟨_, rfl⟩
  rw [← hy]
  have hy0 : decide ((y : Int) < 0) = false := by simp
  have HY := hide hy
  clear hy
  go_wp2_with fail
  go_ret
  exact ⟨congrArg (fun (t : Nat) => Ending.returned (.int .i64 (t : Int))) (by have := HY.out; have := HZ.out; omega), unhide HB2⟩
#print axioms heldMemMember_any
end Go.Proofs.Ytkcopldlobomhaa
/-
  What every law's last step needs: that a slice of bytes came in as a row of cells.
-/
namespace Go.Proofs.Ytkcopldlobomhaa
open Go.RowKit

theorem own : ownKnob Try.prog.godebug = none := by kernel_rfl
theorem laidOut : laidOutB Try.prog = true := by kernel_rfl

/-- A slice of integers that came in: nil, or a row of so many cells. -/
def IsRow (k : IntKind) (w : World) (a : Option Addr) (len cap : Nat) (zs : List Int) : Prop :=
  (a = none ∧ len = 0 ∧ cap = 0 ∧ zs = []) ∨
  ∃ x, a = some x ∧ len ≤ cap ∧ cap ≤ maxLen ∧ zs.length = cap ∧ (∀ i, i < zs.length → w.cell? (x.add i) = some (.int k (zs.getD i 0))) ∧ ∀ n ∈ zs, (Lit.int k n).wf = true

end Go.Proofs.Ytkcopldlobomhaa
/-
  A slice of texts that came in: what it holds.
-/
namespace Go.Proofs.Ytkcopldlobomhaa
open Go.ChangeShapes Go.WideShapes Go.RowKit

theorem open_srow {H : Type} {enc : TypeId × Value → H} {W : World} {held : Bool} {fuel : Nat} {a : Option Addr} {len cap : Nat} {x : DataW H × List MemPlace}
    (hf : DataW.trod enc Try.prog W 0 (fun _ => true) held fuel 25 (Value.cells (.slice a len cap)).toList = some x) : ∃ zs, SRow W (.slice a len cap) zs ∧ ∀ y ∈ zs, y.size ≤ maxLen := by
  rcases open_strings Try.underlying25 Try.underlying9 (by kernel_rfl) hf with ⟨hcs, _⟩ | ⟨p, l, c, ss, hcs, _, hl, hm, hz, _, hcell, hsz⟩
  · simp [Value.cells] at hcs
    obtain ⟨rfl, rfl, rfl⟩ := hcs
    exact ⟨[], .inl ⟨rfl, rfl⟩, fun y hy => by cases hy⟩
  · simp [Value.cells] at hcs
    obtain ⟨rfl, rfl, rfl⟩ := hcs
    simp at hz
    have hlen : (ss.take len).length = len := by simp; omega
    refine ⟨ss.take len, .inr ⟨p, cap, by rw [hlen], by omega, hm, fun i hi => ?_⟩, fun y hy => hsz y (List.mem_of_mem_take hy)⟩
    rw [hcell i (by omega)]
    have hi' : i < len := by omega
    simp [List.getD_eq_getElem?_getD, hi']
#print axioms open_srow
end Go.Proofs.Ytkcopldlobomhaa
