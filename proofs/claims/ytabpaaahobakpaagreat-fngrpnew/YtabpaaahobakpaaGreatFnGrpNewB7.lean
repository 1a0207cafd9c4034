/-
 The specification's TreSet.
-/
import Derived.Test.YtabpaaahobakpaaGreatFnGrpNewB2
import Derived.Test.YtabpaaahobakpaaGreatFnGrpNewB4
import Derived.Test.YtabpaaahobakpaaGreatFnGrpNewB6
import Derived.Test.YtabpaaahobakpaaGreatFnGrpNewB5
import Derived.Test.YtabpaaahobakpaaGreatFnGrpNewB1
import Derived.Laws.Entries
import Derived.Test.YtabpaaahobakpaaGreatFnGrpNewB3
import Derived.RangeFuncRecord
namespace Go.Proofs.YtabpaaahobakpaaGreat
open Go.RowKit
set_option maxRecDepth 100000 in
set_option maxHeartbeats 4000000 in
theorem l3Set_any (B g c : Nat) (xs : List ByteArray) (hl : xs.length = 15) (k : Nat) (hk : k < 8) (s : ByteArray) (hss : s.size ≤ 300) (w : World) (h : w.ownsRow B 9 1 (.slice (some ⟨g, 0, none⟩) 15 c) 15 (xs.map Value.string)) :
 Calls Tryz.prog 90 #[.agg #[.slice (some ⟨g, 0, none⟩) 15 c], .int .i64 (k : Int), .string s] w fun e w' => e = .returned (.agg #[.slice (some ⟨g, 0, none⟩) 15 c]) ∧ w'.ownsRow B 9 1 (.slice (some ⟨g, 0, none⟩) 15 c) 15 ((setKeys xs k s).map Value.string) ∧ w.grownBy w' (some g) := by
 obtain ⟨_, _, e0, hg1, hg2, hg3, hg4⟩ := row15 h
 simp only [Value.slice.injEq, Option.some.injEq, Addr.mk.injEq, true_and, and_true] at e0
 obtain ⟨rfl, rfl⟩ := e0
 have hLf : Hid (leafOf (k : Int) = ((7 + k : Nat) : Int)) := by show _ = _; unfold leafOf; rw [if_pos (by omega)]; omega
 have HUP : Hid (upOf ((7 + k : Nat) : Int) = ints (ups (7 + k))) := by show upOf _ = _; unfold upOf; rw [if_pos (by omega)]; rfl
 have hul := ups_len (7 + k) (by omega)
 have hult := ups_lt (7 + k) (by omega)
 have HEND : Hid (setKeys xs k s = fill xs s ([7 + k] ++ (ups (7 + k)).take (ups (7 + k)).length)) := by show _ = _; rw [List.take_length]; rfl
 generalize hN : ups (7 + k) = N at *
 clear hN
 obtain ⟨lf, hlf⟩ : ∃ lf : Nat, lf = 7 + k := ⟨_, rfl⟩
 rw [← hlf] at hLf HUP HEND
 have hlf2 : lf < 15 := by omega
 have jl : (lf : Int) < 15 := by omega
 clear hlf
 have hrW : Hid _ := own_below' (own_below' h ((Below.refl _ _).alloc (Nat.le_refl _) (.cells #[.slice (some ⟨g, 0, none⟩) 15 c] 39))) ((Below.refl _ _).alloc (Nat.le_refl _) (.cells #[.slice none 0 0] 39))
 have bA : Hid _ := (Boxed.new w 39 (.slice (some ⟨g, 0, none⟩) 15 c)).alloc (.cells #[.slice none 0 0] 39)
 have bR := Boxed.new (w.alloc (.cells #[.slice (some ⟨g, 0, none⟩) 15 c] 39)) 39 (.slice none 0 0)
 rw [World.size_alloc] at bR
 have bR1 := hide bR
 have hgW : Hid (w.grownBy ((w.alloc (.cells #[.slice (some ⟨g, 0, none⟩) 15 c] 39)).alloc (.cells #[.slice none 0 0] 39)) (some g)) := (World.grownBy_alloc w _ _).trans (World.grownBy_alloc _ _ _)
 have hWs : ((w.alloc (.cells #[.slice (some ⟨g, 0, none⟩) 15 c] 39)).alloc (.cells #[.slice none 0 0] 39)).heap.size = w.heap.size + 2 := by simp
 have HL := hide hl
 clear h bR hl
 go_enter Tryz.func90, Tryz.ntmps90
 go_wp2_with fail
 refine (sTreLeaf_any _ _).mono ?_
 rw [hLf.out]
 rintro e wz ⟨rfl, rfl⟩
 go_wp2_with fail
 refine r_i Later ?_
 refine r_q 0 ?_
 refine r_q 1 ?_ (h := by intro w' hw'; have hx := (box_below (w := ((w.alloc (.cells #[.slice (some ⟨g, 0, none⟩) 15 c] 39)).alloc (.cells #[.slice none 0 0] 39)).drew) (unhide bA) hw').cell; go_simp; all_goals rfl)
 refine r_q 2 ?_; refine r_q 3 ?_
 refine r_1 4 (fun K hK => ?_)
 go_simp
 refine (sMakKey_any s _ (le_maxLen (by omega))).mono ?_
 rintro e wk ⟨rfl, hbk⟩
 go_simp
 refine hK.out _ _ hbk ?_
 clear hK
 have o1 := own_below' (w := ((w.alloc (.cells #[.slice (some ⟨g, 0, none⟩) 15 c] 39)).alloc (.cells #[.slice none 0 0] 39)).drew) (unhide hrW) hbk
 obtain ⟨s1, s2, s3, s4⟩ := row15_set HL.out o1 lf hlf2 (mkKey s)
 have A1 := hide (box_grown (box_below (w := ((w.alloc (.cells #[.slice (some ⟨g, 0, none⟩) 15 c] 39)).alloc (.cells #[.slice none 0 0] 39)).drew) (unhide bA) hbk) o1 (by decide) s4)
 have R1 := hide (box_grown (box_below (w := ((w.alloc (.cells #[.slice (some ⟨g, 0, none⟩) 15 c] 39)).alloc (.cells #[.slice none 0 0] 39)).drew) (unhide bR1) hbk) o1 (by decide) s4)
 have S3 := hide s3
 have hks : w.heap.size + 2 ≤ wk.heap.size := by have := hbk.size; simp at this; omega
 have G1 := hide ((grown_below0 (grown_drew (unhide hgW)) hbk).trans s4)
 generalize xs.getD lf ByteArray.empty = old at s1
 clear o1 s3 s4 hbk
 try simp only [Act.put, List.setIfInBounds_toArray, List.set_cons_zero, List.set_cons_succ]
 refine r_q 5 ?_
 refine r_l 6 (fun K hK => ?_)
 go_simp
 refine hK.out _ _ ?_
 clear hK
 try simp only [Act.put, List.setIfInBounds_toArray, List.set_cons_zero, List.set_cons_succ]
 go_wp2_with fail
 refine (sTreUp_any _ _).mono ?_
 rw [HUP.out]
 rintro e w2 ⟨u2, rfl, ho2, hb2⟩
 have U2 := hide (IIn.of ho2)
 have hs2 := hb2.size
 have A2 := hide (box_below (unhide A1) hb2)
 have R2 := hide (box_below (unhide R1) hb2)
 have O2 : Hid (w2.ownsRow B 9 1 (.slice (some ⟨g, 0, none⟩) 15 c) 15 ((fill xs s ([lf] ++ N.take 0)).map Value.string)) := own_below' (unhide S3) hb2
 have G2 : Hid (w.grownBy w2 (some g)) := grown_below0 (unhide G1) hb2
 have hgs : (wk.setCell ⟨g, lf, none⟩ (.string (mkKey s))).heap.size = wk.heap.size := by simp [World.setCell]
 rw [hgs] at U2 hs2
 obtain ⟨uo, uc, hu⟩ := row_form' ho2
 subst hu
 rw [show (ints N).length = N.length by simp [ints]] at *
 clear ho2 hb2 A1 R1 S3 G1 hgs
 go_wp2_with fail
 go_loopw [2, 9] (fun sv i wr => ∃ j : Nat, j ≤ N.length ∧ i = .int .i64 (j : Int) ∧ sv = .string (nextN s j) ∧ Hid (wr.ownsRow B 9 1 (.slice (some ⟨g, 0, none⟩) 15 c) 15 ((fill xs s ([lf] ++ N.take j)).map Value.string)) ∧ Hid (IIn wk.heap.size w2.heap.size wr (.slice uo N.length uc) (ints N)) ∧ Hid (Boxed wr w.heap.size 39 (.slice (some ⟨g, 0, none⟩) 15 c)) ∧ Hid (Boxed wr (w.heap.size + 1) 39 (.slice none 0 0)) ∧ Hid (w.grownBy wr (some g))) (fun _ i _ => N.length - (intOf i).toNat)
 case atStart => exact ⟨0, by omega, rfl, rfl, O2, U2, A2, R2, G2⟩
 case round =>
  clear O2 U2 A2 R2 G2
  obtain ⟨j, hj, rfl, rfl, hO, hU, hA, hR, hG⟩ := hrel
  by_cases hlt : j < N.length
  · have hlt2 : (j : Int) < (N.length : Int) := by omega
    have i3 : IntKind.i64.wrap ((j : Int) + 1) = (j : Int) + 1 := by simp [IntKind.wrap, IntKind.bits, IntKind.signed]; omega
    have hns := nextN_size s hss j
    have HNX : Hid (nextN s (j + 1) = mkNext (nextN s j)) := rfl
    have hns1 := nextN_size s hss (j + 1)
    generalize hsc : nextN s j = sc at *
    go_wp2_with fail
    refine (sMakNext_any sc _ (le_maxLen (by omega))).mono ?_
    rw [← HNX.out]
    rintro e wn ⟨rfl, hbn⟩
    have hOn := hide (own_below' (unhide hO) hbn)
    have hUn := hide ((unhide hU).below hbn)
    have hAn := hide (box_below (unhide hA) hbn)
    have hRn := hide (box_below (unhide hR) hbn)
    have hGn := hide (grown_below0 (unhide hG) hbn)
    clear hbn hO hU hA hR hG
    obtain ⟨q0, q1, q2, _, _, q5⟩ := (unhide hUn).irow.form
    rw [show (ints N).length = N.length by simp [ints]] at q2 q5
    simp only [Value.slice.injEq] at q2
    obtain ⟨rfl, _, rfl⟩ := q2
    obtain ⟨ad, rfl, hck⟩ := q5 j hlt
    have hnj : (ints N).getD j 0 = ((N.getD j 0 : Nat) : Int) := by
     unfold ints
     rw [List.getD_eq_getElem?_getD, List.getElem?_map, List.getD_eq_getElem?_getD, List.getElem?_eq_getElem hlt]
     rfl
    rw [hnj] at hck
    have hnl : N.getD j 0 < 7 := hult _ (by rw [List.getD_eq_getElem?_getD, List.getElem?_eq_getElem hlt]; exact List.getElem_mem hlt)
    have HTK : Hid (fill xs s ([lf] ++ N.take (j + 1)) = (fill xs s ([lf] ++ N.take j)).set (N.getD j 0) (mkKey (nextN s (j + 1)))) := by
     show _ = _
     rw [List.take_succ_eq_append_getElem hlt, ← List.append_assoc, fill_snoc, List.getD_eq_getElem?_getD, List.getElem?_eq_getElem hlt]
     simp
     congr 2
     rw [Nat.min_eq_left (by omega)]
    generalize N.getD j 0 = q at hck hnl HTK
    have hq2 : (q : Int) < 15 := by omega
    generalize hsn : nextN s (j + 1) = sn at *
    have HSN := hide hsn
    clear q5 hsc HNX hsn
    go_wp2_with fail
    refine r_i Later ?_
    refine r_q 0 ?_
    refine r_q 1 ?_ (h := by intro w' hw'; have hx := (box_below (w := wn.drew) (unhide hAn) hw').cell; go_simp; all_goals rfl)
    refine r_q 2 ?_; refine r_q 3 ?_; refine r_q 4 ?_
    refine r_q 5 ?_ (h := by intro w' hw'; have hx := (Below.cell hw' (cell_lt (w := wn.drew) hck)).trans hck; go_simp; all_goals rfl)
    refine r_q 6 ?_
    refine r_1 7 (fun K hK => ?_)
    go_simp
    refine (sMakKey_any sn _ (le_maxLen (by omega))).mono ?_
    rintro e wm ⟨rfl, hbm⟩
    go_simp
    refine hK.out _ _ hbm ?_
    clear hK
    have o1 := own_below' (w := wn.drew) (unhide hOn) hbm
    obtain ⟨s1, s2, s3, s4⟩ := row15_set (by rw [fill_len]; exact HL.out) o1 q (by omega) (mkKey sn)
    have S3 := hide s3
    have A3 := hide (box_grown (box_below (w := wn.drew) (unhide hAn) hbm) o1 (by decide) s4)
    have R3 := hide (box_grown (box_below (w := wn.drew) (unhide hRn) hbm) o1 (by decide) s4)
    have U3 : Hid (IIn wk.heap.size w2.heap.size (wm.setCell ⟨g, q, none⟩ (.string (mkKey sn))) (.slice (some ad) N.length uc) (ints N)) := RowIn.grown (RowIn.below (w := wn.drew) (unhide hUn) hbm) s4 (fun z hz => .inl (by cases hz; omega))
    have G3 := hide ((grown_below0 (grown_drew (unhide hGn)) hbm).trans s4)
    generalize (fill xs s ([lf] ++ N.take j)).getD q ByteArray.empty = old2 at s1
    clear o1 s3 s4 hbm
    try simp only [Act.put, List.setIfInBounds_toArray, List.set_cons_zero, List.set_cons_succ]
    refine r_q 8 ?_
    refine r_l 9 (fun K hK => ?_)
    go_simp
    refine hK.out _ _ ?_
    clear hK
    try simp only [Act.put, List.setIfInBounds_toArray, List.set_cons_zero, List.set_cons_succ]
    go_wp2_with fail
    go_roundw
    case rel => exact ⟨j + 1, by omega, by simp, by rw [HSN.out], by rw [HTK.out]; exact unhide S3, U3, A3, R3, G3⟩
    case measure => simp [intOf]; omega
  · have hlt2 : decide ((j : Int) < (N.length : Int)) = false := by simp; omega
    obtain rfl : j = N.length := by omega
    have l1 := (unhide hA).cell
    have l2 := (unhide hR).cell
    have l3 := (unhide hR).frozen
    have l4 := ((unhide hR).set (.slice (some ⟨g, 0, none⟩) 15 c)).cell
    have O4 : Hid _ := row_box (unhide hO) (unhide hR) (by decide) (.slice (some ⟨g, 0, none⟩) 15 c)
    have G4 : Hid (w.grownBy (wr.setCell ⟨w.heap.size + 1, 0, none⟩ (.slice (some ⟨g, 0, none⟩) 15 c)) (some g)) := by
     have q := unhide hG
     refine ⟨q.os, q.tape, q.output, by simpa [World.setCell] using q.size, fun z hz hr => ?_⟩
     rw [Below.heap_setCell wr ⟨w.heap.size + 1, 0, none⟩ _ z (by show z ≠ w.heap.size + 1; omega)]
     exact q.block z hz hr
    go_wp2_with fail
    refine bodyPost_ret (v := .agg #[.slice (some ⟨g, 0, none⟩) 15 c]) (by simp [results, Tryz.results90, go_sem, l4]) rfl ⟨rfl, ?_, unhide G4⟩
    rw [HEND.out]
    exact unhide O4
end Go.Proofs.YtabpaaahobakpaaGreat
/-
  What a commit leads to, as plain words.
-/
namespace Go.Proofs.YtabpaaahobakpaaGreat
open Go.RowKit

theorem srow_of {w : World} {B n : Nat} {v : Value} {xs : List ByteArray} (h : w.ownsRow B 9 1 v n (xs.map Value.string)) (hl : xs.length = n) : SRow w v xs := by subst hl; exact own_srow h
end Go.Proofs.YtabpaaahobakpaaGreat
/-
 The specification's l5Keys, l5Fresh.
-/
namespace Go.Proofs.YtabpaaahobakpaaGreat
open Go.RowKit
/-- Keys of a path's places are made from its secrets. -/
def freshB (xs : List ByteArray) (path : List Mo) : Bool := path.all fun m => decide (xs.getD m.1.toNat ByteArray.empty = mkKey m.2)
theorem fresh_no {xs : List ByteArray} {path : List Mo} {j : Nat} (hj : j < path.length) (h : ¬ xs.getD (path.getD j noMo).1.toNat ByteArray.empty = mkKey (path.getD j noMo).2) : freshB xs path = false := by
 unfold freshB
 rw [List.all_eq_false]
 refine ⟨path.getD j noMo, ?_, by simpa using h⟩
 rw [List.getD_eq_getElem?_getD, List.getElem?_eq_getElem hj]
 exact List.getElem_mem hj
theorem fresh_yes {xs : List ByteArray} {path : List Mo} (h : ∀ t, t < path.length → xs.getD (path.getD t noMo).1.toNat ByteArray.empty = mkKey (path.getD t noMo).2) : freshB xs path = true := by
 unfold freshB
 rw [List.all_eq_true]
 intro m hm
 obtain ⟨t, ht, rfl⟩ := List.mem_iff_getElem.1 hm
 have := h t ht
 rw [List.getD_eq_getElem?_getD (l := path), List.getElem?_eq_getElem ht] at this
 simpa using this
end Go.Proofs.YtabpaaahobakpaaGreat
/-
 The specification's l5Find.
-/
namespace Go.Proofs.YtabpaaahobakpaaGreat
open Go.RowKit
theorem BRow.form {w : World} {v : Value} {bs : List Bx} (h : BRow w v bs) :
 ∃ (ao : Option Addr) (cap : Nat), v = .slice ao bs.length cap ∧ bs.length ≤ cap ∧ cap ≤ maxLen ∧ ∀ i, i < bs.length → ∃ a, ao = some a ∧ w.cell? (a.add (i * 2)) = some (.string (bs.getD i noBx).1) ∧ w.cell? ⟨(a.add (i * 2)).block, (a.add (i * 2)).off + 1, none⟩ = some (.string (bs.getD i noBx).2) := by
 obtain ⟨ao, cap, h1, h2, h3, h4⟩ := h
 refine ⟨ao, cap, h1, h2, h3, fun i hi => ?_⟩
 obtain ⟨a, q1, q2, q3⟩ := h4 i hi
 rw [add_one] at q3
 exact ⟨a, q1, q2, q3⟩
end Go.Proofs.YtabpaaahobakpaaGreat
/-
 The specification's l5Kept, l5Under.
-/
namespace Go.Proofs.YtabpaaahobakpaaGreat
open Go.RowKit
end Go.Proofs.YtabpaaahobakpaaGreat
/-
  The specification's l5Same: one in new memory.
-/
namespace Go.Proofs.YtabpaaahobakpaaGreat
open Go.RowKit

/-- A row of own secrets, as an append reads it. -/
def MNews (w : World) (v : Value) (own : List Mo) : Prop := (v = .slice none 0 0 ∧ own.length = 0 ∧ mcells own = []) ∨ ∃ ad c, v = .slice (some ad) own.length c ∧ (mcells own).length = own.length * 2 ∧ ∀ j u, (mcells own)[j]? = some u → w.cell? (ad.add j) = some u
theorem MNews.below {w w' : World} {v : Value} {own : List Mo} (h : MNews w v own) (hb : Below w.heap.size w w') : MNews w' v own := by
  rcases h with h | ⟨ad, c, h1, h2, h3⟩
  · exact .inl h
  · exact .inr ⟨ad, c, h1, h2, fun j u hu => (hb.cell (cell_lt (h3 j u hu))).trans (h3 j u hu)⟩
theorem MNews.form {w : World} {v : Value} {own : List Mo} (h : MNews w v own) : ∃ a c, v = .slice a own.length c := by
  rcases h with ⟨h1, h2, _⟩ | ⟨ad, c, h1, _⟩
  · exact ⟨none, 0, by rw [h1, h2]⟩
  · exact ⟨some ad, c, h1⟩

end Go.Proofs.YtabpaaahobakpaaGreat
/-
  What a commit leads whoever hears it to, as plain words.
-/
namespace Go.Proofs.YtabpaaahobakpaaGreat
open Go.RowKit

end Go.Proofs.YtabpaaahobakpaaGreat
/-
  Whether a commit's keys are those of one's tree, as plain words.
-/
namespace Go.Proofs.YtabpaaahobakpaaGreat
open Go.RowKit

theorem rowT_int : RowT Tryz.prog 27 3 1 8 := rowT_of Tryz.underlying27 (show (Tryz.prog.info? 3).map (fun i => (i.zero, i.size, i.bytes)) = some (some (.int .i64 0), 1, 8) by kernel_rfl) rfl (by decide)
end Go.Proofs.YtabpaaahobakpaaGreat
/-
  MemCommit, as plain words.
-/
namespace Go.Proofs.YtabpaaahobakpaaGreat
open Go.RowKit

end Go.Proofs.YtabpaaahobakpaaGreat
/-
  MemHear, as plain words.
-/
namespace Go.Proofs.YtabpaaahobakpaaGreat
open Go.RowKit

end Go.Proofs.YtabpaaahobakpaaGreat
/-
  Windows as plain words: numbers that fall, a ring of bits, and that both tell the same. No Go function in it.
-/
namespace Go.Proofs.YtabpaaahobakpaaGreat
open Go.RowKit

end Go.Proofs.YtabpaaahobakpaaGreat
/-
  The specification's l6Seen: what has come, with one more.
-/
namespace Go.Proofs.YtabpaaahobakpaaGreat
open Go.RowKit

end Go.Proofs.YtabpaaahobakpaaGreat
/-
  A window, as a value; whether it is ok, and what it takes, as plain words.
-/
namespace Go.Proofs.YtabpaaahobakpaaGreat
open Go.RowKit

/-- What has come that was shut with a key. -/
structure Win where
  key : ByteArray
  top : Int
  seen : List Int
def Win.none : Win := ⟨⟨#[]⟩, 0, []⟩
abbrev winC (key : ByteArray) (top : Int) (s : Value) : Array Value := #[.string key, .int .i64 top, s]
abbrev Win.cells (x : Win) (s : Value) : Array Value := winC x.key x.top s
end Go.Proofs.YtabpaaahobakpaaGreat
/-
  Rows of windows; the specification's l6At.
-/
namespace Go.Proofs.YtabpaaahobakpaaGreat
open Go.RowKit

/-- A slice holds these windows, each with the slice of its numbers. -/
def WRow (w : World) (v : Value) (ws : List (Win × Value)) : Prop :=
  ∃ (ao : Option Addr) (cap : Nat), v = .slice ao ws.length cap ∧ ws.length ≤ cap ∧ cap ≤ maxLen ∧
    ∀ i (h : i < ws.length), ∃ a, ao = some a ∧ w.cell? (a.add (i * 3)) = some (.string ws[i].1.key) ∧ w.cell? ⟨(a.add (i * 3)).block, (a.add (i * 3)).off + 1, none⟩ = some (.int .i64 ws[i].1.top) ∧ w.cell? ⟨(a.add (i * 3)).block, (a.add (i * 3)).off + 2, none⟩ = some ws[i].2 ∧ IRow w ws[i].2 ws[i].1.seen
theorem WRow.below {w w' : World} {v : Value} {ws : List (Win × Value)} (h : WRow w v ws) (hb : Below w.heap.size w w') : WRow w' v ws := by
  obtain ⟨ao, cap, h1, h2, h3, h4⟩ := h
  refine ⟨ao, cap, h1, h2, h3, fun i hi => ?_⟩
  obtain ⟨a, e, q0, q1, q2, q3⟩ := h4 i hi
  exact ⟨a, e, (hb.cell (cell_lt q0)).trans q0, (hb.cell (cell_lt q1)).trans q1, (hb.cell (cell_lt q2)).trans q2, q3.below hb⟩
end Go.Proofs.YtabpaaahobakpaaGreat
/-
  The specification's FraText: whether a text may be said.
-/
namespace Go.Proofs.YtabpaaahobakpaaGreat
open Go.RowKit

end Go.Proofs.YtabpaaahobakpaaGreat
/-
  A frame, as a value; whether it is ok, as plain words.
-/
namespace Go.Proofs.YtabpaaahobakpaaGreat
open Go.RowKit

/-- What one says. -/
structure Fra where
  fr : Int
  key : ByteArray
  n : Int
  text : ByteArray
abbrev fraC (fr : Int) (key : ByteArray) (n : Int) (text : ByteArray) : Array Value := #[.int .i64 fr, .string key, .int .i64 n, .string text]
abbrev Fra.cells (f : Fra) : Array Value := fraC f.fr f.key f.n f.text
end Go.Proofs.YtabpaaahobakpaaGreat
/-
  Several rows of the call's own, which may grow in place, and what is read behind them: none of that lies in a row's own block. No Go function in it.
-/
namespace Go.Proofs.YtabpaaahobakpaaGreat
open Go.RowKit

/-- All blocks stay but some, and new ones. -/
def KeepX (X : List Nat) (w w' : World) : Prop := w.heap.size ≤ w'.heap.size ∧ ∀ k, k < w.heap.size → k ∉ X → w'.heap[k]? = w.heap[k]?
/-- More blocks, the new ones not there yet. -/
def MoreX (X X' : List Nat) (w : World) : Prop := ∀ b, b ∈ X' → b ∈ X ∨ w.heap.size ≤ b
theorem MoreX.refl (X : List Nat) (w : World) : MoreX X X w := fun _ h => .inl h
theorem KeepX.below {X : List Nat} {w w' : World} (h : Below w.heap.size w w') : KeepX X w w' := ⟨h.size, fun k hk _ => h.block k hk⟩
theorem KeepX.grown {X : List Nat} {w w' : World} {r : Option Nat} (h : w.grownBy w' r) (hr : ∀ b, r = some b → b ∈ X) : KeepX X w w' := ⟨h.size, fun k hk hx => h.block k hk (fun e => hx (hr k e.symm))⟩
theorem InX.keep {X X' : List Nat} {w w' : World} {v : Value} (h : InX X w v) (hk : KeepX X w w') (hm : MoreX X X' w) : InX X' w' v := fun b hb => by
  obtain ⟨h1, h2⟩ := h b hb
  refine ⟨Nat.lt_of_lt_of_le h1 hk.1, fun q => ?_⟩
  rcases hm b q with q | q
  · exact h2 q
  · omega
theorem InX.cell {X : List Nat} {w w' : World} {a : Addr} {l c : Nat} (h : InX X w (.slice (some a) l c)) (hk : KeepX X w w') (p : Addr) (hp : p.block = a.block) : w'.cell? p = w.cell? p := by
  obtain ⟨h1, h2⟩ := h a.block rfl
  refine World.cell?_of_block (w := w) (hk.2 p.block ?_ ?_)
  · rw [hp]; exact h1
  · rw [hp]; exact h2
theorem addr_block (a : Addr) (k : Nat) : (a.add k).block = a.block := by unfold Addr.add; split <;> rfl
theorem add_off (a : Addr) (k : Nat) : (a.add k).off = a.off + k := by
  unfold Addr.add
  split
  · rename_i h
    rw [h]
    rfl
  · rfl
theorem add_one2 (a : Addr) (k : Nat) : (a.add k).add 1 = a.add (k + 1) := by rw [add_oneM, Addr.add_succ' a k, addr_block, add_off, Nat.add_assoc]
theorem SRow.keepX {X : List Nat} {w w' : World} {v : Value} {xs : List ByteArray} (h : SRow w v xs) (hi : InX X w v) (hk : KeepX X w w') : SRow w' v xs := by
  rcases h with h | ⟨a, cap, rfl, h2, h3, h4⟩
  · exact .inl h
  · exact .inr ⟨a, cap, rfl, h2, h3, fun i hl => (hi.cell hk _ (addr_block a i)).trans (h4 i hl)⟩
theorem IRow.keepX {X : List Nat} {w w' : World} {v : Value} {xs : List Int} (h : IRow w v xs) (hi : InX X w v) (hk : KeepX X w w') : IRow w' v xs := by
  rcases h with h | ⟨a, cap, rfl, h2, h3, h4⟩
  · exact .inl h
  · exact .inr ⟨a, cap, rfl, h2, h3, fun i hl => (hi.cell hk _ (addr_block a i)).trans (h4 i hl)⟩
/-- A row, as it is read: no block and nothing in it, or these cells. -/
def RowR (w : World) (v : Value) (n : Nat) (cs : List Value) : Prop := (v = .slice none 0 0 ∧ n = 0 ∧ cs = []) ∨ ∃ ad c, v = .slice (some ad) n c ∧ n ≤ c ∧ c ≤ maxLen ∧ ∀ j u, cs[j]? = some u → w.cell? (ad.add j) = some u
theorem RowR.keepX {X : List Nat} {w w' : World} {v : Value} {n : Nat} {cs : List Value} (h : RowR w v n cs) (hi : InX X w v) (hk : KeepX X w w') : RowR w' v n cs := by
  rcases h with h | ⟨a, cap, rfl, h2, h3, h4⟩
  · exact .inl h
  · exact .inr ⟨a, cap, rfl, h2, h3, fun j u hj => (hi.cell hk _ (addr_block a j)).trans (h4 j u hj)⟩
theorem RowR.below {w w' : World} {v : Value} {n : Nat} {cs : List Value} (h : RowR w v n cs) (hb : Below w.heap.size w w') : RowR w' v n cs := by
  rcases h with h | ⟨a, cap, rfl, h2, h3, h4⟩
  · exact .inl h
  · exact .inr ⟨a, cap, rfl, h2, h3, fun j u hj => (hb.cell (cell_lt (h4 j u hj))).trans (h4 j u hj)⟩
theorem RowR.form {w : World} {v : Value} {n : Nat} {cs : List Value} (h : RowR w v n cs) : ∃ a c, v = .slice a n c := by
  rcases h with ⟨h1, h2, _⟩ | ⟨a, cap, h1, _⟩
  · exact ⟨none, 0, by rw [h1, h2]⟩
  · exact ⟨some a, cap, h1⟩
theorem RowR.own {w : World} {B : Nat} {e : TypeId} {size : Nat} {v : Value} {n : Nat} {xs : List Value} (h : w.ownsRow B e size v n xs) : RowR w v n xs := by
  have hh := h
  rcases h.2 with ⟨h1, h2⟩ | ⟨g, cap, cur, h1, _, _, h4, h5, _⟩
  · subst h2
    exact .inl ⟨h1, rfl, List.eq_nil_of_length_eq_zero (by simpa using h.1)⟩
  · subst h1
    exact .inr ⟨_, cap, rfl, h4, h5, hh.cells (g := g) rfl⟩
theorem RowR.mrow {w : World} {v : Value} {own : List Mo} (h : RowR w v own.length (mcells own)) : MRow w v own := by
  rcases h with ⟨h1, h2, _⟩ | ⟨a, cap, h1, h3, h4, h5⟩
  · exact ⟨none, 0, by rw [h1, h2], by omega, by omega, fun i hi => by omega⟩
  · refine ⟨some a, cap, h1, h3, h4, fun i hi => ?_⟩
    obtain ⟨p1, p2⟩ := mcells_get own i hi
    refine ⟨a, rfl, h5 _ _ p1, ?_⟩
    have := h5 _ _ p2
    rw [add_one2]
    exact this

/-- One row of a value that has several: its elements' type, their cells, the slice, how many, and what they are. -/
structure RowD where
  e : TypeId
  size : Nat
  v : Value
  n : Nat
  P : List Nat → World → List Value → Prop
/-- What they are stays while none of its blocks is written. -/
def Stays (P : List Nat → World → List Value → Prop) : Prop := ∀ (X X' : List Nat) (w w' : World) cs, KeepX X w w' → MoreX X X' w → P X w cs → P X' w' cs
/-- All the rows; X has their blocks, and the caller's own ones L, which are none of theirs. -/
structure Rows (X L : List Nat) (B : Nat) (w : World) (rs : List RowD) : Prop where
  loc : ∀ b ∈ L, b ∈ X ∧ ∀ r ∈ rs, r.v.ownBlock ≠ some b
  lt : ∀ b ∈ X, b < w.heap.size
  inx : ∀ r ∈ rs, ∀ b, r.v.ownBlock = some b → b ∈ X
  st : ∀ r ∈ rs, Stays r.P
  own : ∀ r ∈ rs, ∃ cs, w.ownsRow B r.e r.size r.v r.n cs ∧ r.P X w cs
  apart : rs.Pairwise fun r r' => r.v.ownBlock = Option.none ∨ r.v.ownBlock ≠ r'.v.ownBlock
theorem Rows.below {X L : List Nat} {B : Nat} {w w' : World} {rs : List RowD} (h : Rows X L B w rs) (hb : Below w.heap.size w w') : Rows X L B w' rs :=
  ⟨h.loc, fun b hx => Nat.lt_of_lt_of_le (h.lt b hx) hb.size, h.inx, h.st, fun r hr => by
    obtain ⟨cs, h1, h2⟩ := h.own r hr
    exact ⟨cs, own_below' h1 hb, h.st r hr X X w w' cs (KeepX.below hb) (MoreX.refl _ _) h2⟩, h.apart⟩
/-- One row grows, in its place or elsewhere. -/
theorem Rows.upd {X L : List Nat} {B : Nat} {w w' : World} {rs : List RowD} (h : Rows X L B w rs) (i : Nat) (hi : i < rs.length) (r' : RowD) (hg : w.grownBy w' rs[i].v.ownBlock) {cs : List Value} (ho : w'.ownsRow B r'.e r'.size r'.v r'.n cs) (hst : Stays r'.P)
    (hat : r'.v.ownBlock = rs[i].v.ownBlock ∨ r'.v.ownBlock = some w.heap.size) (hP : ∀ X', MoreX X X' w → r'.P X' w' cs) : ∃ X', Rows X' L B w' (rs.set i r') ∧ MoreX X X' w := by
  have hk : KeepX X w w' := KeepX.grown hg (fun b hb => h.inx rs[i] (List.getElem_mem hi) b hb)
  have key : ∃ X' : List Nat, MoreX X X' w ∧ (∀ b ∈ X', b < w'.heap.size) ∧ (∀ b ∈ X, b ∈ X') ∧ ∀ b, r'.v.ownBlock = some b → b ∈ X' := by
    rcases hat with e | e
    · exact ⟨X, MoreX.refl _ _, fun b hb => Nat.lt_of_lt_of_le (h.lt b hb) hg.size, fun b hb => hb, fun b hb => h.inx rs[i] (List.getElem_mem hi) b (by rw [← e]; exact hb)⟩
    · refine ⟨w.heap.size :: X, ?_, ?_, fun b hb => List.mem_cons_of_mem _ hb, fun b hb => ?_⟩
      · intro b hb
        rcases List.mem_cons.1 hb with rfl | hb
        · exact .inr (Nat.le_refl _)
        · exact .inl hb
      · intro b hb
        rcases List.mem_cons.1 hb with rfl | hb
        · exact (ho.lt _ e).2
        · exact Nat.lt_of_lt_of_le (h.lt b hb) hg.size
      · rw [e] at hb
        cases hb
        exact List.mem_cons_self
  obtain ⟨X', hm, hlt, hsub, hin⟩ := key
  have hap : ∀ j (hj : j < rs.length), j ≠ i → rs[j].v.ownBlock = Option.none ∨ rs[j].v.ownBlock ≠ rs[i].v.ownBlock := fun j hj hne => by
    have hp := List.pairwise_iff_getElem.1 h.apart
    rcases Nat.lt_or_gt_of_ne hne with q | q
    · exact hp j i hj hi q
    · rcases hp i j hi hj q with e | e
      · by_cases z : rs[j].v.ownBlock = Option.none
        · exact .inl z
        · exact .inr (fun q2 => z (q2.trans e))
      · exact .inr (fun q2 => e q2.symm)
  have hnew : ∀ j (hj : j < rs.length), j ≠ i → rs[j].v.ownBlock = Option.none ∨ rs[j].v.ownBlock ≠ r'.v.ownBlock := fun j hj hne => by
    rcases hat with e | e
    · rw [e]; exact hap j hj hne
    · refine .inr (fun q => ?_)
      rw [e] at q
      have := h.lt _ (h.inx rs[j] (List.getElem_mem hj) _ q)
      omega
  refine ⟨X', ⟨?_, hlt, ?_, ?_, ?_, ?_⟩, hm⟩
  · intro b hb
    obtain ⟨h1, h2⟩ := h.loc b hb
    refine ⟨hsub b h1, fun r hr => ?_⟩
    obtain ⟨j, hj, rfl⟩ := List.getElem_of_mem hr
    rw [List.length_set] at hj
    rw [List.getElem_set]
    split
    · rcases hat with e | e
      · rw [e]; exact h2 _ (List.getElem_mem hi)
      · rw [e]
        intro q
        have := h.lt b h1
        cases q
        omega
    · exact h2 _ (List.getElem_mem hj)
  · intro r hr b hb
    obtain ⟨j, hj, rfl⟩ := List.getElem_of_mem hr
    rw [List.length_set] at hj
    rw [List.getElem_set] at hb
    split at hb
    · exact hin b hb
    · exact hsub b (h.inx _ (List.getElem_mem hj) b hb)
  · intro r hr
    obtain ⟨j, hj, rfl⟩ := List.getElem_of_mem hr
    rw [List.length_set] at hj
    rw [List.getElem_set]
    split
    · exact hst
    · exact h.st _ (List.getElem_mem hj)
  · intro r hr
    obtain ⟨j, hj, rfl⟩ := List.getElem_of_mem hr
    rw [List.length_set] at hj
    rw [List.getElem_set]
    split
    · exact ⟨cs, ho, hP X' hm⟩
    · rename_i hne
      obtain ⟨cs2, h1, h2⟩ := h.own _ (List.getElem_mem hj)
      exact ⟨cs2, h1.kept hg (hap j hj (fun q => hne q.symm)), h.st _ (List.getElem_mem hj) X X' w w' cs2 hk hm h2⟩
  · rw [List.pairwise_iff_getElem]
    intro j k hj hk2 hjk
    rw [List.length_set] at hj hk2
    rw [List.getElem_set, List.getElem_set]
    split
    · rename_i e1
      subst e1
      rw [if_neg (by omega)]
      rcases hnew k hk2 (by omega) with e | e
      · by_cases z : r'.v.ownBlock = Option.none
        · exact .inl z
        · exact .inr (fun q => z (q.trans e))
      · exact .inr (fun q => e q.symm)
    · split
      · rename_i e1 e2
        subst e2
        exact hnew j hj (by omega)
      · exact List.pairwise_iff_getElem.1 h.apart j k hj hk2 hjk
/-- A new block of the caller's own. -/
theorem Rows.more {X L : List Nat} {B : Nat} {w w' : World} {rs : List RowD} {b : Nat} (h : Rows X L B w rs) (hb : Below w.heap.size w w') (hn : w.heap.size ≤ b ∧ b < w'.heap.size) : Rows (b :: X) (b :: L) B w' rs := by
  have hm : MoreX X (b :: X) w := fun z hz => by
    rcases List.mem_cons.1 hz with rfl | hz
    · exact .inr hn.1
    · exact .inl hz
  refine ⟨fun z hz => ?_, fun z hz => ?_, fun r hr z hz => List.mem_cons_of_mem _ (h.inx r hr z hz), h.st, fun r hr => ?_, h.apart⟩
  · rcases List.mem_cons.1 hz with rfl | hz
    · refine ⟨List.mem_cons_self, fun r hr q => ?_⟩
      have := h.lt z (h.inx r hr z q)
      omega
    · exact ⟨List.mem_cons_of_mem _ (h.loc z hz).1, (h.loc z hz).2⟩
  · rcases List.mem_cons.1 hz with rfl | hz
    · exact hn.2
    · exact Nat.lt_of_lt_of_le (h.lt z hz) hb.size
  · obtain ⟨cs, h1, h2⟩ := h.own r hr
    exact ⟨cs, own_below' h1 hb, h.st r hr X (b :: X) w w' cs (KeepX.below hb) hm h2⟩
/-- A store into a block of the caller's own. -/
theorem Rows.other {X L : List Nat} {B : Nat} {w w' : World} {rs : List RowD} {b : Nat} (h : Rows X L B w rs) (hg : w.grownBy w' (some b)) (hb : b ∈ L) : Rows X L B w' rs := by
  obtain ⟨h0, h1⟩ := h.loc b hb
  exact ⟨h.loc, fun z hz => Nat.lt_of_lt_of_le (h.lt z hz) hg.size, h.inx, h.st, fun r hr => by
    obtain ⟨cs, h2, h3⟩ := h.own r hr
    exact ⟨cs, h2.kept hg (.inr (h1 r hr)), h.st r hr X X w w' cs (KeepX.grown hg (fun z hz => by cases hz; exact h0)) (MoreX.refl _ _) h3⟩, h.apart⟩
/-- Fewer blocks are asked of. -/
theorem Rows.less {X L L' : List Nat} {B : Nat} {w : World} {rs : List RowD} (h : Rows X L B w rs) (hl : ∀ b ∈ L', b ∈ L) : Rows X L' B w rs := ⟨fun b hb => h.loc b (hl b hb), h.lt, h.inx, h.st, h.own, h.apart⟩
/-- What a call may have written: the rows' own blocks alone. -/
def KeepR (rs : List RowD) (w w' : World) : Prop := w.heap.size ≤ w'.heap.size ∧ (∀ k, k < w.heap.size → (∀ r ∈ rs, r.v.ownBlock ≠ some k) → w'.heap[k]? = w.heap[k]?) ∧ w'.os = w.os ∧ w'.tape = w.tape ∧ w'.output = w.output
theorem KeepR.refl (rs : List RowD) (w : World) : KeepR rs w w := ⟨Nat.le_refl _, fun _ _ _ => rfl, rfl, rfl, rfl⟩
theorem KeepR.trans {rs : List RowD} {w u w' : World} (h : KeepR rs w u) (k : KeepR rs u w') : KeepR rs w w' := ⟨Nat.le_trans h.1 k.1, fun b hb hr => (k.2.1 b (Nat.lt_of_lt_of_le hb h.1) hr).trans (h.2.1 b hb hr), k.2.2.1.trans h.2.2.1, k.2.2.2.1.trans h.2.2.2.1, k.2.2.2.2.trans h.2.2.2.2⟩
theorem KeepR.below {rs : List RowD} {w u w' : World} (h : KeepR rs w u) (hb : Below u.heap.size u w') : KeepR rs w w' := h.trans ⟨hb.size, fun k hk _ => hb.block k hk, hb.os, hb.tape, hb.output⟩
/-- A store into a block that is new since. -/
theorem KeepR.new {rs : List RowD} {w u w' : World} {b : Nat} (h : KeepR rs w u) (hg : u.grownBy w' (some b)) (hb : w.heap.size ≤ b) : KeepR rs w w' := ⟨Nat.le_trans h.1 hg.size, fun k hk hr => (hg.block k (Nat.lt_of_lt_of_le hk h.1) (fun e => by cases e; omega)).trans (h.2.1 k hk hr), hg.os.trans h.2.2.1, hg.tape.trans h.2.2.2.1, hg.output.trans h.2.2.2.2⟩
/-- One of the rows, or one that is new since, is written. -/
theorem KeepR.row {rs : List RowD} {w u w' : World} {z : Option Nat} (h : KeepR rs w u) (hg : u.grownBy w' z) (hz : ∀ k, z = some k → w.heap.size ≤ k ∨ ∃ r ∈ rs, r.v.ownBlock = some k) : KeepR rs w w' := ⟨Nat.le_trans h.1 hg.size, fun k hk hr => (hg.block k (Nat.lt_of_lt_of_le hk h.1) (fun e => by
    rcases hz k e.symm with q | ⟨r, hm, q⟩
    · omega
    · exact hr r hm q)).trans (h.2.1 k hk hr), hg.os.trans h.2.2.1, hg.tape.trans h.2.2.2.1, hg.output.trans h.2.2.2.2⟩
theorem Rows.more2 {X L : List Nat} {B : Nat} {w w' : World} {rs : List RowD} {b : Nat} (h : Rows X L B w rs) (hb : Below w.heap.size w w') (hn : w.heap.size ≤ b ∧ b < w'.heap.size) : ∃ X', Rows X' (b :: L) B w' rs ∧ MoreX X X' w :=
  ⟨_, h.more hb hn, fun z hz => by
    rcases List.mem_cons.1 hz with rfl | hz
    · exact .inr hn.1
    · exact .inl hz⟩
/-- A row that is new lies in none of the blocks. -/
theorem Rows.fresh {X L : List Nat} {B : Nat} {w w' : World} {rs : List RowD} (h : Rows X L B w rs) {e : TypeId} {size n : Nat} {v : Value} {xs : List Value} (ho : w'.ownsRow w.heap.size e size v n xs) : InX X w' v := fun b hb => by
  obtain ⟨h1, h2⟩ := ho.lt b hb
  exact ⟨h2, fun q => by have := h.lt b q; omega⟩
theorem Rows.inL {X L : List Nat} {B : Nat} {w : World} {rs : List RowD} (h : Rows X L B w rs) {b : Nat} (hb : b ∈ L) : b ∈ X := (h.loc b hb).1
end Go.Proofs.YtabpaaahobakpaaGreat
/-
  A group's world, as a value and in memory.
-/
namespace Go.Proofs.YtabpaaahobakpaaGreat
open Go.RowKit

/-- One who waits to come. -/
structure Wt where
  who : Int
  pos : Int
  leaf : ByteArray
  key : ByteArray
/-- What was stolen. -/
structure St where
  who : Int
  tag : ByteArray
/-- What one has heard. -/
structure Td where
  who : Int
  pos : Int
/-- A group's world. -/
structure Wld where
  seats : List Mem
  waits : List Wt
  log : List Cmt
  fresh : List Int
  spy : List ByteArray
  stolen : List St
  frames : List Fra
  said : List Int
  wins : List (List Win)
  told : List Td
def Wld.none : Wld := ⟨[], [], [], [], [], [], [], [], [], []⟩
abbrev wtC (who pos : Int) (leaf key : ByteArray) : Array Value := #[.int .i64 who, .int .i64 pos, .string leaf, .string key]
abbrev wldC (a b c d e f g h i j : Value) : Array Value := #[a, b, c, d, e, f, g, h, i, j]

/-- A seat's cells. -/
def seatR (X : List Nat) (w : World) (m : Mem) (c : List Value) : Prop := ∃ k o, c = (m.cells k o).toList ∧ SRow w k m.keys ∧ RowR w o m.own.length (mcells m.own) ∧ InX X w k ∧ InX X w o
/-- A commit's cells. -/
def cmtR (X : List Nat) (w : World) (x : Cmt) (c : List Value) : Prop := ∃ k b, c = (x.cells k b).toList ∧ SRow w k x.keys ∧ RowR w b x.boxes.length (bcells x.boxes) ∧ InX X w k ∧ InX X w b
/-- A window's cells. -/
def winR (X : List Nat) (w : World) (x : Win) (c : List Value) : Prop := ∃ s, c = (x.cells s).toList ∧ IRow w s x.seen ∧ InX X w s
/-- One's windows: a slice of them. -/
def winsR (X : List Nat) (w : World) (l : List Win) (c : List Value) : Prop := ∃ v cs, c = [v] ∧ RowR w v l.length cs ∧ ListR (winR X w) l cs ∧ InX X w v
def waitR (x : Wt) (c : List Value) : Prop := c = (wtC x.who x.pos x.leaf x.key).toList
def stolR (x : St) (c : List Value) : Prop := c = [.int .i64 x.who, .string x.tag]
def toldR (x : Td) (c : List Value) : Prop := c = [.int .i64 x.who, .int .i64 x.pos]
def fraR (x : Fra) (c : List Value) : Prop := c = x.cells.toList
def intR (x : Int) (c : List Value) : Prop := c = [.int .i64 x]
def txtR (x : ByteArray) (c : List Value) : Prop := c = [.string x]

theorem seatR.len {X : List Nat} {w : World} (m : Mem) (c : List Value) (h : seatR X w m c) : c.length = 7 := by obtain ⟨k, o, rfl, _⟩ := h; rfl
theorem cmtR.len {X : List Nat} {w : World} (m : Cmt) (c : List Value) (h : cmtR X w m c) : c.length = 13 := by obtain ⟨k, o, rfl, _⟩ := h; rfl
theorem winR.len {X : List Nat} {w : World} (m : Win) (c : List Value) (h : winR X w m c) : c.length = 3 := by obtain ⟨k, rfl, _⟩ := h; rfl
theorem winsR.len {X : List Nat} {w : World} (m : List Win) (c : List Value) (h : winsR X w m c) : c.length = 1 := by obtain ⟨v, cs, rfl, _⟩ := h; rfl
theorem waitR.len (m : Wt) (c : List Value) (h : waitR m c) : c.length = 4 := by rw [show c = _ from h]; rfl
theorem stolR.len (m : St) (c : List Value) (h : stolR m c) : c.length = 2 := by rw [show c = _ from h]; rfl
theorem toldR.len (m : Td) (c : List Value) (h : toldR m c) : c.length = 2 := by rw [show c = _ from h]; rfl
theorem fraR.len (m : Fra) (c : List Value) (h : fraR m c) : c.length = 4 := by rw [show c = _ from h]; rfl
theorem intR.len (m : Int) (c : List Value) (h : intR m c) : c.length = 1 := by rw [show c = _ from h]; rfl
theorem txtR.len (m : ByteArray) (c : List Value) (h : txtR m c) : c.length = 1 := by rw [show c = _ from h]; rfl

section
variable {X X' : List Nat} {w w' : World} (hk : KeepX X w w') (hm : MoreX X X' w)
include hk hm
theorem seatR.keep (m : Mem) (c : List Value) (h : seatR X w m c) : seatR X' w' m c := by
  obtain ⟨k, o, e, h1, h2, h3, h4⟩ := h
  exact ⟨k, o, e, h1.keepX h3 hk, h2.keepX h4 hk, h3.keep hk hm, h4.keep hk hm⟩
theorem cmtR.keep (m : Cmt) (c : List Value) (h : cmtR X w m c) : cmtR X' w' m c := by
  obtain ⟨k, o, e, h1, h2, h3, h4⟩ := h
  exact ⟨k, o, e, h1.keepX h3 hk, h2.keepX h4 hk, h3.keep hk hm, h4.keep hk hm⟩
theorem winR.keep (m : Win) (c : List Value) (h : winR X w m c) : winR X' w' m c := by
  obtain ⟨s, e, h1, h2⟩ := h
  exact ⟨s, e, h1.keepX h2 hk, h2.keep hk hm⟩
theorem winsR.keep (m : List Win) (c : List Value) (h : winsR X w m c) : winsR X' w' m c := by
  obtain ⟨v, cs, e, h1, h2, h3⟩ := h
  exact ⟨v, cs, e, h1.keepX h3 hk, h2.mono (winR.keep hk hm), h3.keep hk hm⟩
end

/-- A world's rows. -/
def rowsOf (a b c d e f g h i j : Value) (W : Wld) : List RowD :=
  [⟨42, 7, a, W.seats.length, fun X w => ListR (seatR X w) W.seats⟩, ⟨75, 4, b, W.waits.length, fun _ _ => ListR waitR W.waits⟩, ⟨73, 13, c, W.log.length, fun X w => ListR (cmtR X w) W.log⟩,
   ⟨3, 1, d, W.fresh.length, fun _ _ => ListR intR W.fresh⟩, ⟨9, 1, e, W.spy.length, fun _ _ => ListR txtR W.spy⟩, ⟨77, 2, f, W.stolen.length, fun _ _ => ListR stolR W.stolen⟩, ⟨79, 4, g, W.frames.length, fun _ _ => ListR fraR W.frames⟩,
   ⟨3, 1, h, W.said.length, fun _ _ => ListR intR W.said⟩, ⟨58, 1, i, W.wins.length, fun X w => ListR (winsR X w) W.wins⟩, ⟨82, 2, j, W.told.length, fun _ _ => ListR toldR W.told⟩]
theorem stays_seat (l : List Mem) : Stays (fun X w => ListR (seatR X w) l) := fun _ _ _ _ _ hk hm h => h.mono (seatR.keep hk hm)
theorem stays_cmt (l : List Cmt) : Stays (fun X w => ListR (cmtR X w) l) := fun _ _ _ _ _ hk hm h => h.mono (cmtR.keep hk hm)
theorem stays_wins (l : List (List Win)) : Stays (fun X w => ListR (winsR X w) l) := fun _ _ _ _ _ hk hm h => h.mono (winsR.keep hk hm)
theorem stays_flat {α : Type} (R : α → List Value → Prop) (l : List α) : Stays (fun _ _ => ListR R l) := fun _ _ _ _ _ _ _ h => h
theorem info_wld : (Tryz.prog.info? 34).map (·.size) = some 10 := by kernel_rfl
theorem load_wld {w : World} {b : Nat} {cs : Array Value} (h : Blk w b 34 cs) (hc : cs.size = 10) : (loadVar 34 ⟨b, 0, Option.none⟩).run Tryz.prog w = .ok (.agg cs) w :=
  run_loadVar_row w b _ _ cs (0, 0) _ h Tryz.underlying34 rfl (by rw [hc]; exact info_wld)

/-- One seat, read. -/
theorem Rows.seat {X L : List Nat} {B : Nat} {w : World} {a b c d e f g h i j : Value} {W : Wld} (q : Rows X L B w (rowsOf a b c d e f g h i j W)) (k : Nat) (hk : k < W.seats.length) :
    ∃ (ga ca : Nat) (ks os : Value), a = .slice (some ⟨ga, 0, Option.none⟩) W.seats.length ca ∧ (∀ n u, (W.seats[k].cells ks os)[n]? = some u → w.cell? ⟨ga, k * 7 + n, Option.none⟩ = some u) ∧ SRow w ks W.seats[k].keys ∧ RowR w os W.seats[k].own.length (mcells W.seats[k].own) := by
  obtain ⟨cs, h1, h2⟩ := q.own _ (List.mem_of_getElem? (i := 0) rfl)
  obtain ⟨ga, ca, e1, _, _, _, _⟩ := row_some h1 (by show 0 < W.seats.length; omega)
  obtain ⟨x, ⟨ks, os, rfl, p1, p2, _, _⟩, p3⟩ := ListR.get seatR.len k hk h2
  refine ⟨ga, ca, ks, os, e1, fun n u hn => ?_, p1, p2⟩
  have p4 := World.ownsRow.cells h1 (g := ga) (by rw [show (RowD.v _) = _ from e1]; rfl) (k * 7 + n) u (p3 n u (by simpa using hn))
  rw [Addr.add_lit, Nat.zero_add] at p4
  exact p4
end Go.Proofs.YtabpaaahobakpaaGreat
/-
  Whether two worlds of one who is alone are the same.
-/
namespace Go.Proofs.YtabpaaahobakpaaGreat
open Go.RowKit

/-- A world in which nothing was sent, that can be read. -/
def NewP (w : World) (v : Value) (ms : List Mem) (fr sd : List Int) (n : Nat) : Prop :=
  ∃ (s0 s3 s7 s8 : Value) (a1 a2 a4 a5 a6 a9 : Option Addr) (p1 p2 p4 p5 p6 p9 : Nat), v = .agg (wldC s0 (.slice a1 0 p1) (.slice a2 0 p2) s3 (.slice a4 0 p4) (.slice a5 0 p5) (.slice a6 0 p6) s7 s8 (.slice a9 0 p9)) ∧
    SeatP w s0 ms ∧ IRow w s3 fr ∧ IRow w s7 sd ∧ WinE w s8 n
theorem NewP.below {w w' : World} {v : Value} {ms : List Mem} {fr sd : List Int} {n : Nat} (h : NewP w v ms fr sd n) (hb : Below w.heap.size w w') : NewP w' v ms fr sd n := by
  obtain ⟨s0, s3, s7, s8, a1, a2, a4, a5, a6, a9, p1, p2, p4, p5, p6, p9, e, h1, h2, h3, h4⟩ := h
  exact ⟨s0, s3, s7, s8, a1, a2, a4, a5, a6, a9, p1, p2, p4, p5, p6, p9, e, h1.below hb, h2.below hb, h3.below hb, h4.below hb⟩

end Go.Proofs.YtabpaaahobakpaaGreat
/-
  Trees without keys: TreNew of the specification.
-/
namespace Go.Proofs.YtabpaaahobakpaaGreat
open Go.RowKit

/-- No keys. -/
def bare : List ByteArray := List.replicate 15 ByteArray.empty
theorem grownBy_setCell0 (W : World) (b : Nat) (v : Value) : W.grownBy (W.setCell ⟨b, 0, none⟩ v) (some b) :=
  ⟨rfl, rfl, rfl, by simp [World.setCell], fun k _ hk => Below.heap_setCell _ _ _ k (fun e => hk (by rw [e]))⟩

set_option maxRecDepth 100000 in
set_option maxHeartbeats 1000000 in
theorem sTreNew_any (w : World) : Calls Tryz.prog 91 #[] w fun e w' => ∃ v, e = .returned (.agg #[v]) ∧ Own w.heap.size w' v bare ∧ Below w.heap.size w w' := by
  obtain ⟨i0, hi, hz0, hz1, hz2⟩ := info_parts info_str2
  have hI := hide (And.intro hi (And.intro hz0 hz1))
  have hB2 : Hid (i0.bytes * 15 ≤ 281474976710656) := by show _ ≤ _; rw [hz2]; omega
  clear hi hz0 hz1 hz2
  go_enter Tryz.func91, Tryz.ntmps91
  go_wp2_with (at_make; refine wpList_make_full _ rfl _ _ 28 rfl w.heap.size 9 i0 (.string ⟨#[]⟩) 1 Tryz.underlying28 (unhide hI).1 (unhide hI).2.1 (unhide hI).2.2 _ _ _ _ 15 rfl rfl rfl rfl (unhide hB2) (by unfold maxLen; omega) (by simp) ?_)
  intro w1 hown hgrow
  have hO1 : Hid (Own w.heap.size w1 (.slice (some ⟨w.heap.size + 1, 0, none⟩) 15 15) bare) := by
    have e : (madeCells #[Value.string ⟨#[]⟩] 15).toList = bare.map Value.string := by
      simp [madeCells, Nat.mod_one, List.map_const', bare]; rfl
    rw [e] at hown
    exact hown
  have hL1 : Hid (Below w.heap.size w w1) := ((Below.refl _ _).alloc (Nat.le_refl _) _).grown hgrow (by simp) (fun k hk => by cases hk)
  have hblk : w1.heap[w.heap.size]? = some (.cells #[.slice none 0 0] 39) := (hgrow.block w.heap.size (by simp) (by simp)).trans (World.alloc_heap_new w _)
  have hc : w1.cell? ⟨w.heap.size, 0, none⟩ = some (.slice none 0 0) := by simp [World.cell?, hblk]
  have hf : w1.frozen? ⟨w.heap.size, 0, none⟩ = false := by simp [World.frozen?, hblk]
  clear hown hgrow
  go_wp2_with fail
  refine bodyPost_ret (v := .agg #[.slice (some ⟨w.heap.size + 1, 0, none⟩) 15 15]) (by simp [results, Tryz.results91, go_sem, hc]) rfl ⟨_, rfl, ?_, (unhide hL1).setCell (p := ⟨w.heap.size, 0, none⟩) (Nat.le_refl _) _⟩
  refine World.ownsRow.kept (unhide hO1) (grownBy_setCell0 w1 w.heap.size _) (.inr ?_)
  simp [Value.ownBlock]

end Go.Proofs.YtabpaaahobakpaaGreat
/-
  The specification's MemFirst.
-/
namespace Go.Proofs.YtabpaaahobakpaaGreat
open Go.RowKit

/-- Whether MemFirst makes one. -/
def fstOk (p : Int) (s t : ByteArray) : Prop := (0 ≤ p ∧ p ≤ 7) ∧ maySet s = true ∧ Kw.ok t = true
instance (p : Int) (s t : ByteArray) : Decidable (fstOk p s t) := by unfold fstOk; infer_instance
/-- What MemFirst answers. -/
def fstOf (p : Int) (s t : ByteArray) : Mem := if fstOk p s t then ⟨true, p, setKeys bare p.toNat s, pathOf (chainOf (7 + p)) s, 0, t, ⟨#[]⟩⟩ else Mem.none
theorem fst_no {p : Int} {s t : ByteArray} (h : ¬ fstOk p s t) : fstOf p s t = Mem.none := by unfold fstOf; rw [if_neg h]
theorem fst_yes {p : Int} {s t : ByteArray} (h : fstOk p s t) : fstOf p s t = ⟨true, p, setKeys bare p.toNat s, pathOf (chainOf (7 + p)) s, 0, t, ⟨#[]⟩⟩ := by unfold fstOf; rw [if_pos h]

set_option maxRecDepth 100000 in
set_option maxHeartbeats 4000000 in
theorem sMemFirst_any (p : Int) (s t : ByteArray) (w : World) (hs : s.size ≤ maxLen) (ht : t.size ≤ maxLen) :
    Calls Tryz.prog 30 #[.int .i64 p, .string s, .string t] w fun e w' => ∃ v, e = .returned v ∧ MemO w.heap.size w' v (fstOf p s t) ∧ Below w.heap.size w w' := by
  have HS := hide hs
  have HT := hide ht
  unfold maxLen at hs ht
  have HB0 : Hid (Below w.heap.size w (w.alloc (.cells noMem 42))) := (Below.refl _ _).alloc (Nat.le_refl _) _
  have A0 := hide (Blk.new w 42 noMem)
  have hs0 : (w.alloc (.cells noMem 42)).heap.size = w.heap.size + 1 := by simp
  by_cases hp : 0 ≤ p ∧ p ≤ 7
  · obtain ⟨k, rfl⟩ : ∃ k : Nat, p = (k : Int) := ⟨p.toNat, by omega⟩
    have hk8 : k < 8 := by omega
    have HK8 := hide hk8
    clear hp
    go_enter Tryz.func30, Tryz.ntmps30
    go_wp2_with fail
    refine (l1In_yes _ _ _ _ (by omega) (by omega)).mono ?_
    rintro e wa ⟨rfl, rfl⟩
    go_wp2_with fail
    refine (sSecOk_any s _ HS.out).mono ?_
    rintro e w1 ⟨rfl, hb1⟩
    have A1 := hide ((unhide A0).below hb1)
    have HB1 := hide (HB0.out.trans (hb1.mono HB0.out.size))
    have hs1 := hb1.size
    rw [hs0] at hs1
    clear hb1 A0 HB0 hs0
    cases hos : Kw.ok s with
    | false =>
      have HE : Hid (¬ fstOk (k : Int) s t) := by show ¬ _; unfold fstOk maySet; rw [hos]; simp
      have l1 := load_mm ((unhide A1).set noMem) rfl
      have HB2 := hide (below_blk (unhide HB1) (Nat.le_refl _) noMem)
      clear hos
      go_wp2_with (refine wpList_store_whole rfl 42 _ _ rfl w.heap.size noMem rfl rfl 42 _ (unhide A1) info_mm rfl (one_mm _ _ _ _ _ _ _ _ _ _ _) ?_)
      refine bodyPost_ret (v := .agg noMem) (results_cell rfl rfl l1) rfl ⟨_, rfl, ?_, unhide HB2⟩
      rw [fst_no HE.out]
      exact MemO.none _ _
    | true =>
      have HOS := hide hos
      clear hos
      go_wp2_with fail
      refine (sSecOk_any t _ HT.out).mono ?_
      rintro e w2 ⟨rfl, hb2⟩
      have A2 := hide ((unhide A1).below hb2)
      have HB2 := hide (HB1.out.trans (hb2.mono HB1.out.size))
      have hs2 := hb2.size
      clear hb2 A1 HB1
      cases hot : Kw.ok t with
      | false =>
        have HE : Hid (¬ fstOk (k : Int) s t) := by show ¬ _; unfold fstOk; rw [hot]; simp
        have l1 := load_mm ((unhide A2).set noMem) rfl
        have HB3 := hide (below_blk (unhide HB2) (Nat.le_refl _) noMem)
        clear hot
        go_wp2_with (refine wpList_store_whole rfl 42 _ _ rfl w.heap.size noMem rfl rfl 42 _ (unhide A2) info_mm rfl (one_mm _ _ _ _ _ _ _ _ _ _ _) ?_)
        refine bodyPost_ret (v := .agg noMem) (results_cell rfl rfl l1) rfl ⟨_, rfl, ?_, unhide HB3⟩
        rw [fst_no HE.out]
        exact MemO.none _ _
      | true =>
        have HOT := hide hot
        clear hot
        by_cases hsz : s.size ≤ 292
        · have hsz2 : decide ((292 : Int) < (s.size : Int)) = false := by simp; omega
          have HE : Hid (fstOk (k : Int) s t) := ⟨by have := HK8.out; omega, by unfold maySet; rw [HOS.out]; simpa using hsz, HOT.out⟩
          go_wp2_with fail
          refine (sTreNew_any _).mono ?_
          rintro e w3 ⟨v3, rfl, ho3, hb3⟩
          have A3 := hide ((unhide A2).below hb3)
          have HB3 := hide (HB2.out.trans (hb3.mono HB2.out.size))
          have hs3 := hb3.size
          obtain ⟨g, c, rfl, hg1, hg2, hg3, hg4⟩ := row15 (show w3.ownsRow w2.heap.size 9 1 v3 15 (bare.map Value.string) from ho3)
          have O3 : Hid (w3.ownsRow w2.heap.size 9 1 (.slice (some ⟨g, 0, none⟩) 15 c) 15 (bare.map Value.string)) := ho3
          clear ho3 hb3 A2 HB2
          go_wp2_with fail
          refine (l3Set_any w2.heap.size g c bare rfl k HK8.out s (by omega) _ (unhide O3)).mono ?_
          rintro e w5 ⟨rfl, ho5, hg⟩
          have A5 := hide ((unhide A3).kept hg (Blk.not_row (unhide A3) (by decide) (unhide O3)))
          have HB5 : Hid (Below w.heap.size w w5) := (unhide HB3).grown hg HB3.out.size (fun z hz => by cases hz; omega)
          have O5 := hide ho5
          have hs5 := hg.size
          clear ho5 hg A3 HB3 O3
          go_wp2_with fail
          refine (sTreLeaf_any _ _).mono ?_
          rw [show leafOf (k : Int) = ((7 + k : Nat) : Int) by unfold leafOf; rw [if_pos (by have := HK8.out; omega)]; omega]
          rintro e wz ⟨rfl, rfl⟩
          go_wp2_with fail
          refine (l4Path_any (7 + k) (by have := HK8.out; omega) s (by omega) _).mono ?_
          rintro e w6 ⟨v6, rfl, ho6, hb6⟩
          obtain ⟨oo, oc, hv6⟩ := row_form' ho6
          subst hv6
          generalize hPL : (pathOf (chainOf ((7 + k : Nat) : Int)) s).length = PL at *
          have A6 := hide ((unhide A5).below hb6)
          have HB6 := hide (HB5.out.trans (hb6.mono HB5.out.size))
          have O6 := hide (own_below' (unhide O5) hb6)
          have M6 := hide ho6
          have hs6 := hb6.size
          have HPL := hide hPL
          clear ho6 hb6 A5 HB5 O5 hPL
          have l1 := load_mm ((unhide A6).set (memC true (k : Int) (.slice (some ⟨g, 0, none⟩) 15 c) (.slice oo PL oc) 0 t ⟨#[]⟩)) rfl
          have HB7 := hide (below_blk (unhide HB6) (Nat.le_refl _) (memC true (k : Int) (.slice (some ⟨g, 0, none⟩) 15 c) (.slice oo PL oc) 0 t ⟨#[]⟩))
          have O7 := hide (row_blk (unhide O6) (unhide A6) (by decide) (memC true (k : Int) (.slice (some ⟨g, 0, none⟩) 15 c) (.slice oo PL oc) 0 t ⟨#[]⟩))
          have M7 := hide (row_blk (unhide M6) (unhide A6) (by decide) (memC true (k : Int) (.slice (some ⟨g, 0, none⟩) 15 c) (.slice oo PL oc) 0 t ⟨#[]⟩))
          go_wp2_with (refine wpList_store_whole rfl 42 _ _ rfl w.heap.size (memC true (k : Int) (.slice (some ⟨g, 0, none⟩) 15 c) (.slice oo PL oc) 0 t ⟨#[]⟩) rfl rfl 42 _ (unhide A6) info_mm rfl (one_mm _ _ _ _ _ _ _ _ _ _ _) ?_)
          refine bodyPost_ret (v := .agg (memC true (k : Int) (.slice (some ⟨g, 0, none⟩) 15 c) (.slice oo PL oc) 0 t ⟨#[]⟩)) (results_cell rfl rfl l1) rfl ⟨_, rfl, ?_, unhide HB7⟩
          rw [fst_yes HE.out]
          refine ⟨_, _, rfl, ?_, ?_⟩
          · unfold Own
            rw [setKeys_len, show ((k : Int)).toNat = k from rfl]
            exact row_lowB (unhide O7) (by omega)
          · rw [show (7 + (k : Int)) = ((7 + k : Nat) : Int) by omega]
            exact row_lowB (unhide M7) (by omega)
        · have hsz2 : (292 : Int) < (s.size : Int) := by omega
          have HE : Hid (¬ fstOk (k : Int) s t) := by show ¬ _; unfold fstOk maySet; rw [HOS.out]; simp; omega
          have l1 := load_mm ((unhide A2).set noMem) rfl
          have HB3 := hide (below_blk (unhide HB2) (Nat.le_refl _) noMem)
          go_wp2_with (refine wpList_store_whole rfl 42 _ _ rfl w.heap.size noMem rfl rfl 42 _ (unhide A2) info_mm rfl (one_mm _ _ _ _ _ _ _ _ _ _ _) ?_)
          refine bodyPost_ret (v := .agg noMem) (results_cell rfl rfl l1) rfl ⟨_, rfl, ?_, unhide HB3⟩
          rw [fst_no HE.out]
          exact MemO.none _ _
  · have HE : Hid (¬ fstOk p s t) := fun q => hp q.1
    have l1 := load_mm ((unhide A0).set noMem) rfl
    have HB3 := hide (below_blk (unhide HB0) (Nat.le_refl _) noMem)
    have HP := hide hp
    clear hp
    go_enter Tryz.func30, Tryz.ntmps30
    go_wp2_with fail
    refine (l1In_no _ _ _ _ (by have := HP.out; omega)).mono ?_
    rintro e wa ⟨rfl, rfl⟩
    go_wp2_with (refine wpList_store_whole rfl 42 _ _ rfl w.heap.size noMem rfl rfl 42 _ (unhide A0) info_mm rfl (one_mm _ _ _ _ _ _ _ _ _ _ _) ?_)
    refine bodyPost_ret (v := .agg noMem) (results_cell rfl rfl l1) rfl ⟨_, rfl, ?_, unhide HB3⟩
    rw [fst_no HE.out]
    exact MemO.none _ _
end Go.Proofs.YtabpaaahobakpaaGreat
