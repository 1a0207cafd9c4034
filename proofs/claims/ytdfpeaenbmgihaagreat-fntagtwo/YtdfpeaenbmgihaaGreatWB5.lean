/-
  The tree, plain: what covers covers each once; what is set, cleared, set again; trees that stay ok. No Go function in it.
-/
import Derived.RangeFuncBox
import Derived.Test.YtdfpeaenbmgihaaGreatWB4
namespace Go.Proofs.YtdfpeaenbmgihaaGreat
set_option maxHeartbeats 64000000
set_option maxRecDepth 100000
open Kw
theorem meets_top : ∀ n, n < 7 → ∀ p, p < 15 → (meets p (2 * n + 1) = 2 * n + 1 → meets p n = n) ∧ (meets p (2 * n + 2) = 2 * n + 2 → meets p n = n) := by decide
theorem cover_has (xs : List ByteArray) : ∀ n, n < 15 → ∀ p ∈ cover xs n, p < 15 ∧ keyed xs p = true ∧ meets p n = n := by
 apply down
 · intro n h h' p hp
   cases q : keyed xs n with
   | true => rw [cover_keyed xs n q] at hp; simp at hp; subst hp; exact ⟨h', q, meets_self p h'⟩
   | false => rw [cover_bare xs n q h] at hp; simp at hp
 · intro n h i1 i2 p hp
   cases q : keyed xs n with
   | true => rw [cover_keyed xs n q] at hp; simp at hp; subst hp; exact ⟨by omega, q, meets_self p (by omega)⟩
   | false =>
    rw [cover_both xs n q h] at hp; rcases List.mem_append.1 hp with hp | hp
    · obtain ⟨a, b, c⟩ := i1 p hp; exact ⟨a, b, (meets_top n h p a).1 c⟩
    · obtain ⟨a, b, c⟩ := i2 p hp; exact ⟨a, b, (meets_top n h p a).2 c⟩
theorem getD_set (xs : List ByteArray) (p k : Nat) (y : ByteArray) : (xs.set p y).getD k ByteArray.empty = if p = k ∧ k < xs.length then y else xs.getD k ByteArray.empty := by
 rw [List.getD_eq_getElem?_getD, List.getD_eq_getElem?_getD, List.getElem?_set]; by_cases h : p = k
 · subst h; by_cases h2 : p < xs.length
   · simp [h2]
   · simp [h2]
 · simp [h]
theorem wipe_len (ps : List Nat) : ∀ xs, (wipe xs ps).length = xs.length := by
 induction ps with
 | nil => intro xs; rfl
 | cons p ps ih => intro xs; show (wipe (xs.set p ByteArray.empty) ps).length = _; rw [ih]; simp
theorem wipe_at (ps : List Nat) : ∀ xs k, (wipe xs ps).getD k ByteArray.empty = if k ∈ ps then ByteArray.empty else xs.getD k ByteArray.empty := by
 induction ps with
 | nil => intro xs k; simp [wipe]
 | cons p ps ih =>
  intro xs k; show (wipe (xs.set p ByteArray.empty) ps).getD k ByteArray.empty = _; rw [ih, getD_set]; by_cases h : k ∈ ps
  · simp [h]
  · by_cases h2 : p = k
    · subst h2; by_cases h3 : p < xs.length
      · simp [h, h3]
      · simp [h, h3]
    · have : ¬ k = p := fun e => h2 e.symm; simp [h, h2, this]
theorem fill_len (ps : List Nat) : ∀ xs s, (fill xs s ps).length = xs.length := by
 induction ps with
 | nil => intro xs s; rfl
 | cons p ps ih => intro xs s; show (fill (xs.set p (mkKey s)) (mkNext s) ps).length = _; rw [ih]; simp
theorem all_getD {xs : List ByteArray} (p : ByteArray → Bool) : xs.all p = true ↔ ∀ k, k < xs.length → p (xs.getD k ByteArray.empty) = true := by
 rw [List.all_eq_true]; constructor
 · intro h k hk; exact h _ (getD_mem hk)
 · intro h x hx; obtain ⟨k, hk, rfl⟩ := mem_getD hx; exact h k hk
theorem treOk_iff {xs : List ByteArray} : treOk xs = true ↔ xs.length = 15 ∧ ∀ k, k < xs.length → keyOk (xs.getD k ByteArray.empty) = true := by unfold treOk; rw [Bool.and_eq_true, all_getD]; simp
open Go.RowKit Kw
theorem keyOk_op (y : ByteArray) : keyOk y = (decide (y = ByteArray.empty) || decide (mOp y = 3)) := by
 unfold keyOk
 cases h : Kw.ok y with
 | true => simp
 | false =>
  (have : mOp y = 0 := by unfold mOp; rw [if_neg (by rw [h]; simp)]); rw [this]; simp
theorem treOk_short {xs : List ByteArray} (h : xs.length ≠ 15) : treOk xs = false := by unfold treOk; simp [h]
theorem treOk_bad {xs : List ByteArray} {k : Nat} (hk : k < xs.length) (h : keyOk (xs.getD k ByteArray.empty) = false) : treOk xs = false := by
 cases q : treOk xs with
 | false => rfl
 | true => rw [(treOk_iff.1 q).2 k hk] at h; cases h
theorem treOk_good {xs : List ByteArray} (hl : xs.length = 15) (h : ∀ j, j < 15 → keyOk (xs.getD j ByteArray.empty) = true) : treOk xs = true := treOk_iff.2 ⟨hl, fun k hk => h k (by omega)⟩
theorem sTreOk_any (v : Value) (xs : List ByteArray) (w : World) (h : SRow w v xs) (hx : ∀ x ∈ xs, x.size ≤ maxLen) : Calls Tryz.prog 80 #[.agg #[v]] w fun e w' => e = .returned (.bool (treOk xs)) ∧ Below w.heap.size w w' := by
 obtain ⟨ao, cap, rfl, h1, h2, _⟩ := h.form; have HX := hide hx; have hR : Hid (SRow (w.alloc (.cells #[.slice ao xs.length cap] 59)) (.slice ao xs.length cap) xs) := h.below ((Below.refl _ _).alloc (Nat.le_refl _) _); have hW : Hid (Below w.heap.size w (w.alloc (.cells #[.slice ao xs.length cap] 59))) := (Below.refl _ _).alloc (Nat.le_refl _) _; (have hbx : Hid ((w.alloc (.cells #[.slice ao xs.length cap] 59)).cell? ⟨w.heap.size, 0, none⟩ = some (.slice ao xs.length cap)) := by show _ = _; simp [go_sem]); unfold maxLen at h2; clear h hx; by_cases hl : xs.length = 15
 · rw [hl] at hR hW h1 hbx ⊢; have HL := hide hl; clear hl; go_enter Tryz.func80, Tryz.ntmps80; (go_wp2_with fail); go_loopw [3] (fun i wr => ∃ k : Nat, k ≤ 15 ∧ i = .int .i64 (k : Int) ∧ Hid (∀ j, j < k → keyOk (xs.getD j ByteArray.empty) = true) ∧ Hid (Below (w.heap.size + 1) (w.alloc (.cells #[.slice ao 15 cap] 59)) wr)) (fun i _ => 15 - (intOf i).toNat)
   case atStart => exact ⟨0, by omega, rfl, fun j hj => by omega, Below.refl _ _⟩
   case round =>
    obtain ⟨k, hk, rfl, hN, hL⟩ := hrel; have hle := hL.out.size; rw [World.size_alloc] at hle; have hb0 : wr.cell? ⟨w.heap.size, 0, none⟩ = some (.slice ao 15 cap) := (hL.out.cell (p := ⟨w.heap.size, 0, none⟩) (by simp)).trans hbx.out; by_cases hlt : k < 15
    · (have hlt2 : (k : Int) < 15 := by omega); (have i3 : IntKind.i64.wrap ((k : Int) + 1) = (k : Int) + 1 := by simp [IntKind.wrap, IntKind.bits, IntKind.signed]; omega); obtain ⟨ao', c1, q1, _, _, q2⟩ := (SRow.below hR.out (by rw [World.size_alloc]; exact unhide hL)).form; rw [HL.out] at q1 q2; simp only [Value.slice.injEq] at q1; obtain ⟨rfl, _, rfl⟩ := q1; obtain ⟨a, rfl, hck⟩ := q2 k hlt; clear q2; have hsz : Hid ((xs.getD k ByteArray.empty).size ≤ maxLen) := HX.out _ (getD_mem (by have := HL.out; omega))
      have hYes : Hid (keyOk (xs.getD k ByteArray.empty) = true → ∀ j, j < k + 1 → keyOk (xs.getD j ByteArray.empty) = true) := by
       intro ht j hj; by_cases hjk : j = k
       · subst hjk; exact ht
       · exact hN j (by omega)
      have hNo : Hid (keyOk (xs.getD k ByteArray.empty) = false → treOk xs = false) := treOk_bad (by have := HL.out; omega); have hKO := hide (keyOk_op (xs.getD k ByteArray.empty)); have hKD : Hid (keyOk (xs.getD k ByteArray.empty) = (decide (xs.getD k ByteArray.empty = ByteArray.empty) || (Kw.ok (xs.getD k ByteArray.empty) && decide (mOp (xs.getD k ByteArray.empty) = 3)))) := rfl; generalize xs.getD k ByteArray.empty = y at hck hsz hYes hNo hKO hKD; by_cases hy : y = ByteArray.empty
      · have hN1 := hide (hYes.out (by rw [hKO.out]; simp [hy])); (have hne : y.toList = [] := by rw [hy]; exact nil_text); (have hne2 : y.toList.isEmpty = true := by rw [hne]; rfl); clear hy hYes hNo hKO hKD; (go_wp2_with fail); go_roundw
        case rel => exact ⟨k + 1, by omega, by simp, hN1, hL⟩
        case measure => simp [intOf]; omega
      · have hne : ¬ y.toList = [] := no_text hy; (have hne2 : y.toList.isEmpty = false := by simpa using hne); have HY := hide hy; clear hy; (go_wp2_with fail); refine (sSecOk_any y _ hsz.out).mono ?_
        cases hd : Kw.ok y with
        | false =>
         rintro e w1 ⟨rfl, hb1⟩; have hF := hide (hNo.out (by rw [hKD.out, hd]; simpa using HY.out)); have hL1 := hide (hL.out.trans (hb1.mono hle)); clear hd hb1 hL hYes hNo hKO hKD hb0 hck; (go_wp2_with fail); go_ret; exact ⟨ret_bool' hF.out.symm, hW.out.trans (hL1.out.mono (by omega))⟩
        | true =>
         rintro e w1 ⟨rfl, hb1⟩; have HD := hide hd; have hL1 := hide (hL.out.trans (hb1.mono hle)); have hle1 := Nat.le_trans hle hb1.size; have hb2 := (hb1.cell (p := ⟨w.heap.size, 0, none⟩) (by show w.heap.size < _; omega)).trans hb0; have hck2 := (hb1.cell (cell_lt hck)).trans hck; clear hd hb1 hL hb0 hck; (go_wp2_with fail); refine (l1How_any y _ HD.out).mono ?_; rw [how_field]; rintro e w2 ⟨rfl, hb3⟩; have hL2 := hide (hL1.out.trans (hb3.mono hle1)); (have hKD2 : Hid (keyOk y = decide (mOp y = 3)) := by show _ = _; rw [hKO.out]; simp [HY.out]); clear hb3 hL1 hb2 hck2 hKO hKD; generalize mOp y = z at hKD2; have hfl := field_op; by_cases hz : z = 3
         · have hN1 := hide (hYes.out (by rw [hKD2.out]; simpa using hz)); subst hz; clear hYes hNo hKD2; (go_wp2_with fail); go_roundw
           case rel => exact ⟨k + 1, by omega, by simp, hN1, hL2⟩
           case measure => simp [intOf]; omega
         · have hF := hide (hNo.out (by rw [hKD2.out]; simpa using hz)); (have hz2 : (z != 3) = true := by simpa using hz); (have hz3 : (z == 3) = false := by simpa using hz); clear hYes hNo hKD2; (go_wp2_with fail); go_ret; exact ⟨ret_bool' hF.out.symm, hW.out.trans (hL2.out.mono (by omega))⟩
    · (have hlt2 : decide ((k : Int) < 15) = false := by simp; omega); have hF : Hid (treOk xs = true) := treOk_good HL.out (fun j hj => hN j (by omega)); (go_wp2_with fail); go_ret; exact ⟨ret_bool' hF.out.symm, hW.out.trans (hL.out.mono (by omega))⟩
 · (have hl2 : ((xs.length : Int) == 15) = false := by simp; omega); have hF : Hid (treOk xs = false) := treOk_short hl; clear hl; go_enter Tryz.func80, Tryz.ntmps80; (go_wp2_with fail); go_ret; exact ⟨ret_bool' hF.out.symm, unhide hW⟩
theorem clearOf_len (xs : List ByteArray) (k : Nat) : (clearOf xs k).length = xs.length := wipe_len _ _
theorem clear_small {xs : List ByteArray} {M : Nat} (h : ∀ x ∈ xs, x.size ≤ M) (k : Nat) : ∀ x ∈ clearOf xs k, x.size ≤ M := by
 intro x hx; obtain ⟨j, hj, rfl⟩ := mem_getD hx; unfold clearOf; rw [wipe_at]; split
 · show (0 : Nat) ≤ M; omega
 · rw [clearOf_len] at hj; exact h _ (getD_mem hj)
theorem wipe_snoc (xs : List ByteArray) (ps : List Nat) (p : Nat) : wipe xs (ps ++ [p]) = (wipe xs ps).set p ByteArray.empty := by unfold wipe; rw [List.foldl_append]; rfl
theorem row15 {B : Nat} {w : World} {v : Value} {zs : List Value} (h : w.ownsRow B 9 1 v 15 zs) : ∃ g cap, v = .slice (some ⟨g, 0, none⟩) 15 cap ∧ B ≤ g ∧ g < w.heap.size ∧ 15 ≤ cap ∧ cap ≤ maxLen := by
 have hh := h; rcases h.2 with ⟨_, q⟩ | ⟨g, cap, cur, rfl, h1, h2, h3, h4, h5, h6⟩
 · omega
 · exact ⟨g, cap, rfl, h1, (hh.lt g rfl).2, h3, h4⟩
theorem row15_set {B : Nat} {w : World} {g cap : Nat} {xs : List ByteArray} (hl : xs.length = 15) (h : w.ownsRow B 9 1 (.slice (some ⟨g, 0, none⟩) 15 cap) 15 (xs.map Value.string)) (j : Nat) (hj : j < 15) (y : ByteArray) : w.cell? ⟨g, j, none⟩ = some (.string (xs.getD j ByteArray.empty)) ∧ w.frozen? ⟨g, j, none⟩ = false ∧ (w.setCell ⟨g, j, none⟩ (.string y)).ownsRow B 9 1 (.slice (some ⟨g, 0, none⟩) 15 cap) 15 ((xs.set j y).map Value.string) ∧ w.grownBy (w.setCell ⟨g, j, none⟩ (.string y)) (some g) := by
 refine ⟨?_, h.frozenAt j, ?_⟩
 · rw [h.cellAt j (by omega), List.getElem?_map, List.getElem?_eq_getElem (by omega), List.getD_eq_getElem?_getD, List.getElem?_eq_getElem (by omega)]; rfl
 · obtain ⟨s1, s2⟩ := h.stored j (.string y); rw [List.map_set]; exact ⟨s1, s2⟩
theorem grown_drew {w w' : World} {r : Option Nat} (h : w.grownBy w' r) : w.grownBy w'.drew r := ⟨h.os, h.tape, h.output, h.size, h.block⟩
theorem grown_below0 {wr u u' : World} {r : Option Nat} (h : wr.grownBy u r) (hb : Below u.heap.size u u') : wr.grownBy u' r := ⟨hb.os.trans h.os, hb.tape.trans h.tape, hb.output.trans h.output, Nat.le_trans h.size hb.size, fun k hk hr => (hb.block k (Nat.lt_of_lt_of_le hk h.size)).trans (h.block k hk hr)⟩
def nextN (s : ByteArray) : Nat → ByteArray
  | 0 => s
  | n + 1 => mkNext (nextN s n)
theorem nextN_in (s : ByteArray) : ∀ n, nextN (mkNext s) n = nextN s (n + 1)
  | 0 => rfl
  | n + 1 => by show mkNext (nextN (mkNext s) n) = mkNext (nextN s (n + 1)); rw [nextN_in s n]
theorem fill_snoc (ps : List Nat) (p : Nat) : ∀ xs s, fill xs s (ps ++ [p]) = (fill xs s ps).set p (mkKey (nextN s ps.length)) := by
 induction ps with
 | nil => intro xs s; rfl
 | cons q ps ih =>
  intro xs s; show fill (xs.set q (mkKey s)) (mkNext s) (ps ++ [p]) = (fill (xs.set q (mkKey s)) (mkNext s) ps).set p (mkKey (nextN s (ps.length + 1))); rw [ih, nextN_in]
def maySet (s : ByteArray) : Bool := Kw.ok s && decide (s.size ≤ 292)
theorem setKeys_len (xs : List ByteArray) (k : Nat) (s : ByteArray) : (setKeys xs k s).length = xs.length := fill_len _ _ _
theorem nextN_size (s : ByteArray) (hs : s.size ≤ 300) : ∀ n, (nextN s n).size ≤ 300
  | 0 => hs
  | n + 1 => by
    show (mkNext (nextN s n)).size ≤ 300
    unfold mkNext
    split
    · unfold cap; split
      · assumption
      · show (0 : Nat) ≤ 300; omega
    · show (0 : Nat) ≤ 300; omega
open Go.RowKit
def chainOf (p : Int) : List Int := if 0 ≤ p ∧ p ≤ 14 then p :: upOf p else []
theorem upOf_nat (k : Nat) (h : k < 15) : upOf (k : Int) = (ups k).map (fun (k : Nat) => (k : Int)) := by unfold upOf; rw [if_pos (by omega)]; rfl
open Go.RowKit Go.Shelf
abbrev Mo := Int × ByteArray
def noMo : Mo := (0, ByteArray.empty)
theorem info_mo : (Tryz.prog.info? 134).map (fun i => (i.zero, i.size, i.bytes)) = some (some (.agg #[.int .i64 0, .string ⟨#[]⟩]), 2, 24) := by kernel_rfl
theorem underMo : Tryz.prog.underlying 60 = some (.slice 134) := by kernel_rfl
def MRow (w : World) (v : Value) (bs : List Mo) : Prop :=
  ∃ (ao : Option Addr) (cap : Nat), v = .slice ao bs.length cap ∧ bs.length ≤ cap ∧ cap ≤ maxLen ∧ ∀ i, i < bs.length → ∃ a, ao = some a ∧ w.cell? (a.add (i * 2)) = some (.int .i64 (bs.getD i noMo).1) ∧ w.cell? ((a.add (i * 2)).add 1) = some (.string (bs.getD i noMo).2)
theorem MRow.below {w w' : World} {v : Value} {bs : List Mo} (h : MRow w v bs) (hb : Below w.heap.size w w') : MRow w' v bs := by obtain ⟨ao, cap, h1, h2, h3, h4⟩ := h; refine ⟨ao, cap, h1, h2, h3, fun i hi => ?_⟩; obtain ⟨a, q1, q2, q3⟩ := h4 i hi; exact ⟨a, q1, (hb.cell (cell_lt q2)).trans q2, (hb.cell (cell_lt q3)).trans q3⟩
theorem add_oneM (x : Addr) : x.add 1 = ⟨x.block, x.off + 1, none⟩ := Addr.add_succ' x 0
theorem MRow.form {w : World} {v : Value} {bs : List Mo} (h : MRow w v bs) : ∃ (ao : Option Addr) (cap : Nat), v = .slice ao bs.length cap ∧ bs.length ≤ cap ∧ cap ≤ maxLen ∧ ∀ i, i < bs.length → ∃ a, ao = some a ∧ w.cell? (a.add (i * 2)) = some (.int .i64 (bs.getD i noMo).1) ∧ w.cell? ⟨(a.add (i * 2)).block, (a.add (i * 2)).off + 1, none⟩ = some (.string (bs.getD i noMo).2) := by obtain ⟨ao, cap, h1, h2, h3, h4⟩ := h; refine ⟨ao, cap, h1, h2, h3, fun i hi => ?_⟩; obtain ⟨a, q1, q2, q3⟩ := h4 i hi; exact ⟨a, q1, q2, by rw [← add_oneM]; exact q3⟩
theorem getM_mem {bs : List Mo} {k : Nat} (h : k < bs.length) : bs.getD k noMo ∈ bs := by rw [List.getD_eq_getElem?_getD, List.getElem?_eq_getElem h]; exact List.getElem_mem h
def mcells (bs : List Mo) : List Value := bs.flatMap fun b => [.int .i64 b.1, .string b.2]
theorem mcells_snoc (bs : List Mo) (b : Mo) : mcells (bs ++ [b]) = mcells bs ++ [.int .i64 b.1, .string b.2] := by simp [mcells]
theorem mcells_get : ∀ (bs : List Mo) (i : Nat), i < bs.length → (mcells bs)[i * 2]? = some (.int .i64 (bs.getD i noMo).1) ∧ (mcells bs)[i * 2 + 1]? = some (.string (bs.getD i noMo).2)
  | [], i, h => absurd h (Nat.not_lt_zero _)
  | b :: bs, 0, _ => by simp [mcells]
  | b :: bs, i + 1, h => by
    have := mcells_get bs i (by simpa using h)
    rw [show (i + 1) * 2 = i * 2 + 1 + 1 by omega]
    simpa [mcells] using this
def OwnM (B : Nat) (w : World) (v : Value) (bs : List Mo) : Prop := w.ownsRow B 134 2 v bs.length (mcells bs)
theorem OwnM.mrow {B : Nat} {w : World} {v : Value} {bs : List Mo} (h : OwnM B w v bs) : MRow w v bs := by
 rcases h.2 with ⟨h1, h2⟩ | ⟨g, cap, cur, h1, h2, h3, h4, h5, _⟩
 · exact ⟨none, 0, by rw [h1, h2], by omega, by omega, fun i hi => by omega⟩
 · refine ⟨some ⟨g, 0, none⟩, cap, h1, h4, h5, fun i hi => ?_⟩; have hc := World.ownsRow.cells h (g := g) (by rw [h1]; rfl); obtain ⟨p1, p2⟩ := mcells_get bs i hi; refine ⟨_, rfl, hc _ _ p1, ?_⟩; rw [Addr.add_lit, Addr.add_lit, Nat.zero_add]; have := hc _ _ p2; rw [Addr.add_lit, Nat.zero_add] at this; exact this
theorem row_apart {w : World} {B B' : Nat} {e e' : TypeId} {size size' : Nat} {v v' : Value} {n n' : Nat} {xs xs' : List Value} (h : w.ownsRow B e size v n xs) (k : w.ownsRow B' e' size' v' n' xs') (hne : e ≠ e') : v.ownBlock = none ∨ v.ownBlock ≠ v'.ownBlock := by
 rcases h.2 with ⟨rfl, _⟩ | ⟨g, cap, cur, rfl, _, hgb, _⟩
 · exact .inl rfl
 · rcases k.2 with ⟨rfl, _⟩ | ⟨g', cap', cur', rfl, _, hgb', _⟩
   · exact .inr (by simp [Value.ownBlock])
   · refine .inr (fun q => ?_); (obtain rfl : g = g' := by simpa [Value.ownBlock] using q); have := hgb.symm.trans hgb'; simp at this; exact hne this.2
def pathOf : List Int → ByteArray → List Mo
  | [], _ => []
  | p :: ps, s => (p, s) :: pathOf ps (mkNext s)
theorem pathOf_len : ∀ (ps : List Int) (s : ByteArray), (pathOf ps s).length = ps.length
  | [], _ => rfl
  | _ :: ps, s => by simp [pathOf, pathOf_len ps]
theorem pathOf_snoc : ∀ (ps : List Int) (x : Int) (s : ByteArray), pathOf (ps ++ [x]) s = pathOf ps s ++ [(x, nextN s ps.length)]
  | [], _, _ => rfl
  | p :: ps, x, s => by
    show (p, s) :: pathOf (ps ++ [x]) (mkNext s) = (p, s) :: (pathOf ps (mkNext s) ++ _)
    rw [pathOf_snoc ps, nextN_in]
    rfl
theorem sTreLeaf_any (who : Int) (w : World) : Calls Tryz.prog 45 #[.int .i64 who] w fun e w' => e = .returned (.int .i64 (leafOf who)) ∧ w' = w := by
 by_cases h : 0 ≤ who ∧ who ≤ 7
 · obtain ⟨h1, h2⟩ := h; (have hl : leafOf who = 7 + who := by unfold leafOf; rw [if_pos ⟨h1, h2⟩]); rw [hl]; have HH := hide hl; clear hl; (have i3 : IntKind.i64.wrap (7 + who) = 7 + who := by simp [IntKind.wrap, IntKind.bits, IntKind.signed]; omega); go_enter Tryz.func45, Tryz.ntmps45; (go_wp2_with fail); refine (l1In_yes _ _ _ _ (by omega) (by omega)).mono ?_; rintro e w1 ⟨rfl, rfl⟩; (go_wp2_with fail); go_ret; exact ⟨rfl, rfl⟩
 · (have hl : leafOf who = -1 := by unfold leafOf; rw [if_neg h]); rw [hl]; have HH := hide h; clear hl h; go_enter Tryz.func45, Tryz.ntmps45; (go_wp2_with fail); refine (l1In_no _ _ _ _ (by have := HH.out; omega)).mono ?_; rintro e w1 ⟨rfl, rfl⟩; (go_wp2_with fail); go_ret; exact ⟨rfl, rfl⟩
theorem half_wrap (x : Nat) (h0 : 0 < x) (h : x < 15) : IntKind.i64.wrap ((x : Int) - 1) = (x : Int) - 1 ∧ IntKind.i64.wrap (((x : Int) - 1).tdiv 2) = (((x - 1) / 2 : Nat) : Int) := by
 constructor
 · simp [IntKind.wrap, IntKind.bits, IntKind.signed]; omega
 · rw [show ((x : Int) - 1) = ((x - 1 : Nat) : Int) by omega, Int.tdiv_eq_ediv_of_nonneg (by omega)]; (have : ((x - 1 : Nat) : Int) / 2 = (((x - 1) / 2 : Nat) : Int) := by omega); rw [this]; simp [IntKind.wrap, IntKind.bits, IntKind.signed]; omega
theorem sTreUp_any (n : Int) (w : World) : Calls Tryz.prog 60 #[.int .i64 n] w fun e w' => ∃ v, e = .returned v ∧ OwnI w.heap.size w' v (upOf n) ∧ Below w.heap.size w w' := by
 obtain ⟨i0, hi, hz0, hz1, hz2⟩ := info_parts info_int2; have hI := hide (And.intro hi (And.intro hz0 (And.intro hz1 hz2))); clear hi hz0 hz1 hz2; (have hO0 : Hid (OwnI w.heap.size (w.alloc (Obj.cells #[] 3)) (.slice (some ⟨w.heap.size, 0, none⟩) 0 0) []) := by have h := World.ownsRow_lit (base := w.heap.size) (e := 3) (size := 1) w #[] 0 (Nat.le_refl _) (by unfold maxLen; omega) rfl; exact h); have hL0 := hide ((Below.refl w.heap.size w).alloc (Nat.le_refl _) (Obj.cells #[] 3)); by_cases h : 0 ≤ n ∧ n ≤ 14
 · obtain ⟨x, rfl⟩ : ∃ k : Nat, n = (k : Int) := ⟨n.toNat, by omega⟩; (have hx : x < 15 := by omega); (have hl : Hid (upOf (x : Int) = (ups x).map (fun (k : Nat) => (k : Int))) := by show upOf (x : Int) = _; unfold upOf; rw [if_pos h]; rfl); clear h; go_enter Tryz.func60, Tryz.ntmps60; (go_wp2_with fail); refine (l1In_yes _ _ _ _ (by omega) (by omega)).mono ?_; rintro e w1 ⟨rfl, rfl⟩; (go_wp2_with fail); go_loopw [3, 4] (fun o i wr => ∃ (k : Nat) (out : List Int), k < 15 ∧ i = .int .i64 (k : Int) ∧ Hid (OwnI w.heap.size wr o out) ∧ Hid (Below w.heap.size w wr) ∧ Hid (out ++ (ups k).map (fun (k : Nat) => (k : Int)) = (ups x).map (fun (k : Nat) => (k : Int)))) (fun _ i _ => (intOf i).toNat)
   case atStart => exact ⟨x, [], hx, rfl, hO0, hL0, rfl⟩
   case round =>
    clear hO0 hL0; obtain ⟨k, out, hk, rfl, hO, hL, hU⟩ := hrel; have hle := hL.out.size; (have hol : out.length ≤ 3 := by have q := congrArg List.length hU.out; rw [List.length_append, List.length_map, List.length_map] at q; have := ups_len x hx; omega); by_cases h0 : 0 < k
    · (have h02 : (0 : Int) < (k : Int) := by omega); obtain ⟨i1, i2⟩ := half_wrap k h0 hk; have hs := hide (ups_step k hk h0); (have hp : (k - 1) / 2 < 15 := by omega); (have hpk : (k - 1) / 2 < k := by omega); generalize (k - 1) / 2 = p at i2 hs hp hpk; go_wp2_with (at_builtin; refine wpList_append_own _ rfl _ _ 34 rfl w.heap.size 3 i0 (.int .i64 0) 1 8 Tryz.underlying34 hI.out.1 hI.out.2.1 hI.out.2.2.1 hI.out.2.2.2 rfl (by decide) _ _ _ rfl (hO.out.alloc _) ⟨wr.heap.size, 0, none⟩ 1 1 [.int .i64 (p : Int)] rfl rfl ?c1 ?c2 ?c3 ?c4 ?c5 ?_)
      case c1 =>
       intro j u hj
       match j, hj with
       | 0, hj => simp at hj; subst hj; simp [Addr.add]
      case c2 => intro u hu; simp at hu; subst hu; rfl
      case c3 => unfold maxLen; omega
      case c4 => omega
      case c5 => simp; omega
      intro v' w7 hown' hgrow _; have R := OwnI.grow hO.out hL.out (Nat.le_refl _) hown' hgrow; have R1 := hide R.1; have R2 := hide R.2; (have R3 : Hid ((out ++ [(p : Int)]) ++ (ups p).map (fun (k : Nat) => (k : Int)) = (ups x).map (fun (k : Nat) => (k : Int))) := by show (out ++ [(p : Int)]) ++ _ = _; rw [← hU.out, hs.out, List.map_cons, List.append_assoc]; rfl); clear R hown' hgrow hO hL hU; (go_wp2_with fail); go_roundw
      case rel => exact ⟨p, out ++ [(p : Int)], hp, rfl, R1, R2, R3⟩
      case measure => simp [intOf]; omega
    · (have h02 : decide ((0 : Int) < (k : Int)) = false := by simp; omega); (have hk0 : k = 0 := by omega); subst hk0; (have hU2 : Hid (out = upOf (x : Int)) := by show out = _; have q := hU.out; rw [ups_zero, List.map_nil, List.append_nil] at q; rw [hl.out]; exact q); clear hU h0 hk; (go_wp2_with fail); go_ret; exact ⟨_, rfl, by rw [← hU2.out]; exact unhide hO, unhide hL⟩
 · (have hl : Hid (upOf n = []) := by show upOf n = []; unfold upOf; rw [if_neg h]); have HH := hide h; clear h; go_enter Tryz.func60, Tryz.ntmps60; (go_wp2_with fail); refine (l1In_no _ _ _ _ (by have := HH.out; omega)).mono ?_; rintro e w1 ⟨rfl, rfl⟩; (go_wp2_with fail); go_ret; exact ⟨_, rfl, by rw [hl.out]; exact unhide hO0, unhide hL0⟩
theorem sMakNext_any (s : ByteArray) (w : World) (hm : s.size ≤ maxLen) : Calls Tryz.prog 61 #[.string s] w fun e w' => e = .returned (.string (mkNext s)) ∧ Below w.heap.size w w' := by
 have M := hide hm; clear hm
 cases hk : Kw.ok s with
 | false =>
  rw [show mkNext s = ⟨#[]⟩ by unfold mkNext; rw [if_neg (by rw [hk]; simp)]]; have K := hide hk; clear hk; go_enter Tryz.func61, Tryz.ntmps61; (go_wp2_with fail); refine (sSecOk_any s _ M.out).mono ?_; rw [K.out]; rintro e w1 ⟨rfl, hb1⟩; (go_wp2_with fail); go_ret; exact ⟨rfl, hb1⟩
 | true =>
  have hz := next_size s; have hs := (ok_facts hk).1; rw [show mkNext s = only (nextT s) by unfold mkNext; rw [if_pos hk, only_cap (by omega) (len_next hk)]]; (have M2 : Hid ((nextT s).size ≤ maxLen) := by show _ ≤ maxLen; unfold maxLen; omega); have K := hide hk; clear hk hz; go_enter Tryz.func61, Tryz.ntmps61; (go_wp2_with fail); refine (sSecOk_any s _ M.out).mono ?_; rw [K.out]; rintro e w1 ⟨rfl, hb1⟩; (go_wp2_with fail); refine (l1Ok_any (nextT s) _ M2.out).mono ?_; rintro e w2 ⟨rfl, hb2⟩; (go_wp2_with fail); go_ret; exact ⟨rfl, hb1.trans (hb2.mono hb1.size)⟩
theorem sMakKey_any (s : ByteArray) (w : World) (hm : s.size ≤ maxLen) : Calls Tryz.prog 48 #[.string s] w fun e w' => e = .returned (.string (mkKey s)) ∧ Below w.heap.size w w' := by
 have M := hide hm; clear hm
 cases hk : Kw.ok s with
 | false =>
  rw [show mkKey s = ⟨#[]⟩ by unfold mkKey; rw [if_neg (by rw [hk]; simp)]]; have K := hide hk; clear hk; go_enter Tryz.func48, Tryz.ntmps48; (go_wp2_with fail); refine (sSecOk_any s _ M.out).mono ?_; rw [K.out]; rintro e w1 ⟨rfl, hb1⟩; (go_wp2_with fail); go_ret; exact ⟨rfl, hb1⟩
 | true =>
  have hz := key_size s; have hs := (ok_facts hk).1; rw [show mkKey s = only (keyT s) by unfold mkKey; rw [if_pos hk, only_cap (by omega) (len_key hk)]]; (have M2 : Hid ((keyT s).size ≤ maxLen) := by show _ ≤ maxLen; unfold maxLen; omega); have K := hide hk; clear hk hz; go_enter Tryz.func48, Tryz.ntmps48; (go_wp2_with fail); refine (sSecOk_any s _ M.out).mono ?_; rw [K.out]; rintro e w1 ⟨rfl, hb1⟩; (go_wp2_with fail); refine (l1Ok_any (keyT s) _ M2.out).mono ?_; rintro e w2 ⟨rfl, hb2⟩; (go_wp2_with fail); go_ret; exact ⟨rfl, hb1.trans (hb2.mono hb1.size)⟩
theorem sMakEpoch_any (a b : ByteArray) (w : World) (hm : a.size ≤ maxLen) (hn : b.size ≤ maxLen) : Calls Tryz.prog 85 #[.string a, .string b] w fun e w' => e = .returned (.string (mkEpoch a b)) ∧ Below w.heap.size w w' := by
 have M := hide hm; have N := hide hn; clear hm hn
 cases hk : Kw.ok a with
 | false =>
  rw [show mkEpoch a b = ⟨#[]⟩ by unfold mkEpoch; rw [if_neg (by rw [hk]; simp)]]; have K := hide hk; clear hk; go_enter Tryz.func85, Tryz.ntmps85; (go_wp2_with fail); refine (sSecOk_any a _ M.out).mono ?_; rw [K.out]; rintro e w1 ⟨rfl, hb1⟩; (go_wp2_with fail); go_ret; exact ⟨rfl, hb1⟩
 | true =>
  cases hj : Kw.ok b with
  | false =>
   rw [show mkEpoch a b = ⟨#[]⟩ by unfold mkEpoch; rw [if_neg (by rw [hj]; simp)]]; have K := hide hk; have J := hide hj; clear hk hj; go_enter Tryz.func85, Tryz.ntmps85; (go_wp2_with fail); refine (sSecOk_any a _ M.out).mono ?_; rw [K.out]; rintro e w1 ⟨rfl, hb1⟩; (go_wp2_with fail); refine (sSecOk_any b _ N.out).mono ?_; rw [J.out]; rintro e w2 ⟨rfl, hb2⟩; (go_wp2_with fail); go_ret; exact ⟨rfl, hb1.trans (hb2.mono hb1.size)⟩
  | true =>
   have ha := (ok_facts hk).1; have hb := (ok_facts hj).1; have hz := epoch_size a b; rw [show mkEpoch a b = only (epochT a b) by unfold mkEpoch; rw [if_pos ⟨hk, hj⟩, only_cap (by omega) (len_epoch hk hj)]]; (have M2 : Hid ((epochT a b).size ≤ maxLen) := by show _ ≤ maxLen; unfold maxLen; omega); have K := hide hk; have J := hide hj; clear hk hj hz; go_enter Tryz.func85, Tryz.ntmps85; (go_wp2_with fail); refine (sSecOk_any a _ M.out).mono ?_; rw [K.out]; rintro e w1 ⟨rfl, hb1⟩; (go_wp2_with fail); refine (sSecOk_any b _ N.out).mono ?_; rw [J.out]; rintro e w2 ⟨rfl, hb2⟩; (go_wp2_with fail); refine (l1Ok_any (epochT a b) _ M2.out).mono ?_; rintro e w3 ⟨rfl, hb3⟩; (go_wp2_with fail); go_ret; have hb12 := hb1.trans (hb2.mono hb1.size); exact ⟨rfl, hb12.trans (hb3.mono hb12.size)⟩
theorem two_new (w : World) (x y : Value) (t : TypeId) : ∀ j u, [x, y][j]? = some u → (w.alloc (.cells #[x, y] t)).cell? (Addr.add ⟨w.heap.size, 0, none⟩ j) = some u := by
 intro j u hj
 match j, hj with
 | 0, hj => simp at hj; subst hj; simp [Addr.add, go_sem]
 | 1, hj => simp at hj; subst hj; simp [Addr.add, go_sem]
theorem l4Path_any (n : Nat) (hn : n < 15) (s : ByteArray) (hss : s.size ≤ 300) (w : World) : Calls Tryz.prog 44 #[.int .i64 (n : Int), .string s] w fun e w' => ∃ v, e = .returned v ∧ OwnM w.heap.size w' v (pathOf (chainOf (n : Int)) s) ∧ Below w.heap.size w w' := by
 obtain ⟨i0, hi, hz0, hz1, hz2⟩ := info_parts info_mo; have hI := hide (And.intro hi (And.intro hz0 (And.intro hz1 hz2))); clear hi hz0 hz1 hz2; (have HCH : Hid (chainOf (n : Int) = (n : Int) :: upOf (n : Int)) := by show _ = _; unfold chainOf; rw [if_pos (by omega)]); (have HUL : Hid ((upOf (n : Int)).length ≤ 4) := by show _ ≤ _; rw [upOf_nat n hn, List.length_map]; have := ups_len n hn; omega); have hO0 : Hid (OwnM w.heap.size (w.alloc (.cells #[.int .i64 (n : Int), .string s] 134)) (.slice (some ⟨w.heap.size, 0, none⟩) 1 1) (pathOf ((n : Int) :: (upOf (n : Int)).take 0) s)) := World.ownsRow_lit (base := w.heap.size) (e := 134) (size := 2) w #[.int .i64 (n : Int), .string s] 1 (Nat.le_refl _) (by unfold maxLen; omega) rfl; have hB0 : Hid (Below w.heap.size w (w.alloc (.cells #[.int .i64 (n : Int), .string s] 134))) := (Below.refl _ _).alloc (Nat.le_refl _) _; go_enter Tryz.func44, Tryz.ntmps44; (go_wp2_with fail); refine (sTreUp_any _ _).mono ?_; rintro e w2 ⟨u2, rfl, ho2, hb2⟩; generalize upOf (n : Int) = N at *; have U2 := hide ho2; have O2 : Hid (OwnM w.heap.size w2 _ _) := own_below' hO0.out hb2; have HB2 := hide (hB0.out.trans (hb2.mono hB0.out.size)); obtain ⟨uo, uc, rfl⟩ := row_form' ho2; generalize (w.alloc (.cells #[.int .i64 (n : Int), .string s] 134)).heap.size = Bu at U2; clear ho2 hb2 hO0 hB0; (go_wp2_with fail); go_loopw [1, 5, 7] (fun sv o i wr => ∃ j : Nat, j ≤ N.length ∧ i = .int .i64 (j : Int) ∧ sv = .string (nextN s j) ∧ (∃ oo oc, o = .slice oo (j + 1) oc) ∧ Hid (OwnM w.heap.size wr o (pathOf ((n : Int) :: N.take j) s)) ∧ Hid (OwnI Bu wr (.slice uo N.length uc) N) ∧ Hid (Below w.heap.size w wr)) (fun _ _ i _ => N.length - (intOf i).toNat)
 case atStart => exact ⟨0, by omega, rfl, rfl, ⟨_, _, rfl⟩, O2, U2, HB2⟩
 case round =>
  clear O2 U2 HB2; obtain ⟨j, hj, rfl, rfl, ⟨oo, oc, rfl⟩, hO, hU, hB⟩ := hrel; by_cases hlt : j < N.length
  · (have hlt2 : (j : Int) < (N.length : Int) := by omega); (have i3 : IntKind.i64.wrap ((j : Int) + 1) = (j : Int) + 1 := by have := HUL.out; simp [IntKind.wrap, IntKind.bits, IntKind.signed]; omega); have hns := nextN_size s hss j; have HNX : Hid (nextN s (j + 1) = mkNext (nextN s j)) := rfl; (have HTK : Hid (pathOf ((n : Int) :: N.take (j + 1)) s = pathOf ((n : Int) :: N.take j) s ++ [(N.getD j 0, nextN s (j + 1))]) := by show _ = _; rw [List.take_succ_eq_append_getElem hlt, ← List.cons_append, pathOf_snoc, List.getD_eq_getElem?_getD, List.getElem?_eq_getElem hlt]; simp [Nat.min_eq_left (Nat.le_of_lt hlt)]); (have HPL : Hid ((pathOf ((n : Int) :: N.take j) s).length = j + 1) := by show _ = _; rw [pathOf_len]; simp [Nat.min_eq_left (Nat.le_of_lt hlt)]); generalize pathOf ((n : Int) :: N.take j) s = P at *; generalize hsc : nextN s j = sc at *; (go_wp2_with fail); refine (sMakNext_any sc _ (le_maxLen (by omega))).mono ?_; rw [← HNX.out]; rintro e wn ⟨rfl, hbn⟩; have hUn := hide (own_below' hU.out hbn); have hO1 : wn.ownsRow w.heap.size 134 2 (.slice oo (j + 1) oc) P.length (mcells P) := own_below' hO.out hbn; rw [HPL.out] at hO1; have hOn := hide hO1; have hBn := hide (hB.out.trans (hbn.mono hB.out.size)); have hsz := hBn.out.size; clear hbn hO hU hB hO1 HNX hsc; obtain ⟨q0, q1, q2, _, _, q5⟩ := (OwnI.irow hUn.out).form; simp only [Value.slice.injEq] at q2; obtain ⟨rfl, _, rfl⟩ := q2; obtain ⟨ad, rfl, hck⟩ := q5 j hlt; clear q5; have HUL2 := HUL.out; generalize N.getD j 0 = x at *; generalize hsn : nextN s (j + 1) = sn at *; have HSN := hide hsn; clear hsn; (go_wp2_with (at_builtin; refine wpList_append_own _ rfl _ _ 60 rfl w.heap.size 134 i0 (.agg #[.int .i64 0, .string ⟨#[]⟩]) 2 24 underMo hI.out.1 hI.out.2.1 hI.out.2.2.1 hI.out.2.2.2 rfl (by decide) _ _ _ rfl (World.ownsRow.alloc hOn.out _) ⟨wn.heap.size, 0, none⟩ 1 1 [.int .i64 x, .string sn] rfl rfl (two_new _ _ _ _) (by intro u hu; simp at hu; rcases hu with rfl | rfl <;> rfl) (by unfold maxLen; omega) (by omega) (by simp; omega) ?_)); intro v' w3 hown' hgrow _; have hU3 : Hid (OwnI Bu w3 (.slice (some ad) N.length uc) N) := World.ownsRow.kept (World.ownsRow.alloc hUn.out (.cells #[.int .i64 x, .string sn] 134)) hgrow (row_apart (World.ownsRow.alloc hUn.out (.cells #[.int .i64 x, .string sn] 134)) (World.ownsRow.alloc hOn.out (.cells #[.int .i64 x, .string sn] 134)) (by decide)); have hB3 : Hid (Below w.heap.size w w3) := (hBn.out.alloc hsz _).grown hgrow (by simp; omega) (fun k hk => (World.ownsRow.lt hOn.out k hk).1); (have hO3 : Hid (OwnM w.heap.size w3 v' (P ++ [(x, sn)])) := by show OwnM _ _ _ _; unfold OwnM; rw [List.length_append, HPL.out, mcells_snoc]; exact hown'); obtain ⟨vo, vc, rfl⟩ := row_form' hown'; clear hown' hgrow hOn hUn hBn; (go_wp2_with fail); go_roundw
    case rel => exact ⟨j + 1, by omega, by simp, by rw [HSN.out], ⟨_, _, rfl⟩, by rw [HTK.out]; exact unhide hO3, hU3, hB3⟩
    case measure => simp [intOf]; omega
  · (have hlt2 : decide ((j : Int) < (N.length : Int)) = false := by simp; omega); (have hjn : j = N.length := by omega); subst hjn; (go_wp2_with fail); go_ret; refine ⟨_, rfl, ?_, unhide hB⟩; have q := unhide hO; rw [List.take_length, ← HCH.out] at q; exact q
theorem sTreSide_any (n : Int) (w : World) : Calls Tryz.prog 99 #[.int .i64 n] w fun e w' => e = .returned (.int .i64 (sideOf n)) ∧ w' = w := by
 by_cases h : 1 ≤ n ∧ n ≤ 14
 · have hh := hide h; by_cases ho : n % 2 = 1
   · (have hl : sideOf n = n + 1 := by unfold sideOf; rw [if_pos h, if_pos ho]); rw [hl]; (have i1 : IntKind.i64.wrap (n + 1) = n + 1 := by simp [IntKind.wrap, IntKind.bits, IntKind.signed]; omega); (have i2 : IntKind.i64.wrap (n.tmod 2) = 1 := by rw [Int.tmod_eq_emod_of_nonneg (by omega), ho]; rfl); (have i3 : n.tmod 2 = 1 := by rw [Int.tmod_eq_emod_of_nonneg (by omega), ho]); clear hl h ho; go_enter Tryz.func99, Tryz.ntmps99; (go_wp2_with fail); refine (l1In_yes _ _ _ _ (hh.out.1) (hh.out.2)).mono ?_; rintro e w1 ⟨rfl, rfl⟩; (go_wp2_with fail); go_ret; exact ⟨rfl, rfl⟩
   · (have hl : sideOf n = n - 1 := by unfold sideOf; rw [if_pos h, if_neg ho]); rw [hl]; (have i1 : IntKind.i64.wrap (n - 1) = n - 1 := by simp [IntKind.wrap, IntKind.bits, IntKind.signed]; omega); (have i2 : IntKind.i64.wrap (n.tmod 2) = 0 := by rw [Int.tmod_eq_emod_of_nonneg (by omega), show n % 2 = 0 by omega]; rfl); (have i3 : n.tmod 2 = 0 := by rw [Int.tmod_eq_emod_of_nonneg (by omega)]; omega); clear hl h ho; go_enter Tryz.func99, Tryz.ntmps99; (go_wp2_with fail); refine (l1In_yes _ _ _ _ (hh.out.1) (hh.out.2)).mono ?_; rintro e w1 ⟨rfl, rfl⟩; (go_wp2_with fail); go_ret; exact ⟨rfl, rfl⟩
 · (have hl : sideOf n = -1 := by unfold sideOf; rw [if_neg h]); rw [hl]; have hh := hide h; clear hl h; go_enter Tryz.func99, Tryz.ntmps99; (go_wp2_with fail); refine (l1In_no _ _ _ _ (by have := hh.out; omega)).mono ?_; rintro e w1 ⟨rfl, rfl⟩; (go_wp2_with fail); go_ret; exact ⟨rfl, rfl⟩
theorem sTreMeet_any (a b : Int) (w : World) : Calls Tryz.prog 72 #[.int .i64 a, .int .i64 b] w fun e w' => e = .returned (.int .i64 (meetOf a b)) ∧ w' = w := by
 by_cases h : (0 ≤ a ∧ a ≤ 14) ∧ 0 ≤ b ∧ b ≤ 14
 · obtain ⟨x, rfl⟩ : ∃ k : Nat, a = (k : Int) := ⟨a.toNat, by omega⟩; obtain ⟨y, rfl⟩ : ∃ k : Nat, b = (k : Int) := ⟨b.toNat, by omega⟩; (have hx : x < 15 := by omega); (have hy : y < 15 := by omega); (have hl : meetOf (x : Int) (y : Int) = (meets x y : Int) := by unfold meetOf; rw [if_pos h]; rfl); rw [hl]; clear hl h; go_enter Tryz.func72, Tryz.ntmps72; (go_wp2_with fail); refine (l1In_yes _ _ _ _ (by omega) (by omega)).mono ?_; rintro e w1 ⟨rfl, rfl⟩; (go_wp2_with fail); refine (l1In_yes _ _ _ _ (by omega) (by omega)).mono ?_; rintro e w1 ⟨rfl, rfl⟩; (go_wp2_with fail); go_loopw [0, 1] (fun i j wr => ∃ a b : Nat, a < 15 ∧ b < 15 ∧ i = .int .i64 (a : Int) ∧ j = .int .i64 (b : Int) ∧ Hid (meets a b = meets x y) ∧ wr = w1) (fun i j _ => (intOf i).toNat + (intOf j).toNat)
   case atStart => exact ⟨x, y, hx, hy, rfl, rfl, rfl, rfl⟩
   case round =>
    obtain ⟨a, b, ha, hb, rfl, rfl, hm, rfl⟩ := hrel; clear hx hy; by_cases hab : a = b
    · subst hab; (have e : Hid (meets x y = a) := by show meets x y = a; rw [← hm.out, meets_self a ha]); (have e2 : ((a : Int) != (a : Int)) = false := by simp); (go_wp2_with fail); go_ret; exact ⟨by rw [e.out]; rfl, rfl⟩
    · (have hne : ((a : Int) != (b : Int)) = true := by simp; omega); (have hne2 : ¬ ((a : Int) = (b : Int)) := by omega); (have hne3 : (!decide ((a : Int) = (b : Int))) = true := by simp; omega); by_cases hlt : b < a
      · (have h1 : (b : Int) < (a : Int) := by omega); obtain ⟨i1, i2⟩ := half_wrap a (by omega) ha; (have hs : Hid (meets ((a - 1) / 2) b = meets x y) := by show _ = _; rw [← hm.out, meets_left a ha b hb hlt]); (have hp : (a - 1) / 2 < 15 := by omega); (have hpk : (a - 1) / 2 < a := by omega); generalize (a - 1) / 2 = q at i2 hs hp hpk; (go_wp2_with fail); go_roundw
        case rel => exact ⟨q, b, hp, hb, rfl, rfl, hs, trivial⟩
        case measure => simp [intOf]; omega
      · (have h1 : decide ((b : Int) < (a : Int)) = false := by simp; omega); obtain ⟨i1, i2⟩ := half_wrap b (by omega) hb; (have hs : Hid (meets a ((b - 1) / 2) = meets x y) := by show _ = _; rw [← hm.out, meets_right a ha b hb (by omega)]); (have hp : (b - 1) / 2 < 15 := by omega); (have hpk : (b - 1) / 2 < b := by omega); generalize (b - 1) / 2 = q at i2 hs hp hpk; (go_wp2_with fail); go_roundw
        case rel => exact ⟨a, q, ha, hp, rfl, rfl, hs, trivial⟩
        case measure => simp [intOf]; omega
 · (have hl : meetOf a b = -1 := by unfold meetOf; rw [if_neg h]); rw [hl]; have hh := hide h; clear hl h; by_cases ha : 0 ≤ a ∧ a ≤ 14
   · go_enter Tryz.func72, Tryz.ntmps72; (go_wp2_with fail); refine (l1In_yes _ _ _ _ (by omega) (by omega)).mono ?_; rintro e w1 ⟨rfl, rfl⟩; (go_wp2_with fail); refine (l1In_no _ _ _ _ (by have := hh.out; omega)).mono ?_; rintro e w1 ⟨rfl, rfl⟩; (go_wp2_with fail); go_ret; exact ⟨rfl, rfl⟩
   · go_enter Tryz.func72, Tryz.ntmps72; (go_wp2_with fail); refine (l1In_no _ _ _ _ (by have := hh.out; omega)).mono ?_; rintro e w1 ⟨rfl, rfl⟩; (go_wp2_with fail); go_ret; exact ⟨rfl, rfl⟩
theorem four {p : Addr → Prop} {a b c d : Addr} (h1 : p a) (h2 : p b) (h3 : p c) (h4 : p d) : ∀ x ∈ [a, b, c, d], p x := by intro x hx; simp only [List.mem_cons, List.not_mem_nil, or_false] at hx; rcases hx with rfl | rfl | rfl | rfl <;> assumption
def takesBox (add : Int) (c : Int) : Bool := decide (add < 0) || (c != leafOf add)
def boxesAt (xs : List ByteArray) (s : ByteArray) (add : Int) (cs : List Int) : List Bx := (cs.filter (takesBox add)).map fun c => (xs.getD c.toNat ByteArray.empty, s)
def boxRow (xs : List ByteArray) (own : List Mo) (add : Int) (k : Nat) : List Bx := boxesAt xs (own.getD (k + 1) noMo).2 add (ints (cover xs (sideOf (own.getD k noMo).1).toNat))
def boxesTo (xs : List ByteArray) (own : List Mo) (add : Int) : Nat → List Bx
 | 0 => []
 | k + 1 => boxesTo xs own add k ++ boxRow xs own add k
theorem boxesAt_snoc (xs : List ByteArray) (s : ByteArray) (add : Int) (cs : List Int) (j : Nat) (h : j < cs.length) : boxesAt xs s add (cs.take (j + 1)) = boxesAt xs s add (cs.take j) ++ (if takesBox add (cs.getD j 0) = true then [(xs.getD (cs.getD j 0).toNat ByteArray.empty, s)] else []) := by unfold boxesAt; rw [List.take_succ_eq_append_getElem h, List.filter_append, List.map_append, List.getD_eq_getElem?_getD, List.getElem?_eq_getElem h]; congr 1; simp only [Option.getD_some, List.filter_cons, List.filter_nil]; split <;> rfl
theorem boxesAt_le (xs : List ByteArray) (s : ByteArray) (add : Int) (cs : List Int) : (boxesAt xs s add cs).length ≤ cs.length := by unfold boxesAt; rw [List.length_map]; exact List.length_filter_le _ _
theorem side_nat {n : Int} (h : 1 ≤ n ∧ n ≤ 14) : ∃ m : Nat, sideOf n = (m : Int) ∧ m < 15 := by refine ⟨(sideOf n).toNat, ?_, ?_⟩ <;> unfold sideOf <;> rw [if_pos h] <;> split <;> omega
theorem boxesTo_le (xs : List ByteArray) (own : List Mo) (add : Int) : ∀ k : Nat, (∀ j, j < k → 1 ≤ (own.getD j noMo).1 ∧ (own.getD j noMo).1 ≤ 14) → (boxesTo xs own add k).length ≤ 8 * k
 | 0, _ => Nat.le_refl _
 | k + 1, h => by
  unfold boxesTo; rw [List.length_append]; have h1 := boxesTo_le xs own add k (fun j hj => h j (by omega)); obtain ⟨m, e, hm⟩ := side_nat (h k (by omega))
  have h2 : (boxRow xs own add k).length ≤ 8 := by
   unfold boxRow; refine Nat.le_trans (boxesAt_le _ _ _ _) ?_; rw [ints_len, e]; exact (cover_le xs m hm).1
  omega
theorem ints_at {xs : List ByteArray} {n j : Nat} (hn : n < 15) (h : j < (ints (cover xs n)).length) : ∃ c : Nat, (ints (cover xs n)).getD j 0 = (c : Int) ∧ c < 15 := by unfold ints at h ⊢; rw [List.length_map] at h; refine ⟨(cover xs n)[j], ?_, (cover_has xs n hn _ (List.getElem_mem h)).1⟩; rw [List.getD_eq_getElem?_getD, List.getElem?_map, List.getElem?_eq_getElem h]; rfl
theorem l4Boxes_any (xs : List ByteArray) (hl : xs.length = 15) (own : List Mo) (hlo : own.length ≤ 15) (hn : ∀ k, k + 1 < own.length → 1 ≤ (own.getD k noMo).1 ∧ (own.getD k noMo).1 ≤ 14) (add : Int) (v ov : Value) (w : World) (h : SRow w v xs) (hm : MRow w ov own) : Calls Tryz.prog 86 #[.agg #[v], ov, .int .i64 add] w fun e w' => ∃ u, e = .returned u ∧ OwnB w.heap.size w' u (boxesTo xs own add (own.length - 1)) ∧ Below w.heap.size w w' := by
 obtain ⟨i0, hi, hz0, hz1, hz2⟩ := info_parts info_bx; have hI := hide (And.intro hi (And.intro hz0 (And.intro hz1 hz2))); clear hi hz0 hz1 hz2; have hR := hide h; obtain ⟨ao, cap, rfl, h1, h2, h3⟩ := h.form; obtain ⟨ad, rfl, hc0⟩ := h3 0 (by omega); obtain ⟨mo, mcap, rfl, m1, m2, m3⟩ := hm.form; obtain ⟨H3, M3, HN⟩ := hd3 h3 m3 hn; clear h3 hc0 h hm m3 hn; rw [hl] at h1 hR H3 ⊢; have HL := hide hl; clear hl; have A0 : Hid (Boxed ((w.alloc (.cells #[(.slice (some ad) 15 cap)] 59)).alloc (.cells #[] 53)) w.heap.size 59 (.slice (some ad) 15 cap)) := (Boxed.new w _ _).alloc _; (have O0 : Hid (OwnB (w.heap.size + 1) ((w.alloc (.cells #[(.slice (some ad) 15 cap)] 59)).alloc (.cells #[] 53)) (.slice (some ⟨w.heap.size + 1, 0, none⟩) 0 0) (boxesTo xs own add 0)) := by have q := World.ownsRow_made (base := w.heap.size + 1) (e := 53) (size := 2) (w.alloc (.cells #[(.slice (some ad) 15 cap)] 59)) #[] 0 (by simp) (by omega) rfl; rw [World.size_alloc] at q; exact q); have B0 : Hid (Below w.heap.size w ((w.alloc (.cells #[(.slice (some ad) 15 cap)] 59)).alloc (.cells #[] 53))) := ((Below.refl _ _).alloc (Nat.le_refl _) _).alloc (by simp) _; go_enter Tryz.func86, Tryz.ntmps86; (go_wp2_with fail); generalize (w.alloc (.cells #[(.slice (some ad) 15 cap)] 59)).alloc (.cells #[] 53) = W0 at *; go_loopw [7, 8] (fun o i wr => ∃ k : Nat, k ≤ own.length - 1 ∧ i = .int .i64 (k : Int) ∧ (∃ oo on oc, o = .slice oo on oc) ∧ Hid (OwnB (w.heap.size + 1) wr o (boxesTo xs own add k)) ∧ Hid (Boxed wr w.heap.size 59 (.slice (some ad) 15 cap)) ∧ Hid (Below w.heap.size w wr)) (fun _ i _ => own.length - (intOf i).toNat)
 case atStart => exact ⟨0, by omega, rfl, ⟨_, _, _, rfl⟩, O0, A0, B0⟩
 case round =>
  clear O0 A0 B0; obtain ⟨k, hk, rfl, ⟨oo, on, oc, rfl⟩, hO, hA, hB⟩ := hrel; obtain ⟨k1, hk1⟩ : ∃ n : Nat, n = k + 1 := ⟨_, rfl⟩; (have i1 : IntKind.i64.wrap ((k : Int) + 1) = (k1 : Int) := by rw [wrap_small _ (by omega) (by omega)]; omega); generalize wr = w1 at *; by_cases hlt : k1 < own.length
  · (have hlt2 : (k1 : Int) < (own.length : Int) := by omega); (have hkl : (k : Int) < (own.length : Int) := by omega); (have hk0 : (0 : Int) ≤ (k : Int) := by omega); obtain ⟨m, hsd, hm15⟩ := side_nat (HN.out k (by omega)); have HSD := hide hsd; have HBL : Hid ((boxesTo xs own add k).length ≤ 8 * k) := boxesTo_le xs own add k (fun j hj => HN.out j (by omega))
    have HTO : Hid (boxesTo xs own add (k + 1) = boxesTo xs own add k ++ boxesAt xs (own.getD k1 noMo).2 add (ints (cover xs m))) := by
     show _ = _
     conv => lhs; unfold boxesTo
     unfold boxRow; rw [hsd, hk1]; rfl
    obtain ⟨ma, rfl, mc1, _⟩ := M3.out k (by omega); obtain ⟨mb, e2, _, mc2⟩ := M3.out k1 hlt; (obtain rfl : ma = mb := by simpa using e2); have MC1 := hide mc1; have MC2 := hide mc2; have HCL := (cover_le xs m hm15).1; have HCA : Hid (∀ j, j < (ints (cover xs m)).length → ∃ c : Nat, (ints (cover xs m)).getD j 0 = (c : Int) ∧ c < 15) := fun j hj => ints_at hm15 hj; have HK1 := hide hk1; clear hsd e2 mc1 mc2 hk1; generalize (own.getD k noMo).1 = nd at MC1 HSD; generalize (own.getD k1 noMo).2 = ms at MC2 HTO; (go_wp2_with fail); refine r_i Later ?_; refine r_q 0 ?_ (h := by intro w' hw'; have xb := (box_below (w := w1.drew) hA.out hw').cell; go_simp; all_goals rfl); refine r_q4 1 2 3 4 ?_; refine r_q 5 ?_ (h := by intro w' hw'; have xc := (hw'.cell (cell_lt (hB.out.cell (cell_lt MC1.out) |>.trans MC1.out))).trans (hB.out.cell (cell_lt MC1.out) |>.trans MC1.out); go_simp; all_goals rfl); refine r_k 6 (sTreSide_any _ _) ?_; rw [HSD.out]; rintro e wz ⟨rfl, rfl⟩; refine s_r ?_; refine r_k 7 (l3Cover_any xs HL.out _ m hm15 _ (hR.out.below hB.out).drew) ?_; rintro e w2 ⟨u2, rfl, ho2, hb2⟩; refine s_r ?_ (r := hb2); refine r_q 8 ?_; refine r_e ?_; have U2 := hide ho2; have hA2 := hide (box_below (w := w1.drew) hA.out hb2); have hO2 : Hid (OwnB (w.heap.size + 1) w2 (.slice oo on oc) (boxesTo xs own add k)) := own_below' (w := w1.drew) hO.out hb2; have hB2 : Hid (Below w.heap.size w w2) := hB.out.drew.trans (hb2.mono hB.out.size); obtain ⟨uo, uc, rfl⟩ := row_form' ho2; generalize w1.drew.heap.size = Bu at U2; clear ho2 hb2 hO hA hB; rw [← ints_len] at HCL; generalize ints (cover xs m) = N at *; (go_wp2_with fail); go_loopw [7, 10] (fun o i wr => ∃ j : Nat, j ≤ N.length ∧ i = .int .i64 (j : Int) ∧ (∃ oo on oc, o = .slice oo on oc) ∧ Hid (OwnB (w.heap.size + 1) wr o (boxesTo xs own add k ++ boxesAt xs ms add (N.take j))) ∧ Hid (OwnI Bu wr (.slice uo N.length uc) N) ∧ Hid (Boxed wr w.heap.size 59 (.slice (some ad) 15 cap)) ∧ Hid (Below w.heap.size w wr)) (fun _ i _ => N.length - (intOf i).toNat)
    case atStart => exact ⟨0, by omega, rfl, ⟨_, _, _, rfl⟩, by simpa [boxesAt] using hO2, U2, hA2, hB2⟩
    case round =>
     clear U2 hA2 hO2 hB2; obtain ⟨j, hj, rfl, ⟨po, pn, pc, rfl⟩, hO, hU, hA, hB⟩ := hrel; generalize wr = w3 at *; by_cases hjl : j < N.length
     · (have hjl2 : (j : Int) < (N.length : Int) := by omega); (have hj0 : (0 : Int) ≤ (j : Int) := by omega); have i3 : IntKind.i64.wrap ((j : Int) + 1) = (j : Int) + 1 := wrap_small _ (by omega) (by omega); obtain ⟨c, hc, hc15⟩ := HCA.out j hjl; have HSN := boxesAt_snoc xs ms add N j hjl; rw [hc, Int.toNat_natCast] at HSN; have HSN := hide HSN; obtain ⟨ua, uc', q2, _, _, q5⟩ := (OwnI.irow hU.out).form; simp only [Value.slice.injEq] at q2; obtain ⟨rfl, _, rfl⟩ := q2; obtain ⟨ca, rfl, hck⟩ := q5 j hjl; rw [hc] at hck; have HCK := hide hck; obtain ⟨ad', e3, hcx⟩ := H3.out c (by omega); (obtain rfl : ad = ad' := by simpa using e3); have HCX := hide hcx; (have hci : (c : Int) < 15 := by omega); (have hci0 : (0 : Int) ≤ (c : Int) := by omega); (have HPL : Hid (pn = (boxesTo xs own add k ++ boxesAt xs ms add (N.take j)).length ∧ pn ≤ 200) := by obtain ⟨zo, zc, e⟩ := row_form' hO.out; simp only [Value.slice.injEq] at e; refine ⟨e.2.1, ?_⟩; rw [e.2.1, List.length_append]; have h1 := HBL.out; have h2 := boxesAt_le xs ms add (N.take j); rw [List.length_take] at h2; omega); generalize hQ : boxesTo xs own add k ++ boxesAt xs ms add (N.take j) = Q at *; have HQ := hide hQ; have HTK : Hid (takesBox add (c : Int) = (decide (add < 0) || ((c : Int) != leafOf add))) := rfl; generalize xs.getD c ByteArray.empty = ky at HCX HSN; clear hc q5 hck e3 hcx hQ; by_cases ha : add < 0
       · (have HTV : (decide (add < 0) || ((c : Int) != leafOf add)) = true := by simp [ha]); (go_wp2_with fail); refine r_i Later ?_; refine r_q 0 ?_; refine r_q 1 ?_; refine r_q 2 ?_; refine r_n4 3 4 5 6 ?_; refine r_n3 7 8 9 ?_; refine r_q 10 ?_; refine r_e ?_; have hO : Hid (OwnB (w.heap.size + 1) w3.drew (.slice po pn pc) Q) := hO; have hU : Hid (OwnI Bu w3.drew (.slice (some ca) N.length uc) N) := hU; have hA : Hid (Boxed w3.drew w.heap.size 59 (.slice (some ad) 15 cap)) := hA; have hB := hide hB.out.drew; have HCK : Hid (w3.drew.cell? (ca.add j) = some (.int .i64 (c : Int))) := HCK; generalize w3.drew = w4 at *; have cA : w4.drew.cell? ⟨w.heap.size, 0, none⟩ = some (.slice (some ad) 15 cap) := hA.out.cell; have cC : w4.drew.cell? (ca.add j) = some (.int .i64 (c : Int)) := HCK.out; have cX : w4.drew.cell? (ad.add c) = some (.string ky) := (hB.out.cell (cell_lt HCX.out)).trans HCX.out; have cM : w4.drew.cell? ⟨(ma.add (k1 * 2)).block, (ma.add (k1 * 2)).off + 1, none⟩ = some (.string ms) := (hB.out.cell (cell_lt MC2.out)).trans MC2.out; have C4 := hide (And.intro cA (And.intro cC (And.intro cX cM))); have LT4 : Hid (∀ x ∈ [⟨w.heap.size, 0, none⟩, ca.add j, ad.add c, ⟨(ma.add (k1 * 2)).block, (ma.add (k1 * 2)).off + 1, none⟩], x.block < w4.drew.heap.size) := four (p := fun x => x.block < w4.drew.heap.size) (cell_lt cA) (cell_lt cC) (cell_lt cX) (cell_lt cM); have OQ : w4.drew.ownsRow (w.heap.size + 1) 53 2 (.slice po pn pc) Q.length (bcells Q) := unhide hO; rw [← HPL.out.1] at OQ; have hsz := hB.out.size; have hal : w.heap.size < w4.heap.size := hA.out.lt; have hpn := HPL.out.2; have UD : w4.drew.ownsRow Bu 3 1 (.slice (some ca) N.length uc) N.length (N.map (Value.int .i64)) := unhide hU
         have NE4 : Hid (∀ x ∈ [⟨w.heap.size, 0, none⟩, ca.add j, ad.add c, ⟨(ma.add (k1 * 2)).block, (ma.add (k1 * 2)).off + 1, none⟩], some x.block ≠ Value.ownBlock (.slice po pn pc)) := by
          refine four (p := fun x => some x.block ≠ Value.ownBlock (.slice po pn pc)) ?_ ?_ ?_ ?_
          · intro q; have := (World.ownsRow.lt OQ _ q.symm).1; simp at this; omega
          · intro q; rcases row_apart UD OQ (by decide) with z | z
            · simp [Value.ownBlock] at z
            · exact z (Eq.trans (by show some ca.block = some (ca.add j).block; unfold Addr.add; split <;> rfl) q)
          · intro q; have := (World.ownsRow.lt OQ _ q.symm).1; have := cell_lt HCX.out; omega
          · intro q; have := (World.ownsRow.lt OQ _ q.symm).1; have z := cell_lt MC2.out; simp only at this z; omega
         have OP := hide OQ; have UP := hide UD; have AP : Hid (Boxed w4.drew w.heap.size 59 (.slice (some ad) 15 cap)) := unhide hA; have BP := hide hB.out.drew; clear cA cC cX cM OQ UD hO hU hA hB HCK; (go_wp2_with fail); refine r_i ((KeepC [⟨w.heap.size, 0, none⟩, ca.add j, ad.add c, ⟨(ma.add (k1 * 2)).block, (ma.add (k1 * 2)).off + 1, none⟩])) ?_; refine r_q2 0 1 ?_; refine r_q 2 ?_ (h := by intro w' hw'; have xq := (hw' ⟨w.heap.size, 0, none⟩ (by simp)).trans C4.out.1; go_simp; all_goals rfl); refine r_q3 3 4 5 ?_; refine r_q 6 ?_ (h := by intro w' hw'; have xq := (hw' (ca.add j) (by simp)).trans C4.out.2.1; go_simp; all_goals rfl); refine r_q 7 ?_; refine r_q 8 ?_ (h := by intro w' hw'; have xq := (hw' (ad.add c) (by simp)).trans C4.out.2.2.1; go_simp; all_goals rfl); refine r_q4 9 10 11 12 ?_; refine r_q 13 ?_; refine r_q 14 ?_ (h := by intro w' hw'; have xq := (hw' ⟨(ma.add (k1 * 2)).block, (ma.add (k1 * 2)).off + 1, none⟩ (by simp)).trans C4.out.2.2.2; go_simp; all_goals rfl); refine r_q 15 ?_; refine r_1 16 (fun K hK => ?_); go_simp; refine sr hK ?_ (r := (keepC_below ((Below.refl _ _).alloc (Nat.le_refl _) _) LT4.out)); clear hK; refine r_1 17 (fun K hK => ?_); refine wp_append_own _ _ _ 51 rfl (w.heap.size + 1) 53 i0 (.agg #[.string ⟨#[]⟩, .string ⟨#[]⟩]) 2 32 underBx hI.out.1 hI.out.2.1 hI.out.2.2.1 hI.out.2.2.2 rfl (by decide) _ _ _ rfl (World.ownsRow.alloc OP.out _) ⟨w4.drew.heap.size, 0, none⟩ 1 1 [.string ky, .string ms] rfl rfl (two_new _ _ _ _) (by intro u hu; simp at hu; rcases hu with rfl | rfl <;> rfl) (by unfold maxLen; omega) (by omega) (by simp; omega) ?_; intro v' w5 hown' hgrow _; refine sr hK ?_ (r := (keepC_grown hgrow (fun x hx => ⟨by have := LT4.out x hx; simp; exact Nat.lt_succ_of_lt this, NE4.out x hx⟩))); clear hK; refine r_q 18 ?_; refine r_e ?_; have U5 : Hid (OwnI Bu w5 (.slice (some ca) N.length uc) N) := World.ownsRow.kept (World.ownsRow.alloc UP.out (.cells #[.string ky, .string ms] 53)) hgrow (row_apart (World.ownsRow.alloc UP.out (.cells #[.string ky, .string ms] 53)) (World.ownsRow.alloc OP.out (.cells #[.string ky, .string ms] 53)) (by decide)); have B5 : Hid (Below w.heap.size w w5) := (BP.out.alloc BP.out.size (.cells #[.string ky, .string ms] 53)).grown hgrow (by simp; omega) (fun k hk => by have := (World.ownsRow.lt OP.out k hk).1; omega); have A5 : Hid (Boxed w5 w.heap.size 59 (.slice (some ad) 15 cap)) := (AP.out.alloc (.cells #[.string ky, .string ms] 53)).kept hgrow (fun q => by have := (World.ownsRow.lt OP.out _ q.symm).1; omega); (have O5 : Hid (OwnB (w.heap.size + 1) w5 v' (Q ++ [(ky, ms)])) := by show OwnB _ _ _ _; unfold OwnB; rw [List.length_append, ← HPL.out.1, bcells_snoc]; exact hown'); obtain ⟨vo, vc, rfl⟩ := row_form' hown'; clear hown' hgrow OP UP AP BP C4 LT4 NE4; (go_wp2_with fail); go_roundw
         case rel => exact ⟨j + 1, by omega, by simp, ⟨_, _, _, rfl⟩, by rw [HSN.out, HTK.out, HTV, if_pos rfl, ← List.append_assoc, HQ.out]; exact O5, U5, A5, B5⟩
         case measure => simp [intOf]; omega
       · (have ha2 : decide (add < 0) = false := by simp; omega); (have ha3 : 0 ≤ add := by omega); clear ha; by_cases hlf : (c : Int) = leafOf add
         · (have HTV : Hid ((decide (add < 0) || ((c : Int) != leafOf add)) = false) := by show _ = _; rw [ha2, ← hlf]; simp); have HLF := hide hlf.symm; (have hcc : ((c : Int) != (c : Int)) = false := by simp); clear hlf; (go_wp2_with fail); refine r_i Later ?_; refine r_q4 0 1 2 3 ?_; refine r_q2 4 5 ?_; refine r_q 6 ?_ (h := by intro w' hw'; have xq := (Below.cell (w := w3.drew) hw' (cell_lt (w := w3.drew) HCK.out)).trans HCK.out; go_simp; all_goals rfl); refine r_q 7 ?_; refine r_k 8 (sTreLeaf_any _ _) ?_; rw [HLF.out]; rintro e wz ⟨rfl, rfl⟩; refine s_r ?_; refine r_q2 9 10 ?_; refine r_e ?_; have hO : Hid (OwnB (w.heap.size + 1) w3.drew (.slice po pn pc) Q) := hO; have hU : Hid (OwnI Bu w3.drew (.slice (some ca) N.length uc) N) := hU; have hA : Hid (Boxed w3.drew w.heap.size 59 (.slice (some ad) 15 cap)) := hA; have hB := hide hB.out.drew; have HCK : Hid (w3.drew.cell? (ca.add j) = some (.int .i64 (c : Int))) := HCK; generalize w3.drew = w4 at *; (go_wp2_with fail); go_roundw
           case rel => exact ⟨j + 1, by omega, by simp, ⟨_, _, _, rfl⟩, by rw [HSN.out, HTK.out, HTV.out, if_neg (by simp), List.append_nil, HQ.out]; exact hO, hU, hA, hB⟩
           case measure => simp [intOf]; omega
         · (have HTV : (decide (add < 0) || ((c : Int) != leafOf add)) = true := by simp [hlf]); have hne : ((c : Int) != leafOf add) = true := bne_iff_ne.mpr hlf; (go_wp2_with fail); refine r_i Later ?_; refine r_q4 0 1 2 3 ?_; refine r_q2 4 5 ?_; refine r_q 6 ?_ (h := by intro w' hw'; have xq := (Below.cell (w := w3.drew) hw' (cell_lt (w := w3.drew) HCK.out)).trans HCK.out; go_simp; all_goals rfl); refine r_q 7 ?_; refine r_k 8 (sTreLeaf_any _ _) ?_; skip; rintro e wz ⟨rfl, rfl⟩; refine s_r ?_; refine r_q2 9 10 ?_; refine r_e ?_; have hO : Hid (OwnB (w.heap.size + 1) w3.drew (.slice po pn pc) Q) := hO; have hU : Hid (OwnI Bu w3.drew (.slice (some ca) N.length uc) N) := hU; have hA : Hid (Boxed w3.drew w.heap.size 59 (.slice (some ad) 15 cap)) := hA; have hB := hide hB.out.drew; have HCK : Hid (w3.drew.cell? (ca.add j) = some (.int .i64 (c : Int))) := HCK; generalize w3.drew = w4 at *; have cA : w4.drew.cell? ⟨w.heap.size, 0, none⟩ = some (.slice (some ad) 15 cap) := hA.out.cell; have cC : w4.drew.cell? (ca.add j) = some (.int .i64 (c : Int)) := HCK.out; have cX : w4.drew.cell? (ad.add c) = some (.string ky) := (hB.out.cell (cell_lt HCX.out)).trans HCX.out; have cM : w4.drew.cell? ⟨(ma.add (k1 * 2)).block, (ma.add (k1 * 2)).off + 1, none⟩ = some (.string ms) := (hB.out.cell (cell_lt MC2.out)).trans MC2.out; have C4 := hide (And.intro cA (And.intro cC (And.intro cX cM))); have LT4 : Hid (∀ x ∈ [⟨w.heap.size, 0, none⟩, ca.add j, ad.add c, ⟨(ma.add (k1 * 2)).block, (ma.add (k1 * 2)).off + 1, none⟩], x.block < w4.drew.heap.size) := four (p := fun x => x.block < w4.drew.heap.size) (cell_lt cA) (cell_lt cC) (cell_lt cX) (cell_lt cM); have OQ : w4.drew.ownsRow (w.heap.size + 1) 53 2 (.slice po pn pc) Q.length (bcells Q) := unhide hO; rw [← HPL.out.1] at OQ; have hsz := hB.out.size; have hal : w.heap.size < w4.heap.size := hA.out.lt; have hpn := HPL.out.2; have UD : w4.drew.ownsRow Bu 3 1 (.slice (some ca) N.length uc) N.length (N.map (Value.int .i64)) := unhide hU
           have NE4 : Hid (∀ x ∈ [⟨w.heap.size, 0, none⟩, ca.add j, ad.add c, ⟨(ma.add (k1 * 2)).block, (ma.add (k1 * 2)).off + 1, none⟩], some x.block ≠ Value.ownBlock (.slice po pn pc)) := by
            refine four (p := fun x => some x.block ≠ Value.ownBlock (.slice po pn pc)) ?_ ?_ ?_ ?_
            · intro q; have := (World.ownsRow.lt OQ _ q.symm).1; simp at this; omega
            · intro q; rcases row_apart UD OQ (by decide) with z | z
              · simp [Value.ownBlock] at z
              · exact z (Eq.trans (by show some ca.block = some (ca.add j).block; unfold Addr.add; split <;> rfl) q)
            · intro q; have := (World.ownsRow.lt OQ _ q.symm).1; have := cell_lt HCX.out; omega
            · intro q; have := (World.ownsRow.lt OQ _ q.symm).1; have z := cell_lt MC2.out; simp only at this z; omega
           have OP := hide OQ; have UP := hide UD; have AP : Hid (Boxed w4.drew w.heap.size 59 (.slice (some ad) 15 cap)) := unhide hA; have BP := hide hB.out.drew; clear cA cC cX cM OQ UD hO hU hA hB HCK; (go_wp2_with fail); refine r_i ((KeepC [⟨w.heap.size, 0, none⟩, ca.add j, ad.add c, ⟨(ma.add (k1 * 2)).block, (ma.add (k1 * 2)).off + 1, none⟩])) ?_; refine r_q2 0 1 ?_; refine r_q 2 ?_ (h := by intro w' hw'; have xq := (hw' ⟨w.heap.size, 0, none⟩ (by simp)).trans C4.out.1; go_simp; all_goals rfl); refine r_q3 3 4 5 ?_; refine r_q 6 ?_ (h := by intro w' hw'; have xq := (hw' (ca.add j) (by simp)).trans C4.out.2.1; go_simp; all_goals rfl); refine r_q 7 ?_; refine r_q 8 ?_ (h := by intro w' hw'; have xq := (hw' (ad.add c) (by simp)).trans C4.out.2.2.1; go_simp; all_goals rfl); refine r_q4 9 10 11 12 ?_; refine r_q 13 ?_; refine r_q 14 ?_ (h := by intro w' hw'; have xq := (hw' ⟨(ma.add (k1 * 2)).block, (ma.add (k1 * 2)).off + 1, none⟩ (by simp)).trans C4.out.2.2.2; go_simp; all_goals rfl); refine r_q 15 ?_; refine r_1 16 (fun K hK => ?_); go_simp; refine sr hK ?_ (r := (keepC_below ((Below.refl _ _).alloc (Nat.le_refl _) _) LT4.out)); clear hK; refine r_1 17 (fun K hK => ?_); refine wp_append_own _ _ _ 51 rfl (w.heap.size + 1) 53 i0 (.agg #[.string ⟨#[]⟩, .string ⟨#[]⟩]) 2 32 underBx hI.out.1 hI.out.2.1 hI.out.2.2.1 hI.out.2.2.2 rfl (by decide) _ _ _ rfl (World.ownsRow.alloc OP.out _) ⟨w4.drew.heap.size, 0, none⟩ 1 1 [.string ky, .string ms] rfl rfl (two_new _ _ _ _) (by intro u hu; simp at hu; rcases hu with rfl | rfl <;> rfl) (by unfold maxLen; omega) (by omega) (by simp; omega) ?_; intro v' w5 hown' hgrow _; refine sr hK ?_ (r := (keepC_grown hgrow (fun x hx => ⟨by have := LT4.out x hx; simp; exact Nat.lt_succ_of_lt this, NE4.out x hx⟩))); clear hK; refine r_q 18 ?_; refine r_e ?_; have U5 : Hid (OwnI Bu w5 (.slice (some ca) N.length uc) N) := World.ownsRow.kept (World.ownsRow.alloc UP.out (.cells #[.string ky, .string ms] 53)) hgrow (row_apart (World.ownsRow.alloc UP.out (.cells #[.string ky, .string ms] 53)) (World.ownsRow.alloc OP.out (.cells #[.string ky, .string ms] 53)) (by decide)); have B5 : Hid (Below w.heap.size w w5) := (BP.out.alloc BP.out.size (.cells #[.string ky, .string ms] 53)).grown hgrow (by simp; omega) (fun k hk => by have := (World.ownsRow.lt OP.out k hk).1; omega); have A5 : Hid (Boxed w5 w.heap.size 59 (.slice (some ad) 15 cap)) := (AP.out.alloc (.cells #[.string ky, .string ms] 53)).kept hgrow (fun q => by have := (World.ownsRow.lt OP.out _ q.symm).1; omega); (have O5 : Hid (OwnB (w.heap.size + 1) w5 v' (Q ++ [(ky, ms)])) := by show OwnB _ _ _ _; unfold OwnB; rw [List.length_append, ← HPL.out.1, bcells_snoc]; exact hown'); obtain ⟨vo, vc, rfl⟩ := row_form' hown'; clear hown' hgrow OP UP AP BP C4 LT4 NE4; (go_wp2_with fail); go_roundw
           case rel => exact ⟨j + 1, by omega, by simp, ⟨_, _, _, rfl⟩, by rw [HSN.out, HTK.out, HTV, if_pos rfl, ← List.append_assoc, HQ.out]; exact O5, U5, A5, B5⟩
           case measure => simp [intOf]; omega
     · (have hjl2 : decide ((j : Int) < (N.length : Int)) = false := by simp; omega); (have hjn : j = N.length := by omega); subst hjn; have HE := hide HTO.out; (go_wp2_with fail); go_roundw
       case rel => exact ⟨k1, by have := HK1.out; omega, by simp, ⟨_, _, _, rfl⟩, by rw [HK1.out, HTO.out]; have q := unhide hO; rw [List.take_length] at q; exact q, hA, hB⟩
       case measure => have := HK1.out; simp [intOf]; omega
  · (have hlt2 : decide ((k1 : Int) < (own.length : Int)) = false := by simp; omega); (have hkn : k = own.length - 1 := by omega); have HKN := hide hkn; clear hkn hk1 hk; (go_wp2_with fail); go_ret; refine ⟨_, rfl, ?_, unhide hB⟩; rw [← HKN.out]; exact row_lowB hO.out (by omega)
def keyB (s : ByteArray) : Bool := Kw.ok s && decide (mOp s = 3)
theorem l4Key_any (s : ByteArray) (w : World) (hm : s.size ≤ maxLen) : Calls Tryz.prog 83 #[.string s] w fun e w' => e = .returned (.bool (keyB s)) ∧ Below w.heap.size w w' := by
 have M := hide hm; clear hm; have HD : Hid (keyB s = (Kw.ok s && decide (mOp s = 3))) := rfl; go_enter Tryz.func83, Tryz.ntmps83; (go_wp2_with fail); refine (sSecOk_any s _ M.out).mono ?_
 cases hd : Kw.ok s with
 | false =>
  rintro e w1 ⟨rfl, hb1⟩; (have HE : Hid (keyB s = false) := by show _ = _; rw [HD.out, hd]; rfl); clear hd; (go_wp2_with fail); go_ret; exact ⟨ret_bool' HE.out.symm, hb1⟩
 | true =>
  rintro e w1 ⟨rfl, hb1⟩; have HB1 := hide hb1; have HK := hide hd; (have HE : Hid (keyB s = decide (mOp s = 3)) := by show _ = _; rw [HD.out, hd]; rfl); clear hd hb1; (go_wp2_with fail); refine (l1How_any s _ HK.out).mono ?_; rw [how_field]; rintro e w2 ⟨rfl, hb2⟩; have HB2 := hide (HB1.out.trans (hb2.mono HB1.out.size)); have hfl := field_op; clear hb2; (go_wp2_with fail); go_ret; refine ⟨ret_bool' ?_, unhide HB2⟩; rw [HE.out, Bool.eq_iff_iff]; simp
structure Wel where
  key : ByteArray
  ik : ByteArray
  is : ByteArray
  sk : ByteArray
  ss : ByteArray
deriving DecidableEq
def Wel.none : Wel := ⟨⟨#[]⟩, ⟨#[]⟩, ⟨#[]⟩, ⟨#[]⟩, ⟨#[]⟩⟩
structure Cmt where
  sender : Int
  tag : ByteArray
  name : ByteArray
  add : Int
  rem : Int
  leaf : ByteArray
  keys : List ByteArray
  boxes : List Bx
  wel : Wel
deriving DecidableEq
def Cmt.none : Cmt := ⟨0, ⟨#[]⟩, ⟨#[]⟩, 0, 0, ⟨#[]⟩, [], [], Wel.none⟩
abbrev cmtC (se : Int) (tag name : ByteArray) (add rem : Int) (leaf : ByteArray) (ks bs : Value) (k ik is sk ss : ByteArray) : Array Value :=
  #[.int .i64 se, .string tag, .string name, .int .i64 add, .int .i64 rem, .string leaf, ks, bs, .string k, .string ik, .string is, .string sk, .string ss]
abbrev Cmt.cells (c : Cmt) (ks bs : Value) : Array Value := cmtC c.sender c.tag c.name c.add c.rem c.leaf ks bs c.wel.key c.wel.ik c.wel.is c.wel.sk c.wel.ss
abbrev noCmt : Array Value := cmtC 0 ⟨#[]⟩ ⟨#[]⟩ 0 0 ⟨#[]⟩ (.slice none 0 0) (.slice none 0 0) ⟨#[]⟩ ⟨#[]⟩ ⟨#[]⟩ ⟨#[]⟩ ⟨#[]⟩
def CmtR (w : World) (v : Value) (c : Cmt) : Prop := ∃ ks bs, v = .agg (c.cells ks bs) ∧ SRow w ks c.keys ∧ BRow w bs c.boxes
theorem CmtR.below {w w' : World} {v : Value} {c : Cmt} (h : CmtR w v c) (hb : Below w.heap.size w w') : CmtR w' v c := by obtain ⟨ks, bs, h1, h2, h3⟩ := h; exact ⟨ks, bs, h1, h2.below hb, h3.below hb⟩
def oneB (n : Int) : Bool := decide (0 ≤ n) && decide (n ≤ 7)
def otherB (n s : Int) : Bool := decide (n = -1) || (oneB n && decide (n ≠ s))
def keysOfB (add : Int) (leaf key : ByteArray) : Bool := if add = -1 then decide (leaf = ByteArray.empty) && decide (key = ByteArray.empty) else decide (mOp leaf = 3) && decide (mOp key = 3) && decide (leaf ≠ key)
def welB (add : Int) (x : Wel) : Bool := if add = -1 then decide (x = Wel.none) else decide (x.ik = x.key) && decide (x.sk = x.key) && Kw.ok x.is && Kw.ok x.ss
def cmtOk (c : Cmt) : Bool :=
  oneB c.sender && decide (mOp c.name = 1) && decide (c.tag.size + c.name.size ≤ 300) && otherB c.add c.sender && otherB c.rem c.sender && treOk c.keys && (decide (c.boxes.length ≤ 20) && okBoxes c.boxes) && keysOfB c.add c.leaf c.wel.key && welB c.add c.wel
theorem info_cm : (Tryz.prog.info? 57).map (·.size) = some 13 := by kernel_rfl
theorem load_cm {w : World} {b : Nat} {cs : Array Value} (h : Blk w b 57 cs) (hc : cs.size = 13) : (loadVar 57 ⟨b, 0, none⟩).run Tryz.prog w = .ok (.agg cs) w :=
  run_loadVar_row w b _ _ cs (0, 0) _ h Tryz.underlying57 rfl (by rw [hc]; exact info_cm)
def inB (lo hi n : Int) : Bool := decide (lo ≤ n) && decide (n ≤ hi)
theorem l1In_any (n lo hi : Int) (w : World) : Calls Tryz.prog 23 #[.int .i64 n, .int .i64 lo, .int .i64 hi] w fun e w' => e = .returned (.bool (inB lo hi n)) ∧ w' = w := by
 by_cases h : lo ≤ n ∧ n ≤ hi
 · rw [show inB lo hi n = true by unfold inB; simp [h.1, h.2]]; exact l1In_yes n lo hi w h.1 h.2
 · rw [show inB lo hi n = false by unfold inB; simp; omega]; exact l1In_no n lo hi w (by omega)
end Go.Proofs.YtdfpeaenbmgihaaGreat
