/-
  TreOk of both sides.
-/
import Derived.Test.YtabpaaahobakpaaGreatFnExactGrpNewB3
import Derived.Test.YtabpaaahobakpaaGreatFnExactGrpNewB1
import Derived.Test.YtabpaaahobakpaaGreatFnExactGrpNewB2
import Derived.RangeFuncBox
import Derived.Deep.RegionHeld3
namespace Go.Proofs.YtabpaaahobakpaaGreat
open Go.RowKit Kw

theorem keyOk_op (y : ByteArray) : keyOk y = (decide (y = ByteArray.empty) || decide (mOp y = 3)) := by
  unfold keyOk
  cases h : Kw.ok y with
  | true => simp
  | false =>
    have : mOp y = 0 := by unfold mOp; rw [if_neg (by rw [h]; simp)]
    rw [this]
    simp
theorem treOk_short {xs : List ByteArray} (h : xs.length ≠ 15) : treOk xs = false := by unfold treOk; simp [h]
theorem treOk_bad {xs : List ByteArray} {k : Nat} (hk : k < xs.length) (h : keyOk (xs.getD k ByteArray.empty) = false) : treOk xs = false := by
  cases q : treOk xs with
  | false => rfl
  | true => rw [(treOk_iff.1 q).2 k hk] at h; cases h
theorem treOk_good {xs : List ByteArray} (hl : xs.length = 15) (h : ∀ j, j < 15 → keyOk (xs.getD j ByteArray.empty) = true) : treOk xs = true := treOk_iff.2 ⟨hl, fun k hk => h k (by omega)⟩

set_option maxRecDepth 100000 in
set_option maxHeartbeats 400000 in
theorem isKey_any (s : ByteArray) (w : World) (hm : s.size ≤ maxLen) :
    Calls Tryz.prog 117 #[.string s] w fun e w' => e = .returned (.bool (decide (mOp s = 3))) ∧ Below w.heap.size w w' := by
  have M := hide hm
  clear hm
  go_enter Tryz.func117, Tryz.ntmps117
  go_wp2_with fail
  refine (iSecMade_any s _ M.out).mono ?_
  rw [how_field]
  rintro e w1 ⟨rfl, hb1⟩
  have hfl := field_op
  go_wp2_with fail
  go_ret
  refine ⟨ret_bool' ?_, hb1⟩
  rw [Bool.eq_iff_iff]
  simp

set_option maxRecDepth 100000 in
set_option maxHeartbeats 2000000 in
theorem iTreOk_any (v : Value) (xs : List ByteArray) (w : World) (h : SRow w v xs) (hx : ∀ x ∈ xs, x.size ≤ maxLen) :
    Calls Tryz.prog 53 #[.agg #[v]] w fun e w' => e = .returned (.bool (treOk xs)) ∧ Below w.heap.size w w' := by
  obtain ⟨ao, cap, rfl, h1, h2, _⟩ := h.form
  have HX := hide hx
  have hR : Hid (SRow (w.alloc (.cells #[.slice ao xs.length cap] 39)) (.slice ao xs.length cap) xs) := h.below ((Below.refl _ _).alloc (Nat.le_refl _) _)
  have hW : Hid (Below w.heap.size w (w.alloc (.cells #[.slice ao xs.length cap] 39))) := (Below.refl _ _).alloc (Nat.le_refl _) _
  unfold maxLen at h2
  clear h hx
  by_cases hl : xs.length = 15
  · rw [hl] at hR hW h1 ⊢
    have HL := hide hl
    clear hl
    go_enter Tryz.func53, Tryz.ntmps53
    go_wp2_with fail
    go_loopw [12] (fun i wr => ∃ k : Nat, k ≤ 15 ∧ i = .int .i64 (k : Int) ∧ Hid (∀ j, j < k → keyOk (xs.getD j ByteArray.empty) = true) ∧ Hid (Below (w.heap.size + 1) (w.alloc (.cells #[.slice ao 15 cap] 39)) wr)) (fun i _ => 15 - (intOf i).toNat)
    case atStart => exact ⟨0, by omega, rfl, fun j hj => by omega, Below.refl _ _⟩
    case round =>
      obtain ⟨k, hk, rfl, hN, hL⟩ := hrel
      have hle := hL.out.size
      rw [World.size_alloc] at hle
      by_cases hlt : k < 15
      · have hlt2 : (k : Int) < 15 := by omega
        have i3 : IntKind.i64.wrap ((k : Int) + 1) = (k : Int) + 1 := by simp [IntKind.wrap, IntKind.bits, IntKind.signed]; omega
        obtain ⟨ao', c1, q1, _, _, q2⟩ := (SRow.below (unhide hR) (by rw [World.size_alloc]; exact unhide hL)).form
        rw [HL.out] at q1 q2
        simp only [Value.slice.injEq] at q1
        obtain ⟨rfl, _, rfl⟩ := q1
        obtain ⟨a, rfl, hck⟩ := q2 k hlt
        clear q2
        have hsz : Hid ((xs.getD k ByteArray.empty).size ≤ maxLen) := HX.out _ (getD_mem (by have := HL.out; omega))
        have hYes : Hid (keyOk (xs.getD k ByteArray.empty) = true → ∀ j, j < k + 1 → keyOk (xs.getD j ByteArray.empty) = true) := by
          intro ht j hj
          by_cases hjk : j = k
          · subst hjk; exact ht
          · exact hN j (by omega)
        have hNo : Hid (keyOk (xs.getD k ByteArray.empty) = false → treOk xs = false) := treOk_bad (by have := HL.out; omega)
        have hKO := hide (keyOk_op (xs.getD k ByteArray.empty))
        generalize xs.getD k ByteArray.empty = y at hck hsz hYes hNo hKO
        by_cases hy : y = ByteArray.empty
        · have hN1 := hide (hYes.out (by rw [hKO.out]; simp [hy]))
          have hne : y.toList = [] := by rw [hy]; exact nil_text
          have hne2 : y.toList.isEmpty = true := by rw [hne]; rfl
          clear hy hYes hNo hKO
          go_wp2_with fail
          go_roundw
          case rel => exact ⟨k + 1, by omega, by simp, hN1, hL⟩
          case measure => simp [intOf]; omega
        · have hne : ¬ y.toList = [] := no_text hy
          have hne2 : y.toList.isEmpty = false := by simpa using hne
          have HY := hide hy
          clear hy
          go_wp2_with fail
          refine (isKey_any y _ hsz.out).mono ?_
          cases hd : decide (mOp y = 3) with
          | true =>
            rintro e w1 ⟨rfl, hb1⟩
            have hN1 := hide (hYes.out (by rw [hKO.out, hd]; simp))
            have hL1 := hide ((unhide hL).trans (hb1.mono hle))
            clear hd hb1 hL hYes hNo hKO
            go_wp2_with fail
            go_roundw
            case rel => exact ⟨k + 1, by omega, by simp, hN1, hL1⟩
            case measure => simp [intOf]; omega
          | false =>
            rintro e w1 ⟨rfl, hb1⟩
            have hF := hide (hNo.out (by rw [hKO.out, hd]; simpa using HY.out))
            have hL1 := hide ((unhide hL).trans (hb1.mono hle))
            clear hd hb1 hL hYes hNo hKO
            go_wp2_with fail
            go_ret
            exact ⟨ret_bool' hF.out.symm, (unhide hW).trans ((unhide hL1).mono (by omega))⟩
      · have hlt2 : decide ((k : Int) < 15) = false := by simp; omega
        have hF : Hid (treOk xs = true) := treOk_good HL.out (fun j hj => hN j (by omega))
        go_wp2_with fail
        go_ret
        exact ⟨ret_bool' hF.out.symm, (unhide hW).trans ((unhide hL).mono (by omega))⟩
  · have hl2 : ((xs.length : Int) == 15) = false := by simp; omega
    have hF : Hid (treOk xs = false) := treOk_short hl
    clear hl
    go_enter Tryz.func53, Tryz.ntmps53
    go_wp2_with fail
    go_ret
    exact ⟨ret_bool' hF.out.symm, unhide hW⟩

end Go.Proofs.YtabpaaahobakpaaGreat
/-
  What TreClear and TreSet answer, plain; stores into rows of texts. No Go function in it.
-/
namespace Go.Proofs.YtabpaaahobakpaaGreat
open Go.RowKit Kw

theorem keyOk_small {x : ByteArray} (h : keyOk x = true) : x.size ≤ 300 := by
  unfold keyOk at h
  by_cases he : x = ByteArray.empty
  · subst he; show (0 : Nat) ≤ 300; omega
  · simp [he] at h
    exact (ok_facts h.1).1
theorem treOk_small {xs : List ByteArray} (h : treOk xs = true) : ∀ x ∈ xs, x.size ≤ 300 := by
  intro x hx
  obtain ⟨k, hk, rfl⟩ := mem_getD hx
  exact keyOk_small ((treOk_iff.1 h).2 k hk)
/-- A row of fifteen texts, written out. -/
theorem row15 {B : Nat} {w : World} {v : Value} {zs : List Value} (h : w.ownsRow B 9 1 v 15 zs) : ∃ g cap, v = .slice (some ⟨g, 0, none⟩) 15 cap ∧ B ≤ g ∧ g < w.heap.size ∧ 15 ≤ cap ∧ cap ≤ maxLen := by
  have hh := h
  rcases h.2 with ⟨_, q⟩ | ⟨g, cap, cur, rfl, h1, h2, h3, h4, h5, h6⟩
  · omega
  · exact ⟨g, cap, rfl, h1, (hh.lt g rfl).2, h3, h4⟩
/-- What a store at a place of it wants, and leaves. -/
theorem row15_set {B : Nat} {w : World} {g cap : Nat} {xs : List ByteArray} (hl : xs.length = 15) (h : w.ownsRow B 9 1 (.slice (some ⟨g, 0, none⟩) 15 cap) 15 (xs.map Value.string)) (j : Nat) (hj : j < 15) (y : ByteArray) :
    w.cell? ⟨g, j, none⟩ = some (.string (xs.getD j ByteArray.empty)) ∧ w.frozen? ⟨g, j, none⟩ = false ∧ (w.setCell ⟨g, j, none⟩ (.string y)).ownsRow B 9 1 (.slice (some ⟨g, 0, none⟩) 15 cap) 15 ((xs.set j y).map Value.string) ∧ w.grownBy (w.setCell ⟨g, j, none⟩ (.string y)) (some g) := by
  refine ⟨?_, h.frozenAt j, ?_⟩
  · rw [h.cellAt j (by omega), List.getElem?_map, List.getElem?_eq_getElem (by omega), List.getD_eq_getElem?_getD, List.getElem?_eq_getElem (by omega)]; rfl
  · obtain ⟨s1, s2⟩ := h.stored j (.string y)
    rw [List.map_set]
    exact ⟨s1, s2⟩
theorem grown_drew {w w' : World} {r : Option Nat} (h : w.grownBy w' r) : w.grownBy w'.drew r := ⟨h.os, h.tape, h.output, h.size, h.block⟩
theorem grown_below0 {wr u u' : World} {r : Option Nat} (h : wr.grownBy u r) (hb : Below u.heap.size u u') : wr.grownBy u' r :=
  ⟨hb.os.trans h.os, hb.tape.trans h.tape, hb.output.trans h.output, Nat.le_trans h.size hb.size, fun k hk hr => (hb.block k (Nat.lt_of_lt_of_le hk h.size)).trans (h.block k hk hr)⟩
end Go.Proofs.YtabpaaahobakpaaGreat
/-
  What TreSet answers, plain. No Go function in it.
-/
namespace Go.Proofs.YtabpaaahobakpaaGreat
open Go.RowKit Kw

/-- The secret so many places above. -/
def nextN (s : ByteArray) : Nat → ByteArray
  | 0 => s
  | n + 1 => mkNext (nextN s n)
theorem nextN_in (s : ByteArray) : ∀ n, nextN (mkNext s) n = nextN s (n + 1)
  | 0 => rfl
  | n + 1 => by show mkNext (nextN (mkNext s) n) = mkNext (nextN s (n + 1)); rw [nextN_in s n]
theorem fill_snoc (ps : List Nat) (p : Nat) : ∀ xs s, fill xs s (ps ++ [p]) = (fill xs s ps).set p (mkKey (nextN s ps.length)) := by
  induction ps with
  | nil => intro xs s; rfl
  | cons q ps ih =>
    intro xs s
    show fill (xs.set q (mkKey s)) (mkNext s) (ps ++ [p]) = (fill (xs.set q (mkKey s)) (mkNext s) ps).set p (mkKey (nextN s (ps.length + 1)))
    rw [ih, nextN_in]
/-- What TreSet wants of a secret. -/
def maySet (s : ByteArray) : Bool := Kw.ok s && decide (s.size ≤ 292)
def setRes (xs : List ByteArray) (p : Int) (s : ByteArray) : List ByteArray := if (treOk xs = true ∧ 0 ≤ p ∧ p ≤ 7) ∧ maySet s = true then setKeys xs p.toNat s else []
theorem setKeys_len (xs : List ByteArray) (k : Nat) (s : ByteArray) : (setKeys xs k s).length = xs.length := fill_len _ _ _
theorem setRes_no {xs : List ByteArray} {p : Int} {s : ByteArray} (h : ¬ ((treOk xs = true ∧ 0 ≤ p ∧ p ≤ 7) ∧ maySet s = true)) : setRes xs p s = [] := by unfold setRes; rw [if_neg h]
theorem setRes_yes {xs : List ByteArray} {k : Nat} {s : ByteArray} (h : treOk xs = true) (hk : k < 8) (hs : maySet s = true) : setRes xs (k : Int) s = setKeys xs k s := by unfold setRes; rw [if_pos ⟨⟨h, by omega, by omega⟩, hs⟩]; rfl
theorem nextN_size (s : ByteArray) (hs : s.size ≤ 300) : ∀ n, (nextN s n).size ≤ 300
  | 0 => hs
  | n + 1 => by
    show (mkNext (nextN s n)).size ≤ 300
    unfold mkNext
    split
    · unfold cap; split
      · assumption
      · show (0 : Nat) ≤ 300; omega
    · show (0 : Nat) ≤ 300; omega
end Go.Proofs.YtabpaaahobakpaaGreat
/-
  The program's places: whether one is there, the place over it, the place of one; TreLeaf.
-/
namespace Go.Proofs.YtabpaaahobakpaaGreat
open Go.RowKit

/-- The place under which one lies. -/
def overOf (p : Int) : Int := if 1 ≤ p ∧ p ≤ 14 then (p - 1) / 2 else -1
/-- A place, and all above it. -/
def chainOf (p : Int) : List Int := if 0 ≤ p ∧ p ≤ 14 then p :: upOf p else []
theorem upOf_nat (k : Nat) (h : k < 15) : upOf (k : Int) = (ups k).map (fun (k : Nat) => (k : Int)) := by
  unfold upOf; rw [if_pos (by omega)]; rfl
theorem upOf_chain (p : Int) : upOf p = chainOf (overOf p) := by
  by_cases h : 0 ≤ p ∧ p ≤ 14
  · obtain ⟨k, rfl⟩ : ∃ k : Nat, p = (k : Int) := ⟨p.toNat, by omega⟩
    have hk : k < 15 := by omega
    by_cases h0 : 0 < k
    · have e : overOf (k : Int) = (((k - 1) / 2 : Nat) : Int) := by unfold overOf; rw [if_pos (by omega)]; omega
      rw [e, upOf_nat k hk, ups_step k hk h0]
      unfold chainOf
      rw [if_pos (by omega), upOf_nat _ (by omega)]
      rfl
    · obtain rfl : k = 0 := by omega
      rfl
  · have e : overOf p = -1 := by unfold overOf; rw [if_neg (by omega)]
    rw [e]
    unfold upOf
    rw [if_neg h]
    rfl
theorem chain_cons (p : Int) (h : 0 ≤ p ∧ p ≤ 14) : chainOf p = p :: chainOf (overOf p) := by
  rw [← upOf_chain]; unfold chainOf; rw [if_pos h]
theorem chain_nil (p : Int) (h : ¬ (0 ≤ p ∧ p ≤ 14)) : chainOf p = [] := by unfold chainOf; rw [if_neg h]
theorem over_lt (p : Int) (h : 0 ≤ p) : overOf p < p ∧ -1 ≤ overOf p := by unfold overOf; split <;> omega
theorem over_wrap (p : Int) (h0 : 1 ≤ p) (h : p ≤ 14) : IntKind.i64.wrap (p - 1) = p - 1 ∧ IntKind.i64.wrap ((p - 1).tdiv 2) = overOf p := by
  constructor
  · simp [IntKind.wrap, IntKind.bits, IntKind.signed]; omega
  · rw [Int.tdiv_eq_ediv_of_nonneg (by omega)]
    unfold overOf
    rw [if_pos ⟨h0, h⟩]
    simp [IntKind.wrap, IntKind.bits, IntKind.signed]
    omega

set_option maxHeartbeats 400000 in
theorem isThere_yes (n : Int) (w : World) (h0 : 0 ≤ n) (h1 : n < 15) :
    Calls Tryz.prog 167 #[.int .i64 n] w fun e w' => e = .returned (.bool true) ∧ w' = w := by
  go_enter Tryz.func167, Tryz.ntmps167
  go_wp2
  go_ret
  exact ⟨rfl, rfl⟩

set_option maxHeartbeats 400000 in
theorem isThere_no (n : Int) (w : World) (h : n < 0 ∨ 15 ≤ n) :
    Calls Tryz.prog 167 #[.int .i64 n] w fun e w' => e = .returned (.bool false) ∧ w' = w := by
  rcases h with h | h
  · go_enter Tryz.func167, Tryz.ntmps167
    go_wp2
    go_ret
    exact ⟨rfl, rfl⟩
  · have h' : 0 ≤ n := by omega
    have h2 : decide (n < 15) = false := by simp; omega
    go_enter Tryz.func167, Tryz.ntmps167
    go_wp2
    go_ret
    exact ⟨rfl, rfl⟩

set_option maxHeartbeats 1000000 in
theorem over_any (p : Int) (w : World) : Calls Tryz.prog 168 #[.int .i64 p] w fun e w' => e = .returned (.int .i64 (overOf p)) ∧ w' = w := by
  by_cases h : 0 ≤ p ∧ p ≤ 14
  · by_cases h0 : p = 0
    · subst h0
      have e : overOf 0 = -1 := rfl
      rw [e]
      clear e h
      go_enter Tryz.func168, Tryz.ntmps168
      go_wp2_with fail
      refine (isThere_yes _ _ (by omega) (by omega)).mono ?_
      rintro e w1 ⟨rfl, rfl⟩
      go_wp2_with fail
      go_ret
      exact ⟨rfl, rfl⟩
    · obtain ⟨i1, i2⟩ := over_wrap p (by omega) h.2
      have hz : (p == 0) = false := by simp; exact h0
      generalize overOf p = q at i2
      have hh := hide h
      clear h
      go_enter Tryz.func168, Tryz.ntmps168
      go_wp2_with fail
      refine (isThere_yes _ _ (hh.out.1) (by have := hh.out; omega)).mono ?_
      rintro e w1 ⟨rfl, rfl⟩
      go_wp2_with fail
      go_ret
      exact ⟨rfl, rfl⟩
  · have e : overOf p = -1 := by unfold overOf; rw [if_neg (by omega)]
    rw [e]
    have hh := hide h
    clear e h
    go_enter Tryz.func168, Tryz.ntmps168
    go_wp2_with fail
    refine (isThere_no _ _ (by have := hh.out; omega)).mono ?_
    rintro e w1 ⟨rfl, rfl⟩
    go_wp2_with fail
    go_ret
    exact ⟨rfl, rfl⟩

set_option maxHeartbeats 400000 in
theorem placeOf_any (who : Int) (w : World) : Calls Tryz.prog 54 #[.int .i64 who] w fun e w' => e = .returned (.int .i64 (leafOf who)) ∧ w' = w := by
  by_cases h : 0 ≤ who ∧ who ≤ 7
  · have hl : leafOf who = 7 + who := by unfold leafOf; rw [if_pos h]
    rw [hl]
    have hh := hide h
    have i3 : IntKind.i64.wrap (7 + who) = 7 + who := by simp [IntKind.wrap, IntKind.bits, IntKind.signed]; omega
    clear hl h
    go_enter Tryz.func54, Tryz.ntmps54
    go_wp2_with fail
    refine (isOne_yes _ _ hh.out.1 (by have := hh.out; omega)).mono ?_
    rintro e w1 ⟨rfl, rfl⟩
    go_wp2_with fail
    go_ret
    exact ⟨rfl, rfl⟩
  · have hl : leafOf who = -1 := by unfold leafOf; rw [if_neg h]
    rw [hl]
    have hh := hide h
    clear hl h
    go_enter Tryz.func54, Tryz.ntmps54
    go_wp2_with fail
    refine (isOne_no _ _ (by have := hh.out; omega)).mono ?_
    rintro e w1 ⟨rfl, rfl⟩
    go_wp2_with fail
    go_ret
    exact ⟨rfl, rfl⟩
end Go.Proofs.YtabpaaahobakpaaGreat
/-
  Rows of secrets with their places (MemOwn).
-/
namespace Go.Proofs.YtabpaaahobakpaaGreat
open Go.RowKit Go.Shelf

abbrev Mo := Int × ByteArray
def noMo : Mo := (0, ByteArray.empty)
theorem info_mo : (Tryz.prog.info? 134).map (fun i => (i.zero, i.size, i.bytes)) = some (some (.agg #[.int .i64 0, .string ⟨#[]⟩]), 2, 24) := by kernel_rfl
theorem underMo : Tryz.prog.underlying 40 = some (.slice 134) := by kernel_rfl

/-- A slice holds these: each a place, and a secret. -/
def MRow (w : World) (v : Value) (bs : List Mo) : Prop :=
  ∃ (ao : Option Addr) (cap : Nat), v = .slice ao bs.length cap ∧ bs.length ≤ cap ∧ cap ≤ maxLen ∧ ∀ i, i < bs.length → ∃ a, ao = some a ∧ w.cell? (a.add (i * 2)) = some (.int .i64 (bs.getD i noMo).1) ∧ w.cell? ((a.add (i * 2)).add 1) = some (.string (bs.getD i noMo).2)
theorem MRow.below {w w' : World} {v : Value} {bs : List Mo} (h : MRow w v bs) (hb : Below w.heap.size w w') : MRow w' v bs := by
  obtain ⟨ao, cap, h1, h2, h3, h4⟩ := h
  refine ⟨ao, cap, h1, h2, h3, fun i hi => ?_⟩
  obtain ⟨a, q1, q2, q3⟩ := h4 i hi
  exact ⟨a, q1, (hb.cell (cell_lt q2)).trans q2, (hb.cell (cell_lt q3)).trans q3⟩
theorem add_oneM (x : Addr) : x.add 1 = ⟨x.block, x.off + 1, none⟩ := Addr.add_succ' x 0
theorem MRow.form {w : World} {v : Value} {bs : List Mo} (h : MRow w v bs) :
    ∃ (ao : Option Addr) (cap : Nat), v = .slice ao bs.length cap ∧ bs.length ≤ cap ∧ cap ≤ maxLen ∧ ∀ i, i < bs.length → ∃ a, ao = some a ∧ w.cell? (a.add (i * 2)) = some (.int .i64 (bs.getD i noMo).1) ∧ w.cell? ⟨(a.add (i * 2)).block, (a.add (i * 2)).off + 1, none⟩ = some (.string (bs.getD i noMo).2) := by
  obtain ⟨ao, cap, h1, h2, h3, h4⟩ := h
  refine ⟨ao, cap, h1, h2, h3, fun i hi => ?_⟩
  obtain ⟨a, q1, q2, q3⟩ := h4 i hi
  exact ⟨a, q1, q2, by rw [← add_oneM]; exact q3⟩
/-- Cell by cell. -/
def mcells (bs : List Mo) : List Value := bs.flatMap fun b => [.int .i64 b.1, .string b.2]
theorem mcells_snoc (bs : List Mo) (b : Mo) : mcells (bs ++ [b]) = mcells bs ++ [.int .i64 b.1, .string b.2] := by simp [mcells]
theorem mcells_get : ∀ (bs : List Mo) (i : Nat), i < bs.length → (mcells bs)[i * 2]? = some (.int .i64 (bs.getD i noMo).1) ∧ (mcells bs)[i * 2 + 1]? = some (.string (bs.getD i noMo).2)
  | [], i, h => absurd h (Nat.not_lt_zero _)
  | b :: bs, 0, _ => by simp [mcells]
  | b :: bs, i + 1, h => by
    have := mcells_get bs i (by simpa using h)
    rw [show (i + 1) * 2 = i * 2 + 1 + 1 by omega]
    simpa [mcells] using this

/-- A slice of the call's own holds these. -/
def OwnM (B : Nat) (w : World) (v : Value) (bs : List Mo) : Prop := w.ownsRow B 134 2 v bs.length (mcells bs)
theorem OwnM.mrow {B : Nat} {w : World} {v : Value} {bs : List Mo} (h : OwnM B w v bs) : MRow w v bs := by
  rcases h.2 with ⟨h1, h2⟩ | ⟨g, cap, cur, h1, h2, h3, h4, h5, _⟩
  · exact ⟨none, 0, by rw [h1, h2], by omega, by omega, fun i hi => by omega⟩
  · refine ⟨some ⟨g, 0, none⟩, cap, h1, h4, h5, fun i hi => ?_⟩
    have hc := World.ownsRow.cells h (g := g) (by rw [h1]; rfl)
    obtain ⟨p1, p2⟩ := mcells_get bs i hi
    refine ⟨_, rfl, hc _ _ p1, ?_⟩
    rw [Addr.add_lit, Addr.add_lit, Nat.zero_add]
    have := hc _ _ p2
    rw [Addr.add_lit, Nat.zero_add] at this
    exact this
/-- Rows of two types lie apart. -/
theorem row_apart {w : World} {B B' : Nat} {e e' : TypeId} {size size' : Nat} {v v' : Value} {n n' : Nat} {xs xs' : List Value} (h : w.ownsRow B e size v n xs) (k : w.ownsRow B' e' size' v' n' xs') (hne : e ≠ e') : v.ownBlock = none ∨ v.ownBlock ≠ v'.ownBlock := by
  rcases h.2 with ⟨rfl, _⟩ | ⟨g, cap, cur, rfl, _, hgb, _⟩
  · exact .inl rfl
  · rcases k.2 with ⟨rfl, _⟩ | ⟨g', cap', cur', rfl, _, hgb', _⟩
    · exact .inr (by simp [Value.ownBlock])
    · refine .inr (fun q => ?_)
      obtain rfl : g = g' := by simpa [Value.ownBlock] using q
      have := hgb.symm.trans hgb'
      simp at this
      exact hne this.2

/-- Secrets made one from the other, at places. -/
def pathOf : List Int → ByteArray → List Mo
  | [], _ => []
  | p :: ps, s => (p, s) :: pathOf ps (mkNext s)
theorem pathOf_len : ∀ (ps : List Int) (s : ByteArray), (pathOf ps s).length = ps.length
  | [], _ => rfl
  | _ :: ps, s => by simp [pathOf, pathOf_len ps]
theorem pathOf_snoc : ∀ (ps : List Int) (x : Int) (s : ByteArray), pathOf (ps ++ [x]) s = pathOf ps s ++ [(x, nextN s ps.length)]
  | [], _, _ => rfl
  | p :: ps, x, s => by
    show (p, s) :: pathOf (ps ++ [x]) (mkNext s) = (p, s) :: (pathOf ps (mkNext s) ++ _)
    rw [pathOf_snoc ps, nextN_in]
    rfl
end Go.Proofs.YtabpaaahobakpaaGreat
/-
  One in a group, as a value and in memory.
-/
namespace Go.Proofs.YtabpaaahobakpaaGreat
open Go.RowKit

/-- One in a group. -/
structure Mem where
  inn : Bool
  who : Int
  keys : List ByteArray
  own : List Mo
  ep : Int
  init : ByteArray
  tag : ByteArray
deriving DecidableEq
/-- None. -/
def Mem.none : Mem := ⟨false, 0, [], [], 0, ⟨#[]⟩, ⟨#[]⟩⟩

/-- Its cells. -/
abbrev memC (i : Bool) (who : Int) (ks os : Value) (ep : Int) (init tag : ByteArray) : Array Value := #[.bool i, .int .i64 who, ks, os, .int .i64 ep, .string init, .string tag]
abbrev noMem : Array Value := memC false 0 (.slice none 0 0) (.slice none 0 0) 0 ⟨#[]⟩ ⟨#[]⟩
abbrev Mem.cells (m : Mem) (ks os : Value) : Array Value := memC m.inn m.who ks os m.ep m.init m.tag
/-- A value is one in a group, its rows to be read. -/
def MemR (w : World) (v : Value) (m : Mem) : Prop := ∃ ks os, v = .agg (m.cells ks os) ∧ SRow w ks m.keys ∧ MRow w os m.own
/-- A value is one in a group, its rows the call's own. -/
def MemO (B : Nat) (w : World) (v : Value) (m : Mem) : Prop := ∃ ks os, v = .agg (m.cells ks os) ∧ Own B w ks m.keys ∧ OwnM B w os m.own
theorem MemR.below {w w' : World} {v : Value} {m : Mem} (h : MemR w v m) (hb : Below w.heap.size w w') : MemR w' v m := by
  obtain ⟨ks, os, h1, h2, h3⟩ := h
  exact ⟨ks, os, h1, h2.below hb, h3.below hb⟩
theorem MemO.row {B : Nat} {w : World} {v : Value} {m : Mem} (h : MemO B w v m) : MemR w v m := by
  obtain ⟨ks, os, h1, h2, h3⟩ := h
  exact ⟨ks, os, h1, h2.srow, h3.mrow⟩
theorem MemO.below {B : Nat} {w w' : World} {v : Value} {m : Mem} (h : MemO B w v m) (hb : Below w.heap.size w w') : MemO B w' v m := by
  obtain ⟨ks, os, h1, h2, h3⟩ := h
  exact ⟨ks, os, h1, Own.below h2 hb, own_below' h3 hb⟩
theorem MemO.none (B : Nat) (w : World) : MemO B w (.agg noMem) Mem.none := ⟨_, _, rfl, World.ownsRow_nil _ _ _ _, World.ownsRow_nil _ _ _ _⟩
/-- Its two rows lie between two numbers. -/
def MemIn (lo hi : Nat) (w : World) (ks os : Value) (keys : List ByteArray) (own : List Mo) : Prop := RowIn lo hi 9 1 w ks keys.length (keys.map Value.string) ∧ RowIn lo hi 134 2 w os own.length (mcells own)
theorem MemIn.of {B : Nat} {w : World} {ks os : Value} {keys : List ByteArray} {own : List Mo} (h : Own B w ks keys) (k : OwnM B w os own) : MemIn B w.heap.size w ks os keys own := ⟨RowIn.of h, RowIn.of k⟩
theorem MemIn.below {lo hi : Nat} {w w' : World} {ks os : Value} {keys : List ByteArray} {own : List Mo} (h : MemIn lo hi w ks os keys own) (hb : Below w.heap.size w w') : MemIn lo hi w' ks os keys own := ⟨h.1.below hb, h.2.below hb⟩
theorem MemIn.grown {lo hi : Nat} {w w' : World} {ks os : Value} {keys : List ByteArray} {own : List Mo} {r : Option Nat} (h : MemIn lo hi w ks os keys own) (hg : w.grownBy w' r) (hr : ∀ k, r = some k → k < lo ∨ hi ≤ k) : MemIn lo hi w' ks os keys own := ⟨h.1.grown hg hr, h.2.grown hg hr⟩
theorem MemIn.srow {lo hi : Nat} {w : World} {ks os : Value} {keys : List ByteArray} {own : List Mo} (h : MemIn lo hi w ks os keys own) : SRow w ks keys := own_srow h.1.1
theorem MemIn.mrow {lo hi : Nat} {w : World} {ks os : Value} {keys : List ByteArray} {own : List Mo} (h : MemIn lo hi w ks os keys own) : MRow w os own := OwnM.mrow h.2.1

theorem info_mm : (Tryz.prog.info? 42).map (·.size) = some 7 := by kernel_rfl
theorem one_mm (i : Bool) (who : Int) (a : Option Addr) (l c : Nat) (a' : Option Addr) (l' c' : Nat) (ep : Int) (init tag : ByteArray) : (memC i who (.slice a l c) (.slice a' l' c') ep init tag).all (·.oneCell') = true := by simp [Value.oneCell']
theorem load_mm {w : World} {b : Nat} {cs : Array Value} (h : Blk w b 42 cs) (hc : cs.size = 7) : (loadVar 42 ⟨b, 0, none⟩).run Tryz.prog w = .ok (.agg cs) w :=
  run_loadVar_row w b _ _ cs (0, 0) _ h Tryz.underlying42 rfl (by rw [hc]; exact info_mm)
end Go.Proofs.YtabpaaahobakpaaGreat
/-
  The laws' own look whether two rows of texts are the same.
-/
namespace Go.Proofs.YtabpaaahobakpaaGreat
open Go.RowKit

set_option maxHeartbeats 1000000 in
theorem eqStringS_any (v u : Value) (xs ys : List ByteArray) (w : World) (h : SRow w v xs) (k : SRow w u ys) :
    Calls Tryz.prog 59 #[v, u] w fun e w' => e = .returned (.bool (decide (xs = ys))) ∧ Below w.heap.size w w' := by
  obtain ⟨ao, cap, rfl, h1, h2, hc⟩ := h.form
  obtain ⟨bo, cap', rfl, h1', h2', hc'⟩ := k.form
  have hR := hide h
  have hS := hide k
  unfold maxLen at h2 h2'
  clear h k hc hc'
  by_cases hl : xs.length = ys.length
  · rw [← hl] at hS h1' ⊢
    have HL := hide hl
    clear hl
    go_enter Tryz.func59, Tryz.ntmps59
    go_wp2_with fail
    go_loopw [5] (fun i wr => ∃ k : Nat, k ≤ xs.length ∧ i = .int .i64 (k : Int) ∧ Hid (∀ j, j < k → xs.getD j ByteArray.empty = ys.getD j ByteArray.empty) ∧ Hid (Below w.heap.size w wr)) (fun i _ => xs.length - (intOf i).toNat)
    case atStart => exact ⟨0, by omega, rfl, fun j hj => by omega, Below.refl _ _⟩
    case round =>
      obtain ⟨k, hk, rfl, hN, hL⟩ := hrel
      by_cases hlt : k < xs.length
      · have hlt2 : (k : Int) < (xs.length : Int) := by omega
        obtain ⟨ao', c1, q1, _, _, q2⟩ := (SRow.below (unhide hR) (unhide hL)).form
        simp only [Value.slice.injEq] at q1
        obtain ⟨rfl, _, rfl⟩ := q1
        obtain ⟨bo', c2, q3, _, _, q4⟩ := (SRow.below (unhide hS) (unhide hL)).form
        simp only [Value.slice.injEq] at q3
        obtain ⟨rfl, z3, rfl⟩ := q3
        clear z3
        obtain ⟨a, rfl, hck⟩ := q2 k hlt
        obtain ⟨b, rfl, hck'⟩ := q4 k (by have := HL.out; omega)
        clear q2 q4
        have i3 : IntKind.i64.wrap ((k : Int) + 1) = (k : Int) + 1 := by simp [IntKind.wrap, IntKind.bits, IntKind.signed]; omega
        have hYes : Hid (xs.getD k ByteArray.empty = ys.getD k ByteArray.empty → ∀ j, j < k + 1 → xs.getD j ByteArray.empty = ys.getD j ByteArray.empty) := by
          intro ht j hj
          by_cases hjk : j = k
          · subst hjk; exact ht
          · exact hN j (by omega)
        have hNo : Hid (xs.getD k ByteArray.empty ≠ ys.getD k ByteArray.empty → decide (xs = ys) = false) := by
          intro ht
          simp
          intro e
          exact ht (by rw [e])
        generalize xs.getD k ByteArray.empty = y at hck hYes hNo
        generalize ys.getD k ByteArray.empty = z at hck' hYes hNo
        by_cases he : y = z
        · have hN1 := hide (hYes.out he)
          subst he
          go_wp2_with fail
          go_quiet (fail)
          go_wp2_with fail
          go_roundw
          case rel => exact ⟨k + 1, by omega, by simp, hN1, below_drewN (unhide hL) _⟩
          case measure => simp [intOf]; omega
        · have hE := hNo.out he
          have hnk : (y.toList == z.toList) = false := by
            cases q : (y.toList == z.toList) with
            | false => rfl
            | true => exact absurd (toList_eq.1 q) he
          go_wp2_with fail
          go_quiet (fail)
          go_wp2_with fail
          go_ret
          exact ⟨ret_bool' hE.symm, below_drewN (unhide hL) _⟩
      · have hlt2 : decide ((k : Int) < (xs.length : Int)) = false := by simp; omega
        have hE : decide (xs = ys) = true := by
          simp
          exact rows_eq HL.out (fun j hj => hN j (by omega))
        go_wp2_with fail
        go_ret
        exact ⟨ret_bool' hE.symm, unhide hL⟩
  · have hl2 : ((xs.length : Int) == (ys.length : Int)) = false := by simp; omega
    have hE : decide (xs = ys) = false := by
      simp
      intro e
      exact hl (by rw [e])
    go_enter Tryz.func59, Tryz.ntmps59
    go_wp2_with fail
    go_ret
    exact ⟨ret_bool' hE.symm, Below.refl _ _⟩
end Go.Proofs.YtabpaaahobakpaaGreat
/-
  The laws' own marks: texts that are written into rows, and looked up again.
-/
namespace Go.Proofs.YtabpaaahobakpaaGreat
open Go.RowKit

theorem grown_below' {wr u u' : World} {r : Option Nat} (h : wr.grownBy u r) (hb : Below u.heap.size u u') : wr.grownBy u' r :=
  ⟨hb.os.trans h.os, hb.tape.trans h.tape, hb.output.trans h.output, Nat.le_trans h.size hb.size, fun k hk hr => (hb.block k (Nat.lt_of_lt_of_le hk h.size)).trans (h.block k hk hr)⟩

/-- The digits of a number, ahead of some. -/
def mtd (k : Nat) (t : ByteArray) : ByteArray := if _h : k = 0 then t else mtd (k / 10) (by1 (48 + k % 10) ++ t)
termination_by k
decreasing_by omega
theorem mtd_zero (t : ByteArray) : mtd 0 t = t := by unfold mtd; simp
theorem mtd_pos {k : Nat} (h : k ≠ 0) (t : ByteArray) : mtd k t = mtd (k / 10) (by1 (48 + k % 10) ++ t) := by rw [mtd]; simp [h]
/-- The mark of a number. -/
def mt (k : Nat) : ByteArray := ⟨#[109]⟩ ++ mtd k ⟨#[]⟩

set_option maxRecDepth 100000 in
set_option maxHeartbeats 1000000 in
theorem markText_any (n : Nat) (w : World) (h0 : 0 < n) (h : n ≤ 10000000) :
    Calls Tryz.prog 126 #[.int .i64 (n : Int)] w fun e w' => e = .returned (.string (mt n)) ∧ Below w.heap.size w w' := by
  have hc := conv1
  have hp : decide ((n : Int) ≤ 0) = false := by simp; omega
  go_enter Tryz.func126, Tryz.ntmps126
  go_wp2_with fail
  go_loopw [0, 3] (fun a s wr => ∃ (k : Nat) (t : ByteArray), a = .int .i64 (k : Int) ∧ s = .string t ∧ k + t.size ≤ n ∧ Hid (mtd k t = mtd n ⟨#[]⟩) ∧ Hid (Below w.heap.size w wr)) (fun a _ _ => (intOf a).toNat)
  case atStart => exact ⟨n, ⟨#[]⟩, rfl, rfl, Nat.le_refl _, rfl, Below.refl _ _⟩
  case round =>
    obtain ⟨k, t, rfl, rfl, hk, hm, hL⟩ := hrel
    have hle := hL.out.size
    by_cases hpos : 0 < k
    · have hpos2 : (0 : Int) < (k : Int) := by omega
      have e10 : (k : Int).tmod 10 = ((k % 10 : Nat) : Int) := by rw [Int.tmod_eq_emod_of_nonneg (by omega)]; omega
      have d10 : (k : Int).tdiv 10 = ((k / 10 : Nat) : Int) := by rw [Int.tdiv_eq_ediv_of_nonneg (by omega)]; omega
      have hr : k % 10 < 10 := Nat.mod_lt _ (by omega)
      have hm1 : Hid (mtd (k / 10) (by1 (48 + k % 10) ++ t) = mtd n ⟨#[]⟩) := by show _ = _; rw [← mtd_pos (by omega)]; exact hm.out
      have hd : k / 10 < k := by omega
      generalize k % 10 = r at e10 hr hm1
      generalize k / 10 = q at d10 hm1 hd
      have u8 : IntKind.u8.wrap (48 + (r : Int)) = 48 + (r : Int) := by simp [IntKind.wrap, IntKind.bits, IntKind.signed]; omega
      have hnat : ((48 : Int) + (r : Int)).toNat = 48 + r := by omega
      have hs1 : (by1 (48 + r)).size = 1 := rfl
      have hts : t.size ≤ 10000000 := by omega
      have hHA : Hid (Below w.heap.size w (wr.alloc (.cells #[.int .u8 (48 + (r : Int))] 5))) := (unhide hL).alloc hle _
      go_wp2_with fail
      go_roundw
      case rel => exact ⟨q, by1 (48 + r) ++ t, rfl, rfl, by rw [ByteArray.size_append, hs1]; omega, hm1, hHA⟩
      case measure => simp [intOf]; omega
    · have hpos2 : decide ((0 : Int) < (k : Int)) = false := by simp; omega
      have hk0 : k = 0 := by omega
      subst hk0
      have he : Hid (⟨#[109]⟩ ++ t = mt n) := by show _ = _; unfold mt; rw [← hm.out, mtd_zero]
      go_wp2_with fail
      go_ret
      exact ⟨congrArg (fun x => Ending.returned (.string x)) he.out, unhide hL⟩
/-- The marks from one on. -/
def marks (k n : Nat) : List ByteArray := (List.range n).map fun i => mt (k + i)
theorem marks_len (k n : Nat) : (marks k n).length = n := by unfold marks; simp
theorem marks_get {k n i : Nat} (h : i < n) : (marks k n).getD i ByteArray.empty = mt (k + i) := by
  unfold marks
  rw [List.getD_eq_getElem?_getD]
  simp [h]

/-- The first j marked, the rest as they were. -/
def markd (k : Nat) (xs : List ByteArray) (j : Nat) : List ByteArray := marks k j ++ xs.drop j
theorem markd_zero (k : Nat) (xs : List ByteArray) : markd k xs 0 = xs := by unfold markd marks; simp
theorem markd_all (k : Nat) (xs : List ByteArray) : markd k xs xs.length = marks k xs.length := by unfold markd; simp
theorem markd_len {k : Nat} {xs : List ByteArray} {j : Nat} (h : j ≤ xs.length) : (markd k xs j).length = xs.length := by unfold markd; rw [List.length_append, marks_len, List.length_drop]; omega
theorem markd_set {k : Nat} {xs : List ByteArray} {j : Nat} (h : j < xs.length) : (markd k xs j).set j (mt (k + j)) = markd k xs (j + 1) := by
  unfold markd marks
  rw [List.range_succ, List.map_append, List.set_append_right _ _ (by simp)]
  have e : (xs.drop j).set 0 (mt (k + j)) = mt (k + j) :: xs.drop (j + 1) := by rw [List.drop_eq_getElem_cons h]; rfl
  simp [e]

set_option maxRecDepth 100000 in
set_option maxHeartbeats 1000000 in
theorem markStringS_any (B : Nat) (v : Value) (xs : List ByteArray) (k : Nat) (w : World) (h : Own B w v xs) (hk : 0 < k) (hk2 : k ≤ 4000000) (hl : xs.length ≤ 1048576) :
    Calls Tryz.prog 68 #[v, .int .i64 (k : Int)] w fun e w' => e = .returned (.int .i64 ((k + xs.length : Nat) : Int)) ∧ Own B w' v (marks k xs.length) ∧ w.grownBy w' v.ownBlock := by
  have hO := hide h
  obtain ⟨ao, cap, hv⟩ := row_form' h
  subst hv
  clear h
  go_enter Tryz.func68, Tryz.ntmps68
  go_wp2_with fail
  go_loopw [1, 5] (fun c i wr => ∃ j : Nat, j ≤ xs.length ∧ i = .int .i64 (j : Int) ∧ c = .int .i64 ((k + j : Nat) : Int) ∧ Hid (wr.ownsRow B 9 1 (.slice ao xs.length cap) xs.length ((markd k xs j).map Value.string)) ∧ Hid (w.grownBy wr (Value.ownBlock (.slice ao xs.length cap)))) (fun _ i _ => xs.length - (intOf i).toNat)
  case atStart => exact ⟨0, by omega, rfl, by simp, by rw [markd_zero]; exact unhide hO, ⟨rfl, rfl, rfl, Nat.le_refl _, fun _ _ _ => rfl⟩⟩
  case round =>
    obtain ⟨j, hj, rfl, rfl, hOj, hG⟩ := hrel
    by_cases hlt : j < xs.length
    · have hlt2 : (j : Int) < (xs.length : Int) := by omega
      have i3 : IntKind.i64.wrap ((j : Int) + 1) = (j : Int) + 1 := by simp [IntKind.wrap, IntKind.bits, IntKind.signed]; omega
      obtain ⟨z, hz⟩ : ∃ z : Nat, z = k + j := ⟨_, rfl⟩
      rw [← hz]
      have hz1 : 0 < z := by omega
      have hz2 : z ≤ 6000000 := by omega
      have HZ := hide hz
      clear hz
      have i4 : IntKind.i64.wrap ((z : Int) + 1) = (z : Int) + 1 := by simp [IntKind.wrap, IntKind.bits, IntKind.signed]; omega
      rcases (unhide hOj).2 with ⟨q, _⟩ | ⟨g, cap', cur, hq, hBg, hcur, _⟩
      · simp at q; omega
      simp only [Value.slice.injEq] at hq
      obtain ⟨rfl, _, rfl⟩ := hq
      clear hcur
      go_wp2_with fail
      refine (markText_any z _ (by omega) (by omega)).mono ?_
      rintro e w2 ⟨rfl, hb2⟩
      have hO2 := own_below' (unhide hOj) hb2
      have hG2 := hide (grown_below' (unhide hG) hb2)
      have hml := markd_len (k := k) (xs := xs) (j := j) hj
      have hfz := hO2.frozenAt j
      have hcell : w2.cell? ⟨g, j, none⟩ = some (.string ((markd k xs j).getD j ByteArray.empty)) := by
        rw [hO2.cellAt j (by omega), List.getElem?_map, List.getElem?_eq_getElem (by omega), List.getD_eq_getElem?_getD, List.getElem?_eq_getElem (by omega)]; rfl
      obtain ⟨s1, s2⟩ := hO2.stored j (.string (mt z))
      rw [← List.map_set, HZ.out, markd_set hlt] at s1
      have HS1 := hide s1
      have HG3 : Hid (w.grownBy (w2.setCell ⟨g, j, none⟩ (.string (mt z))) (some g)) := (unhide hG2).trans s2
      clear s1 s2 hO2 hb2 hOj hG hG2 hml
      generalize (markd k xs j).getD j ByteArray.empty = old at hcell
      rw [← HZ.out] at HS1
      generalize mt z = y at HS1 HG3 ⊢
      go_wp2_with fail
      go_roundw
      case rel => exact ⟨j + 1, by omega, by simp, by rw [show ((k + (j + 1) : Nat) : Int) = (z : Int) + 1 by have := HZ.out; omega], HS1, HG3⟩
      case measure => simp [intOf]; omega
    · have hlt2 : decide ((j : Int) < (xs.length : Int)) = false := by simp; omega
      have hjn : j = xs.length := by omega
      subst hjn
      rw [markd_all] at hOj
      go_wp2_with fail
      go_ret
      refine ⟨rfl, ?_, unhide hG⟩
      unfold Own
      rw [marks_len]
      exact unhide hOj

end Go.Proofs.YtabpaaahobakpaaGreat
/-
  The laws' own marks: texts that are looked up again.
-/
namespace Go.Proofs.YtabpaaahobakpaaGreat
open Go.RowKit

set_option maxRecDepth 100000 in
set_option maxHeartbeats 2000000 in
theorem heldStringS_any (v : Value) (n k : Nat) (w : World) (h : SRow w v (marks k n)) (hk : 0 < k) (hk2 : k ≤ 4000000) (hl : n ≤ 1048576) :
    Calls Tryz.prog 77 #[v, .int .i64 (k : Int)] w fun e w' => e = .returned (.int .i64 ((k + n : Nat) : Int)) ∧ Below w.heap.size w w' := by
  have hR := hide h
  obtain ⟨ao, cap, rfl, h1, h2, _⟩ := h.form
  rw [marks_len] at h1 hR ⊢
  unfold maxLen at h2
  clear h
  go_enter Tryz.func77, Tryz.ntmps77
  go_wp2_with fail
  go_loopw [1, 5] (fun c i wr => ∃ j : Nat, j ≤ n ∧ i = .int .i64 (j : Int) ∧ c = .int .i64 ((k + j : Nat) : Int) ∧ Hid (Below w.heap.size w wr)) (fun _ i _ => n - (intOf i).toNat)
  case atStart => exact ⟨0, by omega, rfl, by simp, Below.refl _ _⟩
  case round =>
    obtain ⟨j, hj, rfl, rfl, hL⟩ := hrel
    have hle := hL.out.size
    by_cases hlt : j < n
    · have hlt2 : (j : Int) < (n : Int) := by omega
      have i3 : IntKind.i64.wrap ((j : Int) + 1) = (j : Int) + 1 := by simp [IntKind.wrap, IntKind.bits, IntKind.signed]; omega
      obtain ⟨ao', c1, q1, _, _, q2⟩ := (SRow.below (unhide hR) (unhide hL)).form
      rw [marks_len] at q1 q2
      simp only [Value.slice.injEq] at q1
      obtain ⟨rfl, _, rfl⟩ := q1
      obtain ⟨ad, rfl, hck⟩ := q2 j hlt
      rw [marks_get hlt] at hck
      clear q2
      obtain ⟨z, hz⟩ : ∃ z : Nat, z = k + j := ⟨_, rfl⟩
      rw [← hz] at hck ⊢
      have hz1 : 0 < z := by omega
      have hz2 : z ≤ 6000000 := by omega
      have HZ := hide hz
      clear hz
      have i4 : IntKind.i64.wrap ((z : Int) + 1) = (z : Int) + 1 := by simp [IntKind.wrap, IntKind.bits, IntKind.signed]; omega
      have HM : Hid (∀ u : World, Calls Tryz.prog 126 #[.int .i64 (z : Int)] u fun e w' => e = .returned (.string (mt z)) ∧ Below u.heap.size u w') := fun u => markText_any z u hz1 (by omega)
      generalize mt z = y at hck HM
      go_wp2_with fail
      go_region_held3 (fun w' => w'.cell? (ad.add j) = some (.string y))
        ((first | exact hck | exact pck))
        ((go_at_call 126; refine (HM.out wr.drew).mono ?_; rintro e w2 ⟨rfl, hb2⟩; have pck := (hb2.cell (cell_lt hck)).trans hck; have hL2 : Hid (Below w.heap.size w w2) := ((unhide hL).drew).trans (hb2.mono hle); clear hb2))
      go_wp2_with fail
      go_roundw
      case rel => exact ⟨j + 1, by omega, by simp, by rw [show ((k + (j + 1) : Nat) : Int) = (z : Int) + 1 by have := HZ.out; omega], hL2⟩
      case measure => simp [intOf]; omega
    · have hlt2 : decide ((j : Int) < (n : Int)) = false := by simp; omega
      have hjn : j = n := by omega
      subst hjn
      go_wp2_with fail
      go_ret
      exact ⟨rfl, unhide hL⟩
end Go.Proofs.YtabpaaahobakpaaGreat
/-
  The laws' own helpers over secrets with their places: whether two rows are the same; marks in one, looked up again.
-/
namespace Go.Proofs.YtabpaaahobakpaaGreat
open Go.RowKit

set_option maxHeartbeats 400000 in
theorem eqMemOwn_same (b : Mo) (w : World) : Calls Tryz.prog 180 #[.agg #[.int .i64 b.1, .string b.2], .agg #[.int .i64 b.1, .string b.2]] w fun e w' => e = .returned (.bool true) ∧ Below w.heap.size w w' := by
  have HBA : Hid (Below w.heap.size w ((w.alloc (.cells #[.int .i64 b.1, .string b.2] 134)).alloc (.cells #[.int .i64 b.1, .string b.2] 134))) := ((Below.refl _ _).alloc (Nat.le_refl _) _).alloc (by simp) _
  obtain ⟨b1, b2⟩ := b
  simp only
  go_enter Tryz.func180, Tryz.ntmps180
  go_wp2_with fail
  go_ret
  exact ⟨rfl, unhide HBA⟩

set_option maxRecDepth 100000 in
set_option maxHeartbeats 2000000 in
theorem eqMemOwnS_same (v u : Value) (bs : List Mo) (w : World) (h : MRow w v bs) (k : MRow w u bs) :
    Calls Tryz.prog 162 #[v, u] w fun e w' => e = .returned (.bool true) ∧ Below w.heap.size w w' := by
  have hR := hide h
  have hS := hide k
  obtain ⟨ao, cap, rfl, h1, h2, _⟩ := h
  obtain ⟨bo, cap', rfl, h1', h2', _⟩ := k
  unfold maxLen at h2 h2'
  go_enter Tryz.func162, Tryz.ntmps162
  go_wp2_with fail
  go_loopw [5] (fun i wr => ∃ k : Nat, k ≤ bs.length ∧ i = .int .i64 (k : Int) ∧ Hid (Below w.heap.size w wr)) (fun i _ => bs.length - (intOf i).toNat)
  case atStart => exact ⟨0, by omega, rfl, Below.refl _ _⟩
  case round =>
    obtain ⟨k, hk, rfl, hL⟩ := hrel
    have hle := hL.out.size
    by_cases hlt : k < bs.length
    · have hlt2 : (k : Int) < (bs.length : Int) := by omega
      obtain ⟨ao', c1, q1, _, _, q2⟩ := (MRow.below (unhide hR) (unhide hL)).form
      simp only [Value.slice.injEq] at q1
      obtain ⟨rfl, z1, rfl⟩ := q1
      obtain ⟨bo', c2, q3, _, _, q4⟩ := (MRow.below (unhide hS) (unhide hL)).form
      simp only [Value.slice.injEq] at q3
      obtain ⟨rfl, z3, rfl⟩ := q3
      clear z1 z3
      obtain ⟨a, rfl, hca, hcb⟩ := q2 k hlt
      obtain ⟨b, rfl, hda, hdb⟩ := q4 k hlt
      clear q2 q4
      have i3 : IntKind.i64.wrap ((k : Int) + 1) = (k : Int) + 1 := by simp [IntKind.wrap, IntKind.bits, IntKind.signed]; omega
      generalize bs.getD k noMo = y at hca hcb hda hdb
      go_wp2_with fail
      go_region_held3 (fun w' => w'.cell? (a.add (k * 2)) = some (.int .i64 y.1) ∧ w'.cell? ⟨(a.add (k * 2)).block, (a.add (k * 2)).off + 1, none⟩ = some (.string y.2) ∧ w'.cell? (b.add (k * 2)) = some (.int .i64 y.1) ∧ w'.cell? ⟨(b.add (k * 2)).block, (b.add (k * 2)).off + 1, none⟩ = some (.string y.2))
        ((first | exact ⟨hca, hcb, hda, hdb⟩ | exact ⟨pca, pcb, pda, pdb⟩))
        ((go_at_call 180; refine (eqMemOwn_same y wr.drew).mono ?_; rintro e w2 ⟨rfl, hb2⟩; have pca := (hb2.cell (cell_lt hca)).trans hca; have pcb := (hb2.cell (cell_lt hcb)).trans hcb; have pda := (hb2.cell (cell_lt hda)).trans hda; have pdb := (hb2.cell (cell_lt hdb)).trans hdb; have hL2 : Hid (Below w.heap.size w w2) := ((unhide hL).drew).trans (hb2.mono hle); clear hb2))
      go_wp2_with fail
      go_roundw
      case rel => exact ⟨k + 1, by omega, by simp, hL2⟩
      case measure => simp [intOf]; omega
    · have hlt2 : decide ((k : Int) < (bs.length : Int)) = false := by simp; omega
      go_wp2_with fail
      go_ret
      exact ⟨rfl, unhide hL⟩

/-- The marks from one on, two a secret. -/
def mmarks (k n : Nat) : List Mo := (List.range n).map fun i => (((k + 2 * i : Nat) : Int), mt (k + 2 * i + 1))
theorem mmarks_len (k n : Nat) : (mmarks k n).length = n := by unfold mmarks; simp
theorem mmarks_get {k n i : Nat} (h : i < n) : (mmarks k n).getD i noMo = (((k + 2 * i : Nat) : Int), mt (k + 2 * i + 1)) := by
  unfold mmarks
  rw [List.getD_eq_getElem?_getD]
  simp [h]
/-- The first j marked, the rest as they were. -/
def mmarkd (k : Nat) (xs : List Mo) (j : Nat) : List Mo := mmarks k j ++ xs.drop j
theorem mmarkd_zero (k : Nat) (xs : List Mo) : mmarkd k xs 0 = xs := by unfold mmarkd mmarks; simp
theorem mmarkd_all (k : Nat) (xs : List Mo) : mmarkd k xs xs.length = mmarks k xs.length := by unfold mmarkd; simp
theorem mmarkd_len {k : Nat} {xs : List Mo} {j : Nat} (h : j ≤ xs.length) : (mmarkd k xs j).length = xs.length := by unfold mmarkd; rw [List.length_append, mmarks_len, List.length_drop]; omega
theorem mmarkd_set {k : Nat} {xs : List Mo} {j : Nat} (h : j < xs.length) : (mmarkd k xs j).set j (((k + 2 * j : Nat) : Int), mt (k + 2 * j + 1)) = mmarkd k xs (j + 1) := by
  unfold mmarkd mmarks
  rw [List.range_succ, List.map_append, List.set_append_right _ _ (by simp)]
  have e : (xs.drop j).set 0 ((((k + 2 * j : Nat) : Int), mt (k + 2 * j + 1)) : Mo) = (((k + 2 * j : Nat) : Int), mt (k + 2 * j + 1)) :: xs.drop (j + 1) := by rw [List.drop_eq_getElem_cons h]; rfl
  simpa using e
theorem mcells_set : ∀ (cs : List Mo) (k : Nat) (b : Mo), k < cs.length → ((mcells cs).set (k * 2) (.int .i64 b.1)).set (k * 2 + 1) (.string b.2) = mcells (cs.set k b)
  | [], k, _, h => absurd h (Nat.not_lt_zero _)
  | c :: cs, 0, b, _ => by simp [mcells]
  | c :: cs, k + 1, b, h => by
    have := mcells_set cs k b (by simpa using h)
    rw [show (k + 1) * 2 = k * 2 + 1 + 1 by omega]
    simpa [mcells] using this

set_option maxRecDepth 100000 in
set_option maxHeartbeats 2000000 in
theorem markMemOwnS_any (B : Nat) (v : Value) (bs : List Mo) (k : Nat) (w : World) (h : OwnM B w v bs) (hk : 0 < k) (hk2 : k ≤ 2000000) (hl : bs.length ≤ 1048576) :
    Calls Tryz.prog 125 #[v, .int .i64 (k : Int)] w fun e w' => e = .returned (.int .i64 ((k + 2 * bs.length : Nat) : Int)) ∧ OwnM B w' v (mmarks k bs.length) ∧ w.grownBy w' v.ownBlock := by
  have hO := hide h
  obtain ⟨ao, cap, hv⟩ := row_form' h
  subst hv
  clear h
  go_enter Tryz.func125, Tryz.ntmps125
  go_wp2_with fail
  go_loopw [1, 5] (fun c i wr => ∃ (j z : Nat), j ≤ bs.length ∧ i = .int .i64 (j : Int) ∧ c = .int .i64 (z : Int) ∧ 0 < z ∧ z = k + 2 * j ∧ Hid (wr.ownsRow B 134 2 (.slice ao bs.length cap) bs.length (mcells (mmarkd k bs j))) ∧ Hid (w.grownBy wr (Value.ownBlock (.slice ao bs.length cap)))) (fun _ i _ => bs.length - (intOf i).toNat)
  case atStart => exact ⟨0, k, by omega, rfl, rfl, hk, by omega, by rw [mmarkd_zero]; exact unhide hO, ⟨rfl, rfl, rfl, Nat.le_refl _, fun _ _ _ => rfl⟩⟩
  case round =>
    obtain ⟨j, z, hj, rfl, rfl, hz1, hz, hOj, hG⟩ := hrel
    have hz2 : z ≤ 5000000 := by omega
    have HZ := hide hz
    clear hz
    by_cases hlt : j < bs.length
    · have hlt2 : (j : Int) < (bs.length : Int) := by omega
      have HCL : Hid ((mmarkd k bs j).length = bs.length) := mmarkd_len hj
      have HST : Hid ((mmarkd k bs j).set j ((z : Int), mt (z + 1)) = mmarkd k bs (j + 1)) := by show _ = _; rw [HZ.out]; exact mmarkd_set hlt
      generalize mmarkd k bs j = cs at *
      have hjc : j < cs.length := by have := HCL.out; omega
      have i3 : IntKind.i64.wrap ((j : Int) + 1) = (j : Int) + 1 := by simp [IntKind.wrap, IntKind.bits, IntKind.signed]; omega
      have i4 : IntKind.i64.wrap ((z : Int) + 1) = (z : Int) + 1 := by simp [IntKind.wrap, IntKind.bits, IntKind.signed]; omega
      have i5 : IntKind.i64.wrap ((z : Int) + 1 + 1) = (z : Int) + 1 + 1 := by simp [IntKind.wrap, IntKind.bits, IntKind.signed]; omega
      rcases (unhide hOj).2 with ⟨q, _⟩ | ⟨g, cap', cur, hq, hBg, hcur, _⟩
      · simp at q; omega
      simp only [Value.slice.injEq] at hq
      obtain ⟨rfl, _, rfl⟩ := hq
      clear hcur
      obtain ⟨p1, p2⟩ := mcells_get cs j hjc
      have P1 := hide p1
      have P2 := hide p2
      have hlen2 := (unhide hOj).1
      have HM : Hid (∀ (zz : Nat) (u : World), 0 < zz → zz ≤ 10000000 → Calls Tryz.prog 126 #[.int .i64 (zz : Int)] u fun e w' => e = .returned (.string (mt zz)) ∧ Below u.heap.size u w') := fun zz u q1 q2 => markText_any zz u q1 q2
      clear p1 p2
      have f0 := (unhide hOj).frozenAt (j * 2)
      have e0 : wr.cell? ⟨g, j * 2, none⟩ = some (.int .i64 (cs.getD j noMo).1) := ((unhide hOj).cellAt (j * 2) (by omega)).trans P1.out
      obtain ⟨s1, s2⟩ := (unhide hOj).stored (j * 2) (.int .i64 (z : Int))
      have HS1 := hide s1
      have HG1 := hide ((unhide hG).trans s2)
      clear s1 s2 hOj hG
      go_wp2_with fail
      have hcast : (z : Int) + 1 = ((z + 1 : Nat) : Int) := by omega
      rw [hcast]
      refine (HM.out (z + 1) _ (by omega) (by omega)).mono ?_
      rw [← hcast]
      rintro e w3 ⟨rfl, hb3⟩
      have hO3 := own_below' (unhide HS1) hb3
      have hG3 := grown_below' (unhide HG1) hb3
      have f1 := hO3.frozenAt (j * 2 + 1)
      have e1 : w3.cell? ⟨g, j * 2 + 1, none⟩ = some (.string (cs.getD j noMo).2) := by
        rw [hO3.cellAt (j * 2 + 1) (by omega), List.getElem?_set_ne (by omega)]; exact P2.out
      obtain ⟨s1, s2⟩ := hO3.stored (j * 2 + 1) (.string (mt (z + 1)))
      rw [mcells_set cs j ((z : Int), mt (z + 1)) hjc, HST.out] at s1
      generalize mt (z + 1) = y2 at s1 s2 ⊢
      have HS3 := hide s1
      have HG3' := hide (hG3.trans s2)
      clear s1 s2 hO3 hG3 hb3 HS1 HG1 hcast e0 f0
      go_wp2_with fail
      go_roundw
      case rel => exact ⟨j + 1, z + 2, by omega, by simp, by rw [show ((z + 2 : Nat) : Int) = (z : Int) + 1 + 1 by omega], by omega, by have := HZ.out; omega, HS3, HG3'⟩
      case measure => simp [intOf]; omega
    · have hlt2 : decide ((j : Int) < (bs.length : Int)) = false := by simp; omega
      have hjn : j = bs.length := by omega
      subst hjn
      rw [mmarkd_all] at hOj
      go_wp2_with fail
      go_ret
      refine ⟨congrArg (fun (t : Nat) => Ending.returned (.int .i64 (t : Int))) HZ.out, ?_, unhide hG⟩
      unfold OwnM
      rw [mmarks_len]
      exact unhide hOj

set_option maxRecDepth 100000 in
set_option maxHeartbeats 2000000 in
theorem heldMemOwnS_any (v : Value) (n k : Nat) (w : World) (h : MRow w v (mmarks k n)) (hk : 0 < k) (hk2 : k ≤ 2000000) (hl : n ≤ 1048576) :
    Calls Tryz.prog 129 #[v, .int .i64 (k : Int)] w fun e w' => e = .returned (.int .i64 ((k + 2 * n : Nat) : Int)) ∧ Below w.heap.size w w' := by
  have hR := hide h
  obtain ⟨ao, cap, rfl, h1, h2, _⟩ := h.form
  rw [mmarks_len] at h1 hR ⊢
  unfold maxLen at h2
  clear h
  go_enter Tryz.func129, Tryz.ntmps129
  go_wp2_with fail
  go_loopw [1, 5] (fun c i wr => ∃ j : Nat, j ≤ n ∧ i = .int .i64 (j : Int) ∧ c = .int .i64 ((k + 2 * j : Nat) : Int) ∧ Hid (Below w.heap.size w wr)) (fun _ i _ => n - (intOf i).toNat)
  case atStart => exact ⟨0, by omega, rfl, by simp, Below.refl _ _⟩
  case round =>
    obtain ⟨j, hj, rfl, rfl, hL⟩ := hrel
    have hle := hL.out.size
    by_cases hlt : j < n
    · have hlt2 : (j : Int) < (n : Int) := by omega
      have i3 : IntKind.i64.wrap ((j : Int) + 1) = (j : Int) + 1 := by simp [IntKind.wrap, IntKind.bits, IntKind.signed]; omega
      obtain ⟨ao', c1, q1, _, _, q2⟩ := (MRow.below (unhide hR) (unhide hL)).form
      rw [mmarks_len] at q1 q2
      simp only [Value.slice.injEq] at q1
      obtain ⟨rfl, _, rfl⟩ := q1
      obtain ⟨ad, rfl, hck, hcs⟩ := q2 j hlt
      rw [mmarks_get hlt] at hck hcs
      clear q2
      obtain ⟨z, hz⟩ : ∃ z : Nat, z = k + 2 * j := ⟨_, rfl⟩
      rw [← hz] at hck hcs ⊢
      dsimp only at hck hcs
      have hz1 : 0 < z := by omega
      have hz2 : z ≤ 6000000 := by omega
      have HZ := hide hz
      clear hz
      have i4 : IntKind.i64.wrap ((z : Int) + 1) = (z : Int) + 1 := by simp [IntKind.wrap, IntKind.bits, IntKind.signed]; omega
      have i5 : IntKind.i64.wrap ((z : Int) + 1 + 1) = (z : Int) + 1 + 1 := by simp [IntKind.wrap, IntKind.bits, IntKind.signed]; omega
      have HM : Hid (∀ u : World, Calls Tryz.prog 126 #[.int .i64 ((z : Int) + 1)] u fun e w' => e = .returned (.string (mt (z + 1))) ∧ Below u.heap.size u w') := fun u => by
        have := markText_any (z + 1) u (by omega) (by omega)
        rw [show ((z + 1 : Nat) : Int) = (z : Int) + 1 by omega] at this
        exact this
      generalize mt (z + 1) = y at hcs HM
      go_wp2_with fail
      go_region_held3 (fun w' => w'.cell? ⟨(ad.add (j * 2)).block, (ad.add (j * 2)).off + 1, none⟩ = some (.string y))
        ((first | exact hcs | exact pcs))
        ((go_at_call 126; refine (HM.out wr.drew).mono ?_; rintro e w2 ⟨rfl, hb2⟩; have pcs := (hb2.cell (cell_lt hcs)).trans hcs; have hL2 : Hid (Below w.heap.size w w2) := ((unhide hL).drew).trans (hb2.mono hle); clear hb2))
      go_wp2_with fail
      go_roundw
      case rel => exact ⟨j + 1, by omega, by simp, by rw [show ((k + 2 * (j + 1) : Nat) : Int) = (z : Int) + 1 + 1 by have := HZ.out; omega], hL2⟩
      case measure => simp [intOf]; omega
    · have hlt2 : decide ((j : Int) < (n : Int)) = false := by simp; omega
      have hjn : j = n := by omega
      subst hjn
      go_wp2_with fail
      go_ret
      exact ⟨rfl, unhide hL⟩
end Go.Proofs.YtabpaaahobakpaaGreat
/-
  The laws' own helpers over trees: whether two are the same; marks in one, looked up again.
-/
namespace Go.Proofs.YtabpaaahobakpaaGreat
open Go.RowKit

theorem SRow.alloc {w : World} {v : Value} {xs : List ByteArray} (h : SRow w v xs) (o : Obj) : SRow (w.alloc o) v xs := h.below ((Below.refl _ _).alloc (Nat.le_refl _) _)

set_option maxHeartbeats 1000000 in
theorem eqTreTree_any (v u : Value) (xs ys : List ByteArray) (w : World) (h : SRow w v xs) (k : SRow w u ys) :
    Calls Tryz.prog 161 #[.agg #[v], .agg #[u]] w fun e w' => e = .returned (.bool (decide (xs = ys))) ∧ Below w.heap.size w w' := by
  have hR := hide h
  have hS := hide k
  obtain ⟨ao, cap, rfl, _, _, _⟩ := h.form
  obtain ⟨bo, cap', rfl, _, _, _⟩ := k.form
  clear h k
  go_enter Tryz.func161, Tryz.ntmps161
  go_wp2_with fail
  refine (eqStringS_any _ _ xs ys _ (((unhide hR).alloc _).alloc _) (((unhide hS).alloc _).alloc _)).mono ?_
  rintro e w1 ⟨rfl, hb1⟩
  have HB1 : Hid (Below w.heap.size w w1) := (((Below.refl _ _).alloc (Nat.le_refl _) _).alloc (by simp) _).trans (hb1.mono (by simp; omega))
  clear hb1
  cases hd : decide (xs = ys) with
  | true =>
    have HD := hide hd
    clear hd
    go_wp2_with fail
    go_ret
    exact ⟨ret_bool' HD.out.symm, unhide HB1⟩
  | false =>
    have HD := hide hd
    clear hd
    go_wp2_with fail
    go_ret
    exact ⟨ret_bool' HD.out.symm, unhide HB1⟩

end Go.Proofs.YtabpaaahobakpaaGreat
/-
  The laws' own helpers over one in a group: whether two are the same; marks in one, looked up again.
-/
namespace Go.Proofs.YtabpaaahobakpaaGreat
open Go.RowKit

set_option maxRecDepth 100000 in
set_option maxHeartbeats 2000000 in
theorem eqMemMember_same (m : Mem) (ks os ks' os' : Value) (w : World) (h1 : SRow w ks m.keys) (h2 : MRow w os m.own) (h3 : SRow w ks' m.keys) (h4 : MRow w os' m.own) :
    Calls Tryz.prog 118 #[.agg (m.cells ks os), .agg (m.cells ks' os')] w fun e w' => e = .returned (.bool true) ∧ Below w.heap.size w w' := by
  obtain ⟨inn, who, keys, own, ep, init, tag⟩ := m
  have H1 := hide h1
  have H2 := hide h2
  have H3 := hide h3
  have H4 := hide h4
  obtain ⟨a1, p1, rfl, _, _, _⟩ := h1.form
  obtain ⟨a2, p2, rfl, _, _, _⟩ := h2
  obtain ⟨a3, p3, rfl, _, _, _⟩ := h3.form
  obtain ⟨a4, p4, rfl, _, _, _⟩ := h4
  clear h1 h3
  simp only at H1 H2 H3 H4 ⊢
  generalize hkl : keys.length = kl at *
  generalize hol : own.length = ol at *
  have HBA : Hid (Below w.heap.size w ((w.alloc (.cells (memC inn who (.slice a1 kl p1) (.slice a2 ol p2) ep init tag) 42)).alloc (.cells (memC inn who (.slice a3 kl p3) (.slice a4 ol p4) ep init tag) 42))) := ((Below.refl _ _).alloc (Nat.le_refl _) _).alloc (by simp) _
  have A0 := hide ((Blk.new w 42 (memC inn who (.slice a1 kl p1) (.slice a2 ol p2) ep init tag)).alloc (.cells (memC inn who (.slice a3 kl p3) (.slice a4 ol p4) ep init tag) 42))
  have b0 := Blk.new (w.alloc (.cells (memC inn who (.slice a1 kl p1) (.slice a2 ol p2) ep init tag) 42)) 42 (memC inn who (.slice a3 kl p3) (.slice a4 ol p4) ep init tag)
  rw [World.size_alloc] at b0
  have B0 := hide b0
  clear b0
  go_enter Tryz.func118, Tryz.ntmps118
  cases inn with
  | true => _
  | false => _
  all_goals
    go_wp2_with fail
    refine (eqTreTree_any _ _ keys keys _ (((unhide H1).alloc _).alloc _) (((unhide H3).alloc _).alloc _)).mono ?_
    rw [show decide (keys = keys) = true by simp]
    rintro e w1 ⟨rfl, hb1⟩
    have A1 := hide ((unhide A0).below hb1)
    have B1 := hide ((unhide B0).below hb1)
    have HB1 := hide (HBA.out.trans (hb1.mono HBA.out.size))
    have c1 := (unhide A1).cell 3
    have c2 := (unhide B1).cell 3
    simp only [List.getElem?_toArray, List.getElem?_cons_succ, List.getElem?_cons_zero] at c1 c2
    clear hb1 A0 B0 HBA
    go_wp2_with fail
    refine (eqMemOwnS_same _ _ own _ ((unhide H2).below (unhide HB1)) ((unhide H4).below (unhide HB1))).mono ?_
    rintro e w2 ⟨rfl, hb2⟩
    have A2 := hide ((unhide A1).below hb2)
    have B2 := hide ((unhide B1).below hb2)
    have HB2 := hide (HB1.out.trans (hb2.mono HB1.out.size))
    have c3 := (unhide A2).cell 4
    have c4 := (unhide B2).cell 4
    have c5 := (unhide A2).cell 5
    have c6 := (unhide B2).cell 5
    have c7 := (unhide A2).cell 6
    have c8 := (unhide B2).cell 6
    simp only [List.getElem?_toArray, List.getElem?_cons_succ, List.getElem?_cons_zero] at c3 c4 c5 c6 c7 c8
    clear hb2 A1 B1 HB1 c1 c2
    go_wp2_with fail
    go_ret
    exact ⟨rfl, unhide HB2⟩

end Go.Proofs.YtabpaaahobakpaaGreat
