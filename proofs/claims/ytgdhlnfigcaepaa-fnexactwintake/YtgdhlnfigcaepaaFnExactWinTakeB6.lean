/-
  The tree, plain: what covers covers each once; what is set, cleared, set again; trees that stay ok. No Go function in it.
-/
import Derived.Test.YtgdhlnfigcaepaaFnExactWinTakeB5
import Derived.Test.YtgdhlnfigcaepaaFnExactWinTakeB2
import Derived.Deep.RegionHeld3
import Derived.Test.YtgdhlnfigcaepaaFnExactWinTakeB3
import Derived.Test.YtgdhlnfigcaepaaFnExactWinTakeB4
import Derived.RangeFuncBox
import Derived.RangeFuncNested
import Derived.RangeFuncBound
import Derived.RangeFuncCalls
import Derived.RangeFuncLeaves
import Derived.Shelf.Abstract
import Derived.Shelf.RegionOpen
import Derived.WalkKit
import Derived.OwnWalkIn
import Derived.TacticsInMore
import Derived.LoopNIn
import Derived.LoopIn
namespace Go.Proofs.Ytgdhlnfigcaepaa
open Kw

theorem meets_top : ∀ n, n < 7 → ∀ p, p < 15 → (meets p (2 * n + 1) = 2 * n + 1 → meets p n = n) ∧ (meets p (2 * n + 2) = 2 * n + 2 → meets p n = n) := by decide
/-- What covers has keys, and lies from there down. -/
theorem cover_has (xs : List ByteArray) : ∀ n, n < 15 → ∀ p ∈ cover xs n, p < 15 ∧ keyed xs p = true ∧ meets p n = n := by
  apply down
  · intro n h h' p hp
    cases q : keyed xs n with
    | true => rw [cover_keyed xs n q] at hp; simp at hp; subst hp; exact ⟨h', q, meets_self p h'⟩
    | false => rw [cover_bare xs n q h] at hp; simp at hp
  · intro n h i1 i2 p hp
    cases q : keyed xs n with
    | true => rw [cover_keyed xs n q] at hp; simp at hp; subst hp; exact ⟨by omega, q, meets_self p (by omega)⟩
    | false =>
      rw [cover_both xs n q h] at hp
      rcases List.mem_append.1 hp with hp | hp
      · obtain ⟨a, b, c⟩ := i1 p hp
        exact ⟨a, b, (meets_top n h p a).1 c⟩
      · obtain ⟨a, b, c⟩ := i2 p hp
        exact ⟨a, b, (meets_top n h p a).2 c⟩

/-- How many of some places are above one, or it. -/
def above (ps : List Nat) (l : Nat) : Nat := (ps.filter fun p => decide (meets p l = p)).length
theorem meets_leaf : ∀ n, 7 ≤ n → n < 15 → ∀ l, 7 ≤ l → l < 15 → meets l n = n → l = n := by
  have h : ∀ n, n < 15 → 7 ≤ n → ∀ l, l < 15 → 7 ≤ l → meets l n = n → l = n := by decide
  exact fun n a b l c d => h n b a l d c
theorem meets_sum : ∀ n, n < 7 → ∀ l, l < 15 → 7 ≤ l → (if meets l (2 * n + 1) = 2 * n + 1 then 1 else 0) + (if meets l (2 * n + 2) = 2 * n + 2 then 1 else 0) = if meets l n = n then 1 else 0 := by decide
/-- Each one with a key is covered once, where it lies from there down; where it does not, it is not. -/
theorem cover_count (xs : List ByteArray) (l : Nat) (h7 : 7 ≤ l) (hl : l < 15) (hk : keyed xs l = true) : ∀ n, n < 15 → above (cover xs n) l = if meets l n = n then 1 else 0 := by
  have one : ∀ n, n < 15 → above [n] l = if meets l n = n then 1 else 0 := by
    intro n hn
    unfold above
    rw [meets_comm l hl n hn]
    by_cases h : meets n l = n
    · simp [h]
    · simp [h]
  apply down
  · intro n h h'
    cases q : keyed xs n with
    | true => rw [cover_keyed xs n q]; exact one n h'
    | false =>
      rw [cover_bare xs n q h, if_neg]
      · rfl
      · intro e
        rw [meets_leaf n h h' l h7 hl e, q] at hk
        cases hk
  · intro n h i1 i2
    cases q : keyed xs n with
    | true => rw [cover_keyed xs n q]; exact one n (by omega)
    | false =>
      rw [cover_both xs n q h]
      have e : above (cover xs (2 * n + 1) ++ cover xs (2 * n + 2)) l = above (cover xs (2 * n + 1)) l + above (cover xs (2 * n + 2)) l := by unfold above; rw [List.filter_append, List.length_append]
      rw [e, i1, i2]
      exact meets_sum n h l hl h7

theorem getD_set (xs : List ByteArray) (p k : Nat) (y : ByteArray) : (xs.set p y).getD k ByteArray.empty = if p = k ∧ k < xs.length then y else xs.getD k ByteArray.empty := by
  rw [List.getD_eq_getElem?_getD, List.getD_eq_getElem?_getD, List.getElem?_set]
  by_cases h : p = k
  · subst h
    by_cases h2 : p < xs.length
    · simp [h2]
    · simp [h2]
  · simp [h]

theorem wipe_len (ps : List Nat) : ∀ xs, (wipe xs ps).length = xs.length := by
  induction ps with
  | nil => intro xs; rfl
  | cons p ps ih => intro xs; show (wipe (xs.set p ByteArray.empty) ps).length = _; rw [ih]; simp
theorem wipe_at (ps : List Nat) : ∀ xs k, (wipe xs ps).getD k ByteArray.empty = if k ∈ ps then ByteArray.empty else xs.getD k ByteArray.empty := by
  induction ps with
  | nil => intro xs k; simp [wipe]
  | cons p ps ih =>
    intro xs k
    show (wipe (xs.set p ByteArray.empty) ps).getD k ByteArray.empty = _
    rw [ih, getD_set]
    by_cases h : k ∈ ps
    · simp [h]
    · by_cases h2 : p = k
      · subst h2
        by_cases h3 : p < xs.length
        · simp [h, h3]
        · simp [h, h3]
      · have : ¬ k = p := fun e => h2 e.symm
        simp [h, h2, this]
theorem fill_len (ps : List Nat) : ∀ xs s, (fill xs s ps).length = xs.length := by
  induction ps with
  | nil => intro xs s; rfl
  | cons p ps ih => intro xs s; show (fill (xs.set p (mkKey s)) (mkNext s) ps).length = _; rw [ih]; simp
theorem fill_out (ps : List Nat) : ∀ xs s k, ¬ k ∈ ps → (fill xs s ps).getD k ByteArray.empty = xs.getD k ByteArray.empty := by
  induction ps with
  | nil => intro xs s k _; rfl
  | cons p ps ih =>
    intro xs s k h
    show (fill (xs.set p (mkKey s)) (mkNext s) ps).getD k ByteArray.empty = _
    have h1 : ¬ k = p := fun e => h (by simp [e])
    rw [ih _ _ k (fun e => h (by simp [e])), getD_set, if_neg (fun e => h1 e.1.symm)]
theorem fill_in (ps : List Nat) : ∀ xs ys s k, k ∈ ps → xs.length = ys.length → (fill xs s ps).getD k ByteArray.empty = (fill ys s ps).getD k ByteArray.empty := by
  induction ps with
  | nil => intro xs ys s k h; cases h
  | cons p ps ih =>
    intro xs ys s k h e
    show (fill (xs.set p (mkKey s)) (mkNext s) ps).getD k ByteArray.empty = (fill (ys.set p (mkKey s)) (mkNext s) ps).getD k ByteArray.empty
    by_cases hk : k ∈ ps
    · exact ih _ _ _ k hk (by simp [e])
    · have hkp : k = p := by simpa [hk] using h
      subst hkp
      rw [fill_out _ _ _ _ hk, fill_out _ _ _ _ hk, getD_set, getD_set, e]
      by_cases q : k < ys.length
      · simp [q]
      · rw [if_neg (fun z => q z.2), if_neg (fun z => q z.2), List.getD_eq_getElem?_getD, List.getD_eq_getElem?_getD, List.getElem?_eq_none (by omega), List.getElem?_eq_none (by omega)]

/-- Cleared behind set is cleared. -/
theorem wipe_fill (ps : List Nat) (xs : List ByteArray) (s : ByteArray) : wipe (fill xs s ps) ps = wipe xs ps := by
  apply rows_eq
  · rw [wipe_len, wipe_len, fill_len]
  · intro k _
    rw [wipe_at, wipe_at]
    by_cases h : k ∈ ps
    · simp [h]
    · rw [if_neg h, if_neg h, fill_out _ _ _ _ h]
theorem wipe_twice (ps : List Nat) (xs : List ByteArray) : wipe (wipe xs ps) ps = wipe xs ps := by
  apply rows_eq
  · rw [wipe_len]
  · intro k _
    rw [wipe_at, wipe_at]
    by_cases h : k ∈ ps <;> simp [h]
theorem wipe_swap (ps qs : List Nat) (xs : List ByteArray) : wipe (wipe xs ps) qs = wipe (wipe xs qs) ps := by
  apply rows_eq
  · rw [wipe_len, wipe_len, wipe_len, wipe_len]
  · intro k _
    rw [wipe_at, wipe_at, wipe_at, wipe_at]
    by_cases h : k ∈ ps <;> by_cases h2 : k ∈ qs <;> simp [h, h2]
/-- Set by one, and then by another one. -/
theorem fill_two (ps qs : List Nat) (xs : List ByteArray) (s u : ByteArray) (k : Nat) :
    (fill (fill xs s ps) u qs).getD k ByteArray.empty = if k ∈ qs then (fill xs u qs).getD k ByteArray.empty else (fill xs s ps).getD k ByteArray.empty := by
  by_cases h : k ∈ qs
  · rw [if_pos h]; exact fill_in _ _ _ _ _ h (fill_len _ _ _)
  · rw [if_neg h]; exact fill_out _ _ _ _ h

theorem all_getD {xs : List ByteArray} (p : ByteArray → Bool) : xs.all p = true ↔ ∀ k, k < xs.length → p (xs.getD k ByteArray.empty) = true := by
  rw [List.all_eq_true]
  constructor
  · intro h k hk; exact h _ (getD_mem hk)
  · intro h x hx
    obtain ⟨k, hk, rfl⟩ := mem_getD hx
    exact h k hk
theorem treOk_iff {xs : List ByteArray} : treOk xs = true ↔ xs.length = 15 ∧ ∀ k, k < xs.length → keyOk (xs.getD k ByteArray.empty) = true := by
  unfold treOk
  rw [Bool.and_eq_true, all_getD]
  simp
theorem keyOk_none : keyOk ByteArray.empty = true := by simp [keyOk]
theorem keyOk_set {xs : List ByteArray} {p : Nat} {y : ByteArray} (h : treOk xs = true) (hy : keyOk y = true) : treOk (xs.set p y) = true := by
  obtain ⟨h1, h2⟩ := treOk_iff.1 h
  refine treOk_iff.2 ⟨by simpa using h1, fun k hk => ?_⟩
  rw [List.length_set] at hk
  rw [getD_set]
  split
  · exact hy
  · exact h2 k hk
theorem treOk_wipe (ps : List Nat) : ∀ xs, treOk xs = true → treOk (wipe xs ps) = true := by
  induction ps with
  | nil => intro xs h; exact h
  | cons p ps ih => intro xs h; exact ih _ (keyOk_set h keyOk_none)
theorem keyOk_key {s : ByteArray} (h : ok s = true) (hs : s.size < 300) : keyOk (mkKey s) = true := by
  have m := made_key h hs
  have e : mkKey s = keyT s := by unfold mkKey; rw [if_pos h, cap_self m.1]
  rw [e]
  unfold keyOk
  rw [m.1, m.2.1]
  simp
theorem next_ok {s : ByteArray} (h : ok s = true) (hs : s.size < 300) : ok (mkNext s) = true ∧ (mkNext s).size = s.size + 1 := by
  have m := made_next h hs
  have e : mkNext s = nextT s := by unfold mkNext; rw [if_pos h, cap_self m.1]
  rw [e]
  exact ⟨m.1, by have := next_size s; omega⟩
theorem treOk_fill (ps : List Nat) : ∀ xs s, treOk xs = true → ok s = true → s.size + ps.length ≤ 300 → treOk (fill xs s ps) = true := by
  induction ps with
  | nil => intro xs s h _ _; exact h
  | cons p ps ih =>
    intro xs s h hs hl
    simp only [List.length_cons] at hl
    obtain ⟨n1, n2⟩ := next_ok hs (by omega)
    exact ih _ _ (keyOk_set h (keyOk_key hs (by omega))) n1 (by omega)
#print axioms treOk_fill
end Go.Proofs.Ytgdhlnfigcaepaa
/-
  The spec's covers: l3Cover.
-/
namespace Go.Proofs.Ytgdhlnfigcaepaa
open Go.RowKit

def ints (ps : List Nat) : List Int := ps.map fun (k : Nat) => (k : Int)
/-- What l3Cover leaves. -/
def Covers (xs : List ByteArray) (n : Nat) (w : World) (e : Ending) (w' : World) : Prop := ∃ u, e = .returned u ∧ OwnI w.heap.size w' u (ints (cover xs n)) ∧ Below w.heap.size w w'

theorem nil_text : (ByteArray.empty).toList = [] := by decide +kernel
theorem no_text {x : ByteArray} (h : ¬ x = ByteArray.empty) : ¬ x.toList = [] := by
  intro e
  exact h ((toList_eq (x := x) (y := ByteArray.empty)).1 (by rw [e, nil_text]; rfl))

end Go.Proofs.Ytgdhlnfigcaepaa
/-
  TreOk of both sides.
-/
namespace Go.Proofs.Ytgdhlnfigcaepaa
open Go.RowKit Kw

theorem keyOk_op (y : ByteArray) : keyOk y = (decide (y = ByteArray.empty) || decide (mOp y = 3)) := by
  unfold keyOk
  cases h : Kw.ok y with
  | true => simp
  | false =>
    have : mOp y = 0 := by unfold mOp; rw [if_neg (by rw [h]; simp)]
    rw [this]
    simp
theorem treOk_short {xs : List ByteArray} (h : xs.length ≠ 15) : treOk xs = false := by unfold treOk; simp [h]
theorem treOk_bad {xs : List ByteArray} {k : Nat} (hk : k < xs.length) (h : keyOk (xs.getD k ByteArray.empty) = false) : treOk xs = false := by
  cases q : treOk xs with
  | false => rfl
  | true => rw [(treOk_iff.1 q).2 k hk] at h; cases h
theorem treOk_good {xs : List ByteArray} (hl : xs.length = 15) (h : ∀ j, j < 15 → keyOk (xs.getD j ByteArray.empty) = true) : treOk xs = true := treOk_iff.2 ⟨hl, fun k hk => h k (by omega)⟩

end Go.Proofs.Ytgdhlnfigcaepaa
/-
  What TreClear and TreSet answer, plain; stores into rows of texts. No Go function in it.
-/
namespace Go.Proofs.Ytgdhlnfigcaepaa
open Go.RowKit Kw

theorem keyOk_small {x : ByteArray} (h : keyOk x = true) : x.size ≤ 300 := by
  unfold keyOk at h
  by_cases he : x = ByteArray.empty
  · subst he; show (0 : Nat) ≤ 300; omega
  · simp [he] at h
    exact (ok_facts h.1).1
theorem treOk_small {xs : List ByteArray} (h : treOk xs = true) : ∀ x ∈ xs, x.size ≤ 300 := by
  intro x hx
  obtain ⟨k, hk, rfl⟩ := mem_getD hx
  exact keyOk_small ((treOk_iff.1 h).2 k hk)
/-- What TreClear answers. -/
def clrRes (xs : List ByteArray) (p : Int) : List ByteArray := if treOk xs = true ∧ 0 ≤ p ∧ p ≤ 7 then clearOf xs p.toNat else []
theorem clearOf_len (xs : List ByteArray) (k : Nat) : (clearOf xs k).length = xs.length := wipe_len _ _
theorem clrRes_len (xs : List ByteArray) (p : Int) : (clrRes xs p).length ≤ 15 := by
  unfold clrRes
  split
  · next h => rw [clearOf_len, (treOk_iff.1 h.1).1]; omega
  · simp
theorem clrRes_no {xs : List ByteArray} {p : Int} (h : ¬ (treOk xs = true ∧ 0 ≤ p ∧ p ≤ 7)) : clrRes xs p = [] := by unfold clrRes; rw [if_neg h]
theorem clrRes_yes {xs : List ByteArray} {k : Nat} (h : treOk xs = true) (hk : k < 8) : clrRes xs (k : Int) = clearOf xs k := by unfold clrRes; rw [if_pos ⟨h, by omega, by omega⟩]; rfl
theorem clear_small {xs : List ByteArray} {M : Nat} (h : ∀ x ∈ xs, x.size ≤ M) (k : Nat) : ∀ x ∈ clearOf xs k, x.size ≤ M := by
  intro x hx
  obtain ⟨j, hj, rfl⟩ := mem_getD hx
  unfold clearOf
  rw [wipe_at]
  split
  · show (0 : Nat) ≤ M; omega
  · rw [clearOf_len] at hj
    exact h _ (getD_mem hj)
theorem wipe_snoc (xs : List ByteArray) (ps : List Nat) (p : Nat) : wipe xs (ps ++ [p]) = (wipe xs ps).set p ByteArray.empty := by unfold wipe; rw [List.foldl_append]; rfl

/-- A row of fifteen texts, written out. -/
theorem row15 {B : Nat} {w : World} {v : Value} {zs : List Value} (h : w.ownsRow B 9 1 v 15 zs) : ∃ g cap, v = .slice (some ⟨g, 0, none⟩) 15 cap ∧ B ≤ g ∧ g < w.heap.size ∧ 15 ≤ cap ∧ cap ≤ maxLen := by
  have hh := h
  rcases h.2 with ⟨_, q⟩ | ⟨g, cap, cur, rfl, h1, h2, h3, h4, h5, h6⟩
  · omega
  · exact ⟨g, cap, rfl, h1, (hh.lt g rfl).2, h3, h4⟩
/-- What a store at a place of it wants, and leaves. -/
theorem row15_set {B : Nat} {w : World} {g cap : Nat} {xs : List ByteArray} (hl : xs.length = 15) (h : w.ownsRow B 9 1 (.slice (some ⟨g, 0, none⟩) 15 cap) 15 (xs.map Value.string)) (j : Nat) (hj : j < 15) (y : ByteArray) :
    w.cell? ⟨g, j, none⟩ = some (.string (xs.getD j ByteArray.empty)) ∧ w.frozen? ⟨g, j, none⟩ = false ∧ (w.setCell ⟨g, j, none⟩ (.string y)).ownsRow B 9 1 (.slice (some ⟨g, 0, none⟩) 15 cap) 15 ((xs.set j y).map Value.string) ∧ w.grownBy (w.setCell ⟨g, j, none⟩ (.string y)) (some g) := by
  refine ⟨?_, h.frozenAt j, ?_⟩
  · rw [h.cellAt j (by omega), List.getElem?_map, List.getElem?_eq_getElem (by omega), List.getD_eq_getElem?_getD, List.getElem?_eq_getElem (by omega)]; rfl
  · obtain ⟨s1, s2⟩ := h.stored j (.string y)
    rw [List.map_set]
    exact ⟨s1, s2⟩
theorem grown_drew {w w' : World} {r : Option Nat} (h : w.grownBy w' r) : w.grownBy w'.drew r := ⟨h.os, h.tape, h.output, h.size, h.block⟩
theorem grown_below0 {wr u u' : World} {r : Option Nat} (h : wr.grownBy u r) (hb : Below u.heap.size u u') : wr.grownBy u' r :=
  ⟨hb.os.trans h.os, hb.tape.trans h.tape, hb.output.trans h.output, Nat.le_trans h.size hb.size, fun k hk hr => (hb.block k (Nat.lt_of_lt_of_le hk h.size)).trans (h.block k hk hr)⟩
end Go.Proofs.Ytgdhlnfigcaepaa
/-
  What TreSet answers, plain. No Go function in it.
-/
namespace Go.Proofs.Ytgdhlnfigcaepaa
open Go.RowKit Kw

/-- The secret so many places above. -/
def nextN (s : ByteArray) : Nat → ByteArray
  | 0 => s
  | n + 1 => mkNext (nextN s n)
theorem nextN_in (s : ByteArray) : ∀ n, nextN (mkNext s) n = nextN s (n + 1)
  | 0 => rfl
  | n + 1 => by show mkNext (nextN (mkNext s) n) = mkNext (nextN s (n + 1)); rw [nextN_in s n]
theorem fill_snoc (ps : List Nat) (p : Nat) : ∀ xs s, fill xs s (ps ++ [p]) = (fill xs s ps).set p (mkKey (nextN s ps.length)) := by
  induction ps with
  | nil => intro xs s; rfl
  | cons q ps ih =>
    intro xs s
    show fill (xs.set q (mkKey s)) (mkNext s) (ps ++ [p]) = (fill (xs.set q (mkKey s)) (mkNext s) ps).set p (mkKey (nextN s (ps.length + 1)))
    rw [ih, nextN_in]
/-- What TreSet wants of a secret. -/
def maySet (s : ByteArray) : Bool := Kw.ok s && decide (s.size ≤ 292)
def setRes (xs : List ByteArray) (p : Int) (s : ByteArray) : List ByteArray := if (treOk xs = true ∧ 0 ≤ p ∧ p ≤ 7) ∧ maySet s = true then setKeys xs p.toNat s else []
theorem setKeys_len (xs : List ByteArray) (k : Nat) (s : ByteArray) : (setKeys xs k s).length = xs.length := fill_len _ _ _
theorem setRes_len (xs : List ByteArray) (p : Int) (s : ByteArray) : (setRes xs p s).length ≤ 15 := by
  unfold setRes
  split
  · next h => rw [setKeys_len, (treOk_iff.1 h.1.1).1]; omega
  · simp
theorem setRes_no {xs : List ByteArray} {p : Int} {s : ByteArray} (h : ¬ ((treOk xs = true ∧ 0 ≤ p ∧ p ≤ 7) ∧ maySet s = true)) : setRes xs p s = [] := by unfold setRes; rw [if_neg h]
theorem setRes_yes {xs : List ByteArray} {k : Nat} {s : ByteArray} (h : treOk xs = true) (hk : k < 8) (hs : maySet s = true) : setRes xs (k : Int) s = setKeys xs k s := by unfold setRes; rw [if_pos ⟨⟨h, by omega, by omega⟩, hs⟩]; rfl
theorem nextN_size (s : ByteArray) (hs : s.size ≤ 300) : ∀ n, (nextN s n).size ≤ 300
  | 0 => hs
  | n + 1 => by
    show (mkNext (nextN s n)).size ≤ 300
    unfold mkNext
    split
    · unfold cap; split
      · assumption
      · show (0 : Nat) ≤ 300; omega
    · show (0 : Nat) ≤ 300; omega
theorem treOk_set {xs : List ByteArray} {k : Nat} {s : ByteArray} (h : treOk xs = true) (hk : k < 8) (hs : maySet s = true) : treOk (setKeys xs k s) = true := by
  unfold maySet at hs
  simp at hs
  have := ups_len (7 + k) (by omega)
  exact treOk_fill _ _ _ h hs.1 (by simp; omega)
theorem treOk_clear {xs : List ByteArray} {k : Nat} (h : treOk xs = true) : treOk (clearOf xs k) = true := treOk_wipe _ _ h
end Go.Proofs.Ytgdhlnfigcaepaa
/-
  The program's places: whether one is there, the place over it, the place of one; TreLeaf.
-/
namespace Go.Proofs.Ytgdhlnfigcaepaa
open Go.RowKit

/-- The place under which one lies. -/
def overOf (p : Int) : Int := if 1 ≤ p ∧ p ≤ 14 then (p - 1) / 2 else -1
/-- A place, and all above it. -/
def chainOf (p : Int) : List Int := if 0 ≤ p ∧ p ≤ 14 then p :: upOf p else []
theorem upOf_nat (k : Nat) (h : k < 15) : upOf (k : Int) = (ups k).map (fun (k : Nat) => (k : Int)) := by
  unfold upOf; rw [if_pos (by omega)]; rfl
theorem upOf_chain (p : Int) : upOf p = chainOf (overOf p) := by
  by_cases h : 0 ≤ p ∧ p ≤ 14
  · obtain ⟨k, rfl⟩ : ∃ k : Nat, p = (k : Int) := ⟨p.toNat, by omega⟩
    have hk : k < 15 := by omega
    by_cases h0 : 0 < k
    · have e : overOf (k : Int) = (((k - 1) / 2 : Nat) : Int) := by unfold overOf; rw [if_pos (by omega)]; omega
      rw [e, upOf_nat k hk, ups_step k hk h0]
      unfold chainOf
      rw [if_pos (by omega), upOf_nat _ (by omega)]
      rfl
    · obtain rfl : k = 0 := by omega
      rfl
  · have e : overOf p = -1 := by unfold overOf; rw [if_neg (by omega)]
    rw [e]
    unfold upOf
    rw [if_neg h]
    rfl
theorem chain_cons (p : Int) (h : 0 ≤ p ∧ p ≤ 14) : chainOf p = p :: chainOf (overOf p) := by
  rw [← upOf_chain]; unfold chainOf; rw [if_pos h]
theorem chain_nil (p : Int) (h : ¬ (0 ≤ p ∧ p ≤ 14)) : chainOf p = [] := by unfold chainOf; rw [if_neg h]
theorem over_lt (p : Int) (h : 0 ≤ p) : overOf p < p ∧ -1 ≤ overOf p := by unfold overOf; split <;> omega
theorem over_wrap (p : Int) (h0 : 1 ≤ p) (h : p ≤ 14) : IntKind.i64.wrap (p - 1) = p - 1 ∧ IntKind.i64.wrap ((p - 1).tdiv 2) = overOf p := by
  constructor
  · simp [IntKind.wrap, IntKind.bits, IntKind.signed]; omega
  · rw [Int.tdiv_eq_ediv_of_nonneg (by omega)]
    unfold overOf
    rw [if_pos ⟨h0, h⟩]
    simp [IntKind.wrap, IntKind.bits, IntKind.signed]
    omega

end Go.Proofs.Ytgdhlnfigcaepaa
/-
  Rows of secrets with their places (MemOwn).
-/
namespace Go.Proofs.Ytgdhlnfigcaepaa
open Go.RowKit Go.Shelf

abbrev Mo := Int × ByteArray
def noMo : Mo := (0, ByteArray.empty)
/-- A slice holds these: each a place, and a secret. -/
def MRow (w : World) (v : Value) (bs : List Mo) : Prop :=
  ∃ (ao : Option Addr) (cap : Nat), v = .slice ao bs.length cap ∧ bs.length ≤ cap ∧ cap ≤ maxLen ∧ ∀ i, i < bs.length → ∃ a, ao = some a ∧ w.cell? (a.add (i * 2)) = some (.int .i64 (bs.getD i noMo).1) ∧ w.cell? ((a.add (i * 2)).add 1) = some (.string (bs.getD i noMo).2)
theorem MRow.below {w w' : World} {v : Value} {bs : List Mo} (h : MRow w v bs) (hb : Below w.heap.size w w') : MRow w' v bs := by
  obtain ⟨ao, cap, h1, h2, h3, h4⟩ := h
  refine ⟨ao, cap, h1, h2, h3, fun i hi => ?_⟩
  obtain ⟨a, q1, q2, q3⟩ := h4 i hi
  exact ⟨a, q1, (hb.cell (cell_lt q2)).trans q2, (hb.cell (cell_lt q3)).trans q3⟩
theorem add_oneM (x : Addr) : x.add 1 = ⟨x.block, x.off + 1, none⟩ := Addr.add_succ' x 0
theorem MRow.form {w : World} {v : Value} {bs : List Mo} (h : MRow w v bs) :
    ∃ (ao : Option Addr) (cap : Nat), v = .slice ao bs.length cap ∧ bs.length ≤ cap ∧ cap ≤ maxLen ∧ ∀ i, i < bs.length → ∃ a, ao = some a ∧ w.cell? (a.add (i * 2)) = some (.int .i64 (bs.getD i noMo).1) ∧ w.cell? ⟨(a.add (i * 2)).block, (a.add (i * 2)).off + 1, none⟩ = some (.string (bs.getD i noMo).2) := by
  obtain ⟨ao, cap, h1, h2, h3, h4⟩ := h
  refine ⟨ao, cap, h1, h2, h3, fun i hi => ?_⟩
  obtain ⟨a, q1, q2, q3⟩ := h4 i hi
  exact ⟨a, q1, q2, by rw [← add_oneM]; exact q3⟩
theorem getM_mem {bs : List Mo} {k : Nat} (h : k < bs.length) : bs.getD k noMo ∈ bs := by
  rw [List.getD_eq_getElem?_getD, List.getElem?_eq_getElem h]
  exact List.getElem_mem h

/-- Cell by cell. -/
def mcells (bs : List Mo) : List Value := bs.flatMap fun b => [.int .i64 b.1, .string b.2]
theorem mcells_snoc (bs : List Mo) (b : Mo) : mcells (bs ++ [b]) = mcells bs ++ [.int .i64 b.1, .string b.2] := by simp [mcells]
theorem mcells_get : ∀ (bs : List Mo) (i : Nat), i < bs.length → (mcells bs)[i * 2]? = some (.int .i64 (bs.getD i noMo).1) ∧ (mcells bs)[i * 2 + 1]? = some (.string (bs.getD i noMo).2)
  | [], i, h => absurd h (Nat.not_lt_zero _)
  | b :: bs, 0, _ => by simp [mcells]
  | b :: bs, i + 1, h => by
    have := mcells_get bs i (by simpa using h)
    rw [show (i + 1) * 2 = i * 2 + 1 + 1 by omega]
    simpa [mcells] using this

/-- Rows of two types lie apart. -/
theorem row_apart {w : World} {B B' : Nat} {e e' : TypeId} {size size' : Nat} {v v' : Value} {n n' : Nat} {xs xs' : List Value} (h : w.ownsRow B e size v n xs) (k : w.ownsRow B' e' size' v' n' xs') (hne : e ≠ e') : v.ownBlock = none ∨ v.ownBlock ≠ v'.ownBlock := by
  rcases h.2 with ⟨rfl, _⟩ | ⟨g, cap, cur, rfl, _, hgb, _⟩
  · exact .inl rfl
  · rcases k.2 with ⟨rfl, _⟩ | ⟨g', cap', cur', rfl, _, hgb', _⟩
    · exact .inr (by simp [Value.ownBlock])
    · refine .inr (fun q => ?_)
      obtain rfl : g = g' := by simpa [Value.ownBlock] using q
      have := hgb.symm.trans hgb'
      simp at this
      exact hne this.2

/-- Secrets made one from the other, at places. -/
def pathOf : List Int → ByteArray → List Mo
  | [], _ => []
  | p :: ps, s => (p, s) :: pathOf ps (mkNext s)
theorem pathOf_len : ∀ (ps : List Int) (s : ByteArray), (pathOf ps s).length = ps.length
  | [], _ => rfl
  | _ :: ps, s => by simp [pathOf, pathOf_len ps]
theorem pathOf_snoc : ∀ (ps : List Int) (x : Int) (s : ByteArray), pathOf (ps ++ [x]) s = pathOf ps s ++ [(x, nextN s ps.length)]
  | [], _, _ => rfl
  | p :: ps, x, s => by
    show (p, s) :: pathOf (ps ++ [x]) (mkNext s) = (p, s) :: (pathOf ps (mkNext s) ++ _)
    rw [pathOf_snoc ps, nextN_in]
    rfl
end Go.Proofs.Ytgdhlnfigcaepaa
/-
  One in a group, as a value and in memory.
-/
namespace Go.Proofs.Ytgdhlnfigcaepaa
open Go.RowKit

/-- One in a group. -/
structure Mem where
  inn : Bool
  who : Int
  keys : List ByteArray
  own : List Mo
  ep : Int
  init : ByteArray
  tag : ByteArray
deriving DecidableEq
/-- None. -/
def Mem.none : Mem := ⟨false, 0, [], [], 0, ⟨#[]⟩, ⟨#[]⟩⟩

/-- Its cells. -/
abbrev memC (i : Bool) (who : Int) (ks os : Value) (ep : Int) (init tag : ByteArray) : Array Value := #[.bool i, .int .i64 who, ks, os, .int .i64 ep, .string init, .string tag]
abbrev noMem : Array Value := memC false 0 (.slice none 0 0) (.slice none 0 0) 0 ⟨#[]⟩ ⟨#[]⟩
abbrev Mem.cells (m : Mem) (ks os : Value) : Array Value := memC m.inn m.who ks os m.ep m.init m.tag
/-- A value is one in a group, its rows to be read. -/
def MemR (w : World) (v : Value) (m : Mem) : Prop := ∃ ks os, v = .agg (m.cells ks os) ∧ SRow w ks m.keys ∧ MRow w os m.own
theorem MemR.below {w w' : World} {v : Value} {m : Mem} (h : MemR w v m) (hb : Below w.heap.size w w') : MemR w' v m := by
  obtain ⟨ks, os, h1, h2, h3⟩ := h
  exact ⟨ks, os, h1, h2.below hb, h3.below hb⟩
theorem one_mm (i : Bool) (who : Int) (a : Option Addr) (l c : Nat) (a' : Option Addr) (l' c' : Nat) (ep : Int) (init tag : ByteArray) : (memC i who (.slice a l c) (.slice a' l' c') ep init tag).all (·.oneCell') = true := by simp [Value.oneCell']
end Go.Proofs.Ytgdhlnfigcaepaa
/-
  The program's iterators: upward, above.
-/
namespace Go.Proofs.Ytgdhlnfigcaepaa
open Go.RowKit Go.Shelf
attribute [local go_sem] Oper.semAt_some

end Go.Proofs.Ytgdhlnfigcaepaa
/-
  The program's iterator upward, told of places that are there.
-/
namespace Go.Proofs.Ytgdhlnfigcaepaa
open Go.RowKit Go.Shelf
attribute [local go_sem] Oper.semAt_some

/-- A place, and all above it, as places that are there. -/
def chainT (k : Fin 15) : List (Fin 15) := k :: (ups k.val).map (fun j => Fin.ofNat 15 j)
theorem chainT_val : ∀ k : Fin 15, (chainT k).map (·.val) = k.val :: ups k.val := by decide
theorem chainT_zero : chainT 0 = [0] := by decide
theorem chainT_step : ∀ k : Fin 15, 0 < k.val → chainT k = k :: chainT (Fin.ofNat 15 ((k.val - 1) / 2)) := by decide
theorem chainT_len : ∀ k : Fin 15, (chainT k).length ≤ 4 := by decide
def chainF (p : Int) : List (Fin 15) := if h : 0 ≤ p ∧ p ≤ 14 then chainT ⟨p.toNat, by omega⟩ else []
theorem chainF_nil (p : Int) (h : ¬ (0 ≤ p ∧ p ≤ 14)) : chainF p = [] := by unfold chainF; rw [dif_neg h]
theorem chainF_nat (k : Nat) (h : k < 15) : chainF (k : Int) = chainT ⟨k, h⟩ := by unfold chainF; rw [dif_pos (by omega)]; rfl
theorem chainF_cons (k : Nat) (h : k < 15) : chainF (k : Int) = ⟨k, h⟩ :: chainF (overOf (k : Int)) := by
  rw [chainF_nat k h]
  by_cases h0 : 0 < k
  · have e : overOf (k : Int) = (((k - 1) / 2 : Nat) : Int) := by unfold overOf; rw [if_pos (by omega)]; omega
    rw [e, chainF_nat _ (by omega), chainT_step ⟨k, h⟩ h0]
    congr 2
    apply Fin.ext
    show ((k - 1) / 2) % 15 = (k - 1) / 2
    omega
  · obtain rfl : k = 0 := by omega
    rfl

end Go.Proofs.Ytgdhlnfigcaepaa
/-
  The program's TreLeaf.
-/
namespace Go.Proofs.Ytgdhlnfigcaepaa
open Go.RowKit

end Go.Proofs.Ytgdhlnfigcaepaa
/-
  Contracts of MakNext, MakKey and MakEpoch, the program's and the specification's.
-/
namespace Go.Proofs.Ytgdhlnfigcaepaa
open Go.RowKit

theorem cap_yes {x : ByteArray} (h : x.size ≤ 300) : cap x = x := by unfold cap; rw [if_pos h]
theorem cap_no {x : ByteArray} (h : 300 < x.size) : cap x = ⟨#[]⟩ := by unfold cap; rw [if_neg (by omega)]

theorem method_next (x : Value) (w : World) : (method 249 99 x "loop.example/keyward/impl.name").run Try.prog w = .ok (125, x) w := by kernel_rfl
theorem method_key (x : Value) (w : World) : (method 249 100 x "loop.example/keyward/impl.name").run Try.prog w = .ok (126, x) w := by kernel_rfl
theorem method_epoch (x : Value) (w : World) : (method 249 102 x "loop.example/keyward/impl.name").run Try.prog w = .ok (127, x) w := by kernel_rfl

set_option maxHeartbeats 400000 in
theorem nextName_any (s : ByteArray) (w : World) (hs : s.size ≤ 300) :
    Calls Try.prog 125 #[.agg #[.string s]] w fun e w' => e = .returned (.string (nextT s)) ∧ Below w.heap.size w w' := by
  go_enter Try.func125, Try.ntmps125
  go_wp2
  go_ret
  exact ⟨ret_str rfl, (Below.refl _ _).alloc (Nat.le_refl _) _⟩

set_option maxHeartbeats 400000 in
theorem keyName_any (s : ByteArray) (w : World) (hs : s.size ≤ 300) :
    Calls Try.prog 126 #[.agg #[.string s]] w fun e w' => e = .returned (.string (keyT s)) ∧ Below w.heap.size w w' := by
  go_enter Try.func126, Try.ntmps126
  go_wp2
  go_ret
  exact ⟨ret_str rfl, (Below.refl _ _).alloc (Nat.le_refl _) _⟩

set_option maxHeartbeats 400000 in
theorem epochName_any (a b : ByteArray) (w : World) (ha : a.size ≤ 300) (hb : b.size ≤ 300) :
    Calls Try.prog 127 #[.agg #[.string a, .string b]] w fun e w' => e = .returned (.string (epochT a b)) ∧ Below w.heap.size w w' := by
  go_enter Try.func127, Try.ntmps127
  go_wp2
  go_ret
  exact ⟨ret_str rfl, (Below.refl _ _).alloc (Nat.le_refl _) _⟩

set_option maxRecDepth 100000 in
set_option maxHeartbeats 400000 in
theorem nameOf_next (s : ByteArray) (w : World) (hs : s.size ≤ 300) :
    Calls Try.prog 60 #[.iface 99 (.agg #[.string s])] w fun e w' => e = .returned (.string (cap (nextT s))) ∧ Below w.heap.size w w' := by
  have hm := method_next
  have hz := next_size s
  by_cases hc : (nextT s).size ≤ 300
  · rw [cap_yes hc]
    have hd : decide ((300 : Int) < ((nextT s).size : Int)) = false := by simp; omega
    clear hz hc
    go_enter Try.func60, Try.ntmps60
    go_wp2_with (go_at_call 125; refine (nextName_any _ _ hs).mono ?_; rintro e w' ⟨rfl, hb⟩)
    go_ret
    exact ⟨rfl, hb⟩
  · rw [cap_no (by omega)]
    have hd : (300 : Int) < ((nextT s).size : Int) := by omega
    clear hz hc
    go_enter Try.func60, Try.ntmps60
    go_wp2_with (go_at_call 125; refine (nextName_any _ _ hs).mono ?_; rintro e w' ⟨rfl, hb⟩)
    go_ret
    exact ⟨rfl, hb⟩

set_option maxHeartbeats 400000 in
theorem sMakNext_any (s : ByteArray) (w : World) (hm : s.size ≤ maxLen) :
    Calls Try.prog 79 #[.string s] w fun e w' => e = .returned (.string (mkNext s)) ∧ Below w.heap.size w w' := by
  have M := hide hm
  clear hm
  cases hk : Kw.ok s with
  | false =>
    rw [show mkNext s = ⟨#[]⟩ by unfold mkNext; rw [if_neg (by rw [hk]; simp)]]
    have K := hide hk
    clear hk
    go_enter Try.func79, Try.ntmps79
    go_wp2_with fail
    refine (sSecOk_any s _ M.out).mono ?_
    rw [K.out]
    rintro e w1 ⟨rfl, hb1⟩
    go_wp2_with fail
    go_ret
    exact ⟨rfl, hb1⟩
  | true =>
    have hz := next_size s
    have hs := (ok_facts hk).1
    rw [show mkNext s = only (nextT s) by unfold mkNext; rw [if_pos hk, only_cap (by omega) (len_next hk)]]
    have M2 : Hid ((nextT s).size ≤ maxLen) := by show _ ≤ maxLen; unfold maxLen; omega
    have K := hide hk
    clear hk hz
    go_enter Try.func79, Try.ntmps79
    go_wp2_with fail
    refine (sSecOk_any s _ M.out).mono ?_
    rw [K.out]
    rintro e w1 ⟨rfl, hb1⟩
    go_wp2_with fail
    refine (l1Ok_any (nextT s) _ M2.out).mono ?_
    rintro e w2 ⟨rfl, hb2⟩
    go_wp2_with fail
    go_ret
    exact ⟨rfl, hb1.trans (hb2.mono hb1.size)⟩
set_option maxRecDepth 100000 in
set_option maxHeartbeats 400000 in
theorem nameOf_key (s : ByteArray) (w : World) (hs : s.size ≤ 300) :
    Calls Try.prog 60 #[.iface 100 (.agg #[.string s])] w fun e w' => e = .returned (.string (cap (keyT s))) ∧ Below w.heap.size w w' := by
  have hm := method_key
  have hz := key_size s
  by_cases hc : (keyT s).size ≤ 300
  · rw [cap_yes hc]
    have hd : decide ((300 : Int) < ((keyT s).size : Int)) = false := by simp; omega
    clear hz hc
    go_enter Try.func60, Try.ntmps60
    go_wp2_with (go_at_call 126; refine (keyName_any _ _ hs).mono ?_; rintro e w' ⟨rfl, hb⟩)
    go_ret
    exact ⟨rfl, hb⟩
  · rw [cap_no (by omega)]
    have hd : (300 : Int) < ((keyT s).size : Int) := by omega
    clear hz hc
    go_enter Try.func60, Try.ntmps60
    go_wp2_with (go_at_call 126; refine (keyName_any _ _ hs).mono ?_; rintro e w' ⟨rfl, hb⟩)
    go_ret
    exact ⟨rfl, hb⟩

set_option maxHeartbeats 400000 in
theorem sMakKey_any (s : ByteArray) (w : World) (hm : s.size ≤ maxLen) :
    Calls Try.prog 80 #[.string s] w fun e w' => e = .returned (.string (mkKey s)) ∧ Below w.heap.size w w' := by
  have M := hide hm
  clear hm
  cases hk : Kw.ok s with
  | false =>
    rw [show mkKey s = ⟨#[]⟩ by unfold mkKey; rw [if_neg (by rw [hk]; simp)]]
    have K := hide hk
    clear hk
    go_enter Try.func80, Try.ntmps80
    go_wp2_with fail
    refine (sSecOk_any s _ M.out).mono ?_
    rw [K.out]
    rintro e w1 ⟨rfl, hb1⟩
    go_wp2_with fail
    go_ret
    exact ⟨rfl, hb1⟩
  | true =>
    have hz := key_size s
    have hs := (ok_facts hk).1
    rw [show mkKey s = only (keyT s) by unfold mkKey; rw [if_pos hk, only_cap (by omega) (len_key hk)]]
    have M2 : Hid ((keyT s).size ≤ maxLen) := by show _ ≤ maxLen; unfold maxLen; omega
    have K := hide hk
    clear hk hz
    go_enter Try.func80, Try.ntmps80
    go_wp2_with fail
    refine (sSecOk_any s _ M.out).mono ?_
    rw [K.out]
    rintro e w1 ⟨rfl, hb1⟩
    go_wp2_with fail
    refine (l1Ok_any (keyT s) _ M2.out).mono ?_
    rintro e w2 ⟨rfl, hb2⟩
    go_wp2_with fail
    go_ret
    exact ⟨rfl, hb1.trans (hb2.mono hb1.size)⟩
set_option maxRecDepth 100000 in
set_option maxHeartbeats 400000 in
theorem nameOf_epoch (a b : ByteArray) (w : World) (ha : a.size ≤ 300) (hb : b.size ≤ 300) :
    Calls Try.prog 60 #[.iface 102 (.agg #[.string a, .string b])] w fun e w' => e = .returned (.string (cap (epochT a b))) ∧ Below w.heap.size w w' := by
  have hm := method_epoch
  have hz := epoch_size a b
  by_cases hc : (epochT a b).size ≤ 300
  · rw [cap_yes hc]
    have hd : decide ((300 : Int) < ((epochT a b).size : Int)) = false := by simp; omega
    clear hz hc
    go_enter Try.func60, Try.ntmps60
    go_wp2_with (go_at_call 127; refine (epochName_any _ _ _ ha hb).mono ?_; rintro e w' ⟨rfl, hb⟩)
    go_ret
    exact ⟨rfl, hb⟩
  · rw [cap_no (by omega)]
    have hd : (300 : Int) < ((epochT a b).size : Int) := by omega
    have hd2 : ((epochT a b).size : Int) ≤ 1000 := by omega
    clear hz hc
    go_enter Try.func60, Try.ntmps60
    go_wp2_with (go_at_call 127; refine (epochName_any _ _ _ ha hb).mono ?_; rintro e w' ⟨rfl, hb⟩)
    go_ret
    exact ⟨rfl, hb⟩

set_option maxHeartbeats 400000 in
theorem sMakEpoch_any (a b : ByteArray) (w : World) (hm : a.size ≤ maxLen) (hn : b.size ≤ maxLen) :
    Calls Try.prog 81 #[.string a, .string b] w fun e w' => e = .returned (.string (mkEpoch a b)) ∧ Below w.heap.size w w' := by
  have M := hide hm
  have N := hide hn
  clear hm hn
  cases hk : Kw.ok a with
  | false =>
    rw [show mkEpoch a b = ⟨#[]⟩ by unfold mkEpoch; rw [if_neg (by rw [hk]; simp)]]
    have K := hide hk
    clear hk
    go_enter Try.func81, Try.ntmps81
    go_wp2_with fail
    refine (sSecOk_any a _ M.out).mono ?_
    rw [K.out]
    rintro e w1 ⟨rfl, hb1⟩
    go_wp2_with fail
    go_ret
    exact ⟨rfl, hb1⟩
  | true =>
    cases hj : Kw.ok b with
    | false =>
      rw [show mkEpoch a b = ⟨#[]⟩ by unfold mkEpoch; rw [if_neg (by rw [hj]; simp)]]
      have K := hide hk
      have J := hide hj
      clear hk hj
      go_enter Try.func81, Try.ntmps81
      go_wp2_with fail
      refine (sSecOk_any a _ M.out).mono ?_
      rw [K.out]
      rintro e w1 ⟨rfl, hb1⟩
      go_wp2_with fail
      refine (sSecOk_any b _ N.out).mono ?_
      rw [J.out]
      rintro e w2 ⟨rfl, hb2⟩
      go_wp2_with fail
      go_ret
      exact ⟨rfl, hb1.trans (hb2.mono hb1.size)⟩
    | true =>
      have ha := (ok_facts hk).1
      have hb := (ok_facts hj).1
      have hz := epoch_size a b
      rw [show mkEpoch a b = only (epochT a b) by unfold mkEpoch; rw [if_pos ⟨hk, hj⟩, only_cap (by omega) (len_epoch hk hj)]]
      have M2 : Hid ((epochT a b).size ≤ maxLen) := by show _ ≤ maxLen; unfold maxLen; omega
      have K := hide hk
      have J := hide hj
      clear hk hj hz
      go_enter Try.func81, Try.ntmps81
      go_wp2_with fail
      refine (sSecOk_any a _ M.out).mono ?_
      rw [K.out]
      rintro e w1 ⟨rfl, hb1⟩
      go_wp2_with fail
      refine (sSecOk_any b _ N.out).mono ?_
      rw [J.out]
      rintro e w2 ⟨rfl, hb2⟩
      go_wp2_with fail
      refine (l1Ok_any (epochT a b) _ M2.out).mono ?_
      rintro e w3 ⟨rfl, hb3⟩
      go_wp2_with fail
      go_ret
      have hb12 := hb1.trans (hb2.mono hb1.size)
      exact ⟨rfl, hb12.trans (hb3.mono hb12.size)⟩

#print axioms sMakNext_any
#print axioms sMakKey_any
#print axioms sMakEpoch_any
end Go.Proofs.Ytgdhlnfigcaepaa
/-
  The program's secretAt and ownsItsPlaces.
-/
namespace Go.Proofs.Ytgdhlnfigcaepaa
open Go.RowKit Go.Shelf
attribute [local go_sem] Oper.semAt_some

/-- The first secret of a place. -/
def secAt : List Mo → Int → ByteArray
  | [], _ => ⟨#[]⟩
  | b :: bs, p => if b.1 = p then b.2 else secAt bs p
theorem secAt_none : ∀ (bs : List Mo) (p : Int), (∀ j, j < bs.length → (bs.getD j noMo).1 ≠ p) → secAt bs p = ⟨#[]⟩
  | [], _, _ => rfl
  | b :: bs, p, h => by
    unfold secAt
    rw [if_neg (show ¬ b.1 = p from h 0 (by simp))]
    exact secAt_none bs p (fun j hj => h (j + 1) (by simpa using hj))
theorem secAt_at : ∀ (bs : List Mo) (p : Int) (k : Nat), k < bs.length → (∀ j, j < k → (bs.getD j noMo).1 ≠ p) → (bs.getD k noMo).1 = p → secAt bs p = (bs.getD k noMo).2
  | [], _, _, h, _, _ => absurd h (Nat.not_lt_zero _)
  | b :: bs, p, 0, _, _, h => by unfold secAt; rw [if_pos (show b.1 = p from h)]; rfl
  | b :: bs, p, k + 1, hk, h, hp => by
    unfold secAt
    rw [if_neg (show ¬ b.1 = p from h 0 (by omega))]
    exact secAt_at bs p k (by simpa using hk) (fun j hj => h (j + 1) (by omega)) hp
theorem secAt_mem : ∀ (bs : List Mo) (p : Int), secAt bs p = ⟨#[]⟩ ∨ ∃ b ∈ bs, b.1 = p ∧ secAt bs p = b.2
  | [], _ => .inl rfl
  | b :: bs, p => by
    unfold secAt
    by_cases h : b.1 = p
    · rw [if_pos h]; exact .inr ⟨b, by simp, h, rfl⟩
    · rw [if_neg h]
      rcases secAt_mem bs p with q | ⟨c, q1, q2⟩
      · exact .inl q
      · exact .inr ⟨c, by simp [q1], q2⟩

/-- Whether a place has no key, or the key of what is had there. -/
def fitsAt (keys : List ByteArray) (own : List Mo) (p : Nat) : Bool := decide (keys.getD p ByteArray.empty = ByteArray.empty) || decide (mkKey (secAt own (p : Int)) = keys.getD p ByteArray.empty)
/-- How many of some places have keys. -/
def keyedIn (keys : List ByteArray) (ps : List Nat) : Nat := (ps.filter fun p => decide (keys.getD p ByteArray.empty ≠ ByteArray.empty)).length
def ownsOf (keys : List ByteArray) (own : List Mo) (k : Nat) : Bool :=
  decide (keys.getD (7 + k) ByteArray.empty ≠ ByteArray.empty) && ((7 + k) :: ups (7 + k)).all (fitsAt keys own) && decide (own.length = keyedIn keys ((7 + k) :: ups (7 + k)))
theorem keyedIn_snoc (keys : List ByteArray) (ps : List Nat) (p : Nat) : keyedIn keys (ps ++ [p]) = keyedIn keys ps + if keys.getD p ByteArray.empty = ByteArray.empty then 0 else 1 := by
  unfold keyedIn
  rw [List.filter_append, List.length_append]
  by_cases h : keys.getD p ByteArray.empty = ByteArray.empty
  · rw [if_pos h]; simp [List.filter_cons]; exact h
  · have h2 : ¬ keys[p]?.getD ByteArray.empty = ByteArray.empty := h
    rw [if_neg h]; simp [h2]
theorem keyedIn_le (keys : List ByteArray) (ps : List Nat) : keyedIn keys ps ≤ ps.length := by unfold keyedIn; exact List.length_filter_le _ _
def valsF (ps : List (Fin 15)) : List Nat := ps.map (·.val)
theorem valsF_snoc (ps : List (Fin 15)) (x : Fin 15) : valsF (ps ++ [x]) = valsF ps ++ [x.val] := by simp [valsF]
theorem valsF_chain (k : Nat) (h : k < 8) : valsF (chainF (7 + (k : Int))) = (7 + k) :: ups (7 + k) := by
  rw [show (7 + (k : Int)) = ((7 + k : Nat) : Int) by omega, chainF_nat _ (by omega)]
  exact chainT_val ⟨7 + k, by omega⟩
theorem chainF_len (p : Int) : (chainF p).length ≤ 4 := by
  unfold chainF
  split
  · exact chainT_len _
  · simp
theorem blk_own {β : Type} (B : Nat) (t : TypeId) (f : β → Array Value) : _root_.Go.Own (fun s W => Blk W B t (f s)) := fun s X Y row hs hg hrow =>
  hs.kept hg (fun e' => by obtain ⟨o, ho, hc⟩ := hrow B e'.symm; rw [show X.heap[B]? = _ from hs] at ho; cases ho; cases hc)

theorem keepsOthers_belowO {w w' : World} (h : Below w.heap.size w w') : KeepsOthers w w' := ⟨h.size, fun k _ hk _ => (h.block k (Array.getElem?_eq_some_iff.1 hk).1).trans hk⟩
theorem blk_other {w : World} {b b' : Nat} {t : TypeId} {cs : Array Value} (h : Blk w b t cs) (hne : b ≠ b') (v : Value) : Blk (w.setCell ⟨b', 0, none⟩ v) b t cs := h.kept (grownBy_setCell' w b' v) (fun e => hne (by cases e; rfl))
/-- A part of the places at whose last one what is had does not fit. -/
def Misfit (keys : List ByteArray) (own : List Mo) (pre : List (Fin 15)) : Prop := ∃ x ∈ pre, fitsAt keys own x.val = false
end Go.Proofs.Ytgdhlnfigcaepaa
/-
  The program's MemOk.
-/
namespace Go.Proofs.Ytgdhlnfigcaepaa
open Go.RowKit

/-- Whether one is ok, as the program has it. -/
def memOkI (m : Mem) : Bool :=
  if m.inn then decide (0 ≤ m.who ∧ m.who ≤ 7) && treOk m.keys && ownsOf m.keys m.own m.who.toNat && decide (0 ≤ m.ep ∧ m.ep ≤ 12) && Kw.ok m.init && decide (m.tag.size ≤ 300)
  else decide (m = Mem.none)

end Go.Proofs.Ytgdhlnfigcaepaa
/-
  Whether one is ok, as the specification has it; where no own secret is too long for a key both sides agree. No Go function in it.
-/
namespace Go.Proofs.Ytgdhlnfigcaepaa
open Go.RowKit Kw

/-- Whether a secret that one has fits: of its place or above, a name, of the tree's key, none of that place ahead of it. -/
def fitJ (keys : List ByteArray) (own : List Mo) (C : List Int) (j : Nat) : Bool :=
  decide ((own.getD j noMo).1 ∈ C) && Kw.ok (own.getD j noMo).2 && decide (keys.getD (own.getD j noMo).1.toNat ByteArray.empty = mkKey (own.getD j noMo).2) && decide (secAt (own.take j) (own.getD j noMo).1 = ByteArray.empty)
def fitsS (keys : List ByteArray) (own : List Mo) (C : List Int) : Bool := (List.range own.length).all (fitJ keys own C)
/-- Whether one has a secret of each place with a key. -/
def hasS (keys : List ByteArray) (own : List Mo) (C : List Int) : Bool := C.all fun p => decide (keys.getD p.toNat ByteArray.empty = ByteArray.empty) || decide (secAt own p ≠ ByteArray.empty)
def memOkS (m : Mem) : Bool :=
  if m.inn then decide (0 ≤ m.who ∧ m.who ≤ 7) && treOk m.keys && fitsS m.keys m.own (chainOf (leafOf m.who)) && (hasS m.keys m.own (chainOf (leafOf m.who)) && decide (m.keys.getD (leafOf m.who).toNat ByteArray.empty ≠ ByteArray.empty)) && decide (0 ≤ m.ep ∧ m.ep ≤ 12) && Kw.ok m.init && decide (m.tag.size ≤ 300)
  else decide (m = Mem.none)

theorem key_neS {s : ByteArray} (hs : Kw.ok s = true) (h : s.size < 300) : mkKey s ≠ ByteArray.empty := by
  intro q
  have h1 : (mkKey s).size = s.size + 1 := by
    unfold mkKey
    rw [if_pos hs]
    unfold cap
    have e : (keyT s).size = 1 + s.size := by unfold keyT; rw [ByteArray.size_append]; rfl
    rw [if_pos (by omega), e]
    omega
  rw [q] at h1
  have : ByteArray.empty.size = 0 := rfl
  omega
theorem key_okS {s : ByteArray} (h : mkKey s ≠ ByteArray.empty) : Kw.ok s = true := by
  cases q : Kw.ok s with
  | true => rfl
  | false =>
    refine absurd ?_ h
    unfold mkKey
    rw [q]
    rfl
/-- The first of a place: where it stands. -/
theorem secAt_first : ∀ (own : List Mo) (p : Int), secAt own p ≠ ByteArray.empty → ∃ j, j < own.length ∧ (own.getD j noMo).1 = p ∧ (own.getD j noMo).2 = secAt own p ∧ ∀ i, i < j → (own.getD i noMo).1 ≠ p
  | [], p, h => absurd rfl h
  | b :: bs, p, h => by
    by_cases e : b.1 = p
    · refine ⟨0, by simp, e, ?_, fun i hi => absurd hi (Nat.not_lt_zero _)⟩
      show b.2 = secAt (b :: bs) p
      unfold secAt
      rw [if_pos e]
    · have h2 : secAt (b :: bs) p = secAt bs p := by
        show (if b.1 = p then b.2 else secAt bs p) = secAt bs p
        rw [if_neg e]
      rw [h2] at h ⊢
      obtain ⟨j, h3, h4, h5, h6⟩ := secAt_first bs p h
      refine ⟨j + 1, by simpa using h3, h4, h5, fun i hi => ?_⟩
      cases i with
      | zero => exact e
      | succ i => exact h6 i (by omega)
theorem secAt_here (own : List Mo) (j : Nat) (hj : j < own.length) (h : ∀ i, i < j → (own.getD i noMo).1 ≠ (own.getD j noMo).1) : secAt own (own.getD j noMo).1 = (own.getD j noMo).2 := secAt_at own _ j hj h rfl
theorem take_getD (own : List Mo) (j i : Nat) (h : i < j) : (own.take j).getD i noMo = own.getD i noMo := by
  rw [List.getD_eq_getElem?_getD, List.getD_eq_getElem?_getD, List.getElem?_take_of_lt h]
theorem secAt_ahead (own : List Mo) (j : Nat) (p : Int) (h : ∀ i, i < j → (own.getD i noMo).1 ≠ p) : secAt (own.take j) p = ByteArray.empty :=
  secAt_none _ _ (fun i hi => by
    have : i < j := by rw [List.length_take] at hi; omega
    rw [take_getD own j i this]
    exact h i this)
#print axioms secAt_first
end Go.Proofs.Ytgdhlnfigcaepaa
/-
  The specification's l4Own and l4In.
-/
namespace Go.Proofs.Ytgdhlnfigcaepaa
open Go.RowKit

set_option maxHeartbeats 1000000 in
theorem l4In_any (v : Value) (xs : List Int) (n : Int) (w : World) (h : IRow w v xs) :
    Calls Try.prog 63 #[v, .int .i64 n] w fun e w' => e = .returned (.bool (decide (n ∈ xs))) ∧ w' = w := by
  obtain ⟨ao, cap, rfl, h1, h2, hc⟩ := h.form
  unfold maxLen at h2
  have HC := hide hc
  clear h hc
  go_enter Try.func63, Try.ntmps63
  go_wp2_with fail
  go_loop [5] (fun i => ∃ k : Nat, k ≤ xs.length ∧ i = .int .i64 (k : Int) ∧ Hid (∀ j, j < k → xs.getD j 0 ≠ n)) (fun i => xs.length - (intOf i).toNat)
  case atStart => exact ⟨0, by omega, rfl, fun j hj => by omega⟩
  case round =>
    obtain ⟨k, hk, rfl, hN⟩ := hrel
    by_cases hlt : k < xs.length
    · have hlt2 : (k : Int) < (xs.length : Int) := by omega
      obtain ⟨a, rfl, hck⟩ := HC.out k hlt
      have i3 : IntKind.i64.wrap ((k : Int) + 1) = (k : Int) + 1 := by simp [IntKind.wrap, IntKind.bits, IntKind.signed]; omega
      have HYES : Hid (xs.getD k 0 = n → decide (n ∈ xs) = true) := by
        intro e
        rw [decide_eq_true_eq, ← e, List.getD_eq_getElem?_getD, List.getElem?_eq_getElem hlt]
        exact List.getElem_mem _
      have HNX : Hid (xs.getD k 0 ≠ n → ∀ j, j < k + 1 → xs.getD j 0 ≠ n) := fun q j hj => by
        by_cases e : j = k
        · subst e; exact q
        · exact hN.out j (by omega)
      generalize xs.getD k 0 = y at hck HYES HNX
      by_cases he : y = n
      · have HE := hide (HYES.out he)
        have he2 : (y == n) = true := by simpa using he
        clear HYES HNX he
        go_wp2_with fail
        go_ret
        exact ⟨ret_bool' HE.out.symm, rfl⟩
      · have HN1 := hide (HNX.out he)
        have he2 : (y == n) = false := by simpa using he
        clear HYES HNX he
        go_wp2_with fail
        go_round
        case rel => exact ⟨k + 1, by omega, by simp, HN1⟩
        case measure => simp [intOf]; omega
    · have hlt2 : decide ((k : Int) < (xs.length : Int)) = false := by simp; omega
      have HE : Hid (decide (n ∈ xs) = false) := by
        show _ = _
        rw [decide_eq_false_iff_not]
        intro hm
        obtain ⟨j, hj, e⟩ := List.mem_iff_getElem.1 hm
        refine hN.out j (by omega) ?_
        rw [List.getD_eq_getElem?_getD, List.getElem?_eq_getElem hj]
        exact e
      go_wp2_with fail
      go_ret
      exact ⟨ret_bool' HE.out.symm, rfl⟩
#print axioms l4In_any
end Go.Proofs.Ytgdhlnfigcaepaa
