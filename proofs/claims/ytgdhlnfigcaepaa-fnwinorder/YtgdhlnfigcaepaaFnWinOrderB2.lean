/-
  Rows of texts: what a slice of texts holds; slices of the call's own. No Go function in it.
-/
import Derived.Test.YtgdhlnfigcaepaaFnWinOrderB1
import Derived.WalkKit
import Derived.Deep.RegionHeld3
import Derived.RangeFuncNested
namespace Go.Proofs.Ytgdhlnfigcaepaa
open Go.RowKit

/-- A slice holds these texts. -/
def SRow (w : World) (v : Value) (xs : List ByteArray) : Prop :=
  (v = .slice none 0 0 ∧ xs = []) ∨ ∃ (a : Addr) (cap : Nat), v = .slice (some a) xs.length cap ∧ xs.length ≤ cap ∧ cap ≤ maxLen ∧ ∀ i, i < xs.length → w.cell? (a.add i) = some (.string (xs.getD i ByteArray.empty))

theorem cell_lt {w : World} {p : Addr} {v : Value} (h : w.cell? p = some v) : p.block < w.heap.size := by
  apply Classical.byContradiction
  intro hn
  have : w.heap[p.block]? = none := Array.getElem?_eq_none (by omega)
  simp [World.cell?, this] at h

theorem SRow.below {w w' : World} {v : Value} {xs : List ByteArray} (h : SRow w v xs) (hb : Below w.heap.size w w') : SRow w' v xs := by
  rcases h with h | ⟨a, cap, h1, h2, h3, h4⟩
  · exact .inl h
  · exact .inr ⟨a, cap, h1, h2, h3, fun i hi => (hb.cell (p := a.add i) (cell_lt (h4 i hi))).trans (h4 i hi)⟩
theorem SRow.drew {w : World} {v : Value} {xs : List ByteArray} (h : SRow w v xs) : SRow w.drew v xs := h

theorem ret_bool' {a b : Bool} (h : a = b) : Ending.returned (.bool a) = .returned (.bool b) := by rw [h]
theorem toList_eq {x y : ByteArray} : (x.toList == y.toList) = true ↔ x = y := by
  constructor
  · intro h
    have h1 : x.toList = y.toList := by simpa using h
    have h2 := congrArg (fun l => (⟨l.toArray⟩ : ByteArray)) h1
    exact ByteArray.ext (by simpa [ByteArray.toList_eq] using h2)
  · intro h; subst h; simp

/-- A text is one of some. -/
def has (xs : List ByteArray) (s : ByteArray) : Bool := xs.any fun x => decide (x = s)
theorem has_iff {xs : List ByteArray} {s : ByteArray} : has xs s = true ↔ s ∈ xs := by
  unfold has
  simp
theorem has_not {xs : List ByteArray} {s : ByteArray} (h : ¬ s ∈ xs) : has xs s = false := by
  cases q : has xs s with
  | false => rfl
  | true => exact absurd (has_iff.1 q) h

theorem SRow.form {w : World} {v : Value} {xs : List ByteArray} (h : SRow w v xs) :
    ∃ (ao : Option Addr) (cap : Nat), v = .slice ao xs.length cap ∧ xs.length ≤ cap ∧ cap ≤ maxLen ∧ ∀ i, i < xs.length → ∃ a, ao = some a ∧ w.cell? (a.add i) = some (.string (xs.getD i ByteArray.empty)) := by
  rcases h with ⟨rfl, rfl⟩ | ⟨a, cap, rfl, h1, h2, h3⟩
  · exact ⟨none, 0, rfl, Nat.le_refl _, by omega, fun i hi => absurd hi (Nat.not_lt_zero _)⟩
  · exact ⟨some a, cap, rfl, h1, h2, fun i hi => ⟨a, rfl, h3 i hi⟩⟩

theorem getD_mem {xs : List ByteArray} {k : Nat} (h : k < xs.length) : xs.getD k ByteArray.empty ∈ xs := by
  rw [List.getD_eq_getElem?_getD, List.getElem?_eq_getElem h]
  exact List.getElem_mem h

theorem mem_getD {xs : List ByteArray} {x : ByteArray} (h : x ∈ xs) : ∃ k, k < xs.length ∧ xs.getD k ByteArray.empty = x := by
  obtain ⟨j, hj, e⟩ := List.getElem_of_mem h
  refine ⟨j, hj, ?_⟩
  rw [List.getD_eq_getElem?_getD, List.getElem?_eq_getElem hj]
  exact e

theorem rows_eq {xs ys : List ByteArray} (hl : xs.length = ys.length) (h : ∀ j, j < xs.length → xs.getD j ByteArray.empty = ys.getD j ByteArray.empty) : xs = ys := by
  apply List.ext_getElem hl
  intro i h1 h2
  have := h i h1
  rw [List.getD_eq_getElem?_getD, List.getElem?_eq_getElem h1, List.getD_eq_getElem?_getD, List.getElem?_eq_getElem h2] at this
  exact this

/-- What is owned is held. -/
theorem own_srow {w : World} {base : Nat} {v : Value} {xs : List ByteArray} (h : w.ownsRow base 9 1 v xs.length (xs.map Value.string)) : SRow w v xs := by
  have hh := h
  rcases h.2 with ⟨h1, h2⟩ | ⟨g, cap, cur, h1, h2, h3, h4, h5, h6, h7⟩
  · exact .inl ⟨h1, List.eq_nil_of_length_eq_zero h2⟩
  · subst h1
    refine .inr ⟨⟨g, 0, none⟩, cap, rfl, h4, h5, fun i hi => ?_⟩
    have hc := hh.cellAt i (by omega)
    rw [Addr.add_lit, Nat.zero_add, hc]
    simp [hi]
theorem own_below' {w w' : World} {base : Nat} {e : TypeId} {size : Nat} {v : Value} {n : Nat} {xs : List Value} (h : w.ownsRow base e size v n xs) (hb : Below w.heap.size w w') : w'.ownsRow base e size v n xs := by
  refine ⟨h.1, h.2.imp id ?_⟩
  rintro ⟨g, cap, cur, h1, h2, h3, h4⟩
  have hlt : g < w.heap.size := by
    apply Classical.byContradiction
    intro hn
    rw [Array.getElem?_eq_none (by omega)] at h3
    cases h3
  exact ⟨g, cap, cur, h1, h2, (hb.block g hlt).trans h3, h4⟩

/-- A slice of the call's own holds these texts. -/
def Own (B : Nat) (w : World) (v : Value) (xs : List ByteArray) : Prop := w.ownsRow B 9 1 v xs.length (xs.map Value.string)
theorem Own.below {B : Nat} {w w' : World} {v : Value} {xs : List ByteArray} (h : Own B w v xs) (hb : Below w.heap.size w w') : Own B w' v xs := own_below' h hb
theorem Own.srow {B : Nat} {w : World} {v : Value} {xs : List ByteArray} (h : Own B w v xs) : SRow w v xs := own_srow h
theorem Own.grow {B : Nat} {w w6 w7 : World} {o : Obj} {v v' : Value} {xs : List ByteArray} {y : ByteArray} (hO : Own B w6 v xs) (hbl : Below B w w6) (hB : B ≤ w.heap.size)
    (hown' : w7.ownsRow B 9 1 v' (xs.length + 1) (xs.map Value.string ++ [.string y])) (hg : (w6.alloc o).grownBy w7 v.ownBlock) : Own B w7 v' (xs ++ [y]) ∧ Below B w w7 := by
  have hs := hbl.size
  refine ⟨?_, (hbl.alloc (by omega) o).grown hg (by simp; omega) (fun k hk => (hO.lt k hk).1)⟩
  unfold Own
  rw [List.length_append, List.map_append]
  exact hown'

/-- How long a slice is. -/
def lenOf : Value → Nat
  | .slice _ n _ => n
  | _ => 0
theorem Own.len {B : Nat} {w : World} {v : Value} {xs : List ByteArray} (h : Own B w v xs) : lenOf v = xs.length := by
  rcases h.2 with ⟨h1, h2⟩ | ⟨g, cap, cur, h1, _⟩
  · rw [h1, h2]; rfl
  · rw [h1]; rfl

theorem info_str2 : (Try.prog.info? 9).map (fun i => (i.zero, i.size, i.bytes)) = some (some (.string ⟨#[]⟩), 1, 16) := by kernel_rfl

theorem row_form' {w : World} {B : Nat} {e : TypeId} {size : Nat} {v : Value} {n : Nat} {xs : List Value} (h : w.ownsRow B e size v n xs) : ∃ ao cap, v = .slice ao n cap := by
  rcases h.2 with ⟨h1, h2⟩ | ⟨g, cap, cur, h1, _⟩
  · exact ⟨none, 0, by rw [h1, h2]⟩
  · exact ⟨_, cap, h1⟩
end Go.Proofs.Ytgdhlnfigcaepaa
/-
  Rows of numbers: what a slice of numbers holds; slices of the call's own. No Go function in it.
-/
namespace Go.Proofs.Ytgdhlnfigcaepaa
open Go.RowKit

/-- A slice holds these numbers. -/
def IRow (w : World) (v : Value) (xs : List Int) : Prop :=
  (v = .slice none 0 0 ∧ xs = []) ∨ ∃ (a : Addr) (cap : Nat), v = .slice (some a) xs.length cap ∧ xs.length ≤ cap ∧ cap ≤ maxLen ∧ ∀ i, i < xs.length → w.cell? (a.add i) = some (.int .i64 (xs.getD i 0))
theorem IRow.below {w w' : World} {v : Value} {xs : List Int} (h : IRow w v xs) (hb : Below w.heap.size w w') : IRow w' v xs := by
  rcases h with h | ⟨a, cap, h1, h2, h3, h4⟩
  · exact .inl h
  · exact .inr ⟨a, cap, h1, h2, h3, fun i hi => (hb.cell (p := a.add i) (cell_lt (h4 i hi))).trans (h4 i hi)⟩
theorem IRow.drew {w : World} {v : Value} {xs : List Int} (h : IRow w v xs) : IRow w.drew v xs := h
theorem IRow.form {w : World} {v : Value} {xs : List Int} (h : IRow w v xs) :
    ∃ (ao : Option Addr) (cap : Nat), v = .slice ao xs.length cap ∧ xs.length ≤ cap ∧ cap ≤ maxLen ∧ ∀ i, i < xs.length → ∃ a, ao = some a ∧ w.cell? (a.add i) = some (.int .i64 (xs.getD i 0)) := by
  rcases h with ⟨rfl, rfl⟩ | ⟨a, cap, rfl, h1, h2, h3⟩
  · exact ⟨none, 0, rfl, Nat.le_refl _, by omega, fun i hi => absurd hi (Nat.not_lt_zero _)⟩
  · exact ⟨some a, cap, rfl, h1, h2, fun i hi => ⟨a, rfl, h3 i hi⟩⟩

/-- A slice of the call's own holds these numbers. -/
def OwnI (B : Nat) (w : World) (v : Value) (xs : List Int) : Prop := w.ownsRow B 3 1 v xs.length (xs.map (Value.int .i64))
theorem OwnI.below {B : Nat} {w w' : World} {v : Value} {xs : List Int} (h : OwnI B w v xs) (hb : Below w.heap.size w w') : OwnI B w' v xs := own_below' h hb
theorem OwnI.irow {B : Nat} {w : World} {v : Value} {xs : List Int} (h : OwnI B w v xs) : IRow w v xs := by
  unfold OwnI at h
  have hh := h
  rcases h.2 with ⟨h1, h2⟩ | ⟨g, cap, cur, h1, h2, h3, h4, h5, h6, h7⟩
  · exact .inl ⟨h1, List.eq_nil_of_length_eq_zero h2⟩
  · subst h1
    refine .inr ⟨⟨g, 0, none⟩, cap, rfl, h4, h5, fun i hi => ?_⟩
    have hc := hh.cellAt i (by omega)
    rw [Addr.add_lit, Nat.zero_add, hc]
    simp [hi]
theorem OwnI.len {B : Nat} {w : World} {v : Value} {xs : List Int} (h : OwnI B w v xs) : lenOf v = xs.length := by
  rcases h.2 with ⟨h1, h2⟩ | ⟨g, cap, cur, h1, _⟩
  · rw [h1, h2]; rfl
  · rw [h1]; rfl
theorem OwnI.grow {B : Nat} {w w6 w7 : World} {o : Obj} {v v' : Value} {xs : List Int} {y : Int} (hO : OwnI B w6 v xs) (hbl : Below B w w6) (hB : B ≤ w.heap.size)
    (hown' : w7.ownsRow B 3 1 v' (xs.length + 1) (xs.map (Value.int .i64) ++ [.int .i64 y])) (hg : (w6.alloc o).grownBy w7 v.ownBlock) : OwnI B w7 v' (xs ++ [y]) ∧ Below B w w7 := by
  have hs := hbl.size
  refine ⟨?_, (hbl.alloc (by omega) o).grown hg (by simp; omega) (fun k hk => (hO.lt k hk).1)⟩
  unfold OwnI
  rw [List.length_append, List.map_append]
  exact hown'
theorem info_int2 : (Try.prog.info? 3).map (fun i => (i.zero, i.size, i.bytes)) = some (some (.int .i64 0), 1, 8) := by kernel_rfl
end Go.Proofs.Ytgdhlnfigcaepaa
/-
  The tree's places, plain: what is above them, beside them, where two meet. No Go function in it.
-/
namespace Go.Proofs.Ytgdhlnfigcaepaa

/-- The place of one. -/
def leafOf (who : Int) : Int := if 0 ≤ who ∧ who ≤ 7 then 7 + who else -1
/-- The place beside one. -/
def sideOf (n : Int) : Int := if 1 ≤ n ∧ n ≤ 14 then (if n % 2 = 1 then n + 1 else n - 1) else -1
/-- All places above one. -/
def upF : Nat → Nat → List Nat
  | 0, _ => []
  | f + 1, k => if k = 0 then [] else (k - 1) / 2 :: upF f ((k - 1) / 2)
def ups (k : Nat) : List Nat := upF 4 k
theorem ups_zero : ups 0 = [] := rfl
theorem ups_step : ∀ k, k < 15 → 0 < k → ups k = (k - 1) / 2 :: ups ((k - 1) / 2) := by decide
theorem ups_len : ∀ k, k < 15 → (ups k).length ≤ 3 := by decide
theorem ups_lt : ∀ k, k < 15 → ∀ p ∈ ups k, p < 7 := by decide
def upOf (n : Int) : List Int := if 0 ≤ n ∧ n ≤ 14 then (ups n.toNat).map (fun (k : Nat) => (k : Int)) else []
/-- Where two places meet. -/
def meetF : Nat → Nat → Nat → Nat
  | 0, a, _ => a
  | f + 1, a, b => if a = b then a else if b < a then meetF f ((a - 1) / 2) b else meetF f a ((b - 1) / 2)
def meets (a b : Nat) : Nat := meetF 6 a b
theorem meets_self : ∀ a, a < 15 → meets a a = a := by decide
theorem meets_left : ∀ a, a < 15 → ∀ b, b < 15 → b < a → meets a b = meets ((a - 1) / 2) b := by decide
theorem meets_right : ∀ a, a < 15 → ∀ b, b < 15 → a < b → meets a b = meets a ((b - 1) / 2) := by decide
theorem meets_comm : ∀ a, a < 15 → ∀ b, b < 15 → meets a b = meets b a := by decide
theorem meets_lt : ∀ a, a < 15 → ∀ b, b < 15 → meets a b < 15 := by decide
/-- The places above both are where they meet, and those above it. -/
theorem meets_above : ∀ a, a < 15 → ∀ b, b < 15 → (a :: ups a).filter (fun x => (b :: ups b).contains x) = meets a b :: ups (meets a b) := by decide
def meetOf (a b : Int) : Int := if (0 ≤ a ∧ a ≤ 14) ∧ 0 ≤ b ∧ b ≤ 14 then (meets a.toNat b.toNat : Int) else -1
end Go.Proofs.Ytgdhlnfigcaepaa
/-
  spec.l1In.
-/
namespace Go.Proofs.Ytgdhlnfigcaepaa
open Go.RowKit

set_option maxHeartbeats 400000 in
theorem l1In_yes (n lo hi : Int) (w : World) (h0 : lo ≤ n) (h1 : n ≤ hi) :
    Calls Try.prog 36 #[.int .i64 n, .int .i64 lo, .int .i64 hi] w fun e w' => e = .returned (.bool true) ∧ w' = w := by
  go_enter Try.func36, Try.ntmps36
  go_wp2
  go_ret
  exact ⟨rfl, rfl⟩

set_option maxHeartbeats 400000 in
theorem l1In_no (n lo hi : Int) (w : World) (h : n < lo ∨ hi < n) :
    Calls Try.prog 36 #[.int .i64 n, .int .i64 lo, .int .i64 hi] w fun e w' => e = .returned (.bool false) ∧ w' = w := by
  by_cases h0 : lo ≤ n
  · have h2 : decide (n ≤ hi) = false := by simp; omega
    clear h
    go_enter Try.func36, Try.ntmps36
    go_wp2
    go_ret
    exact ⟨rfl, rfl⟩
  · have h2 : decide (lo ≤ n) = false := by simp; omega
    clear h
    go_enter Try.func36, Try.ntmps36
    go_wp2
    go_ret
    exact ⟨rfl, rfl⟩
end Go.Proofs.Ytgdhlnfigcaepaa
/-
  The spec's places: TreLeaf, TreSide, TreMeet, TreUp.
-/
namespace Go.Proofs.Ytgdhlnfigcaepaa
open Go.RowKit

theorem half_wrap (x : Nat) (h0 : 0 < x) (h : x < 15) : IntKind.i64.wrap ((x : Int) - 1) = (x : Int) - 1 ∧ IntKind.i64.wrap (((x : Int) - 1).tdiv 2) = (((x - 1) / 2 : Nat) : Int) := by
  constructor
  · simp [IntKind.wrap, IntKind.bits, IntKind.signed]; omega
  · rw [show ((x : Int) - 1) = ((x - 1 : Nat) : Int) by omega, Int.tdiv_eq_ediv_of_nonneg (by omega)]
    have : ((x - 1 : Nat) : Int) / 2 = (((x - 1) / 2 : Nat) : Int) := by omega
    rw [this]
    simp [IntKind.wrap, IntKind.bits, IntKind.signed]
    omega

end Go.Proofs.Ytgdhlnfigcaepaa
/-
  The specification's l6Seen: what has come, with one more.
-/
namespace Go.Proofs.Ytgdhlnfigcaepaa
open Go.RowKit

def seenOne (n x : Int) (st : Bool × List Int) : Bool × List Int := if st.1 = false ∧ x < n then (true, st.2 ++ [n]) else st
def seenStep (n lim : Int) (st : Bool × List Int) (x : Int) : Bool × List Int := if lim < x then ((seenOne n x st).1, (seenOne n x st).2 ++ [x]) else seenOne n x st
def seenTo (n lim : Int) (xs : List Int) (k : Nat) : Bool × List Int := (xs.take k).foldl (seenStep n lim) (false, [])
/-- What has come, with one more. -/
def seenOf (n lim : Int) (xs : List Int) : List Int := if (seenTo n lim xs xs.length).1 = true then (seenTo n lim xs xs.length).2 else (seenTo n lim xs xs.length).2 ++ [n]
theorem seenTo_succ (n lim : Int) (xs : List Int) (k : Nat) (h : k < xs.length) : seenTo n lim xs (k + 1) = seenStep n lim (seenTo n lim xs k) (xs.getD k 0) := by
  unfold seenTo
  rw [List.take_succ_eq_append_getElem h, List.foldl_append, List.getD_eq_getElem?_getD, List.getElem?_eq_getElem h]
  rfl
theorem seenStep_le (n lim : Int) (st : Bool × List Int) (x : Int) : (seenStep n lim st x).2.length ≤ st.2.length + 2 := by
  unfold seenStep seenOne
  split <;> split <;> simp
theorem seenTo_le (n lim : Int) (xs : List Int) : ∀ k : Nat, k ≤ xs.length → (seenTo n lim xs k).2.length ≤ 2 * k
  | 0, _ => by simp [seenTo]
  | k + 1, h => by
    rw [seenTo_succ n lim xs k (by omega)]
    have := seenTo_le n lim xs k (by omega)
    have := seenStep_le n lim (seenTo n lim xs k) (xs.getD k 0)
    omega
theorem one_newI (w : World) (x : Value) (t : TypeId) : ∀ j u, [x][j]? = some u → (w.alloc (.cells #[x] t)).cell? (Addr.add ⟨w.heap.size, 0, none⟩ j) = some u := by
  intro j u hj
  match j, hj with
  | 0, hj => simp at hj; subst hj; simp [Addr.add, go_sem]

set_option maxRecDepth 100000 in
set_option maxHeartbeats 4000000 in
theorem l6Seen_any (v : Value) (xs : List Int) (n top : Int) (w : World) (h : IRow w v xs) (hl : xs.length ≤ 1000) (ht : -1000000000 ≤ top ∧ top ≤ 1000000000) :
    Calls Try.prog 64 #[v, .int .i64 n, .int .i64 top] w fun e w' => ∃ u, e = .returned u ∧ OwnI w.heap.size w' u (seenOf n (top - 8) xs) ∧ Below w.heap.size w w' := by
  obtain ⟨i0, hi, hz0, hz1, hz2⟩ := info_parts info_int2
  have hI := hide (And.intro hi (And.intro hz0 (And.intro hz1 hz2)))
  clear hi hz0 hz1 hz2
  obtain ⟨ao, cap, rfl, h1, h2, h3⟩ := h.form
  have H3 := hide h3
  have i8 : IntKind.i64.wrap (top - 8) = top - 8 := by simp [IntKind.wrap, IntKind.bits, IntKind.signed]; omega
  clear h3 h
  have O0 : Hid (OwnI w.heap.size (w.alloc (.cells #[] 3)) (.slice (some ⟨w.heap.size, 0, none⟩) 0 0) (seenTo n (top - 8) xs 0).2) := World.ownsRow_made w #[] 0 (Nat.le_refl _) (by omega) rfl
  have B0 : Hid (Below w.heap.size w (w.alloc (.cells #[] 3))) := (Below.refl _ _).alloc (Nat.le_refl _) _
  go_enter Try.func64, Try.ntmps64
  go_wp2_with fail
  generalize w.alloc (.cells #[] 3) = W0 at *
  go_loopw [7, 8, 9] (fun o d i wr => ∃ k : Nat, k ≤ xs.length ∧ i = .int .i64 (k : Int) ∧ d = .bool (seenTo n (top - 8) xs k).1 ∧ (∃ oo on oc, o = .slice oo on oc) ∧ Hid (OwnI w.heap.size wr o (seenTo n (top - 8) xs k).2) ∧ Hid (Below w.heap.size w wr)) (fun _ _ i _ => xs.length - (intOf i).toNat)
  case atStart => exact ⟨0, by omega, rfl, rfl, ⟨_, _, _, rfl⟩, O0, B0⟩
  case round =>
    clear O0 B0
    obtain ⟨k, hk, rfl, rfl, ⟨po, pn, pc, rfl⟩, hO, hB⟩ := hrel
    generalize wr = w1 at *
    have HPL : Hid (pn = (seenTo n (top - 8) xs k).2.length ∧ pn ≤ 2000) := by
      obtain ⟨zo, zc, e⟩ := row_form' (unhide hO)
      simp only [Value.slice.injEq] at e
      have := seenTo_le n (top - 8) xs k hk
      exact ⟨e.2.1, by rw [e.2.1]; omega⟩
    by_cases hlt : k < xs.length
    · have hlt2 : (k : Int) < (xs.length : Int) := by omega
      have hk0 : (0 : Int) ≤ (k : Int) := by omega
      have i1 : IntKind.i64.wrap ((k : Int) + 1) = (k : Int) + 1 := wrap_small _ (by omega) (by omega)
      obtain ⟨ad, rfl, c0⟩ := H3.out k hlt
      have c1 := ((unhide hB).cell (cell_lt c0)).trans c0
      have HS := hide (seenTo_succ n (top - 8) xs k hlt)
      have C0 := hide c0
      generalize xs.getD k 0 = x at *
      generalize hq : seenTo n (top - 8) xs k = st at *
      obtain ⟨d, Q⟩ := st
      simp only at hO HPL
      clear c0 hq
      cases d with
      | true =>
        have HSO : Hid (seenOne n x (true, Q) = (true, Q)) := by show _ = _; unfold seenOne; rw [if_neg (by simp)]
        by_cases hx : top - 8 < x
        · have hx2 : top - 8 < x := hx
          have OQ : w1.ownsRow w.heap.size 3 1 (.slice po pn pc) Q.length (Q.map (Value.int .i64)) := unhide hO
          rw [← HPL.out.1] at OQ
          have OP := hide OQ
          have hsz2 := hB.out.size
          have hpn := HPL.out.2
          clear OQ hO
          go_wp2_with (at_builtin; refine wpList_append_own _ rfl _ _ 30 rfl w.heap.size 3 i0 (.int .i64 0) 1 8 Try.underlying30 (unhide hI).1 (unhide hI).2.1 (unhide hI).2.2.1 (unhide hI).2.2.2 rfl (by decide) _ _ _ rfl (World.ownsRow.alloc (unhide OP) _) ⟨w1.heap.size, 0, none⟩ 1 1 [.int .i64 x] rfl rfl (one_newI _ _ _) (by intro u hu; simp at hu; subst hu; rfl) (by unfold maxLen; omega) (by omega) (by simp; omega) ?_)
          intro v' w3 hown' hgrow _
          have B3 : Hid (Below w.heap.size w w3) := ((unhide hB).alloc hsz2 (.cells #[.int .i64 x] 3)).grown hgrow (by simp; omega) (fun k hk => (World.ownsRow.lt (unhide OP) k hk).1)
          have O3 : Hid (OwnI w.heap.size w3 v' (Q ++ [x])) := by
            show OwnI _ _ _ _
            unfold OwnI
            rw [List.length_append, ← HPL.out.1, List.map_append]
            exact hown'
          have P3 : Hid (pn + 1 = (Q ++ [x]).length ∧ pn + 1 ≤ 2000 + 1) := ⟨by rw [List.length_append, ← HPL.out.1]; rfl, by omega⟩
          obtain ⟨w3o, w3c, rfl⟩ := row_form' hown'
          clear hown' hgrow OP hsz2 hpn
          go_wp2_with fail
          go_roundw
          case rel =>
            have HE : seenTo n (top - 8) xs (k + 1) = (true, Q ++ [x]) := by rw [HS.out]; unfold seenStep; rw [HSO.out, if_pos hx]
            exact ⟨k + 1, by omega, by simp, by rw [HE], ⟨_, _, _, rfl⟩, by rw [HE]; exact O3, B3⟩
          case measure => simp [intOf]; omega
        · have hx2 : decide (top - 8 < x) = false := by simp; omega
          go_wp2_with fail
          go_roundw
          case rel =>
            have HE : seenTo n (top - 8) xs (k + 1) = (true, Q) := by rw [HS.out]; unfold seenStep; rw [HSO.out, if_neg hx]
            exact ⟨k + 1, by omega, by simp, by rw [HE], ⟨_, _, _, rfl⟩, by rw [HE]; exact hO, hB⟩
          case measure => simp [intOf]; omega
      | false =>
        by_cases hn : x < n
        · have HSO : Hid (seenOne n x (false, Q) = (true, Q ++ [n])) := by show _ = _; unfold seenOne; rw [if_pos ⟨rfl, hn⟩]
          have OQ : w1.ownsRow w.heap.size 3 1 (.slice po pn pc) Q.length (Q.map (Value.int .i64)) := unhide hO
          rw [← HPL.out.1] at OQ
          have OP := hide OQ
          have hsz2 := hB.out.size
          have hpn := HPL.out.2
          clear OQ hO
          go_wp2_with (at_builtin; refine wpList_append_own _ rfl _ _ 30 rfl w.heap.size 3 i0 (.int .i64 0) 1 8 Try.underlying30 (unhide hI).1 (unhide hI).2.1 (unhide hI).2.2.1 (unhide hI).2.2.2 rfl (by decide) _ _ _ rfl (World.ownsRow.alloc (unhide OP) _) ⟨w1.heap.size, 0, none⟩ 1 1 [.int .i64 n] rfl rfl (one_newI _ _ _) (by intro u hu; simp at hu; subst hu; rfl) (by unfold maxLen; omega) (by omega) (by simp; omega) ?_)
          intro v' w2 hown' hgrow _
          have B2 : Hid (Below w.heap.size w w2) := ((unhide hB).alloc hsz2 (.cells #[.int .i64 n] 3)).grown hgrow (by simp; omega) (fun k hk => (World.ownsRow.lt (unhide OP) k hk).1)
          have O2 : Hid (OwnI w.heap.size w2 v' (Q ++ [n])) := by
            show OwnI _ _ _ _
            unfold OwnI
            rw [List.length_append, ← HPL.out.1, List.map_append]
            exact hown'
          have P2 : Hid (pn + 1 = (Q ++ [n]).length ∧ pn + 1 ≤ 2000 + 1) := ⟨by rw [List.length_append, ← HPL.out.1]; rfl, by omega⟩
          obtain ⟨w2o, w2c, rfl⟩ := row_form' hown'
          clear hown' hgrow OP hsz2 hpn
          obtain ⟨Q2, hQ2⟩ : ∃ q, q = Q ++ [n] := ⟨_, rfl⟩
          rw [← hQ2] at O2 P2 HSO
          clear hQ2
          by_cases hx : top - 8 < x
          · have hx2 : top - 8 < x := hx
            have c2 := ((unhide B2).cell (cell_lt C0.out)).trans C0.out
            have OQ : w2.ownsRow w.heap.size 3 1 (.slice w2o (pn + 1) w2c) Q2.length (Q2.map (Value.int .i64)) := unhide O2
            rw [← P2.out.1] at OQ
            have OP := hide OQ
            have hsz2 := B2.out.size
            have hpn := P2.out.2
            clear OQ O2
            go_wp2_with (at_builtin; refine wpList_append_own _ rfl _ _ 30 rfl w.heap.size 3 i0 (.int .i64 0) 1 8 Try.underlying30 (unhide hI).1 (unhide hI).2.1 (unhide hI).2.2.1 (unhide hI).2.2.2 rfl (by decide) _ _ _ rfl (World.ownsRow.alloc (unhide OP) _) ⟨w2.heap.size, 0, none⟩ 1 1 [.int .i64 x] rfl rfl (one_newI _ _ _) (by intro u hu; simp at hu; subst hu; rfl) (by unfold maxLen; omega) (by omega) (by simp; omega) ?_)
            intro v' w3 hown' hgrow _
            have B3 : Hid (Below w.heap.size w w3) := ((unhide B2).alloc hsz2 (.cells #[.int .i64 x] 3)).grown hgrow (by simp; omega) (fun k hk => (World.ownsRow.lt (unhide OP) k hk).1)
            have O3 : Hid (OwnI w.heap.size w3 v' (Q2 ++ [x])) := by
              show OwnI _ _ _ _
              unfold OwnI
              rw [List.length_append, ← P2.out.1, List.map_append]
              exact hown'
            have P3 : Hid (pn + 1 + 1 = (Q2 ++ [x]).length ∧ pn + 1 + 1 ≤ 2002) := ⟨by rw [List.length_append, ← P2.out.1]; rfl, by omega⟩
            obtain ⟨w3o, w3c, rfl⟩ := row_form' hown'
            clear hown' hgrow OP hsz2 hpn
            go_wp2_with fail
            go_roundw
            case rel =>
              have HE : seenTo n (top - 8) xs (k + 1) = (true, Q2 ++ [x]) := by rw [HS.out]; unfold seenStep; rw [HSO.out, if_pos hx]
              exact ⟨k + 1, by omega, by simp, by rw [HE], ⟨_, _, _, rfl⟩, by rw [HE]; exact O3, B3⟩
            case measure => simp [intOf]; omega
          · have hx2 : decide (top - 8 < x) = false := by simp; omega
            have c2 := ((unhide B2).cell (cell_lt C0.out)).trans C0.out
            go_wp2_with fail
            go_roundw
            case rel =>
              have HE : seenTo n (top - 8) xs (k + 1) = (true, Q2) := by rw [HS.out]; unfold seenStep; rw [HSO.out, if_neg hx]
              exact ⟨k + 1, by omega, by simp, by rw [HE], ⟨_, _, _, rfl⟩, by rw [HE]; exact O2, B2⟩
            case measure => simp [intOf]; omega
        · have HSO : Hid (seenOne n x (false, Q) = (false, Q)) := by show _ = _; unfold seenOne; rw [if_neg (fun q => hn q.2)]
          have hn2 : decide (x < n) = false := by simp; omega
          by_cases hx : top - 8 < x
          · have hx2 : top - 8 < x := hx
            have OQ : w1.ownsRow w.heap.size 3 1 (.slice po pn pc) Q.length (Q.map (Value.int .i64)) := unhide hO
            rw [← HPL.out.1] at OQ
            have OP := hide OQ
            have hsz2 := hB.out.size
            have hpn := HPL.out.2
            clear OQ hO
            go_wp2_with (at_builtin; refine wpList_append_own _ rfl _ _ 30 rfl w.heap.size 3 i0 (.int .i64 0) 1 8 Try.underlying30 (unhide hI).1 (unhide hI).2.1 (unhide hI).2.2.1 (unhide hI).2.2.2 rfl (by decide) _ _ _ rfl (World.ownsRow.alloc (unhide OP) _) ⟨w1.heap.size, 0, none⟩ 1 1 [.int .i64 x] rfl rfl (one_newI _ _ _) (by intro u hu; simp at hu; subst hu; rfl) (by unfold maxLen; omega) (by omega) (by simp; omega) ?_)
            intro v' w3 hown' hgrow _
            have B3 : Hid (Below w.heap.size w w3) := ((unhide hB).alloc hsz2 (.cells #[.int .i64 x] 3)).grown hgrow (by simp; omega) (fun k hk => (World.ownsRow.lt (unhide OP) k hk).1)
            have O3 : Hid (OwnI w.heap.size w3 v' (Q ++ [x])) := by
              show OwnI _ _ _ _
              unfold OwnI
              rw [List.length_append, ← HPL.out.1, List.map_append]
              exact hown'
            have P3 : Hid (pn + 1 = (Q ++ [x]).length ∧ pn + 1 ≤ 2000 + 1) := ⟨by rw [List.length_append, ← HPL.out.1]; rfl, by omega⟩
            obtain ⟨w3o, w3c, rfl⟩ := row_form' hown'
            clear hown' hgrow OP hsz2 hpn
            go_wp2_with fail
            go_roundw
            case rel =>
              have HE : seenTo n (top - 8) xs (k + 1) = (false, Q ++ [x]) := by rw [HS.out]; unfold seenStep; rw [HSO.out, if_pos hx]
              exact ⟨k + 1, by omega, by simp, by rw [HE], ⟨_, _, _, rfl⟩, by rw [HE]; exact O3, B3⟩
            case measure => simp [intOf]; omega
          · have hx2 : decide (top - 8 < x) = false := by simp; omega
            go_wp2_with fail
            go_roundw
            case rel =>
              have HE : seenTo n (top - 8) xs (k + 1) = (false, Q) := by rw [HS.out]; unfold seenStep; rw [HSO.out, if_neg hx]
              exact ⟨k + 1, by omega, by simp, by rw [HE], ⟨_, _, _, rfl⟩, by rw [HE]; exact hO, hB⟩
            case measure => simp [intOf]; omega
    · have hlt2 : decide ((k : Int) < (xs.length : Int)) = false := by simp; omega
      have hkl : k = xs.length := by omega
      subst hkl
      have HSE : Hid (seenOf n (top - 8) xs = if (seenTo n (top - 8) xs xs.length).1 = true then (seenTo n (top - 8) xs xs.length).2 else (seenTo n (top - 8) xs xs.length).2 ++ [n]) := rfl
      generalize seenTo n (top - 8) xs xs.length = st at *
      obtain ⟨d, Q⟩ := st
      simp only at hO HPL HSE
      cases d with
      | true =>
        go_wp2_with fail
        go_ret
        have q : seenOf n (top - 8) xs = Q := by rw [HSE.out]; simp
        refine ⟨_, rfl, ?_, unhide hB⟩
        rw [q]
        exact unhide hO
      | false =>
        have OQ : w1.ownsRow w.heap.size 3 1 (.slice po pn pc) Q.length (Q.map (Value.int .i64)) := unhide hO
        rw [← HPL.out.1] at OQ
        have OP := hide OQ
        have hsz2 := hB.out.size
        have hpn := HPL.out.2
        clear OQ hO
        go_wp2_with (at_builtin; refine wpList_append_own _ rfl _ _ 30 rfl w.heap.size 3 i0 (.int .i64 0) 1 8 Try.underlying30 (unhide hI).1 (unhide hI).2.1 (unhide hI).2.2.1 (unhide hI).2.2.2 rfl (by decide) _ _ _ rfl (World.ownsRow.alloc (unhide OP) _) ⟨w1.heap.size, 0, none⟩ 1 1 [.int .i64 n] rfl rfl (one_newI _ _ _) (by intro u hu; simp at hu; subst hu; rfl) (by unfold maxLen; omega) (by omega) (by simp; omega) ?_)
        intro v' w2 hown' hgrow _
        have B2 : Hid (Below w.heap.size w w2) := ((unhide hB).alloc hsz2 (.cells #[.int .i64 n] 3)).grown hgrow (by simp; omega) (fun k hk => (World.ownsRow.lt (unhide OP) k hk).1)
        have O2 : Hid (OwnI w.heap.size w2 v' (Q ++ [n])) := by
          show OwnI _ _ _ _
          unfold OwnI
          rw [List.length_append, ← HPL.out.1, List.map_append]
          exact hown'
        have P2 : Hid (pn + 1 = (Q ++ [n]).length ∧ pn + 1 ≤ 2000 + 1) := ⟨by rw [List.length_append, ← HPL.out.1]; rfl, by omega⟩
        obtain ⟨w2o, w2c, rfl⟩ := row_form' hown'
        clear hown' hgrow OP hsz2 hpn
        go_wp2_with fail
        go_ret
        exact ⟨_, rfl, by rw [HSE.out, if_neg (by simp)]; exact unhide O2, unhide B2⟩
#print axioms l6Seen_any
end Go.Proofs.Ytgdhlnfigcaepaa
/-
  Slices of the call's own, their rows between two numbers. No Go function in it.
-/
namespace Go.Proofs.Ytgdhlnfigcaepaa
open Go.RowKit

/-- A slice of the call's own, its row between two numbers. -/
def RowIn (lo hi : Nat) (e : TypeId) (size : Nat) (w : World) (v : Value) (n : Nat) (xs : List Value) : Prop := w.ownsRow lo e size v n xs ∧ ∀ g, v.ownBlock = some g → g < hi
theorem RowIn.of {lo : Nat} {e : TypeId} {size : Nat} {w : World} {v : Value} {n : Nat} {xs : List Value} (h : w.ownsRow lo e size v n xs) : RowIn lo w.heap.size e size w v n xs := ⟨h, fun g hg => (h.lt g hg).2⟩
theorem RowIn.below {lo hi : Nat} {e : TypeId} {size : Nat} {w w' : World} {v : Value} {n : Nat} {xs : List Value} (h : RowIn lo hi e size w v n xs) (hb : Below w.heap.size w w') : RowIn lo hi e size w' v n xs := ⟨own_below' h.1 hb, h.2⟩
theorem RowIn.grown {lo hi : Nat} {e : TypeId} {size : Nat} {w w' : World} {v : Value} {n : Nat} {xs : List Value} {r : Option Nat} (h : RowIn lo hi e size w v n xs) (hg : w.grownBy w' r) (hr : ∀ k, r = some k → k < lo ∨ hi ≤ k) : RowIn lo hi e size w' v n xs := by
  refine ⟨h.1.kept hg ?_, h.2⟩
  cases hv : v.ownBlock with
  | none => exact .inl rfl
  | some g =>
    right
    intro e'
    have h1 := (h.1.lt g hv).1
    have h2 := h.2 g hv
    have := hr g e'.symm
    omega
theorem RowIn.out {lo hi : Nat} {e : TypeId} {size : Nat} {w : World} {v : Value} {n : Nat} {xs : List Value} (h : RowIn lo hi e size w v n xs) : ∀ k, v.ownBlock = some k → lo ≤ k ∧ k < hi := fun k hk => ⟨(h.1.lt k hk).1, h.2 k hk⟩
/-- Texts, so. -/
def TIn (lo hi : Nat) (w : World) (v : Value) (xs : List ByteArray) : Prop := RowIn lo hi 9 1 w v xs.length (xs.map Value.string)
theorem TIn.srow {lo hi : Nat} {w : World} {v : Value} {xs : List ByteArray} (h : TIn lo hi w v xs) : SRow w v xs := own_srow h.1
theorem TIn.below {lo hi : Nat} {w w' : World} {v : Value} {xs : List ByteArray} (h : TIn lo hi w v xs) (hb : Below w.heap.size w w') : TIn lo hi w' v xs := RowIn.below h hb
theorem TIn.grown {lo hi : Nat} {w w' : World} {v : Value} {xs : List ByteArray} {r : Option Nat} (h : TIn lo hi w v xs) (hg : w.grownBy w' r) (hr : ∀ k, r = some k → k < lo ∨ hi ≤ k) : TIn lo hi w' v xs := RowIn.grown h hg hr
end Go.Proofs.Ytgdhlnfigcaepaa
/-
  Variables in blocks of their own, beside rows. No Go function in it.
-/
namespace Go.Proofs.Ytgdhlnfigcaepaa
open Go.RowKit

theorem box_below {w w' : World} {b : Nat} {t : TypeId} {v : Value} (h : Boxed w b t v) (hb : Below w.heap.size w w') : Boxed w' b t v := (hb.block b h.lt).trans h
theorem box_below0 {w w' : World} {b B : Nat} {t : TypeId} {v : Value} (h : Boxed w b t v) (hb : Below B w w') (hlt : b < B) : Boxed w' b t v := (hb.block b hlt).trans h
/-- A row is not a variable's block: what is stored there leaves it. -/
theorem row_box {B : Nat} {w : World} {e t : TypeId} {size n b : Nat} {v u : Value} {xs : List Value} (h : w.ownsRow B e size v n xs) (hx : Boxed w b t u) (hte : t ≠ e) (x : Value) : (w.setCell ⟨b, 0, none⟩ x).ownsRow B e size v n xs :=
  h.kept (grownBy_setCell' w b x) (.inr (hx.not_row hte h).symm)
/-- A store into a variable's block leaves what lies below. -/
theorem below_box {B : Nat} {w w' : World} {b : Nat} (h : Below B w w') (hb : B ≤ b) (x : Value) : Below B w (w'.setCell ⟨b, 0, none⟩ x) := h.setCell (p := ⟨b, 0, none⟩) hb x
/-- A row that grows or turns leaves a variable's block of another type. -/
theorem box_grown {B : Nat} {w w' : World} {e t : TypeId} {size n b : Nat} {v u : Value} {xs : List Value} (hx : Boxed w b t u) (h : w.ownsRow B e size v n xs) (hte : t ≠ e) (hg : w.grownBy w' v.ownBlock) : Boxed w' b t u := hx.kept hg (hx.not_row hte h)
theorem row_lowB {B B' : Nat} {w : World} {e : TypeId} {size : Nat} {v : Value} {n : Nat} {xs : List Value} (h : w.ownsRow B e size v n xs) (hB : B' ≤ B) : w.ownsRow B' e size v n xs := by
  refine ⟨h.1, h.2.imp id ?_⟩
  rintro ⟨g, cap, cur, h1, h2, h3⟩
  exact ⟨g, cap, cur, h1, by omega, h3⟩
end Go.Proofs.Ytgdhlnfigcaepaa
/-
  Blocks of several cells that a call made: whole values stored into them and read out of them. No Go function in it.
-/
namespace Go.Proofs.Ytgdhlnfigcaepaa
open Go.RowKit

/-- A block holds these cells, all of one variable. -/
def Blk (w : World) (b : Nat) (t : TypeId) (cs : Array Value) : Prop := w.heap[b]? = some (.cells cs t (0, 0))
theorem Blk.lt {w : World} {b : Nat} {t : TypeId} {cs : Array Value} (h : Blk w b t cs) : b < w.heap.size := (Array.getElem?_eq_some_iff.1 h).1
theorem Blk.new (w : World) (t : TypeId) (cs : Array Value) : Blk (w.alloc (.cells cs t)) w.heap.size t cs := World.alloc_heap_new w _
theorem Blk.below {w w' : World} {b : Nat} {t : TypeId} {cs : Array Value} (h : Blk w b t cs) (hb : Below w.heap.size w w') : Blk w' b t cs := (hb.block b h.lt).trans h
theorem Blk.below0 {w w' : World} {b B : Nat} {t : TypeId} {cs : Array Value} (h : Blk w b t cs) (hb : Below B w w') (hlt : b < B) : Blk w' b t cs := (hb.block b hlt).trans h
theorem Blk.kept {w w' : World} {row : Option Nat} {b : Nat} {t : TypeId} {cs : Array Value} (h : Blk w b t cs) (hg : w.grownBy w' row) (hne : some b ≠ row) : Blk w' b t cs := (hg.block b h.lt hne).trans h
theorem Blk.alloc {w : World} {b : Nat} {t : TypeId} {cs : Array Value} (h : Blk w b t cs) (o : Obj) : Blk (w.alloc o) b t cs := h.kept (World.grownBy_alloc w o none) (by simp)
theorem Blk.drew {w : World} {b : Nat} {t : TypeId} {cs : Array Value} (h : Blk w b t cs) : Blk w.drew b t cs := h
theorem Blk.cell {w : World} {b : Nat} {t : TypeId} {cs : Array Value} (h : Blk w b t cs) (i : Nat) : w.cell? ⟨b, i, none⟩ = cs[i]? := by simp [World.cell?, show w.heap[b]? = _ from h]
theorem Blk.frozen {w : World} {b : Nat} {t : TypeId} {cs : Array Value} (h : Blk w b t cs) (i : Nat) : w.frozen? ⟨b, i, none⟩ = false := by simp [World.frozen?, show w.heap[b]? = _ from h]
theorem Blk.set {w : World} {b : Nat} {t : TypeId} {cs : Array Value} (h : Blk w b t cs) (ds : Array Value) : Blk (w.setRow b ds) b t ds := setRow_heap w b cs ds t _ h
theorem grown_setRow (w : World) (b : Nat) (cs : Array Value) : w.grownBy (w.setRow b cs) (some b) :=
  ⟨rfl, rfl, rfl, by simp, fun k _ hk => setRow_other w b k cs (fun e => hk (by rw [e]))⟩
theorem Blk.other {w : World} {b b' : Nat} {t : TypeId} {cs : Array Value} (h : Blk w b t cs) (hne : b ≠ b') (ds : Array Value) : Blk (w.setRow b' ds) b t cs := h.kept (grown_setRow w b' ds) (fun e => hne (by cases e; rfl))
theorem Blk.boxed {w : World} {b : Nat} {t : TypeId} {v : Value} (h : Blk w b t #[v]) : Boxed w b t v := h
/-- No row of another type is such a block. -/
theorem Blk.not_row {w : World} {b : Nat} {t e : TypeId} {cs : Array Value} (h : Blk w b t cs) (hte : t ≠ e) {base size k : Nat} {v : Value} {xs : List Value} (hr : w.ownsRow base e size v k xs) : some b ≠ v.ownBlock := by
  rcases hr.2 with ⟨rfl, _⟩ | ⟨g, cap, cur, rfl, _, hgb, _⟩
  · simp [Value.ownBlock]
  · intro q
    obtain rfl : b = g := by simpa [Value.ownBlock] using q
    have := (show w.heap[b]? = _ from h).symm.trans hgb
    simp at this
    exact hte this.2
theorem row_blk {B : Nat} {w : World} {e t : TypeId} {size n b : Nat} {v : Value} {xs : List Value} {cs : Array Value} (h : w.ownsRow B e size v n xs) (hx : Blk w b t cs) (hte : t ≠ e) (ds : Array Value) : (w.setRow b ds).ownsRow B e size v n xs :=
  h.kept (grown_setRow w b ds) (.inr (hx.not_row hte h).symm)
theorem below_blk {B : Nat} {w w' : World} {b : Nat} (h : Below B w w') (hb : B ≤ b) (ds : Array Value) : Below B w (w'.setRow b ds) := h.trans ⟨rfl, rfl, rfl, by simp [World.setRow], fun k hk => setRow_other w' b k ds (by omega)⟩
/-- A value of several cells is stored whole. -/
theorem wpList_store_whole {P : Program} {ops : Array Oper} {rest : List Oper} {o : Oper} {a : Act} {w : World} {Q : Exit → Act → World → Prop} (hg : o.guard = none) (ty : TypeId) (x y : Operand) (ho : o.op = .store ty x y)
    (b : Nat) (cells : Array Value) (hx : a.eval x = .pointer (some ⟨b, 0, none⟩)) (hy : a.eval y = .agg cells)
    (t : TypeId) (old : Array Value) (hb : Blk w b t old) (hi : (P.info? ty).map (·.size) = some cells.size)
    (hold : old.size = cells.size) (h1 : cells.all (·.oneCell') = true)
    (h : wpList P ops Q rest (a.put o.dst undef) (w.setRow b cells)) : wpList P ops Q (o :: rest) a w :=
  wpList_plain hg fun _ hK => wp_store_row ty x y ho b cells hx hy t old hb hi hold h1 (hK _ _ h)
/-- A value of several cells is read whole. -/
theorem wpList_load_whole {P : Program} {ops : Array Oper} {rest : List Oper} {o : Oper} {a : Act} {w : World} {Q : Exit → Act → World → Prop} (hg : o.guard = none) (ty : TypeId) (x : Operand) (ho : o.op = .load ty x)
    (b : Addr) (hx : a.eval x = .pointer (some b)) (v : Value) (hl : (loadVar ty b).run P w = .ok v w)
    (h : wpList P ops Q rest (a.put o.dst v) w) : wpList P ops Q (o :: rest) a w :=
  wpList_plain hg fun _ hK => by
    unfold Oper.wp execOp
    simp only [ho, hx, Instr.loadAt, Instr.sureAddr, Sem.run_bind, Sem.run_pure, Result.andThen_ok, hl]
    exact hK _ _ h
/-- A result that lies in a block. -/
theorem results_cell {P : Program} {fn : Func} {a t : Nat} {tmps : Array Value} {w : World} {b : Addr} {v : Value} (h : fn.results = #[.cell a t]) (hp : tmps.getD a undef = .pointer (some b)) (hl : (loadVar t b).run P w = .ok v w) : (results fn tmps).run P w = .ok v w := by
  have hp' : tmps[a]?.getD undef = .pointer (some b) := by simpa using hp
  simp [results, h, hp', asAddr, hl]
end Go.Proofs.Ytgdhlnfigcaepaa
/-
  The specification's l1In, whatever comes in.
-/
namespace Go.Proofs.Ytgdhlnfigcaepaa
open Go.RowKit

def inB (lo hi n : Int) : Bool := decide (lo ≤ n) && decide (n ≤ hi)
theorem l1In_any (n lo hi : Int) (w : World) :
    Calls Try.prog 36 #[.int .i64 n, .int .i64 lo, .int .i64 hi] w fun e w' => e = .returned (.bool (inB lo hi n)) ∧ w' = w := by
  by_cases h : lo ≤ n ∧ n ≤ hi
  · rw [show inB lo hi n = true by unfold inB; simp [h.1, h.2]]
    exact l1In_yes n lo hi w h.1 h.2
  · rw [show inB lo hi n = false by unfold inB; simp; omega]
    exact l1In_no n lo hi w (by omega)
end Go.Proofs.Ytgdhlnfigcaepaa
/-
  impl.isOne.
-/
namespace Go.Proofs.Ytgdhlnfigcaepaa
open Go.RowKit

set_option maxHeartbeats 400000 in
theorem isOne_yes (n : Int) (w : World) (h0 : 0 ≤ n) (h1 : n < 8) :
    Calls Try.prog 39 #[.int .i64 n] w fun e w' => e = .returned (.bool true) ∧ w' = w := by
  go_enter Try.func39, Try.ntmps39
  go_wp2
  go_ret
  exact ⟨rfl, rfl⟩

set_option maxHeartbeats 400000 in
theorem isOne_no (n : Int) (w : World) (h : n < 0 ∨ 8 ≤ n) :
    Calls Try.prog 39 #[.int .i64 n] w fun e w' => e = .returned (.bool false) ∧ w' = w := by
  rcases h with h | h
  · go_enter Try.func39, Try.ntmps39
    go_wp2
    go_ret
    exact ⟨rfl, rfl⟩
  · have h' : 0 ≤ n := by omega
    have h2 : decide (n < 8) = false := by simp; omega
    go_enter Try.func39, Try.ntmps39
    go_wp2
    go_ret
    exact ⟨rfl, rfl⟩
end Go.Proofs.Ytgdhlnfigcaepaa
/-
  Contracts of the reader of names, method by method, over the landed program.
-/
namespace Go.Proofs.Ytgdhlnfigcaepaa
open Go.RowKit

/-- A reader of the text s lies at block b, and all ahead of place a is read. -/
structure Rd (b : Nat) (s : ByteArray) (a : Nat) (w : World) : Prop where
  t : w.cell? ⟨b, 0, none⟩ = some (.string s)
  p : w.cell? ⟨b, 1, none⟩ = some (.int .i64 (a : Int))
  f : w.frozen? ⟨b, 1, none⟩ = false
  lt : b < w.heap.size

theorem Rd.step {b : Nat} {s : ByteArray} {a : Nat} {w : World} (h : Rd b s a w) (n a' : Nat) (v : Value) (hv : v = .int .i64 (a' : Int)) :
    Rd b s a' ((w.drewN n).setCell ⟨b, 1, none⟩ v) ∧ Below b w ((w.drewN n).setCell ⟨b, 1, none⟩ v) := by
  obtain ⟨t, p, f, lt⟩ := h
  subst hv
  refine ⟨⟨by simp [go_sem, t], by simp [go_sem, p], by simp [go_sem, f], by simpa [World.setCell] using lt⟩, ?_⟩
  exact (below_drewN (Below.refl b w) n).setCell (p := ⟨b, 1, none⟩) (Nat.le_refl _) _

theorem Rd.drewN {b : Nat} {s : ByteArray} {a : Nat} {w : World} (h : Rd b s a w) (n : Nat) : Rd b s a (w.drewN n) ∧ Below b w (w.drewN n) := by
  obtain ⟨t, p, f, lt⟩ := h
  exact ⟨⟨by simp [go_sem, t], by simp [go_sem, p], by simp [go_sem, f], lt⟩, below_drewN (Below.refl _ _) n⟩

theorem ret_u8 {a b : Nat} {c : Bool} (h : a = b) : Ending.returned (.tuple #[.int .u8 (a : Int), .bool c]) = .returned (.tuple #[.int .u8 (b : Int), .bool c]) := by rw [h]

set_option maxHeartbeats 400000 in
theorem readSign_in (b : Nat) (s : ByteArray) (a : Nat) (w : World) (hs : s.size ≤ 300) (h : Rd b s a w) (ha : a < s.size) :
    Calls Try.prog 84 #[.pointer (some ⟨b, 0, none⟩)] w fun e w' => e = .returned (.tuple #[.int .u8 (Kw.g s a), .bool true]) ∧ Rd b s (a + 1) w' ∧ Below b w w' := by
  have hr := hide h
  obtain ⟨t, p, f, lt⟩ := h
  have hd : decide ((s.size : Int) ≤ (a : Int)) = false := by simp; omega
  have h1 : (a : Int) < (s.size : Int) := by omega
  go_enter Try.func84, Try.ntmps84
  go_wp2_with fail
  go_quiet (fail)
  go_wp2_with fail
  go_quiet (fail)
  go_wp2_with fail
  go_ret2
  exact ⟨ret_u8 (Kw.g_in ha).symm, (unhide hr).step _ (a + 1) _ (by simp)⟩

set_option maxHeartbeats 400000 in
theorem readSign_out (b : Nat) (s : ByteArray) (a : Nat) (w : World) (h : Rd b s a w) (ha : s.size ≤ a) :
    Calls Try.prog 84 #[.pointer (some ⟨b, 0, none⟩)] w fun e w' => e = .returned (.tuple #[.int .u8 0, .bool false]) ∧ Rd b s a w' ∧ Below b w w' := by
  have hr := hide h
  obtain ⟨t, p, f, lt⟩ := h
  go_enter Try.func84, Try.ntmps84
  go_wp2_with fail
  go_quiet (fail)
  go_wp2_with fail
  go_ret2
  exact ⟨rfl, (unhide hr).drewN _⟩

/-- Up to which place a reader at block b has read. -/
def posOf (b : Nat) (w : World) : Nat := match w.cell? ⟨b, 1, none⟩ with | some v => (intOf v).toNat | none => 0
theorem Rd.pos {b : Nat} {s : ByteArray} {a : Nat} {w : World} (h : Rd b s a w) : posOf b w = a := by unfold posOf; rw [h.p]; simp [intOf]

/-- What reading a number comes to. -/
def NumPost (b : Nat) (s : ByteArray) (a most : Nat) (w : World) (e : Ending) (w' : World) : Prop :=
  ∃ a1, Rd b s a1 w' ∧ Below b w w' ∧
    ((∃ n : Nat, Kw.num s most a = some (n, a1) ∧ e = .returned (.tuple #[.int .i64 (n : Int), .bool true])) ∨ (Kw.num s most a = none ∧ e = .returned (.tuple #[.int .i64 0, .bool false])))

theorem num_stop {b : Nat} {s : ByteArray} {a a' n most : Nat} {w wr : World} (hr : Hid (Rd b s a' wr)) (hb : Below b w wr) (hnum : Hid (Kw.rdn s most (s.size + 1 - a') n a' = Kw.num s most a))
    (hnd : ¬ (48 ≤ Kw.g s a' ∧ Kw.g s a' ≤ 57)) (hle : a' ≤ s.size) (nq : Nat) : NumPost b s a most w (.returned (.tuple #[.int .i64 (n : Int), .bool (decide (0 < n))])) (wr.drewN nq) := by
  have h1 := hnum.out
  rw [show s.size + 1 - a' = (s.size - a') + 1 by omega, Kw.rdn_succ, if_neg hnd] at h1
  obtain ⟨r1, r2⟩ := (unhide hr).drewN nq
  refine ⟨a', r1, hb.trans r2, ?_⟩
  by_cases h0 : 0 < n
  · rw [if_pos h0] at h1
    exact .inl ⟨n, h1.symm, by simp [h0]⟩
  · rw [if_neg h0] at h1
    have : n = 0 := by omega
    exact .inr ⟨h1.symm, by simp [this]⟩

theorem num_fail {b : Nat} {s : ByteArray} {a a' n most : Nat} {w wr : World} (hr : Hid (Rd b s a' wr)) (hb : Below b w wr) (hnum : Hid (Kw.rdn s most (s.size + 1 - a') n a' = Kw.num s most a))
    (hle : a' < s.size) (hG : Hid (Kw.g s a' = s[a'].toNat)) (h48 : (48 : Int) ≤ (s[a'].toNat : Int)) (h57 : (s[a'].toNat : Int) ≤ 57) (hx : (n : Int) * 10 + ((s[a'].toNat : Int) - 48) < 1 ∨ (most : Int) < (n : Int) * 10 + ((s[a'].toNat : Int) - 48)) (nq : Nat) :
    NumPost b s a most w (.returned (.tuple #[.int .i64 0, .bool false])) ((wr.drewN nq).setCell ⟨b, 1, none⟩ (.int .i64 ((a' : Int) + 1))) := by
  have h1 := hnum.out
  have h2 := hG.out
  rw [show s.size + 1 - a' = (s.size - a') + 1 by omega, Kw.rdn_succ, h2, if_pos (by omega), if_pos (by omega)] at h1
  obtain ⟨r1, r2⟩ := (unhide hr).step nq (a' + 1) (.int .i64 ((a' : Int) + 1)) (by simp)
  exact ⟨a' + 1, r1, hb.trans r2, .inr ⟨h1.symm, rfl⟩⟩

theorem num_next {s : ByteArray} {a a' n most : Nat} (hnum : Hid (Kw.rdn s most (s.size + 1 - a') n a' = Kw.num s most a))
    (hle : a' < s.size) (hG : Hid (Kw.g s a' = s[a'].toNat)) (h48 : (48 : Int) ≤ (s[a'].toNat : Int)) (h57 : (s[a'].toNat : Int) ≤ 57) (hx : ¬ (n : Int) * 10 + ((s[a'].toNat : Int) - 48) < 1) (hy : ¬ (most : Int) < (n : Int) * 10 + ((s[a'].toNat : Int) - 48)) :
    Hid (Kw.rdn s most (s.size + 1 - (a' + 1)) (n * 10 + (s[a'].toNat - 48)) (a' + 1) = Kw.num s most a) := by
  have h1 := hnum.out
  have h2 := hG.out
  rw [show s.size + 1 - a' = (s.size - a') + 1 by omega, Kw.rdn_succ, h2, if_pos (by omega), if_neg (by omega)] at h1
  rw [show s.size + 1 - (a' + 1) = s.size - a' by omega]
  exact h1

theorem num_round {b : Nat} {s : ByteArray} {a a' m most : Nat} {x : Int} {w wr : World} {k : Nat} (hr : Hid (Rd b s a' wr)) (hb : Below b w wr) (hlt : a' < s.size) (hm : m ≤ most) (hx : x = (m : Int))
    (hN : Hid (Kw.rdn s most (s.size + 1 - (a' + 1)) m (a' + 1) = Kw.num s most a)) :
    (∃ n_1 a'_1 : Nat, Value.int IntKind.i64 x = Value.int IntKind.i64 (n_1 : Int) ∧ Rd b s a'_1 ((wr.drewN k).setCell ⟨b, 1, none⟩ (.int .i64 ((a' : Int) + 1))) ∧ Below b w ((wr.drewN k).setCell ⟨b, 1, none⟩ (.int .i64 ((a' : Int) + 1))) ∧
      n_1 ≤ most ∧ a'_1 ≤ s.size ∧ Hid (Kw.rdn s most (s.size + 1 - a'_1) n_1 a'_1 = Kw.num s most a)) ∧
    s.size + 1 - posOf b ((wr.drewN k).setCell ⟨b, 1, none⟩ (.int .i64 ((a' : Int) + 1))) < s.size + 1 - posOf b wr := by
  obtain ⟨r1, r2⟩ := (unhide hr).step k (a' + 1) (.int .i64 ((a' : Int) + 1)) (by simp)
  refine ⟨⟨m, a' + 1, by rw [hx], r1, hb.trans r2, hm, by omega, hN⟩, ?_⟩
  rw [r1.pos, (unhide hr).pos]
  omega

set_option maxHeartbeats 1000000 in
theorem readNumber_any (b : Nat) (s : ByteArray) (a : Nat) (most : Nat) (w : World) (hs : s.size ≤ 300) (h : Rd b s a w) (ha : a ≤ s.size) (hm2 : most ≤ 99) :
    Calls Try.prog 92 #[.pointer (some ⟨b, 0, none⟩), .int .i64 (most : Int)] w fun e w' => NumPost b s a most w e w' := by
  go_enter Try.func92, Try.ntmps92
  go_wp2_with fail
  go_loopw [6] (fun nn wr => ∃ n a' : Nat, nn = .int .i64 (n : Int) ∧ Rd b s a' wr ∧ Below b w wr ∧ n ≤ most ∧ a' ≤ s.size ∧ Hid (Kw.rdn s most (s.size + 1 - a') n a' = Kw.num s most a)) (fun nn wr => s.size + 1 - posOf b wr)
  case atStart => exact ⟨0, a, rfl, h, Below.refl _ _, Nat.zero_le _, ha, rfl⟩
  case round =>
    obtain ⟨n, a', rfl, hr0, hb, hn, hle, hnum⟩ := hrel
    clear h ha
    have hr := hide hr0
    obtain ⟨t, p, f, lt⟩ := hr0
    by_cases hlt : a' < s.size
    · have hG : Hid (Kw.g s a' = s[a'].toNat) := Kw.g_in hlt
      have hlt2 : (a' : Int) < (s.size : Int) := by omega
      by_cases h48 : (48 : Int) ≤ (s[a'].toNat : Int)
      · by_cases h57 : (s[a'].toNat : Int) ≤ 57
        · by_cases hlo : (n : Int) * 10 + ((s[a'].toNat : Int) - 48) < 1
          · go_wp2_with fail
            go_quiet (fail)
            go_wp2_with fail
            go_quiet (fail)
            go_wp2_with fail
            go_ret2
            exact num_fail hr hb hnum hlt hG h48 h57 (.inl hlo) _
          · have hlo2 : decide ((n : Int) * 10 + ((s[a'].toNat : Int) - 48) < 1) = false := by simp; omega
            by_cases hhi : (most : Int) < (n : Int) * 10 + ((s[a'].toNat : Int) - 48)
            · go_wp2_with fail
              go_quiet (fail)
              go_wp2_with fail
              go_quiet (fail)
              go_wp2_with fail
              go_ret2
              exact num_fail hr hb hnum hlt hG h48 h57 (.inr hhi) _
            · have hhi2 : decide ((most : Int) < (n : Int) * 10 + ((s[a'].toNat : Int) - 48)) = false := by simp; omega
              have hN := num_next hnum hlt hG h48 h57 hlo hhi
              have hlo3 := hide hlo
              have hhi3 := hide hhi
              clear hlo hhi
              go_wp2_with fail
              go_quiet (fail)
              go_wp2_with fail
              go_quiet (fail)
              go_wp2_with fail
              exact num_round hr hb hlt (by have := hhi3.out; omega) (by omega) hN
        · have hd : decide ((s[a'].toNat : Int) ≤ 57) = false := by simp; omega
          have h57' := hide h57
          clear h57
          go_wp2_with fail
          go_quiet (fail)
          go_wp2_with fail
          go_ret2
          exact num_stop hr hb hnum (by rw [hG.out]; have := h57'.out; omega) hle _
      · have hd : decide ((48 : Int) ≤ (s[a'].toNat : Int)) = false := by simp; omega
        have h48' := hide h48
        clear h48
        go_wp2_with fail
        go_quiet (fail)
        go_wp2_with fail
        go_ret2
        exact num_stop hr hb hnum (by rw [hG.out]; have := h48'.out; omega) hle _
    · have hd : decide ((a' : Int) < (s.size : Int)) = false := by simp; omega
      go_wp2_with fail
      go_quiet (fail)
      go_wp2_with fail
      go_ret2
      exact num_stop hr hb hnum (by rw [Kw.g_out (by omega)]; omega) hle _

theorem readNumber_yes {n a1 : Nat} (b : Nat) (s : ByteArray) (a : Nat) (m : Int) (most : Nat) (hm : m = (most : Int)) (w : World) (hs : s.size ≤ 300) (h : Rd b s a w) (ha : a ≤ s.size) (hm2 : most ≤ 99) (hn : Hid (Kw.num s most a = some (n, a1))) :
    Calls Try.prog 92 #[.pointer (some ⟨b, 0, none⟩), .int .i64 m] w fun e w' => e = .returned (.tuple #[.int .i64 (n : Int), .bool true]) ∧ Rd b s a1 w' ∧ Below b w w' := by
  subst hm
  refine (readNumber_any b s a most w hs h ha hm2).mono ?_
  rintro e w' ⟨a2, r1, r2, ⟨k, e1, e2⟩ | ⟨e1, e2⟩⟩
  · rw [hn.out] at e1
    simp at e1
    obtain ⟨rfl, rfl⟩ := e1
    exact ⟨e2, r1, r2⟩
  · rw [hn.out] at e1; simp at e1

theorem readNumber_no (b : Nat) (s : ByteArray) (a : Nat) (m : Int) (most : Nat) (hm : m = (most : Int)) (w : World) (hs : s.size ≤ 300) (h : Rd b s a w) (ha : a ≤ s.size) (hm2 : most ≤ 99) (hn : Hid (Kw.num s most a = none)) :
    Calls Try.prog 92 #[.pointer (some ⟨b, 0, none⟩), .int .i64 m] w fun e w' => e = .returned (.tuple #[.int .i64 0, .bool false]) ∧ (∃ a1, Rd b s a1 w') ∧ Below b w w' := by
  subst hm
  refine (readNumber_any b s a most w hs h ha hm2).mono ?_
  rintro e w' ⟨a2, r1, r2, ⟨k, e1, e2⟩ | ⟨e1, e2⟩⟩
  · rw [hn.out] at e1; simp at e1
  · exact ⟨e2, ⟨a2, r1⟩, r2⟩

set_option maxHeartbeats 400000 in
theorem readLetter_yes (b : Nat) (s : ByteArray) (a : Nat) (w : World) (hs : s.size ≤ 300) (h : Rd b s a w) (h1 : 65 ≤ Kw.g s a) (h2 : Kw.g s a ≤ 72) :
    Calls Try.prog 91 #[.pointer (some ⟨b, 0, none⟩)] w fun e w' => e = .returned (.tuple #[.int .i64 ((Kw.g s a : Int) - 65), .bool true]) ∧ Rd b s (a + 1) w' ∧ Below b w w' := by
  have ha : a < s.size := Kw.g_lt.1 (by omega)
  have hr := hide h
  clear h
  go_enter Try.func91, Try.ntmps91
  go_wp2_with fail
  refine (readSign_in b s a _ hs (unhide hr) ha).mono ?_
  rintro e w1 ⟨rfl, r1, hb1⟩
  go_wp2_with fail
  refine (isOne_yes _ _ (by omega) (by omega)).mono ?_
  rintro e w2 ⟨rfl, rfl⟩
  go_wp2_with fail
  go_ret2
  exact ⟨rfl, r1, hb1⟩

set_option maxHeartbeats 400000 in
theorem readLetter_no (b : Nat) (s : ByteArray) (a : Nat) (w : World) (hs : s.size ≤ 300) (h : Rd b s a w) (hn : Kw.g s a < 65 ∨ 72 < Kw.g s a) :
    Calls Try.prog 91 #[.pointer (some ⟨b, 0, none⟩)] w fun e w' => ∃ v, e = .returned (.tuple #[v, .bool false]) ∧ (∃ a1, Rd b s a1 w') ∧ Below b w w' := by
  have hr := hide h
  clear h
  by_cases ha : a < s.size
  · have hg := Kw.g_lt.2 ha
    go_enter Try.func91, Try.ntmps91
    go_wp2_with fail
    refine (readSign_in b s a _ hs (unhide hr) ha).mono ?_
    rintro e w1 ⟨rfl, r1, hb1⟩
    go_wp2_with fail
    refine (isOne_no _ _ (by omega)).mono ?_
    rintro e w2 ⟨rfl, rfl⟩
    go_wp2_with fail
    go_ret2
    exact ⟨_, rfl, ⟨_, r1⟩, hb1⟩
  · clear hn
    go_enter Try.func91, Try.ntmps91
    go_wp2_with fail
    refine (readSign_out b s a _ (unhide hr) (by omega)).mono ?_
    rintro e w1 ⟨rfl, r1, hb1⟩
    go_wp2_with fail
    go_ret2
    exact ⟨_, rfl, ⟨_, r1⟩, hb1⟩
end Go.Proofs.Ytgdhlnfigcaepaa
