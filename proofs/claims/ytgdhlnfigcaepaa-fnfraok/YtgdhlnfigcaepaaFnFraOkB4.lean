/-
  Contracts of the functions that draw texts, right and wrong ones, from a code.
-/
import Derived.Test.YtgdhlnfigcaepaaFnFraOkB3
import Derived.Test.YtgdhlnfigcaepaaFnFraOkB1
import Derived.WalkKit
import Derived.RangeFuncNested
import Derived.Deep.MidRow
import Derived.Test.YtgdhlnfigcaepaaFnFraOkB2
import Derived.Shelf.LaysM
import Derived.Shelf.Strconv.Clone
import Derived.Test.YtgdhlnfigcaepaaRows
import Derived.Deep.RegionWith
namespace Go.Proofs.Ytgdhlnfigcaepaa
open Go.RowKit

set_option maxHeartbeats 2000000 in
theorem l20Bent_any (b : Nat) (C : Code) (p : Nat) (s : ByteArray) (hs : s.size ≤ 300) (w : World) (h : DrC b C p w) (hp : p + 4 ≤ 1000000) :
    Calls Try.prog 83 #[.pointer (some ⟨b, 0, none⟩), .string s] w (StrPost b C p 4 700 w) := by
  have hD := hide h
  have hcv := conv1
  clear h
  go_enter Try.func83, Try.ntmps83
  go_wp2_with fail
  refine (pick_any b C p (s.size + 1) _ (by simp) _ (unhide hD) (by omega) (by omega) (by omega)).mono ?_
  rintro e w1 ⟨k, rfl, hk, d1, x1⟩
  have D1 := hide d1
  clear d1
  go_wp2_with fail
  refine (pick_any b C (p + 1) 256 _ rfl _ (unhide D1) (by omega) (by omega) (by omega)).mono ?_
  rintro e w2 ⟨v2, rfl, hv2, d2, x2⟩
  have D2 := hide d2
  have x12 := x1.trans x2
  have hlt2 := d2.lt
  clear d2 x1 x2 D1
  go_wp2_with fail
  refine (pick_any b C (p + 1 + 1) 10 _ rfl _ ((unhide D2).alloc _) (by omega) (by omega) (by omega)).mono ?_
  rintro e w3 ⟨v3, rfl, hv3, d3, x3⟩
  have hu : ∃ u : Int, w3.cell? ⟨w2.heap.size, v3, none⟩ = some (.int .i64 u) ∧ 0 ≤ u ∧ u ≤ 255 := by
    rw [x3.cell (p := ⟨w2.heap.size, v3, none⟩) (by simp) (by show w2.heap.size ≠ b; omega)]
    match v3, hv3 with
    | 0, _ => exact ⟨32, by simp [go_sem], by omega, by omega⟩
    | 1, _ => exact ⟨48, by simp [go_sem], by omega, by omega⟩
    | 2, _ => exact ⟨49, by simp [go_sem], by omega, by omega⟩
    | 3, _ => exact ⟨57, by simp [go_sem], by omega, by omega⟩
    | 4, _ => exact ⟨59, by simp [go_sem], by omega, by omega⟩
    | 5, _ => exact ⟨110, by simp [go_sem], by omega, by omega⟩
    | 6, _ => exact ⟨101, by simp [go_sem], by omega, by omega⟩
    | 7, _ => exact ⟨65, by simp [go_sem], by omega, by omega⟩
    | 8, _ => exact ⟨73, by simp [go_sem], by omega, by omega⟩
    | 9, _ => exact ⟨(v2 : Int), by simp [go_sem], by omega, by omega⟩
    | v + 10, hv => omega
  obtain ⟨u, hu1, hu2, hu3⟩ := hu
  have x13 := (x12.alloc _).trans x3
  have D3 := hide d3
  have hlt3 := d3.lt
  have hv3' : (v3 : Int) < 10 := by omega
  clear d3 x3 x12 D2 hv3
  go_wp2_with fail
  refine (pick_any b C (p + 1 + 1 + 1) 3 _ rfl _ ((unhide D3).alloc _) (by omega) (by omega) (by omega)).mono ?_
  rintro e w4 ⟨v4, rfl, hv4, d4, x4⟩
  have x14 := (x13.alloc _).trans x4
  have D4 := hide d4
  clear d4 x4 x13 D3 hu1
  generalize hcc : by1 u.toNat = c
  have hcs : c.size = 1 := by rw [← hcc]; rfl
  clear hcc
  by_cases h0 : v4 = 0
  · subst h0
    have i1 : (k : Int) ≤ (s.size : Int) := by omega
    go_wp2_with fail
    go_quiet (fail)
    go_wp2_with fail
    go_ret
    exact ⟨_, p + 1 + 1 + 1 + 1, rfl, by simp [ByteArray.size_append, ByteArray.size_extract]; omega, by omega, (unhide D4).drewN _, x14.drewN _⟩
  have e0 : ((v4 : Int) == 0) = false := by simp; omega
  by_cases h1 : v4 = 1
  · subst h1
    by_cases hks : k < s.size
    · have i1 : (k : Int) < (s.size : Int) := by omega
      have i2 : (k : Int) ≤ (s.size : Int) := by omega
      have i3 : (k : Int) + 1 ≤ (s.size : Int) := by omega
      go_wp2_with fail
      go_quiet (fail)
      go_wp2_with fail
      go_ret
      exact ⟨_, p + 1 + 1 + 1 + 1, rfl, by simp [ByteArray.size_append, ByteArray.size_extract]; omega, by omega, (unhide D4).drewN _, x14.drewN _⟩
    · have i1 : decide ((k : Int) < (s.size : Int)) = false := by simp; omega
      go_wp2_with fail
      go_ret
      exact ⟨_, p + 1 + 1 + 1 + 1, rfl, by omega, by omega, unhide D4, x14⟩
  have e1 : ((v4 : Int) == 1) = false := by simp; omega
  clear h0 h1
  by_cases hks : k < s.size
  · have i1 : (k : Int) < (s.size : Int) := by omega
    have i2 : (k : Int) ≤ (s.size : Int) := by omega
    have i3 : (k : Int) + 1 ≤ (s.size : Int) := by omega
    go_wp2_with fail
    go_quiet (fail)
    go_wp2_with fail
    go_ret
    exact ⟨_, p + 1 + 1 + 1 + 1, rfl, by simp [ByteArray.size_append, ByteArray.size_extract]; omega, by omega, (unhide D4).drewN _, x14.drewN _⟩
  · have i1 : decide ((k : Int) < (s.size : Int)) = false := by simp; omega
    go_wp2_with fail
    go_ret
    exact ⟨_, p + 1 + 1 + 1 + 1, rfl, by omega, by omega, unhide D4, x14⟩

set_option maxRecDepth 100000 in
set_option maxHeartbeats 2000000 in
theorem l20SecretOr_any (b : Nat) (C : Code) (p n : Nat) (m : Int) (hm : m = (n : Int)) (w : World) (h : DrC b C p w) (hn : 1 ≤ n) (hn2 : n ≤ 1000) (hp : p + 100 ≤ 1000000) :
    Calls Try.prog 72 #[.pointer (some ⟨b, 0, none⟩), .int .i64 m] w (StrPost b C p 100 700 w) := by
  subst hm
  have hD := hide h
  have hk4 : Kd 4 = 77 := rfl
  have H4 := l20Secret_any b C 4 (by omega)
  clear h
  go_enter Try.func72, Try.ntmps72
  go_wp2_with fail
  refine (H4 _ p _ rfl (unhide hD) (by omega)).mono ?_
  rintro e w1 ⟨s, q, rfl, hs, hq, d1, x1⟩
  have D1 := hide d1
  clear d1 H4
  rw [hk4] at hq
  clear hk4
  go_wp2_with fail
  refine (odd_any b C q n _ rfl _ (unhide D1) hn hn2 (by omega)).mono ?_
  rintro e w2 ⟨c, rfl, d2, x2⟩
  have D2 := hide d2
  have x12 := x1.trans x2
  clear d2 x1 x2 D1
  cases c with
  | false =>
    go_wp2_with fail
    go_ret
    exact ⟨s, q + 1, rfl, by omega, by omega, unhide D2, x12⟩
  | true =>
    go_wp2_with fail
    refine (pick_any b C (q + 1) 4 _ rfl _ (unhide D2) (by omega) (by omega) (by omega)).mono ?_
    rintro e w3 ⟨v, rfl, hv, d3, x3⟩
    have D3 := hide d3
    have hlt3 := d3.lt
    have x13 := x12.trans x3
    clear d3 x3 x12 D2
    by_cases h0 : v = 0
    · subst h0
      go_wp2_with fail
      refine (l20Bent_any b C (q + 1 + 1) s hs _ (unhide D3) (by omega)).mono ?_
      rintro e w4 ⟨s4, q4, rfl, hs4, hq4, d4, x4⟩
      go_wp2_with fail
      go_ret
      exact ⟨s4, q4, rfl, hs4, by omega, d4, x13.trans x4⟩
    have e0 : ((v : Int) == 0) = false := by simp; omega
    by_cases h1 : v = 1
    · subst h1
      go_wp2_with fail
      refine (pick_any b C (q + 1 + 1) 13 _ rfl _ ((unhide D3).alloc _) (by omega) (by omega) (by omega)).mono ?_
      rintro e w4 ⟨k, rfl, hk, d4, x4⟩
      have hu : ∃ u : ByteArray, w4.cell? ⟨w3.heap.size, k, none⟩ = some (.string u) ∧ u.size ≤ 300 := by
        rw [x4.cell (p := ⟨w3.heap.size, k, none⟩) (by simp) (by show w3.heap.size ≠ b; omega)]
        match k, hk with
        | 0, _ => exact ⟨_, by simp [go_sem]; rfl, by decide⟩
        | 1, _ => exact ⟨_, by simp [go_sem]; rfl, by decide⟩
        | 2, _ => exact ⟨_, by simp [go_sem]; rfl, by decide⟩
        | 3, _ => exact ⟨_, by simp [go_sem]; rfl, by decide⟩
        | 4, _ => exact ⟨_, by simp [go_sem]; rfl, by decide⟩
        | 5, _ => exact ⟨_, by simp [go_sem]; rfl, by decide⟩
        | 6, _ => exact ⟨_, by simp [go_sem]; rfl, by decide⟩
        | 7, _ => exact ⟨_, by simp [go_sem]; rfl, by decide⟩
        | 8, _ => exact ⟨_, by simp [go_sem]; rfl, by decide⟩
        | 9, _ => exact ⟨_, by simp [go_sem]; rfl, by decide⟩
        | 10, _ => exact ⟨_, by simp [go_sem]; rfl, by decide⟩
        | 11, _ => exact ⟨_, by simp [go_sem]; rfl, by decide⟩
        | 12, _ => exact ⟨_, by simp [go_sem]; rfl, by decide⟩
        | k + 13, hk => omega
      obtain ⟨u, hu1, hu2⟩ := hu
      have x14 := (x13.alloc _).trans x4
      have D4 := hide d4
      have hk' : (k : Int) < 13 := by omega
      clear d4 x4 x13 D3 hk
      go_wp2_with fail
      go_ret
      exact ⟨u, q + 1 + 1 + 1, rfl, by omega, by omega, unhide D4, x14⟩
    have e1 : ((v : Int) == 1) = false := by simp; omega
    by_cases h2 : v = 2
    · subst h2
      clear h0 h1
      go_wp2_with fail
      go_loop [5] (fun t => ∃ y : ByteArray, t = .string y ∧ y.size ≤ 301) (fun t => match t with | .string y => 302 - y.size | _ => 0)
      case atStart => exact ⟨s, rfl, by omega⟩
      case round =>
        obtain ⟨y, rfl, hy⟩ := hrel
        by_cases hy2 : y.size ≤ 300
        · have hy3 : (y.size : Int) ≤ 300 := by omega
          go_wp2_with fail
          refine ⟨⟨⟨#[110]⟩ ++ y, rfl, ?_⟩, ?_⟩
          · simp [ByteArray.size_append]; show 1 + y.size ≤ 301; omega
          · simp [ByteArray.size_append]; show 302 - (1 + y.size) < 302 - y.size; omega
        · have hy3 : decide ((y.size : Int) ≤ 300) = false := by simp; omega
          go_wp2_with fail
          go_ret
          exact ⟨y, q + 1 + 1, rfl, by omega, by omega, unhide D3, x13⟩
    have e2 : ((v : Int) == 2) = false := by simp; omega
    clear h0 h1 h2
    go_wp2_with fail
    go_ret
    exact ⟨_, q + 1 + 1, rfl, by simp [ByteArray.size_append]; omega, by omega, unhide D3, x13⟩
#print axioms l20SecretOr_any
end Go.Proofs.Ytgdhlnfigcaepaa
/-
  Rows of texts: what a slice of texts holds; slices of the call's own. No Go function in it.
-/
namespace Go.Proofs.Ytgdhlnfigcaepaa
open Go.RowKit

/-- A slice holds these texts. -/
def SRow (w : World) (v : Value) (xs : List ByteArray) : Prop :=
  (v = .slice none 0 0 ∧ xs = []) ∨ ∃ (a : Addr) (cap : Nat), v = .slice (some a) xs.length cap ∧ xs.length ≤ cap ∧ cap ≤ maxLen ∧ ∀ i, i < xs.length → w.cell? (a.add i) = some (.string (xs.getD i ByteArray.empty))

theorem cell_lt {w : World} {p : Addr} {v : Value} (h : w.cell? p = some v) : p.block < w.heap.size := by
  apply Classical.byContradiction
  intro hn
  have : w.heap[p.block]? = none := Array.getElem?_eq_none (by omega)
  simp [World.cell?, this] at h

theorem SRow.below {w w' : World} {v : Value} {xs : List ByteArray} (h : SRow w v xs) (hb : Below w.heap.size w w') : SRow w' v xs := by
  rcases h with h | ⟨a, cap, h1, h2, h3, h4⟩
  · exact .inl h
  · exact .inr ⟨a, cap, h1, h2, h3, fun i hi => (hb.cell (p := a.add i) (cell_lt (h4 i hi))).trans (h4 i hi)⟩
theorem SRow.drew {w : World} {v : Value} {xs : List ByteArray} (h : SRow w v xs) : SRow w.drew v xs := h

theorem ret_bool' {a b : Bool} (h : a = b) : Ending.returned (.bool a) = .returned (.bool b) := by rw [h]
theorem toList_eq {x y : ByteArray} : (x.toList == y.toList) = true ↔ x = y := by
  constructor
  · intro h
    have h1 : x.toList = y.toList := by simpa using h
    have h2 := congrArg (fun l => (⟨l.toArray⟩ : ByteArray)) h1
    exact ByteArray.ext (by simpa [ByteArray.toList_eq] using h2)
  · intro h; subst h; simp

/-- A text is one of some. -/
def has (xs : List ByteArray) (s : ByteArray) : Bool := xs.any fun x => decide (x = s)
theorem has_iff {xs : List ByteArray} {s : ByteArray} : has xs s = true ↔ s ∈ xs := by
  unfold has
  simp
theorem has_not {xs : List ByteArray} {s : ByteArray} (h : ¬ s ∈ xs) : has xs s = false := by
  cases q : has xs s with
  | false => rfl
  | true => exact absurd (has_iff.1 q) h

theorem SRow.form {w : World} {v : Value} {xs : List ByteArray} (h : SRow w v xs) :
    ∃ (ao : Option Addr) (cap : Nat), v = .slice ao xs.length cap ∧ xs.length ≤ cap ∧ cap ≤ maxLen ∧ ∀ i, i < xs.length → ∃ a, ao = some a ∧ w.cell? (a.add i) = some (.string (xs.getD i ByteArray.empty)) := by
  rcases h with ⟨rfl, rfl⟩ | ⟨a, cap, rfl, h1, h2, h3⟩
  · exact ⟨none, 0, rfl, Nat.le_refl _, by omega, fun i hi => absurd hi (Nat.not_lt_zero _)⟩
  · exact ⟨some a, cap, rfl, h1, h2, fun i hi => ⟨a, rfl, h3 i hi⟩⟩

theorem getD_mem {xs : List ByteArray} {k : Nat} (h : k < xs.length) : xs.getD k ByteArray.empty ∈ xs := by
  rw [List.getD_eq_getElem?_getD, List.getElem?_eq_getElem h]
  exact List.getElem_mem h

theorem mem_getD {xs : List ByteArray} {x : ByteArray} (h : x ∈ xs) : ∃ k, k < xs.length ∧ xs.getD k ByteArray.empty = x := by
  obtain ⟨j, hj, e⟩ := List.getElem_of_mem h
  refine ⟨j, hj, ?_⟩
  rw [List.getD_eq_getElem?_getD, List.getElem?_eq_getElem hj]
  exact e

theorem rows_eq {xs ys : List ByteArray} (hl : xs.length = ys.length) (h : ∀ j, j < xs.length → xs.getD j ByteArray.empty = ys.getD j ByteArray.empty) : xs = ys := by
  apply List.ext_getElem hl
  intro i h1 h2
  have := h i h1
  rw [List.getD_eq_getElem?_getD, List.getElem?_eq_getElem h1, List.getD_eq_getElem?_getD, List.getElem?_eq_getElem h2] at this
  exact this

/-- What is owned is held. -/
theorem own_srow {w : World} {base : Nat} {v : Value} {xs : List ByteArray} (h : w.ownsRow base 9 1 v xs.length (xs.map Value.string)) : SRow w v xs := by
  have hh := h
  rcases h.2 with ⟨h1, h2⟩ | ⟨g, cap, cur, h1, h2, h3, h4, h5, h6, h7⟩
  · exact .inl ⟨h1, List.eq_nil_of_length_eq_zero h2⟩
  · subst h1
    refine .inr ⟨⟨g, 0, none⟩, cap, rfl, h4, h5, fun i hi => ?_⟩
    have hc := hh.cellAt i (by omega)
    rw [Addr.add_lit, Nat.zero_add, hc]
    simp [hi]
theorem own_below' {w w' : World} {base : Nat} {e : TypeId} {size : Nat} {v : Value} {n : Nat} {xs : List Value} (h : w.ownsRow base e size v n xs) (hb : Below w.heap.size w w') : w'.ownsRow base e size v n xs := by
  refine ⟨h.1, h.2.imp id ?_⟩
  rintro ⟨g, cap, cur, h1, h2, h3, h4⟩
  have hlt : g < w.heap.size := by
    apply Classical.byContradiction
    intro hn
    rw [Array.getElem?_eq_none (by omega)] at h3
    cases h3
  exact ⟨g, cap, cur, h1, h2, (hb.block g hlt).trans h3, h4⟩

/-- A slice of the call's own holds these texts. -/
def Own (B : Nat) (w : World) (v : Value) (xs : List ByteArray) : Prop := w.ownsRow B 9 1 v xs.length (xs.map Value.string)
theorem Own.below {B : Nat} {w w' : World} {v : Value} {xs : List ByteArray} (h : Own B w v xs) (hb : Below w.heap.size w w') : Own B w' v xs := own_below' h hb
theorem Own.srow {B : Nat} {w : World} {v : Value} {xs : List ByteArray} (h : Own B w v xs) : SRow w v xs := own_srow h
theorem Own.grow {B : Nat} {w w6 w7 : World} {o : Obj} {v v' : Value} {xs : List ByteArray} {y : ByteArray} (hO : Own B w6 v xs) (hbl : Below B w w6) (hB : B ≤ w.heap.size)
    (hown' : w7.ownsRow B 9 1 v' (xs.length + 1) (xs.map Value.string ++ [.string y])) (hg : (w6.alloc o).grownBy w7 v.ownBlock) : Own B w7 v' (xs ++ [y]) ∧ Below B w w7 := by
  have hs := hbl.size
  refine ⟨?_, (hbl.alloc (by omega) o).grown hg (by simp; omega) (fun k hk => (hO.lt k hk).1)⟩
  unfold Own
  rw [List.length_append, List.map_append]
  exact hown'

/-- How long a slice is. -/
def lenOf : Value → Nat
  | .slice _ n _ => n
  | _ => 0
theorem Own.len {B : Nat} {w : World} {v : Value} {xs : List ByteArray} (h : Own B w v xs) : lenOf v = xs.length := by
  rcases h.2 with ⟨h1, h2⟩ | ⟨g, cap, cur, h1, _⟩
  · rw [h1, h2]; rfl
  · rw [h1]; rfl

theorem info_str2 : (Try.prog.info? 9).map (fun i => (i.zero, i.size, i.bytes)) = some (some (.string ⟨#[]⟩), 1, 16) := by kernel_rfl

theorem row_form' {w : World} {B : Nat} {e : TypeId} {size : Nat} {v : Value} {n : Nat} {xs : List Value} (h : w.ownsRow B e size v n xs) : ∃ ao cap, v = .slice ao n cap := by
  rcases h.2 with ⟨h1, h2⟩ | ⟨g, cap, cur, h1, _⟩
  · exact ⟨none, 0, by rw [h1, h2]⟩
  · exact ⟨_, cap, h1⟩
end Go.Proofs.Ytgdhlnfigcaepaa
/-
  What a reader leaves of rows; what a row leaves of a reader. No Go function in it.
-/
namespace Go.Proofs.Ytgdhlnfigcaepaa
open Go.RowKit

theorem row_ex {b B : Nat} {w w' : World} {e : TypeId} {size : Nat} {v : Value} {n : Nat} {xs : List Value} (h : w.ownsRow B e size v n xs) (x : Ex b w w') (hb : b < B) : w'.ownsRow B e size v n xs := by
  refine ⟨h.1, h.2.imp id ?_⟩
  rintro ⟨g, cap, cur, h1, h2, h3, h4⟩
  exact ⟨g, cap, cur, h1, h2, (x.block g (Array.getElem?_eq_some_iff.1 h3).1 (by omega)).trans h3, h4⟩
theorem Own.ex {b B : Nat} {w w' : World} {v : Value} {xs : List ByteArray} (h : Own B w v xs) (x : Ex b w w') (hb : b < B) : Own B w' v xs := row_ex h x hb
theorem DrC.grown {b : Nat} {C : Code} {p : Nat} {w w' : World} {r : Option Nat} (h : DrC b C p w) (hg : w.grownBy w' r) (hr : ∀ k, r = some k → b < k) : DrC b C p w' := by
  have hblk : ∀ k, k ≤ b → k < w.heap.size → w'.heap[k]? = w.heap[k]? := fun k hk hl => hg.block k hl (fun e => by have := hr k e.symm; omega)
  obtain ⟨c0, c1, f1, lt, le, row⟩ := h
  have hb := hblk b (Nat.le_refl _) lt
  refine ⟨(World.cell?_of_block (a := ⟨b, 0, none⟩) hb).trans c0, (World.cell?_of_block (a := ⟨b, 1, none⟩) hb).trans c1, (World.frozen?_of_block (a := ⟨b, 1, none⟩) hb).trans f1, Nat.lt_of_lt_of_le lt hg.size, le, ?_⟩
  rcases row with h0 | ⟨x, hx, hxb, hrw⟩
  · exact .inl h0
  · refine .inr ⟨x, hx, hxb, fun i hi => ⟨?_, (hrw i hi).2⟩⟩
    have : (x.add i).block < b := by rw [add_block]; exact hxb
    exact (World.cell?_of_block (a := x.add i) (hblk _ (by omega) (by omega))).trans (hrw i hi).1
theorem Ex.grown {b : Nat} {w0 w w' : World} {r : Option Nat} (h : Ex b w0 w) (hg : w.grownBy w' r) (hr : ∀ k, r = some k → w0.heap.size ≤ k) : Ex b w0 w' :=
  ⟨hg.os.trans h.os, hg.tape.trans h.tape, hg.output.trans h.output, Nat.le_trans h.size hg.size, fun k hk hn => (hg.block k (Nat.lt_of_lt_of_le hk h.size) (fun e => by have := hr k e.symm; omega)).trans (h.block k hk hn)⟩
end Go.Proofs.Ytgdhlnfigcaepaa
/-
  Rows that came in stay as they are. No Go function in it.
-/
namespace Go.Proofs.Ytgdhlnfigcaepaa
open Go.RowKit

theorem IsRow.belowR {k : IntKind} {w w' : World} {a : Option Addr} {len cap : Nat} {zs : List Int} (h : IsRow k w a len cap zs) (hb : Below w.heap.size w w') : IsRow k w' a len cap zs := by
  rcases h with h | ⟨x, h1, h2, h3, h4, h5, h6⟩
  · exact .inl h
  · exact .inr ⟨x, h1, h2, h3, h4, fun i hi => (hb.cell (p := x.add i) (below_lt (h5 i hi))).trans (h5 i hi), h6⟩
end Go.Proofs.Ytgdhlnfigcaepaa
/-
  Slices of the call's own, their rows between two numbers. No Go function in it.
-/
namespace Go.Proofs.Ytgdhlnfigcaepaa
open Go.RowKit

/-- A slice of the call's own, its row between two numbers. -/
def RowIn (lo hi : Nat) (e : TypeId) (size : Nat) (w : World) (v : Value) (n : Nat) (xs : List Value) : Prop := w.ownsRow lo e size v n xs ∧ ∀ g, v.ownBlock = some g → g < hi
theorem RowIn.of {lo : Nat} {e : TypeId} {size : Nat} {w : World} {v : Value} {n : Nat} {xs : List Value} (h : w.ownsRow lo e size v n xs) : RowIn lo w.heap.size e size w v n xs := ⟨h, fun g hg => (h.lt g hg).2⟩
theorem RowIn.below {lo hi : Nat} {e : TypeId} {size : Nat} {w w' : World} {v : Value} {n : Nat} {xs : List Value} (h : RowIn lo hi e size w v n xs) (hb : Below w.heap.size w w') : RowIn lo hi e size w' v n xs := ⟨own_below' h.1 hb, h.2⟩
theorem RowIn.grown {lo hi : Nat} {e : TypeId} {size : Nat} {w w' : World} {v : Value} {n : Nat} {xs : List Value} {r : Option Nat} (h : RowIn lo hi e size w v n xs) (hg : w.grownBy w' r) (hr : ∀ k, r = some k → k < lo ∨ hi ≤ k) : RowIn lo hi e size w' v n xs := by
  refine ⟨h.1.kept hg ?_, h.2⟩
  cases hv : v.ownBlock with
  | none => exact .inl rfl
  | some g =>
    right
    intro e'
    have h1 := (h.1.lt g hv).1
    have h2 := h.2 g hv
    have := hr g e'.symm
    omega
theorem RowIn.out {lo hi : Nat} {e : TypeId} {size : Nat} {w : World} {v : Value} {n : Nat} {xs : List Value} (h : RowIn lo hi e size w v n xs) : ∀ k, v.ownBlock = some k → lo ≤ k ∧ k < hi := fun k hk => ⟨(h.1.lt k hk).1, h.2 k hk⟩
/-- Texts, so. -/
def TIn (lo hi : Nat) (w : World) (v : Value) (xs : List ByteArray) : Prop := RowIn lo hi 9 1 w v xs.length (xs.map Value.string)
theorem TIn.srow {lo hi : Nat} {w : World} {v : Value} {xs : List ByteArray} (h : TIn lo hi w v xs) : SRow w v xs := own_srow h.1
theorem TIn.below {lo hi : Nat} {w w' : World} {v : Value} {xs : List ByteArray} (h : TIn lo hi w v xs) (hb : Below w.heap.size w w') : TIn lo hi w' v xs := RowIn.below h hb
theorem TIn.grown {lo hi : Nat} {w w' : World} {v : Value} {xs : List ByteArray} {r : Option Nat} (h : TIn lo hi w v xs) (hg : w.grownBy w' r) (hr : ∀ k, r = some k → k < lo ∨ hi ≤ k) : TIn lo hi w' v xs := RowIn.grown h hg hr
end Go.Proofs.Ytgdhlnfigcaepaa
/-
  Variables in blocks of their own, beside rows. No Go function in it.
-/
namespace Go.Proofs.Ytgdhlnfigcaepaa
open Go.RowKit

theorem box_below {w w' : World} {b : Nat} {t : TypeId} {v : Value} (h : Boxed w b t v) (hb : Below w.heap.size w w') : Boxed w' b t v := (hb.block b h.lt).trans h
theorem box_below0 {w w' : World} {b B : Nat} {t : TypeId} {v : Value} (h : Boxed w b t v) (hb : Below B w w') (hlt : b < B) : Boxed w' b t v := (hb.block b hlt).trans h
/-- A row is not a variable's block: what is stored there leaves it. -/
theorem row_box {B : Nat} {w : World} {e t : TypeId} {size n b : Nat} {v u : Value} {xs : List Value} (h : w.ownsRow B e size v n xs) (hx : Boxed w b t u) (hte : t ≠ e) (x : Value) : (w.setCell ⟨b, 0, none⟩ x).ownsRow B e size v n xs :=
  h.kept (grownBy_setCell' w b x) (.inr (hx.not_row hte h).symm)
/-- A store into a variable's block leaves what lies below. -/
theorem below_box {B : Nat} {w w' : World} {b : Nat} (h : Below B w w') (hb : B ≤ b) (x : Value) : Below B w (w'.setCell ⟨b, 0, none⟩ x) := h.setCell (p := ⟨b, 0, none⟩) hb x
/-- A row that grows or turns leaves a variable's block of another type. -/
theorem box_grown {B : Nat} {w w' : World} {e t : TypeId} {size n b : Nat} {v u : Value} {xs : List Value} (hx : Boxed w b t u) (h : w.ownsRow B e size v n xs) (hte : t ≠ e) (hg : w.grownBy w' v.ownBlock) : Boxed w' b t u := hx.kept hg (hx.not_row hte h)
theorem row_lowB {B B' : Nat} {w : World} {e : TypeId} {size : Nat} {v : Value} {n : Nat} {xs : List Value} (h : w.ownsRow B e size v n xs) (hB : B' ≤ B) : w.ownsRow B' e size v n xs := by
  refine ⟨h.1, h.2.imp id ?_⟩
  rintro ⟨g, cap, cur, h1, h2, h3⟩
  exact ⟨g, cap, cur, h1, by omega, h3⟩
end Go.Proofs.Ytgdhlnfigcaepaa
/-
  Blocks of several cells that a call made: whole values stored into them and read out of them. No Go function in it.
-/
namespace Go.Proofs.Ytgdhlnfigcaepaa
open Go.RowKit

/-- A block holds these cells, all of one variable. -/
def Blk (w : World) (b : Nat) (t : TypeId) (cs : Array Value) : Prop := w.heap[b]? = some (.cells cs t (0, 0))
theorem Blk.lt {w : World} {b : Nat} {t : TypeId} {cs : Array Value} (h : Blk w b t cs) : b < w.heap.size := (Array.getElem?_eq_some_iff.1 h).1
theorem Blk.new (w : World) (t : TypeId) (cs : Array Value) : Blk (w.alloc (.cells cs t)) w.heap.size t cs := World.alloc_heap_new w _
theorem Blk.below {w w' : World} {b : Nat} {t : TypeId} {cs : Array Value} (h : Blk w b t cs) (hb : Below w.heap.size w w') : Blk w' b t cs := (hb.block b h.lt).trans h
theorem Blk.below0 {w w' : World} {b B : Nat} {t : TypeId} {cs : Array Value} (h : Blk w b t cs) (hb : Below B w w') (hlt : b < B) : Blk w' b t cs := (hb.block b hlt).trans h
theorem Blk.kept {w w' : World} {row : Option Nat} {b : Nat} {t : TypeId} {cs : Array Value} (h : Blk w b t cs) (hg : w.grownBy w' row) (hne : some b ≠ row) : Blk w' b t cs := (hg.block b h.lt hne).trans h
theorem Blk.alloc {w : World} {b : Nat} {t : TypeId} {cs : Array Value} (h : Blk w b t cs) (o : Obj) : Blk (w.alloc o) b t cs := h.kept (World.grownBy_alloc w o none) (by simp)
theorem Blk.drew {w : World} {b : Nat} {t : TypeId} {cs : Array Value} (h : Blk w b t cs) : Blk w.drew b t cs := h
theorem Blk.cell {w : World} {b : Nat} {t : TypeId} {cs : Array Value} (h : Blk w b t cs) (i : Nat) : w.cell? ⟨b, i, none⟩ = cs[i]? := by simp [World.cell?, show w.heap[b]? = _ from h]
theorem Blk.frozen {w : World} {b : Nat} {t : TypeId} {cs : Array Value} (h : Blk w b t cs) (i : Nat) : w.frozen? ⟨b, i, none⟩ = false := by simp [World.frozen?, show w.heap[b]? = _ from h]
theorem Blk.set {w : World} {b : Nat} {t : TypeId} {cs : Array Value} (h : Blk w b t cs) (ds : Array Value) : Blk (w.setRow b ds) b t ds := setRow_heap w b cs ds t _ h
theorem grown_setRow (w : World) (b : Nat) (cs : Array Value) : w.grownBy (w.setRow b cs) (some b) :=
  ⟨rfl, rfl, rfl, by simp, fun k _ hk => setRow_other w b k cs (fun e => hk (by rw [e]))⟩
theorem Blk.other {w : World} {b b' : Nat} {t : TypeId} {cs : Array Value} (h : Blk w b t cs) (hne : b ≠ b') (ds : Array Value) : Blk (w.setRow b' ds) b t cs := h.kept (grown_setRow w b' ds) (fun e => hne (by cases e; rfl))
theorem Blk.boxed {w : World} {b : Nat} {t : TypeId} {v : Value} (h : Blk w b t #[v]) : Boxed w b t v := h
/-- No row of another type is such a block. -/
theorem Blk.not_row {w : World} {b : Nat} {t e : TypeId} {cs : Array Value} (h : Blk w b t cs) (hte : t ≠ e) {base size k : Nat} {v : Value} {xs : List Value} (hr : w.ownsRow base e size v k xs) : some b ≠ v.ownBlock := by
  rcases hr.2 with ⟨rfl, _⟩ | ⟨g, cap, cur, rfl, _, hgb, _⟩
  · simp [Value.ownBlock]
  · intro q
    obtain rfl : b = g := by simpa [Value.ownBlock] using q
    have := (show w.heap[b]? = _ from h).symm.trans hgb
    simp at this
    exact hte this.2
theorem row_blk {B : Nat} {w : World} {e t : TypeId} {size n b : Nat} {v : Value} {xs : List Value} {cs : Array Value} (h : w.ownsRow B e size v n xs) (hx : Blk w b t cs) (hte : t ≠ e) (ds : Array Value) : (w.setRow b ds).ownsRow B e size v n xs :=
  h.kept (grown_setRow w b ds) (.inr (hx.not_row hte h).symm)
theorem below_blk {B : Nat} {w w' : World} {b : Nat} (h : Below B w w') (hb : B ≤ b) (ds : Array Value) : Below B w (w'.setRow b ds) := h.trans ⟨rfl, rfl, rfl, by simp [World.setRow], fun k hk => setRow_other w' b k ds (by omega)⟩
/-- A value of several cells is stored whole. -/
theorem wpList_store_whole {P : Program} {ops : Array Oper} {rest : List Oper} {o : Oper} {a : Act} {w : World} {Q : Exit → Act → World → Prop} (hg : o.guard = none) (ty : TypeId) (x y : Operand) (ho : o.op = .store ty x y)
    (b : Nat) (cells : Array Value) (hx : a.eval x = .pointer (some ⟨b, 0, none⟩)) (hy : a.eval y = .agg cells)
    (t : TypeId) (old : Array Value) (hb : Blk w b t old) (hi : (P.info? ty).map (·.size) = some cells.size)
    (hold : old.size = cells.size) (h1 : cells.all (·.oneCell') = true)
    (h : wpList P ops Q rest (a.put o.dst undef) (w.setRow b cells)) : wpList P ops Q (o :: rest) a w :=
  wpList_plain hg fun _ hK => wp_store_row ty x y ho b cells hx hy t old hb hi hold h1 (hK _ _ h)
/-- A value of several cells is read whole. -/
theorem wpList_load_whole {P : Program} {ops : Array Oper} {rest : List Oper} {o : Oper} {a : Act} {w : World} {Q : Exit → Act → World → Prop} (hg : o.guard = none) (ty : TypeId) (x : Operand) (ho : o.op = .load ty x)
    (b : Addr) (hx : a.eval x = .pointer (some b)) (v : Value) (hl : (loadVar ty b).run P w = .ok v w)
    (h : wpList P ops Q rest (a.put o.dst v) w) : wpList P ops Q (o :: rest) a w :=
  wpList_plain hg fun _ hK => by
    unfold Oper.wp execOp
    simp only [ho, hx, Instr.loadAt, Instr.sureAddr, Sem.run_bind, Sem.run_pure, Result.andThen_ok, hl]
    exact hK _ _ h
/-- A result that lies in a block. -/
theorem results_cell {P : Program} {fn : Func} {a t : Nat} {tmps : Array Value} {w : World} {b : Addr} {v : Value} (h : fn.results = #[.cell a t]) (hp : tmps.getD a undef = .pointer (some b)) (hl : (loadVar t b).run P w = .ok v w) : (results fn tmps).run P w = .ok v w := by
  have hp' : tmps[a]?.getD undef = .pointer (some b) := by simpa using hp
  simp [results, h, hp', asAddr, hl]
end Go.Proofs.Ytgdhlnfigcaepaa
/-
  Several cells out of and into the middle of a block that a call made. No Go function in it.
-/
namespace Go.Proofs.Ytgdhlnfigcaepaa
open Go.RowKit

theorem heap_setAt {w : World} {b i : Nat} {t : TypeId} {cs : Array Value} (h : Blk w b t cs) (v : Value) : Blk (w.setCell ⟨b, i, none⟩ v) b t (cs.setIfInBounds i v) := by
  unfold Blk
  rw [heap_setCell_same w b i _ _ v h]
theorem Blk.otherC {w : World} {b b' i : Nat} {t : TypeId} {cs : Array Value} (h : Blk w b t cs) (hne : b ≠ b') (v : Value) : Blk (w.setCell ⟨b', i, none⟩ v) b t cs := by
  unfold Blk
  rw [Below.heap_setCell _ _ _ _ hne]
  exact h
theorem grown_setC (w : World) (b i : Nat) (v : Value) : w.grownBy (w.setCell ⟨b, i, none⟩ v) (some b) :=
  ⟨rfl, rfl, rfl, by simp [World.setCell], fun k _ hk => Below.heap_setCell _ _ _ _ (fun e => hk (by rw [e]))⟩
theorem row_setC {B : Nat} {w : World} {e t : TypeId} {size n b i : Nat} {v : Value} {xs : List Value} {cs : Array Value} (h : w.ownsRow B e size v n xs) (hx : Blk w b t cs) (hte : t ≠ e) (x : Value) : (w.setCell ⟨b, i, none⟩ x).ownsRow B e size v n xs :=
  h.kept (grown_setC w b i x) (.inr (hx.not_row hte h).symm)

/-- These cells, from a place on, in others' stead. -/
def setAll : Array Value → Nat → List Value → Array Value
  | cs, _, [] => cs
  | cs, o, v :: r => setAll (cs.setIfInBounds o v) (o + 1) r
theorem Blk.setCells {b : Nat} {t : TypeId} : ∀ (vs : List Value) (o : Nat) {w : World} {cs : Array Value}, Blk w b t cs → Blk (w.setCells b o vs) b t (setAll cs o vs)
  | [], _, _, _, h => h
  | v :: r, o, _, _, h => Blk.setCells r (o + 1) (heap_setAt h v)
theorem grown_trans {u v w : World} {b : Nat} (h : u.grownBy v (some b)) (k : v.grownBy w (some b)) : u.grownBy w (some b) :=
  ⟨k.os.trans h.os, k.tape.trans h.tape, k.output.trans h.output, Nat.le_trans h.size k.size, fun z hz hne => (k.block z (Nat.lt_of_lt_of_le hz h.size) hne).trans (h.block z hz hne)⟩
theorem grown_setCells (b : Nat) : ∀ (vs : List Value) (o : Nat) (w : World), w.grownBy (w.setCells b o vs) (some b)
  | [], _, _ => ⟨rfl, rfl, rfl, Nat.le_refl _, fun _ _ _ => rfl⟩
  | v :: r, o, w => grown_trans (grown_setC w b o v) (grown_setCells b r (o + 1) _)
theorem Blk.there {w : World} {b : Nat} {t : TypeId} {cs : Array Value} (h : Blk w b t cs) {o n : Nat} (hn : o + n ≤ cs.size) : w.there b o n := fun j hj => by
  rw [h.cell, h.frozen]
  refine ⟨?_, rfl⟩
  rw [Array.getElem?_eq_getElem (by omega)]
  rfl
theorem Blk.range {w : World} {b : Nat} {t : TypeId} {cs : Array Value} (h : Blk w b t cs) {o : Nat} {vs : List Value} (hv : ∀ j v, vs[j]? = some v → cs[o + j]? = some v) : w.rangeAt b o vs := fun j v hj => by
  rw [h.cell]; exact hv j v hj
theorem Blk.otherCs {w : World} {b b' o : Nat} {t : TypeId} {cs : Array Value} (h : Blk w b t cs) (hne : b ≠ b') (vs : List Value) : Blk (w.setCells b' o vs) b t cs := h.kept (grown_setCells b' vs o w) (fun e => hne (by cases e; rfl))
theorem row_setCs {B : Nat} {w : World} {e t : TypeId} {size n b o : Nat} {v : Value} {xs : List Value} {cs : Array Value} (h : w.ownsRow B e size v n xs) (hx : Blk w b t cs) (hte : t ≠ e) (vs : List Value) : (w.setCells b o vs).ownsRow B e size v n xs :=
  h.kept (grown_setCells b vs o w) (.inr (hx.not_row hte h).symm)
theorem below_setCs {B : Nat} {w w' : World} {b o : Nat} (h : Below B w w') (hb : B ≤ b) (hs : B ≤ w'.heap.size) (vs : List Value) : Below B w (w'.setCells b o vs) := h.grown (grown_setCells b vs o w') hs (fun k hk => by cases hk; exact hb)
end Go.Proofs.Ytgdhlnfigcaepaa
/-
  The specification's l1In, whatever comes in.
-/
namespace Go.Proofs.Ytgdhlnfigcaepaa
open Go.RowKit

def inB (lo hi n : Int) : Bool := decide (lo ≤ n) && decide (n ≤ hi)
theorem l1In_any (n lo hi : Int) (w : World) :
    Calls Try.prog 36 #[.int .i64 n, .int .i64 lo, .int .i64 hi] w fun e w' => e = .returned (.bool (inB lo hi n)) ∧ w' = w := by
  by_cases h : lo ≤ n ∧ n ≤ hi
  · rw [show inB lo hi n = true by unfold inB; simp [h.1, h.2]]
    exact l1In_yes n lo hi w h.1 h.2
  · rw [show inB lo hi n = false by unfold inB; simp; omega]
    exact l1In_no n lo hi w (by omega)
end Go.Proofs.Ytgdhlnfigcaepaa
/-
  The library's Clone of a text hands back the same bytes: the library's own contract, laid at this program.
-/
namespace Go.Proofs.Ytgdhlnfigcaepaa
open Go.Shelf Go.RowKit

def clone_ren : Go.Shelf.Ren := ⟨fun | 316 => 68 | n => n, fun | 9 => 9 | 3 => 3 | 4 => 4 | 37 => 43 | 0 => 0 | 127 => 108 | 5 => 5 | n => n, fun | n => n⟩
theorem clone_lays : Go.Proofs.LaysM.n316 Try.prog clone_ren := {
  mixed := by kernel_rfl
  f316 := Try.func68.trans (congrArg some (by kernel_rfl))
  t0 := Try.underlying0
  a0 := Try.isAgg0
  z0 := Try.sizeOf0
  v0 := Try.zeroValue0
  t3 := Try.underlying3
  a3 := Try.isAgg3
  z3 := Try.sizeOf3
  v3 := Try.zeroValue3
  t4 := Try.underlying4
  a4 := Try.isAgg4
  z4 := Try.sizeOf4
  v4 := Try.zeroValue4
  t9 := Try.underlying9
  a9 := Try.isAgg9
  z9 := Try.sizeOf9
  v9 := Try.zeroValue9
  t37 := Try.underlying43
  a37 := Try.isAgg43
  z37 := Try.sizeOf43
  v37 := Try.zeroValue43
  t127 := Try.underlying108
  a127 := Try.isAgg108
  z127 := Try.sizeOf108
  v127 := Try.zeroValue108
  t5 := Try.underlying5
  a5 := Try.isAgg5
  z5 := Try.sizeOf5
  v5 := Try.zeroValue5
  i0 := by kernel_rfl
  i3 := by kernel_rfl
  i4 := by kernel_rfl
  i5 := by kernel_rfl
  i9 := by kernel_rfl
  i37 := by kernel_rfl
  i127 := by kernel_rfl }

theorem slClone_any (s : ByteArray) (w : World) (h : s.size ≤ 1000000) :
    Calls Try.prog 68 #[.string s] w fun e w' => e = .returned (.string s) ∧ Below w.heap.size w w' := Any.stringslite_Clone clone_lays s w (by omega)

set_option maxHeartbeats 400000 in
theorem clone_any (s : ByteArray) (w : World) (h : s.size ≤ 1000000) :
    Calls Try.prog 48 #[.string s] w fun e w' => e = .returned (.string s) ∧ Below w.heap.size w w' := by
  go_enter Try.func48, Try.ntmps48
  go_wp2_with (go_at_call 68; refine (slClone_any _ _ h).mono ?_; rintro e w' ⟨rfl, hb⟩)
  go_ret
  exact ⟨rfl, hb⟩
#print axioms clone_any
end Go.Proofs.Ytgdhlnfigcaepaa
/-
  The program's SecMade: what it answers, as a plain function of the text.
-/
namespace Go.Proofs.Ytgdhlnfigcaepaa
open Go.RowKit

theorem bcell {W w1 : World} (hb : Below W.heap.size W w1) : (∀ b o, b < W.heap.size → w1.cell? ⟨b, o, none⟩ = W.cell? ⟨b, o, none⟩) ∧ (∀ b o, b < W.heap.size → w1.frozen? ⟨b, o, none⟩ = W.frozen? ⟨b, o, none⟩) :=
  ⟨fun b o h => hb.cell (p := ⟨b, o, none⟩) h, fun b o h => hb.frozen (p := ⟨b, o, none⟩) h⟩

/-- A struct that tells how a secret was made. -/
def howV (op who n : Int) (a b : ByteArray) : Value := .agg #[.int .i64 op, .int .i64 who, .int .i64 n, .string a, .string b]

theorem ta_new (x : Value) (w : World) : (Instr.typeAssert (.iface 97 x) 76 97 true).run Try.prog w = .ok (.tuple #[x, .bool true]) w := by kernel_rfl
theorem ta_next (x : Value) (w : World) : (Instr.typeAssert (.iface 99 x) 76 99 true).run Try.prog w = .ok (.tuple #[x, .bool true]) w := by kernel_rfl
theorem ta_key (x : Value) (w : World) : (Instr.typeAssert (.iface 100 x) 76 100 true).run Try.prog w = .ok (.tuple #[x, .bool true]) w := by kernel_rfl
theorem ta_epoch (x : Value) (w : World) : (Instr.typeAssert (.iface 102 x) 76 102 true).run Try.prog w = .ok (.tuple #[x, .bool true]) w := by kernel_rfl
theorem ta_say (x : Value) (w : World) : (Instr.typeAssert (.iface 83 x) 76 83 true).run Try.prog w = .ok (.tuple #[x, .bool true]) w := by kernel_rfl
theorem ta_room (x : Value) (w : World) : (Instr.typeAssert (.iface 104 x) 76 104 true).run Try.prog w = .ok (.tuple #[x, .bool true]) w := by kernel_rfl
theorem ta_next_new (x : Value) (w : World) : (Instr.typeAssert (.iface 99 x) 76 97 true).run Try.prog w = .ok (.tuple #[.agg #[.int .i64 0, .int .i64 0], .bool false]) w := by kernel_rfl
theorem ta_key_new (x : Value) (w : World) : (Instr.typeAssert (.iface 100 x) 76 97 true).run Try.prog w = .ok (.tuple #[.agg #[.int .i64 0, .int .i64 0], .bool false]) w := by kernel_rfl
theorem ta_key_next (x : Value) (w : World) : (Instr.typeAssert (.iface 100 x) 76 99 true).run Try.prog w = .ok (.tuple #[.agg #[.string ⟨#[]⟩], .bool false]) w := by kernel_rfl
theorem ta_epoch_new (x : Value) (w : World) : (Instr.typeAssert (.iface 102 x) 76 97 true).run Try.prog w = .ok (.tuple #[.agg #[.int .i64 0, .int .i64 0], .bool false]) w := by kernel_rfl
theorem ta_epoch_next (x : Value) (w : World) : (Instr.typeAssert (.iface 102 x) 76 99 true).run Try.prog w = .ok (.tuple #[.agg #[.string ⟨#[]⟩], .bool false]) w := by kernel_rfl
theorem ta_epoch_key (x : Value) (w : World) : (Instr.typeAssert (.iface 102 x) 76 100 true).run Try.prog w = .ok (.tuple #[.agg #[.string ⟨#[]⟩], .bool false]) w := by kernel_rfl
theorem ta_say_new (x : Value) (w : World) : (Instr.typeAssert (.iface 83 x) 76 97 true).run Try.prog w = .ok (.tuple #[.agg #[.int .i64 0, .int .i64 0], .bool false]) w := by kernel_rfl
theorem ta_say_next (x : Value) (w : World) : (Instr.typeAssert (.iface 83 x) 76 99 true).run Try.prog w = .ok (.tuple #[.agg #[.string ⟨#[]⟩], .bool false]) w := by kernel_rfl
theorem ta_say_key (x : Value) (w : World) : (Instr.typeAssert (.iface 83 x) 76 100 true).run Try.prog w = .ok (.tuple #[.agg #[.string ⟨#[]⟩], .bool false]) w := by kernel_rfl
theorem ta_say_epoch (x : Value) (w : World) : (Instr.typeAssert (.iface 83 x) 76 102 true).run Try.prog w = .ok (.tuple #[.agg #[.string ⟨#[]⟩, .string ⟨#[]⟩], .bool false]) w := by kernel_rfl
theorem ta_room_new (x : Value) (w : World) : (Instr.typeAssert (.iface 104 x) 76 97 true).run Try.prog w = .ok (.tuple #[.agg #[.int .i64 0, .int .i64 0], .bool false]) w := by kernel_rfl
theorem ta_room_next (x : Value) (w : World) : (Instr.typeAssert (.iface 104 x) 76 99 true).run Try.prog w = .ok (.tuple #[.agg #[.string ⟨#[]⟩], .bool false]) w := by kernel_rfl
theorem ta_room_key (x : Value) (w : World) : (Instr.typeAssert (.iface 104 x) 76 100 true).run Try.prog w = .ok (.tuple #[.agg #[.string ⟨#[]⟩], .bool false]) w := by kernel_rfl
theorem ta_room_epoch (x : Value) (w : World) : (Instr.typeAssert (.iface 104 x) 76 102 true).run Try.prog w = .ok (.tuple #[.agg #[.string ⟨#[]⟩, .string ⟨#[]⟩], .bool false]) w := by kernel_rfl
theorem ta_room_say (x : Value) (w : World) : (Instr.typeAssert (.iface 104 x) 76 83 true).run Try.prog w = .ok (.tuple #[.agg #[.string ⟨#[]⟩, .int .i64 0], .bool false]) w := by kernel_rfl

/-- A block of the call's own that holds a struct as it begins. -/
structure Res5 (b : Nat) (w : World) : Prop where
  c0 : w.cell? ⟨b, 0, none⟩ = some (.int .i64 0)
  c1 : w.cell? ⟨b, 1, none⟩ = some (.int .i64 0)
  c2 : w.cell? ⟨b, 2, none⟩ = some (.int .i64 0)
  c3 : w.cell? ⟨b, 3, none⟩ = some (.string ⟨#[]⟩)
  c4 : w.cell? ⟨b, 4, none⟩ = some (.string ⟨#[]⟩)
  z0 : w.frozen? ⟨b, 0, none⟩ = false
  z1 : w.frozen? ⟨b, 1, none⟩ = false
  z2 : w.frozen? ⟨b, 2, none⟩ = false
  z3 : w.frozen? ⟨b, 3, none⟩ = false
  z4 : w.frozen? ⟨b, 4, none⟩ = false
theorem Res5.keep {b : Nat} {W w1 : World} (h : Res5 b W) (hb : Below W.heap.size W w1) (hlt : b < W.heap.size) : Res5 b w1 :=
  ⟨(hb.cell (p := ⟨b, 0, none⟩) hlt).trans h.c0, (hb.cell (p := ⟨b, 1, none⟩) hlt).trans h.c1, (hb.cell (p := ⟨b, 2, none⟩) hlt).trans h.c2, (hb.cell (p := ⟨b, 3, none⟩) hlt).trans h.c3, (hb.cell (p := ⟨b, 4, none⟩) hlt).trans h.c4,
   (hb.frozen (p := ⟨b, 0, none⟩) hlt).trans h.z0, (hb.frozen (p := ⟨b, 1, none⟩) hlt).trans h.z1, (hb.frozen (p := ⟨b, 2, none⟩) hlt).trans h.z2, (hb.frozen (p := ⟨b, 3, none⟩) hlt).trans h.z3, (hb.frozen (p := ⟨b, 4, none⟩) hlt).trans h.z4⟩
theorem keep1 {W w1 : World} {b o : Nat} {v : Value} (hb : Below W.heap.size W w1) (h : W.cell? ⟨b, o, none⟩ = some v) (hlt : b < W.heap.size) : w1.cell? ⟨b, o, none⟩ = some v := (hb.cell (p := ⟨b, o, none⟩) hlt).trans h

theorem below5 {B : Nat} {w w1 : World} (h : Below B w w1) {b : Nat} (hb : B ≤ b) (v0 v1 v2 v3 v4 : Value) :
    Below B w (((((w1.setCell ⟨b, 0, none⟩ v0).setCell ⟨b, 1, none⟩ v1).setCell ⟨b, 2, none⟩ v2).setCell ⟨b, 3, none⟩ v3).setCell ⟨b, 4, none⟩ v4) :=
  ((((h.setCell (p := ⟨b, 0, none⟩) hb v0).setCell (p := ⟨b, 1, none⟩) hb v1).setCell (p := ⟨b, 2, none⟩) hb v2).setCell (p := ⟨b, 3, none⟩) hb v3).setCell (p := ⟨b, 4, none⟩) hb v4

set_option maxRecDepth 100000 in
set_option maxHeartbeats 400000 in
theorem howOf_new (who n : Int) (w : World) :
    Calls Try.prog 57 #[.iface 97 (.agg #[.int .i64 who, .int .i64 n])] w fun e w' => e = .returned (howV 1 who n ⟨#[]⟩ ⟨#[]⟩) ∧ Below w.heap.size w w' := by
  have fy := ta_new
  go_enter Try.func57, Try.ntmps57
  go_wp2_with fail
  refine bodyPost_ret (v := howV 1 who n ⟨#[]⟩ ⟨#[]⟩) (by simp [results, Try.results57, go_sem, howV]) rfl ⟨rfl, ?_⟩
  exact ((Below.refl _ _).alloc (Nat.le_refl _) _).alloc (by simp) _

set_option maxRecDepth 100000 in
set_option maxHeartbeats 400000 in
theorem howOf_next (x : ByteArray) (hx : x.size ≤ 300) (w : World) :
    Calls Try.prog 57 #[.iface 99 (.agg #[.string x])] w fun e w' => e = .returned (howV 2 0 0 x ⟨#[]⟩) ∧ Below w.heap.size w w' := by
  have f0 := ta_next_new
  have fy := ta_next
  go_enter Try.func57, Try.ntmps57
  go_wp2_with fail
  refine (clone_any x _ (by omega)).mono ?_
  rintro e w1 ⟨rfl, hb1⟩
  obtain ⟨c0, c1, c2, c3, c4, z0, z1, z2, z3, z4⟩ := Res5.keep (b := w.heap.size) (by constructor <;> simp [go_sem]) hb1 (by simp; omega)
  have hbb : Below w.heap.size w w1 := (((Below.refl w.heap.size w).alloc (Nat.le_refl _) _).alloc (by simp) _).trans (hb1.mono (by simp; omega))
  clear hb1
  go_wp2_with fail
  refine bodyPost_ret (v := howV 2 0 0 x ⟨#[]⟩) (by simp [results, Try.results57, go_sem, howV, c0, c1, c2, c3, c4]) rfl ⟨rfl, ?_⟩
  exact below5 hbb (Nat.le_refl _) _ _ _ _ _

set_option maxRecDepth 100000 in
set_option maxHeartbeats 400000 in
theorem howOf_key (x : ByteArray) (hx : x.size ≤ 300) (w : World) :
    Calls Try.prog 57 #[.iface 100 (.agg #[.string x])] w fun e w' => e = .returned (howV 3 0 0 x ⟨#[]⟩) ∧ Below w.heap.size w w' := by
  have f0 := ta_key_new
  have f1 := ta_key_next
  have fy := ta_key
  go_enter Try.func57, Try.ntmps57
  go_wp2_with fail
  refine (clone_any x _ (by omega)).mono ?_
  rintro e w1 ⟨rfl, hb1⟩
  obtain ⟨c0, c1, c2, c3, c4, z0, z1, z2, z3, z4⟩ := Res5.keep (b := w.heap.size) (by constructor <;> simp [go_sem]) hb1 (by simp; omega)
  have hbb : Below w.heap.size w w1 := (((Below.refl w.heap.size w).alloc (Nat.le_refl _) _).alloc (by simp) _).trans (hb1.mono (by simp; omega))
  clear hb1
  go_wp2_with fail
  refine bodyPost_ret (v := howV 3 0 0 x ⟨#[]⟩) (by simp [results, Try.results57, go_sem, howV, c0, c1, c2, c3, c4]) rfl ⟨rfl, ?_⟩
  exact below5 hbb (Nat.le_refl _) _ _ _ _ _

set_option maxRecDepth 100000 in
set_option maxHeartbeats 1000000 in
theorem howOf_say (x : ByteArray) (n : Int) (hx : x.size ≤ 300) (w : World) :
    Calls Try.prog 57 #[.iface 83 (.agg #[.string x, .int .i64 n])] w fun e w' => e = .returned (howV 5 n 0 x ⟨#[]⟩) ∧ Below w.heap.size w w' := by
  have f0 := ta_say_new
  have f1 := ta_say_next
  have f2 := ta_say_key
  have f3 := ta_say_epoch
  have fy := ta_say
  have hx2 : x.size ≤ 1000000 := by omega
  go_enter Try.func57, Try.ntmps57
  go_wp2_with fail
  go_region_with (go_at_call 48; refine (clone_any x _ hx2).mono ?_; rintro e w1 ⟨rfl, hb1⟩; obtain ⟨c0, c1, c2, c3, c4, z0, z1, z2, z3, z4⟩ := Res5.keep (b := w.heap.size) (by constructor <;> simp [go_sem]) hb1 (by simp; omega); have d1 := keep1 (b := w.heap.size + 1) (o := 1) (v := .int .i64 n) hb1 (by simp [go_sem]) (by simp); have hbb : Below w.heap.size w w1 := (((Below.refl w.heap.size w).alloc (Nat.le_refl _) _).alloc (by simp) _).drew.trans (hb1.mono (by simp; omega)); clear hb1)
  all_goals go_wp2_with fail
  all_goals exact bodyPost_ret (v := howV 5 n 0 x ⟨#[]⟩) (by simp [results, Try.results57, go_sem, howV, c0, c1, c2, c3, c4]) rfl ⟨rfl, below5 hbb (Nat.le_refl _) _ _ _ _ _⟩

set_option maxRecDepth 100000 in
set_option maxHeartbeats 1000000 in
theorem howOf_room (x : ByteArray) (n : Int) (hx : x.size ≤ 300) (w : World) :
    Calls Try.prog 57 #[.iface 104 (.agg #[.string x, .int .i64 n])] w fun e w' => e = .returned (howV 6 0 n x ⟨#[]⟩) ∧ Below w.heap.size w w' := by
  have f0 := ta_room_new
  have f1 := ta_room_next
  have f2 := ta_room_key
  have f3 := ta_room_epoch
  have f4 := ta_room_say
  have fy := ta_room
  have hx2 : x.size ≤ 1000000 := by omega
  go_enter Try.func57, Try.ntmps57
  go_wp2_with fail
  go_region_with (go_at_call 48; refine (clone_any x _ hx2).mono ?_; rintro e w1 ⟨rfl, hb1⟩; obtain ⟨c0, c1, c2, c3, c4, z0, z1, z2, z3, z4⟩ := Res5.keep (b := w.heap.size) (by constructor <;> simp [go_sem]) hb1 (by simp; omega); have d1 := keep1 (b := w.heap.size + 1) (o := 1) (v := .int .i64 n) hb1 (by simp [go_sem]) (by simp); have hbb : Below w.heap.size w w1 := (((Below.refl w.heap.size w).alloc (Nat.le_refl _) _).alloc (by simp) _).drew.trans (hb1.mono (by simp; omega)); clear hb1)
  all_goals go_wp2_with fail
  all_goals exact bodyPost_ret (v := howV 6 0 n x ⟨#[]⟩) (by simp [results, Try.results57, go_sem, howV, c0, c1, c2, c3, c4]) rfl ⟨rfl, below5 hbb (Nat.le_refl _) _ _ _ _ _⟩

set_option maxRecDepth 100000 in
set_option maxHeartbeats 2000000 in
theorem howOf_epoch (x y : ByteArray) (hx : x.size ≤ 300) (hy : y.size ≤ 300) (w : World) :
    Calls Try.prog 57 #[.iface 102 (.agg #[.string x, .string y])] w fun e w' => e = .returned (howV 4 0 0 x y) ∧ Below w.heap.size w w' := by
  have f0 := ta_epoch_new
  have f1 := ta_epoch_next
  have f2 := ta_epoch_key
  have fy := ta_epoch
  have hx2 : x.size ≤ 1000000 := by omega
  have hy2 : y.size ≤ 1000000 := by omega
  go_enter Try.func57, Try.ntmps57
  go_wp2_with fail
  go_region_with (first
    | (go_at_call_of 48 (Value.string x); refine (clone_any x _ hx2).mono ?_; rintro e w1 ⟨rfl, hb1⟩; obtain ⟨c0, c1, c2, c3, c4, z0, z1, z2, z3, z4⟩ := Res5.keep (b := w.heap.size) (by constructor <;> simp [go_sem]) hb1 (by simp; omega); have d1 := keep1 (b := w.heap.size + 1) (o := 1) (v := .string y) hb1 (by simp [go_sem]) (by simp); have hsz : w.heap.size < w1.heap.size := (by have := hb1.size; simp at this; omega); have hbb : Below w.heap.size w w1 := (((Below.refl w.heap.size w).alloc (Nat.le_refl _) _).alloc (by simp) _).drew.trans (hb1.mono (by simp; omega)); clear hb1)
    | (go_at_call_of 48 (Value.string y); refine (clone_any y _ hy2).mono ?_; rintro e w2 ⟨rfl, hb2⟩; obtain ⟨k0, k1, k2, k3, k4, y0, y1, y2, y3, y4⟩ := Res5.keep (b := w.heap.size) ⟨c0, c1, c2, c3, c4, z0, z1, z2, z3, z4⟩ hb2 hsz; have hbc : Below w.heap.size w w2 := hbb.trans (hb2.mono (Nat.le_of_lt hsz)); clear hb2))
  all_goals go_wp2_with fail
  all_goals exact bodyPost_ret (v := howV 4 0 0 x y) (by simp [results, Try.results57, go_sem, howV, k0, k1, k2, k3, k4]) rfl ⟨rfl, below5 hbc (Nat.le_refl _) _ _ _ _ _⟩

end Go.Proofs.Ytgdhlnfigcaepaa
/-
  How a secret was made, as a value, field by field.
-/
namespace Go.Proofs.Ytgdhlnfigcaepaa
open Go.RowKit

theorem how_field (a b c : Int) (d e : ByteArray) : howV a b c d e = .agg #[.int .i64 a, .int .i64 b, .int .i64 c, .string d, .string e] := rfl

theorem field_op (a b c : Int) (d e : ByteArray) (w : World) : (Instr.field 49 (.agg #[.int .i64 a, .int .i64 b, .int .i64 c, .string d, .string e]) 0).run Try.prog w = .ok (.int .i64 a) w := by kernel_rfl
theorem field_who (a b c : Int) (d e : ByteArray) (w : World) : (Instr.field 49 (.agg #[.int .i64 a, .int .i64 b, .int .i64 c, .string d, .string e]) 1).run Try.prog w = .ok (.int .i64 b) w := by kernel_rfl
end Go.Proofs.Ytgdhlnfigcaepaa
/-
  The program's SecMade: its contract.
-/
namespace Go.Proofs.Ytgdhlnfigcaepaa
open Go.RowKit
open Kw (g len nv ok)

/-- How a secret was made: which way; by whom; which number; from which one; and from which other one. -/
def mOp (s : ByteArray) : Int := if ok s = true then (if g s 0 = 110 then 2 else if g s 0 = 107 then 3 else if g s 0 = 101 then 4 else if g s 0 = 109 then 5 else if g s 0 = 114 then 6 else 1) else 0
def mWho (s : ByteArray) : Int := if ok s = true then (if g s 0 = 110 then 0 else if g s 0 = 107 then 0 else if g s 0 = 101 then 0 else if g s 0 = 109 then (g s 1 : Int) - 65 else if g s 0 = 114 then 0 else (g s 0 : Int) - 65) else 0
def mN (s : ByteArray) : Int := if ok s = true then (if g s 0 = 110 then 0 else if g s 0 = 107 then 0 else if g s 0 = 101 then 0 else if g s 0 = 109 then 0 else if g s 0 = 114 then ((g s 1 - 48 : Nat) : Int) else (nv s 0 : Int)) else 0
def mA (s : ByteArray) : ByteArray := if ok s = true then (if g s 0 = 110 then s.extract 1 s.size else if g s 0 = 107 then s.extract 1 s.size else if g s 0 = 101 then s.extract 1 (1 + len s 1) else if g s 0 = 109 then s.extract 2 s.size else if g s 0 = 114 then s.extract 2 s.size else ⟨#[]⟩) else ⟨#[]⟩
def mB (s : ByteArray) : ByteArray := if ok s = true then (if g s 0 = 110 then ⟨#[]⟩ else if g s 0 = 107 then ⟨#[]⟩ else if g s 0 = 101 then s.extract (1 + len s 1) s.size else ⟨#[]⟩) else ⟨#[]⟩

theorem ext_le (s : ByteArray) (a b : Nat) (hs : s.size ≤ 300) : (s.extract a b).size ≤ 300 := by simp [ByteArray.size_extract]; omega

theorem howOf_sec (s : ByteArray) (w : World) (hk : ok s = true) :
    Calls Try.prog 57 #[secV s 0] w fun e w' => e = .returned (howV (mOp s) (mWho s) (mN s) (mA s) (mB s)) ∧ Below w.heap.size w w' := by
  obtain ⟨h1, _, _⟩ := ok_facts hk
  unfold mOp mWho mN mA mB secV
  simp only [if_pos hk, Nat.zero_add]
  by_cases c1 : g s 0 = 110
  · simp only [if_pos c1]
    rw [(parts_nk hk (.inl c1)).2]
    exact howOf_next _ (ext_le _ _ _ h1) w
  simp only [if_neg c1]
  by_cases c2 : g s 0 = 107
  · simp only [if_pos c2]
    rw [(parts_nk hk (.inr c2)).2]
    exact howOf_key _ (ext_le _ _ _ h1) w
  simp only [if_neg c2]
  by_cases c3 : g s 0 = 101
  · simp only [if_pos c3]
    rw [(parts_e hk c3).2.2]
    exact howOf_epoch _ _ (ext_le _ _ _ h1) (ext_le _ _ _ h1) w
  simp only [if_neg c3]
  by_cases c4 : g s 0 = 109
  · simp only [if_pos c4]
    rw [(parts_m hk c4).2.2.2]
    exact howOf_say _ _ (ext_le _ _ _ h1) w
  simp only [if_neg c4]
  by_cases c5 : g s 0 = 114
  · simp only [if_pos c5]
    rw [(parts_r hk c5).2.2.2]
    exact howOf_room _ _ (ext_le _ _ _ h1) w
  simp only [if_neg c5]
  exact howOf_new _ _ w

theorem made_not {s : ByteArray} (hk : ok s = false) : mOp s = 0 ∧ mWho s = 0 ∧ mN s = 0 ∧ mA s = ⟨#[]⟩ ∧ mB s = ⟨#[]⟩ := by
  unfold mOp mWho mN mA mB; simp [hk]

set_option maxRecDepth 100000 in
set_option maxHeartbeats 1000000 in
theorem iSecMade_any (s : ByteArray) (w : World) (hm : s.size ≤ maxLen) :
    Calls Try.prog 30 #[.string s] w fun e w' => e = .returned (howV (mOp s) (mWho s) (mN s) (mA s) (mB s)) ∧ Below w.heap.size w w' := by
  have M := hide hm
  clear hm
  cases hk : ok s with
  | false =>
    obtain ⟨e1, e2, e3, e4, e5⟩ := made_not hk
    rw [e1, e2, e3, e4, e5]
    have K := hide hk
    clear hk e1 e2 e3 e4 e5
    go_enter Try.func30, Try.ntmps30
    go_wp2_with fail
    refine (readSecret_any s _ M.out).mono ?_
    rintro e w1 ⟨hb1, ⟨h1, h2⟩ | ⟨h1, rfl⟩⟩
    · rw [K.out] at h1; cases h1
    clear h1
    obtain ⟨c0, c1, c2, c3, c4, z0, z1, z2, z3, z4⟩ := Res5.keep (b := w.heap.size) (by constructor <;> simp [go_sem]) hb1 (by simp)
    have hbb : Below w.heap.size w w1 := ((Below.refl w.heap.size w).alloc (Nat.le_refl _) _).trans (hb1.mono (by simp))
    clear hb1
    go_wp2_with fail
    exact bodyPost_ret (v := howV 0 0 0 ⟨#[]⟩ ⟨#[]⟩) (by simp [results, Try.results30, go_sem, howV, c0, c1, c2, c3, c4]) rfl ⟨rfl, below5 hbb (Nat.le_refl _) _ _ _ _ _⟩
  | true =>
    have K := hide hk
    clear hk
    go_enter Try.func30, Try.ntmps30
    go_wp2_with fail
    refine (readSecret_any s _ M.out).mono ?_
    rintro e w1 ⟨hb1, ⟨h1, rfl⟩ | ⟨h1, h2⟩⟩
    · clear h1
      have R1 := Res5.keep (b := w.heap.size) (by constructor <;> simp [go_sem]) hb1 (by simp)
      have hsz : w.heap.size < w1.heap.size := by have := hb1.size; simp at this; omega
      have hbb : Below w.heap.size w w1 := ((Below.refl w.heap.size w).alloc (Nat.le_refl _) _).trans (hb1.mono (by simp))
      clear hb1
      have HB := hide hbb
      have HR := hide R1
      clear hbb R1
      generalize hv : secV s 0 = v
      go_wp2_with fail
      rw [← hv]
      refine (howOf_sec s _ K.out).mono ?_
      rintro e w2 ⟨rfl, hb2⟩
      obtain ⟨c0, c1, c2, c3, c4, z0, z1, z2, z3, z4⟩ := Res5.keep (unhide HR) hb2 hsz
      have hbc : Below w.heap.size w w2 := (unhide HB).trans (hb2.mono (Nat.le_of_lt hsz))
      clear hb2 hv
      unfold howV
      go_wp2_with fail
      exact bodyPost_ret (v := howV (mOp s) (mWho s) (mN s) (mA s) (mB s)) (by simp [results, Try.results30, go_sem, howV, c0, c1, c2, c3, c4]) rfl ⟨rfl, below5 hbc (Nat.le_refl _) _ _ _ _ _⟩
    · rw [K.out] at h1; cases h1
#print axioms iSecMade_any
end Go.Proofs.Ytgdhlnfigcaepaa
/-
  The specification's FraText: whether a text may be said.
-/
namespace Go.Proofs.Ytgdhlnfigcaepaa
open Go.RowKit

def letB (b : UInt8) : Bool := decide (97 ≤ b.toNat) && decide (b.toNat ≤ 122)
/-- A text that may be said. -/
def textB (s : ByteArray) : Bool := decide (s.size ≤ 8) && s.data.toList.all letB
theorem text_long {s : ByteArray} (h : ¬ s.size ≤ 8) : textB s = false := by unfold textB; rw [decide_eq_false h]; rfl
theorem text_no {s : ByteArray} {k : Nat} (hk : k < s.size) (h : letB s[k] = false) : textB s = false := by
  unfold textB
  have : s.data.toList.all letB = false := by
    rw [List.all_eq_false]
    exact ⟨s[k], List.getElem_mem (l := s.data.toList) (by simpa using hk), by rw [h]; simp⟩
  rw [this, Bool.and_false]
theorem text_yes {s : ByteArray} (hl : s.size ≤ 8) (h : ∀ t (ht : t < s.size), letB s[t] = true) : textB s = true := by
  unfold textB
  rw [decide_eq_true hl, Bool.true_and, List.all_eq_true]
  intro b hb
  obtain ⟨t, ht, rfl⟩ := List.mem_iff_getElem.1 hb
  exact h t (by simpa using ht)

set_option maxHeartbeats 1000000 in
theorem sFraText_any (s : ByteArray) (w : World) :
    Calls Try.prog 12 #[.string s] w fun e w' => e = .returned (.bool (textB s)) ∧ w' = w := by
  by_cases hl : s.size ≤ 8
  · have hl2 : decide ((8 : Int) < (s.size : Int)) = false := by simp; omega
    have hl3 : (s.size : Int) ≤ 8 := by omega
    go_enter Try.func12, Try.ntmps12
    go_wp2_with fail
    go_loop [3] (fun i => ∃ k : Nat, k ≤ s.size ∧ i = .int .i64 (k : Int) ∧ Hid (∀ t (_ : t < k) (ht : t < s.size), letB s[t] = true)) (fun i => s.size - (intOf i).toNat)
    case atStart => exact ⟨0, Nat.zero_le _, rfl, fun t ht => absurd ht (Nat.not_lt_zero _)⟩
    case round =>
      obtain ⟨k, hk, rfl, hE⟩ := hrel
      by_cases hlt : k < s.size
      · have i3 : IntKind.i64.wrap ((k : Int) + 1) = (k : Int) + 1 := by simp [IntKind.wrap, IntKind.bits, IntKind.signed]; omega
        have hlt2 : (k : Int) < (s.size : Int) := by omega
        by_cases h1 : s[k].toNat < 97
        · have HT := hide (text_no hlt (by unfold letB; rw [decide_eq_false (by omega)]; rfl))
          have h2 : (s[k].toNat : Int) < 97 := by omega
          go_wp2_with fail
          go_ret
          exact ⟨by rw [HT.out]; rfl, rfl⟩
        · have h2 : decide ((s[k].toNat : Int) < 97) = false := by simp; omega
          have h3 : 97 ≤ s[k].toNat := by omega
          by_cases h4 : s[k].toNat ≤ 122
          · have h5 : decide ((122 : Int) < (s[k].toNat : Int)) = false := by simp; omega
            have HL : Hid (letB s[k] = true) := by show _ = _; unfold letB; rw [decide_eq_true h3, decide_eq_true h4]; rfl
            go_wp2_with fail
            go_round
            case rel =>
              refine ⟨k + 1, by omega, by simp, fun t htk ht => ?_⟩
              by_cases e : t = k
              · subst e; exact HL.out
              · exact hE.out t (by omega) ht
            case measure => simp [intOf]; omega
          · have HT := hide (text_no hlt (by unfold letB; rw [decide_eq_false h4, Bool.and_false]))
            have h5 : (122 : Int) < (s[k].toNat : Int) := by omega
            go_wp2_with fail
            go_ret
            exact ⟨by rw [HT.out]; rfl, rfl⟩
      · have hlt2 : decide ((k : Int) < (s.size : Int)) = false := by simp; omega
        have hkk : k = s.size := by omega
        have HT := hide (text_yes hl (fun t ht => hE.out t (by omega) ht))
        go_wp2_with fail
        go_ret
        exact ⟨by rw [HT.out]; rfl, rfl⟩
  · have hl2 : (8 : Int) < (s.size : Int) := by omega
    have HT := hide (text_long hl)
    go_enter Try.func12, Try.ntmps12
    go_wp2_with fail
    go_ret
    exact ⟨by rw [HT.out]; rfl, rfl⟩
#print axioms sFraText_any
end Go.Proofs.Ytgdhlnfigcaepaa
/-
  A frame, as a value; whether it is ok, as plain words.
-/
namespace Go.Proofs.Ytgdhlnfigcaepaa
open Go.RowKit

/-- What one says. -/
structure Fra where
  fr : Int
  key : ByteArray
  n : Int
  text : ByteArray
abbrev fraC (fr : Int) (key : ByteArray) (n : Int) (text : ByteArray) : Array Value := #[.int .i64 fr, .string key, .int .i64 n, .string text]
abbrev Fra.cells (f : Fra) : Array Value := fraC f.fr f.key f.n f.text
/-- Whether a frame is ok. -/
def fraOk (f : Fra) : Bool := inB 0 7 f.fr && (Kw.ok f.key && (decide (mOp f.key = 5) && (decide (mWho f.key = f.fr) && (inB 1 999 f.n && textB f.text))))
theorem fraOk_eq (f : Fra) : fraOk f = (inB 0 7 f.fr && (Kw.ok f.key && (decide (mOp f.key = 5) && (decide (mWho f.key = f.fr) && (inB 1 999 f.n && textB f.text))))) := rfl
end Go.Proofs.Ytgdhlnfigcaepaa
