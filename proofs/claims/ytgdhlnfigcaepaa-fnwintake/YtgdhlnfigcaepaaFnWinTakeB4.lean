/-
  Contracts of the functions that draw texts, right and wrong ones, from a code.
-/
import Derived.Test.YtgdhlnfigcaepaaFnWinTakeB3
import Derived.Test.YtgdhlnfigcaepaaFnWinTakeB1
import Derived.WalkKit
import Derived.RangeFuncNested
import Derived.Deep.MidRow
import Derived.Laws.Entries
import Derived.Test.YtgdhlnfigcaepaaFnWinTakeB2
import Derived.Deep.RegionHeld3
namespace Go.Proofs.Ytgdhlnfigcaepaa
open Go.RowKit

set_option maxHeartbeats 2000000 in
theorem l20Bent_any (b : Nat) (C : Code) (p : Nat) (s : ByteArray) (hs : s.size ≤ 300) (w : World) (h : DrC b C p w) (hp : p + 4 ≤ 1000000) :
    Calls Try.prog 83 #[.pointer (some ⟨b, 0, none⟩), .string s] w (StrPost b C p 4 700 w) := by
  have hD := hide h
  have hcv := conv1
  clear h
  go_enter Try.func83, Try.ntmps83
  go_wp2_with fail
  refine (pick_any b C p (s.size + 1) _ (by simp) _ (unhide hD) (by omega) (by omega) (by omega)).mono ?_
  rintro e w1 ⟨k, rfl, hk, d1, x1⟩
  have D1 := hide d1
  clear d1
  go_wp2_with fail
  refine (pick_any b C (p + 1) 256 _ rfl _ (unhide D1) (by omega) (by omega) (by omega)).mono ?_
  rintro e w2 ⟨v2, rfl, hv2, d2, x2⟩
  have D2 := hide d2
  have x12 := x1.trans x2
  have hlt2 := d2.lt
  clear d2 x1 x2 D1
  go_wp2_with fail
  refine (pick_any b C (p + 1 + 1) 10 _ rfl _ ((unhide D2).alloc _) (by omega) (by omega) (by omega)).mono ?_
  rintro e w3 ⟨v3, rfl, hv3, d3, x3⟩
  have hu : ∃ u : Int, w3.cell? ⟨w2.heap.size, v3, none⟩ = some (.int .i64 u) ∧ 0 ≤ u ∧ u ≤ 255 := by
    rw [x3.cell (p := ⟨w2.heap.size, v3, none⟩) (by simp) (by show w2.heap.size ≠ b; omega)]
    match v3, hv3 with
    | 0, _ => exact ⟨32, by simp [go_sem], by omega, by omega⟩
    | 1, _ => exact ⟨48, by simp [go_sem], by omega, by omega⟩
    | 2, _ => exact ⟨49, by simp [go_sem], by omega, by omega⟩
    | 3, _ => exact ⟨57, by simp [go_sem], by omega, by omega⟩
    | 4, _ => exact ⟨59, by simp [go_sem], by omega, by omega⟩
    | 5, _ => exact ⟨110, by simp [go_sem], by omega, by omega⟩
    | 6, _ => exact ⟨101, by simp [go_sem], by omega, by omega⟩
    | 7, _ => exact ⟨65, by simp [go_sem], by omega, by omega⟩
    | 8, _ => exact ⟨73, by simp [go_sem], by omega, by omega⟩
    | 9, _ => exact ⟨(v2 : Int), by simp [go_sem], by omega, by omega⟩
    | v + 10, hv => omega
  obtain ⟨u, hu1, hu2, hu3⟩ := hu
  have x13 := (x12.alloc _).trans x3
  have D3 := hide d3
  have hlt3 := d3.lt
  have hv3' : (v3 : Int) < 10 := by omega
  clear d3 x3 x12 D2 hv3
  go_wp2_with fail
  refine (pick_any b C (p + 1 + 1 + 1) 3 _ rfl _ ((unhide D3).alloc _) (by omega) (by omega) (by omega)).mono ?_
  rintro e w4 ⟨v4, rfl, hv4, d4, x4⟩
  have x14 := (x13.alloc _).trans x4
  have D4 := hide d4
  clear d4 x4 x13 D3 hu1
  generalize hcc : by1 u.toNat = c
  have hcs : c.size = 1 := by rw [← hcc]; rfl
  clear hcc
  by_cases h0 : v4 = 0
  · subst h0
    have i1 : (k : Int) ≤ (s.size : Int) := by omega
    go_wp2_with fail
    go_quiet (fail)
    go_wp2_with fail
    go_ret
    exact ⟨_, p + 1 + 1 + 1 + 1, rfl, by simp [ByteArray.size_append, ByteArray.size_extract]; omega, by omega, (unhide D4).drewN _, x14.drewN _⟩
  have e0 : ((v4 : Int) == 0) = false := by simp; omega
  by_cases h1 : v4 = 1
  · subst h1
    by_cases hks : k < s.size
    · have i1 : (k : Int) < (s.size : Int) := by omega
      have i2 : (k : Int) ≤ (s.size : Int) := by omega
      have i3 : (k : Int) + 1 ≤ (s.size : Int) := by omega
      go_wp2_with fail
      go_quiet (fail)
      go_wp2_with fail
      go_ret
      exact ⟨_, p + 1 + 1 + 1 + 1, rfl, by simp [ByteArray.size_append, ByteArray.size_extract]; omega, by omega, (unhide D4).drewN _, x14.drewN _⟩
    · have i1 : decide ((k : Int) < (s.size : Int)) = false := by simp; omega
      go_wp2_with fail
      go_ret
      exact ⟨_, p + 1 + 1 + 1 + 1, rfl, by omega, by omega, unhide D4, x14⟩
  have e1 : ((v4 : Int) == 1) = false := by simp; omega
  clear h0 h1
  by_cases hks : k < s.size
  · have i1 : (k : Int) < (s.size : Int) := by omega
    have i2 : (k : Int) ≤ (s.size : Int) := by omega
    have i3 : (k : Int) + 1 ≤ (s.size : Int) := by omega
    go_wp2_with fail
    go_quiet (fail)
    go_wp2_with fail
    go_ret
    exact ⟨_, p + 1 + 1 + 1 + 1, rfl, by simp [ByteArray.size_append, ByteArray.size_extract]; omega, by omega, (unhide D4).drewN _, x14.drewN _⟩
  · have i1 : decide ((k : Int) < (s.size : Int)) = false := by simp; omega
    go_wp2_with fail
    go_ret
    exact ⟨_, p + 1 + 1 + 1 + 1, rfl, by omega, by omega, unhide D4, x14⟩

set_option maxRecDepth 100000 in
set_option maxHeartbeats 2000000 in
theorem l20SecretOr_any (b : Nat) (C : Code) (p n : Nat) (m : Int) (hm : m = (n : Int)) (w : World) (h : DrC b C p w) (hn : 1 ≤ n) (hn2 : n ≤ 1000) (hp : p + 100 ≤ 1000000) :
    Calls Try.prog 72 #[.pointer (some ⟨b, 0, none⟩), .int .i64 m] w (StrPost b C p 100 700 w) := by
  subst hm
  have hD := hide h
  have hk4 : Kd 4 = 77 := rfl
  have H4 := l20Secret_any b C 4 (by omega)
  clear h
  go_enter Try.func72, Try.ntmps72
  go_wp2_with fail
  refine (H4 _ p _ rfl (unhide hD) (by omega)).mono ?_
  rintro e w1 ⟨s, q, rfl, hs, hq, d1, x1⟩
  have D1 := hide d1
  clear d1 H4
  rw [hk4] at hq
  clear hk4
  go_wp2_with fail
  refine (odd_any b C q n _ rfl _ (unhide D1) hn hn2 (by omega)).mono ?_
  rintro e w2 ⟨c, rfl, d2, x2⟩
  have D2 := hide d2
  have x12 := x1.trans x2
  clear d2 x1 x2 D1
  cases c with
  | false =>
    go_wp2_with fail
    go_ret
    exact ⟨s, q + 1, rfl, by omega, by omega, unhide D2, x12⟩
  | true =>
    go_wp2_with fail
    refine (pick_any b C (q + 1) 4 _ rfl _ (unhide D2) (by omega) (by omega) (by omega)).mono ?_
    rintro e w3 ⟨v, rfl, hv, d3, x3⟩
    have D3 := hide d3
    have hlt3 := d3.lt
    have x13 := x12.trans x3
    clear d3 x3 x12 D2
    by_cases h0 : v = 0
    · subst h0
      go_wp2_with fail
      refine (l20Bent_any b C (q + 1 + 1) s hs _ (unhide D3) (by omega)).mono ?_
      rintro e w4 ⟨s4, q4, rfl, hs4, hq4, d4, x4⟩
      go_wp2_with fail
      go_ret
      exact ⟨s4, q4, rfl, hs4, by omega, d4, x13.trans x4⟩
    have e0 : ((v : Int) == 0) = false := by simp; omega
    by_cases h1 : v = 1
    · subst h1
      go_wp2_with fail
      refine (pick_any b C (q + 1 + 1) 13 _ rfl _ ((unhide D3).alloc _) (by omega) (by omega) (by omega)).mono ?_
      rintro e w4 ⟨k, rfl, hk, d4, x4⟩
      have hu : ∃ u : ByteArray, w4.cell? ⟨w3.heap.size, k, none⟩ = some (.string u) ∧ u.size ≤ 300 := by
        rw [x4.cell (p := ⟨w3.heap.size, k, none⟩) (by simp) (by show w3.heap.size ≠ b; omega)]
        match k, hk with
        | 0, _ => exact ⟨_, by simp [go_sem]; rfl, by decide⟩
        | 1, _ => exact ⟨_, by simp [go_sem]; rfl, by decide⟩
        | 2, _ => exact ⟨_, by simp [go_sem]; rfl, by decide⟩
        | 3, _ => exact ⟨_, by simp [go_sem]; rfl, by decide⟩
        | 4, _ => exact ⟨_, by simp [go_sem]; rfl, by decide⟩
        | 5, _ => exact ⟨_, by simp [go_sem]; rfl, by decide⟩
        | 6, _ => exact ⟨_, by simp [go_sem]; rfl, by decide⟩
        | 7, _ => exact ⟨_, by simp [go_sem]; rfl, by decide⟩
        | 8, _ => exact ⟨_, by simp [go_sem]; rfl, by decide⟩
        | 9, _ => exact ⟨_, by simp [go_sem]; rfl, by decide⟩
        | 10, _ => exact ⟨_, by simp [go_sem]; rfl, by decide⟩
        | 11, _ => exact ⟨_, by simp [go_sem]; rfl, by decide⟩
        | 12, _ => exact ⟨_, by simp [go_sem]; rfl, by decide⟩
        | k + 13, hk => omega
      obtain ⟨u, hu1, hu2⟩ := hu
      have x14 := (x13.alloc _).trans x4
      have D4 := hide d4
      have hk' : (k : Int) < 13 := by omega
      clear d4 x4 x13 D3 hk
      go_wp2_with fail
      go_ret
      exact ⟨u, q + 1 + 1 + 1, rfl, by omega, by omega, unhide D4, x14⟩
    have e1 : ((v : Int) == 1) = false := by simp; omega
    by_cases h2 : v = 2
    · subst h2
      clear h0 h1
      go_wp2_with fail
      go_loop [5] (fun t => ∃ y : ByteArray, t = .string y ∧ y.size ≤ 301) (fun t => match t with | .string y => 302 - y.size | _ => 0)
      case atStart => exact ⟨s, rfl, by omega⟩
      case round =>
        obtain ⟨y, rfl, hy⟩ := hrel
        by_cases hy2 : y.size ≤ 300
        · have hy3 : (y.size : Int) ≤ 300 := by omega
          go_wp2_with fail
          refine ⟨⟨⟨#[110]⟩ ++ y, rfl, ?_⟩, ?_⟩
          · simp [ByteArray.size_append]; show 1 + y.size ≤ 301; omega
          · simp [ByteArray.size_append]; show 302 - (1 + y.size) < 302 - y.size; omega
        · have hy3 : decide ((y.size : Int) ≤ 300) = false := by simp; omega
          go_wp2_with fail
          go_ret
          exact ⟨y, q + 1 + 1, rfl, by omega, by omega, unhide D3, x13⟩
    have e2 : ((v : Int) == 2) = false := by simp; omega
    clear h0 h1 h2
    go_wp2_with fail
    go_ret
    exact ⟨_, q + 1 + 1, rfl, by simp [ByteArray.size_append]; omega, by omega, unhide D3, x13⟩
#print axioms l20SecretOr_any
end Go.Proofs.Ytgdhlnfigcaepaa
/-
  Rows of texts: what a slice of texts holds; slices of the call's own. No Go function in it.
-/
namespace Go.Proofs.Ytgdhlnfigcaepaa
open Go.RowKit

/-- A slice holds these texts. -/
def SRow (w : World) (v : Value) (xs : List ByteArray) : Prop :=
  (v = .slice none 0 0 ∧ xs = []) ∨ ∃ (a : Addr) (cap : Nat), v = .slice (some a) xs.length cap ∧ xs.length ≤ cap ∧ cap ≤ maxLen ∧ ∀ i, i < xs.length → w.cell? (a.add i) = some (.string (xs.getD i ByteArray.empty))

theorem cell_lt {w : World} {p : Addr} {v : Value} (h : w.cell? p = some v) : p.block < w.heap.size := by
  apply Classical.byContradiction
  intro hn
  have : w.heap[p.block]? = none := Array.getElem?_eq_none (by omega)
  simp [World.cell?, this] at h

theorem SRow.below {w w' : World} {v : Value} {xs : List ByteArray} (h : SRow w v xs) (hb : Below w.heap.size w w') : SRow w' v xs := by
  rcases h with h | ⟨a, cap, h1, h2, h3, h4⟩
  · exact .inl h
  · exact .inr ⟨a, cap, h1, h2, h3, fun i hi => (hb.cell (p := a.add i) (cell_lt (h4 i hi))).trans (h4 i hi)⟩
theorem SRow.drew {w : World} {v : Value} {xs : List ByteArray} (h : SRow w v xs) : SRow w.drew v xs := h

theorem ret_bool' {a b : Bool} (h : a = b) : Ending.returned (.bool a) = .returned (.bool b) := by rw [h]
theorem toList_eq {x y : ByteArray} : (x.toList == y.toList) = true ↔ x = y := by
  constructor
  · intro h
    have h1 : x.toList = y.toList := by simpa using h
    have h2 := congrArg (fun l => (⟨l.toArray⟩ : ByteArray)) h1
    exact ByteArray.ext (by simpa [ByteArray.toList_eq] using h2)
  · intro h; subst h; simp

/-- A text is one of some. -/
def has (xs : List ByteArray) (s : ByteArray) : Bool := xs.any fun x => decide (x = s)
theorem has_iff {xs : List ByteArray} {s : ByteArray} : has xs s = true ↔ s ∈ xs := by
  unfold has
  simp
theorem has_not {xs : List ByteArray} {s : ByteArray} (h : ¬ s ∈ xs) : has xs s = false := by
  cases q : has xs s with
  | false => rfl
  | true => exact absurd (has_iff.1 q) h

theorem SRow.form {w : World} {v : Value} {xs : List ByteArray} (h : SRow w v xs) :
    ∃ (ao : Option Addr) (cap : Nat), v = .slice ao xs.length cap ∧ xs.length ≤ cap ∧ cap ≤ maxLen ∧ ∀ i, i < xs.length → ∃ a, ao = some a ∧ w.cell? (a.add i) = some (.string (xs.getD i ByteArray.empty)) := by
  rcases h with ⟨rfl, rfl⟩ | ⟨a, cap, rfl, h1, h2, h3⟩
  · exact ⟨none, 0, rfl, Nat.le_refl _, by omega, fun i hi => absurd hi (Nat.not_lt_zero _)⟩
  · exact ⟨some a, cap, rfl, h1, h2, fun i hi => ⟨a, rfl, h3 i hi⟩⟩

theorem getD_mem {xs : List ByteArray} {k : Nat} (h : k < xs.length) : xs.getD k ByteArray.empty ∈ xs := by
  rw [List.getD_eq_getElem?_getD, List.getElem?_eq_getElem h]
  exact List.getElem_mem h

theorem mem_getD {xs : List ByteArray} {x : ByteArray} (h : x ∈ xs) : ∃ k, k < xs.length ∧ xs.getD k ByteArray.empty = x := by
  obtain ⟨j, hj, e⟩ := List.getElem_of_mem h
  refine ⟨j, hj, ?_⟩
  rw [List.getD_eq_getElem?_getD, List.getElem?_eq_getElem hj]
  exact e

theorem rows_eq {xs ys : List ByteArray} (hl : xs.length = ys.length) (h : ∀ j, j < xs.length → xs.getD j ByteArray.empty = ys.getD j ByteArray.empty) : xs = ys := by
  apply List.ext_getElem hl
  intro i h1 h2
  have := h i h1
  rw [List.getD_eq_getElem?_getD, List.getElem?_eq_getElem h1, List.getD_eq_getElem?_getD, List.getElem?_eq_getElem h2] at this
  exact this

/-- What is owned is held. -/
theorem own_srow {w : World} {base : Nat} {v : Value} {xs : List ByteArray} (h : w.ownsRow base 9 1 v xs.length (xs.map Value.string)) : SRow w v xs := by
  have hh := h
  rcases h.2 with ⟨h1, h2⟩ | ⟨g, cap, cur, h1, h2, h3, h4, h5, h6, h7⟩
  · exact .inl ⟨h1, List.eq_nil_of_length_eq_zero h2⟩
  · subst h1
    refine .inr ⟨⟨g, 0, none⟩, cap, rfl, h4, h5, fun i hi => ?_⟩
    have hc := hh.cellAt i (by omega)
    rw [Addr.add_lit, Nat.zero_add, hc]
    simp [hi]
theorem own_below' {w w' : World} {base : Nat} {e : TypeId} {size : Nat} {v : Value} {n : Nat} {xs : List Value} (h : w.ownsRow base e size v n xs) (hb : Below w.heap.size w w') : w'.ownsRow base e size v n xs := by
  refine ⟨h.1, h.2.imp id ?_⟩
  rintro ⟨g, cap, cur, h1, h2, h3, h4⟩
  have hlt : g < w.heap.size := by
    apply Classical.byContradiction
    intro hn
    rw [Array.getElem?_eq_none (by omega)] at h3
    cases h3
  exact ⟨g, cap, cur, h1, h2, (hb.block g hlt).trans h3, h4⟩

/-- A slice of the call's own holds these texts. -/
def Own (B : Nat) (w : World) (v : Value) (xs : List ByteArray) : Prop := w.ownsRow B 9 1 v xs.length (xs.map Value.string)
theorem Own.below {B : Nat} {w w' : World} {v : Value} {xs : List ByteArray} (h : Own B w v xs) (hb : Below w.heap.size w w') : Own B w' v xs := own_below' h hb
theorem Own.srow {B : Nat} {w : World} {v : Value} {xs : List ByteArray} (h : Own B w v xs) : SRow w v xs := own_srow h
theorem Own.grow {B : Nat} {w w6 w7 : World} {o : Obj} {v v' : Value} {xs : List ByteArray} {y : ByteArray} (hO : Own B w6 v xs) (hbl : Below B w w6) (hB : B ≤ w.heap.size)
    (hown' : w7.ownsRow B 9 1 v' (xs.length + 1) (xs.map Value.string ++ [.string y])) (hg : (w6.alloc o).grownBy w7 v.ownBlock) : Own B w7 v' (xs ++ [y]) ∧ Below B w w7 := by
  have hs := hbl.size
  refine ⟨?_, (hbl.alloc (by omega) o).grown hg (by simp; omega) (fun k hk => (hO.lt k hk).1)⟩
  unfold Own
  rw [List.length_append, List.map_append]
  exact hown'

/-- How long a slice is. -/
def lenOf : Value → Nat
  | .slice _ n _ => n
  | _ => 0
theorem Own.len {B : Nat} {w : World} {v : Value} {xs : List ByteArray} (h : Own B w v xs) : lenOf v = xs.length := by
  rcases h.2 with ⟨h1, h2⟩ | ⟨g, cap, cur, h1, _⟩
  · rw [h1, h2]; rfl
  · rw [h1]; rfl

theorem info_str2 : (Try.prog.info? 9).map (fun i => (i.zero, i.size, i.bytes)) = some (some (.string ⟨#[]⟩), 1, 16) := by kernel_rfl

theorem row_form' {w : World} {B : Nat} {e : TypeId} {size : Nat} {v : Value} {n : Nat} {xs : List Value} (h : w.ownsRow B e size v n xs) : ∃ ao cap, v = .slice ao n cap := by
  rcases h.2 with ⟨h1, h2⟩ | ⟨g, cap, cur, h1, _⟩
  · exact ⟨none, 0, by rw [h1, h2]⟩
  · exact ⟨_, cap, h1⟩
end Go.Proofs.Ytgdhlnfigcaepaa
/-
  What a reader leaves of rows; what a row leaves of a reader. No Go function in it.
-/
namespace Go.Proofs.Ytgdhlnfigcaepaa
open Go.RowKit

theorem row_ex {b B : Nat} {w w' : World} {e : TypeId} {size : Nat} {v : Value} {n : Nat} {xs : List Value} (h : w.ownsRow B e size v n xs) (x : Ex b w w') (hb : b < B) : w'.ownsRow B e size v n xs := by
  refine ⟨h.1, h.2.imp id ?_⟩
  rintro ⟨g, cap, cur, h1, h2, h3, h4⟩
  exact ⟨g, cap, cur, h1, h2, (x.block g (Array.getElem?_eq_some_iff.1 h3).1 (by omega)).trans h3, h4⟩
theorem Own.ex {b B : Nat} {w w' : World} {v : Value} {xs : List ByteArray} (h : Own B w v xs) (x : Ex b w w') (hb : b < B) : Own B w' v xs := row_ex h x hb
theorem DrC.grown {b : Nat} {C : Code} {p : Nat} {w w' : World} {r : Option Nat} (h : DrC b C p w) (hg : w.grownBy w' r) (hr : ∀ k, r = some k → b < k) : DrC b C p w' := by
  have hblk : ∀ k, k ≤ b → k < w.heap.size → w'.heap[k]? = w.heap[k]? := fun k hk hl => hg.block k hl (fun e => by have := hr k e.symm; omega)
  obtain ⟨c0, c1, f1, lt, le, row⟩ := h
  have hb := hblk b (Nat.le_refl _) lt
  refine ⟨(World.cell?_of_block (a := ⟨b, 0, none⟩) hb).trans c0, (World.cell?_of_block (a := ⟨b, 1, none⟩) hb).trans c1, (World.frozen?_of_block (a := ⟨b, 1, none⟩) hb).trans f1, Nat.lt_of_lt_of_le lt hg.size, le, ?_⟩
  rcases row with h0 | ⟨x, hx, hxb, hrw⟩
  · exact .inl h0
  · refine .inr ⟨x, hx, hxb, fun i hi => ⟨?_, (hrw i hi).2⟩⟩
    have : (x.add i).block < b := by rw [add_block]; exact hxb
    exact (World.cell?_of_block (a := x.add i) (hblk _ (by omega) (by omega))).trans (hrw i hi).1
theorem Ex.grown {b : Nat} {w0 w w' : World} {r : Option Nat} (h : Ex b w0 w) (hg : w.grownBy w' r) (hr : ∀ k, r = some k → w0.heap.size ≤ k) : Ex b w0 w' :=
  ⟨hg.os.trans h.os, hg.tape.trans h.tape, hg.output.trans h.output, Nat.le_trans h.size hg.size, fun k hk hn => (hg.block k (Nat.lt_of_lt_of_le hk h.size) (fun e => by have := hr k e.symm; omega)).trans (h.block k hk hn)⟩
end Go.Proofs.Ytgdhlnfigcaepaa
/-
  Rows that came in stay as they are. No Go function in it.
-/
namespace Go.Proofs.Ytgdhlnfigcaepaa
open Go.RowKit

theorem IsRow.belowR {k : IntKind} {w w' : World} {a : Option Addr} {len cap : Nat} {zs : List Int} (h : IsRow k w a len cap zs) (hb : Below w.heap.size w w') : IsRow k w' a len cap zs := by
  rcases h with h | ⟨x, h1, h2, h3, h4, h5, h6⟩
  · exact .inl h
  · exact .inr ⟨x, h1, h2, h3, h4, fun i hi => (hb.cell (p := x.add i) (below_lt (h5 i hi))).trans (h5 i hi), h6⟩
end Go.Proofs.Ytgdhlnfigcaepaa
/-
  Slices of the call's own, their rows between two numbers. No Go function in it.
-/
namespace Go.Proofs.Ytgdhlnfigcaepaa
open Go.RowKit

/-- A slice of the call's own, its row between two numbers. -/
def RowIn (lo hi : Nat) (e : TypeId) (size : Nat) (w : World) (v : Value) (n : Nat) (xs : List Value) : Prop := w.ownsRow lo e size v n xs ∧ ∀ g, v.ownBlock = some g → g < hi
theorem RowIn.of {lo : Nat} {e : TypeId} {size : Nat} {w : World} {v : Value} {n : Nat} {xs : List Value} (h : w.ownsRow lo e size v n xs) : RowIn lo w.heap.size e size w v n xs := ⟨h, fun g hg => (h.lt g hg).2⟩
theorem RowIn.below {lo hi : Nat} {e : TypeId} {size : Nat} {w w' : World} {v : Value} {n : Nat} {xs : List Value} (h : RowIn lo hi e size w v n xs) (hb : Below w.heap.size w w') : RowIn lo hi e size w' v n xs := ⟨own_below' h.1 hb, h.2⟩
theorem RowIn.grown {lo hi : Nat} {e : TypeId} {size : Nat} {w w' : World} {v : Value} {n : Nat} {xs : List Value} {r : Option Nat} (h : RowIn lo hi e size w v n xs) (hg : w.grownBy w' r) (hr : ∀ k, r = some k → k < lo ∨ hi ≤ k) : RowIn lo hi e size w' v n xs := by
  refine ⟨h.1.kept hg ?_, h.2⟩
  cases hv : v.ownBlock with
  | none => exact .inl rfl
  | some g =>
    right
    intro e'
    have h1 := (h.1.lt g hv).1
    have h2 := h.2 g hv
    have := hr g e'.symm
    omega
theorem RowIn.out {lo hi : Nat} {e : TypeId} {size : Nat} {w : World} {v : Value} {n : Nat} {xs : List Value} (h : RowIn lo hi e size w v n xs) : ∀ k, v.ownBlock = some k → lo ≤ k ∧ k < hi := fun k hk => ⟨(h.1.lt k hk).1, h.2 k hk⟩
/-- Texts, so. -/
def TIn (lo hi : Nat) (w : World) (v : Value) (xs : List ByteArray) : Prop := RowIn lo hi 9 1 w v xs.length (xs.map Value.string)
theorem TIn.srow {lo hi : Nat} {w : World} {v : Value} {xs : List ByteArray} (h : TIn lo hi w v xs) : SRow w v xs := own_srow h.1
theorem TIn.below {lo hi : Nat} {w w' : World} {v : Value} {xs : List ByteArray} (h : TIn lo hi w v xs) (hb : Below w.heap.size w w') : TIn lo hi w' v xs := RowIn.below h hb
theorem TIn.grown {lo hi : Nat} {w w' : World} {v : Value} {xs : List ByteArray} {r : Option Nat} (h : TIn lo hi w v xs) (hg : w.grownBy w' r) (hr : ∀ k, r = some k → k < lo ∨ hi ≤ k) : TIn lo hi w' v xs := RowIn.grown h hg hr
end Go.Proofs.Ytgdhlnfigcaepaa
/-
  Variables in blocks of their own, beside rows. No Go function in it.
-/
namespace Go.Proofs.Ytgdhlnfigcaepaa
open Go.RowKit

theorem box_below {w w' : World} {b : Nat} {t : TypeId} {v : Value} (h : Boxed w b t v) (hb : Below w.heap.size w w') : Boxed w' b t v := (hb.block b h.lt).trans h
theorem box_below0 {w w' : World} {b B : Nat} {t : TypeId} {v : Value} (h : Boxed w b t v) (hb : Below B w w') (hlt : b < B) : Boxed w' b t v := (hb.block b hlt).trans h
/-- A row is not a variable's block: what is stored there leaves it. -/
theorem row_box {B : Nat} {w : World} {e t : TypeId} {size n b : Nat} {v u : Value} {xs : List Value} (h : w.ownsRow B e size v n xs) (hx : Boxed w b t u) (hte : t ≠ e) (x : Value) : (w.setCell ⟨b, 0, none⟩ x).ownsRow B e size v n xs :=
  h.kept (grownBy_setCell' w b x) (.inr (hx.not_row hte h).symm)
/-- A store into a variable's block leaves what lies below. -/
theorem below_box {B : Nat} {w w' : World} {b : Nat} (h : Below B w w') (hb : B ≤ b) (x : Value) : Below B w (w'.setCell ⟨b, 0, none⟩ x) := h.setCell (p := ⟨b, 0, none⟩) hb x
/-- A row that grows or turns leaves a variable's block of another type. -/
theorem box_grown {B : Nat} {w w' : World} {e t : TypeId} {size n b : Nat} {v u : Value} {xs : List Value} (hx : Boxed w b t u) (h : w.ownsRow B e size v n xs) (hte : t ≠ e) (hg : w.grownBy w' v.ownBlock) : Boxed w' b t u := hx.kept hg (hx.not_row hte h)
theorem row_lowB {B B' : Nat} {w : World} {e : TypeId} {size : Nat} {v : Value} {n : Nat} {xs : List Value} (h : w.ownsRow B e size v n xs) (hB : B' ≤ B) : w.ownsRow B' e size v n xs := by
  refine ⟨h.1, h.2.imp id ?_⟩
  rintro ⟨g, cap, cur, h1, h2, h3⟩
  exact ⟨g, cap, cur, h1, by omega, h3⟩
end Go.Proofs.Ytgdhlnfigcaepaa
/-
  Blocks of several cells that a call made: whole values stored into them and read out of them. No Go function in it.
-/
namespace Go.Proofs.Ytgdhlnfigcaepaa
open Go.RowKit

/-- A block holds these cells, all of one variable. -/
def Blk (w : World) (b : Nat) (t : TypeId) (cs : Array Value) : Prop := w.heap[b]? = some (.cells cs t (0, 0))
theorem Blk.lt {w : World} {b : Nat} {t : TypeId} {cs : Array Value} (h : Blk w b t cs) : b < w.heap.size := (Array.getElem?_eq_some_iff.1 h).1
theorem Blk.new (w : World) (t : TypeId) (cs : Array Value) : Blk (w.alloc (.cells cs t)) w.heap.size t cs := World.alloc_heap_new w _
theorem Blk.below {w w' : World} {b : Nat} {t : TypeId} {cs : Array Value} (h : Blk w b t cs) (hb : Below w.heap.size w w') : Blk w' b t cs := (hb.block b h.lt).trans h
theorem Blk.below0 {w w' : World} {b B : Nat} {t : TypeId} {cs : Array Value} (h : Blk w b t cs) (hb : Below B w w') (hlt : b < B) : Blk w' b t cs := (hb.block b hlt).trans h
theorem Blk.kept {w w' : World} {row : Option Nat} {b : Nat} {t : TypeId} {cs : Array Value} (h : Blk w b t cs) (hg : w.grownBy w' row) (hne : some b ≠ row) : Blk w' b t cs := (hg.block b h.lt hne).trans h
theorem Blk.alloc {w : World} {b : Nat} {t : TypeId} {cs : Array Value} (h : Blk w b t cs) (o : Obj) : Blk (w.alloc o) b t cs := h.kept (World.grownBy_alloc w o none) (by simp)
theorem Blk.drew {w : World} {b : Nat} {t : TypeId} {cs : Array Value} (h : Blk w b t cs) : Blk w.drew b t cs := h
theorem Blk.cell {w : World} {b : Nat} {t : TypeId} {cs : Array Value} (h : Blk w b t cs) (i : Nat) : w.cell? ⟨b, i, none⟩ = cs[i]? := by simp [World.cell?, show w.heap[b]? = _ from h]
theorem Blk.frozen {w : World} {b : Nat} {t : TypeId} {cs : Array Value} (h : Blk w b t cs) (i : Nat) : w.frozen? ⟨b, i, none⟩ = false := by simp [World.frozen?, show w.heap[b]? = _ from h]
theorem Blk.set {w : World} {b : Nat} {t : TypeId} {cs : Array Value} (h : Blk w b t cs) (ds : Array Value) : Blk (w.setRow b ds) b t ds := setRow_heap w b cs ds t _ h
theorem grown_setRow (w : World) (b : Nat) (cs : Array Value) : w.grownBy (w.setRow b cs) (some b) :=
  ⟨rfl, rfl, rfl, by simp, fun k _ hk => setRow_other w b k cs (fun e => hk (by rw [e]))⟩
theorem Blk.other {w : World} {b b' : Nat} {t : TypeId} {cs : Array Value} (h : Blk w b t cs) (hne : b ≠ b') (ds : Array Value) : Blk (w.setRow b' ds) b t cs := h.kept (grown_setRow w b' ds) (fun e => hne (by cases e; rfl))
theorem Blk.boxed {w : World} {b : Nat} {t : TypeId} {v : Value} (h : Blk w b t #[v]) : Boxed w b t v := h
/-- No row of another type is such a block. -/
theorem Blk.not_row {w : World} {b : Nat} {t e : TypeId} {cs : Array Value} (h : Blk w b t cs) (hte : t ≠ e) {base size k : Nat} {v : Value} {xs : List Value} (hr : w.ownsRow base e size v k xs) : some b ≠ v.ownBlock := by
  rcases hr.2 with ⟨rfl, _⟩ | ⟨g, cap, cur, rfl, _, hgb, _⟩
  · simp [Value.ownBlock]
  · intro q
    obtain rfl : b = g := by simpa [Value.ownBlock] using q
    have := (show w.heap[b]? = _ from h).symm.trans hgb
    simp at this
    exact hte this.2
theorem row_blk {B : Nat} {w : World} {e t : TypeId} {size n b : Nat} {v : Value} {xs : List Value} {cs : Array Value} (h : w.ownsRow B e size v n xs) (hx : Blk w b t cs) (hte : t ≠ e) (ds : Array Value) : (w.setRow b ds).ownsRow B e size v n xs :=
  h.kept (grown_setRow w b ds) (.inr (hx.not_row hte h).symm)
theorem below_blk {B : Nat} {w w' : World} {b : Nat} (h : Below B w w') (hb : B ≤ b) (ds : Array Value) : Below B w (w'.setRow b ds) := h.trans ⟨rfl, rfl, rfl, by simp [World.setRow], fun k hk => setRow_other w' b k ds (by omega)⟩
/-- A value of several cells is stored whole. -/
theorem wpList_store_whole {P : Program} {ops : Array Oper} {rest : List Oper} {o : Oper} {a : Act} {w : World} {Q : Exit → Act → World → Prop} (hg : o.guard = none) (ty : TypeId) (x y : Operand) (ho : o.op = .store ty x y)
    (b : Nat) (cells : Array Value) (hx : a.eval x = .pointer (some ⟨b, 0, none⟩)) (hy : a.eval y = .agg cells)
    (t : TypeId) (old : Array Value) (hb : Blk w b t old) (hi : (P.info? ty).map (·.size) = some cells.size)
    (hold : old.size = cells.size) (h1 : cells.all (·.oneCell') = true)
    (h : wpList P ops Q rest (a.put o.dst undef) (w.setRow b cells)) : wpList P ops Q (o :: rest) a w :=
  wpList_plain hg fun _ hK => wp_store_row ty x y ho b cells hx hy t old hb hi hold h1 (hK _ _ h)
/-- A value of several cells is read whole. -/
theorem wpList_load_whole {P : Program} {ops : Array Oper} {rest : List Oper} {o : Oper} {a : Act} {w : World} {Q : Exit → Act → World → Prop} (hg : o.guard = none) (ty : TypeId) (x : Operand) (ho : o.op = .load ty x)
    (b : Addr) (hx : a.eval x = .pointer (some b)) (v : Value) (hl : (loadVar ty b).run P w = .ok v w)
    (h : wpList P ops Q rest (a.put o.dst v) w) : wpList P ops Q (o :: rest) a w :=
  wpList_plain hg fun _ hK => by
    unfold Oper.wp execOp
    simp only [ho, hx, Instr.loadAt, Instr.sureAddr, Sem.run_bind, Sem.run_pure, Result.andThen_ok, hl]
    exact hK _ _ h
/-- A result that lies in a block. -/
theorem results_cell {P : Program} {fn : Func} {a t : Nat} {tmps : Array Value} {w : World} {b : Addr} {v : Value} (h : fn.results = #[.cell a t]) (hp : tmps.getD a undef = .pointer (some b)) (hl : (loadVar t b).run P w = .ok v w) : (results fn tmps).run P w = .ok v w := by
  have hp' : tmps[a]?.getD undef = .pointer (some b) := by simpa using hp
  simp [results, h, hp', asAddr, hl]
end Go.Proofs.Ytgdhlnfigcaepaa
/-
  Several cells out of and into the middle of a block that a call made. No Go function in it.
-/
namespace Go.Proofs.Ytgdhlnfigcaepaa
open Go.RowKit

theorem heap_setAt {w : World} {b i : Nat} {t : TypeId} {cs : Array Value} (h : Blk w b t cs) (v : Value) : Blk (w.setCell ⟨b, i, none⟩ v) b t (cs.setIfInBounds i v) := by
  unfold Blk
  rw [heap_setCell_same w b i _ _ v h]
theorem Blk.otherC {w : World} {b b' i : Nat} {t : TypeId} {cs : Array Value} (h : Blk w b t cs) (hne : b ≠ b') (v : Value) : Blk (w.setCell ⟨b', i, none⟩ v) b t cs := by
  unfold Blk
  rw [Below.heap_setCell _ _ _ _ hne]
  exact h
theorem grown_setC (w : World) (b i : Nat) (v : Value) : w.grownBy (w.setCell ⟨b, i, none⟩ v) (some b) :=
  ⟨rfl, rfl, rfl, by simp [World.setCell], fun k _ hk => Below.heap_setCell _ _ _ _ (fun e => hk (by rw [e]))⟩
theorem row_setC {B : Nat} {w : World} {e t : TypeId} {size n b i : Nat} {v : Value} {xs : List Value} {cs : Array Value} (h : w.ownsRow B e size v n xs) (hx : Blk w b t cs) (hte : t ≠ e) (x : Value) : (w.setCell ⟨b, i, none⟩ x).ownsRow B e size v n xs :=
  h.kept (grown_setC w b i x) (.inr (hx.not_row hte h).symm)

/-- These cells, from a place on, in others' stead. -/
def setAll : Array Value → Nat → List Value → Array Value
  | cs, _, [] => cs
  | cs, o, v :: r => setAll (cs.setIfInBounds o v) (o + 1) r
theorem Blk.setCells {b : Nat} {t : TypeId} : ∀ (vs : List Value) (o : Nat) {w : World} {cs : Array Value}, Blk w b t cs → Blk (w.setCells b o vs) b t (setAll cs o vs)
  | [], _, _, _, h => h
  | v :: r, o, _, _, h => Blk.setCells r (o + 1) (heap_setAt h v)
theorem grown_trans {u v w : World} {b : Nat} (h : u.grownBy v (some b)) (k : v.grownBy w (some b)) : u.grownBy w (some b) :=
  ⟨k.os.trans h.os, k.tape.trans h.tape, k.output.trans h.output, Nat.le_trans h.size k.size, fun z hz hne => (k.block z (Nat.lt_of_lt_of_le hz h.size) hne).trans (h.block z hz hne)⟩
theorem grown_setCells (b : Nat) : ∀ (vs : List Value) (o : Nat) (w : World), w.grownBy (w.setCells b o vs) (some b)
  | [], _, _ => ⟨rfl, rfl, rfl, Nat.le_refl _, fun _ _ _ => rfl⟩
  | v :: r, o, w => grown_trans (grown_setC w b o v) (grown_setCells b r (o + 1) _)
theorem Blk.there {w : World} {b : Nat} {t : TypeId} {cs : Array Value} (h : Blk w b t cs) {o n : Nat} (hn : o + n ≤ cs.size) : w.there b o n := fun j hj => by
  rw [h.cell, h.frozen]
  refine ⟨?_, rfl⟩
  rw [Array.getElem?_eq_getElem (by omega)]
  rfl
theorem Blk.range {w : World} {b : Nat} {t : TypeId} {cs : Array Value} (h : Blk w b t cs) {o : Nat} {vs : List Value} (hv : ∀ j v, vs[j]? = some v → cs[o + j]? = some v) : w.rangeAt b o vs := fun j v hj => by
  rw [h.cell]; exact hv j v hj
theorem Blk.otherCs {w : World} {b b' o : Nat} {t : TypeId} {cs : Array Value} (h : Blk w b t cs) (hne : b ≠ b') (vs : List Value) : Blk (w.setCells b' o vs) b t cs := h.kept (grown_setCells b' vs o w) (fun e => hne (by cases e; rfl))
theorem row_setCs {B : Nat} {w : World} {e t : TypeId} {size n b o : Nat} {v : Value} {xs : List Value} {cs : Array Value} (h : w.ownsRow B e size v n xs) (hx : Blk w b t cs) (hte : t ≠ e) (vs : List Value) : (w.setCells b o vs).ownsRow B e size v n xs :=
  h.kept (grown_setCells b vs o w) (.inr (hx.not_row hte h).symm)
theorem below_setCs {B : Nat} {w w' : World} {b o : Nat} (h : Below B w w') (hb : B ≤ b) (hs : B ≤ w'.heap.size) (vs : List Value) : Below B w (w'.setCells b o vs) := h.grown (grown_setCells b vs o w') hs (fun k hk => by cases hk; exact hb)
end Go.Proofs.Ytgdhlnfigcaepaa
/-
  Windows as plain words: numbers that fall, a ring of bits, and that both tell the same. No Go function in it.
-/
namespace Go.Proofs.Ytgdhlnfigcaepaa
open Go.RowKit

/-- A number behind the first one is below the one ahead of it, not too far behind the greatest, and a number. -/
def goodAt (top : Int) (xs : List Int) (j : Nat) : Bool := decide (xs.getD j 0 < xs.getD (j - 1) 0) && (decide (top - 8 < xs.getD j 0) && decide (1 ≤ xs.getD j 0))
/-- Numbers fall from the greatest on. -/
def fallsB (top : Int) (xs : List Int) : Bool := decide (xs ≠ []) && (decide (xs.getD 0 0 = top) && (List.range xs.length).all fun j => j == 0 || goodAt top xs j)
theorem falls_nil (top : Int) : fallsB top [] = false := rfl
theorem falls_first {top : Int} {xs : List Int} (h : xs.getD 0 0 ≠ top) : fallsB top xs = false := by unfold fallsB; rw [decide_eq_false h]; simp
theorem falls_bad {top : Int} {xs : List Int} {j : Nat} (hj : j < xs.length) (h1 : 1 ≤ j) (h : goodAt top xs j = false) : fallsB top xs = false := by
  unfold fallsB
  have : ((List.range xs.length).all fun j => j == 0 || goodAt top xs j) = false := by
    rw [List.all_eq_false]
    refine ⟨j, List.mem_range.2 hj, ?_⟩
    rw [h]
    simp
    omega
  rw [this, Bool.and_false, Bool.and_false]
theorem falls_all {top : Int} {xs : List Int} (h0 : 0 < xs.length) (h1 : xs.getD 0 0 = top) (h : ∀ j, j < xs.length → 1 ≤ j → goodAt top xs j = true) : fallsB top xs = true := by
  unfold fallsB
  have e : decide (xs ≠ []) = true := by
    simp
    intro q
    rw [q] at h0
    simp at h0
  rw [e, decide_eq_true h1, Bool.true_and, Bool.true_and, List.all_eq_true]
  intro j hj
  by_cases hz : j = 0
  · subst hz; rfl
  · rw [h j (List.mem_range.1 hj) (by omega)]; simp
theorem falls_facts {top : Int} {xs : List Int} (h : fallsB top xs = true) : 0 < xs.length ∧ xs.getD 0 0 = top ∧ ∀ j, j < xs.length → 1 ≤ j → xs.getD j 0 < xs.getD (j - 1) 0 ∧ top - 8 < xs.getD j 0 ∧ 1 ≤ xs.getD j 0 := by
  unfold fallsB at h
  simp only [Bool.and_eq_true, decide_eq_true_eq, List.all_eq_true] at h
  obtain ⟨h1, h2, h3⟩ := h
  refine ⟨List.length_pos_iff.2 h1, h2, fun j hj h1j => ?_⟩
  have := h3 j (List.mem_range.2 hj)
  rw [Bool.or_eq_true] at this
  rcases this with q | q
  · simp at q; omega
  · unfold goodAt at q
    simp only [Bool.and_eq_true, decide_eq_true_eq] at q
    exact ⟨q.1, q.2.1, q.2.2⟩
theorem getD_at {xs : List Int} {i : Nat} (h : i < xs.length) : xs.getD i 0 = xs[i] := by rw [List.getD_eq_getElem?_getD, List.getElem?_eq_getElem h]; rfl
theorem falls_down {top : Int} {xs : List Int} (h : fallsB top xs = true) : ∀ (j : Nat), j < xs.length → ∀ i, i < j → xs.getD j 0 < xs.getD i 0 := by
  obtain ⟨_, _, h3⟩ := falls_facts h
  intro j
  induction j with
  | zero => intro _ i hi; omega
  | succ j ih =>
    intro hj i hi
    have a := (h3 (j + 1) hj (by omega)).1
    rw [show j + 1 - 1 = j by omega] at a
    by_cases e : i = j
    · subst e; exact a
    · have b := ih (by omega) i (by omega)
      omega
theorem falls_sorted {top : Int} {xs : List Int} (h : fallsB top xs = true) : xs.Pairwise (fun a b => b < a) := by
  rw [List.pairwise_iff_getElem]
  intro i j hi hj hij
  have := falls_down h j hj i hij
  rw [getD_at hi, getD_at hj] at this
  exact this
theorem falls_in {top : Int} {xs : List Int} (h : fallsB top xs = true) (ht : 1 ≤ top) : ∀ x ∈ xs, 1 ≤ x ∧ x ≤ top ∧ top - 8 < x := by
  intro x hx
  obtain ⟨i, hi, rfl⟩ := List.mem_iff_getElem.1 hx
  obtain ⟨h1, h2, h3⟩ := falls_facts h
  rw [← getD_at hi]
  by_cases e : i = 0
  · subst e; rw [h2]; omega
  · have a := h3 i hi (by omega)
    have b := falls_down h i hi 0 (by omega)
    rw [h2] at b
    omega
theorem falls_len {top : Int} {xs : List Int} (h : fallsB top xs = true) (ht : 1 ≤ top) : xs.length ≤ 8 := by
  have a := falls_in h ht
  have d := falls_down h
  obtain ⟨h1, h2, _⟩ := falls_facts h
  have key : ∀ j, j < xs.length → xs.getD j 0 ≤ top - j := by
    intro j
    induction j with
    | zero => intro _; rw [h2]; omega
    | succ j ih =>
      intro hj
      have := ih (by omega)
      have := d (j + 1) hj j (by omega)
      omega
  apply Classical.byContradiction
  intro hn
  have b := key 8 (by omega)
  have c := a (xs.getD 8 0) (by rw [getD_at (by omega)]; exact List.getElem_mem _)
  omega
theorem falls_mem {top : Int} {xs : List Int} (h : fallsB top xs = true) : top ∈ xs := by
  obtain ⟨h1, h2, _⟩ := falls_facts h
  rw [← h2, getD_at h1]
  exact List.getElem_mem _
/-- Two falling lists with the same numbers are one. -/
theorem desc_ext : ∀ {xs ys : List Int}, xs.Pairwise (fun a b => b < a) → ys.Pairwise (fun a b => b < a) → (∀ m, m ∈ xs ↔ m ∈ ys) → xs = ys
  | [], [], _, _, _ => rfl
  | [], y :: ys, _, _, h => by have := (h y).2 (by simp); cases this
  | x :: xs, [], _, _, h => by have := (h x).1 (by simp); cases this
  | x :: xs, y :: ys, hx, hy, h => by
    obtain ⟨hx1, hx2⟩ := List.pairwise_cons.1 hx
    obtain ⟨hy1, hy2⟩ := List.pairwise_cons.1 hy
    have e : x = y := by
      have a := (h x).1 (by simp)
      have b := (h y).2 (by simp)
      rcases List.mem_cons.1 a with a | a
      · exact a
      · rcases List.mem_cons.1 b with b | b
        · exact b.symm
        · have := hy1 x a
          have := hx1 y b
          omega
    subst e
    congr 1
    refine desc_ext hx2 hy2 fun m => ⟨fun hm => ?_, fun hm => ?_⟩
    · rcases List.mem_cons.1 ((h m).1 (List.mem_cons_of_mem _ hm)) with q | q
      · have := hx1 m hm; omega
      · exact q
    · rcases List.mem_cons.1 ((h m).2 (List.mem_cons_of_mem _ hm)) with q | q
      · have := hy1 m hm; omega
      · exact q
/-- A falling list within bounds falls from its first number on. -/
theorem falls_of {top : Int} {xs : List Int} (hs : xs.Pairwise (fun a b => b < a)) (hb : ∀ x ∈ xs, 1 ≤ x ∧ x ≤ top ∧ top - 8 < x) (ht : top ∈ xs) : fallsB top xs = true := by
  have hl : 0 < xs.length := List.length_pos_iff.2 (fun e => by rw [e] at ht; cases ht)
  rw [List.pairwise_iff_getElem] at hs
  have h0 : xs.getD 0 0 = top := by
    obtain ⟨i, hi, e⟩ := List.mem_iff_getElem.1 ht
    have b := (hb xs[0] (List.getElem_mem _)).2.1
    rw [getD_at hl]
    by_cases q : i = 0
    · subst q; exact e
    · have := hs 0 i hl hi (by omega)
      omega
  refine falls_all hl h0 fun j hj h1 => ?_
  unfold goodAt
  rw [getD_at hj, getD_at (show j - 1 < xs.length by omega)]
  have a := hs (j - 1) j (by omega) hj (by omega)
  have b := hb xs[j] (List.getElem_mem _)
  simp only [Bool.and_eq_true, decide_eq_true_eq]
  exact ⟨a, b.2.2, b.1⟩

/-- The ring's numbers, from the greatest one down. -/
def fallTo (top b : Nat) : Nat → List Int
  | 0 => []
  | k + 1 => if b.testBit ((top - k) % 8) = true then fallTo top b k ++ [((top - k : Nat) : Int)] else fallTo top b k
theorem fallTo_len (top b : Nat) : ∀ k, (fallTo top b k).length ≤ k
  | 0 => Nat.le_refl _
  | k + 1 => by
    have := fallTo_len top b k
    unfold fallTo
    split
    · simp; omega
    · omega
theorem fallTo_mem (top b : Nat) : ∀ (k : Nat) (m : Int), m ∈ fallTo top b k ↔ ∃ j, j < k ∧ b.testBit ((top - j) % 8) = true ∧ m = ((top - j : Nat) : Int)
  | 0, m => by simp [fallTo]
  | k + 1, m => by
    unfold fallTo
    split
    · rename_i hb
      rw [List.mem_append, fallTo_mem top b k m, List.mem_singleton]
      constructor
      · rintro (⟨j, h1, h2, h3⟩ | h)
        · exact ⟨j, by omega, h2, h3⟩
        · exact ⟨k, by omega, hb, h⟩
      · rintro ⟨j, h1, h2, h3⟩
        by_cases e : j = k
        · subst e; exact .inr h3
        · exact .inl ⟨j, by omega, h2, h3⟩
    · rename_i hb
      rw [fallTo_mem top b k m]
      constructor
      · rintro ⟨j, h1, h2, h3⟩
        exact ⟨j, by omega, h2, h3⟩
      · rintro ⟨j, h1, h2, h3⟩
        by_cases e : j = k
        · subst e; exact absurd h2 hb
        · exact ⟨j, by omega, h2, h3⟩
theorem fallTo_sorted (top b : Nat) : ∀ k, k ≤ top → (fallTo top b k).Pairwise (fun a b => b < a)
  | 0, _ => by simp [fallTo]
  | k + 1, hk => by
    unfold fallTo
    split
    · rw [List.pairwise_append]
      refine ⟨fallTo_sorted top b k (by omega), by simp, fun a ha c hc => ?_⟩
      obtain ⟨j, h1, _, h3⟩ := (fallTo_mem top b k a).1 ha
      rw [List.mem_singleton] at hc
      omega
    · exact fallTo_sorted top b k (by omega)
/-- What the ring tells. -/
def fallOf (top b : Nat) : List Int := fallTo top b (min 8 top)
theorem fallOf_mem {top b : Nat} (m : Int) : m ∈ fallOf top b ↔ 1 ≤ m ∧ m ≤ top ∧ (top : Int) - 8 < m ∧ b.testBit (m.toNat % 8) = true := by
  unfold fallOf
  rw [fallTo_mem]
  constructor
  · rintro ⟨j, h1, h2, h3⟩
    refine ⟨by omega, by omega, by omega, ?_⟩
    rw [h3, Int.toNat_natCast]
    exact h2
  · rintro ⟨h1, h2, h3, h4⟩
    refine ⟨top - m.toNat, by omega, ?_, by omega⟩
    rw [show top - (top - m.toNat) = m.toNat by omega]
    exact h4
/-- A falling list is what a ring with its numbers tells. -/
theorem fallOf_eq {top b : Nat} {xs : List Int} (hs : xs.Pairwise (fun a b => b < a)) (hb : ∀ x ∈ xs, 1 ≤ x ∧ x ≤ (top : Int) ∧ (top : Int) - 8 < x)
    (h : ∀ m : Nat, 1 ≤ m → m ≤ top → top < m + 8 → (b.testBit (m % 8) = true ↔ (m : Int) ∈ xs)) : fallOf top b = xs := by
  refine desc_ext (fallTo_sorted top b _ (by omega)) hs fun m => ?_
  rw [fallOf_mem]
  constructor
  · rintro ⟨h1, h2, h3, h4⟩
    have := (h m.toNat (by omega) (by omega) (by omega)).1 h4
    rw [show ((m.toNat : Nat) : Int) = m by omega] at this
    exact this
  · intro hm
    obtain ⟨h1, h2, h3⟩ := hb m hm
    refine ⟨h1, h2, h3, (h m.toNat (by omega) (by omega) (by omega)).2 ?_⟩
    rw [show ((m.toNat : Nat) : Int) = m by omega]
    exact hm

/-- A bit put in. -/
def setB (b r : Nat) : Nat := (bits .or .u64 (b : Int) ((2 ^ r : Nat) : Int)).toNat
/-- A bit taken out. -/
def clrB (b r : Nat) : Nat := (bits .andNot .u64 (b : Int) ((2 ^ r : Nat) : Int)).toNat
theorem bit_facts0 : ∀ b : Fin 256, ∀ r : Fin 8, (bits .or .u64 (b.val : Int) ((2 ^ r.val : Nat) : Int) = (setB b.val r.val : Int) ∧ setB b.val r.val < 256) ∧ (bits .andNot .u64 (b.val : Int) ((2 ^ r.val : Nat) : Int) = (clrB b.val r.val : Int) ∧ clrB b.val r.val < 256) ∧ decide (bits .and .u64 (b.val : Int) ((2 ^ r.val : Nat) : Int) = 0) = !(b.val.testBit r.val) := by decide +kernel
theorem bit_facts1 : ∀ b : Fin 256, ∀ r : Fin 8, ∀ j : Fin 8, (setB b.val r.val).testBit j.val = (b.val.testBit j.val || r.val == j.val) ∧ (clrB b.val r.val).testBit j.val = (b.val.testBit j.val && !(r.val == j.val)) := by decide +kernel
theorem or_val {b r : Nat} (hb : b < 256) (hr : r < 8) : bits .or .u64 (b : Int) ((2 ^ r : Nat) : Int) = (setB b r : Int) ∧ setB b r < 256 := (bit_facts0 ⟨b, hb⟩ ⟨r, hr⟩).1
theorem clr_val {b r : Nat} (hb : b < 256) (hr : r < 8) : bits .andNot .u64 (b : Int) ((2 ^ r : Nat) : Int) = (clrB b r : Int) ∧ clrB b r < 256 := (bit_facts0 ⟨b, hb⟩ ⟨r, hr⟩).2.1
theorem and_val {b r : Nat} (hb : b < 256) (hr : r < 8) : decide (bits .and .u64 (b : Int) ((2 ^ r : Nat) : Int) = 0) = !(b.testBit r) := (bit_facts0 ⟨b, hb⟩ ⟨r, hr⟩).2.2
theorem test_set {b r j : Nat} (hb : b < 256) (hr : r < 8) (hj : j < 8) : (setB b r).testBit j = (b.testBit j || r == j) := (bit_facts1 ⟨b, hb⟩ ⟨r, hr⟩ ⟨j, hj⟩).1
theorem test_clr {b r j : Nat} (hb : b < 256) (hr : r < 8) (hj : j < 8) : (clrB b r).testBit j = (b.testBit j && !(r == j)) := (bit_facts1 ⟨b, hb⟩ ⟨r, hr⟩ ⟨j, hj⟩).2
#print axioms fallOf_eq
#print axioms bit_facts1
end Go.Proofs.Ytgdhlnfigcaepaa
/-
  Rows of numbers: what a slice of numbers holds; slices of the call's own. No Go function in it.
-/
namespace Go.Proofs.Ytgdhlnfigcaepaa
open Go.RowKit

/-- A slice holds these numbers. -/
def IRow (w : World) (v : Value) (xs : List Int) : Prop :=
  (v = .slice none 0 0 ∧ xs = []) ∨ ∃ (a : Addr) (cap : Nat), v = .slice (some a) xs.length cap ∧ xs.length ≤ cap ∧ cap ≤ maxLen ∧ ∀ i, i < xs.length → w.cell? (a.add i) = some (.int .i64 (xs.getD i 0))
theorem IRow.below {w w' : World} {v : Value} {xs : List Int} (h : IRow w v xs) (hb : Below w.heap.size w w') : IRow w' v xs := by
  rcases h with h | ⟨a, cap, h1, h2, h3, h4⟩
  · exact .inl h
  · exact .inr ⟨a, cap, h1, h2, h3, fun i hi => (hb.cell (p := a.add i) (cell_lt (h4 i hi))).trans (h4 i hi)⟩
theorem IRow.drew {w : World} {v : Value} {xs : List Int} (h : IRow w v xs) : IRow w.drew v xs := h
theorem IRow.form {w : World} {v : Value} {xs : List Int} (h : IRow w v xs) :
    ∃ (ao : Option Addr) (cap : Nat), v = .slice ao xs.length cap ∧ xs.length ≤ cap ∧ cap ≤ maxLen ∧ ∀ i, i < xs.length → ∃ a, ao = some a ∧ w.cell? (a.add i) = some (.int .i64 (xs.getD i 0)) := by
  rcases h with ⟨rfl, rfl⟩ | ⟨a, cap, rfl, h1, h2, h3⟩
  · exact ⟨none, 0, rfl, Nat.le_refl _, by omega, fun i hi => absurd hi (Nat.not_lt_zero _)⟩
  · exact ⟨some a, cap, rfl, h1, h2, fun i hi => ⟨a, rfl, h3 i hi⟩⟩

/-- A slice of the call's own holds these numbers. -/
def OwnI (B : Nat) (w : World) (v : Value) (xs : List Int) : Prop := w.ownsRow B 3 1 v xs.length (xs.map (Value.int .i64))
theorem OwnI.below {B : Nat} {w w' : World} {v : Value} {xs : List Int} (h : OwnI B w v xs) (hb : Below w.heap.size w w') : OwnI B w' v xs := own_below' h hb
theorem OwnI.irow {B : Nat} {w : World} {v : Value} {xs : List Int} (h : OwnI B w v xs) : IRow w v xs := by
  unfold OwnI at h
  have hh := h
  rcases h.2 with ⟨h1, h2⟩ | ⟨g, cap, cur, h1, h2, h3, h4, h5, h6, h7⟩
  · exact .inl ⟨h1, List.eq_nil_of_length_eq_zero h2⟩
  · subst h1
    refine .inr ⟨⟨g, 0, none⟩, cap, rfl, h4, h5, fun i hi => ?_⟩
    have hc := hh.cellAt i (by omega)
    rw [Addr.add_lit, Nat.zero_add, hc]
    simp [hi]
theorem OwnI.len {B : Nat} {w : World} {v : Value} {xs : List Int} (h : OwnI B w v xs) : lenOf v = xs.length := by
  rcases h.2 with ⟨h1, h2⟩ | ⟨g, cap, cur, h1, _⟩
  · rw [h1, h2]; rfl
  · rw [h1]; rfl
theorem OwnI.grow {B : Nat} {w w6 w7 : World} {o : Obj} {v v' : Value} {xs : List Int} {y : Int} (hO : OwnI B w6 v xs) (hbl : Below B w w6) (hB : B ≤ w.heap.size)
    (hown' : w7.ownsRow B 3 1 v' (xs.length + 1) (xs.map (Value.int .i64) ++ [.int .i64 y])) (hg : (w6.alloc o).grownBy w7 v.ownBlock) : OwnI B w7 v' (xs ++ [y]) ∧ Below B w w7 := by
  have hs := hbl.size
  refine ⟨?_, (hbl.alloc (by omega) o).grown hg (by simp; omega) (fun k hk => (hO.lt k hk).1)⟩
  unfold OwnI
  rw [List.length_append, List.map_append]
  exact hown'
theorem info_int2 : (Try.prog.info? 3).map (fun i => (i.zero, i.size, i.bytes)) = some (some (.int .i64 0), 1, 8) := by kernel_rfl
end Go.Proofs.Ytgdhlnfigcaepaa
/-
  The tree's places, plain: what is above them, beside them, where two meet. No Go function in it.
-/
namespace Go.Proofs.Ytgdhlnfigcaepaa

/-- The place of one. -/
def leafOf (who : Int) : Int := if 0 ≤ who ∧ who ≤ 7 then 7 + who else -1
/-- The place beside one. -/
def sideOf (n : Int) : Int := if 1 ≤ n ∧ n ≤ 14 then (if n % 2 = 1 then n + 1 else n - 1) else -1
/-- All places above one. -/
def upF : Nat → Nat → List Nat
  | 0, _ => []
  | f + 1, k => if k = 0 then [] else (k - 1) / 2 :: upF f ((k - 1) / 2)
def ups (k : Nat) : List Nat := upF 4 k
theorem ups_zero : ups 0 = [] := rfl
theorem ups_step : ∀ k, k < 15 → 0 < k → ups k = (k - 1) / 2 :: ups ((k - 1) / 2) := by decide
theorem ups_len : ∀ k, k < 15 → (ups k).length ≤ 3 := by decide
theorem ups_lt : ∀ k, k < 15 → ∀ p ∈ ups k, p < 7 := by decide
def upOf (n : Int) : List Int := if 0 ≤ n ∧ n ≤ 14 then (ups n.toNat).map (fun (k : Nat) => (k : Int)) else []
/-- Where two places meet. -/
def meetF : Nat → Nat → Nat → Nat
  | 0, a, _ => a
  | f + 1, a, b => if a = b then a else if b < a then meetF f ((a - 1) / 2) b else meetF f a ((b - 1) / 2)
def meets (a b : Nat) : Nat := meetF 6 a b
theorem meets_self : ∀ a, a < 15 → meets a a = a := by decide
theorem meets_left : ∀ a, a < 15 → ∀ b, b < 15 → b < a → meets a b = meets ((a - 1) / 2) b := by decide
theorem meets_right : ∀ a, a < 15 → ∀ b, b < 15 → a < b → meets a b = meets a ((b - 1) / 2) := by decide
theorem meets_comm : ∀ a, a < 15 → ∀ b, b < 15 → meets a b = meets b a := by decide
theorem meets_lt : ∀ a, a < 15 → ∀ b, b < 15 → meets a b < 15 := by decide
/-- The places above both are where they meet, and those above it. -/
theorem meets_above : ∀ a, a < 15 → ∀ b, b < 15 → (a :: ups a).filter (fun x => (b :: ups b).contains x) = meets a b :: ups (meets a b) := by decide
def meetOf (a b : Int) : Int := if (0 ≤ a ∧ a ≤ 14) ∧ 0 ≤ b ∧ b ≤ 14 then (meets a.toNat b.toNat : Int) else -1
end Go.Proofs.Ytgdhlnfigcaepaa
/-
  The spec's places: TreLeaf, TreSide, TreMeet, TreUp.
-/
namespace Go.Proofs.Ytgdhlnfigcaepaa
open Go.RowKit

theorem half_wrap (x : Nat) (h0 : 0 < x) (h : x < 15) : IntKind.i64.wrap ((x : Int) - 1) = (x : Int) - 1 ∧ IntKind.i64.wrap (((x : Int) - 1).tdiv 2) = (((x - 1) / 2 : Nat) : Int) := by
  constructor
  · simp [IntKind.wrap, IntKind.bits, IntKind.signed]; omega
  · rw [show ((x : Int) - 1) = ((x - 1 : Nat) : Int) by omega, Int.tdiv_eq_ediv_of_nonneg (by omega)]
    have : ((x - 1 : Nat) : Int) / 2 = (((x - 1) / 2 : Nat) : Int) := by omega
    rw [this]
    simp [IntKind.wrap, IntKind.bits, IntKind.signed]
    omega

end Go.Proofs.Ytgdhlnfigcaepaa
