/-
  The tree, plain: what covers covers each once; what is set, cleared, set again; trees that stay ok. No Go function in it.
-/
import Derived.Test.YteiojanamkndmaaGreatFnExactMemJoinB4
import Derived.Test.YteiojanamkndmaaGreatFnExactMemJoinB1
import Derived.Deep.RegionHeld3
import Derived.Test.YteiojanamkndmaaGreatFnExactMemJoinB3
import Derived.Test.YteiojanamkndmaaGreatFnExactMemJoinB2
namespace Go.Proofs.YteiojanamkndmaaGreat
open Kw

theorem meets_top : ∀ n, n < 7 → ∀ p, p < 15 → (meets p (2 * n + 1) = 2 * n + 1 → meets p n = n) ∧ (meets p (2 * n + 2) = 2 * n + 2 → meets p n = n) := by decide
/-- What covers has keys, and lies from there down. -/
theorem cover_has (xs : List ByteArray) : ∀ n, n < 15 → ∀ p ∈ cover xs n, p < 15 ∧ keyed xs p = true ∧ meets p n = n := by
  apply down
  · intro n h h' p hp
    cases q : keyed xs n with
    | true => rw [cover_keyed xs n q] at hp; simp at hp; subst hp; exact ⟨h', q, meets_self p h'⟩
    | false => rw [cover_bare xs n q h] at hp; simp at hp
  · intro n h i1 i2 p hp
    cases q : keyed xs n with
    | true => rw [cover_keyed xs n q] at hp; simp at hp; subst hp; exact ⟨by omega, q, meets_self p (by omega)⟩
    | false =>
      rw [cover_both xs n q h] at hp
      rcases List.mem_append.1 hp with hp | hp
      · obtain ⟨a, b, c⟩ := i1 p hp
        exact ⟨a, b, (meets_top n h p a).1 c⟩
      · obtain ⟨a, b, c⟩ := i2 p hp
        exact ⟨a, b, (meets_top n h p a).2 c⟩

/-- How many of some places are above one, or it. -/
def above (ps : List Nat) (l : Nat) : Nat := (ps.filter fun p => decide (meets p l = p)).length
theorem meets_leaf : ∀ n, 7 ≤ n → n < 15 → ∀ l, 7 ≤ l → l < 15 → meets l n = n → l = n := by
  have h : ∀ n, n < 15 → 7 ≤ n → ∀ l, l < 15 → 7 ≤ l → meets l n = n → l = n := by decide
  exact fun n a b l c d => h n b a l d c
theorem meets_sum : ∀ n, n < 7 → ∀ l, l < 15 → 7 ≤ l → (if meets l (2 * n + 1) = 2 * n + 1 then 1 else 0) + (if meets l (2 * n + 2) = 2 * n + 2 then 1 else 0) = if meets l n = n then 1 else 0 := by decide
/-- Each one with a key is covered once, where it lies from there down; where it does not, it is not. -/
theorem cover_count (xs : List ByteArray) (l : Nat) (h7 : 7 ≤ l) (hl : l < 15) (hk : keyed xs l = true) : ∀ n, n < 15 → above (cover xs n) l = if meets l n = n then 1 else 0 := by
  have one : ∀ n, n < 15 → above [n] l = if meets l n = n then 1 else 0 := by
    intro n hn
    unfold above
    rw [meets_comm l hl n hn]
    by_cases h : meets n l = n
    · simp [h]
    · simp [h]
  apply down
  · intro n h h'
    cases q : keyed xs n with
    | true => rw [cover_keyed xs n q]; exact one n h'
    | false =>
      rw [cover_bare xs n q h, if_neg]
      · rfl
      · intro e
        rw [meets_leaf n h h' l h7 hl e, q] at hk
        cases hk
  · intro n h i1 i2
    cases q : keyed xs n with
    | true => rw [cover_keyed xs n q]; exact one n (by omega)
    | false =>
      rw [cover_both xs n q h]
      have e : above (cover xs (2 * n + 1) ++ cover xs (2 * n + 2)) l = above (cover xs (2 * n + 1)) l + above (cover xs (2 * n + 2)) l := by unfold above; rw [List.filter_append, List.length_append]
      rw [e, i1, i2]
      exact meets_sum n h l hl h7

theorem getD_set (xs : List ByteArray) (p k : Nat) (y : ByteArray) : (xs.set p y).getD k ByteArray.empty = if p = k ∧ k < xs.length then y else xs.getD k ByteArray.empty := by
  rw [List.getD_eq_getElem?_getD, List.getD_eq_getElem?_getD, List.getElem?_set]
  by_cases h : p = k
  · subst h
    by_cases h2 : p < xs.length
    · simp [h2]
    · simp [h2]
  · simp [h]

theorem wipe_len (ps : List Nat) : ∀ xs, (wipe xs ps).length = xs.length := by
  induction ps with
  | nil => intro xs; rfl
  | cons p ps ih => intro xs; show (wipe (xs.set p ByteArray.empty) ps).length = _; rw [ih]; simp
theorem wipe_at (ps : List Nat) : ∀ xs k, (wipe xs ps).getD k ByteArray.empty = if k ∈ ps then ByteArray.empty else xs.getD k ByteArray.empty := by
  induction ps with
  | nil => intro xs k; simp [wipe]
  | cons p ps ih =>
    intro xs k
    show (wipe (xs.set p ByteArray.empty) ps).getD k ByteArray.empty = _
    rw [ih, getD_set]
    by_cases h : k ∈ ps
    · simp [h]
    · by_cases h2 : p = k
      · subst h2
        by_cases h3 : p < xs.length
        · simp [h, h3]
        · simp [h, h3]
      · have : ¬ k = p := fun e => h2 e.symm
        simp [h, h2, this]
theorem fill_len (ps : List Nat) : ∀ xs s, (fill xs s ps).length = xs.length := by
  induction ps with
  | nil => intro xs s; rfl
  | cons p ps ih => intro xs s; show (fill (xs.set p (mkKey s)) (mkNext s) ps).length = _; rw [ih]; simp
theorem fill_out (ps : List Nat) : ∀ xs s k, ¬ k ∈ ps → (fill xs s ps).getD k ByteArray.empty = xs.getD k ByteArray.empty := by
  induction ps with
  | nil => intro xs s k _; rfl
  | cons p ps ih =>
    intro xs s k h
    show (fill (xs.set p (mkKey s)) (mkNext s) ps).getD k ByteArray.empty = _
    have h1 : ¬ k = p := fun e => h (by simp [e])
    rw [ih _ _ k (fun e => h (by simp [e])), getD_set, if_neg (fun e => h1 e.1.symm)]
theorem fill_in (ps : List Nat) : ∀ xs ys s k, k ∈ ps → xs.length = ys.length → (fill xs s ps).getD k ByteArray.empty = (fill ys s ps).getD k ByteArray.empty := by
  induction ps with
  | nil => intro xs ys s k h; cases h
  | cons p ps ih =>
    intro xs ys s k h e
    show (fill (xs.set p (mkKey s)) (mkNext s) ps).getD k ByteArray.empty = (fill (ys.set p (mkKey s)) (mkNext s) ps).getD k ByteArray.empty
    by_cases hk : k ∈ ps
    · exact ih _ _ _ k hk (by simp [e])
    · have hkp : k = p := by simpa [hk] using h
      subst hkp
      rw [fill_out _ _ _ _ hk, fill_out _ _ _ _ hk, getD_set, getD_set, e]
      by_cases q : k < ys.length
      · simp [q]
      · rw [if_neg (fun z => q z.2), if_neg (fun z => q z.2), List.getD_eq_getElem?_getD, List.getD_eq_getElem?_getD, List.getElem?_eq_none (by omega), List.getElem?_eq_none (by omega)]

/-- Cleared behind set is cleared. -/
theorem wipe_fill (ps : List Nat) (xs : List ByteArray) (s : ByteArray) : wipe (fill xs s ps) ps = wipe xs ps := by
  apply rows_eq
  · rw [wipe_len, wipe_len, fill_len]
  · intro k _
    rw [wipe_at, wipe_at]
    by_cases h : k ∈ ps
    · simp [h]
    · rw [if_neg h, if_neg h, fill_out _ _ _ _ h]
theorem wipe_twice (ps : List Nat) (xs : List ByteArray) : wipe (wipe xs ps) ps = wipe xs ps := by
  apply rows_eq
  · rw [wipe_len]
  · intro k _
    rw [wipe_at, wipe_at]
    by_cases h : k ∈ ps <;> simp [h]
theorem wipe_swap (ps qs : List Nat) (xs : List ByteArray) : wipe (wipe xs ps) qs = wipe (wipe xs qs) ps := by
  apply rows_eq
  · rw [wipe_len, wipe_len, wipe_len, wipe_len]
  · intro k _
    rw [wipe_at, wipe_at, wipe_at, wipe_at]
    by_cases h : k ∈ ps <;> by_cases h2 : k ∈ qs <;> simp [h, h2]
/-- Set by one, and then by another one. -/
theorem fill_two (ps qs : List Nat) (xs : List ByteArray) (s u : ByteArray) (k : Nat) :
    (fill (fill xs s ps) u qs).getD k ByteArray.empty = if k ∈ qs then (fill xs u qs).getD k ByteArray.empty else (fill xs s ps).getD k ByteArray.empty := by
  by_cases h : k ∈ qs
  · rw [if_pos h]; exact fill_in _ _ _ _ _ h (fill_len _ _ _)
  · rw [if_neg h]; exact fill_out _ _ _ _ h

theorem all_getD {xs : List ByteArray} (p : ByteArray → Bool) : xs.all p = true ↔ ∀ k, k < xs.length → p (xs.getD k ByteArray.empty) = true := by
  rw [List.all_eq_true]
  constructor
  · intro h k hk; exact h _ (getD_mem hk)
  · intro h x hx
    obtain ⟨k, hk, rfl⟩ := mem_getD hx
    exact h k hk
theorem treOk_iff {xs : List ByteArray} : treOk xs = true ↔ xs.length = 15 ∧ ∀ k, k < xs.length → keyOk (xs.getD k ByteArray.empty) = true := by
  unfold treOk
  rw [Bool.and_eq_true, all_getD]
  simp
theorem keyOk_none : keyOk ByteArray.empty = true := by simp [keyOk]
theorem keyOk_set {xs : List ByteArray} {p : Nat} {y : ByteArray} (h : treOk xs = true) (hy : keyOk y = true) : treOk (xs.set p y) = true := by
  obtain ⟨h1, h2⟩ := treOk_iff.1 h
  refine treOk_iff.2 ⟨by simpa using h1, fun k hk => ?_⟩
  rw [List.length_set] at hk
  rw [getD_set]
  split
  · exact hy
  · exact h2 k hk
theorem treOk_wipe (ps : List Nat) : ∀ xs, treOk xs = true → treOk (wipe xs ps) = true := by
  induction ps with
  | nil => intro xs h; exact h
  | cons p ps ih => intro xs h; exact ih _ (keyOk_set h keyOk_none)
theorem keyOk_key {s : ByteArray} (h : ok s = true) (hs : s.size < 300) : keyOk (mkKey s) = true := by
  have m := made_key h hs
  have e : mkKey s = keyT s := by unfold mkKey; rw [if_pos h, cap_self m.1]
  rw [e]
  unfold keyOk
  rw [m.1, m.2.1]
  simp
theorem next_ok {s : ByteArray} (h : ok s = true) (hs : s.size < 300) : ok (mkNext s) = true ∧ (mkNext s).size = s.size + 1 := by
  have m := made_next h hs
  have e : mkNext s = nextT s := by unfold mkNext; rw [if_pos h, cap_self m.1]
  rw [e]
  exact ⟨m.1, by have := next_size s; omega⟩
theorem treOk_fill (ps : List Nat) : ∀ xs s, treOk xs = true → ok s = true → s.size + ps.length ≤ 300 → treOk (fill xs s ps) = true := by
  induction ps with
  | nil => intro xs s h _ _; exact h
  | cons p ps ih =>
    intro xs s h hs hl
    simp only [List.length_cons] at hl
    obtain ⟨n1, n2⟩ := next_ok hs (by omega)
    exact ih _ _ (keyOk_set h (keyOk_key hs (by omega))) n1 (by omega)
#print axioms treOk_fill
end Go.Proofs.YteiojanamkndmaaGreat
/-
  Rows of numbers: what a slice of numbers holds; slices of the call's own. No Go function in it.
-/
namespace Go.Proofs.YteiojanamkndmaaGreat
open Go.RowKit

/-- A slice holds these numbers. -/
def IRow (w : World) (v : Value) (xs : List Int) : Prop :=
  (v = .slice none 0 0 ∧ xs = []) ∨ ∃ (a : Addr) (cap : Nat), v = .slice (some a) xs.length cap ∧ xs.length ≤ cap ∧ cap ≤ maxLen ∧ ∀ i, i < xs.length → w.cell? (a.add i) = some (.int .i64 (xs.getD i 0))
theorem IRow.below {w w' : World} {v : Value} {xs : List Int} (h : IRow w v xs) (hb : Below w.heap.size w w') : IRow w' v xs := by
  rcases h with h | ⟨a, cap, h1, h2, h3, h4⟩
  · exact .inl h
  · exact .inr ⟨a, cap, h1, h2, h3, fun i hi => (hb.cell (p := a.add i) (cell_lt (h4 i hi))).trans (h4 i hi)⟩
theorem IRow.drew {w : World} {v : Value} {xs : List Int} (h : IRow w v xs) : IRow w.drew v xs := h
theorem IRow.form {w : World} {v : Value} {xs : List Int} (h : IRow w v xs) :
    ∃ (ao : Option Addr) (cap : Nat), v = .slice ao xs.length cap ∧ xs.length ≤ cap ∧ cap ≤ maxLen ∧ ∀ i, i < xs.length → ∃ a, ao = some a ∧ w.cell? (a.add i) = some (.int .i64 (xs.getD i 0)) := by
  rcases h with ⟨rfl, rfl⟩ | ⟨a, cap, rfl, h1, h2, h3⟩
  · exact ⟨none, 0, rfl, Nat.le_refl _, by omega, fun i hi => absurd hi (Nat.not_lt_zero _)⟩
  · exact ⟨some a, cap, rfl, h1, h2, fun i hi => ⟨a, rfl, h3 i hi⟩⟩

/-- A slice of the call's own holds these numbers. -/
def OwnI (B : Nat) (w : World) (v : Value) (xs : List Int) : Prop := w.ownsRow B 3 1 v xs.length (xs.map (Value.int .i64))
theorem OwnI.below {B : Nat} {w w' : World} {v : Value} {xs : List Int} (h : OwnI B w v xs) (hb : Below w.heap.size w w') : OwnI B w' v xs := own_below' h hb
theorem OwnI.irow {B : Nat} {w : World} {v : Value} {xs : List Int} (h : OwnI B w v xs) : IRow w v xs := by
  unfold OwnI at h
  have hh := h
  rcases h.2 with ⟨h1, h2⟩ | ⟨g, cap, cur, h1, h2, h3, h4, h5, h6, h7⟩
  · exact .inl ⟨h1, List.eq_nil_of_length_eq_zero h2⟩
  · subst h1
    refine .inr ⟨⟨g, 0, none⟩, cap, rfl, h4, h5, fun i hi => ?_⟩
    have hc := hh.cellAt i (by omega)
    rw [Addr.add_lit, Nat.zero_add, hc]
    simp [hi]
theorem OwnI.len {B : Nat} {w : World} {v : Value} {xs : List Int} (h : OwnI B w v xs) : lenOf v = xs.length := by
  rcases h.2 with ⟨h1, h2⟩ | ⟨g, cap, cur, h1, _⟩
  · rw [h1, h2]; rfl
  · rw [h1]; rfl
theorem OwnI.grow {B : Nat} {w w6 w7 : World} {o : Obj} {v v' : Value} {xs : List Int} {y : Int} (hO : OwnI B w6 v xs) (hbl : Below B w w6) (hB : B ≤ w.heap.size)
    (hown' : w7.ownsRow B 3 1 v' (xs.length + 1) (xs.map (Value.int .i64) ++ [.int .i64 y])) (hg : (w6.alloc o).grownBy w7 v.ownBlock) : OwnI B w7 v' (xs ++ [y]) ∧ Below B w w7 := by
  have hs := hbl.size
  refine ⟨?_, (hbl.alloc (by omega) o).grown hg (by simp; omega) (fun k hk => (hO.lt k hk).1)⟩
  unfold OwnI
  rw [List.length_append, List.map_append]
  exact hown'
theorem info_int2 : (Tryz.prog.info? 3).map (fun i => (i.zero, i.size, i.bytes)) = some (some (.int .i64 0), 1, 8) := by kernel_rfl
end Go.Proofs.YteiojanamkndmaaGreat
/-
  The spec's covers: l3Cover.
-/
namespace Go.Proofs.YteiojanamkndmaaGreat
open Go.RowKit

def ints (ps : List Nat) : List Int := ps.map fun (k : Nat) => (k : Int)
/-- What l3Cover leaves. -/
def Covers (xs : List ByteArray) (n : Nat) (w : World) (e : Ending) (w' : World) : Prop := ∃ u, e = .returned u ∧ OwnI w.heap.size w' u (ints (cover xs n)) ∧ Below w.heap.size w w'

theorem nil_text : (ByteArray.empty).toList = [] := by decide +kernel
theorem no_text {x : ByteArray} (h : ¬ x = ByteArray.empty) : ¬ x.toList = [] := by
  intro e
  exact h ((toList_eq (x := x) (y := ByteArray.empty)).1 (by rw [e, nil_text]; rfl))

end Go.Proofs.YteiojanamkndmaaGreat
/-
  TreOk of both sides.
-/
namespace Go.Proofs.YteiojanamkndmaaGreat
open Go.RowKit Kw

theorem keyOk_op (y : ByteArray) : keyOk y = (decide (y = ByteArray.empty) || decide (mOp y = 3)) := by
  unfold keyOk
  cases h : Kw.ok y with
  | true => simp
  | false =>
    have : mOp y = 0 := by unfold mOp; rw [if_neg (by rw [h]; simp)]
    rw [this]
    simp
theorem treOk_short {xs : List ByteArray} (h : xs.length ≠ 15) : treOk xs = false := by unfold treOk; simp [h]
theorem treOk_bad {xs : List ByteArray} {k : Nat} (hk : k < xs.length) (h : keyOk (xs.getD k ByteArray.empty) = false) : treOk xs = false := by
  cases q : treOk xs with
  | false => rfl
  | true => rw [(treOk_iff.1 q).2 k hk] at h; cases h
theorem treOk_good {xs : List ByteArray} (hl : xs.length = 15) (h : ∀ j, j < 15 → keyOk (xs.getD j ByteArray.empty) = true) : treOk xs = true := treOk_iff.2 ⟨hl, fun k hk => h k (by omega)⟩

theorem how_field (a b c : Int) (d e : ByteArray) : howV a b c d e = .agg #[.int .i64 a, .int .i64 b, .int .i64 c, .string d, .string e] := rfl

theorem field_op (a b c : Int) (d e : ByteArray) (w : World) : (Instr.field 81 (.agg #[.int .i64 a, .int .i64 b, .int .i64 c, .string d, .string e]) 0).run Tryz.prog w = .ok (.int .i64 a) w := by kernel_rfl

set_option maxRecDepth 100000 in
set_option maxHeartbeats 400000 in
theorem isKey_any (s : ByteArray) (w : World) (hm : s.size ≤ maxLen) :
    Calls Tryz.prog 93 #[.string s] w fun e w' => e = .returned (.bool (decide (mOp s = 3))) ∧ Below w.heap.size w w' := by
  have M := hide hm
  clear hm
  go_enter Tryz.func93, Tryz.ntmps93
  go_wp2_with fail
  refine (iSecMade_any s _ M.out).mono ?_
  rw [how_field]
  rintro e w1 ⟨rfl, hb1⟩
  have hfl := field_op
  go_wp2_with fail
  go_ret
  refine ⟨ret_bool' ?_, hb1⟩
  rw [Bool.eq_iff_iff]
  simp

set_option maxRecDepth 100000 in
set_option maxHeartbeats 2000000 in
theorem iTreOk_any (v : Value) (xs : List ByteArray) (w : World) (h : SRow w v xs) (hx : ∀ x ∈ xs, x.size ≤ maxLen) :
    Calls Tryz.prog 78 #[.agg #[v]] w fun e w' => e = .returned (.bool (treOk xs)) ∧ Below w.heap.size w w' := by
  obtain ⟨ao, cap, rfl, h1, h2, _⟩ := h.form
  have HX := hide hx
  have hR : Hid (SRow (w.alloc (.cells #[.slice ao xs.length cap] 32)) (.slice ao xs.length cap) xs) := h.below ((Below.refl _ _).alloc (Nat.le_refl _) _)
  have hW : Hid (Below w.heap.size w (w.alloc (.cells #[.slice ao xs.length cap] 32))) := (Below.refl _ _).alloc (Nat.le_refl _) _
  unfold maxLen at h2
  clear h hx
  by_cases hl : xs.length = 15
  · rw [hl] at hR hW h1 ⊢
    have HL := hide hl
    clear hl
    go_enter Tryz.func78, Tryz.ntmps78
    go_wp2_with fail
    go_loopw [12] (fun i wr => ∃ k : Nat, k ≤ 15 ∧ i = .int .i64 (k : Int) ∧ Hid (∀ j, j < k → keyOk (xs.getD j ByteArray.empty) = true) ∧ Hid (Below (w.heap.size + 1) (w.alloc (.cells #[.slice ao 15 cap] 32)) wr)) (fun i _ => 15 - (intOf i).toNat)
    case atStart => exact ⟨0, by omega, rfl, fun j hj => by omega, Below.refl _ _⟩
    case round =>
      obtain ⟨k, hk, rfl, hN, hL⟩ := hrel
      have hle := hL.out.size
      rw [World.size_alloc] at hle
      by_cases hlt : k < 15
      · have hlt2 : (k : Int) < 15 := by omega
        have i3 : IntKind.i64.wrap ((k : Int) + 1) = (k : Int) + 1 := by simp [IntKind.wrap, IntKind.bits, IntKind.signed]; omega
        obtain ⟨ao', c1, q1, _, _, q2⟩ := (SRow.below (unhide hR) (by rw [World.size_alloc]; exact unhide hL)).form
        rw [HL.out] at q1 q2
        simp only [Value.slice.injEq] at q1
        obtain ⟨rfl, _, rfl⟩ := q1
        obtain ⟨a, rfl, hck⟩ := q2 k hlt
        clear q2
        have hsz : Hid ((xs.getD k ByteArray.empty).size ≤ maxLen) := HX.out _ (getD_mem (by have := HL.out; omega))
        have hYes : Hid (keyOk (xs.getD k ByteArray.empty) = true → ∀ j, j < k + 1 → keyOk (xs.getD j ByteArray.empty) = true) := by
          intro ht j hj
          by_cases hjk : j = k
          · subst hjk; exact ht
          · exact hN j (by omega)
        have hNo : Hid (keyOk (xs.getD k ByteArray.empty) = false → treOk xs = false) := treOk_bad (by have := HL.out; omega)
        have hKO := hide (keyOk_op (xs.getD k ByteArray.empty))
        generalize xs.getD k ByteArray.empty = y at hck hsz hYes hNo hKO
        by_cases hy : y = ByteArray.empty
        · have hN1 := hide (hYes.out (by rw [hKO.out]; simp [hy]))
          have hne : y.toList = [] := by rw [hy]; exact nil_text
          have hne2 : y.toList.isEmpty = true := by rw [hne]; rfl
          clear hy hYes hNo hKO
          go_wp2_with fail
          go_roundw
          case rel => exact ⟨k + 1, by omega, by simp, hN1, hL⟩
          case measure => simp [intOf]; omega
        · have hne : ¬ y.toList = [] := no_text hy
          have hne2 : y.toList.isEmpty = false := by simpa using hne
          have HY := hide hy
          clear hy
          go_wp2_with fail
          refine (isKey_any y _ hsz.out).mono ?_
          cases hd : decide (mOp y = 3) with
          | true =>
            rintro e w1 ⟨rfl, hb1⟩
            have hN1 := hide (hYes.out (by rw [hKO.out, hd]; simp))
            have hL1 := hide ((unhide hL).trans (hb1.mono hle))
            clear hd hb1 hL hYes hNo hKO
            go_wp2_with fail
            go_roundw
            case rel => exact ⟨k + 1, by omega, by simp, hN1, hL1⟩
            case measure => simp [intOf]; omega
          | false =>
            rintro e w1 ⟨rfl, hb1⟩
            have hF := hide (hNo.out (by rw [hKO.out, hd]; simpa using HY.out))
            have hL1 := hide ((unhide hL).trans (hb1.mono hle))
            clear hd hb1 hL hYes hNo hKO
            go_wp2_with fail
            go_ret
            exact ⟨ret_bool' hF.out.symm, (unhide hW).trans ((unhide hL1).mono (by omega))⟩
      · have hlt2 : decide ((k : Int) < 15) = false := by simp; omega
        have hF : Hid (treOk xs = true) := treOk_good HL.out (fun j hj => hN j (by omega))
        go_wp2_with fail
        go_ret
        exact ⟨ret_bool' hF.out.symm, (unhide hW).trans ((unhide hL).mono (by omega))⟩
  · have hl2 : ((xs.length : Int) == 15) = false := by simp; omega
    have hF : Hid (treOk xs = false) := treOk_short hl
    clear hl
    go_enter Tryz.func78, Tryz.ntmps78
    go_wp2_with fail
    go_ret
    exact ⟨ret_bool' hF.out.symm, unhide hW⟩

set_option maxRecDepth 100000 in
set_option maxHeartbeats 2000000 in
theorem sTreOk_any (v : Value) (xs : List ByteArray) (w : World) (h : SRow w v xs) (hx : ∀ x ∈ xs, x.size ≤ maxLen) :
    Calls Tryz.prog 42 #[.agg #[v]] w fun e w' => e = .returned (.bool (treOk xs)) ∧ Below w.heap.size w w' := by
  obtain ⟨ao, cap, rfl, h1, h2, _⟩ := h.form
  have HX := hide hx
  have hR : Hid (SRow (w.alloc (.cells #[.slice ao xs.length cap] 32)) (.slice ao xs.length cap) xs) := h.below ((Below.refl _ _).alloc (Nat.le_refl _) _)
  have hW : Hid (Below w.heap.size w (w.alloc (.cells #[.slice ao xs.length cap] 32))) := (Below.refl _ _).alloc (Nat.le_refl _) _
  have hbx : Hid ((w.alloc (.cells #[.slice ao xs.length cap] 32)).cell? ⟨w.heap.size, 0, none⟩ = some (.slice ao xs.length cap)) := by show _ = _; simp [go_sem]
  unfold maxLen at h2
  clear h hx
  by_cases hl : xs.length = 15
  · rw [hl] at hR hW h1 hbx ⊢
    have HL := hide hl
    clear hl
    go_enter Tryz.func42, Tryz.ntmps42
    go_wp2_with fail
    go_loopw [3] (fun i wr => ∃ k : Nat, k ≤ 15 ∧ i = .int .i64 (k : Int) ∧ Hid (∀ j, j < k → keyOk (xs.getD j ByteArray.empty) = true) ∧ Hid (Below (w.heap.size + 1) (w.alloc (.cells #[.slice ao 15 cap] 32)) wr)) (fun i _ => 15 - (intOf i).toNat)
    case atStart => exact ⟨0, by omega, rfl, fun j hj => by omega, Below.refl _ _⟩
    case round =>
      obtain ⟨k, hk, rfl, hN, hL⟩ := hrel
      have hle := hL.out.size
      rw [World.size_alloc] at hle
      have hb0 : wr.cell? ⟨w.heap.size, 0, none⟩ = some (.slice ao 15 cap) := ((unhide hL).cell (p := ⟨w.heap.size, 0, none⟩) (by simp)).trans hbx.out
      by_cases hlt : k < 15
      · have hlt2 : (k : Int) < 15 := by omega
        have i3 : IntKind.i64.wrap ((k : Int) + 1) = (k : Int) + 1 := by simp [IntKind.wrap, IntKind.bits, IntKind.signed]; omega
        obtain ⟨ao', c1, q1, _, _, q2⟩ := (SRow.below (unhide hR) (by rw [World.size_alloc]; exact unhide hL)).form
        rw [HL.out] at q1 q2
        simp only [Value.slice.injEq] at q1
        obtain ⟨rfl, _, rfl⟩ := q1
        obtain ⟨a, rfl, hck⟩ := q2 k hlt
        clear q2
        have hsz : Hid ((xs.getD k ByteArray.empty).size ≤ maxLen) := HX.out _ (getD_mem (by have := HL.out; omega))
        have hYes : Hid (keyOk (xs.getD k ByteArray.empty) = true → ∀ j, j < k + 1 → keyOk (xs.getD j ByteArray.empty) = true) := by
          intro ht j hj
          by_cases hjk : j = k
          · subst hjk; exact ht
          · exact hN j (by omega)
        have hNo : Hid (keyOk (xs.getD k ByteArray.empty) = false → treOk xs = false) := treOk_bad (by have := HL.out; omega)
        have hKO := hide (keyOk_op (xs.getD k ByteArray.empty))
        have hKD : Hid (keyOk (xs.getD k ByteArray.empty) = (decide (xs.getD k ByteArray.empty = ByteArray.empty) || (Kw.ok (xs.getD k ByteArray.empty) && decide (mOp (xs.getD k ByteArray.empty) = 3)))) := rfl
        generalize xs.getD k ByteArray.empty = y at hck hsz hYes hNo hKO hKD
        by_cases hy : y = ByteArray.empty
        · have hN1 := hide (hYes.out (by rw [hKO.out]; simp [hy]))
          have hne : y.toList = [] := by rw [hy]; exact nil_text
          have hne2 : y.toList.isEmpty = true := by rw [hne]; rfl
          clear hy hYes hNo hKO hKD
          go_wp2_with fail
          go_roundw
          case rel => exact ⟨k + 1, by omega, by simp, hN1, hL⟩
          case measure => simp [intOf]; omega
        · have hne : ¬ y.toList = [] := no_text hy
          have hne2 : y.toList.isEmpty = false := by simpa using hne
          have HY := hide hy
          clear hy
          go_wp2_with fail
          refine (sSecOk_any y _ hsz.out).mono ?_
          cases hd : Kw.ok y with
          | false =>
            rintro e w1 ⟨rfl, hb1⟩
            have hF := hide (hNo.out (by rw [hKD.out, hd]; simpa using HY.out))
            have hL1 := hide ((unhide hL).trans (hb1.mono hle))
            clear hd hb1 hL hYes hNo hKO hKD hb0 hck
            go_wp2_with fail
            go_ret
            exact ⟨ret_bool' hF.out.symm, (unhide hW).trans ((unhide hL1).mono (by omega))⟩
          | true =>
            rintro e w1 ⟨rfl, hb1⟩
            have HD := hide hd
            have hL1 := hide ((unhide hL).trans (hb1.mono hle))
            have hle1 := Nat.le_trans hle hb1.size
            have hb2 := (hb1.cell (p := ⟨w.heap.size, 0, none⟩) (by show w.heap.size < _; omega)).trans hb0
            have hck2 := (hb1.cell (cell_lt hck)).trans hck
            clear hd hb1 hL hb0 hck
            go_wp2_with fail
            refine (l1How_any y _ HD.out).mono ?_
            rw [how_field]
            rintro e w2 ⟨rfl, hb3⟩
            have hL2 := hide ((unhide hL1).trans (hb3.mono hle1))
            have hKD2 : Hid (keyOk y = decide (mOp y = 3)) := by show _ = _; rw [hKO.out]; simp [HY.out]
            clear hb3 hL1 hb2 hck2 hKO hKD
            generalize mOp y = z at hKD2
            have hfl := field_op
            by_cases hz : z = 3
            · have hN1 := hide (hYes.out (by rw [hKD2.out]; simpa using hz))
              subst hz
              clear hYes hNo hKD2
              go_wp2_with fail
              go_roundw
              case rel => exact ⟨k + 1, by omega, by simp, hN1, hL2⟩
              case measure => simp [intOf]; omega
            · have hF := hide (hNo.out (by rw [hKD2.out]; simpa using hz))
              have hz2 : (z != 3) = true := by simpa using hz
              have hz3 : (z == 3) = false := by simpa using hz
              clear hYes hNo hKD2
              go_wp2_with fail
              go_ret
              exact ⟨ret_bool' hF.out.symm, (unhide hW).trans ((unhide hL2).mono (by omega))⟩
      · have hlt2 : decide ((k : Int) < 15) = false := by simp; omega
        have hF : Hid (treOk xs = true) := treOk_good HL.out (fun j hj => hN j (by omega))
        go_wp2_with fail
        go_ret
        exact ⟨ret_bool' hF.out.symm, (unhide hW).trans ((unhide hL).mono (by omega))⟩
  · have hl2 : ((xs.length : Int) == 15) = false := by simp; omega
    have hF : Hid (treOk xs = false) := treOk_short hl
    clear hl
    go_enter Tryz.func42, Tryz.ntmps42
    go_wp2_with fail
    go_ret
    exact ⟨ret_bool' hF.out.symm, unhide hW⟩
#print axioms sTreOk_any
end Go.Proofs.YteiojanamkndmaaGreat
/-
  The specification's l4Key.
-/
namespace Go.Proofs.YteiojanamkndmaaGreat
open Go.RowKit

/-- Whether a text is a key. -/
def keyB (s : ByteArray) : Bool := Kw.ok s && decide (mOp s = 3)

set_option maxRecDepth 100000 in
set_option maxHeartbeats 400000 in
theorem l4Key_any (s : ByteArray) (w : World) (hm : s.size ≤ maxLen) :
    Calls Tryz.prog 44 #[.string s] w fun e w' => e = .returned (.bool (keyB s)) ∧ Below w.heap.size w w' := by
  have M := hide hm
  clear hm
  have HD : Hid (keyB s = (Kw.ok s && decide (mOp s = 3))) := rfl
  go_enter Tryz.func44, Tryz.ntmps44
  go_wp2_with fail
  refine (sSecOk_any s _ M.out).mono ?_
  cases hd : Kw.ok s with
  | false =>
    rintro e w1 ⟨rfl, hb1⟩
    have HE : Hid (keyB s = false) := by show _ = _; rw [HD.out, hd]; rfl
    clear hd
    go_wp2_with fail
    go_ret
    exact ⟨ret_bool' HE.out.symm, hb1⟩
  | true =>
    rintro e w1 ⟨rfl, hb1⟩
    have HB1 := hide hb1
    have HK := hide hd
    have HE : Hid (keyB s = decide (mOp s = 3)) := by show _ = _; rw [HD.out, hd]; rfl
    clear hd hb1
    go_wp2_with fail
    refine (l1How_any s _ HK.out).mono ?_
    rw [how_field]
    rintro e w2 ⟨rfl, hb2⟩
    have HB2 := hide (HB1.out.trans (hb2.mono HB1.out.size))
    have hfl := field_op
    clear hb2
    go_wp2_with fail
    go_ret
    refine ⟨ret_bool' ?_, unhide HB2⟩
    rw [HE.out, Bool.eq_iff_iff]
    simp
#print axioms l4Key_any
end Go.Proofs.YteiojanamkndmaaGreat
/-
  A commit, as a value and in memory; whether it is ok by itself, as plain words.
-/
namespace Go.Proofs.YteiojanamkndmaaGreat
open Go.RowKit

/-- What one who comes is told. -/
structure Wel where
  key : ByteArray
  ik : ByteArray
  is : ByteArray
  sk : ByteArray
  ss : ByteArray
deriving DecidableEq
def Wel.none : Wel := ⟨⟨#[]⟩, ⟨#[]⟩, ⟨#[]⟩, ⟨#[]⟩, ⟨#[]⟩⟩
/-- A commit. -/
structure Cmt where
  sender : Int
  tag : ByteArray
  name : ByteArray
  add : Int
  rem : Int
  leaf : ByteArray
  keys : List ByteArray
  boxes : List Bx
  wel : Wel
deriving DecidableEq
def Cmt.none : Cmt := ⟨0, ⟨#[]⟩, ⟨#[]⟩, 0, 0, ⟨#[]⟩, [], [], Wel.none⟩

abbrev cmtC (se : Int) (tag name : ByteArray) (add rem : Int) (leaf : ByteArray) (ks bs : Value) (k ik is sk ss : ByteArray) : Array Value :=
  #[.int .i64 se, .string tag, .string name, .int .i64 add, .int .i64 rem, .string leaf, ks, bs, .string k, .string ik, .string is, .string sk, .string ss]
abbrev Cmt.cells (c : Cmt) (ks bs : Value) : Array Value := cmtC c.sender c.tag c.name c.add c.rem c.leaf ks bs c.wel.key c.wel.ik c.wel.is c.wel.sk c.wel.ss
abbrev noCmt : Array Value := cmtC 0 ⟨#[]⟩ ⟨#[]⟩ 0 0 ⟨#[]⟩ (.slice none 0 0) (.slice none 0 0) ⟨#[]⟩ ⟨#[]⟩ ⟨#[]⟩ ⟨#[]⟩ ⟨#[]⟩
/-- A value is a commit, its rows to be read. -/
def CmtR (w : World) (v : Value) (c : Cmt) : Prop := ∃ ks bs, v = .agg (c.cells ks bs) ∧ SRow w ks c.keys ∧ BRow w bs c.boxes
theorem CmtR.below {w w' : World} {v : Value} {c : Cmt} (h : CmtR w v c) (hb : Below w.heap.size w w') : CmtR w' v c := by
  obtain ⟨ks, bs, h1, h2, h3⟩ := h
  exact ⟨ks, bs, h1, h2.below hb, h3.below hb⟩

/-- Whether it is one of eight. -/
def oneB (n : Int) : Bool := decide (0 ≤ n) && decide (n ≤ 7)
/-- Whether it is nobody, or another one than who sends. -/
def otherB (n s : Int) : Bool := decide (n = -1) || (oneB n && decide (n ≠ s))
/-- Whether two texts are keys of who comes. -/
def keysOfB (add : Int) (leaf key : ByteArray) : Bool := if add = -1 then decide (leaf = ByteArray.empty) && decide (key = ByteArray.empty) else decide (mOp leaf = 3) && decide (mOp key = 3) && decide (leaf ≠ key)
/-- Whether who comes is told what it needs. -/
def welB (add : Int) (x : Wel) : Bool := if add = -1 then decide (x = Wel.none) else decide (x.ik = x.key) && decide (x.sk = x.key) && Kw.ok x.is && Kw.ok x.ss
/-- Whether a commit is ok by itself. -/
def cmtOk (c : Cmt) : Bool :=
  oneB c.sender && decide (mOp c.name = 1) && decide (c.tag.size + c.name.size ≤ 300) && otherB c.add c.sender && otherB c.rem c.sender && treOk c.keys && (decide (c.boxes.length ≤ 20) && okBoxes c.boxes) && keysOfB c.add c.leaf c.wel.key && welB c.add c.wel

theorem info_cm : (Tryz.prog.info? 43).map (·.size) = some 13 := by kernel_rfl
theorem load_cm {w : World} {b : Nat} {cs : Array Value} (h : Blk w b 43 cs) (hc : cs.size = 13) : (loadVar 43 ⟨b, 0, none⟩).run Tryz.prog w = .ok (.agg cs) w :=
  run_loadVar_row w b _ _ cs (0, 0) _ h Tryz.underlying43 rfl (by rw [hc]; exact info_cm)
end Go.Proofs.YteiojanamkndmaaGreat
/-
  A commit that came in: what it holds.
-/
namespace Go.Proofs.YteiojanamkndmaaGreat
open Go.ChangeShapes Go.WideShapes Go.ChangeAt Go.RowKit

theorem open_srow1 {H : Type} {enc : TypeId × Value → H} {W : World} {held : Bool} {fuel : Nat} {c : Value} {x : DataW H × List MemPlace}
    (hf : DataW.trod enc Tryz.prog W 0 (fun _ => true) held fuel 22 [c] = some x) : ∃ zs, SRow W c zs ∧ ∀ y ∈ zs, y.size ≤ maxLen := by
  rcases open_strings Tryz.underlying22 Tryz.underlying9 (by kernel_rfl) hf with ⟨hcs, _⟩ | ⟨p, l, c', ss, hcs, _⟩
  · simp at hcs
    subst hcs
    exact open_srow (a := none) (len := 0) (cap := 0) (by simpa [Value.cells] using hf)
  · simp at hcs
    subst hcs
    exact open_srow (a := some p) (len := l) (cap := c') (by simpa [Value.cells] using hf)
theorem open_brow1 {H : Type} {enc : TypeId × Value → H} {W : World} {held : Bool} {fuel : Nat} {c : Value} {x : DataW H × List MemPlace}
    (hf : DataW.trod enc Tryz.prog W 0 (fun _ => true) held fuel 23 [c] = some x) : ∃ zs, BRow W c zs ∧ ∀ y ∈ zs, y.1.size ≤ maxLen ∧ y.2.size ≤ maxLen := by
  rcases Deep.open_slice underLB hf with ⟨hcs, _⟩ | ⟨p, l, c', m, n, D, Pl, hcs, _⟩
  · simp at hcs
    subst hcs
    exact open_brow (a := none) (len := 0) (cap := 0) (by simpa [Value.cells] using hf)
  · simp at hcs
    subst hcs
    exact open_brow (a := some p) (len := l) (cap := c') (by simpa [Value.cells] using hf)

/-- A field, read. -/
theorem field_at {H : Type} {enc : TypeId × Value → H} {W : World} {held : Bool} {n : Nat} {cs : List Value} {fs : Array Field}
    (hf : ∀ (i : Nat) (f : Field), fs[i]? = some f → ∃ y, DataW.trod enc Tryz.prog W 0 (fun _ => true) held n f.type ((cs.drop f.offset).take (Tryz.prog.cellsOf f.type)) = some y)
    {i T o z : Nat} (hi : (fs[i]?).map (fun f => (f.type, f.offset)) = some (T, o)) (hz : Tryz.prog.cellsOf T = z) : ∃ y, DataW.trod enc Tryz.prog W 0 (fun _ => true) held n T ((cs.drop o).take z) = some y := by
  cases h : fs[i]? with
  | none => rw [h] at hi; cases hi
  | some f =>
    rw [h] at hi
    simp at hi
    obtain ⟨y, hy⟩ := hf i f h
    rw [hi.1, hi.2, hz] at hy
    exact ⟨y, hy⟩
theorem fields_of {H : Type} {enc : TypeId × Value → H} {W : World} {held : Bool} {fuel t : Nat} {cs : List Value} {fs : Array Field} {x : DataW H × List MemPlace} (ht : Tryz.prog.underlying t = some (.struct fs)) (h : DataW.trod enc Tryz.prog W 0 (fun _ => true) held fuel t cs = some x) :
    ∃ n, ∀ (i : Nat) (f : Field), fs[i]? = some f → ∃ y, DataW.trod enc Tryz.prog W 0 (fun _ => true) held n f.type ((cs.drop f.offset).take (Tryz.prog.cellsOf f.type)) = some y := by
  obtain ⟨xs, n, _, _, _, hlen, hf⟩ := DataW.trod_struct ht h
  refine ⟨n, fun i f hi => ?_⟩
  have hlt : i < xs.length := by rw [hlen]; exact (Array.getElem?_eq_some_iff.1 hi).1
  exact ⟨xs[i], by rw [hf i f hi, List.getElem?_eq_getElem hlt]⟩

theorem cellsI3 : Tryz.prog.cellsOf 3 = 1 := by kernel_rfl
theorem cellsSS1 : Tryz.prog.cellsOf 22 = 1 := by kernel_rfl
theorem cellsBB1 : Tryz.prog.cellsOf 23 = 1 := by kernel_rfl
theorem cellsLC : Tryz.prog.cellsOf 29 = 13 := by kernel_rfl
theorem cellsLW : Tryz.prog.cellsOf 27 = 5 := by kernel_rfl
theorem underI3 : Tryz.prog.underlying 3 = some (.int .i64) := by kernel_rfl

theorem open_int1 {H : Type} {enc : TypeId × Value → H} {W : World} {held : Bool} {fuel : Nat} {c : Value} {x : DataW H × List MemPlace} (hf : DataW.trod enc Tryz.prog W 0 (fun _ => true) held fuel 3 [c] = some x) : ∃ n, c = .int .i64 n := by
  obtain ⟨n, h, _⟩ := DataW.trod_int underI3 hf
  exact ⟨n, by simpa using h⟩
theorem open_str1 {H : Type} {enc : TypeId × Value → H} {W : World} {held : Bool} {fuel : Nat} {c : Value} {x : DataW H × List MemPlace} (hf : DataW.trod enc Tryz.prog W 0 (fun _ => true) held fuel 9 [c] = some x) : ∃ s : ByteArray, c = .string s ∧ s.size ≤ maxLen := by
  obtain ⟨s, h, _, hz⟩ := DataW.trod_string underS9 hf
  exact ⟨s, by simpa using h, hz⟩
theorem open_box1 {H : Type} {enc : TypeId × Value → H} {W : World} {held : Bool} {fuel : Nat} {c d : Value} {x : DataW H × List MemPlace} (hf : DataW.trod enc Tryz.prog W 0 (fun _ => true) held fuel 25 [c, d] = some x) : ∃ s u : ByteArray, c = .string s ∧ d = .string u ∧ s.size ≤ maxLen ∧ u.size ≤ maxLen := by
  obtain ⟨f0, f1, s0, s1, s2, s3, s4⟩ := structLB
  obtain ⟨y0, y1, n', _, _, t0, t1⟩ := trod_struct2 s0 hf
  rw [s1, s3, cellsS9] at t0
  rw [s2, s4, cellsS9] at t1
  simp at t0 t1
  obtain ⟨b0, rfl, z0⟩ := open_str1 t0
  obtain ⟨b1, rfl, z1⟩ := open_str1 t1
  exact ⟨b0, b1, rfl, rfl, z0, z1⟩
theorem open_wel {H : Type} {enc : TypeId × Value → H} {W : World} {held : Bool} {fuel : Nat} {c0 c1 c2 c3 c4 : Value} {x : DataW H × List MemPlace} (hf : DataW.trod enc Tryz.prog W 0 (fun _ => true) held fuel 27 [c0, c1, c2, c3, c4] = some x) :
    ∃ y : Wel, c0 = .string y.key ∧ c1 = .string y.ik ∧ c2 = .string y.is ∧ c3 = .string y.sk ∧ c4 = .string y.ss ∧ y.key.size ≤ maxLen ∧ y.ik.size ≤ maxLen ∧ y.is.size ≤ maxLen ∧ y.sk.size ≤ maxLen ∧ y.ss.size ≤ maxLen := by
  obtain ⟨n, hh⟩ := fields_of Tryz.underlying27 hf
  obtain ⟨y0, t0⟩ := field_at hh (i := 0) (T := 9) (o := 0) rfl cellsS9
  obtain ⟨y1, t1⟩ := field_at hh (i := 1) (T := 25) (o := 1) rfl cellsLB
  obtain ⟨y2, t2⟩ := field_at hh (i := 2) (T := 25) (o := 3) rfl cellsLB
  simp at t0 t1 t2
  obtain ⟨b0, rfl, z0⟩ := open_str1 t0
  obtain ⟨b1, b2, rfl, rfl, z1, z2⟩ := open_box1 t1
  obtain ⟨b3, b4, rfl, rfl, z3, z4⟩ := open_box1 t2
  exact ⟨⟨b0, b1, b2, b3, b4⟩, rfl, rfl, rfl, rfl, rfl, z0, z1, z2, z3, z4⟩

/-- All texts of a commit are such as there are. -/
def CmtFit (c : Cmt) : Prop := (∀ x ∈ c.keys, x.size ≤ maxLen) ∧ (∀ b ∈ c.boxes, b.1.size ≤ maxLen ∧ b.2.size ≤ maxLen) ∧ c.tag.size ≤ maxLen ∧ c.name.size ≤ maxLen ∧ c.leaf.size ≤ maxLen ∧ c.wel.key.size ≤ maxLen ∧ c.wel.ik.size ≤ maxLen ∧ c.wel.is.size ≤ maxLen ∧ c.wel.sk.size ≤ maxLen ∧ c.wel.ss.size ≤ maxLen
theorem open_commit {H : Type} {enc : TypeId × Value → H} {W : World} {held : Bool} {fuel : Nat} {cs : Array Value} {x : DataW H × List MemPlace} (hs : cs.size = Tryz.prog.cellsOf 29)
    (hf : DataW.trod enc Tryz.prog W 0 (fun _ => true) held fuel 29 (Value.cells (.agg cs)).toList = some x) : ∃ (c : Cmt) (ks bs : Value), cs = c.cells ks bs ∧ SRow W ks c.keys ∧ BRow W bs c.boxes ∧ CmtFit c := by
  rw [cellsLC] at hs
  obtain ⟨l⟩ := cs
  match l, hs with
  | [c0, c1, c2, c3, c4, c5, c6, c7, c8, c9, c10, c11, c12], _ =>
    obtain ⟨n, hh⟩ := fields_of Tryz.underlying29 hf
    obtain ⟨y0, t0⟩ := field_at hh (i := 0) (T := 3) (o := 0) rfl cellsI3
    obtain ⟨y1, t1⟩ := field_at hh (i := 1) (T := 9) (o := 1) rfl cellsS9
    obtain ⟨y2, t2⟩ := field_at hh (i := 2) (T := 9) (o := 2) rfl cellsS9
    obtain ⟨y3, t3⟩ := field_at hh (i := 3) (T := 3) (o := 3) rfl cellsI3
    obtain ⟨y4, t4⟩ := field_at hh (i := 4) (T := 3) (o := 4) rfl cellsI3
    obtain ⟨y5, t5⟩ := field_at hh (i := 5) (T := 9) (o := 5) rfl cellsS9
    obtain ⟨y6, t6⟩ := field_at hh (i := 6) (T := 22) (o := 6) rfl cellsSS1
    obtain ⟨y7, t7⟩ := field_at hh (i := 7) (T := 23) (o := 7) rfl cellsBB1
    obtain ⟨y8, t8⟩ := field_at hh (i := 8) (T := 27) (o := 8) rfl cellsLW
    simp [Value.cells] at t0 t1 t2 t3 t4 t5 t6 t7 t8
    obtain ⟨i0, rfl⟩ := open_int1 t0
    obtain ⟨s1, rfl, z1⟩ := open_str1 t1
    obtain ⟨s2, rfl, z2⟩ := open_str1 t2
    obtain ⟨i3, rfl⟩ := open_int1 t3
    obtain ⟨i4, rfl⟩ := open_int1 t4
    obtain ⟨s5, rfl, z5⟩ := open_str1 t5
    obtain ⟨zs, r6, z6⟩ := open_srow1 t6
    obtain ⟨bs, r7, z7⟩ := open_brow1 t7
    obtain ⟨y, rfl, rfl, rfl, rfl, rfl, w1, w2, w3, w4, w5⟩ := open_wel t8
    exact ⟨⟨i0, s1, s2, i3, i4, s5, zs, bs, y⟩, c6, c7, rfl, r6, r7, z6, z7, z1, z2, z5, w1, w2, w3, w4, w5⟩
#print axioms open_commit
end Go.Proofs.YteiojanamkndmaaGreat
/-
  Boxes of the call's own, cell by cell.
-/
namespace Go.Proofs.YteiojanamkndmaaGreat
open Go.RowKit

theorem info_bx : (Tryz.prog.info? 39).map (fun i => (i.zero, i.size, i.bytes)) = some (some (.agg #[.string ⟨#[]⟩, .string ⟨#[]⟩]), 2, 32) := by kernel_rfl
theorem underBx : Tryz.prog.underlying 38 = some (.slice 39) := by kernel_rfl

/-- Boxes, cell by cell. -/
def bcells (bs : List Bx) : List Value := bs.flatMap fun b => [.string b.1, .string b.2]
theorem bcells_snoc (bs : List Bx) (b : Bx) : bcells (bs ++ [b]) = bcells bs ++ [.string b.1, .string b.2] := by simp [bcells]
theorem bcells_get : ∀ (bs : List Bx) (i : Nat), i < bs.length → (bcells bs)[i * 2]? = some (.string (bs.getD i noBx).1) ∧ (bcells bs)[i * 2 + 1]? = some (.string (bs.getD i noBx).2)
  | [], i, h => absurd h (Nat.not_lt_zero _)
  | b :: bs, 0, _ => by simp [bcells]
  | b :: bs, i + 1, h => by
    have := bcells_get bs i (by simpa using h)
    rw [show (i + 1) * 2 = i * 2 + 1 + 1 by omega]
    simpa [bcells] using this

/-- A slice of the call's own holds these boxes. -/
def OwnB (B : Nat) (w : World) (v : Value) (bs : List Bx) : Prop := w.ownsRow B 39 2 v bs.length (bcells bs)
theorem OwnB.brow {B : Nat} {w : World} {v : Value} {bs : List Bx} (h : OwnB B w v bs) : BRow w v bs := by
  rcases h.2 with ⟨h1, h2⟩ | ⟨g, cap, cur, h1, h2, h3, h4, h5, _⟩
  · exact ⟨none, 0, by rw [h1, h2], by omega, by omega, fun i hi => by omega⟩
  · refine ⟨some ⟨g, 0, none⟩, cap, h1, h4, h5, fun i hi => ?_⟩
    have hc := World.ownsRow.cells h (g := g) (by rw [h1]; rfl)
    obtain ⟨p1, p2⟩ := bcells_get bs i hi
    refine ⟨_, rfl, hc _ _ p1, ?_⟩
    rw [Addr.add_lit, Addr.add_lit, Nat.zero_add]
    have := hc _ _ p2
    rw [Addr.add_lit, Nat.zero_add] at this
    exact this

theorem strs_one (xs : List ByteArray) : ∀ u ∈ xs.map Value.string, u.oneCell' = true := by
  intro u hu
  obtain ⟨x, _, rfl⟩ := List.mem_map.1 hu
  rfl
theorem bcells_one (bs : List Bx) : ∀ u ∈ bcells bs, u.oneCell' = true := by
  intro u hu
  unfold bcells at hu
  obtain ⟨b, _, hb⟩ := List.mem_flatMap.1 hu
  simp at hb
  rcases hb with rfl | rfl <;> rfl
theorem bcells_len (bs : List Bx) : (bcells bs).length = bs.length * 2 := by
  induction bs with
  | nil => rfl
  | cons b bs ih => simp [bcells] at ih ⊢; omega
theorem own_empty (B : Nat) (w : World) (h : B ≤ w.heap.size) : Own B (w.alloc (Obj.cells #[] 9)) (.slice (some ⟨w.heap.size, 0, none⟩) 0 0) [] :=
  World.ownsRow_made w #[] 0 h (by omega) rfl
end Go.Proofs.YteiojanamkndmaaGreat
/-
  The laws' own helpers over rows of boxes: how great one is, a copy of one, whether two are the same.
-/
namespace Go.Proofs.YteiojanamkndmaaGreat
open Go.RowKit

def bv (b : Bx) : Value := .agg #[.string b.1, .string b.2]

set_option maxHeartbeats 400000 in
theorem szKnwBox_any (b : Bx) (left : Int) (w : World) (h1 : b.1.size ≤ maxLen) (h2 : b.2.size ≤ maxLen) (hl : 0 ≤ left) (hl2 : left ≤ 1048576) :
    Calls Tryz.prog 39 #[.agg #[.string b.1, .string b.2], .int .i64 left] w fun e w' => ∃ r : Int, e = .returned (.int .i64 r) ∧ r ≤ left ∧ (0 ≤ r → (b.1.size : Int) ≤ left ∧ (b.2.size : Int) ≤ left) ∧ Below w.heap.size w w' := by
  unfold maxLen at h1 h2
  have HBA : Hid (Below w.heap.size w (w.alloc (.cells #[.string b.1, .string b.2] 25))) := (Below.refl _ _).alloc (Nat.le_refl _) _
  by_cases hn : left - (b.1.size : Int) < 0
  · go_enter Tryz.func39, Tryz.ntmps39
    go_wp2_with fail
    go_ret
    exact ⟨-1, rfl, by omega, by omega, unhide HBA⟩
  have hn2 : decide (left - (b.1.size : Int) < 0) = false := by simpa using hn
  by_cases hm : left - (b.1.size : Int) - (b.2.size : Int) < 0
  · go_enter Tryz.func39, Tryz.ntmps39
    go_wp2_with fail
    go_ret
    exact ⟨-1, rfl, by omega, by omega, unhide HBA⟩
  have hm2 : decide (left - (b.1.size : Int) - (b.2.size : Int) < 0) = false := by simpa using hm
  go_enter Tryz.func39, Tryz.ntmps39
  go_wp2_with fail
  go_ret
  exact ⟨_, rfl, by omega, fun _ => by omega, unhide HBA⟩

set_option maxHeartbeats 1000000 in
theorem szKnwBoxS_any (v : Value) (bs : List Bx) (left : Int) (w : World) (h : BRow w v bs) (hx : ∀ b ∈ bs, b.1.size ≤ maxLen ∧ b.2.size ≤ maxLen) (hl : 0 ≤ left) (hl2 : left ≤ 1048576) :
    Calls Tryz.prog 14 #[v, .int .i64 left] w fun e w' => ∃ r : Int, e = .returned (.int .i64 r) ∧ r ≤ left ∧ (0 ≤ r → (bs.length : Int) ≤ left) ∧ Below w.heap.size w w' := by
  have hR := hide h
  have HX := hide hx
  obtain ⟨ao, cap, rfl, h1, h2, _⟩ := h
  unfold maxLen at h2
  clear hx
  by_cases hn : left - (bs.length : Int) < 0
  · go_enter Tryz.func14, Tryz.ntmps14
    go_wp2_with fail
    go_ret
    exact ⟨-1, rfl, by omega, by omega, Below.refl _ _⟩
  have hn2 : decide (left - (bs.length : Int) < 0) = false := by simpa using hn
  go_enter Tryz.func14, Tryz.ntmps14
  go_wp2_with fail
  go_loopw [1, 5] (fun l i wr => ∃ (k : Nat) (L : Int), k ≤ bs.length ∧ i = .int .i64 (k : Int) ∧ l = .int .i64 L ∧ 0 ≤ L ∧ L ≤ left ∧ Hid (Below w.heap.size w wr)) (fun _ i _ => bs.length - (intOf i).toNat)
  case atStart => exact ⟨0, left - bs.length, by omega, rfl, rfl, by omega, by omega, Below.refl _ _⟩
  case round =>
    obtain ⟨k, L, hk, rfl, rfl, hL0, hL1, hB⟩ := hrel
    have hle := hB.out.size
    by_cases hlt : k < bs.length
    · have hlt2 : (k : Int) < (bs.length : Int) := by omega
      obtain ⟨bo', c1, q1, _, _, q2⟩ := BRow.below (unhide hR) (unhide hB)
      simp only [Value.slice.injEq] at q1
      obtain ⟨rfl, z1, rfl⟩ := q1
      clear z1
      obtain ⟨a, rfl, hca, hcb⟩ := q2 k hlt
      rw [add_one] at hcb
      clear q2
      have M : Hid ((bs.getD k noBx).1.size ≤ maxLen ∧ (bs.getD k noBx).2.size ≤ maxLen) := HX.out _ (getB_mem hlt)
      have i3 : IntKind.i64.wrap ((k : Int) + 1) = (k : Int) + 1 := by simp [IntKind.wrap, IntKind.bits, IntKind.signed]; omega
      generalize bs.getD k noBx = y at hca hcb M
      go_wp2_with fail
      refine (szKnwBox_any y L _ M.out.1 M.out.2 hL0 (by omega)).mono ?_
      rintro e w1 ⟨r, rfl, hr1, _, hb1⟩
      have hB1 := hide ((unhide hB).trans (hb1.mono hle))
      clear hb1 hB hca hcb
      by_cases hneg : r < 0
      · go_wp2_with fail
        go_ret
        exact ⟨-1, rfl, by omega, by omega, unhide hB1⟩
      · have hneg2 : decide (r < 0) = false := by simpa using hneg
        go_wp2_with fail
        go_roundw
        case rel => exact ⟨k + 1, r, by omega, by simp, rfl, by omega, by omega, hB1⟩
        case measure => simp [intOf]; omega
    · have hlt2 : decide ((k : Int) < (bs.length : Int)) = false := by simp; omega
      go_wp2_with fail
      go_ret
      exact ⟨L, rfl, by omega, fun _ => by omega, unhide hB⟩

set_option maxRecDepth 100000 in
set_option maxHeartbeats 400000 in
theorem toKnwBox_any (b : Bx) (w : World) : Calls Tryz.prog 51 #[.agg #[.string b.1, .string b.2]] w fun e w' => e = .returned (.agg #[.string b.1, .string b.2]) ∧ Below w.heap.size w w' := by
  go_enter Tryz.func51, Tryz.ntmps51
  go_wp2_with fail
  refine bodyPost_ret (v := .agg #[.string b.1, .string b.2]) (by simp [results, Tryz.results51, go_sem]) rfl ⟨rfl, ?_⟩
  exact (((Below.refl w.heap.size w).alloc (Nat.le_refl _) _).alloc (by simp) _).alloc (by simp; omega) _

set_option maxHeartbeats 400000 in
theorem eqKnwBox_any (b c : Bx) (w : World) : Calls Tryz.prog 69 #[.agg #[.string b.1, .string b.2], .agg #[.string c.1, .string c.2]] w fun e w' => e = .returned (.bool (decide (b = c))) ∧ Below w.heap.size w w' := by
  have HBA : Hid (Below w.heap.size w ((w.alloc (.cells #[.string b.1, .string b.2] 39)).alloc (.cells #[.string c.1, .string c.2] 39))) := ((Below.refl _ _).alloc (Nat.le_refl _) _).alloc (by simp) _
  obtain ⟨b1, b2⟩ := b
  obtain ⟨c1, c2⟩ := c
  simp only
  by_cases h1 : b1 = c1
  · subst h1
    by_cases h2 : b2 = c2
    · subst h2
      have hE : decide ((b1, b2) = (b1, b2)) = true := by simp
      go_enter Tryz.func69, Tryz.ntmps69
      go_wp2_with fail
      go_ret
      exact ⟨by first | exact ret_bool' hE.symm | rfl, unhide HBA⟩
    · have hE : decide ((b1, b2) = (b1, c2)) = false := by simp [h2]
      have hnk : (b2.toList == c2.toList) = false := by
        cases q : (b2.toList == c2.toList) with
        | false => rfl
        | true => exact absurd (toList_eq.1 q) h2
      go_enter Tryz.func69, Tryz.ntmps69
      go_wp2_with fail
      go_ret
      exact ⟨by first | exact ret_bool' hE.symm | rfl, unhide HBA⟩
  · have hE : decide ((b1, b2) = (c1, c2)) = false := by simp [h1]
    have hnk : (b1.toList == c1.toList) = false := by
      cases q : (b1.toList == c1.toList) with
      | false => rfl
      | true => exact absurd (toList_eq.1 q) h1
    go_enter Tryz.func69, Tryz.ntmps69
    go_wp2_with fail
    go_ret
    exact ⟨by first | exact ret_bool' hE.symm | rfl, unhide HBA⟩

#print axioms szKnwBoxS_any
#print axioms eqKnwBox_any
end Go.Proofs.YteiojanamkndmaaGreat
/-
  The laws' own helpers over rows of boxes: a copy of a row, whether two rows are the same.
-/
namespace Go.Proofs.YteiojanamkndmaaGreat
open Go.RowKit

/-- The first k boxes, cell by cell, and as many empty ones as there are more. -/
def partB (bs : List Bx) (k : Nat) : List Value := bcells (bs.take k) ++ bcells (List.replicate (bs.length - k) (⟨#[]⟩, ⟨#[]⟩))
theorem partB_all (bs : List Bx) : partB bs bs.length = bcells bs := by unfold partB; simp [bcells]
theorem partB_eq (bs : List Bx) (k : Nat) : partB bs k = bcells (bs.take k ++ List.replicate (bs.length - k) (⟨#[]⟩, ⟨#[]⟩)) := by unfold partB; simp [bcells]
theorem bcells_set : ∀ (cs : List Bx) (k : Nat) (b : Bx), k < cs.length → ((bcells cs).set (k * 2) (.string b.1)).set (k * 2 + 1) (.string b.2) = bcells (cs.set k b)
  | [], k, _, h => absurd h (Nat.not_lt_zero _)
  | c :: cs, 0, b, _ => by simp [bcells]
  | c :: cs, k + 1, b, h => by
    have := bcells_set cs k b (by simpa using h)
    rw [show (k + 1) * 2 = k * 2 + 1 + 1 by omega]
    simpa [bcells] using this
theorem part_set2 (bs : List Bx) (k : Nat) (h : k < bs.length) : (bs.take k ++ List.replicate (bs.length - k) ((⟨#[]⟩, ⟨#[]⟩) : Bx)).set k (bs.getD k noBx) = bs.take (k + 1) ++ List.replicate (bs.length - (k + 1)) (⟨#[]⟩, ⟨#[]⟩) := by
  apply List.ext_getElem?
  intro i
  rw [List.getElem?_set]
  simp only [List.length_append, List.length_take, List.length_replicate]
  by_cases hik : k = i
  · subst hik
    rw [if_pos rfl, if_pos (by omega), List.getElem?_append_left (by simp; omega)]
    simp [h]
  · rw [if_neg hik]
    by_cases hlt : i < k
    · rw [List.getElem?_append_left (by simp; omega), List.getElem?_append_left (by simp; omega)]
      simp [hlt, show i < k + 1 by omega]
    · rw [List.getElem?_append_right (by simp; omega), List.getElem?_append_right (by simp; omega)]
      simp only [List.length_take, List.getElem?_replicate]
      congr 1
      simp
      omega
theorem partB_set (bs : List Bx) (k : Nat) (h : k < bs.length) : ((partB bs k).set (k * 2) (.string (bs.getD k noBx).1)).set (k * 2 + 1) (.string (bs.getD k noBx).2) = partB bs (k + 1) := by
  rw [partB_eq, partB_eq, bcells_set _ _ _ (by simp; omega), part_set2 bs k h]
theorem partB_at (bs : List Bx) (k : Nat) (h : k < bs.length) : (partB bs k)[k * 2]? = some (.string ⟨#[]⟩) ∧ (partB bs k)[k * 2 + 1]? = some (.string ⟨#[]⟩) := by
  rw [partB_eq]
  have := bcells_get (bs.take k ++ List.replicate (bs.length - k) (⟨#[]⟩, ⟨#[]⟩)) k (by simp; omega)
  have e : (bs.take k ++ List.replicate (bs.length - k) ((⟨#[]⟩, ⟨#[]⟩) : Bx)).getD k noBx = (⟨#[]⟩, ⟨#[]⟩) := by
    rw [List.getD_eq_getElem?_getD, List.getElem?_append_right (by simp; omega)]
    simp only [List.length_take, List.getElem?_replicate]
    rw [if_pos (by omega)]; rfl
  rw [e] at this
  exact this

theorem made_part (bs : List Bx) : (madeCells #[Value.string ⟨#[]⟩, Value.string ⟨#[]⟩] (bs.length * 2)).toList = partB bs 0 := by
  have e : ∀ n, bcells (List.replicate n ((⟨#[]⟩, ⟨#[]⟩) : Bx)) = List.replicate (n * 2) (Value.string ⟨#[]⟩) := by
    intro n
    induction n with
    | zero => rfl
    | succ n ih =>
      rw [List.replicate_succ, show (n + 1) * 2 = n * 2 + 1 + 1 by omega, List.replicate_succ, List.replicate_succ, ← ih]; rfl
  unfold partB
  rw [List.take_zero, Nat.sub_zero, e, show bcells [] = [] from rfl, List.nil_append]
  apply List.ext_getElem?
  intro i
  simp [madeCells]
  by_cases hi : i < bs.length * 2
  · rcases Nat.mod_two_eq_zero_or_one i with h | h <;> simp [hi, h]
  · simp [hi]

set_option maxRecDepth 100000 in
set_option maxHeartbeats 2000000 in
theorem toKnwBoxS_any (v : Value) (bs : List Bx) (w : World) (h : BRow w v bs) (hl : bs.length ≤ 1048576) :
    Calls Tryz.prog 25 #[v] w fun e w' => ∃ v' : Value, e = .returned v' ∧ OwnB w.heap.size w' v' bs ∧ Below w.heap.size w w' := by
  have hR := hide h
  obtain ⟨ao, cap, rfl, h1, h2, _⟩ := h
  unfold maxLen at h2
  obtain ⟨i0, hi, hz0, hz1, hz2⟩ := info_parts info_bx
  have hI := hide (And.intro hi (And.intro hz0 (And.intro hz1 hz2)))
  have hB2 : Hid (i0.bytes * bs.length ≤ 281474976710656) := by show _ ≤ _; rw [hz2]; omega
  clear hi hz0 hz1 hz2
  go_enter Tryz.func25, Tryz.ntmps25
  go_wp2_with (at_make; refine wpList_make_full _ rfl _ _ 38 rfl w.heap.size 39 i0 (.agg #[.string ⟨#[]⟩, .string ⟨#[]⟩]) 2 underBx (unhide hI).1 (unhide hI).2.1 (unhide hI).2.2.1 _ _ _ _ bs.length rfl rfl rfl rfl (unhide hB2) (by unfold maxLen; omega) (Nat.le_refl _) ?_)
  intro w1 hown hgrow
  have hO1 : Hid (w1.ownsRow w.heap.size 39 2 (.slice (some ⟨w.heap.size, 0, none⟩) bs.length bs.length) bs.length (partB bs 0)) := by
    rw [← made_part]
    exact hown
  have hL1 : Hid (Below w.heap.size w w1) := (Below.refl _ _).grown hgrow (Nat.le_refl _) (fun k hk => by cases hk)
  clear hown hgrow
  go_wp2_with fail
  go_loopw [4] (fun i wr => ∃ k : Nat, k ≤ bs.length ∧ i = .int .i64 (k : Int) ∧ Hid (wr.ownsRow w.heap.size 39 2 (.slice (some ⟨w.heap.size, 0, none⟩) bs.length bs.length) bs.length (partB bs k)) ∧ Hid (Below w.heap.size w wr)) (fun i _ => bs.length - (intOf i).toNat)
  case atStart => exact ⟨0, by omega, rfl, hO1, hL1⟩
  case round =>
    clear hO1 hL1
    obtain ⟨k, hk, rfl, hO, hL⟩ := hrel
    have hle := hL.out.size
    by_cases hlt : k < bs.length
    · have hlt2 : (k : Int) < (bs.length : Int) := by omega
      obtain ⟨bo', c1, q1, _, _, q2⟩ := BRow.below (unhide hR) (unhide hL)
      simp only [Value.slice.injEq] at q1
      obtain ⟨rfl, z1, rfl⟩ := q1
      clear z1
      obtain ⟨a, rfl, hca, hcb⟩ := q2 k hlt
      rw [add_one] at hcb
      clear q2
      have i3 : IntKind.i64.wrap ((k : Int) + 1) = (k : Int) + 1 := by simp [IntKind.wrap, IntKind.bits, IntKind.signed]; omega
      have hps := hide (partB_set bs k hlt)
      have hpa := hide (partB_at bs k hlt)
      generalize bs.getD k noBx = y at hca hcb hps
      go_wp2_with fail
      refine (toKnwBox_any y _).mono ?_
      rintro e w2 ⟨rfl, hb2⟩
      have hO2 := own_below' (unhide hO) hb2
      have hL2 := (unhide hL).trans (hb2.mono hle)
      have hle2 := hL2.size
      have f0 := hO2.frozenAt (k * 2)
      have f1 := hO2.frozenAt (k * 2 + 1)
      have e0 : w2.cell? ⟨w.heap.size, k * 2, none⟩ = some (.string ⟨#[]⟩) := (hO2.cellAt (k * 2) (by omega)).trans hpa.out.1
      have e1 : w2.cell? ⟨w.heap.size, k * 2 + 1, none⟩ = some (.string ⟨#[]⟩) := (hO2.cellAt (k * 2 + 1) (by omega)).trans hpa.out.2
      obtain ⟨s1, s2⟩ := hO2.stored (k * 2) (.string y.1)
      obtain ⟨s3, s4⟩ := s1.stored (k * 2 + 1) (.string y.2)
      rw [hps.out] at s3
      have HS3 := hide s3
      have HL3 : Hid (Below w.heap.size w (((w2.setCell ⟨w.heap.size, k * 2, none⟩ (.string y.1)).setCell ⟨w.heap.size, k * 2 + 1, none⟩ (.string y.2)))) :=
        ((hL2.setCell (p := ⟨w.heap.size, k * 2, none⟩) (Nat.le_refl _) _).setCell (p := ⟨w.heap.size, k * 2 + 1, none⟩) (Nat.le_refl _) _)
      clear s1 s2 s3 s4 hO2 hL2 hb2 hca hcb hO hL
      go_wp2_with fail
      go_roundw
      case rel => exact ⟨k + 1, by omega, by simp, HS3, HL3⟩
      case measure => simp [intOf]; omega
    · have hlt2 : decide ((k : Int) < (bs.length : Int)) = false := by simp; omega
      have hkn : k = bs.length := by omega
      subst hkn
      rw [partB_all] at hO
      go_wp2_with fail
      go_ret
      exact ⟨_, rfl, unhide hO, unhide hL⟩

theorem boxes_eq {bs cs : List Bx} (hl : bs.length = cs.length) (h : ∀ j, j < bs.length → bs.getD j noBx = cs.getD j noBx) : bs = cs := by
  apply List.ext_getElem hl
  intro i h1 h2
  have := h i h1
  rw [List.getD_eq_getElem?_getD, List.getElem?_eq_getElem h1, List.getD_eq_getElem?_getD, List.getElem?_eq_getElem h2] at this
  exact this

set_option maxRecDepth 100000 in
set_option maxHeartbeats 2000000 in
theorem eqKnwBoxS_any (v u : Value) (bs : List Bx) (w : World) (h : BRow w v bs) (k : BRow w u bs) :
    Calls Tryz.prog 31 #[v, u] w fun e w' => e = .returned (.bool true) ∧ Below w.heap.size w w' := by
  have hR := hide h
  have hS := hide k
  obtain ⟨ao, cap, rfl, h1, h2, _⟩ := h
  obtain ⟨bo, cap', rfl, h1', h2', _⟩ := k
  unfold maxLen at h2 h2'
  go_enter Tryz.func31, Tryz.ntmps31
  go_wp2_with fail
  go_loopw [5] (fun i wr => ∃ k : Nat, k ≤ bs.length ∧ i = .int .i64 (k : Int) ∧ Hid (Below w.heap.size w wr)) (fun i _ => bs.length - (intOf i).toNat)
  case atStart => exact ⟨0, by omega, rfl, Below.refl _ _⟩
  case round =>
    obtain ⟨k, hk, rfl, hL⟩ := hrel
    have hle := hL.out.size
    by_cases hlt : k < bs.length
    · have hlt2 : (k : Int) < (bs.length : Int) := by omega
      obtain ⟨ao', c1, q1, _, _, q2⟩ := BRow.below (unhide hR) (unhide hL)
      simp only [Value.slice.injEq] at q1
      obtain ⟨rfl, z1, rfl⟩ := q1
      obtain ⟨bo', c2, q3, _, _, q4⟩ := BRow.below (unhide hS) (unhide hL)
      simp only [Value.slice.injEq] at q3
      obtain ⟨rfl, z3, rfl⟩ := q3
      clear z1 z3
      obtain ⟨a, rfl, hca, hcb⟩ := q2 k hlt
      obtain ⟨b, rfl, hda, hdb⟩ := q4 k hlt
      rw [add_one] at hcb hdb
      clear q2 q4
      have i3 : IntKind.i64.wrap ((k : Int) + 1) = (k : Int) + 1 := by simp [IntKind.wrap, IntKind.bits, IntKind.signed]; omega
      generalize bs.getD k noBx = y at hca hcb hda hdb
      go_wp2_with fail
      go_region_held3 (fun w' => w'.cell? (a.add (k * 2)) = some (.string y.1) ∧ w'.cell? ⟨(a.add (k * 2)).block, (a.add (k * 2)).off + 1, none⟩ = some (.string y.2) ∧ w'.cell? (b.add (k * 2)) = some (.string y.1) ∧ w'.cell? ⟨(b.add (k * 2)).block, (b.add (k * 2)).off + 1, none⟩ = some (.string y.2))
        ((first | exact ⟨hca, hcb, hda, hdb⟩ | exact ⟨pca, pcb, pda, pdb⟩))
        ((go_at_call 69; refine (eqKnwBox_any y y wr.drew).mono ?_; rw [show decide (y = y) = true by simp]; rintro e w2 ⟨rfl, hb2⟩; have pca := (hb2.cell (cell_lt hca)).trans hca; have pcb := (hb2.cell (cell_lt hcb)).trans hcb; have pda := (hb2.cell (cell_lt hda)).trans hda; have pdb := (hb2.cell (cell_lt hdb)).trans hdb; have hL2 : Hid (Below w.heap.size w w2) := ((unhide hL).drew).trans (hb2.mono hle); clear hb2))
      go_wp2_with fail
      go_roundw
      case rel => exact ⟨k + 1, by omega, by simp, hL2⟩
      case measure => simp [intOf]; omega
    · have hlt2 : decide ((k : Int) < (bs.length : Int)) = false := by simp; omega
      go_wp2_with fail
      go_ret
      exact ⟨rfl, unhide hL⟩
#print axioms toKnwBoxS_any
#print axioms eqKnwBoxS_any
end Go.Proofs.YteiojanamkndmaaGreat
