/-
  The tree, plain: what covers covers each once; what is set, cleared, set again; trees that stay ok. No Go function in it.
-/
import Derived.Test.YtkcopldlobomhaaTre0
import Derived.Test.YtkcopldlobomhaaTreD
import Derived.Test.YtkcopldlobomhaaMade3
import Derived.Test.YtkcopldlobomhaaStr0
namespace Go.Proofs.Ytkcopldlobomhaa
open Kw

theorem meets_top : ∀ n, n < 7 → ∀ p, p < 15 → (meets p (2 * n + 1) = 2 * n + 1 → meets p n = n) ∧ (meets p (2 * n + 2) = 2 * n + 2 → meets p n = n) := by decide
/-- What covers has keys, and lies from there down. -/
theorem cover_has (xs : List ByteArray) : ∀ n, n < 15 → ∀ p ∈ cover xs n, p < 15 ∧ keyed xs p = true ∧ meets p n = n := by
  apply down
  · intro n h h' p hp
    cases q : keyed xs n with
    | true => rw [cover_keyed xs n q] at hp; simp at hp; subst hp; exact ⟨h', q, meets_self p h'⟩
    | false => rw [cover_bare xs n q h] at hp; simp at hp
  · intro n h i1 i2 p hp
    cases q : keyed xs n with
    | true => rw [cover_keyed xs n q] at hp; simp at hp; subst hp; exact ⟨by omega, q, meets_self p (by omega)⟩
    | false =>
      rw [cover_both xs n q h] at hp
      rcases List.mem_append.1 hp with hp | hp
      · obtain ⟨a, b, c⟩ := i1 p hp
        exact ⟨a, b, (meets_top n h p a).1 c⟩
      · obtain ⟨a, b, c⟩ := i2 p hp
        exact ⟨a, b, (meets_top n h p a).2 c⟩

/-- How many of some places are above one, or it. -/
def above (ps : List Nat) (l : Nat) : Nat := (ps.filter fun p => decide (meets p l = p)).length
theorem meets_leaf : ∀ n, 7 ≤ n → n < 15 → ∀ l, 7 ≤ l → l < 15 → meets l n = n → l = n := by
  have h : ∀ n, n < 15 → 7 ≤ n → ∀ l, l < 15 → 7 ≤ l → meets l n = n → l = n := by decide
  exact fun n a b l c d => h n b a l d c
theorem meets_sum : ∀ n, n < 7 → ∀ l, l < 15 → 7 ≤ l → (if meets l (2 * n + 1) = 2 * n + 1 then 1 else 0) + (if meets l (2 * n + 2) = 2 * n + 2 then 1 else 0) = if meets l n = n then 1 else 0 := by decide
/-- Each one with a key is covered once, where it lies from there down; where it does not, it is not. -/
theorem cover_count (xs : List ByteArray) (l : Nat) (h7 : 7 ≤ l) (hl : l < 15) (hk : keyed xs l = true) : ∀ n, n < 15 → above (cover xs n) l = if meets l n = n then 1 else 0 := by
  have one : ∀ n, n < 15 → above [n] l = if meets l n = n then 1 else 0 := by
    intro n hn
    unfold above
    rw [meets_comm l hl n hn]
    by_cases h : meets n l = n
    · simp [h]
    · simp [h]
  apply down
  · intro n h h'
    cases q : keyed xs n with
    | true => rw [cover_keyed xs n q]; exact one n h'
    | false =>
      rw [cover_bare xs n q h, if_neg]
      · rfl
      · intro e
        rw [meets_leaf n h h' l h7 hl e, q] at hk
        cases hk
  · intro n h i1 i2
    cases q : keyed xs n with
    | true => rw [cover_keyed xs n q]; exact one n (by omega)
    | false =>
      rw [cover_both xs n q h]
      have e : above (cover xs (2 * n + 1) ++ cover xs (2 * n + 2)) l = above (cover xs (2 * n + 1)) l + above (cover xs (2 * n + 2)) l := by unfold above; rw [List.filter_append, List.length_append]
      rw [e, i1, i2]
      exact meets_sum n h l hl h7

theorem getD_set (xs : List ByteArray) (p k : Nat) (y : ByteArray) : (xs.set p y).getD k ByteArray.empty = if p = k ∧ k < xs.length then y else xs.getD k ByteArray.empty := by
  rw [List.getD_eq_getElem?_getD, List.getD_eq_getElem?_getD, List.getElem?_set]
  by_cases h : p = k
  · subst h
    by_cases h2 : p < xs.length
    · simp [h2]
    · simp [h2]
  · simp [h]

theorem wipe_len (ps : List Nat) : ∀ xs, (wipe xs ps).length = xs.length := by
  induction ps with
  | nil => intro xs; rfl
  | cons p ps ih => intro xs; show (wipe (xs.set p ByteArray.empty) ps).length = _; rw [ih]; simp
theorem wipe_at (ps : List Nat) : ∀ xs k, (wipe xs ps).getD k ByteArray.empty = if k ∈ ps then ByteArray.empty else xs.getD k ByteArray.empty := by
  induction ps with
  | nil => intro xs k; simp [wipe]
  | cons p ps ih =>
    intro xs k
    show (wipe (xs.set p ByteArray.empty) ps).getD k ByteArray.empty = _
    rw [ih, getD_set]
    by_cases h : k ∈ ps
    · simp [h]
    · by_cases h2 : p = k
      · subst h2
        by_cases h3 : p < xs.length
        · simp [h, h3]
        · simp [h, h3]
      · have : ¬ k = p := fun e => h2 e.symm
        simp [h, h2, this]
theorem fill_len (ps : List Nat) : ∀ xs s, (fill xs s ps).length = xs.length := by
  induction ps with
  | nil => intro xs s; rfl
  | cons p ps ih => intro xs s; show (fill (xs.set p (mkKey s)) (mkNext s) ps).length = _; rw [ih]; simp
theorem fill_out (ps : List Nat) : ∀ xs s k, ¬ k ∈ ps → (fill xs s ps).getD k ByteArray.empty = xs.getD k ByteArray.empty := by
  induction ps with
  | nil => intro xs s k _; rfl
  | cons p ps ih =>
    intro xs s k h
    show (fill (xs.set p (mkKey s)) (mkNext s) ps).getD k ByteArray.empty = _
    have h1 : ¬ k = p := fun e => h (by simp [e])
    rw [ih _ _ k (fun e => h (by simp [e])), getD_set, if_neg (fun e => h1 e.1.symm)]
theorem fill_in (ps : List Nat) : ∀ xs ys s k, k ∈ ps → xs.length = ys.length → (fill xs s ps).getD k ByteArray.empty = (fill ys s ps).getD k ByteArray.empty := by
  induction ps with
  | nil => intro xs ys s k h; cases h
  | cons p ps ih =>
    intro xs ys s k h e
    show (fill (xs.set p (mkKey s)) (mkNext s) ps).getD k ByteArray.empty = (fill (ys.set p (mkKey s)) (mkNext s) ps).getD k ByteArray.empty
    by_cases hk : k ∈ ps
    · exact ih _ _ _ k hk (by simp [e])
    · have hkp : k = p := by simpa [hk] using h
      subst hkp
      rw [fill_out _ _ _ _ hk, fill_out _ _ _ _ hk, getD_set, getD_set, e]
      by_cases q : k < ys.length
      · simp [q]
      · rw [if_neg (fun z => q z.2), if_neg (fun z => q z.2), List.getD_eq_getElem?_getD, List.getD_eq_getElem?_getD, List.getElem?_eq_none (by omega), List.getElem?_eq_none (by omega)]

/-- Cleared behind set is cleared. -/
theorem wipe_fill (ps : List Nat) (xs : List ByteArray) (s : ByteArray) : wipe (fill xs s ps) ps = wipe xs ps := by
  apply rows_eq
  · rw [wipe_len, wipe_len, fill_len]
  · intro k _
    rw [wipe_at, wipe_at]
    by_cases h : k ∈ ps
    · simp [h]
    · rw [if_neg h, if_neg h, fill_out _ _ _ _ h]
theorem wipe_twice (ps : List Nat) (xs : List ByteArray) : wipe (wipe xs ps) ps = wipe xs ps := by
  apply rows_eq
  · rw [wipe_len]
  · intro k _
    rw [wipe_at, wipe_at]
    by_cases h : k ∈ ps <;> simp [h]
theorem wipe_swap (ps qs : List Nat) (xs : List ByteArray) : wipe (wipe xs ps) qs = wipe (wipe xs qs) ps := by
  apply rows_eq
  · rw [wipe_len, wipe_len, wipe_len, wipe_len]
  · intro k _
    rw [wipe_at, wipe_at, wipe_at, wipe_at]
    by_cases h : k ∈ ps <;> by_cases h2 : k ∈ qs <;> simp [h, h2]
/-- Set by one, and then by another one. -/
theorem fill_two (ps qs : List Nat) (xs : List ByteArray) (s u : ByteArray) (k : Nat) :
    (fill (fill xs s ps) u qs).getD k ByteArray.empty = if k ∈ qs then (fill xs u qs).getD k ByteArray.empty else (fill xs s ps).getD k ByteArray.empty := by
  by_cases h : k ∈ qs
  · rw [if_pos h]; exact fill_in _ _ _ _ _ h (fill_len _ _ _)
  · rw [if_neg h]; exact fill_out _ _ _ _ h

theorem all_getD {xs : List ByteArray} (p : ByteArray → Bool) : xs.all p = true ↔ ∀ k, k < xs.length → p (xs.getD k ByteArray.empty) = true := by
  rw [List.all_eq_true]
  constructor
  · intro h k hk; exact h _ (getD_mem hk)
  · intro h x hx
    obtain ⟨k, hk, rfl⟩ := mem_getD hx
    exact h k hk
theorem treOk_iff {xs : List ByteArray} : treOk xs = true ↔ xs.length = 15 ∧ ∀ k, k < xs.length → keyOk (xs.getD k ByteArray.empty) = true := by
  unfold treOk
  rw [Bool.and_eq_true, all_getD]
  simp
theorem keyOk_none : keyOk ByteArray.empty = true := by simp [keyOk]
theorem keyOk_set {xs : List ByteArray} {p : Nat} {y : ByteArray} (h : treOk xs = true) (hy : keyOk y = true) : treOk (xs.set p y) = true := by
  obtain ⟨h1, h2⟩ := treOk_iff.1 h
  refine treOk_iff.2 ⟨by simpa using h1, fun k hk => ?_⟩
  rw [List.length_set] at hk
  rw [getD_set]
  split
  · exact hy
  · exact h2 k hk
theorem treOk_wipe (ps : List Nat) : ∀ xs, treOk xs = true → treOk (wipe xs ps) = true := by
  induction ps with
  | nil => intro xs h; exact h
  | cons p ps ih => intro xs h; exact ih _ (keyOk_set h keyOk_none)
theorem keyOk_key {s : ByteArray} (h : ok s = true) (hs : s.size < 300) : keyOk (mkKey s) = true := by
  have m := made_key h hs
  have e : mkKey s = keyT s := by unfold mkKey; rw [if_pos h, cap_self m.1]
  rw [e]
  unfold keyOk
  rw [m.1, m.2.1]
  simp
theorem next_ok {s : ByteArray} (h : ok s = true) (hs : s.size < 300) : ok (mkNext s) = true ∧ (mkNext s).size = s.size + 1 := by
  have m := made_next h hs
  have e : mkNext s = nextT s := by unfold mkNext; rw [if_pos h, cap_self m.1]
  rw [e]
  exact ⟨m.1, by have := next_size s; omega⟩
theorem treOk_fill (ps : List Nat) : ∀ xs s, treOk xs = true → ok s = true → s.size + ps.length ≤ 300 → treOk (fill xs s ps) = true := by
  induction ps with
  | nil => intro xs s h _ _; exact h
  | cons p ps ih =>
    intro xs s h hs hl
    simp only [List.length_cons] at hl
    obtain ⟨n1, n2⟩ := next_ok hs (by omega)
    exact ih _ _ (keyOk_set h (keyOk_key hs (by omega))) n1 (by omega)
#print axioms treOk_fill
end Go.Proofs.Ytkcopldlobomhaa
