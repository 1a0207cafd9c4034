/-
  The program's queue of shut boxes: how many wait; the first one is taken.
-/
import Derived.Test.YtjdpabiodalfkaaQueue
namespace Go.Proofs.Ytjdpabiodalfkaa
open Go.RowKit

set_option maxHeartbeats 400000 in
theorem qsize_any {B : Nat} {w : World} {qb : Nat} {v : Value} {xs : List Item} (h : QAt B w qb v xs) :
    Calls Try.prog 95 #[.pointer (some ⟨qb, 0, none⟩)] w fun e w' => e = .returned (.int .i64 (xs.length : Int)) ∧ Below w.heap.size w w' := by
  have c0 := h.c0
  obtain ⟨ao, cap, hv⟩ := h.own.form
  subst hv
  clear h
  go_enter Try.func95, Try.ntmps95
  go_wp2_with fail
  go_ret
  exact ⟨rfl, Below.refl _ _⟩

/-- The rest of a row. -/
theorem ownsAt.tail {w : World} {B : Nat} {g off n cap : Nat} {x : Item} {xs : List Item} (h : ownsAt w B 117 3 (.slice (some ⟨g, off, none⟩) (n + 1) cap) (n + 1) (flat (x :: xs))) :
    ownsAt w B 117 3 (.slice (some (if cap = 1 then ⟨g, off, none⟩ else ⟨g, off + 3, none⟩)) n (cap - 1)) n (flat xs) := by
  obtain ⟨h0, h1⟩ := h
  rcases h1 with ⟨h1, _⟩ | ⟨g', off', cap', cur, h1, h2, h3, h4, h5, h6, h7⟩
  · cases h1
  · simp only [Value.slice.injEq, Option.some.injEq, Addr.mk.injEq, and_true, true_and] at h1
    obtain ⟨⟨rfl, rfl⟩, rfl⟩ := h1
    have hxl : (flat xs).length = n * 3 := by rw [flat_cons, List.length_append] at h0; simp at h0; omega
    refine ⟨hxl, .inr ?_⟩
    by_cases hc : cap = 1
    · have hn : n = 0 := by omega
      subst hn
      refine ⟨g, off, cap - 1, cur, by simp [hc], h2, h3, by omega, by omega, by omega, ?_⟩
      have := List.eq_nil_of_length_eq_zero hxl
      simp [this]
    · refine ⟨g, off + 3, cap - 1, cur, by simp [hc], h2, h3, by omega, by omega, by omega, ?_⟩
      rw [flat_cons] at h7
      have e : (cur.toList.drop (off + 3)).take (n * 3) = ((cur.toList.drop off).take ((n + 1) * 3)).drop 3 := by
        rw [List.drop_take, List.drop_drop]
        congr 1
        omega
      rw [e, h7]
      simp

theorem ownsAt.head {w : World} {B : Nat} {g off n cap : Nat} {x : Item} {xs : List Item} (h : ownsAt w B 117 3 (.slice (some ⟨g, off, none⟩) (n + 1) cap) (n + 1) (flat (x :: xs))) :
    w.cell? ⟨g, off, none⟩ = some (.string x.key) ∧ w.cell? ⟨g, off + 1, none⟩ = some x.from_ ∧ w.cell? ⟨g, off + 2, none⟩ = some (.string x.secret) ∧ n + 1 ≤ cap ∧ cap ≤ maxLen ∧ B ≤ g ∧ ∃ cur, w.heap[g]? = some (.cells cur 117 (0, 0)) := by
  obtain ⟨h0, h1⟩ := h
  rcases h1 with ⟨h1, _⟩ | ⟨g', off', cap', cur, h1, h2, h3, h4, h5, h6, h7⟩
  · cases h1
  · simp only [Value.slice.injEq, Option.some.injEq, Addr.mk.injEq, and_true, true_and] at h1
    obtain ⟨⟨rfl, rfl⟩, rfl⟩ := h1
    have hget : ∀ j, j < 3 → cur[off + j]? = (flat (x :: xs))[j]? := by
      intro j hj
      rw [← h7, List.getElem?_take, if_pos (by omega), List.getElem?_drop]
      simp
    refine ⟨?_, ?_, ?_, h4, h5, h2, cur, h3⟩
    · rw [cell_of_row _ _ _ _ _ _ h3]; simpa [flat_cons] using hget 0 (by omega)
    · rw [cell_of_row _ _ _ _ _ _ h3]; simpa [flat_cons] using hget 1 (by omega)
    · rw [cell_of_row _ _ _ _ _ _ h3]; simpa [flat_cons] using hget 2 (by omega)

/-- What take leaves: the first one, and the queue without it. -/
def Take (B qb : Nat) (x : Item) (xs : List Item) (w : World) (e : Ending) (w' : World) : Prop := ∃ v', e = .returned x.val ∧ QAt B w' qb v' xs ∧ Below B w w' ∧ Keep noQ w w'

theorem take_world {B : Nat} {w : World} {qb : Nat} {v v' : Value} {x : Item} {xs : List Item} {o1 o2 : Obj} (h : QAt B w qb v (x :: xs)) (hB : B ≤ qb) (ht : ownsAt w B 117 3 v' xs.length (flat xs)) :
    QAt B (((w.setCell ⟨qb, 0, none⟩ v').alloc o1).alloc o2) qb v' xs ∧ Below B w (((w.setCell ⟨qb, 0, none⟩ v').alloc o1).alloc o2) ∧ Keep noQ w (((w.setCell ⟨qb, 0, none⟩ v').alloc o1).alloc o2) := by
  have hlt := h.lt
  have hkw : Keep noQ w (w.setCell ⟨qb, 0, none⟩ v') := by
    refine Keep.setCell ?_
    intro o ho hp
    rw [h.cell] at ho
    cases ho
    exact hp.1 rfl
  have hq : QAt B (w.setCell ⟨qb, 0, none⟩ v') qb v' xs := by
    refine ⟨?_, ?_, ?_⟩
    · rw [heap_setCell_same w qb 0 _ _ v' h.cell]; rfl
    · refine ownsAt.keep ht fun k cur _ _ hc => ?_
      have hne : k ≠ qb := by intro e; rw [e, h.cell] at hc; simp at hc
      rw [Below.heap_setCell _ _ _ _ hne]; exact hc
    · intro y hy
      exact (h.ok y (by simp [hy])).keep hkw (fun cur => ⟨by decide, by decide⟩) (by simp)
  have hbw : Below B w (w.setCell ⟨qb, 0, none⟩ v') := (Below.refl B w).setCell (p := ⟨qb, 0, none⟩) hB v'
  have hba : Below (w.setCell ⟨qb, 0, none⟩ v').heap.size (w.setCell ⟨qb, 0, none⟩ v') (((w.setCell ⟨qb, 0, none⟩ v').alloc o1).alloc o2) := ((Below.refl _ _).alloc (Nat.le_refl _) o1).alloc (by simp) o2
  exact ⟨hq.below hba, hbw.trans (hba.mono (by simp; omega)), hkw.trans (Keep.below hba)⟩

set_option maxRecDepth 100000 in
set_option maxHeartbeats 2000000 in
theorem take_any {B : Nat} {w : World} {qb : Nat} {v : Value} {x : Item} {xs : List Item} (h : QAt B w qb v (x :: xs)) (hB : B ≤ qb) (hl : xs.length ≤ 1000) :
    Calls Try.prog 96 #[.pointer (some ⟨qb, 0, none⟩)] w (Take B qb x xs w) := by
  have HQ := hide h
  have hlt := h.lt
  have hown := h.own
  obtain ⟨xo, xn, xc, hxf⟩ := (h.ok x (by simp)).form
  rcases hown.2 with ⟨hv, hn⟩ | ⟨g, off, cap, cur, hv, _⟩
  · simp at hn
  subst hv
  obtain ⟨k, f, s⟩ := x
  simp only at hxf
  subst hxf
  have hd := ownsAt.head hown
  have ht := hide (ownsAt.tail hown)
  obtain ⟨d0, d1, d2, d3, d4, d5, cur, d6⟩ := hd
  have hglt := (Array.getElem?_eq_some_iff.1 d6).1
  have hgq : g ≠ qb := by intro e; rw [e, h.cell] at d6; simp at d6
  have c0 := h.c0
  have z0 := h.f0
  clear h hown
  simp only [List.length_cons] at c0
  unfold maxLen at d4
  by_cases hcap : cap = 1
  · subst hcap
    rw [if_pos rfl] at ht
    have hxs : xs = [] := List.eq_nil_of_length_eq_zero (by omega)
    subst hxs
    have R := hide (take_world (v' := .slice (some ⟨g, off, none⟩) 0 0) (o1 := .cells #[.string k, .slice xo xn xc, .string s] 117) (o2 := .cells #[.string k, .slice xo xn xc, .string s] 117) (unhide HQ) hB (unhide ht))
    clear ht
    go_enter Try.func96, Try.ntmps96
    go_wp2_with fail
    exact bodyPost_ret (v := .agg #[.string k, .slice xo xn xc, .string s]) (by simp [results, Try.results96, go_sem]) rfl ⟨_, rfl, R.out⟩
  · rw [if_neg hcap] at ht
    have R := hide (take_world (o1 := .cells #[.string k, .slice xo xn xc, .string s] 117) (o2 := .cells #[.string k, .slice xo xn xc, .string s] 117) (unhide HQ) hB (unhide ht))
    clear ht
    go_enter Try.func96, Try.ntmps96
    go_wp2_with fail
    exact bodyPost_ret (v := .agg #[.string k, .slice xo xn xc, .string s]) (by simp [results, Try.results96, go_sem]) rfl ⟨_, rfl, R.out⟩
#print axioms take_any
end Go.Proofs.Ytjdpabiodalfkaa
