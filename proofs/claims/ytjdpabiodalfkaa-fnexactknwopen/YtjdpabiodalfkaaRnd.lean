/-
  A round of the program over the boxes that wait: what is known behind it, and what still waits.
-/
import Derived.Test.YtjdpabiodalfkaaQueue2
import Derived.Test.YtjdpabiodalfkaaCan
import Derived.Test.YtjdpabiodalfkaaNames
import Derived.Test.YtjdpabiodalfkaaOpen
namespace Go.Proofs.Ytjdpabiodalfkaa
open Go.RowKit

/-- A box that waits, as a box. -/
def bx (x : Item) : Bx := (x.key, x.secret)
/-- What waits behind a round. -/
noncomputable def kept : List Item → List ByteArray → List Item
  | [], _ => []
  | x :: xs, L => if has L x.secret = true then kept xs L else if can L x.key = true then kept xs (L ++ [x.secret]) else x :: kept xs L

theorem bstep_has {L : List ByteArray} {b : Bx} (h : has L b.2 = true) : bstep L b = L := by
  unfold bstep; rw [if_neg (by rw [h]; simp)]
theorem bstep_can {L : List ByteArray} {b : Bx} (h : has L b.2 = false) (hc : can L b.1 = true) : bstep L b = L ++ [b.2] := by
  unfold bstep; rw [if_pos ⟨h, hc⟩]
theorem bstep_not {L : List ByteArray} {b : Bx} (hc : can L b.1 = false) : bstep L b = L := by
  unfold bstep; rw [if_neg (by rw [hc]; simp)]
theorem bfold_cons (b : Bx) (bs : List Bx) (L : List ByteArray) : bfold (b :: bs) L = bfold bs (bstep L b) := rfl
theorem bfold_append (cs bs : List Bx) (L : List ByteArray) : bfold (cs ++ bs) L = bfold bs (bfold cs L) := by unfold bfold; rw [List.foldl_append]

theorem kept_append : ∀ (xs ys : List Item) (L : List ByteArray), kept (xs ++ ys) L = kept xs L ++ kept ys (bfold (xs.map bx) L)
  | [], ys, L => rfl
  | x :: xs, ys, L => by
    simp only [List.cons_append, List.map_cons, bfold_cons, kept]
    by_cases h : has L x.secret = true
    · rw [if_pos h, if_pos h, kept_append xs ys L, bstep_has (b := bx x) h]
    · have h' : has L x.secret = false := by simpa using h
      rw [if_neg h, if_neg h]
      by_cases hc : can L x.key = true
      · rw [if_pos hc, if_pos hc, kept_append xs ys, bstep_can (b := bx x) h' hc]; rfl
      · have hc' : can L x.key = false := by simpa using hc
        rw [if_neg hc, if_neg hc, kept_append xs ys L, bstep_not (b := bx x) hc']; rfl

theorem kept_mem : ∀ (xs : List Item) (L : List ByteArray) (x : Item), x ∈ kept xs L → x ∈ xs
  | [], _, _, h => by cases h
  | y :: xs, L, x, h => by
    simp only [kept] at h
    split at h
    · exact List.mem_cons_of_mem _ (kept_mem xs L x h)
    · split at h
      · exact List.mem_cons_of_mem _ (kept_mem xs _ x h)
      · rcases List.mem_cons.1 h with rfl | h
        · simp
        · exact List.mem_cons_of_mem _ (kept_mem xs L x h)
theorem kept_len : ∀ (xs : List Item) (L : List ByteArray), (kept xs L).length ≤ xs.length
  | [], _ => Nat.le_refl _
  | y :: xs, L => by
    simp only [kept]
    have h1 := kept_len xs L
    have h2 := kept_len xs (L ++ [y.secret])
    split
    · simp; omega
    · split
      · simp; omega
      · simp; omega

/-- Boxes without some that hold what is known. -/
inductive Drops (L : List ByteArray) : List Bx → List Bx → Prop
  | nil : Drops L [] []
  | keep {b : Bx} {ks bs : List Bx} : Drops L ks bs → Drops L (b :: ks) (b :: bs)
  | drop {b : Bx} {ks bs : List Bx} : has L b.2 = true → Drops L ks bs → Drops L ks (b :: bs)

theorem Drops.refl (L : List ByteArray) : ∀ bs, Drops L bs bs
  | [] => .nil
  | _ :: bs => .keep (Drops.refl L bs)
theorem Drops.more {L : List ByteArray} {ks bs : List Bx} (h : Drops L ks bs) (t : List ByteArray) : Drops (L ++ t) ks bs := by
  induction h with
  | nil => exact .nil
  | keep _ ih => exact .keep ih
  | drop h _ ih => exact .drop (has_more h) ih
theorem Drops.fold {L : List ByteArray} {ks bs : List Bx} (h : Drops L ks bs) : ∀ t, bfold ks (L ++ t) = bfold bs (L ++ t) := by
  induction h with
  | nil => intro t; rfl
  | @keep b ks bs _ ih =>
    intro t
    rw [bfold_cons, bfold_cons]
    obtain ⟨u, hu⟩ := bstep_pre (L ++ t) b
    rw [hu, List.append_assoc]
    exact ih _
  | @drop b ks bs h _ ih =>
    intro t
    rw [bfold_cons, bstep_has (has_more h)]
    exact ih t
theorem Drops.trans {L : List ByteArray} {js ks bs : List Bx} (h : Drops L ks bs) (k : Drops L js ks) : Drops L js bs := by
  induction h generalizing js with
  | nil => exact k
  | keep _ ih =>
    cases k with
    | keep k => exact .keep (ih k)
    | drop q k => exact .drop q (ih k)
  | drop q _ ih => exact .drop q (ih k)
theorem kept_drops : ∀ (xs : List Item) (L : List ByteArray), Drops (bfold (xs.map bx) L) ((kept xs L).map bx) (xs.map bx)
  | [], L => .nil
  | x :: xs, L => by
    simp only [List.map_cons, bfold_cons, kept]
    by_cases h : has L x.secret = true
    · rw [if_pos h, bstep_has (b := bx x) h]
      obtain ⟨t, ht⟩ := bfold_pre (xs.map bx) L
      refine .drop ?_ (kept_drops xs L)
      rw [ht]; exact has_more h
    · have h' : has L x.secret = false := by simpa using h
      rw [if_neg h]
      by_cases hc : can L x.key = true
      · rw [if_pos hc, bstep_can (b := bx x) h' hc]
        obtain ⟨t, ht⟩ := bfold_pre (xs.map bx) (L ++ [x.secret])
        refine .drop ?_ (kept_drops xs _)
        show has (bfold (xs.map bx) (L ++ [x.secret])) x.secret = true
        rw [ht]; exact has_more (has_iff.2 (by simp))
      · have hc' : can L x.key = false := by simpa using hc
        rw [if_neg hc, bstep_not (b := bx x) hc']
        exact .keep (kept_drops xs L)

theorem SetAt.keep {B : Nat} {p : Obj → Prop} {w w' : World} {ab bm : Nat} {v : Value} {L : List ByteArray} (h : SetAt B w ab bm v L) (hk : Keep p w w') (h1 : ∀ cur, p (.cells cur 66 (0, 0))) (h2 : ∀ cur, p (.cells cur 9 (0, 0)))
    (h3 : ∀ es c, p (.map es c)) : SetAt B w' ab bm v L := by
  refine ⟨hk _ _ h.1 (h1 _), row_same h.2.own (Nat.le_refl _) (fun k cur _ _ hc => hk k _ hc (h2 _)), ?_, h.2.base⟩
  obtain ⟨es, c, hm⟩ := h.2.map.obj
  exact h.2.map.keep ((hk _ _ hm (h3 _ _)).trans hm.symm)

theorem noQ_mk (cur : Array Value) : noQ (.cells cur 70 (0, 0)) := ⟨by decide, by decide⟩
theorem noQ_set (cur : Array Value) : noQ (.cells cur 66 (0, 0)) := ⟨by decide, by decide⟩
theorem noQ_str (cur : Array Value) : noQ (.cells cur 9 (0, 0)) := ⟨by decide, by decide⟩
theorem noSet_mk (cur : Array Value) : noSet (.cells cur 70 (0, 0)) := ⟨by decide, by decide⟩
theorem noSet_q (cur : Array Value) : noSet (.cells cur 114 (0, 0)) := ⟨by decide, by decide⟩
theorem noSet_sb (cur : Array Value) : noSet (.cells cur 117 (0, 0)) := ⟨by decide, by decide⟩

theorem kept_succ (xs : List Item) (L : List ByteArray) {k : Nat} (h : k < xs.length) :
    kept (xs.take (k + 1)) L = kept (xs.take k) L ++ kept [xs[k]] (bfold ((xs.take k).map bx) L) ∧ bfold ((xs.take (k + 1)).map bx) L = bstep (bfold ((xs.take k).map bx) L) (bx xs[k]) := by
  rw [List.take_succ_eq_append_getElem h, kept_append, List.map_append, bfold_append]
  exact ⟨rfl, rfl⟩

#print axioms kept_drops
end Go.Proofs.Ytjdpabiodalfkaa
