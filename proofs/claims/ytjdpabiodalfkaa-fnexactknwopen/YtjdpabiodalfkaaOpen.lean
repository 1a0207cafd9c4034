/-
  What is known once all boxes are opened that can be: plainly. No Go in it.
-/
import Derived.Test.YtjdpabiodalfkaaMake
import Derived.Test.YtjdpabiodalfkaaBox
namespace Go.Proofs.Ytjdpabiodalfkaa

/-- One put behind some, if it is not among them. -/
def addNew (out : List ByteArray) (x : ByteArray) : List ByteArray := if has out x = true then out else out ++ [x]
def dedup (xs : List ByteArray) : List ByteArray := xs.foldl addNew []
/-- What is in a box put behind some, if it is not among them, and the box's key can be made from them. -/
noncomputable def bstep (out : List ByteArray) (b : Bx) : List ByteArray := if has out b.2 = false ∧ can out b.1 = true then out ++ [b.2] else out
noncomputable def bfold (bs : List Bx) (out : List ByteArray) : List ByteArray := bs.foldl bstep out

theorem bstep_pre (out : List ByteArray) (b : Bx) : ∃ t, bstep out b = out ++ t := by
  unfold bstep
  split
  · exact ⟨_, rfl⟩
  · exact ⟨[], by simp⟩
theorem bfold_pre (bs : List Bx) : ∀ out, ∃ t, bfold bs out = out ++ t := by
  induction bs with
  | nil => intro out; exact ⟨[], by simp [bfold]⟩
  | cons b bs ih =>
    intro out
    obtain ⟨t, ht⟩ := bstep_pre out b
    obtain ⟨u, hu⟩ := ih (bstep out b)
    refine ⟨t ++ u, ?_⟩
    show bfold bs (bstep out b) = _
    rw [hu, ht, List.append_assoc]
theorem bfold_same {bs : List Bx} {out : List ByteArray} (h : (bfold bs out).length ≤ out.length) : bfold bs out = out := by
  obtain ⟨t, ht⟩ := bfold_pre bs out
  rw [ht] at h ⊢
  have : t = [] := List.eq_nil_of_length_eq_zero (by rw [List.length_append] at h; omega)
  rw [this, List.append_nil]
theorem bfold_len (bs : List Bx) (out : List ByteArray) : out.length ≤ (bfold bs out).length := by
  obtain ⟨t, ht⟩ := bfold_pre bs out
  rw [ht]; simp
theorem bfold_succ (bs : List Bx) (out : List ByteArray) (k : Nat) (h : k < bs.length) : bfold (bs.take (k + 1)) out = bstep (bfold (bs.take k) out) (bs.getD k noBx) := by
  unfold bfold
  rw [List.take_succ_eq_append_getElem h, List.foldl_append, List.getD_eq_getElem?_getD, List.getElem?_eq_getElem h]
  rfl
theorem dedup_succ (xs : List ByteArray) (k : Nat) (h : k < xs.length) : dedup (xs.take (k + 1)) = addNew (dedup (xs.take k)) (xs.getD k ByteArray.empty) := by
  unfold dedup
  rw [List.take_succ_eq_append_getElem h, List.foldl_append, List.getD_eq_getElem?_getD, List.getElem?_eq_getElem h]
  rfl

/-- How many boxes hold what is not among some. -/
def missing (bs : List Bx) (out : List ByteArray) : Nat := bs.countP fun b => !has out b.2
theorem has_more {out t : List ByteArray} {x : ByteArray} (h : has out x = true) : has (out ++ t) x = true := has_iff.2 (List.mem_append_left _ (has_iff.1 h))
theorem missing_le (bs : List Bx) (out t : List ByteArray) : missing bs (out ++ t) ≤ missing bs out := by
  unfold missing
  apply List.countP_mono_left
  intro b _ h
  cases q : has out b.2 with
  | false => rfl
  | true => rw [has_more q] at h; exact h
theorem missing_lt {bs : List Bx} {out : List ByteArray} {b : Bx} (hb : b ∈ bs) (h : has out b.2 = false) (t : List ByteArray) : missing bs (out ++ b.2 :: t) < missing bs out := by
  induction bs with
  | nil => cases hb
  | cons c bs ih =>
    have hle := missing_le bs out (b.2 :: t)
    unfold missing at hle ih ⊢
    rw [List.countP_cons, List.countP_cons]
    rcases List.mem_cons.1 hb with e | hb'
    · subst e
      have h2 : has (out ++ b.2 :: t) b.2 = true := has_iff.2 (by simp)
      simp only [h, h2]
      simp
      omega
    · have := ih hb'
      have hc : (if (!has (out ++ b.2 :: t) c.2) = true then 1 else 0) ≤ (if (!has out c.2) = true then 1 else 0) := by
        cases q : has out c.2 with
        | true => rw [has_more q]; simp
        | false => simp; split <;> omega
      omega
theorem bfold_lt {bs : List Bx} : ∀ (cs : List Bx) (out : List ByteArray), (∀ c ∈ cs, c ∈ bs) → bfold cs out ≠ out → missing bs (bfold cs out) < missing bs out := by
  intro cs
  induction cs with
  | nil => intro out _ h; exact absurd rfl h
  | cons c cs ih =>
    intro out hsub h
    show missing bs (bfold cs (bstep out c)) < _
    by_cases hc : has out c.2 = false ∧ can out c.1 = true
    · have e : bstep out c = out ++ [c.2] := by unfold bstep; rw [if_pos hc]
      obtain ⟨t, ht⟩ := bfold_pre cs (bstep out c)
      rw [ht, e, List.append_assoc]
      exact missing_lt (hsub c (by simp)) hc.1 t
    · have e : bstep out c = out := by unfold bstep; rw [if_neg hc]
      rw [e]
      refine ih out (fun x hx => hsub x (by simp [hx])) ?_
      intro q
      apply h
      show bfold cs (bstep out c) = out
      rw [e, q]
theorem bfold_bound {bs : List Bx} : ∀ (cs : List Bx) (out : List ByteArray), (∀ c ∈ cs, c ∈ bs) → (bfold cs out).length + missing bs (bfold cs out) ≤ out.length + missing bs out := by
  intro cs
  induction cs with
  | nil => intro out _; exact Nat.le_refl _
  | cons c cs ih =>
    intro out hsub
    have h1 := ih (bstep out c) (fun x hx => hsub x (by simp [hx]))
    show (bfold cs (bstep out c)).length + missing bs (bfold cs (bstep out c)) ≤ _
    by_cases hc : has out c.2 = false ∧ can out c.1 = true
    · have e : bstep out c = out ++ [c.2] := by unfold bstep; rw [if_pos hc]
      have h2 := missing_lt (hsub c (by simp)) hc.1 []
      rw [e] at h1 ⊢
      simp only [List.length_append, List.length_singleton] at h1
      omega
    · have e : bstep out c = out := by unfold bstep; rw [if_neg hc]
      rw [e] at h1 ⊢
      exact h1
theorem missing_most (bs : List Bx) (out : List ByteArray) : missing bs out ≤ bs.length := List.countP_le_length
theorem addNew_len (out : List ByteArray) (x : ByteArray) : (addNew out x).length ≤ out.length + 1 := by
  unfold addNew
  split <;> simp
theorem dedup_len (xs : List ByteArray) : ∀ k, k ≤ xs.length → (dedup (xs.take k)).length ≤ k := by
  intro k
  induction k with
  | zero => intro _; simp [dedup]
  | succ k ih =>
    intro h
    rw [dedup_succ xs k (by omega)]
    have := addNew_len (dedup (xs.take k)) (xs.getD k ByteArray.empty)
    have := ih (by omega)
    omega
#print axioms bfold_lt
#print axioms bfold_bound
end Go.Proofs.Ytjdpabiodalfkaa
