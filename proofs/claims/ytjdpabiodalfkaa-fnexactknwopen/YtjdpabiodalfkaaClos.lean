/-
  What is known once all boxes are opened that can be: what belongs to it, plainly. No Go in it.
-/
import Derived.Test.YtjdpabiodalfkaaIOpen
namespace Go.Proofs.Ytjdpabiodalfkaa

theorem opened_exists (xs : List ByteArray) (bs : List Bx) : ∃ L, Opened xs bs L := by
  have key : ∀ (m N : Nat), missing bs (Nat.repeat (bfold bs) N (dedup xs)) ≤ m → ∃ L, Opened xs bs L := by
    intro m
    induction m with
    | zero =>
      intro N h
      by_cases hf : bfold bs (Nat.repeat (bfold bs) N (dedup xs)) = Nat.repeat (bfold bs) N (dedup xs)
      · exact ⟨_, ⟨N, rfl⟩, hf⟩
      · have := bfold_lt (bs := bs) bs _ (fun c hc => hc) hf
        omega
    | succ m ih =>
      intro N h
      by_cases hf : bfold bs (Nat.repeat (bfold bs) N (dedup xs)) = Nat.repeat (bfold bs) N (dedup xs)
      · exact ⟨_, ⟨N, rfl⟩, hf⟩
      · have := bfold_lt (bs := bs) bs _ (fun c hc => hc) hf
        exact ih (N + 1) (by show missing bs (bfold bs (Nat.repeat (bfold bs) N (dedup xs))) ≤ m; omega)
  exact key _ 0 (Nat.le_refl _)
theorem openOf_opened (xs : List ByteArray) (bs : List Bx) : Opened xs bs (openOf xs bs) := by
  obtain ⟨L, h⟩ := opened_exists xs bs
  rw [openOf_eq h]; exact h

/-- Nothing more is told by the boxes. -/
def Shut (bs : List Bx) (M : List ByteArray) : Prop := ∀ b ∈ bs, can M b.1 = true → b.2 ∈ M

theorem bstep_mem {L : List ByteArray} {b : Bx} {x : ByteArray} (h : x ∈ L) : x ∈ bstep L b := by
  obtain ⟨t, ht⟩ := bstep_pre L b
  rw [ht]; exact List.mem_append_left _ h
theorem bfold_mem {bs : List Bx} {L : List ByteArray} {x : ByteArray} (h : x ∈ L) : x ∈ bfold bs L := by
  obtain ⟨t, ht⟩ := bfold_pre bs L
  rw [ht]; exact List.mem_append_left _ h
theorem can_more {L M : List ByteArray} (h : ∀ x ∈ L, x ∈ M) {s : ByteArray} (hc : can L s = true) : can M s = true := can_iff.2 ((can_iff.1 hc).more h)

theorem bfold_fix : ∀ {bs : List Bx} {L : List ByteArray}, bfold bs L = L → Shut bs L
  | [], _, _ => fun b hb => by cases hb
  | b :: bs, L, h => by
    rw [bfold_cons] at h
    have h1 : bstep L b = L := by
      obtain ⟨t, ht⟩ := bstep_pre L b
      obtain ⟨u, hu⟩ := bfold_pre bs (bstep L b)
      rw [hu, ht, List.append_assoc] at h
      have : t ++ u = [] := by
        have := congrArg List.length h
        rw [List.length_append] at this
        exact List.eq_nil_of_length_eq_zero (by omega)
      rw [ht, (List.append_eq_nil_iff.1 this).1, List.append_nil]
    rw [h1] at h
    intro c hc
    rcases List.mem_cons.1 hc with rfl | hc
    · intro hcan
      cases hh : has L c.2 with
      | true => exact has_iff.1 hh
      | false =>
        rw [bstep_can hh hcan] at h1
        have := congrArg List.length h1
        simp at this
    · exact bfold_fix h c hc
theorem shut_fix : ∀ {bs : List Bx} {L : List ByteArray}, Shut bs L → bfold bs L = L
  | [], _, _ => rfl
  | b :: bs, L, h => by
    rw [bfold_cons]
    have h1 : bstep L b = L := by
      cases hc : can L b.1 with
      | false => exact bstep_not hc
      | true => exact bstep_has (has_iff.2 (h b (by simp) hc))
    rw [h1]
    exact shut_fix (fun c hc => h c (by simp [hc]))
theorem bfold_least {bs : List Bx} {M : List ByteArray} (hM : Shut bs M) : ∀ (cs : List Bx) (L : List ByteArray), (∀ c ∈ cs, c ∈ bs) → (∀ x ∈ L, x ∈ M) → ∀ x ∈ bfold cs L, x ∈ M
  | [], _, _, h => h
  | c :: cs, L, hs, h => by
    rw [bfold_cons]
    refine bfold_least hM cs _ (fun d hd => hs d (by simp [hd])) ?_
    unfold bstep
    split
    · rename_i hc
      intro x hx
      rcases List.mem_append.1 hx with hx | hx
      · exact h x hx
      · simp at hx
        subst hx
        exact hM c (hs c (by simp)) (can_more h hc.2)
    · exact h

theorem openOf_known {xs : List ByteArray} {bs : List Bx} {x : ByteArray} (h : x ∈ xs) : x ∈ openOf xs bs := by
  obtain ⟨⟨N, hN⟩, _⟩ := openOf_opened xs bs
  rw [hN]
  clear hN
  induction N with
  | zero => exact has_dedup.2 h
  | succ N ih => exact bfold_mem ih
theorem openOf_shut (xs : List ByteArray) (bs : List Bx) : Shut bs (openOf xs bs) := bfold_fix (openOf_opened xs bs).2
theorem openOf_least {xs : List ByteArray} {bs : List Bx} {M : List ByteArray} (hx : ∀ x ∈ xs, x ∈ M) (hM : Shut bs M) : ∀ x ∈ openOf xs bs, x ∈ M := by
  obtain ⟨⟨N, hN⟩, _⟩ := openOf_opened xs bs
  rw [hN]
  clear hN
  induction N with
  | zero => exact fun x h => hx x (has_dedup.1 h)
  | succ N ih => exact bfold_least hM bs _ (fun c hc => hc) ih

/-- Where each thing that is known comes from. -/
theorem bfold_from : ∀ (cs : List Bx) (L : List ByteArray) (x : ByteArray), x ∈ bfold cs L → x ∈ L ∨ ∃ c ∈ cs, c.2 = x ∧ can (bfold cs L) c.1 = true
  | [], _, _, h => .inl h
  | c :: cs, L, x, h => by
    rw [bfold_cons] at h ⊢
    rcases bfold_from cs _ x h with h1 | ⟨d, hd, h2, h3⟩
    · unfold bstep at h1
      split at h1
      · rename_i hc
        rcases List.mem_append.1 h1 with h1 | h1
        · exact .inl h1
        · simp at h1
          refine .inr ⟨c, by simp, h1.symm, can_more (fun y hy => ?_) hc.2⟩
          exact bfold_mem (bstep_mem hy)
      · exact .inl h1
    · exact .inr ⟨d, by simp [hd], h2, h3⟩
theorem openOf_from {xs : List ByteArray} {bs : List Bx} {x : ByteArray} (h : x ∈ openOf xs bs) : x ∈ xs ∨ ∃ b ∈ bs, b.2 = x ∧ can (openOf xs bs) b.1 = true := by
  have key : ∀ N, ∀ x ∈ Nat.repeat (bfold bs) N (dedup xs), x ∈ xs ∨ ∃ b ∈ bs, b.2 = x ∧ can (Nat.repeat (bfold bs) N (dedup xs)) b.1 = true := by
    intro N
    induction N with
    | zero => exact fun x hx => .inl (has_dedup.1 hx)
    | succ N ih =>
      intro x hx
      rcases bfold_from bs _ x hx with h1 | h1
      · rcases ih x h1 with h2 | ⟨b, hb, h3, h4⟩
        · exact .inl h2
        · exact .inr ⟨b, hb, h3, can_more (fun y hy => bfold_mem hy) h4⟩
      · exact .inr h1
  obtain ⟨⟨N, hN⟩, _⟩ := openOf_opened xs bs
  rw [hN] at h ⊢
  exact key N x h

theorem nodup_snoc {L : List ByteArray} {x : ByteArray} (h : L.Nodup) (hx : has L x = false) : (L ++ [x]).Nodup := by
  rw [List.nodup_append]
  refine ⟨h, by simp, fun a ha b hb e => ?_⟩
  simp at hb
  subst hb
  subst e
  rw [has_iff.2 ha] at hx
  cases hx
theorem nodup_dedup (xs : List ByteArray) : (dedup xs).Nodup := by
  have key : ∀ (ys acc : List ByteArray), acc.Nodup → (ys.foldl addNew acc).Nodup := by
    intro ys
    induction ys with
    | nil => intro acc h; exact h
    | cons y ys ih =>
      intro acc h
      rw [List.foldl_cons]
      refine ih _ ?_
      unfold addNew
      split
      · exact h
      · rename_i hh
        exact nodup_snoc h (by simpa using hh)
  exact key xs [] (by simp)
theorem nodup_bfold : ∀ (cs : List Bx) (L : List ByteArray), L.Nodup → (bfold cs L).Nodup
  | [], _, h => h
  | c :: cs, L, h => by
    rw [bfold_cons]
    refine nodup_bfold cs _ ?_
    unfold bstep
    split
    · rename_i hc; exact nodup_snoc h hc.1
    · exact h
theorem nodup_openOf (xs : List ByteArray) (bs : List Bx) : (openOf xs bs).Nodup := by
  obtain ⟨⟨N, hN⟩, _⟩ := openOf_opened xs bs
  rw [hN]
  clear hN
  induction N with
  | zero => exact nodup_dedup xs
  | succ N ih => exact nodup_bfold bs _ ih

theorem dedup_nodup {L : List ByteArray} (h : L.Nodup) : dedup L = L := by
  have key : ∀ (ys acc : List ByteArray), (acc ++ ys).Nodup → ys.foldl addNew acc = acc ++ ys := by
    intro ys
    induction ys with
    | nil => intro acc _; simp
    | cons y ys ih =>
      intro acc hn
      rw [List.foldl_cons]
      have hy : has acc y = false := by
        refine has_not fun hm => ?_
        rw [List.nodup_append] at hn
        exact hn.2.2 y hm y (by simp) rfl
      have e : addNew acc y = acc ++ [y] := by unfold addNew; rw [if_neg (by rw [hy]; simp)]
      rw [e, ih _ (by simpa using hn)]
      simp
  unfold dedup
  simpa using key L [] (by simpa using h)
theorem dedup_twice (xs : List ByteArray) : dedup (xs ++ xs) = dedup xs := by
  have key : ∀ (ys acc : List ByteArray), (∀ y ∈ ys, y ∈ acc) → ys.foldl addNew acc = acc := by
    intro ys
    induction ys with
    | nil => intro acc _; rfl
    | cons y ys ih =>
      intro acc h
      rw [List.foldl_cons]
      have e : addNew acc y = acc := by unfold addNew; rw [if_pos (has_iff.2 (h y (by simp)))]
      rw [e]
      exact ih acc (fun z hz => h z (by simp [hz]))
  unfold dedup
  rw [List.foldl_append]
  exact key xs _ (fun y hy => has_dedup.2 hy)

/-- Opened once more nothing more is known. -/
theorem openOf_again (xs : List ByteArray) (bs : List Bx) : openOf (openOf xs bs) bs = openOf xs bs :=
  openOf_eq ⟨⟨0, by show openOf xs bs = dedup (openOf xs bs); rw [dedup_nodup (nodup_openOf xs bs)]⟩, (openOf_opened xs bs).2⟩
theorem openOf_twice (xs : List ByteArray) (bs : List Bx) : openOf (xs ++ xs) bs = openOf xs bs := by
  obtain ⟨⟨N, h1⟩, h2⟩ := openOf_opened xs bs
  exact openOf_eq ⟨⟨N, by rw [dedup_twice]; exact h1⟩, h2⟩
theorem openOf_more {xs ys : List ByteArray} {bs cs : List Bx} (hx : ∀ x ∈ xs, x ∈ ys) (hb : ∀ b ∈ bs, b ∈ cs) : ∀ x ∈ openOf xs bs, x ∈ openOf ys cs :=
  openOf_least (fun x h => openOf_known (hx x h)) (fun b h hc => openOf_shut ys cs b (hb b h) hc)

theorem can_none {s : ByteArray} : can [] s = false := by
  cases q : can [] s with
  | false => rfl
  | true =>
    exfalso
    have h := can_iff.1 q
    clear q
    induction h with
    | has h => cases h
    | one _ _ _ _ ih => exact ih
    | two _ _ _ _ ih _ => exact ih
theorem openOf_none (bs : List Bx) : openOf [] bs = [] := by
  have h : ∀ x ∈ openOf [] bs, x ∈ ([] : List ByteArray) := openOf_least (fun x h => h) (fun b _ hc => by rw [can_none] at hc; cases hc)
  exact List.eq_nil_iff_forall_not_mem.2 (fun x hx => by cases h x hx)

theorem openOf_size {xs : List ByteArray} {bs : List Bx} : (openOf xs bs).length ≤ xs.length + bs.length := by
  obtain ⟨⟨N, hN⟩, _⟩ := openOf_opened xs bs
  rw [hN]
  clear hN
  have key : ∀ N, (Nat.repeat (bfold bs) N (dedup xs)).length + missing bs (Nat.repeat (bfold bs) N (dedup xs)) ≤ xs.length + bs.length := by
    intro N
    induction N with
    | zero =>
      show (dedup xs).length + missing bs (dedup xs) ≤ _
      have q1 := dedup_len xs xs.length (Nat.le_refl _)
      rw [List.take_length] at q1
      have q2 := missing_most bs (dedup xs)
      omega
    | succ N ih => exact Nat.le_trans (bfold_bound bs _ (fun c hc => hc)) ih
  have := key N
  omega

#print axioms openOf_again
end Go.Proofs.Ytjdpabiodalfkaa
