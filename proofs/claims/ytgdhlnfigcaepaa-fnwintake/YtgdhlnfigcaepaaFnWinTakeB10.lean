/-
  A region that draws its order: if each operation that may come up keeps an invariant, the region leaves it, whatever order is drawn.
-/
import Derived.Test.YtgdhlnfigcaepaaRows
import Derived.WalkKit
import Derived.Orders
import Derived.Test.YtgdhlnfigcaepaaFnWinTakeB9
import Derived.Test.YtgdhlnfigcaepaaFnWinTakeB4
namespace Go.Proofs.Ytgdhlnfigcaepaa

/-- How many operations have not come up yet. -/
def open_ (l : Array Bool) : Nat := l.toList.count false

theorem count_set {l : List Bool} : ∀ {i : Nat}, l[i]? = some false → (l.set i true).count false + 1 = l.count false := by
  induction l with
  | nil => intro i h; simp at h
  | cons x l ih =>
    intro i h
    cases i with
    | zero =>
      simp at h
      subst h
      simp
    | succ i =>
      simp at h
      have := ih h
      simp only [List.set_cons_succ, List.count_cons]
      omega

theorem open_set {l : Array Bool} {i : Nat} (h : l.getD i true = false) : open_ (l.setIfInBounds i true) + 1 = open_ l := by
  unfold open_
  have hi : l.toList[i]? = some false := by
    rcases Nat.lt_or_ge i l.size with h' | h'
    · simp [h'] at h
      simp [h', h]
    · simp [h'] at h
  have := count_set hi
  simpa using this

theorem wpAny_inv {P : Program} {md : Region.Mode} {ops : Array Oper} {Q : Exit → Act → World → Prop} (I : Array Bool → Act → World → Prop)
    (hstep : ∀ listed a w i, I listed a w → i ∈ Region.ready md ops listed → wpOp P ops Q i (fun a' w' => I (listed.setIfInBounds i true) a' w') a w)
    (hend : ∀ listed a w, I listed a w → Region.ready md ops listed = [] → Q .normal a w) :
    ∀ (fuel : Nat) (listed : Array Bool) (a : Act) (w : World), open_ listed ≤ fuel → I listed a w → wpAny P md ops Q fuel listed a w := by
  intro fuel
  induction fuel with
  | zero =>
    intro listed a w hc hI
    have hr : Region.ready md ops listed = [] := by
      cases hr : Region.ready md ops listed with
      | nil => rfl
      | cons i r =>
        exfalso
        have hm : i ∈ Region.ready md ops listed := by rw [hr]; simp
        have := open_set (mem_ready.1 hm).1
        omega
    exact ⟨hr, hend _ _ _ hI hr⟩
  | succ fuel ih =>
    intro listed a w hc hI
    refine ⟨fun hr => hend _ _ _ hI hr, fun i hi => ?_⟩
    refine wpOp_mono (fun a' w' h' => ih _ a' w' ?_ h') (hstep listed a w i hI hi)
    have := open_set (mem_ready.1 hi).1
    omega

theorem wp_region_inv {P : Program} {ops : Array Oper} {Q : Exit → Act → World → Prop} {id : Nat} {a : Act} {w : World} (hm : P.follows .mixedOrders = true) (I : Array Bool → Act → World → Prop)
    (h0 : I (Array.replicate ops.size false) a { w with drawn := w.drawn + 1 })
    (hstep : ∀ listed a w i, I listed a w → i ∈ Region.ready .any ops listed → wpOp P ops Q i (fun a' w' => I (listed.setIfInBounds i true) a' w') a w)
    (hend : ∀ listed a w, I listed a w → Region.ready .any ops listed = [] → Q .normal a w) : (Code.region id ops true).wp P Q a w := by
  refine wp_region_any hm (wpAny_inv I hstep hend _ _ _ _ ?_ h0)
  unfold open_
  simp

/-- No two operations of a region write one slot, and none is guarded. -/
def plainB (ops : Array Oper) : Bool :=
  (List.range ops.size).all fun i => (List.range ops.size).all fun j => i == j || ((ops[i]?).bind (·.dst)) == none || ((ops[i]?).bind (·.dst)) != ((ops[j]?).bind (·.dst))

/-- Every operation waits for earlier ones alone. -/
def lowB (ops : Array Oper) : Bool := (List.range ops.size).all fun i => ((ops[i]?).map (·.after.all fun e => !Region.binds .any e || decide (e.on < i))).getD true

/-- What holds of the slots of those operations that have come up. -/
def Slots (ops : Array Oper) (T : Nat → Value → World → Prop) (listed : Array Bool) (a : Act) (w : World) : Prop :=
  ∀ i o d, ops[i]? = some o → o.dst = some d → listed.getD i false = true → T d (a.tmps.getD d undef) w

theorem wp_region_slots {P : Program} {ops : Array Oper} {Q : Exit → Act → World → Prop} {id : Nat} {a0 : Act} {w0 : World} (hm : P.follows .mixedOrders = true)
    (T : Nat → Value → World → Prop) (R : World → World → Prop) (J : Nat → World → Prop) (B : Act → Prop)
    (hplain : plainB ops = true) (hlow : lowB ops = true) (hg : ∀ (i : Nat) (o : Oper), ops[i]? = some o → o.guard = none)
    (hT : ∀ d v w w', T d v w → R w w' → T d v w') (hR0 : R w0 w0.drew) (hRt : ∀ u v w, R u v → R v w → R u w) (hJ0 : J 0 w0.drew)
    (hB0 : B a0) (hBput : ∀ (i : Nat) (o : Oper) (a : Act) (v : Value), ops[i]? = some o → B a → B (a.put o.dst v)) (hBsz : ∀ (i : Nat) (o : Oper) (a : Act) d, ops[i]? = some o → o.dst = some d → B a → d < a.tmps.size)
    (hops : ∀ (i : Nat) (o : Oper) (a : Act) (w : World) (k : Nat), ops[i]? = some o → B a → J k w → k < ops.size →
      (∀ e ∈ o.after, Region.binds .any e = true → ∀ oe d, ops[e.on]? = some oe → oe.dst = some d → T d (a.tmps.getD d undef) w) →
      o.wp P a w (fun a' w' => ∃ v, a' = a.put o.dst v ∧ (∀ d, o.dst = some d → T d v w') ∧ R w w' ∧ J (k + 1) w') Q)
    (hend : ∀ (a : Act) (w : World), B a → R w0 w → J ops.size w → (∀ (i : Nat) (o : Oper) d, ops[i]? = some o → o.dst = some d → T d (a.tmps.getD d undef) w) → Q .normal a w) :
    (Code.region id ops true).wp P Q a0 w0 := by
  refine wp_region_inv hm (fun listed a w => listed.size = ops.size ∧ B a ∧ R w0 w ∧ J (ops.size - open_ listed) w ∧ Slots ops T listed a w) ?_ ?_ ?_
  · refine ⟨by simp, hB0, hR0, ?_, ?_⟩
    · have : ops.size - open_ (Array.replicate ops.size false) = 0 := by unfold open_; simp
      rw [this]; exact hJ0
    · intro i o d hi hd hl
      exfalso
      rw [Array.getD_eq_getD_getElem?, Array.getElem?_replicate] at hl
      split at hl <;> simp at hl
  · rintro listed a w i ⟨hsz, hB, hR, hJ, hS⟩ hi
    obtain ⟨hun, o, ho, hall⟩ := mem_ready.1 hi
    have hop := open_set hun
    have hlt : i < ops.size := (Array.getElem?_eq_some_iff.1 ho).1
    have hle : open_ listed ≤ ops.size := by
      unfold open_; rw [← hsz, ← Array.length_toList]; exact List.count_le_length
    unfold wpOp
    rw [ho]
    have hw : Region.wanted o (yielded ops a.tmps) = true := by unfold Region.wanted; rw [hg i o ho]
    simp only [hw, if_true]
    refine .inl (Oper.wp_mono ?_ (hops i o a w (ops.size - open_ listed) ho hB hJ (by omega) (fun e he hb oe d hoe hd => hS e.on oe d hoe hd (hall e he hb))))
    rintro a' w' ⟨v, rfl, hv, hRw, hJw⟩
    refine ⟨by simpa using hsz, hBput i o a v ho hB, hRt _ _ _ hR hRw, ?_, ?_⟩
    · rw [show ops.size - open_ (listed.setIfInBounds i true) = ops.size - open_ listed + 1 by omega]; exact hJw
    · intro j oj d hj hd hl
      by_cases hij : j = i
      · subst hij
        rw [ho] at hj
        cases hj
        have hdsz := hBsz _ _ _ d ho hd hB
        have e : (a.put o.dst v).tmps.getD d undef = v := by rw [hd]; simp [Act.put, hdsz]
        rw [e]
        exact hv d hd
      · have hl' : listed.getD j false = true := by
          simpa [Array.getD_eq_getD_getElem?, Array.getElem?_setIfInBounds, Ne.symm hij] using hl
        have hne : o.dst ≠ some d := by
          intro e
          have hp := hplain
          unfold plainB at hp
          rw [List.all_eq_true] at hp
          have h1 := hp j (by rw [List.mem_range]; exact (Array.getElem?_eq_some_iff.1 hj).1)
          rw [List.all_eq_true] at h1
          have h2 := h1 i (by rw [List.mem_range]; exact hlt)
          simp [hj, ho, hd, e, hij] at h2
        have e : (a.put o.dst v).tmps.getD d undef = a.tmps.getD d undef := by
          cases ho' : o.dst with
          | none => simp [Act.put]
          | some c =>
            have hcd : c ≠ d := fun e => hne (by rw [ho', e])
            simp [Act.put, Array.getD_eq_getD_getElem?, hcd]
        rw [e]
        exact hT _ _ _ _ (hS j oj d hj hd hl') hRw
  · rintro listed a w ⟨hsz, hB, hR, hJ, hS⟩ hr
    have hlow' : ∀ (i : Nat) (o : Oper), ops[i]? = some o → ∀ e ∈ o.after, Region.binds .any e = true → e.on < i := by
      intro i o hi e he hbi
      have h1 := hlow
      unfold lowB at h1
      rw [List.all_eq_true] at h1
      have h2 := h1 i (by rw [List.mem_range]; exact (Array.getElem?_eq_some_iff.1 hi).1)
      rw [hi] at h2
      simp only [Option.map_some, Option.getD_some, Array.all_eq_true_iff_forall_mem] at h2
      have h3 := h2 e he
      rw [hbi] at h3
      simpa using h3
    have hall : ∀ n i, i ≤ n → i < ops.size → listed.getD i false = true := by
      intro n
      induction n using Nat.strongRecOn with
      | _ n ih =>
        intro i hin hi
        apply Classical.byContradiction
        intro hn
        have hun : listed.getD i true = false := by
          have hlt : i < listed.size := by omega
          simp [hlt] at hn ⊢
          exact hn
        obtain ⟨o, ho⟩ : ∃ o, ops[i]? = some o := ⟨ops[i], Array.getElem?_eq_getElem hi⟩
        have : i ∈ Region.ready .any ops listed := mem_ready.2 ⟨hun, o, ho, fun e he hbi => by
          have hlt := hlow' i o ho e he hbi
          exact ih e.on (by omega) e.on (Nat.le_refl _) (by omega)⟩
        rw [hr] at this
        cases this
    have h0 : open_ listed = 0 := by
      unfold open_
      rw [List.count_eq_zero]
      intro hmem
      obtain ⟨i, hi, he⟩ := List.getElem_of_mem hmem
      have hi' : i < listed.size := by simpa using hi
      have := hall i i (Nat.le_refl _) (by omega)
      simp [hi'] at this he
      rw [this] at he
      cases he
    rw [h0, Nat.sub_zero] at hJ
    exact hend a w hB hR hJ (fun i o d hi hd => hS i o d hi hd (hall i i (Nat.le_refl _) (Array.getElem?_eq_some_iff.1 hi).1))

/-- Every slot that is written is another one than p0, and below n; nothing is guarded. -/
def slotsB (ops : Array Oper) (p0 n : Nat) : Bool := ops.all fun o => o.guard.isNone && (match o.dst with | some d => d != p0 && decide (d < n) | none => true)

def BB (p0 n : Nat) (v0 : Value) (a : Act) : Prop := a.tmps.size = n ∧ a.tmps.getD p0 undef = v0 ∧ a.defers = []

theorem wp_region_reader {P : Program} {ops : Array Oper} {Q : Exit → Act → World → Prop} {id : Nat} {a0 : Act} {w0 : World} (hm : P.follows .mixedOrders = true)
    (T : Nat → Value → World → Prop) (R : World → World → Prop) (J : Nat → World → Prop) (p0 n : Nat) (v0 : Value)
    (hplain : plainB ops = true) (hlow : lowB ops = true) (hs : slotsB ops p0 n = true)
    (hT : ∀ d v w w', T d v w → R w w' → T d v w') (hR0 : R w0 w0.drew) (hRt : ∀ u v w, R u v → R v w → R u w) (hJ0 : J 0 w0.drew) (hB0 : BB p0 n v0 a0)
    (hops : ∀ (i : Nat) (o : Oper) (a : Act) (w : World) (k : Nat), ops[i]? = some o → BB p0 n v0 a → J k w → k < ops.size →
      (∀ e ∈ o.after, Region.binds .any e = true → ∀ oe d, ops[e.on]? = some oe → oe.dst = some d → T d (a.tmps.getD d undef) w) →
      o.wp P a w (fun a' w' => ∃ v, a' = a.put o.dst v ∧ (∀ d, o.dst = some d → T d v w') ∧ R w w' ∧ J (k + 1) w') Q)
    (hend : ∀ (a : Act) (w : World), BB p0 n v0 a → R w0 w → J ops.size w → (∀ (i : Nat) (o : Oper) d, ops[i]? = some o → o.dst = some d → T d (a.tmps.getD d undef) w) → Q .normal a w) :
    (Code.region id ops true).wp P Q a0 w0 := by
  have hsl : ∀ (i : Nat) (o : Oper), ops[i]? = some o → o.guard = none ∧ ∀ d, o.dst = some d → d ≠ p0 ∧ d < n := by
    intro i o hi
    have h1 := hs
    unfold slotsB at h1
    rw [Array.all_eq_true_iff_forall_mem] at h1
    have h2 := h1 o (Array.mem_of_getElem? hi)
    rw [Bool.and_eq_true] at h2
    refine ⟨by simpa using h2.1, fun d hd => ?_⟩
    have h3 := h2.2
    rw [hd] at h3
    simpa using h3
  refine wp_region_slots hm T R J (BB p0 n v0) hplain hlow (fun i o hi => (hsl i o hi).1) hT hR0 hRt hJ0 hB0 ?_ ?_ hops hend
  · rintro i o a v hi ⟨h1, h2, h3⟩
    cases hd : o.dst with
    | none => exact ⟨h1, h2, h3⟩
    | some d =>
      have hne := ((hsl i o hi).2 d hd).1
      refine ⟨by simpa [Act.put] using h1, ?_, h3⟩
      rw [← h2]
      simp [Act.put, Array.getD_eq_getD_getElem?, hne]
  · rintro i o a d hi hd ⟨h1, h2, h3⟩
    rw [h1]
    exact ((hsl i o hi).2 d hd).2

#print axioms wp_region_reader
end Go.Proofs.Ytgdhlnfigcaepaa
/-
  A region that draws its order, by an invariant of its slots, and of what operations without a slot have done.
-/
namespace Go.Proofs.Ytgdhlnfigcaepaa

theorem wp_region_ops {P : Program} {ops : Array Oper} {Q : Exit → Act → World → Prop} {id : Nat} {a0 : Act} {w0 : World} (hm : P.follows .mixedOrders = true)
    (T : Nat → Value → World → Prop) (U : Nat → World → Prop) (R : World → World → Prop) (J : Nat → World → Prop) (B : Act → Prop)
    (hplain : plainB ops = true) (hlow : lowB ops = true) (hg : ∀ (i : Nat) (o : Oper), ops[i]? = some o → o.guard = none)
    (hT : ∀ d v w w', T d v w → R w w' → T d v w') (hU : ∀ i w w', U i w → R w w' → U i w') (hR0 : R w0 w0.drew) (hRt : ∀ u v w, R u v → R v w → R u w) (hJ0 : J 0 w0.drew)
    (hB0 : B a0) (hBput : ∀ (i : Nat) (o : Oper) (a : Act) (v : Value), ops[i]? = some o → B a → B (a.put o.dst v)) (hBsz : ∀ (i : Nat) (o : Oper) (a : Act) d, ops[i]? = some o → o.dst = some d → B a → d < a.tmps.size)
    (hops : ∀ (i : Nat) (o : Oper) (a : Act) (w : World) (k : Nat), ops[i]? = some o → B a → J k w → k < ops.size →
      (∀ e ∈ o.after, Region.binds .any e = true → ∀ oe d, ops[e.on]? = some oe → oe.dst = some d → T d (a.tmps.getD d undef) w) →
      (∀ e ∈ o.after, Region.binds .any e = true → U e.on w) →
      o.wp P a w (fun a' w' => ∃ v, a' = a.put o.dst v ∧ (∀ d, o.dst = some d → T d v w') ∧ R w w' ∧ J (k + 1) w' ∧ U i w') Q)
    (hend : ∀ (a : Act) (w : World), B a → R w0 w → J ops.size w → (∀ i, i < ops.size → U i w) → (∀ (i : Nat) (o : Oper) d, ops[i]? = some o → o.dst = some d → T d (a.tmps.getD d undef) w) → Q .normal a w) :
    (Code.region id ops true).wp P Q a0 w0 := by
  refine wp_region_inv hm (fun listed a w => listed.size = ops.size ∧ B a ∧ R w0 w ∧ J (ops.size - open_ listed) w ∧ Slots ops T listed a w ∧ ∀ i, listed.getD i false = true → U i w) ?_ ?_ ?_
  · refine ⟨by simp, hB0, hR0, ?_, ?_, ?_⟩
    · have : ops.size - open_ (Array.replicate ops.size false) = 0 := by unfold open_; simp
      rw [this]; exact hJ0
    · intro i o d hi hd hl
      exfalso
      rw [Array.getD_eq_getD_getElem?, Array.getElem?_replicate] at hl
      split at hl <;> simp at hl
    · intro i hl
      exfalso
      rw [Array.getD_eq_getD_getElem?, Array.getElem?_replicate] at hl
      split at hl <;> simp at hl
  · rintro listed a w i ⟨hsz, hB, hR, hJ, hS, hUs⟩ hi
    obtain ⟨hun, o, ho, hall⟩ := mem_ready.1 hi
    have hop := open_set hun
    have hlt : i < ops.size := (Array.getElem?_eq_some_iff.1 ho).1
    have hle : open_ listed ≤ ops.size := by
      unfold open_; rw [← hsz, ← Array.length_toList]; exact List.count_le_length
    unfold wpOp
    rw [ho]
    have hw : Region.wanted o (yielded ops a.tmps) = true := by unfold Region.wanted; rw [hg i o ho]
    simp only [hw, if_true]
    refine .inl (Oper.wp_mono ?_ (hops i o a w (ops.size - open_ listed) ho hB hJ (by omega) (fun e he hb oe d hoe hd => hS e.on oe d hoe hd (hall e he hb)) (fun e he hb => hUs e.on (hall e he hb))))
    rintro a' w' ⟨v, rfl, hv, hRw, hJw, hUw⟩
    refine ⟨by simpa using hsz, hBput i o a v ho hB, hRt _ _ _ hR hRw, ?_, ?_, ?_⟩
    · rw [show ops.size - open_ (listed.setIfInBounds i true) = ops.size - open_ listed + 1 by omega]; exact hJw
    · intro j oj d hj hd hl
      by_cases hij : j = i
      · subst hij
        rw [ho] at hj
        cases hj
        have hdsz := hBsz _ _ _ d ho hd hB
        have e : (a.put o.dst v).tmps.getD d undef = v := by rw [hd]; simp [Act.put, hdsz]
        rw [e]
        exact hv d hd
      · have hl' : listed.getD j false = true := by
          simpa [Array.getD_eq_getD_getElem?, Array.getElem?_setIfInBounds, Ne.symm hij] using hl
        have hne : o.dst ≠ some d := by
          intro e
          have hp := hplain
          unfold plainB at hp
          rw [List.all_eq_true] at hp
          have h1 := hp j (by rw [List.mem_range]; exact (Array.getElem?_eq_some_iff.1 hj).1)
          rw [List.all_eq_true] at h1
          have h2 := h1 i (by rw [List.mem_range]; exact hlt)
          simp [hj, ho, hd, e, hij] at h2
        have e : (a.put o.dst v).tmps.getD d undef = a.tmps.getD d undef := by
          cases ho' : o.dst with
          | none => simp [Act.put]
          | some c =>
            have hcd : c ≠ d := fun e => hne (by rw [ho', e])
            simp [Act.put, Array.getD_eq_getD_getElem?, hcd]
        rw [e]
        exact hT _ _ _ _ (hS j oj d hj hd hl') hRw
    · intro j hl
      by_cases hij : j = i
      · subst hij; exact hUw
      · exact hU _ _ _ (hUs j (by simpa [Array.getD_eq_getD_getElem?, Array.getElem?_setIfInBounds, Ne.symm hij] using hl)) hRw
  · rintro listed a w ⟨hsz, hB, hR, hJ, hS, hUs⟩ hr
    have hlow' : ∀ (i : Nat) (o : Oper), ops[i]? = some o → ∀ e ∈ o.after, Region.binds .any e = true → e.on < i := by
      intro i o hi e he hbi
      have h1 := hlow
      unfold lowB at h1
      rw [List.all_eq_true] at h1
      have h2 := h1 i (by rw [List.mem_range]; exact (Array.getElem?_eq_some_iff.1 hi).1)
      rw [hi] at h2
      simp only [Option.map_some, Option.getD_some, Array.all_eq_true_iff_forall_mem] at h2
      have h3 := h2 e he
      rw [hbi] at h3
      simpa using h3
    have hall : ∀ n i, i ≤ n → i < ops.size → listed.getD i false = true := by
      intro n
      induction n using Nat.strongRecOn with
      | _ n ih =>
        intro i hin hi
        apply Classical.byContradiction
        intro hn
        have hun : listed.getD i true = false := by
          have hlt : i < listed.size := by omega
          simp [hlt] at hn ⊢
          exact hn
        obtain ⟨o, ho⟩ : ∃ o, ops[i]? = some o := ⟨ops[i], Array.getElem?_eq_getElem hi⟩
        have : i ∈ Region.ready .any ops listed := mem_ready.2 ⟨hun, o, ho, fun e he hbi => by
          have hlt := hlow' i o ho e he hbi
          exact ih e.on (by omega) e.on (Nat.le_refl _) (by omega)⟩
        rw [hr] at this
        cases this
    have h0 : open_ listed = 0 := by
      unfold open_
      rw [List.count_eq_zero]
      intro hmem
      obtain ⟨i, hi, he⟩ := List.getElem_of_mem hmem
      have hi' : i < listed.size := by simpa using hi
      have := hall i i (Nat.le_refl _) (by omega)
      simp [hi'] at this he
      rw [this] at he
      cases he
    rw [h0, Nat.sub_zero] at hJ
    exact hend a w hB hR hJ (fun i hi => hUs i (hall i i (Nat.le_refl _) hi)) (fun i o d hi hd => hS i o d hi hd (hall i i (Nat.le_refl _) (Array.getElem?_eq_some_iff.1 hi).1))

/-- Slots that are not written, and what they hold. -/
def BF (n : Nat) (fs : List (Nat × Value)) (a : Act) : Prop := a.tmps.size = n ∧ (∀ f ∈ fs, a.tmps.getD f.1 undef = f.2) ∧ a.defers = []
/-- Every slot that is written is none of some, and below n; nothing is guarded. -/
def fixB (ops : Array Oper) (ds : List Nat) (n : Nat) : Bool := ops.all fun o => o.guard.isNone && (match o.dst with | some d => !(ds.contains d) && decide (d < n) | none => true)
theorem wp_region_fix {P : Program} {ops : Array Oper} {Q : Exit → Act → World → Prop} {id : Nat} {a0 : Act} {w0 : World} (hm : P.follows .mixedOrders = true)
    (T : Nat → Value → World → Prop) (U : Nat → World → Prop) (R : World → World → Prop) (J : Nat → World → Prop) (n : Nat) (fs : List (Nat × Value)) (ds : List Nat) (hds : fs.map (·.1) = ds)
    (hplain : plainB ops = true) (hlow : lowB ops = true) (hs : fixB ops ds n = true)
    (hT : ∀ d v w w', T d v w → R w w' → T d v w') (hU : ∀ i w w', U i w → R w w' → U i w') (hR0 : R w0 w0.drew) (hRt : ∀ u v w, R u v → R v w → R u w) (hJ0 : J 0 w0.drew) (hB0 : BF n fs a0)
    (hops : ∀ (i : Nat) (o : Oper) (a : Act) (w : World) (k : Nat), ops[i]? = some o → BF n fs a → J k w → k < ops.size →
      (∀ e ∈ o.after, Region.binds .any e = true → ∀ oe d, ops[e.on]? = some oe → oe.dst = some d → T d (a.tmps.getD d undef) w) →
      (∀ e ∈ o.after, Region.binds .any e = true → U e.on w) →
      o.wp P a w (fun a' w' => ∃ v, a' = a.put o.dst v ∧ (∀ d, o.dst = some d → T d v w') ∧ R w w' ∧ J (k + 1) w' ∧ U i w') Q)
    (hend : ∀ (a : Act) (w : World), BF n fs a → R w0 w → J ops.size w → (∀ i, i < ops.size → U i w) → (∀ (i : Nat) (o : Oper) d, ops[i]? = some o → o.dst = some d → T d (a.tmps.getD d undef) w) → Q .normal a w) :
    (Code.region id ops true).wp P Q a0 w0 := by
  have hsl : ∀ (i : Nat) (o : Oper), ops[i]? = some o → o.guard = none ∧ ∀ d, o.dst = some d → d ∉ ds ∧ d < n := by
    intro i o hi
    have h1 := hs
    unfold fixB at h1
    rw [Array.all_eq_true_iff_forall_mem] at h1
    have h2 := h1 o (Array.mem_of_getElem? hi)
    rw [Bool.and_eq_true] at h2
    refine ⟨by simpa using h2.1, fun d hd => ?_⟩
    have h3 := h2.2
    rw [hd] at h3
    simpa using h3
  refine wp_region_ops hm T U R J (BF n fs) hplain hlow (fun i o hi => (hsl i o hi).1) hT hU hR0 hRt hJ0 hB0 ?_ ?_ hops hend
  · rintro i o a v hi ⟨h1, h2, h3⟩
    cases hd : o.dst with
    | none => exact ⟨h1, h2, h3⟩
    | some d =>
      have hne := ((hsl i o hi).2 d hd).1
      refine ⟨by simpa [Act.put] using h1, fun f hf => ?_, h3⟩
      rw [← h2 f hf]
      have : d ≠ f.1 := fun e => hne (by rw [← hds, e]; exact List.mem_map_of_mem hf)
      simp [Act.put, Array.getD_eq_getD_getElem?, this]
  · rintro i o a d hi hd ⟨h1, h2, h3⟩
    rw [h1]
    exact ((hsl i o hi).2 d hd).2
#print axioms wp_region_fix
end Go.Proofs.Ytgdhlnfigcaepaa
/-
  Drawn windows, and a number: DrawWinTake.
-/
namespace Go.Proofs.Ytgdhlnfigcaepaa
open Go.RowKit

def NInt (lo hi : Int) (v : Value) : Prop := ∃ x : Int, v = .int .i64 x ∧ lo ≤ x ∧ x ≤ hi
def NRow (b rb n : Nat) (lo hi : Int) (v : Value) (w : World) : Prop :=
  ∃ blk, v = .slice (some ⟨blk, 0, none⟩) n n ∧ blk < w.heap.size ∧ blk ≠ b ∧ blk ≠ rb ∧ ∀ j, j < n → ∃ x, w.cell? ⟨blk, j, none⟩ = some (.int .i64 x) ∧ lo ≤ x ∧ x ≤ hi
def NAt (b rb : Nat) (lo hi : Int) (v : Value) (w : World) : Prop :=
  ∃ blk j x, v = .pointer (some ⟨blk, j, none⟩) ∧ blk < w.heap.size ∧ blk ≠ b ∧ blk ≠ rb ∧ w.cell? ⟨blk, j, none⟩ = some (.int .i64 x) ∧ lo ≤ x ∧ x ≤ hi
/-- All but the reader and the result's block are as they were; and so is that one, once it is written. -/
def RW (b rb : Nat) (cs : Array Value) (u u' : World) : Prop := ExO b (some rb) u u' ∧ (Blk u rb 35 cs → Blk u' rb 35 cs)
theorem rw_trans {b rb : Nat} {cs : Array Value} (u v w : World) (h : RW b rb cs u v) (k : RW b rb cs v w) : RW b rb cs u w := ⟨(exOPre _ _).trans _ _ _ h.1 k.1, fun q => k.2 (h.2 q)⟩
theorem rw_ex {b rb : Nat} {cs : Array Value} {u u' : World} (h : Ex b u u') (hne : rb ≠ b) : RW b rb cs u u' := ⟨exO_ex h, fun q => q.exW h hne⟩
theorem rw_refl {b rb : Nat} {cs : Array Value} (u : World) : RW b rb cs u u := ⟨(exOPre _ _).refl _, fun q => q⟩
theorem rw_set {b rb : Nat} {cs : Array Value} {u : World} {old : Array Value} (h : Blk u rb 35 old) : RW b rb cs u (u.setRow rb cs) := ⟨exO_grown (grown_setRow u rb cs), fun _ => h.set cs⟩
theorem rw_cell {b rb : Nat} {cs : Array Value} {u u' : World} (h : RW b rb cs u u') {blk j : Nat} (h0 : blk < u.heap.size) (h1 : blk ≠ b) (h2 : blk ≠ rb) : u'.cell? ⟨blk, j, none⟩ = u.cell? ⟨blk, j, none⟩ := exO_cell h.1 (p := ⟨blk, j, none⟩) h0 h1 (fun e => h2 (by cases e; rfl))
theorem NRow.keep {b rb n : Nat} {cs : Array Value} {lo hi : Int} {v : Value} {w w' : World} (h : NRow b rb n lo hi v w) (x : RW b rb cs w w') : NRow b rb n lo hi v w' := by
  obtain ⟨blk, h1, h2, h3, h4, h5⟩ := h
  exact ⟨blk, h1, Nat.lt_of_lt_of_le h2 x.1.1, h3, h4, fun j hj => by rw [rw_cell x h2 h3 h4]; exact h5 j hj⟩
theorem NAt.keep {b rb : Nat} {cs : Array Value} {lo hi : Int} {v : Value} {w w' : World} (h : NAt b rb lo hi v w) (x : RW b rb cs w w') : NAt b rb lo hi v w' := by
  obtain ⟨blk, j, y, h1, h2, h3, h4, h5, h6⟩ := h
  exact ⟨blk, j, y, h1, Nat.lt_of_lt_of_le h2 x.1.1, h3, h4, by rw [rw_cell x h2 h3 h4]; exact h5, h6⟩
theorem NAt.at {b rb n : Nat} {lo hi : Int} {w : World} {blk : Nat} {x : Int} (h2 : blk < w.heap.size) (h3 : blk ≠ b) (h3' : blk ≠ rb) (h4 : ∀ j, j < n → ∃ y, w.cell? ⟨blk, j, none⟩ = some (.int .i64 y) ∧ lo ≤ y ∧ y ≤ hi) (h0 : 0 ≤ x) (h1 : x < (n : Int)) :
    NAt b rb lo hi (.pointer (some ⟨blk, x.toNat, none⟩)) w := by
  obtain ⟨y, h5, h6, h7⟩ := h4 x.toNat (by omega)
  exact ⟨blk, x.toNat, y, rfl, h2, h3, h3', h5, h6, h7⟩
/-- What the slots hold. -/
def TWt (b rb xb : Nat) (cs : Array Value) (top : Int) (d : Nat) (v : Value) (w : World) : Prop :=
  match d with
  | 10 => v = .agg cs
  | 11 => v = .pointer (some ⟨xb, 1, none⟩)
  | 12 => v = .int .i64 top
  | 13 => v = .pointer (some ⟨b, 0, none⟩)
  | 14 => NInt 0 13 v
  | 15 => NInt (-1000) 1013 v
  | 16 => NInt (-1009) 1004 v
  | 17 => v = .pointer (some ⟨xb, 1, none⟩)
  | 18 => v = .int .i64 top
  | 19 => NRow b rb 5 (-1009) 1004 v w
  | 20 => NRow b rb 8 0 4 v w
  | 21 => v = .pointer (some ⟨b, 0, none⟩)
  | 22 => NInt 0 7 v
  | 23 => NAt b rb 0 4 v w
  | 24 => NInt 0 4 v
  | 25 => NAt b rb (-1009) 1004 v w
  | 26 => NInt (-1009) 1004 v
  | 3 => NInt (-1009) 1004 v
  | _ => True
theorem TWt.keep (b rb xb : Nat) (cs : Array Value) (top : Int) : ∀ d v w w', TWt b rb xb cs top d v w → RW b rb cs w w' → TWt b rb xb cs top d v w' := by
  intro d v w w' h x
  unfold TWt at *
  split at h
  all_goals first
    | exact NRow.keep h x
    | exact NAt.keep h x
    | exact h
/-- A reader's code lies in no window's block. -/
theorem DrC.win {b : Nat} {C : Code} {p : Nat} {w : World} {rb : Nat} {k : ByteArray} {t : Int} {so : Option Addr} {sn sc : Nat} (h : DrC b C p w) (q : Blk w rb 35 (winC k t (.slice so sn sc))) (hne : rb ≠ b) (ds : Array Value) : DrC b C p (w.setRow rb ds) := by
  have hblk : ∀ k, k ≠ rb → (w.setRow rb ds).heap[k]? = w.heap[k]? := fun k hk => setRow_other w rb k ds hk
  obtain ⟨c0, c1, f1, lt, le, row⟩ := h
  have hb := hblk b (Ne.symm hne)
  refine ⟨(World.cell?_of_block (a := ⟨b, 0, none⟩) hb).trans c0, (World.cell?_of_block (a := ⟨b, 1, none⟩) hb).trans c1, (World.frozen?_of_block (a := ⟨b, 1, none⟩) hb).trans f1, by simpa [World.setRow] using lt, le, ?_⟩
  rcases row with h0 | ⟨x, hx, hxb, hrw⟩
  · exact .inl h0
  · by_cases hl : C.len = 0
    · exact .inl hl
    · have hne2 : x.block ≠ rb := by
        intro e
        have hc := (hrw 0 (by omega)).1
        have e2 : (x.add 0).block = rb := by rw [add_block]; exact e
        simp only [World.cell?, e2, show w.heap[rb]? = _ from q] at hc
        generalize (x.add 0).off = of at hc
        match of, hc with
        | 0, hc => simp at hc
        | 1, hc => simp at hc
        | 2, hc => simp at hc
        | of + 3, hc => simp at hc
      refine .inr ⟨x, hx, hxb, fun i hi => ⟨?_, (hrw i hi).2⟩⟩
      have : (x.add i).block ≠ rb := by rw [add_block]; exact hne2
      exact (World.cell?_of_block (a := x.add i) (hblk _ this)).trans (hrw i hi).1
/-- What is so all the way. -/
structure JWt (B b : Nat) (C : Code) (w : World) (rb xb p0 : Nat) (cs : Array Value) (sl : Value) (xs : List Int) (k : Nat) (wr : World) : Prop where
  dr : ∃ p, p ≤ p0 + k ∧ DrC b C p wr
  at_ : Blk wr xb 35 cs
  row : OwnI B wr sl xs
  bel : Below w.heap.size w wr
  res : ∃ (k : ByteArray) (t : Int) (so : Option Addr) (sn sc : Nat), Blk wr rb 35 (winC k t (.slice so sn sc))
theorem JWt.up {B b : Nat} {C : Code} {w : World} {rb xb p0 : Nat} {cs : Array Value} {sl : Value} {xs : List Int} {k : Nat} {wr w' : World} (h : JWt B b C w rb xb p0 cs sl xs k wr) (hb : Below wr.heap.size wr w') : JWt B b C w rb xb p0 cs sl xs (k + 1) w' :=
  ⟨by obtain ⟨p, h1, h2⟩ := h.dr; exact ⟨p, by omega, h2.below hb⟩, h.at_.below hb, OwnI.below h.row hb, h.bel.trans (hb.mono h.bel.size), by obtain ⟨k1, t1, s1, s2, s3, q2⟩ := h.res; exact ⟨k1, t1, s1, s2, s3, q2.below hb⟩⟩
theorem JWt.stay {B b : Nat} {C : Code} {w : World} {rb xb p0 : Nat} {cs : Array Value} {sl : Value} {xs : List Int} {k : Nat} {wr : World} (h : JWt B b C w rb xb p0 cs sl xs k wr) : JWt B b C w rb xb p0 cs sl xs (k + 1) wr := h.up (Below.refl _ _)
theorem JWt.alloc {B b : Nat} {C : Code} {w : World} {rb xb p0 : Nat} {cs : Array Value} {sl : Value} {xs : List Int} {k : Nat} {wr : World} (h : JWt B b C w rb xb p0 cs sl xs k wr) (o : Obj) : JWt B b C w rb xb p0 cs sl xs (k + 1) (wr.alloc o) := h.up ((Below.refl _ _).alloc (Nat.le_refl _) o)
theorem getW {a : Act} {d : Nat} {v : Value} (h : a.tmps.getD d undef = v) : ∀ h', a.tmps[d]'h' = v := by
  intro h'
  rw [← h]
  simp [Array.getD_eq_getD_getElem?, h']
/-- What was stored stays. -/
def UWt (rb : Nat) (cs : Array Value) (i : Nat) (w : World) : Prop := i = 17 → Blk w rb 35 cs

set_option maxRecDepth 100000 in
set_option maxHeartbeats 4000000 in
theorem DrawWinTake_any (a : Option Addr) (len cap : Nat) (zs : List Int) (w : World) (h : IsRow .u8 w a len cap zs) :
    Calls Try.prog 31 #[.slice a len cap] w fun e w' => ∃ (x : Win) (v : Value) (n : Int), e = .returned (.tuple #[.agg (x.cells v), .int .i64 n]) ∧ OwnI w.heap.size w' v x.seen ∧ x.key.size ≤ 700 ∧ x.seen.length ≤ 20 ∧ (-1000 ≤ x.top ∧ x.top ≤ 1000) ∧ (-1009 ≤ n ∧ n ≤ 1004) ∧ Below w.heap.size w w' := by
  have R := hide (h.belowR ((Below.refl w.heap.size w).alloc (Nat.le_refl _) (.cells noWin 35)))
  have A := hide (Blk.new w 35 noWin)
  have HB : Hid (Below w.heap.size w (w.alloc (.cells noWin 35))) := (Below.refl _ _).alloc (Nat.le_refl _) _
  clear h
  go_enter Try.func31, Try.ntmps31
  go_wp2_with fail
  refine (l20Open_any a len cap zs _ (unhide R)).mono ?_
  rintro e w1 ⟨C, rfl, d1, hb1⟩
  have D1 : Hid (DrC (w.heap.size + 1) C 0 w1) := by have q := d1; rw [World.size_alloc] at q; exact q
  replace A := hide ((unhide A).below hb1)
  replace HB := hide (HB.out.trans (hb1.mono HB.out.size))
  clear hb1 d1
  go_wp2_with fail
  refine (l20Win_any (w.heap.size + 1) C 0 9 _ rfl _ (unhide D1) (by omega) (by omega) (by omega)).mono ?_
  rintro e w2 ⟨⟨key, top, xs⟩, v, q, rfl, ho, h1, h2, h3, hq, d2, x2⟩
  simp only at h1 h2 h3 ho
  obtain ⟨so, sc, rfl⟩ := row_form' ho
  have HX := hide (And.intro h1 h2)
  obtain ⟨sn, hsn⟩ : ∃ n, n = xs.length := ⟨_, rfl⟩
  rw [← hsn] at ho ⊢
  have O2 := hide ho
  obtain ⟨B, hBq⟩ : ∃ n, n = w1.heap.size := ⟨_, rfl⟩
  rw [← hBq] at O2
  have HBB : Hid (w.heap.size + 1 < B ∧ w.heap.size ≤ B) := ⟨by rw [hBq]; exact (unhide D1).lt, by rw [hBq]; exact HB.out.size⟩
  clear hBq
  have D2 := hide d2
  replace A := hide ((unhide A).exW x2 (by omega))
  replace HB := hide (HB.out.trans (x2.below (B := w.heap.size) (by omega) HB.out.size))
  have HSN := hide hsn
  clear d2 x2 ho D1 hsn h1 h2
  have hxl : w.heap.size + 1 < w2.heap.size := (unhide D2).lt
  have X := hide (Blk.new w2 35 (winC key top (.slice so sn sc)))
  replace A := hide ((unhide A).alloc (.cells (winC key top (.slice so sn sc)) 35))
  replace D2 := hide ((unhide D2).alloc (.cells (winC key top (.slice so sn sc)) 35))
  replace O2 : Hid (OwnI B (w2.alloc (.cells (winC key top (.slice so sn sc)) 35)) (.slice so sn sc) xs) := World.ownsRow.alloc (unhide O2) _
  replace HB := hide (HB.out.alloc HB.out.size (.cells (winC key top (.slice so sn sc)) 35))
  go_wp2_with fail
  generalize w2.alloc (.cells (winC key top (.slice so sn sc)) 35) = W2 at *
  generalize w2.heap.size = xb at *
  obtain ⟨rb, hrb⟩ : ∃ n, n = w.heap.size := ⟨_, rfl⟩
  obtain ⟨b, hbq⟩ : ∃ n, n = w.heap.size + 1 := ⟨_, rfl⟩
  rw [← hbq] at D2 hxl HBB ⊢
  have A' : Hid (Blk W2 rb 35 noWin) := by rw [hrb]; exact A
  have hgo : ∀ x : Nat, x = w.heap.size → x = rb := fun x e => by rw [e, hrb]
  have HJ0 : Hid (JWt B b C w rb xb q (winC key top (.slice so sn sc)) (.slice so sn sc) xs 0 W2.drew) := ⟨⟨q, by omega, (unhide D2).drew⟩, (unhide X).drew, OwnI.below (unhide O2) (Below.refl _ _).drew, HB.out.drew, ⟨_, _, _, _, _, (unhide A').drew⟩⟩
  have hq9 : q ≤ 200 := by omega
  have hxb : xb ≠ b ∧ xb ≠ rb ∧ rb ≠ b ∧ w.heap.size ≤ b ∧ b < xb := ⟨by omega, by omega, by omega, by omega, by omega⟩
  have HRB := hide hrb
  have HXB := hide hxb
  clear hrb hbq hxb hxl A A' D2 X O2 HB hgo hq
  refine wp_region_fix (by kernel_rfl) (TWt b rb xb (winC key top (.slice so sn sc)) top) (UWt rb (winC key top (.slice so sn sc))) (RW b rb (winC key top (.slice so sn sc))) (JWt B b C w rb xb q (winC key top (.slice so sn sc)) (.slice so sn sc) xs) 27 [(2, .pointer (some ⟨w.heap.size, 0, none⟩)), (4, .pointer (some ⟨b, 0, none⟩)), (5, .pointer (some ⟨xb, 0, none⟩))] [2, 4, 5] rfl (by kernel_rfl) (by kernel_rfl) (by kernel_rfl) (TWt.keep b rb xb (winC key top (.slice so sn sc)) top) ?hU (rw_ex ((Ex.refl _ _).drew) HXB.out.2.2.1) rw_trans (unhide HJ0) ⟨rfl, ?hB, rfl⟩ ?hops ?hend
  case hU => exact fun i u u' h x e => x.2 (h e)
  case hB =>
    intro f hf
    simp only [List.mem_cons, List.not_mem_nil, or_false] at hf
    rcases hf with rfl | rfl | rfl <;> rfl
  case hops =>
    intro i o a wr k hi hB hJ hk hdep hUd
    have hk19 : k < 19 := hk
    clear hk
    obtain ⟨b1, bf, b3⟩ := hB
    have f2 : a.tmps.getD 2 undef = .pointer (some ⟨w.heap.size, 0, none⟩) := bf (2, _) (by simp)
    have f4 : a.tmps.getD 4 undef = .pointer (some ⟨b, 0, none⟩) := bf (4, _) (by simp)
    have f5 : a.tmps.getD 5 undef = .pointer (some ⟨xb, 0, none⟩) := bf (5, _) (by simp)
    clear bf hUd
    have J := hide hJ
    clear hJ
    match i, hi with
    | 0, hi =>
      simp at hi
      subst hi
      clear hdep
      have c0 := (unhide J).at_.cell 0
      have c1 := (unhide J).at_.cell 1
      have c2 := (unhide J).at_.cell 2
      simp only [List.getElem?_toArray, List.getElem?_cons_zero, List.getElem?_cons_succ] at c0 c1 c2
      go_simp
      exact ⟨_, rfl, rfl, rw_refl _, (unhide J).stay, fun e => by cases e⟩
    | 1, hi =>
      simp at hi
      subst hi
      clear hdep
      go_simp
      exact ⟨_, rfl, rfl, rw_refl _, (unhide J).stay, fun e => by cases e⟩
    | 2, hi =>
      simp at hi
      subst hi
      have t11 : a.tmps.getD 11 undef = .pointer (some ⟨xb, 1, none⟩) := hdep { on := 1, ground := .data } (by simp) rfl _ 11 rfl rfl
      clear hdep
      have c1 := (unhide J).at_.cell 1
      simp only [List.getElem?_toArray, List.getElem?_cons_zero, List.getElem?_cons_succ] at c1
      go_simp
      exact ⟨_, rfl, rfl, rw_refl _, (unhide J).stay, fun e => by cases e⟩
    | 3, hi =>
      simp at hi
      subst hi
      clear hdep
      go_simp
      exact ⟨_, rfl, rfl, rw_refl _, (unhide J).stay, fun e => by cases e⟩
    | 4, hi =>
      simp at hi
      subst hi
      have t13 : a.tmps.getD 13 undef = .pointer (some ⟨b, 0, none⟩) := hdep { on := 3, ground := .data } (by simp) rfl _ 13 rfl rfl
      clear hdep
      go_simp
      obtain ⟨p, hp, hd⟩ := (unhide J).dr
      refine (pick_any b C p 14 _ rfl _ hd (by omega) (by omega) (by omega)).mono ?_
      rintro e w' ⟨v, rfl, hv, hd', hx⟩
      go_simp
      refine ⟨_, rfl, ⟨v, rfl, by omega, by omega⟩, rw_ex hx HXB.out.2.2.1, ?_, fun e => by cases e⟩
      exact ⟨⟨p + 1, by omega, hd'⟩, (unhide J).at_.exW hx HXB.out.1, row_ex (unhide J).row hx HBB.out.1, (unhide J).bel.trans (hx.below HXB.out.2.2.2.1 (unhide J).bel.size), by obtain ⟨k1, t1, s1, s2, s3, q2⟩ := (unhide J).res; exact ⟨k1, t1, s1, s2, s3, q2.exW hx HXB.out.2.2.1⟩⟩
    | 5, hi =>
      simp at hi
      subst hi
      have t12 : a.tmps.getD 12 undef = .int .i64 top := hdep { on := 2, ground := .data } (by simp) rfl _ 12 rfl rfl
      obtain ⟨x, t14, hx1, hx2⟩ : NInt (0) 13 (a.tmps.getD 14 undef) := hdep { on := 4, ground := .data } (by simp) rfl _ 14 rfl rfl
      clear hdep
      have t12' := getW t12
      have t14' := getW t14
      have i1 : IntKind.i64.wrap (top + x) = top + x := by simp [IntKind.wrap, IntKind.bits, IntKind.signed]; omega
      go_simp
      exact ⟨_, rfl, ⟨_, rfl, by omega, by omega⟩, rw_refl _, (unhide J).stay, fun e => by cases e⟩
    | 6, hi =>
      simp at hi
      subst hi
      obtain ⟨x, t15, hx1, hx2⟩ : NInt (-1000) 1013 (a.tmps.getD 15 undef) := hdep { on := 5, ground := .data } (by simp) rfl _ 15 rfl rfl
      clear hdep
      have t15' := getW t15
      have i1 : IntKind.i64.wrap (x - 9) = x - 9 := by simp [IntKind.wrap, IntKind.bits, IntKind.signed]; omega
      go_simp
      exact ⟨_, rfl, ⟨_, rfl, by omega, by omega⟩, rw_refl _, (unhide J).stay, fun e => by cases e⟩
    | 7, hi =>
      simp at hi
      subst hi
      clear hdep
      go_simp
      exact ⟨_, rfl, rfl, rw_refl _, (unhide J).stay, fun e => by cases e⟩
    | 8, hi =>
      simp at hi
      subst hi
      have t17 : a.tmps.getD 17 undef = .pointer (some ⟨xb, 1, none⟩) := hdep { on := 7, ground := .data } (by simp) rfl _ 17 rfl rfl
      clear hdep
      have c1 := (unhide J).at_.cell 1
      simp only [List.getElem?_toArray, List.getElem?_cons_zero, List.getElem?_cons_succ] at c1
      go_simp
      exact ⟨_, rfl, rfl, rw_refl _, (unhide J).stay, fun e => by cases e⟩
    | 9, hi =>
      simp at hi
      subst hi
      obtain ⟨x, t16, hx1, hx2⟩ : NInt (-1009) 1004 (a.tmps.getD 16 undef) := hdep { on := 6, ground := .data } (by simp) rfl _ 16 rfl rfl
      have t18 : a.tmps.getD 18 undef = .int .i64 top := hdep { on := 8, ground := .data } (by simp) rfl _ 18 rfl rfl
      clear hdep
      have t16' := getW t16
      have t18' := getW t18
      have hlb : b < wr.heap.size := by obtain ⟨p, _, hd⟩ := (unhide J).dr; exact hd.lt
      have hlr : rb < wr.heap.size := by obtain ⟨k1, t1, s1, s2, s3, q2⟩ := (unhide J).res; exact q2.lt
      go_simp
      refine ⟨_, rfl, ⟨wr.heap.size, rfl, by simp, by omega, by omega, ?_⟩, rw_ex ((Ex.refl _ _).alloc _) HXB.out.2.2.1, (unhide J).alloc _, fun e => by cases e⟩
      intro j hj
      match j, hj with
      | 0, _ => exact ⟨x, by simp [go_sem], by omega, by omega⟩
      | 1, _ => exact ⟨top, by simp [go_sem], by omega, by omega⟩
      | 2, _ => exact ⟨0, by simp [go_sem], by omega, by omega⟩
      | 3, _ => exact ⟨1000, by simp [go_sem], by omega, by omega⟩
      | 4, _ => exact ⟨999, by simp [go_sem], by omega, by omega⟩
      | j + 5, hj => omega
    | 10, hi =>
      simp at hi
      subst hi
      clear hdep
      have hlb : b < wr.heap.size := by obtain ⟨p, _, hd⟩ := (unhide J).dr; exact hd.lt
      have hlr : rb < wr.heap.size := by obtain ⟨k1, t1, s1, s2, s3, q2⟩ := (unhide J).res; exact q2.lt
      go_simp
      refine ⟨_, rfl, ⟨wr.heap.size, rfl, by simp, by omega, by omega, ?_⟩, rw_ex ((Ex.refl _ _).alloc _) HXB.out.2.2.1, (unhide J).alloc _, fun e => by cases e⟩
      intro j hj
      match j, hj with
      | 0, _ => exact ⟨0, by simp [go_sem], by omega, by omega⟩
      | 1, _ => exact ⟨0, by simp [go_sem], by omega, by omega⟩
      | 2, _ => exact ⟨0, by simp [go_sem], by omega, by omega⟩
      | 3, _ => exact ⟨0, by simp [go_sem], by omega, by omega⟩
      | 4, _ => exact ⟨1, by simp [go_sem], by omega, by omega⟩
      | 5, _ => exact ⟨2, by simp [go_sem], by omega, by omega⟩
      | 6, _ => exact ⟨3, by simp [go_sem], by omega, by omega⟩
      | 7, _ => exact ⟨4, by simp [go_sem], by omega, by omega⟩
      | j + 8, hj => omega
    | 11, hi =>
      simp at hi
      subst hi
      clear hdep
      go_simp
      exact ⟨_, rfl, rfl, rw_refl _, (unhide J).stay, fun e => by cases e⟩
    | 12, hi =>
      simp at hi
      subst hi
      have t21 : a.tmps.getD 21 undef = .pointer (some ⟨b, 0, none⟩) := hdep { on := 11, ground := .data } (by simp) rfl _ 21 rfl rfl
      clear hdep
      go_simp
      obtain ⟨p, hp, hd⟩ := (unhide J).dr
      refine (pick_any b C p 8 _ rfl _ hd (by omega) (by omega) (by omega)).mono ?_
      rintro e w' ⟨v, rfl, hv, hd', hx⟩
      go_simp
      refine ⟨_, rfl, ⟨v, rfl, by omega, by omega⟩, rw_ex hx HXB.out.2.2.1, ?_, fun e => by cases e⟩
      exact ⟨⟨p + 1, by omega, hd'⟩, (unhide J).at_.exW hx HXB.out.1, row_ex (unhide J).row hx HBB.out.1, (unhide J).bel.trans (hx.below HXB.out.2.2.2.1 (unhide J).bel.size), by obtain ⟨k1, t1, s1, s2, s3, q2⟩ := (unhide J).res; exact ⟨k1, t1, s1, s2, s3, q2.exW hx HXB.out.2.2.1⟩⟩
    | 13, hi =>
      simp at hi
      subst hi
      obtain ⟨blk, t20, h1, h2, h2', h3⟩ : NRow b rb 8 0 4 (a.tmps.getD 20 undef) wr := hdep { on := 10, ground := .data } (by simp) rfl _ 20 rfl rfl
      obtain ⟨x, t22, hx1, hx2⟩ : NInt (0) 7 (a.tmps.getD 22 undef) := hdep { on := 12, ground := .data } (by simp) rfl _ 22 rfl rfl
      clear hdep
      have hx3 : x < 8 := by omega
      go_simp
      exact ⟨_, rfl, NAt.at h1 h2 h2' h3 hx1 hx3, rw_refl _, (unhide J).stay, fun e => by cases e⟩
    | 14, hi =>
      simp at hi
      subst hi
      obtain ⟨blk, j, x, t23, h1, h2, h2', h3, h4, h5⟩ : NAt b rb 0 4 (a.tmps.getD 23 undef) wr := hdep { on := 13, ground := .data } (by simp) rfl _ 23 rfl rfl
      clear hdep
      go_simp
      exact ⟨_, rfl, ⟨x, rfl, h4, h5⟩, rw_refl _, (unhide J).stay, fun e => by cases e⟩
    | 15, hi =>
      simp at hi
      subst hi
      obtain ⟨blk, t19, h1, h2, h2', h3⟩ : NRow b rb 5 (-1009) 1004 (a.tmps.getD 19 undef) wr := hdep { on := 9, ground := .data } (by simp) rfl _ 19 rfl rfl
      obtain ⟨x, t24, hx1, hx2⟩ : NInt (0) 4 (a.tmps.getD 24 undef) := hdep { on := 14, ground := .data } (by simp) rfl _ 24 rfl rfl
      clear hdep
      have hx3 : x < 5 := by omega
      go_simp
      exact ⟨_, rfl, NAt.at h1 h2 h2' h3 hx1 hx3, rw_refl _, (unhide J).stay, fun e => by cases e⟩
    | 16, hi =>
      simp at hi
      subst hi
      obtain ⟨blk, j, x, t25, h1, h2, h2', h3, h4, h5⟩ : NAt b rb (-1009) 1004 (a.tmps.getD 25 undef) wr := hdep { on := 15, ground := .data } (by simp) rfl _ 25 rfl rfl
      clear hdep
      go_simp
      exact ⟨_, rfl, ⟨x, rfl, h4, h5⟩, rw_refl _, (unhide J).stay, fun e => by cases e⟩
    | 17, hi =>
      simp at hi
      subst hi
      have t10 : a.tmps.getD 10 undef = .agg (winC key top (.slice so sn sc)) := hdep { on := 0, ground := .data } (by simp) rfl _ 10 rfl rfl
      clear hdep
      obtain ⟨k1, t1, s1, s2, s3, q2⟩ := (unhide J).res
      refine wp_store_row 35 (.tmp 2) (.tmp 10) rfl rb (winC key top (.slice so sn sc)) (by show a.tmps.getD 2 undef = _; rw [f2, HRB.out]) t10 35 _ q2 info_wi rfl (one_wi _ _ _ _ _) ?_
      refine ⟨undef, rfl, (fun d hd => by cases hd), rw_set q2, ?_, fun _ => q2.set _⟩
      exact ⟨by obtain ⟨p, p1, p2⟩ := (unhide J).dr; exact ⟨p, by omega, p2.win q2 HXB.out.2.2.1 _⟩, (unhide J).at_.other HXB.out.2.1 _, row_blk (unhide J).row q2 (by decide) _, below_blk (unhide J).bel (by have := HRB.out; omega) _, ⟨_, _, _, _, _, q2.set _⟩⟩
    | 18, hi =>
      simp at hi
      subst hi
      obtain ⟨x, t26, hx1, hx2⟩ : NInt (-1009) 1004 (a.tmps.getD 26 undef) := hdep { on := 16, ground := .data } (by simp) rfl _ 26 rfl rfl
      clear hdep
      have t26' := getW t26
      go_simp
      exact ⟨_, rfl, ⟨x, rfl, hx1, hx2⟩, rw_refl _, (unhide J).stay, fun e => by cases e⟩
    | j + 19, hi => simp at hi
  case hend =>
    rintro a' w' ⟨b1, bf, b3⟩ hx hJ hUa hall
    have f2 : a'.tmps.getD 2 undef = .pointer (some ⟨w.heap.size, 0, none⟩) := bf (2, _) (by simp)
    obtain ⟨n, t3, hn1, hn2⟩ : NInt (-1009) 1004 (a'.tmps.getD 3 undef) := hall 18 _ 3 rfl rfl
    have hR := hUa 17 (by decide) rfl
    have l2 := load_wi hR rfl
    rw [HRB.out] at l2
    have J := hide hJ
    clear hall hUa bf hx hJ hR
    go_wp2_with fail
    refine bodyPost_ret (v := .tuple #[.agg (winC key top (.slice so sn sc)), .int .i64 n]) (results_cs rfl f2 t3 l2) b3 ?_
    refine ⟨⟨key, top, xs⟩, _, n, rfl, row_lowB (unhide J).row HBB.out.2, HX.out.1, HX.out.2, h3, ⟨hn1, hn2⟩, (unhide J).bel⟩
#print axioms DrawWinTake_any
end Go.Proofs.Ytgdhlnfigcaepaa
/-
  The laws' own looks over rows of numbers: whether two are the same, whether a number is one of some.
-/
namespace Go.Proofs.Ytgdhlnfigcaepaa
open Go.RowKit

theorem ints_eq {xs ys : List Int} (hl : xs.length = ys.length) (h : ∀ j, j < xs.length → xs.getD j 0 = ys.getD j 0) : xs = ys := by
  apply List.ext_getElem hl
  intro i h1 h2
  have := h i h1
  rw [List.getD_eq_getElem?_getD, List.getElem?_eq_getElem h1, List.getD_eq_getElem?_getD, List.getElem?_eq_getElem h2] at this
  exact this
theorem mem_getI {xs : List Int} {x : Int} (h : x ∈ xs) : ∃ k, k < xs.length ∧ xs.getD k 0 = x := by
  obtain ⟨j, hj, e⟩ := List.getElem_of_mem h
  refine ⟨j, hj, ?_⟩
  rw [List.getD_eq_getElem?_getD, List.getElem?_eq_getElem hj]
  exact e
theorem getI_mem {xs : List Int} {k : Nat} (h : k < xs.length) : xs.getD k 0 ∈ xs := by
  rw [List.getD_eq_getElem?_getD, List.getElem?_eq_getElem h]
  exact List.getElem_mem h

set_option maxHeartbeats 1000000 in
theorem keInts_any (v u : Value) (xs ys : List Int) (w : World) (h : IRow w v xs) (k : IRow w u ys) :
    Calls Try.prog 59 #[v, u] w fun e w' => e = .returned (.bool (decide (xs = ys))) ∧ Below w.heap.size w w' := by
  obtain ⟨ao, cap, rfl, h1, h2, hc⟩ := h.form
  obtain ⟨bo, cap', rfl, h1', h2', hc'⟩ := k.form
  have hR := hide h
  have hS := hide k
  unfold maxLen at h2 h2'
  clear h k hc hc'
  by_cases hl : xs.length = ys.length
  · rw [← hl] at hS h1' ⊢
    have HL := hide hl
    clear hl
    go_enter Try.func59, Try.ntmps59
    go_wp2_with fail
    go_loopw [5] (fun i wr => ∃ k : Nat, k ≤ xs.length ∧ i = .int .i64 (k : Int) ∧ Hid (∀ j, j < k → xs.getD j 0 = ys.getD j 0) ∧ Hid (Below w.heap.size w wr)) (fun i _ => xs.length - (intOf i).toNat)
    case atStart => exact ⟨0, by omega, rfl, fun j hj => by omega, Below.refl _ _⟩
    case round =>
      obtain ⟨k, hk, rfl, hN, hL⟩ := hrel
      by_cases hlt : k < xs.length
      · have hlt2 : (k : Int) < (xs.length : Int) := by omega
        obtain ⟨ao', c1, q1, _, _, q2⟩ := (IRow.below (unhide hR) (unhide hL)).form
        simp only [Value.slice.injEq] at q1
        obtain ⟨rfl, _, rfl⟩ := q1
        obtain ⟨bo', c2, q3, _, _, q4⟩ := (IRow.below (unhide hS) (unhide hL)).form
        simp only [Value.slice.injEq] at q3
        obtain ⟨rfl, z3, rfl⟩ := q3
        clear z3
        obtain ⟨a, rfl, hck⟩ := q2 k hlt
        obtain ⟨b, rfl, hck'⟩ := q4 k (by have := HL.out; omega)
        clear q2 q4
        have i3 : IntKind.i64.wrap ((k : Int) + 1) = (k : Int) + 1 := by simp [IntKind.wrap, IntKind.bits, IntKind.signed]; omega
        have hYes : Hid (xs.getD k 0 = ys.getD k 0 → ∀ j, j < k + 1 → xs.getD j 0 = ys.getD j 0) := by
          intro ht j hj
          by_cases hjk : j = k
          · subst hjk; exact ht
          · exact hN j (by omega)
        have hNo : Hid (xs.getD k 0 ≠ ys.getD k 0 → decide (xs = ys) = false) := by
          intro ht
          simp
          intro e
          exact ht (by rw [e])
        generalize xs.getD k 0 = y at hck hYes hNo
        generalize ys.getD k 0 = z at hck' hYes hNo
        by_cases he : y = z
        · have hN1 := hide (hYes.out he)
          subst he
          go_wp2_with fail
          go_quiet (fail)
          go_wp2_with fail
          go_roundw
          case rel => exact ⟨k + 1, by omega, by simp, hN1, below_drewN (unhide hL) _⟩
          case measure => simp [intOf]; omega
        · have hE := hNo.out he
          have hnk : (y == z) = false := by simpa using he
          have hnk2 : (y != z) = true := by simpa using he
          go_wp2_with fail
          go_quiet (fail)
          go_wp2_with fail
          go_ret
          exact ⟨ret_bool' hE.symm, below_drewN (unhide hL) _⟩
      · have hlt2 : decide ((k : Int) < (xs.length : Int)) = false := by simp; omega
        have hE : decide (xs = ys) = true := by
          simp
          exact ints_eq HL.out (fun j hj => hN j (by omega))
        go_wp2_with fail
        go_ret
        exact ⟨ret_bool' hE.symm, unhide hL⟩
  · have hl2 : ((xs.length : Int) == (ys.length : Int)) = false := by simp; omega
    have hE : decide (xs = ys) = false := by
      simp
      intro e
      exact hl (by rw [e])
    go_enter Try.func59, Try.ntmps59
    go_wp2_with fail
    go_ret
    exact ⟨ret_bool' hE.symm, Below.refl _ _⟩

end Go.Proofs.Ytgdhlnfigcaepaa
