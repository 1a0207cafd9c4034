/-
  A region that draws its order: if each operation that may come up keeps an invariant, the region leaves it, whatever order is drawn.
-/
import Derived.Test.YtjdpabiodalfkaaRows
import Derived.WalkKit
import Derived.Orders
namespace Go.Proofs.Ytjdpabiodalfkaa

/-- How many operations have not come up yet. -/
def open_ (l : Array Bool) : Nat := l.toList.count false

theorem count_set {l : List Bool} : ∀ {i : Nat}, l[i]? = some false → (l.set i true).count false + 1 = l.count false := by
  induction l with
  | nil => intro i h; simp at h
  | cons x l ih =>
    intro i h
    cases i with
    | zero =>
      simp at h
      subst h
      simp
    | succ i =>
      simp at h
      have := ih h
      simp only [List.set_cons_succ, List.count_cons]
      omega

theorem open_set {l : Array Bool} {i : Nat} (h : l.getD i true = false) : open_ (l.setIfInBounds i true) + 1 = open_ l := by
  unfold open_
  have hi : l.toList[i]? = some false := by
    rcases Nat.lt_or_ge i l.size with h' | h'
    · simp [h'] at h
      simp [h', h]
    · simp [h'] at h
  have := count_set hi
  simpa using this

theorem wpAny_inv {P : Program} {md : Region.Mode} {ops : Array Oper} {Q : Exit → Act → World → Prop} (I : Array Bool → Act → World → Prop)
    (hstep : ∀ listed a w i, I listed a w → i ∈ Region.ready md ops listed → wpOp P ops Q i (fun a' w' => I (listed.setIfInBounds i true) a' w') a w)
    (hend : ∀ listed a w, I listed a w → Region.ready md ops listed = [] → Q .normal a w) :
    ∀ (fuel : Nat) (listed : Array Bool) (a : Act) (w : World), open_ listed ≤ fuel → I listed a w → wpAny P md ops Q fuel listed a w := by
  intro fuel
  induction fuel with
  | zero =>
    intro listed a w hc hI
    have hr : Region.ready md ops listed = [] := by
      cases hr : Region.ready md ops listed with
      | nil => rfl
      | cons i r =>
        exfalso
        have hm : i ∈ Region.ready md ops listed := by rw [hr]; simp
        have := open_set (mem_ready.1 hm).1
        omega
    exact ⟨hr, hend _ _ _ hI hr⟩
  | succ fuel ih =>
    intro listed a w hc hI
    refine ⟨fun hr => hend _ _ _ hI hr, fun i hi => ?_⟩
    refine wpOp_mono (fun a' w' h' => ih _ a' w' ?_ h') (hstep listed a w i hI hi)
    have := open_set (mem_ready.1 hi).1
    omega

theorem wp_region_inv {P : Program} {ops : Array Oper} {Q : Exit → Act → World → Prop} {id : Nat} {a : Act} {w : World} (hm : P.follows .mixedOrders = true) (I : Array Bool → Act → World → Prop)
    (h0 : I (Array.replicate ops.size false) a { w with drawn := w.drawn + 1 })
    (hstep : ∀ listed a w i, I listed a w → i ∈ Region.ready .any ops listed → wpOp P ops Q i (fun a' w' => I (listed.setIfInBounds i true) a' w') a w)
    (hend : ∀ listed a w, I listed a w → Region.ready .any ops listed = [] → Q .normal a w) : (Code.region id ops true).wp P Q a w := by
  refine wp_region_any hm (wpAny_inv I hstep hend _ _ _ _ ?_ h0)
  unfold open_
  simp

/-- No two operations of a region write one slot, and none is guarded. -/
def plainB (ops : Array Oper) : Bool :=
  (List.range ops.size).all fun i => (List.range ops.size).all fun j => i == j || ((ops[i]?).bind (·.dst)) == none || ((ops[i]?).bind (·.dst)) != ((ops[j]?).bind (·.dst))

/-- Every operation waits for earlier ones alone. -/
def lowB (ops : Array Oper) : Bool := (List.range ops.size).all fun i => ((ops[i]?).map (·.after.all fun e => !Region.binds .any e || decide (e.on < i))).getD true

/-- What holds of the slots of those operations that have come up. -/
def Slots (ops : Array Oper) (T : Nat → Value → World → Prop) (listed : Array Bool) (a : Act) (w : World) : Prop :=
  ∀ i o d, ops[i]? = some o → o.dst = some d → listed.getD i false = true → T d (a.tmps.getD d undef) w

theorem wp_region_slots {P : Program} {ops : Array Oper} {Q : Exit → Act → World → Prop} {id : Nat} {a0 : Act} {w0 : World} (hm : P.follows .mixedOrders = true)
    (T : Nat → Value → World → Prop) (R : World → World → Prop) (J : Nat → World → Prop) (B : Act → Prop)
    (hplain : plainB ops = true) (hlow : lowB ops = true) (hg : ∀ (i : Nat) (o : Oper), ops[i]? = some o → o.guard = none)
    (hT : ∀ d v w w', T d v w → R w w' → T d v w') (hR0 : R w0 w0.drew) (hRt : ∀ u v w, R u v → R v w → R u w) (hJ0 : J 0 w0.drew)
    (hB0 : B a0) (hBput : ∀ (i : Nat) (o : Oper) (a : Act) (v : Value), ops[i]? = some o → B a → B (a.put o.dst v)) (hBsz : ∀ (i : Nat) (o : Oper) (a : Act) d, ops[i]? = some o → o.dst = some d → B a → d < a.tmps.size)
    (hops : ∀ (i : Nat) (o : Oper) (a : Act) (w : World) (k : Nat), ops[i]? = some o → B a → J k w → k < ops.size →
      (∀ e ∈ o.after, Region.binds .any e = true → ∀ oe d, ops[e.on]? = some oe → oe.dst = some d → T d (a.tmps.getD d undef) w) →
      o.wp P a w (fun a' w' => ∃ v, a' = a.put o.dst v ∧ (∀ d, o.dst = some d → T d v w') ∧ R w w' ∧ J (k + 1) w') Q)
    (hend : ∀ (a : Act) (w : World), B a → R w0 w → J ops.size w → (∀ (i : Nat) (o : Oper) d, ops[i]? = some o → o.dst = some d → T d (a.tmps.getD d undef) w) → Q .normal a w) :
    (Code.region id ops true).wp P Q a0 w0 := by
  refine wp_region_inv hm (fun listed a w => listed.size = ops.size ∧ B a ∧ R w0 w ∧ J (ops.size - open_ listed) w ∧ Slots ops T listed a w) ?_ ?_ ?_
  · refine ⟨by simp, hB0, hR0, ?_, ?_⟩
    · have : ops.size - open_ (Array.replicate ops.size false) = 0 := by unfold open_; simp
      rw [this]; exact hJ0
    · intro i o d hi hd hl
      exfalso
      rw [Array.getD_eq_getD_getElem?, Array.getElem?_replicate] at hl
      split at hl <;> simp at hl
  · rintro listed a w i ⟨hsz, hB, hR, hJ, hS⟩ hi
    obtain ⟨hun, o, ho, hall⟩ := mem_ready.1 hi
    have hop := open_set hun
    have hlt : i < ops.size := (Array.getElem?_eq_some_iff.1 ho).1
    have hle : open_ listed ≤ ops.size := by
      unfold open_; rw [← hsz, ← Array.length_toList]; exact List.count_le_length
    unfold wpOp
    rw [ho]
    have hw : Region.wanted o (yielded ops a.tmps) = true := by unfold Region.wanted; rw [hg i o ho]
    simp only [hw, if_true]
    refine .inl (Oper.wp_mono ?_ (hops i o a w (ops.size - open_ listed) ho hB hJ (by omega) (fun e he hb oe d hoe hd => hS e.on oe d hoe hd (hall e he hb))))
    rintro a' w' ⟨v, rfl, hv, hRw, hJw⟩
    refine ⟨by simpa using hsz, hBput i o a v ho hB, hRt _ _ _ hR hRw, ?_, ?_⟩
    · rw [show ops.size - open_ (listed.setIfInBounds i true) = ops.size - open_ listed + 1 by omega]; exact hJw
    · intro j oj d hj hd hl
      by_cases hij : j = i
      · subst hij
        rw [ho] at hj
        cases hj
        have hdsz := hBsz _ _ _ d ho hd hB
        have e : (a.put o.dst v).tmps.getD d undef = v := by rw [hd]; simp [Act.put, hdsz]
        rw [e]
        exact hv d hd
      · have hl' : listed.getD j false = true := by
          simpa [Array.getD_eq_getD_getElem?, Array.getElem?_setIfInBounds, Ne.symm hij] using hl
        have hne : o.dst ≠ some d := by
          intro e
          have hp := hplain
          unfold plainB at hp
          rw [List.all_eq_true] at hp
          have h1 := hp j (by rw [List.mem_range]; exact (Array.getElem?_eq_some_iff.1 hj).1)
          rw [List.all_eq_true] at h1
          have h2 := h1 i (by rw [List.mem_range]; exact hlt)
          simp [hj, ho, hd, e, hij] at h2
        have e : (a.put o.dst v).tmps.getD d undef = a.tmps.getD d undef := by
          cases ho' : o.dst with
          | none => simp [Act.put]
          | some c =>
            have hcd : c ≠ d := fun e => hne (by rw [ho', e])
            simp [Act.put, Array.getD_eq_getD_getElem?, hcd]
        rw [e]
        exact hT _ _ _ _ (hS j oj d hj hd hl') hRw
  · rintro listed a w ⟨hsz, hB, hR, hJ, hS⟩ hr
    have hlow' : ∀ (i : Nat) (o : Oper), ops[i]? = some o → ∀ e ∈ o.after, Region.binds .any e = true → e.on < i := by
      intro i o hi e he hbi
      have h1 := hlow
      unfold lowB at h1
      rw [List.all_eq_true] at h1
      have h2 := h1 i (by rw [List.mem_range]; exact (Array.getElem?_eq_some_iff.1 hi).1)
      rw [hi] at h2
      simp only [Option.map_some, Option.getD_some, Array.all_eq_true_iff_forall_mem] at h2
      have h3 := h2 e he
      rw [hbi] at h3
      simpa using h3
    have hall : ∀ n i, i ≤ n → i < ops.size → listed.getD i false = true := by
      intro n
      induction n using Nat.strongRecOn with
      | _ n ih =>
        intro i hin hi
        apply Classical.byContradiction
        intro hn
        have hun : listed.getD i true = false := by
          have hlt : i < listed.size := by omega
          simp [hlt] at hn ⊢
          exact hn
        obtain ⟨o, ho⟩ : ∃ o, ops[i]? = some o := ⟨ops[i], Array.getElem?_eq_getElem hi⟩
        have : i ∈ Region.ready .any ops listed := mem_ready.2 ⟨hun, o, ho, fun e he hbi => by
          have hlt := hlow' i o ho e he hbi
          exact ih e.on (by omega) e.on (Nat.le_refl _) (by omega)⟩
        rw [hr] at this
        cases this
    have h0 : open_ listed = 0 := by
      unfold open_
      rw [List.count_eq_zero]
      intro hmem
      obtain ⟨i, hi, he⟩ := List.getElem_of_mem hmem
      have hi' : i < listed.size := by simpa using hi
      have := hall i i (Nat.le_refl _) (by omega)
      simp [hi'] at this he
      rw [this] at he
      cases he
    rw [h0, Nat.sub_zero] at hJ
    exact hend a w hB hR hJ (fun i o d hi hd => hS i o d hi hd (hall i i (Nat.le_refl _) (Array.getElem?_eq_some_iff.1 hi).1))

/-- Every slot that is written is another one than p0, and below n; nothing is guarded. -/
def slotsB (ops : Array Oper) (p0 n : Nat) : Bool := ops.all fun o => o.guard.isNone && (match o.dst with | some d => d != p0 && decide (d < n) | none => true)

def BB (p0 n : Nat) (v0 : Value) (a : Act) : Prop := a.tmps.size = n ∧ a.tmps.getD p0 undef = v0 ∧ a.defers = []

theorem wp_region_reader {P : Program} {ops : Array Oper} {Q : Exit → Act → World → Prop} {id : Nat} {a0 : Act} {w0 : World} (hm : P.follows .mixedOrders = true)
    (T : Nat → Value → World → Prop) (R : World → World → Prop) (J : Nat → World → Prop) (p0 n : Nat) (v0 : Value)
    (hplain : plainB ops = true) (hlow : lowB ops = true) (hs : slotsB ops p0 n = true)
    (hT : ∀ d v w w', T d v w → R w w' → T d v w') (hR0 : R w0 w0.drew) (hRt : ∀ u v w, R u v → R v w → R u w) (hJ0 : J 0 w0.drew) (hB0 : BB p0 n v0 a0)
    (hops : ∀ (i : Nat) (o : Oper) (a : Act) (w : World) (k : Nat), ops[i]? = some o → BB p0 n v0 a → J k w → k < ops.size →
      (∀ e ∈ o.after, Region.binds .any e = true → ∀ oe d, ops[e.on]? = some oe → oe.dst = some d → T d (a.tmps.getD d undef) w) →
      o.wp P a w (fun a' w' => ∃ v, a' = a.put o.dst v ∧ (∀ d, o.dst = some d → T d v w') ∧ R w w' ∧ J (k + 1) w') Q)
    (hend : ∀ (a : Act) (w : World), BB p0 n v0 a → R w0 w → J ops.size w → (∀ (i : Nat) (o : Oper) d, ops[i]? = some o → o.dst = some d → T d (a.tmps.getD d undef) w) → Q .normal a w) :
    (Code.region id ops true).wp P Q a0 w0 := by
  have hsl : ∀ (i : Nat) (o : Oper), ops[i]? = some o → o.guard = none ∧ ∀ d, o.dst = some d → d ≠ p0 ∧ d < n := by
    intro i o hi
    have h1 := hs
    unfold slotsB at h1
    rw [Array.all_eq_true_iff_forall_mem] at h1
    have h2 := h1 o (Array.mem_of_getElem? hi)
    rw [Bool.and_eq_true] at h2
    refine ⟨by simpa using h2.1, fun d hd => ?_⟩
    have h3 := h2.2
    rw [hd] at h3
    simpa using h3
  refine wp_region_slots hm T R J (BB p0 n v0) hplain hlow (fun i o hi => (hsl i o hi).1) hT hR0 hRt hJ0 hB0 ?_ ?_ hops hend
  · rintro i o a v hi ⟨h1, h2, h3⟩
    cases hd : o.dst with
    | none => exact ⟨h1, h2, h3⟩
    | some d =>
      have hne := ((hsl i o hi).2 d hd).1
      refine ⟨by simpa [Act.put] using h1, ?_, h3⟩
      rw [← h2]
      simp [Act.put, Array.getD_eq_getD_getElem?, hne]
  · rintro i o a d hi hd ⟨h1, h2, h3⟩
    rw [h1]
    exact ((hsl i o hi).2 d hd).2

#print axioms wp_region_reader
end Go.Proofs.Ytjdpabiodalfkaa
