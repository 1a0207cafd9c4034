/-
  A region that draws its order and whose last operation waits for all others: those ahead of it keep an invariant, whatever order is drawn, and the last one ends it.
-/
import Derived.Test.YteiojanamkndmaaGreatFnExactMemJoinB16
import Derived.Test.YteiojanamkndmaaGreatFnExactMemJoinB9
import Derived.Test.YteiojanamkndmaaGreatFnExactMemJoinB11
import Derived.ArgAppend
import Derived.Deep.Upon
namespace Go.Proofs.YteiojanamkndmaaGreat

/-- Every operation but the last is waited for by a later one. -/
def lastB (ops : Array Oper) : Bool :=
  (List.range (ops.size - 1)).all fun i => (List.range ops.size).any fun j => decide (i < j) && (((ops[j]?).map (·.after.any fun e => Region.binds .any e && e.on == i)).getD false)

theorem lastB_next {ops : Array Oper} (h : lastB ops = true) {i : Nat} (hi : i < ops.size - 1) : ∃ (j : Nat) (o : Oper) (e : _), i < j ∧ ops[j]? = some o ∧ e ∈ o.after ∧ Region.binds .any e = true ∧ e.on = i := by
  unfold lastB at h
  rw [List.all_eq_true] at h
  have h1 := h i (by rw [List.mem_range]; exact hi)
  rw [List.any_eq_true] at h1
  obtain ⟨j, hj, h2⟩ := h1
  rw [Bool.and_eq_true] at h2
  obtain ⟨h3, h4⟩ := h2
  cases ho : ops[j]? with
  | none => rw [ho] at h4; cases h4
  | some o =>
    rw [ho] at h4
    simp only [Option.map_some, Option.getD_some, Array.any_eq_true'] at h4
    obtain ⟨e, he, h5⟩ := h4
    rw [Bool.and_eq_true] at h5
    exact ⟨j, o, e, by simpa using h3, ho, he, h5.1, by simpa using h5.2⟩

theorem listed_of_not {l : Array Bool} {i : Nat} (hi : i < l.size) (h : ¬ l.getD i false = true) : l.getD i true = false := by
  simp [hi] at h ⊢
  exact h

theorem wp_region_last {P : Program} {ops : Array Oper} {Q : Exit → Act → World → Prop} {id : Nat} {a0 : Act} {w0 : World} (hm : P.follows .mixedOrders = true)
    (T : Nat → Value → World → Prop) (J : Bool → World → Prop) (B : Act → Prop) (p : Nat)
    (hplain : plainB ops = true) (hlow : lowB ops = true) (hlastB : lastB ops = true) (hpos : 0 < ops.size) (hg : ∀ (i : Nat) (o : Oper), ops[i]? = some o → o.guard = none)
    (hp : p < ops.size - 1) (hJ0 : J false w0.drew)
    (hB0 : B a0) (hBput : ∀ (i : Nat) (o : Oper) (a : Act) (v : Value), ops[i]? = some o → B a → B (a.put o.dst v)) (hBsz : ∀ (i : Nat) (o : Oper) (a : Act) d, ops[i]? = some o → o.dst = some d → B a → d < a.tmps.size)
    (hops : ∀ (i : Nat) (o : Oper) (a : Act) (w : World) (b : Bool), i < ops.size - 1 → ops[i]? = some o → B a → J b w → (i = p → b = false) →
      (∀ e ∈ o.after, Region.binds .any e = true → ∀ oe d, ops[e.on]? = some oe → oe.dst = some d → T d (a.tmps.getD d undef) w) →
      o.wp P a w (fun a' w' => ∃ v, a' = a.put o.dst v ∧ (∀ d, o.dst = some d → T d v w') ∧ (∀ d x, o.dst ≠ some d → T d x w → T d x w') ∧ J (b || i == p) w') Q)
    (hlast : ∀ (o : Oper) (a : Act) (w : World), ops[ops.size - 1]? = some o → B a → J true w → (∀ (i : Nat) (o : Oper) d, i < ops.size - 1 → ops[i]? = some o → o.dst = some d → T d (a.tmps.getD d undef) w) →
      o.wp P a w (fun a' w' => Q .normal a' w') Q) :
    (Code.region id ops true).wp P Q a0 w0 := by
  refine wp_region_inv hm (fun listed a w => listed.size = ops.size ∧ (∀ (j : Nat) (o : Oper), ops[j]? = some o → listed.getD j false = true → ∀ e ∈ o.after, Region.binds .any e = true → listed.getD e.on false = true) ∧
    (listed.getD (ops.size - 1) false = true → Q .normal a w) ∧ (¬ listed.getD (ops.size - 1) false = true → B a ∧ J (listed.getD p false) w ∧ Slots ops T listed a w)) ?_ ?_ ?_
  · have hno : ∀ j, ¬ (Array.replicate ops.size false).getD j false = true := by
      intro j hl
      rw [Array.getD_eq_getD_getElem?, Array.getElem?_replicate] at hl
      split at hl <;> simp at hl
    exact ⟨by simp, fun j o _ hl => absurd hl (hno j), fun hl => absurd hl (hno _), fun _ => ⟨hB0, by rw [Bool.eq_false_iff.2 (hno p)]; exact hJ0, fun i o d _ _ hl => absurd hl (hno i)⟩⟩
  · rintro listed a w i ⟨hsz, hcl, hdone, hun0⟩ hi
    obtain ⟨hun, o, ho, hall⟩ := mem_ready.1 hi
    have hlt : i < ops.size := (Array.getElem?_eq_some_iff.1 ho).1
    have hnl : ¬ listed.getD i false = true := by
      have : i < listed.size := by omega
      simp [this] at hun ⊢
      exact hun
    have hup : ∀ n j, ops.size - 1 - j ≤ n → j < ops.size - 1 → ¬ listed.getD j false = true → ¬ listed.getD (ops.size - 1) false = true ∧ (i = ops.size - 1 → False) := by
      intro n
      induction n with
      | zero => intro j h1 h2; omega
      | succ n ih =>
        intro j h1 h2 h3
        obtain ⟨k, ok, e, hjk, hok, he, hb, hon⟩ := lastB_next hlastB h2
        have hk : k < ops.size := (Array.getElem?_eq_some_iff.1 hok).1
        have hkn : ¬ listed.getD k false = true := fun hl => h3 (by have := hcl k ok hok hl e he hb; rwa [hon] at this)
        by_cases hkl : k = ops.size - 1
        · refine ⟨by rw [← hkl]; exact hkn, fun hil => ?_⟩
          have : k = i := by omega
          subst this
          rw [ho] at hok
          cases hok
          exact h3 (by have := hall e he hb; rwa [hon] at this)
        · exact ih k (by omega) (by omega) hkn
    have hw : Region.wanted o (yielded ops a.tmps) = true := by unfold Region.wanted; rw [hg i o ho]
    have hcl' : ∀ (j : Nat) (oj : Oper), ops[j]? = some oj → (listed.setIfInBounds i true).getD j false = true → ∀ e ∈ oj.after, Region.binds .any e = true → (listed.setIfInBounds i true).getD e.on false = true := by
      intro j oj hj hl e he hb
      have hmono : ∀ x, listed.getD x false = true → (listed.setIfInBounds i true).getD x false = true := by
        intro x hx
        by_cases hxi : i = x
        · subst hxi; exact absurd hx hnl
        · simpa [Array.getD_eq_getD_getElem?, Array.getElem?_setIfInBounds, hxi] using hx
      by_cases hji : i = j
      · subst hji
        rw [ho] at hj
        cases hj
        exact hmono _ (hall e he hb)
      · exact hmono _ (hcl j oj hj (by simpa [Array.getD_eq_getD_getElem?, Array.getElem?_setIfInBounds, hji] using hl) e he hb)
    by_cases hil : i = ops.size - 1
    · have hfront : ∀ j, j < ops.size - 1 → listed.getD j false = true := by
        intro j hj
        apply Classical.byContradiction
        intro hn
        exact (hup _ j (Nat.le_refl _) hj hn).2 hil
      have hnl' : ¬ listed.getD (ops.size - 1) false = true := by rw [← hil]; exact hnl
      obtain ⟨hB, hJ, hS⟩ := hun0 hnl'
      rw [hfront p hp] at hJ
      unfold wpOp
      rw [ho]
      simp only [hw, if_true]
      refine .inl (Oper.wp_mono ?_ (hlast o a w (by rw [← hil]; exact ho) hB hJ (fun j oj d hj hoj hd => hS j oj d hoj hd (hfront j hj))))
      intro a' w' hQ
      refine ⟨by simpa using hsz, hcl', fun _ => hQ, fun hn => ?_⟩
      exfalso
      apply hn
      rw [← hil]
      have : i < listed.size := by omega
      simp [this]
    · have hi1 : i < ops.size - 1 := by omega
      have hnl' := (hup _ i (Nat.le_refl _) hi1 hnl).1
      obtain ⟨hB, hJ, hS⟩ := hun0 hnl'
      unfold wpOp
      rw [ho]
      simp only [hw, if_true]
      refine .inl (Oper.wp_mono ?_ (hops i o a w _ hi1 ho hB hJ (fun e => by subst e; exact Bool.eq_false_iff.2 hnl) (fun e he hb oe d hoe hd => hS e.on oe d hoe hd (hall e he hb))))
      rintro a' w' ⟨v, rfl, hv, hTk, hJw⟩
      refine ⟨by simpa using hsz, hcl', fun hl => ?_, fun _ => ⟨hBput i o a v ho hB, ?_, ?_⟩⟩
      · exfalso
        apply hnl'
        simpa [Array.getD_eq_getD_getElem?, Array.getElem?_setIfInBounds, hil] using hl
      · have e : (listed.setIfInBounds i true).getD p false = (listed.getD p false || i == p) := by
          by_cases hip : i = p
          · subst hip
            have : i < listed.size := by omega
            simp [this]
          · simp [Array.getD_eq_getD_getElem?, hip]
        rw [e]; exact hJw
      · intro j oj d hj hd hl
        by_cases hij : j = i
        · subst hij
          rw [ho] at hj
          cases hj
          have hdsz := hBsz _ _ _ d ho hd hB
          have e : (a.put o.dst v).tmps.getD d undef = v := by rw [hd]; simp [Act.put, hdsz]
          rw [e]
          exact hv d hd
        · have hl' : listed.getD j false = true := by
            simpa [Array.getD_eq_getD_getElem?, Array.getElem?_setIfInBounds, Ne.symm hij] using hl
          have hne : o.dst ≠ some d := by
            intro e
            have hp := hplain
            unfold plainB at hp
            rw [List.all_eq_true] at hp
            have h1 := hp j (by rw [List.mem_range]; exact (Array.getElem?_eq_some_iff.1 hj).1)
            rw [List.all_eq_true] at h1
            have h2 := h1 i (by rw [List.mem_range]; exact hlt)
            simp [hj, ho, hd, e, hij] at h2
          have e : (a.put o.dst v).tmps.getD d undef = a.tmps.getD d undef := by
            cases ho' : o.dst with
            | none => simp [Act.put]
            | some c =>
              have hcd : c ≠ d := fun e => hne (by rw [ho', e])
              simp [Act.put, Array.getD_eq_getD_getElem?, hcd]
          rw [e]
          exact hTk _ _ hne (hS j oj d hj hd hl')
  · rintro listed a w ⟨hsz, hcl, hdone, hun0⟩ hr
    apply hdone
    have hlow' : ∀ (i : Nat) (o : Oper), ops[i]? = some o → ∀ e ∈ o.after, Region.binds .any e = true → e.on < i := by
      intro i o hi e he hbi
      have h1 := hlow
      unfold lowB at h1
      rw [List.all_eq_true] at h1
      have h2 := h1 i (by rw [List.mem_range]; exact (Array.getElem?_eq_some_iff.1 hi).1)
      rw [hi] at h2
      simp only [Option.map_some, Option.getD_some, Array.all_eq_true_iff_forall_mem] at h2
      have h3 := h2 e he
      rw [hbi] at h3
      simpa using h3
    have hall : ∀ n i, i ≤ n → i < ops.size → listed.getD i false = true := by
      intro n
      induction n using Nat.strongRecOn with
      | _ n ih =>
        intro i hin hi
        apply Classical.byContradiction
        intro hn
        have hun : listed.getD i true = false := listed_of_not (by omega) hn
        obtain ⟨o, ho⟩ : ∃ o, ops[i]? = some o := ⟨ops[i], Array.getElem?_eq_getElem hi⟩
        have : i ∈ Region.ready .any ops listed := mem_ready.2 ⟨hun, o, ho, fun e he hbi => by
          have hlt := hlow' i o ho e he hbi
          exact ih e.on (by omega) e.on (Nat.le_refl _) (by omega)⟩
        rw [hr] at this
        cases this
    exact hall _ _ (Nat.le_refl _) (by omega)

/-- What no operation of a region writes stays; so many slots there are. -/
def KB (ops : Array Oper) (n : Nat) (a0 : Act) (a : Act) : Prop := a.tmps.size = n ∧ a.defers = a0.defers ∧ ∀ d, (ops.all fun o => o.dst != some d) = true → a.tmps.getD d undef = a0.tmps.getD d undef
def fitsB (ops : Array Oper) (n : Nat) : Bool := ops.all fun o => o.guard.isNone && (match o.dst with | some d => decide (d < n) | none => true)

theorem wp_region_end {P : Program} {ops : Array Oper} {Q : Exit → Act → World → Prop} {id : Nat} {a0 : Act} {w0 : World} (hm : P.follows .mixedOrders = true)
    (T : Nat → Value → World → Prop) (J : Bool → World → Prop) (n p : Nat)
    (hplain : plainB ops = true) (hlow : lowB ops = true) (hlastB : lastB ops = true) (hpos : 0 < ops.size) (hfits : fitsB ops n = true) (hn : a0.tmps.size = n)
    (hp : p < ops.size - 1) (hJ0 : J false w0.drew)
    (hops : ∀ (i : Nat) (o : Oper) (a : Act) (w : World) (b : Bool), i < ops.size - 1 → ops[i]? = some o → KB ops n a0 a → J b w → (i = p → b = false) →
      (∀ e ∈ o.after, Region.binds .any e = true → ∀ oe d, ops[e.on]? = some oe → oe.dst = some d → T d (a.tmps.getD d undef) w) →
      o.wp P a w (fun a' w' => ∃ v, a' = a.put o.dst v ∧ (∀ d, o.dst = some d → T d v w') ∧ (∀ d x, o.dst ≠ some d → T d x w → T d x w') ∧ J (b || i == p) w') Q)
    (hlast : ∀ (o : Oper) (a : Act) (w : World), ops[ops.size - 1]? = some o → KB ops n a0 a → J true w → (∀ (i : Nat) (o : Oper) d, i < ops.size - 1 → ops[i]? = some o → o.dst = some d → T d (a.tmps.getD d undef) w) →
      o.wp P a w (fun a' w' => Q .normal a' w') Q) :
    (Code.region id ops true).wp P Q a0 w0 := by
  have hsl : ∀ (i : Nat) (o : Oper), ops[i]? = some o → o.guard = none ∧ ∀ d, o.dst = some d → d < n := by
    intro i o hi
    have h1 := hfits
    unfold fitsB at h1
    rw [Array.all_eq_true_iff_forall_mem] at h1
    have h2 := h1 o (Array.mem_of_getElem? hi)
    rw [Bool.and_eq_true] at h2
    refine ⟨by simpa using h2.1, fun d hd => ?_⟩
    have h3 := h2.2
    rw [hd] at h3
    simpa using h3
  refine wp_region_last hm T J (KB ops n a0) p hplain hlow hlastB hpos (fun i o hi => (hsl i o hi).1) hp hJ0 ⟨hn, rfl, fun _ _ => rfl⟩ ?_ ?_ hops hlast
  · rintro i o a v hi ⟨h1, h2, h3⟩
    cases hd : o.dst with
    | none => exact ⟨h1, h2, h3⟩
    | some d =>
      refine ⟨by simpa [Act.put] using h1, h2, fun x hx => ?_⟩
      have hne : d ≠ x := by
        intro e
        rw [Array.all_eq_true_iff_forall_mem] at hx
        have := hx o (Array.mem_of_getElem? hi)
        rw [hd, e] at this
        simp at this
      rw [← h3 x hx]
      simp [Act.put, Array.getD_eq_getD_getElem?, hne]
  · rintro i o a d hi hd ⟨h1, h2, h3⟩
    rw [h1]
    exact (hsl i o hi).2 d hd

#print axioms wp_region_end
end Go.Proofs.YteiojanamkndmaaGreat
/-
  A region that draws its order, whose operations make memory but write none that was there, but for the last one, which waits for all: whatever order is drawn, what each yields is told by a relation that every later world keeps; behind it the slots are laid open.
-/
namespace Go.Proofs.YteiojanamkndmaaGreat
open Go.RowKit

/-- Values put into slots, one behind the other. -/
def putAll : Act → List (Nat × Value) → Act
  | a, [] => a
  | a, (d, v) :: r => putAll (a.put (some d) v) r
theorem putAll_size : ∀ (l : List (Nat × Value)) (a : Act), (putAll a l).tmps.size = a.tmps.size ∧ (putAll a l).defers = a.defers
  | [], _ => ⟨rfl, rfl⟩
  | (d, v) :: r, a => by
    have := putAll_size r (a.put (some d) v)
    exact ⟨by rw [putAll, this.1]; simp [Act.put], by rw [putAll, this.2]; rfl⟩
theorem putAll_get (f : Nat → Value) : ∀ (ds : List Nat) (a : Act) (x : Nat), x < a.tmps.size → (putAll a (ds.map fun d => (d, f d))).tmps.getD x undef = if x ∈ ds then f x else a.tmps.getD x undef
  | [], _, _, _ => by simp [putAll]
  | d :: ds, a, x, hx => by
    rw [List.map_cons, putAll, putAll_get f ds _ x (by simpa [Act.put] using hx)]
    by_cases h1 : x ∈ ds
    · rw [if_pos h1, if_pos (List.mem_cons_of_mem _ h1)]
    · rw [if_neg h1]
      by_cases h2 : x = d
      · subst h2
        rw [if_pos List.mem_cons_self]
        simp [Act.put, hx]
      · rw [if_neg (by simp [h1, h2])]
        simp [Act.put, Array.getD_eq_getD_getElem?, Ne.symm h2]
/-- The slots that a region writes. -/
def dstsOf (ops : Array Oper) : List Nat := ops.toList.filterMap (·.dst)
theorem act_open {ops : Array Oper} {n : Nat} {a0 a : Act} (h : KB ops n a0 a) (hn : a0.tmps.size = n) {ds : List Nat} (hd : dstsOf ops = ds) : a = putAll a0 (ds.map fun d => (d, a.tmps.getD d undef)) := by
  obtain ⟨h1, h2, h3⟩ := h
  have hs := putAll_size (ds.map fun d => (d, a.tmps.getD d undef)) a0
  obtain ⟨tm, df⟩ := a
  have key : ∀ x, x < n → tm.getD x undef = (putAll a0 (ds.map fun d => (d, tm.getD d undef))).tmps.getD x undef := by
    intro x hx
    rw [putAll_get (fun d => tm.getD d undef) ds a0 x (by omega)]
    by_cases hm : x ∈ ds
    · rw [if_pos hm]
    · rw [if_neg hm]
      refine h3 x ?_
      rw [Array.all_eq_true_iff_forall_mem]
      intro o ho
      simp only [bne_iff_ne, ne_eq]
      intro e
      refine hm ?_
      rw [← hd]
      exact List.mem_filterMap.2 ⟨o, by simpa using ho, e⟩
  generalize putAll a0 (ds.map fun d => (d, tm.getD d undef)) = b at hs key
  obtain ⟨tm2, df2⟩ := b
  simp only at h1 h2 hs key
  have e1 : tm = tm2 := by
    apply Array.ext
    · omega
    · intro i hi1 hi2
      have := key i (by omega)
      simpa [Array.getD_eq_getD_getElem?, hi1, hi2] using this
  rw [e1, h2, ← hs.2]

theorem wp_region_lit {P : Program} {ops : Array Oper} {Q : Exit → Act → World → Prop} {id : Nat} {a0 : Act} {w0 : World} (hm : P.follows .mixedOrders = true)
    (T : Nat → Value → World → Prop) (n : Nat)
    (hplain : plainB ops = true) (hlow : lowB ops = true) (hlastB : lastB ops = true) (hpos : 1 < ops.size) (hfits : fitsB ops n = true) (hn : a0.tmps.size = n)
    (hT : ∀ d v w w', Later w w' → T d v w → T d v w')
    (hops : ∀ (i : Nat) (o : Oper) (a : Act) (w : World), i < ops.size - 1 → ops[i]? = some o → KB ops n a0 a → Later w0.drew w →
      (∀ e ∈ o.after, Region.binds .any e = true → ∀ oe d, ops[e.on]? = some oe → oe.dst = some d → T d (a.tmps.getD d undef) w) →
      o.wp P a w (fun a' w' => ∃ v, a' = a.put o.dst v ∧ (∀ d, o.dst = some d → T d v w') ∧ Later w w') Q)
    (hlast : ∀ (o : Oper) (a : Act) (w : World), ops[ops.size - 1]? = some o → KB ops n a0 a → Later w0.drew w → (∀ (i : Nat) (o : Oper) d, i < ops.size - 1 → ops[i]? = some o → o.dst = some d → T d (a.tmps.getD d undef) w) →
      o.wp P a w (fun a' w' => Q .normal a' w') Q) :
    (Code.region id ops true).wp P Q a0 w0 := by
  refine wp_region_end hm T (fun _ w => Later w0.drew w) n 0 hplain hlow hlastB (by omega) hfits hn (by omega) (laterPre.refl _) ?_ ?_
  · intro i o a w b hi ho hK hJ _ hd
    refine Oper.wp_mono ?_ (hops i o a w hi ho hK hJ hd)
    rintro a' w' ⟨v, h1, h2, h3⟩
    exact ⟨v, h1, h2, fun d x _ hx => hT d x w w' h3 hx, laterPre.trans _ _ _ hJ h3⟩
  · intro o a w ho hK hJ hd
    exact hlast o a w ho hK hJ hd
#print axioms wp_region_lit
end Go.Proofs.YteiojanamkndmaaGreat
/-
  append onto a slice of the call's own that has no room to spare: nothing that was there is written. No Go function in it.
-/
namespace Go.Proofs.YteiojanamkndmaaGreat
open Go.RowKit

theorem later_grown {w w' : World} (h : w.grownBy w' none) : Later w w' := (Below.refl _ _).grown h (Nat.le_refl _) (fun k hk => by cases hk)
section
variable {P : Program} (w : World)
theorem run_append_full (base : Nat) (t ty e : TypeId) (i : TypeInfo) (z : Value) (size bytes : Nat) (ht : P.underlying t = some (.slice e)) (hi : P.info? e = some i) (hz : i.zero = some z)
    (hsize : i.size = size) (hby : i.bytes = bytes) (hzs : z.cells.size = size) (hsz : 0 < size)
    (g n : Nat) (xs : List Value) (hown : w.ownsRow base e size (.slice (some ⟨g, 0, none⟩) n n) n xs)
    (y : Value) (m : Nat) (news : List Value)
    (hy : (y = .slice none 0 0 ∧ m = 0 ∧ news = []) ∨ ∃ ad c, y = .slice (some ad) m c ∧ news.length = m * size ∧ ∀ j u, news[j]? = some u → w.cell? (ad.add j) = some u)
    (h63 : n + m ≤ maxLen) (hbytes : (n + m) * bytes ≤ 140737488355328) (hbase : base ≤ w.heap.size) :
    ∃ g' c' w', (Builtin.append_ #[t, t] ty #[.slice (some ⟨g, 0, none⟩) n n, y]).run P w = .ok (.slice (some ⟨g', 0, none⟩) (n + m) c') w' ∧ w'.ownsRow base e size (.slice (some ⟨g', 0, none⟩) (n + m) c') (n + m) (xs ++ news) ∧ Later w w' := by
  rcases hy with ⟨rfl, rfl, rfl⟩ | ⟨ad, c, rfl, hl, hnews⟩
  · refine ⟨g, n, w, ?_, by simpa using hown, laterPre.refl _⟩
    exact run_append_owned_none w base t ty e i size ht hi _ n xs hown
  · by_cases hm : m = 0
    · subst hm
      have hn : news = [] := List.eq_nil_of_length_eq_zero (by simpa using hl)
      subst hn
      refine ⟨g, n, w, ?_, by simpa using hown, laterPre.refl _⟩
      simp [Builtin.append_, run_underlying ht, sizeOf, typeInfo, hi, Builtin.lenOf, Builtin.firstCells, loadCells, loadCellsFrom, storeCells]
    · have holds : ∀ j u, xs[j]? = some u → w.cell? ((⟨g, 0, none⟩ : Addr).add j) = some u := hown.cells (g := g) rfl
      obtain ⟨v', w', h1, h2, h3⟩ := run_append_arg_grows (P := P) w t ty e i z size bytes ht hi hz hsize hby hzs hsz ⟨g, 0, none⟩ n n xs hown.1 holds ad m c news hl hnews (by omega) h63 hbytes
      rcases h2.2 with ⟨rfl, q⟩ | ⟨g', cap, cur, rfl, q1, q2, q3⟩
      · omega
      · exact ⟨g', cap, w', h1, ⟨h2.1, .inr ⟨g', cap, cur, rfl, Nat.le_trans hbase q1, q2, q3⟩⟩, later_grown h3⟩
theorem wp_append_full {o : Oper} {a : Act} {K : Act → World → Prop} {Q : Exit → Act → World → Prop} (s x : Operand) (t : TypeId)
    (ho : o.op = .call { callee := .builtin .append, args := #[s, x], argTypes := #[t, t] })
    (base : Nat) (e : TypeId) (i : TypeInfo) (z : Value) (size bytes : Nat) (ht : P.underlying t = some (.slice e)) (hi : P.info? e = some i) (hz : i.zero = some z)
    (hsize : i.size = size) (hby : i.bytes = bytes) (hzs : z.cells.size = size) (hsz : 0 < size)
    (g n : Nat) (xs : List Value) (hs : a.eval s = .slice (some ⟨g, 0, none⟩) n n) (hown : w.ownsRow base e size (.slice (some ⟨g, 0, none⟩) n n) n xs)
    (y : Value) (m : Nat) (news : List Value) (hx : a.eval x = y)
    (hy : (y = .slice none 0 0 ∧ m = 0 ∧ news = []) ∨ ∃ ad c, y = .slice (some ad) m c ∧ news.length = m * size ∧ ∀ j u, news[j]? = some u → w.cell? (ad.add j) = some u)
    (h63 : n + m ≤ maxLen) (hbytes : (n + m) * bytes ≤ 140737488355328) (hbase : base ≤ w.heap.size)
    (h : ∀ g' c' w', w'.ownsRow base e size (.slice (some ⟨g', 0, none⟩) (n + m) c') (n + m) (xs ++ news) → Later w w' → K (a.put o.dst (.slice (some ⟨g', 0, none⟩) (n + m) c')) w') : o.wp P a w K Q := by
  obtain ⟨g', c', w', hr, h2, h3⟩ := run_append_full (P := P) w base t o.type e i z size bytes ht hi hz hsize hby hzs hsz g n xs hown y m news hy h63 hbytes hbase
  unfold Oper.wp execOp
  simp only [ho, resolve, invoke, builtin, Sem.run_bind, Sem.run_pure, Result.andThen_ok, List.map_toArray, List.map_cons, List.map_nil, hs, hx, hr]
  exact h g' c' w' h2 h3
theorem wpList_append_full {ops : Array Oper} {rest : List Oper} {o : Oper} {a : Act} {Q : Exit → Act → World → Prop} (hgd : o.guard = none) (s x : Operand) (t : TypeId)
    (ho : o.op = .call { callee := .builtin .append, args := #[s, x], argTypes := #[t, t] })
    (base : Nat) (e : TypeId) (i : TypeInfo) (z : Value) (size bytes : Nat) (ht : P.underlying t = some (.slice e)) (hi : P.info? e = some i) (hz : i.zero = some z)
    (hsize : i.size = size) (hby : i.bytes = bytes) (hzs : z.cells.size = size) (hsz : 0 < size)
    (g n : Nat) (xs : List Value) (hs : a.eval s = .slice (some ⟨g, 0, none⟩) n n) (hown : w.ownsRow base e size (.slice (some ⟨g, 0, none⟩) n n) n xs)
    (y : Value) (m : Nat) (news : List Value) (hx : a.eval x = y)
    (hy : (y = .slice none 0 0 ∧ m = 0 ∧ news = []) ∨ ∃ ad c, y = .slice (some ad) m c ∧ news.length = m * size ∧ ∀ j u, news[j]? = some u → w.cell? (ad.add j) = some u)
    (h63 : n + m ≤ maxLen) (hbytes : (n + m) * bytes ≤ 140737488355328) (hbase : base ≤ w.heap.size)
    (h : ∀ g' c' w', w'.ownsRow base e size (.slice (some ⟨g', 0, none⟩) (n + m) c') (n + m) (xs ++ news) → Later w w' → wpList P ops Q rest (a.put o.dst (.slice (some ⟨g', 0, none⟩) (n + m) c')) w') : wpList P ops Q (o :: rest) a w :=
  wpList_plain hgd fun _ hK => wp_append_full w s x t ho base e i z size bytes ht hi hz hsize hby hzs hsz g n xs hs hown y m news hx hy h63 hbytes hbase (fun g' c' w' h1 h2 => hK _ _ (h g' c' w' h1 h2))
end
/-- What a row of the call's own is as what is appended. -/
theorem own_news {w : World} {B : Nat} {e : TypeId} {size : Nat} {v : Value} {n : Nat} {xs : List Value} (h : w.ownsRow B e size v n xs) :
    (v = .slice none 0 0 ∧ n = 0 ∧ xs = []) ∨ ∃ ad c, v = .slice (some ad) n c ∧ xs.length = n * size ∧ ∀ j u, xs[j]? = some u → w.cell? (ad.add j) = some u := by
  rcases h.2 with ⟨h1, h2⟩ | ⟨g, cap, cur, h1, _⟩
  · subst h2
    exact .inl ⟨h1, rfl, List.eq_nil_of_length_eq_zero (by simpa using h.1)⟩
  · subst h1
    exact .inr ⟨_, cap, rfl, h.1, h.cells (g := g) rfl⟩
theorem later_alloc (w : World) (o : Obj) : Later w (w.alloc o) := (Below.refl _ _).alloc (Nat.le_refl _) _
#print axioms wpList_append_full
end Go.Proofs.YteiojanamkndmaaGreat
