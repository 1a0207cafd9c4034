/-
  A region that draws its order, whose operations make memory but write none that was there, but for the last one: two of its new rows lie apart.
-/
import Derived.RangeFuncRecord
import Derived.Test.YtdfpeaenbmgihaaGreatWB18
namespace Go.Proofs.YtdfpeaenbmgihaaGreat
set_option maxHeartbeats 64000000
set_option maxRecDepth 100000
open Go.RowKit
def Apart2 (d1 d2 : Nat) (a : Act) : Prop := ∀ b, (a.tmps.getD d1 undef).ownBlock = some b → (a.tmps.getD d2 undef).ownBlock ≠ some b
def PairI (ops : Array Oper) (d1 d2 : Nat) (listed : Array Bool) (a : Act) : Prop := (∃ i o, ops[i]? = some o ∧ o.dst = some d1 ∧ listed.getD i false = true) → (∃ i o, ops[i]? = some o ∧ o.dst = some d2 ∧ listed.getD i false = true) → Apart2 d1 d2 a
theorem wp_region_pair {P : Program} {ops : Array Oper} {Q : Exit → Act → World → Prop} {id : Nat} {a0 : Act} {w0 : World} (hm : P.follows .mixedOrders = true) (T : Nat → Value → World → Prop) (J : Bool → World → Prop) (B : Act → Prop) (p : Nat) (hplain : plainB ops = true) (hlow : lowB ops = true) (hlastB : lastB ops = true) (hpos : 0 < ops.size) (d1 d2 : Nat) (h12 : d1 ≠ d2) (hTlt : ∀ v w, T d1 v w ∨ T d2 v w → ∀ b, v.ownBlock = some b → b < w.heap.size) (hg : ∀ (i : Nat) (o : Oper), ops[i]? = some o → o.guard = none) (hp : p < ops.size - 1) (hJ0 : J false w0.drew) (hB0 : B a0) (hBput : ∀ (i : Nat) (o : Oper) (a : Act) (v : Value), ops[i]? = some o → B a → B (a.put o.dst v)) (hBsz : ∀ (i : Nat) (o : Oper) (a : Act) d, ops[i]? = some o → o.dst = some d → B a → d < a.tmps.size) (hops : ∀ (i : Nat) (o : Oper) (a : Act) (w : World) (b : Bool), i < ops.size - 1 → ops[i]? = some o → B a → J b w → (i = p → b = false) → (∀ e ∈ o.after, Region.binds .any e = true → ∀ oe d, ops[e.on]? = some oe → oe.dst = some d → T d (a.tmps.getD d undef) w) → (∀ e1 ∈ o.after, ∀ e2 ∈ o.after, Region.binds .any e1 = true → Region.binds .any e2 = true → ∀ o1 o2, ops[e1.on]? = some o1 → o1.dst = some d1 → ops[e2.on]? = some o2 → o2.dst = some d2 → Apart2 d1 d2 a) → o.wp P a w (fun a' w' => ∃ v, a' = a.put o.dst v ∧ (∀ d, o.dst = some d → T d v w') ∧ (∀ d x, o.dst ≠ some d → T d x w → T d x w') ∧ J (b || i == p) w' ∧ (o.dst = some d1 ∨ o.dst = some d2 → ∀ b, v.ownBlock = some b → w.heap.size ≤ b)) Q) (hlast : ∀ (o : Oper) (a : Act) (w : World), ops[ops.size - 1]? = some o → B a → J true w → (∀ (i : Nat) (o : Oper) d, i < ops.size - 1 → ops[i]? = some o → o.dst = some d → T d (a.tmps.getD d undef) w) → ((∃ i o, i < ops.size - 1 ∧ ops[i]? = some o ∧ o.dst = some d1) → (∃ i o, i < ops.size - 1 ∧ ops[i]? = some o ∧ o.dst = some d2) → Apart2 d1 d2 a) → o.wp P a w (fun a' w' => Q .normal a' w') Q) : (Code.region id ops true).wp P Q a0 w0 := by
 refine wp_region_inv hm (fun listed a w => listed.size = ops.size ∧ (∀ (j : Nat) (o : Oper), ops[j]? = some o → listed.getD j false = true → ∀ e ∈ o.after, Region.binds .any e = true → listed.getD e.on false = true) ∧ (listed.getD (ops.size - 1) false = true → Q .normal a w) ∧ (¬ listed.getD (ops.size - 1) false = true → B a ∧ J (listed.getD p false) w ∧ Slots ops T listed a w ∧ PairI ops d1 d2 listed a)) ?_ ?_ ?_
 · (have hno : ∀ j, ¬ (Array.replicate ops.size false).getD j false = true := by intro j hl; rw [Array.getD_eq_getD_getElem?, Array.getElem?_replicate] at hl; split at hl <;> simp at hl); exact ⟨by simp, fun j o _ hl => absurd hl (hno j), fun hl => absurd hl (hno _), fun _ => ⟨hB0, by rw [Bool.eq_false_iff.2 (hno p)]; exact hJ0, fun i o d _ _ hl => absurd hl (hno i), fun h => by obtain ⟨i, o, _, _, hl⟩ := h; exact absurd hl (hno i)⟩⟩
 · rintro listed a w i ⟨hsz, hcl, hdone, hun0⟩ hi; obtain ⟨hun, o, ho, hall⟩ := mem_ready.1 hi; have hlt : i < ops.size := (Array.getElem?_eq_some_iff.1 ho).1; have hnl : ¬ listed.getD i false = true := by (have : i < listed.size := by omega); simp [this] at hun ⊢; exact hun
   have hup : ∀ n j, ops.size - 1 - j ≤ n → j < ops.size - 1 → ¬ listed.getD j false = true → ¬ listed.getD (ops.size - 1) false = true ∧ (i = ops.size - 1 → False) := by
    intro n
    induction n with
    | zero => intro j h1 h2; omega
    | succ n ih =>
     intro j h1 h2 h3; obtain ⟨k, ok, e, hjk, hok, he, hb, hon⟩ := lastB_next hlastB h2; have hk : k < ops.size := (Array.getElem?_eq_some_iff.1 hok).1; have hkn : ¬ listed.getD k false = true := fun hl => h3 (by have := hcl k ok hok hl e he hb; rwa [hon] at this); by_cases hkl : k = ops.size - 1
     · refine ⟨by rw [← hkl]; exact hkn, fun hil => ?_⟩; (have : k = i := by omega); subst this; rw [ho] at hok; cases hok; exact h3 (by have := hall e he hb; rwa [hon] at this)
     · exact ih k (by omega) (by omega) hkn
   have hw : Region.wanted o (yielded ops a.tmps) = true := by unfold Region.wanted; rw [hg i o ho]
   have hcl' : ∀ (j : Nat) (oj : Oper), ops[j]? = some oj → (listed.setIfInBounds i true).getD j false = true → ∀ e ∈ oj.after, Region.binds .any e = true → (listed.setIfInBounds i true).getD e.on false = true := by
    intro j oj hj hl e he hb
    have hmono : ∀ x, listed.getD x false = true → (listed.setIfInBounds i true).getD x false = true := by
     intro x hx; by_cases hxi : i = x
     · subst hxi; exact absurd hx hnl
     · simpa [Array.getD_eq_getD_getElem?, Array.getElem?_setIfInBounds, hxi] using hx
    by_cases hji : i = j
    · subst hji; rw [ho] at hj; cases hj; exact hmono _ (hall e he hb)
    · exact hmono _ (hcl j oj hj (by simpa [Array.getD_eq_getD_getElem?, Array.getElem?_setIfInBounds, hji] using hl) e he hb)
   by_cases hil : i = ops.size - 1
   · (have hfront : ∀ j, j < ops.size - 1 → listed.getD j false = true := by intro j hj; apply Classical.byContradiction; intro hn; exact (hup _ j (Nat.le_refl _) hj hn).2 hil); (have hnl' : ¬ listed.getD (ops.size - 1) false = true := by rw [← hil]; exact hnl); obtain ⟨hB, hJ, hS, hP⟩ := hun0 hnl'; rw [hfront p hp] at hJ; unfold wpOp; rw [ho]; simp only [hw, if_true]; refine .inl (Oper.wp_mono ?_ (hlast o a w (by rw [← hil]; exact ho) hB hJ (fun j oj d hj hoj hd => hS j oj d hoj hd (hfront j hj)) (fun h1 h2 => hP (by obtain ⟨j, oj, q1, q2, q3⟩ := h1; exact ⟨j, oj, q2, q3, hfront j q1⟩) (by obtain ⟨j, oj, q1, q2, q3⟩ := h2; exact ⟨j, oj, q2, q3, hfront j q1⟩)))); intro a' w' hQ; refine ⟨by simpa using hsz, hcl', fun _ => hQ, fun hn => ?_⟩; exfalso; apply hn; rw [← hil]; (have : i < listed.size := by omega); simp [this]
   · (have hi1 : i < ops.size - 1 := by omega); have hnl' := (hup _ i (Nat.le_refl _) hi1 hnl).1; obtain ⟨hB, hJ, hS, hP⟩ := hun0 hnl'; unfold wpOp; rw [ho]; simp only [hw, if_true]; refine .inl (Oper.wp_mono ?_ (hops i o a w _ hi1 ho hB hJ (fun e => by subst e; exact Bool.eq_false_iff.2 hnl) (fun e he hb oe d hoe hd => hS e.on oe d hoe hd (hall e he hb)) (fun e1 he1 e2 he2 hb1 hb2 o1 o2 p1 p2 q1 q2 => hP ⟨e1.on, o1, p1, p2, hall e1 he1 hb1⟩ ⟨e2.on, o2, q1, q2, hall e2 he2 hb2⟩))); rintro a' w' ⟨v, rfl, hv, hTk, hJw, hnew⟩; refine ⟨by simpa using hsz, hcl', fun hl => ?_, fun _ => ⟨hBput i o a v ho hB, ?_, ?_, ?_⟩⟩
     · exfalso; apply hnl'; simpa [Array.getD_eq_getD_getElem?, Array.getElem?_setIfInBounds, hil] using hl
     · have e : (listed.setIfInBounds i true).getD p false = (listed.getD p false || i == p) := by
        by_cases hip : i = p
        · subst hip; (have : i < listed.size := by omega); simp [this]
        · simp [Array.getD_eq_getD_getElem?, hip]
       rw [e]; exact hJw
     · intro j oj d hj hd hl; by_cases hij : j = i
       · subst hij; rw [ho] at hj; cases hj; have hdsz := hBsz _ _ _ d ho hd hB; (have e : (a.put o.dst v).tmps.getD d undef = v := by rw [hd]; simp [Act.put, hdsz]); rw [e]; exact hv d hd
       · (have hl' : listed.getD j false = true := by simpa [Array.getD_eq_getD_getElem?, Array.getElem?_setIfInBounds, Ne.symm hij] using hl); have hne : o.dst ≠ some d := by intro e; have hp := hplain; unfold plainB at hp; rw [List.all_eq_true] at hp; have h1 := hp j (by rw [List.mem_range]; exact (Array.getElem?_eq_some_iff.1 hj).1); rw [List.all_eq_true] at h1; have h2 := h1 i (by rw [List.mem_range]; exact hlt); simp [hj, ho, hd, e, hij] at h2
         have e : (a.put o.dst v).tmps.getD d undef = a.tmps.getD d undef := by
          cases ho' : o.dst with
          | none => simp [Act.put]
          | some c =>
           have hcd : c ≠ d := fun e => hne (by rw [ho', e]); simp [Act.put, Array.getD_eq_getD_getElem?, hcd]
         rw [e]; exact hTk _ _ hne (hS j oj d hj hd hl')
     · rintro ⟨i1, o1, p1, p2, p3⟩ ⟨i2, o2, q1, q2, q3⟩; have old : ∀ (j : Nat) (oj : Oper) d, ops[j]? = some oj → oj.dst = some d → o.dst ≠ some d → (listed.setIfInBounds i true).getD j false = true → listed.getD j false = true := by intro j oj d hj hd hne hl; (have hij : i ≠ j := by intro e; subst e; rw [ho] at hj; cases hj; exact hne hd); simpa [Array.getD_eq_getD_getElem?, Array.getElem?_setIfInBounds, hij] using hl
       have same : ∀ d, o.dst ≠ some d → (a.put o.dst v).tmps.getD d undef = a.tmps.getD d undef := by
        intro d hne
        cases ho' : o.dst with
        | none => simp [Act.put]
        | some c =>
         have hcd : c ≠ d := fun e => hne (by rw [ho', e]); simp [Act.put, Array.getD_eq_getD_getElem?, hcd]
       (have new : ∀ d, o.dst = some d → (a.put o.dst v).tmps.getD d undef = v := by intro d hd; have hdsz := hBsz _ _ _ d ho hd hB; rw [hd]; simp [Act.put, hdsz]); intro b hb1 hb2; by_cases e1 : o.dst = some d1
       · have hne2 : o.dst ≠ some d2 := fun e => h12 (by rw [e1] at e; injection e); rw [new d1 e1] at hb1; rw [same d2 hne2] at hb2; have l2 := hTlt _ _ (.inr (hS i2 o2 d2 q1 q2 (old i2 o2 d2 q1 q2 hne2 q3))) b hb2; have l1 := hnew (.inl e1) b hb1; omega
       · rw [same d1 e1] at hb1; by_cases e2 : o.dst = some d2
         · rw [new d2 e2] at hb2; have l1 := hTlt _ _ (.inl (hS i1 o1 d1 p1 p2 (old i1 o1 d1 p1 p2 e1 p3))) b hb1; have l2 := hnew (.inr e2) b hb2; omega
         · rw [same d2 e2] at hb2; exact hP ⟨i1, o1, p1, p2, old i1 o1 d1 p1 p2 e1 p3⟩ ⟨i2, o2, q1, q2, old i2 o2 d2 q1 q2 e2 q3⟩ b hb1 hb2
 · rintro listed a w ⟨hsz, hcl, hdone, hun0⟩ hr; apply hdone; have hlow' : ∀ (i : Nat) (o : Oper), ops[i]? = some o → ∀ e ∈ o.after, Region.binds .any e = true → e.on < i := by intro i o hi e he hbi; have h1 := hlow; unfold lowB at h1; rw [List.all_eq_true] at h1; have h2 := h1 i (by rw [List.mem_range]; exact (Array.getElem?_eq_some_iff.1 hi).1); rw [hi] at h2; simp only [Option.map_some, Option.getD_some, Array.all_eq_true_iff_forall_mem] at h2; have h3 := h2 e he; rw [hbi] at h3; simpa using h3
   have hall : ∀ n i, i ≤ n → i < ops.size → listed.getD i false = true := by
    intro n
    induction n using Nat.strongRecOn with
    | _ n ih =>
     intro i hin hi; apply Classical.byContradiction; intro hn; have hun : listed.getD i true = false := listed_of_not (by omega) hn; obtain ⟨o, ho⟩ : ∃ o, ops[i]? = some o := ⟨ops[i], Array.getElem?_eq_getElem hi⟩
     have : i ∈ Region.ready .any ops listed := mem_ready.2 ⟨hun, o, ho, fun e he hbi => by
       have hlt := hlow' i o ho e he hbi
       exact ih e.on (by omega) e.on (Nat.le_refl _) (by omega)⟩
     rw [hr] at this; cases this
   exact hall _ _ (Nat.le_refl _) (by omega)
theorem wp_region_lit2 {P : Program} {ops : Array Oper} {Q : Exit → Act → World → Prop} {id : Nat} {a0 : Act} {w0 : World} (hm : P.follows .mixedOrders = true) (T : Nat → Value → World → Prop) (n : Nat) (d1 d2 : Nat) (h12 : d1 ≠ d2) (hTlt : ∀ v w, T d1 v w ∨ T d2 v w → ∀ b, v.ownBlock = some b → b < w.heap.size) (hplain : plainB ops = true) (hlow : lowB ops = true) (hlastB : lastB ops = true) (hpos : 1 < ops.size) (hfits : fitsB ops n = true) (hn : a0.tmps.size = n) (hT : ∀ d v w w', Later w w' → T d v w → T d v w') (hops : ∀ (i : Nat) (o : Oper) (a : Act) (w : World), i < ops.size - 1 → ops[i]? = some o → KB ops n a0 a → Later w0.drew w → (∀ e ∈ o.after, Region.binds .any e = true → ∀ oe d, ops[e.on]? = some oe → oe.dst = some d → T d (a.tmps.getD d undef) w) → (∀ e1 ∈ o.after, ∀ e2 ∈ o.after, Region.binds .any e1 = true → Region.binds .any e2 = true → ∀ o1 o2, ops[e1.on]? = some o1 → o1.dst = some d1 → ops[e2.on]? = some o2 → o2.dst = some d2 → Apart2 d1 d2 a) → o.wp P a w (fun a' w' => ∃ v, a' = a.put o.dst v ∧ (∀ d, o.dst = some d → T d v w') ∧ Later w w' ∧ (o.dst = some d1 ∨ o.dst = some d2 → ∀ b, v.ownBlock = some b → w.heap.size ≤ b)) Q) (hlast : ∀ (o : Oper) (a : Act) (w : World), ops[ops.size - 1]? = some o → KB ops n a0 a → Later w0.drew w → (∀ (i : Nat) (o : Oper) d, i < ops.size - 1 → ops[i]? = some o → o.dst = some d → T d (a.tmps.getD d undef) w) → ((∃ i o, i < ops.size - 1 ∧ ops[i]? = some o ∧ o.dst = some d1) → (∃ i o, i < ops.size - 1 ∧ ops[i]? = some o ∧ o.dst = some d2) → Apart2 d1 d2 a) → o.wp P a w (fun a' w' => Q .normal a' w') Q) : (Code.region id ops true).wp P Q a0 w0 := by
 (have hsl : ∀ (i : Nat) (o : Oper), ops[i]? = some o → o.guard = none ∧ ∀ d, o.dst = some d → d < n := by intro i o hi; have h1 := hfits; unfold fitsB at h1; rw [Array.all_eq_true_iff_forall_mem] at h1; have h2 := h1 o (Array.mem_of_getElem? hi); rw [Bool.and_eq_true] at h2; refine ⟨by simpa using h2.1, fun d hd => ?_⟩; have h3 := h2.2; rw [hd] at h3; simpa using h3); refine wp_region_pair hm T (fun _ w => Later w0.drew w) (KB ops n a0) 0 hplain hlow hlastB (by omega) d1 d2 h12 hTlt (fun i o hi => (hsl i o hi).1) (by omega) (laterPre.refl _) ⟨hn, rfl, fun _ _ => rfl⟩ ?_ ?_ ?_ ?_
 · rintro i o a v hi ⟨h1, h2, h3⟩
   cases hd : o.dst with
   | none => exact ⟨h1, h2, h3⟩
   | some d =>
    refine ⟨by simpa [Act.put] using h1, h2, fun x hx => ?_⟩; (have hne : d ≠ x := by intro e; rw [Array.all_eq_true_iff_forall_mem] at hx; have := hx o (Array.mem_of_getElem? hi); rw [hd, e] at this; simp at this); rw [← h3 x hx]; simp [Act.put, Array.getD_eq_getD_getElem?, hne]
 · rintro i o a d hi hd ⟨h1, h2, h3⟩; rw [h1]; exact (hsl i o hi).2 d hd
 · intro i o a w b hi ho hK hJ _ hd hap; refine Oper.wp_mono ?_ (hops i o a w hi ho hK hJ hd hap); rintro a' w' ⟨v, h1, h2, h3, h4⟩; exact ⟨v, h1, h2, fun d x _ hx => hT d x w w' h3 hx, laterPre.trans _ _ _ hJ h3, h4⟩
 · intro o a w ho hK hJ hd hap; exact hlast o a w ho hK hJ hd hap
theorem rowT_bx : RowT Tryz.prog 51 53 2 32 := rowT_of underBx info_bx rfl (by decide)
theorem l7Cmt_any (c : Cmt) (ks bs : Value) (w : World) (hK : SRow w ks c.keys) (hX : RowR w bs c.boxes.length (bcells c.boxes)) (hlk : c.keys.length ≤ 1000) (hlb : c.boxes.length ≤ 1000) : Calls Tryz.prog 33 #[.agg (c.cells ks bs)] w fun e w' => ∃ ks1 bs1, e = .returned (.agg (c.cells ks1 bs1)) ∧ Own w.heap.size w' ks1 c.keys ∧ OwnB w.heap.size w' bs1 c.boxes ∧ Below w.heap.size w w' := by
 obtain ⟨se, tag, name, add, rem, lf, keys, boxes, wk, ik, is, sk, ss⟩ := c; simp only at hK hX hlk hlb ⊢; have HL : Hid (keys.length ≤ 1000 ∧ boxes.length ≤ 1000) := ⟨hlk, hlb⟩; have HK := hide hK; have HX := hide hX
 have hf : ∃ a c, bs = .slice a boxes.length c := by
  rcases hX with ⟨h1, h2, _⟩ | ⟨a, cap, h1, _⟩
  · exact ⟨Option.none, 0, by rw [h1, h2]⟩
  · exact ⟨some a, cap, h1⟩
 obtain ⟨a1, p1, rfl, _, _, _⟩ := hK.form; obtain ⟨a2, p2, rfl⟩ := hf; clear hK hX hlk hlb; have HKN := hide (fun (u : World) (hu : Below w.heap.size w u) => SRow.news (HK.out.below hu)); have HXN := hide (fun (u : World) (hu : Below w.heap.size w u) => RowR.news2 (HX.out.below hu) (bcells_len boxes)); obtain ⟨n1, hn1⟩ : ∃ n, keys.length = n := ⟨_, rfl⟩; obtain ⟨n2, hn2⟩ : ∃ n, boxes.length = n := ⟨_, rfl⟩; rw [hn1] at HK HKN; rw [hn2] at HX HXN; rw [hn1, hn2] at HL ⊢; have HN1 := hide hn1; have HN2 := hide hn2; clear hn1 hn2; have HB : Hid (Below w.heap.size w w) := Below.refl _ _; have HN : Hid (True) := trivial; go_enter Tryz.func33, Tryz.ntmps33; (repeat ((fail_if_success (refine pl_id ?_)); go_step)); refine w_i ?_; refine w_a (cmtC se tag name add rem lf (.slice a1 n1 p1) (.slice a2 n2 p2) wk ik is sk ss) 57 (fun bA wc A hb hbn => ?_); refine cy2 HB HN ?_; clear HB HN; intro HB HN; clear hb hbn; refine w_a noCmt 57 (fun bR wc R hb hbn => ?_); refine cy3 A HB HN ?_; clear A HB HN; intro A HB HN; clear hb hbn; refine w_e ?_; (repeat ((fail_if_success (refine pl_id ?_)); go_step)); refine w_i ?_; refine w_c A ?_; refine w_a noCmt 57 (fun bX wc X hb hbn => ?_); refine cy4 A R HB HN ?_; clear A R HB HN; intro A R HB HN; clear hb hbn; refine w_s X (cmtC se tag name add rem lf (.slice a1 n1 p1) (.slice a2 n2 p2) wk ik is sk ss) ?_; clear X; intro wc OLD X hg hs; refine gy4 A R HB HN ?_; clear A R HB HN; intro A R HB HN; clear hg hs OLD; refine w_e ?_; (repeat ((fail_if_success (refine pl_id ?_)); go_step)); refine w_i ?_; refine w_1 (fun K hK => ?_); refine op_lit (w.heap.size) (cs := #[]) (e := 9) (size := 1) (n := 0) ?_ HB.out.size (by unfold maxLen; omega) (by rfl) (fun gE wc E hb hbn => ?_)
 · go_simp; try rfl
 refine sh hK ?_; clear hK; replace E := hide E; refine cy5 A R X HB HN ?_; clear A R X HB HN; intro A R X HB HN; clear hb hbn; refine w_q ?_; refine w_b A 6 ?_; refine w_1 (fun K hK => ?_); refine op_appNew rowT_str (w.heap.size) (.tmp 5) (.tmp 7) rfl gE rfl E.out _ n1 (keys.map Value.string) rfl (HKN.out _ HB.out) (by have := HL.out; unfold maxLen; omega) (by have := HL.out; omega) HB.out.size (fun gV1 cV1 wc V1 hb => ?_); refine sh hK ?_; clear hK; replace V1 := hide V1; refine cy6 A R X E HB HN ?_; clear A R X E HB HN; intro A R X E HB HN; clear hb; refine w_q ?_; refine w_1 (fun K hK => ?_); have OLD := X; have fz := X.out.frozen 6; have x0 := X.out.cell 6; simp only [l_a, l_b, l_c] at x0; refine op_cell bX 6 ((.slice (some ⟨gV1, 0, none⟩) n1 cV1)) X.out ?_ (fun wc NEW hg hs => ?_)
 · go_simp
 refine sh hK ?_; clear hK fz x0; replace X : Hid (Blk wc bX 57 (cmtC se tag name add rem lf (.slice (some ⟨gV1, 0, none⟩) n1 cV1) (.slice a2 n2 p2) wk ik is sk ss)) := NEW; clear NEW; refine gy6 A R V1 E HB HN ?_; clear A R V1 E HB HN; intro A R V1 E HB HN; clear hg hs OLD; refine w_e ?_; (repeat ((fail_if_success (refine pl_id ?_)); go_step)); refine w_i ?_; refine w_1 (fun K hK => ?_); refine op_lit (w.heap.size) (cs := #[]) (e := 53) (size := 2) (n := 0) ?_ HB.out.size (by unfold maxLen; omega) (by rfl) (fun gF wc F hb hbn => ?_)
 · go_simp; try rfl
 refine sh hK ?_; clear hK; replace F := hide F; refine cy7 A R X V1 E HB HN ?_; clear A R X V1 E HB HN; intro A R X V1 E HB HN; clear hb hbn; refine w_q ?_; refine w_b A 7 ?_; refine w_1 (fun K hK => ?_); refine op_appNew rowT_bx (w.heap.size) (.tmp 10) (.tmp 12) rfl gF rfl F.out _ n2 (bcells boxes) rfl (HXN.out _ HB.out) (by have := HL.out; unfold maxLen; omega) (by have := HL.out; omega) HB.out.size (fun gV2 cV2 wc V2 hb => ?_); refine sh hK ?_; clear hK; replace V2 := hide V2; refine cy8 A R X V1 E F HB HN ?_; clear A R X V1 E F HB HN; intro A R X V1 E F HB HN; clear hb; refine w_q ?_; refine w_1 (fun K hK => ?_); have OLD := X; have fz := X.out.frozen 7; have x0 := X.out.cell 7; simp only [l_a, l_b, l_c] at x0; refine op_cell bX 7 ((.slice (some ⟨gV2, 0, none⟩) n2 cV2)) X.out ?_ (fun wc NEW hg hs => ?_)
 · go_simp
 refine sh hK ?_; clear hK fz x0; replace X : Hid (Blk wc bX 57 (cmtC se tag name add rem lf (.slice (some ⟨gV1, 0, none⟩) n1 cV1) (.slice (some ⟨gV2, 0, none⟩) n2 cV2) wk ik is sk ss)) := NEW; clear NEW; refine gy8 A R V1 V2 E F HB HN ?_; clear A R V1 V2 E F HB HN; intro A R V1 V2 E F HB HN; clear hg hs OLD; refine w_e ?_; (repeat ((fail_if_success (refine pl_id ?_)); go_step)); refine w_i ?_; refine w_c X ?_; refine w_s R (cmtC se tag name add rem lf (.slice (some ⟨gV1, 0, none⟩) n1 cV1) (.slice (some ⟨gV2, 0, none⟩) n2 cV2) wk ik is sk ss) ?_; clear R; intro wc OLD R hg hs; refine gy8 A X V1 V2 E F HB HN ?_; clear A X V1 V2 E F HB HN; intro A X V1 V2 E F HB HN; clear hg hs OLD; refine w_e ?_; have l1 := load_cm R.out rfl; (go_wp2_with fail); refine bodyPost_ret (v := .agg (cmtC se tag name add rem lf (.slice (some ⟨gV1, 0, none⟩) n1 cV1) (.slice (some ⟨gV2, 0, none⟩) n2 cV2) wk ik is sk ss)) (results_cell rfl rfl l1) rfl ?_; exact ⟨_, _, rfl, own_of V1.out HN1.out, ownB_of V2.out HN2.out, HB.out⟩
theorem l6Wins_any (l : List Win) (v : Value) (w : World) (h : InW w v l) (hl : l.length ≤ 1000) (hs : ∀ x ∈ l, x.seen.length ≤ 1000) : Calls Tryz.prog 34 #[v] w fun e w' => ∃ u, e = .returned u ∧ OutW w.heap.size w' u l ∧ Below w.heap.size w w' := by
 have HL : Hid (l.length ≤ 1000 ∧ ∀ x ∈ l, x.seen.length ≤ 1000) := ⟨hl, hs⟩
 have hf : ∃ a c, v = .slice a l.length c := by
  obtain ⟨cs, h1, _⟩ := h; rcases h1 with ⟨h1, h2, _⟩ | ⟨a, cap, h1, _⟩
  · exact ⟨Option.none, 0, by rw [h1, h2]⟩
  · exact ⟨some a, cap, h1⟩
 obtain ⟨va, vc, rfl⟩ := hf; have HI := hide h; clear h hl hs; have HB : Hid (Below w.heap.size w w) := Below.refl _ _; have HN : Hid (True) := trivial; go_enter Tryz.func34, Tryz.ntmps34; (repeat ((fail_if_success (refine pl_id ?_)); go_step)); refine w_i ?_; refine w_q ?_; refine w_e ?_; (repeat ((fail_if_success (refine pl_id ?_)); go_step)); refine w_i ?_; refine w_1 (fun K hK => ?_); refine op_lit (w.heap.size) (cs := #[]) (e := 119) (size := 3) (n := 0) ?_ HB.out.size (by unfold maxLen; omega) (by rfl) (fun gE wc E hb hbn => ?_)
 · go_simp; try rfl
 refine sh hK ?_; clear hK; replace E := hide E; refine cy2 HB HN ?_; clear HB HN; intro HB HN; clear hb hbn; refine w_q ?_; refine w_e ?_; have OUT : Hid (OutW w.heap.size wc (.slice (some ⟨gE, 0, Option.none⟩) 0 0) (l.take 0)) := hide ⟨[], unhide E, rfl⟩; (repeat ((fail_if_success (refine pl_id ?_)); go_step)); refine w_i ?_; refine w_q ?_; refine w_e ?_; clear E; replace HN : Hid (True) := trivial; (go_wp2_with fail); go_loopw [3, 4] (fun o i wr => ∃ (j : Nat) (_ : j ≤ l.length) (oo : Option Addr) (oc : Nat), o = .slice oo j oc ∧ i = .int .i64 (j : Int) ∧ Hid (OutW w.heap.size wr (.slice oo j oc) (l.take j)) ∧ Hid (True) ∧ Hid (Below w.heap.size w wr)) (fun o i _ => l.length - (intOf i).toNat)
 case atStart => exact ⟨0, by omega, _, _, rfl, rfl, OUT, HN, HB⟩
 case round =>
  clear OUT HN HB; obtain ⟨j, hj, oo, oc, rfl, rfl, OUT, HN, HB⟩ := hrel; generalize wr = wc at *; by_cases hlt : j < l.length
  · skip; (have hlt2 : decide ((j : Int) < (l.length : Int)) = true := by simp; omega); (have hlt3 : (j : Int) < (l.length : Int) := by omega); (have i3 : IntKind.i64.wrap ((j : Int) + 1) = (j : Int) + 1 := by have := HL.out.1; simp [IntKind.wrap, IntKind.bits, IntKind.signed]; omega); obtain ⟨ad, vc2, sv, e, q0, q1, q2, q3⟩ := InW.at HI.out j hlt; simp only [Value.slice.injEq, true_and] at e; obtain ⟨rfl, rfl⟩ := e; obtain ⟨sa, sc, rfl, _, _, _⟩ := q3.form; have HSL : Hid (l[j].seen.length ≤ 1000) := HL.out.2 _ (List.getElem_mem hlt); have HTK : Hid (l.take (j + 1) = l.take j ++ [l[j]]) := hide (List.take_succ_eq_append_getElem hlt); (have HTL : Hid ((l.take j).length = j) := by rw [List.length_take]; exact hide (by omega)); generalize l[j] = x at *; obtain ⟨key, top, seen⟩ := x; simp only at q0 q1 q2 q3 HSL HTK ⊢; have HQ := hide (And.intro q0 (And.intro q1 q2)); have HIS := hide q3; clear q0 q1 q2 q3; obtain ⟨sl, hsl⟩ : ∃ n, seen.length = n := ⟨_, rfl⟩; rw [hsl] at HSL HIS HQ; have HSE := hide hsl; clear hsl; (repeat ((fail_if_success (refine pl_id ?_)); go_step)); refine w_i ?_; (iterate 4 refine w_q ?_); refine w_e ?_; have hsz := HB.out.size; replace HN : Hid (w.heap.size ≤ wc.heap.size) := hide hsz; clear hsz; (repeat go_step); refine r_g (Below (w.heap.size)) (fun wc hb hsq => ?_); clear hsq; refine cy3 OUT HB HN ?_; clear OUT HB HN; intro OUT HB HN; clear hb; refine r_q4 0 1 2 3 ?_; refine r_q 4 ?_; refine r_q 5 ?_ (h := by intro w' hw'; have xq := (hw'.cell (cell_lt HQ.out.1)).trans ((HB.out.cell (cell_lt HQ.out.1)).trans HQ.out.1); go_simp; all_goals rfl); refine r_q4 6 7 8 9 ?_; refine r_q 10 ?_ (h := by intro w' hw'; have xq := (hw'.cell (cell_lt HQ.out.2.1)).trans ((HB.out.cell (cell_lt HQ.out.2.1)).trans HQ.out.2.1); go_simp; all_goals rfl); refine r_q4 12 13 14 15 ?_; refine r_q 16 ?_ (h := by intro w' hw'; have xq := (hw'.cell (cell_lt HQ.out.2.2)).trans ((HB.out.cell (cell_lt HQ.out.2.2)).trans HQ.out.2.2); go_simp; all_goals rfl); refine r_1 11 (fun K hK => ?_); refine op_lit (w.heap.size) (cs := #[]) (e := 3) (size := 1) (n := 0) ?_ HB.out.size (by unfold maxLen; omega) (by rfl) (fun gE wc E hb hbn => ?_)
    · go_simp; try rfl
    refine sr hK ?_; clear hK; replace E := hide E; refine cy3 OUT HB HN ?_; clear OUT HB HN; intro OUT HB HN; clear hb hbn; refine r_1 17 (fun K hK => ?_); refine op_appNew rowT_int (w.heap.size) (.tmp 23) (.tmp 28) rfl gE rfl E.out _ sl (seen.map (Value.int .i64)) rfl (by have q := IRow.news (HIS.out.below HB.out); rw [HSE.out] at q; exact q) (by have := HSL.out; unfold maxLen; omega) (by have := HSL.out; omega) HB.out.size (fun gV1 cV1 wc V1 hb => ?_); refine sr hK ?_; clear hK; replace V1 := hide V1; refine cy4 E OUT HB HN ?_; clear E OUT HB HN; intro E OUT HB HN; clear hb; refine r_q 18 ?_; refine r_1 19 (fun K hK => ?_); refine op_lit (w.heap.size) (cs := #[.string key, .int .i64 top, .slice (some ⟨gV1, 0, Option.none⟩) sl cV1]) (e := 119) (size := 3) (n := 1) ?_ HB.out.size (by unfold maxLen; omega) (by rfl) (fun gL wc L hb hbn => ?_)
    · go_simp; try rfl
    refine hK.out _ _ (hb.mono (by have q := HN.out; omega)) ?_; clear hK; replace L := hide L; refine cy3 V1 E OUT ?_; clear V1 E OUT; intro V1 E OUT; have hsz := hb.size; have hsz2 := HB.out.size; (replace HN : Hid (w.heap.size ≤ gE ∧ gE < gL ∧ gL < wc.heap.size) := by have q := HN.out; have q2 := hsz; have q3 := hsz2; have q4 := hbn; refine hide ?_; omega); clear hsz hsz2; refine cy1 HB ?_; clear HB; intro HB; clear hb hbn; (try simp only [Act.put, p_a, p_b, p_c]); refine r_1 20 (fun K hK => ?_); obtain ⟨cs, h1, h2⟩ := unhide OUT; rw [HTL.out] at h1; refine op_appOwn rowT_wi w.heap.size (.tmp 12) (.tmp 31) rfl (.slice oo j oc) j cs rfl h1 ⟨gL, 0, Option.none⟩ 1 1 [.string key, .int .i64 top, .slice (some ⟨gV1, 0, Option.none⟩) sl cV1] rfl rfl (fun k u hk => World.ownsRow.cells L.out rfl k u hk) (by simp [Value.oneCell']) (by unfold maxLen; have := HL.out.1; omega) (by have := HL.out.1; omega) HB.out.size (fun vo wc ho hg hat => ?_); refine hK.out _ _ ((Below.refl _ _).grown hg (by have q := HN.out; omega) (fun k hk => by have q := HN.out; have q2 := (h1.lt k hk).1; omega)) ?_; clear hK; (have OUT2 : Hid (OutW w.heap.size wc vo (l.take (j + 1))) := by rw [HTK.out]; exact hide (OutW.snoc (x := ⟨key, top, seen⟩) HTL.out h1 h2 (by unfold OwnI; rw [HSE.out]; exact unhide V1) hg ho)); have hsz2 := HB.out.size; replace HB := hide (kept_below HB.out hg h1 (Nat.le_refl _) HB.out.size); obtain ⟨oo, oc, rfl⟩ := row_form' ho; replace OUT := OUT2; clear OUT2 h1 h2 ho hg hat hsz2 E V1 L HN cs; have HN : Hid (True) := trivial; (try simp only [Act.put, p_a, p_b, p_c]); refine r_q 21 ?_; refine r_e ?_; (repeat ((fail_if_success (refine pl_id ?_)); go_step)); refine w_i ?_; (iterate 3 refine w_q ?_); refine w_e ?_; (go_wp2_with fail); go_roundw
    case rel => exact ⟨j + 1, by omega, _, _, rfl, by simp, OUT, HN, HB⟩
    case measure => simp [intOf]; omega
  (have hlt2 : decide ((j : Int) < (l.length : Int)) = false := by simp; omega); (have hjl : j = l.length := by omega); subst hjl; (repeat ((fail_if_success (refine pl_id ?_)); go_step)); refine w_i ?_; (iterate 4 refine w_q ?_); refine w_e ?_; (repeat ((fail_if_success (refine pl_id ?_)); go_step)); refine w_i ?_; refine w_q ?_; refine w_q ?_; refine w_e ?_; (go_wp2_with fail); go_ret; rw [List.take_length] at OUT; exact ⟨_, rfl, unhide OUT, HB.out⟩
theorem Rows.appSeats {X L : List Nat} {B : Nat} {w : World} {a b c d e f g h i j : Value} {W : Wld} (q : Rows X L B w (rowsOf a b c d e f g h i j W)) : ∃ cs, w.ownsRow B 62 7 a W.seats.length cs ∧ ∀ (x : Mem) (ks os v : Value) (w' : World), SRow w ks x.keys → RowR w os x.own.length (mcells x.own) → InX X w ks → InX X w os → w'.ownsRow B 62 7 v (W.seats.length + 1) (cs ++ (x.cells ks os).toList) → w.grownBy w' a.ownBlock → (v.ownBlock = a.ownBlock ∨ v.ownBlock = some w.heap.size) → ∃ X', Rows X' L B w' (rowsOf v b c d e f g h i j { W with seats := W.seats ++ [x] }) ∧ MoreX X X' w := by obtain ⟨cs, h1, h2⟩ := q.own _ (List.mem_of_getElem? (i := 0) rfl); refine ⟨cs, h1, fun x ks os v w' p1 p2 p3 p4 ho hg hat => ?_⟩; have hkx : KeepX X w w' := KeepX.grown hg (fun z hz => q.inx _ (List.mem_of_getElem? (i := 0) rfl) z hz); exact q.upd 0 (Nat.le_of_ble_eq_true rfl) ⟨62, 7, v, (W.seats ++ [x]).length, fun X w => ListR (seatR X w) (W.seats ++ [x])⟩ hg (by show World.ownsRow _ _ _ _ _ (W.seats ++ [x]).length _; rw [List.length_append]; exact ho) (stays_seat _) hat (fun X' hm => ListR.app (ListR.mono (seatR.keep hkx hm) h2) (ListR.one ⟨ks, os, rfl, p1.keepX p3 hkx, p2.keepX p4 hkx, p3.keep hkx hm, p4.keep hkx hm⟩))
theorem Rows.appWins {X L : List Nat} {B : Nat} {w : World} {a b c d e f g h i j : Value} {W : Wld} (q : Rows X L B w (rowsOf a b c d e f g h i j W)) : ∃ cs, w.ownsRow B 79 1 i W.wins.length cs ∧ ∀ (l : List Win) (y v : Value) (w' : World), WinsX X w y l → w'.ownsRow B 79 1 v (W.wins.length + 1) (cs ++ [y]) → w.grownBy w' i.ownBlock → (v.ownBlock = i.ownBlock ∨ v.ownBlock = some w.heap.size) → ∃ X', Rows X' L B w' (rowsOf a b c d e f g h v j { W with wins := W.wins ++ [l] }) ∧ MoreX X X' w := by obtain ⟨cs, h1, h2⟩ := q.own _ (List.mem_of_getElem? (i := 8) rfl); refine ⟨cs, h1, fun l y v w' p1 ho hg hat => ?_⟩; obtain ⟨p2, ds, p3, p4⟩ := p1; have hkx : KeepX X w w' := KeepX.grown hg (fun z hz => q.inx _ (List.mem_of_getElem? (i := 8) rfl) z hz); exact q.upd 8 (Nat.le_of_ble_eq_true rfl) ⟨79, 1, v, (W.wins ++ [l]).length, fun X w => ListR (winsR X w) (W.wins ++ [l])⟩ hg (by show World.ownsRow _ _ _ _ _ (W.wins ++ [l]).length _; rw [List.length_append]; exact ho) (stays_wins _) hat (fun X' hm => ListR.app (ListR.mono (winsR.keep hkx hm) h2) (ListR.one ⟨y, ds, rfl, p3.keepX p2 hkx, p4.mono (winR.keep hkx hm), p2.keep hkx hm⟩))
theorem rowT_mm : RowT Tryz.prog 31 62 7 104 := rowT_of (show Tryz.prog.underlying 31 = some (.slice 62) by kernel_rfl) (show (Tryz.prog.info? 62).map (fun i => (i.zero, i.size, i.bytes)) = some (some (.agg noMem), 7, 104) by kernel_rfl) rfl (by decide)
theorem rowT_ww : RowT Tryz.prog 38 79 1 24 := rowT_of (show Tryz.prog.underlying 38 = some (.slice 79) by kernel_rfl) (show (Tryz.prog.info? 79).map (fun i => (i.zero, i.size, i.bytes)) = some (some (.slice Option.none 0 0), 1, 24) by kernel_rfl) rfl (by decide)
theorem OutW.winsX {X : List Nat} {B : Nat} {w : World} {v : Value} {l : List Win} (h : OutW B w v l) (hX : ∀ b ∈ X, b < B) : WinsX X w v l := by obtain ⟨cs, h1, h2⟩ := h; (have ix : ∀ {e : TypeId} {size n : Nat} {u : Value} {xs : List Value}, w.ownsRow B e size u n xs → InX X w u := fun q b hb => by obtain ⟨p1, p2⟩ := q.lt b hb; exact ⟨p2, fun z => by have := hX b z; omega⟩); exact ⟨ix h1, cs, RowR.own h1, h2.mono (fun x c ⟨s, e, q⟩ => ⟨s, e, OwnI.irow q, ix q⟩)⟩
theorem op_appGrow {P : Program} {Q : Exit → Act → World → Prop} {a : Act} {w : World} {o : Oper} {K : Act → World → Prop} {t e : TypeId} {size bytes : Nat} (hr : RowT P t e size bytes) (B : Nat) (s x : Operand) (ho : o.op = .call { callee := .builtin .append, args := #[s, x], argTypes := #[t, t] }) (g : Nat) (hs : a.eval s = .slice (some ⟨g, 0, Option.none⟩) 0 0) (hown : w.ownsRow B e size (.slice (some ⟨g, 0, Option.none⟩) 0 0) 0 []) (y : Value) (m : Nat) (news : List Value) (hx : a.eval x = y) (hy : (y = .slice Option.none 0 0 ∧ m = 0 ∧ news = []) ∨ ∃ ad c, y = .slice (some ad) m c ∧ news.length = m * size ∧ ∀ j u, news[j]? = some u → w.cell? (ad.add j) = some u) (hm : 0 < m) (h63 : m ≤ maxLen) (hbytes : m * bytes ≤ 140737488355328) (k : ∀ g' c' w', w'.ownsRow w.heap.size e size (.slice (some ⟨g', 0, Option.none⟩) m c') m news → Below w.heap.size w w' → K (a.put o.dst (.slice (some ⟨g', 0, Option.none⟩) m c')) w') : o.wp P a w K Q := by
 obtain ⟨i, z, h1, h2, h3, h4, h5, h6, h7⟩ := hr; rcases hy with ⟨_, q, _⟩ | ⟨ad, c, rfl, hl, hnews⟩
 · omega
 · (have holds : ∀ j u, ([] : List Value)[j]? = some u → w.cell? ((⟨g, 0, Option.none⟩ : Addr).add j) = some u := fun j u hj => by simp at hj); obtain ⟨v', w', r1, r2, r3⟩ := run_append_arg_grows (P := P) w t o.type e i z size bytes h1 h2 h3 h4 h5 h6 h7 ⟨g, 0, Option.none⟩ 0 0 [] hown.1 holds ad m c news hl hnews (by omega) (by omega) (by rw [Nat.zero_add]; exact hbytes); rw [Nat.zero_add, List.nil_append] at r2; rcases r2.2 with ⟨rfl, q⟩ | ⟨g', cap, cur, rfl, q1, q2, q3⟩
   · omega
   · unfold Oper.wp execOp; simp only [ho, resolve, invoke, builtin, Sem.run_bind, Sem.run_pure, Result.andThen_ok, List.map_toArray, List.map_cons, List.map_nil, hs, hx, r1]; exact k g' cap w' r2 (later_grown r3)
structure WldZ (W : Wld) : Prop where
  seats : W.seats.length ≤ 100
  waits : W.waits.length ≤ 1000
  log : W.log.length ≤ 100
  fresh : 0 < W.fresh.length ∧ W.fresh.length ≤ 100
  spy : W.spy.length ≤ 100000
  stolen : W.stolen.length ≤ 1000
  frames : W.frames.length ≤ 1000
  said : 0 < W.said.length ∧ W.said.length ≤ 100
  wins : W.wins.length ≤ 100
  told : W.told.length ≤ 1000
  seat : ∀ m ∈ W.seats, m.keys.length ≤ 1000 ∧ m.own.length ≤ 1000 ∧ (m.inn = false → m.keys = [])
  cmt : ∀ c ∈ W.log, c.keys.length ≤ 1000 ∧ c.boxes.length ≤ 1000
  win : ∀ l ∈ W.wins, l.length ≤ 1000 ∧ ∀ x ∈ l, x.seen.length ≤ 1000
theorem Rows.flat {B : Nat} {w : World} {rs : List RowD} {L : List Nat} (hst : ∀ r ∈ rs, Stays r.P) (hown : ∀ r ∈ rs, ∃ cs, w.ownsRow B r.e r.size r.v r.n cs ∧ ∀ X, r.P X w cs) (hap : rs.Pairwise fun r r' => r.v.ownBlock = Option.none ∨ r.v.ownBlock ≠ r'.v.ownBlock) (hL : ∀ b ∈ L, b < w.heap.size ∧ ∀ r ∈ rs, r.v.ownBlock ≠ some b) : Rows (L ++ rs.filterMap fun r => r.v.ownBlock) L B w rs :=
  ⟨fun b hb => ⟨List.mem_append_left _ hb, (hL b hb).2⟩, fun b hb => by
    rcases List.mem_append.1 hb with h | h
    · exact (hL b h).1
    · obtain ⟨r, hr, e⟩ := List.mem_filterMap.1 h
      obtain ⟨cs, h1, _⟩ := hown r hr
      exact (h1.lt b e).2, fun r hr b hb => List.mem_append_right _ (List.mem_filterMap.2 ⟨r, hr, hb⟩), hst, fun r hr => by
    obtain ⟨cs, h1, h2⟩ := hown r hr
    exact ⟨cs, h1, h2 _⟩, hap⟩
def cpS (W : Wld) (j : Nat) : Wld := { W with seats := W.seats.take j, log := [], wins := [] }
def cpL (W : Wld) (j : Nat) : Wld := { W with log := W.log.take j, wins := [] }
def cpW (W : Wld) (j : Nat) : Wld := { W with wins := W.wins.take j }
theorem cpS_all (W : Wld) : cpS W W.seats.length = cpL W 0 := by unfold cpS cpL; rw [List.take_length]; rfl
theorem cpL_all (W : Wld) : cpL W W.log.length = cpW W 0 := by unfold cpL cpW; rw [List.take_length]; rfl
theorem cpW_all (W : Wld) : cpW W W.wins.length = W := by unfold cpW; rw [List.take_length]
theorem cpS_next {W : Wld} {j : Nat} (h : j < W.seats.length) : ({ cpS W j with seats := (cpS W j).seats ++ [W.seats[j]] } : Wld) = cpS W (j + 1) := by unfold cpS; rw [List.take_succ_eq_append_getElem h]
theorem cpL_next {W : Wld} {j : Nat} (h : j < W.log.length) : ({ cpL W j with log := (cpL W j).log ++ [W.log[j]] } : Wld) = cpL W (j + 1) := by unfold cpL; rw [List.take_succ_eq_append_getElem h]
theorem cpW_next {W : Wld} {j : Nat} (h : j < W.wins.length) : ({ cpW W j with wins := (cpW W j).wins ++ [W.wins[j]] } : Wld) = cpW W (j + 1) := by unfold cpW; rw [List.take_succ_eq_append_getElem h]
theorem cpS_len {W : Wld} {j : Nat} (h : j ≤ W.seats.length) : (cpS W j).seats.length = j := by unfold cpS; rw [List.length_take]; omega
theorem cpL_len {W : Wld} {j : Nat} (h : j ≤ W.log.length) : (cpL W j).log.length = j := by unfold cpL; rw [List.length_take]; omega
theorem cpW_len {W : Wld} {j : Nat} (h : j ≤ W.wins.length) : (cpW W j).wins.length = j := by unfold cpW; rw [List.length_take]; omega
theorem rows_copy0 {B : Nat} {w : World} {W : Wld} {v1 v3 v4 v5 v6 v7 v9 : Value} {c1 c3 c4 c5 c6 c7 c9 : List Value} (o1 : w.ownsRow B 81 4 v1 W.waits.length c1) (l1 : ListR waitR W.waits c1) (o3 : w.ownsRow B 3 1 v3 W.fresh.length c3) (l3 : ListR intR W.fresh c3) (o4 : w.ownsRow B 9 1 v4 W.spy.length c4) (l4 : ListR txtR W.spy c4) (o5 : w.ownsRow B 105 2 v5 W.stolen.length c5) (l5 : ListR stolR W.stolen c5) (o6 : w.ownsRow B 107 4 v6 W.frames.length c6) (l6 : ListR fraR W.frames c6) (o7 : w.ownsRow B 3 1 v7 W.said.length c7) (l7 : ListR intR W.said c7) (o9 : w.ownsRow B 116 2 v9 W.told.length c9) (l9 : ListR toldR W.told c9) (h37 : ∀ b, v3.ownBlock = some b → v7.ownBlock ≠ some b) (L : List Nat) (hL : ∀ b ∈ L, b < w.heap.size ∧ (b < B ∨ ∃ cs, Blk w b 41 cs)) : ∃ X, Rows X L B w (rowsOf (.slice Option.none 0 0) v1 (.slice Option.none 0 0) v3 v4 v5 v6 v7 (.slice Option.none 0 0) v9 (cpS W 0)) := by
 refine ⟨_, Rows.flat ?_ ?_ ?_ ?_⟩
 · intro r hr; simp only [rowsOf, List.mem_cons, List.not_mem_nil, or_false] at hr; rcases hr with rfl | rfl | rfl | rfl | rfl | rfl | rfl | rfl | rfl | rfl
   · exact stays_seat _
   · exact stays_flat _ _
   · exact stays_cmt _
   · exact stays_flat _ _
   · exact stays_flat _ _
   · exact stays_flat _ _
   · exact stays_flat _ _
   · exact stays_flat _ _
   · exact stays_wins _
   · exact stays_flat _ _
 · intro r hr; simp only [rowsOf, List.mem_cons, List.not_mem_nil, or_false] at hr; rcases hr with rfl | rfl | rfl | rfl | rfl | rfl | rfl | rfl | rfl | rfl
   · exact ⟨[], ⟨rfl, .inl ⟨rfl, rfl⟩⟩, fun _ => rfl⟩
   · exact ⟨_, o1, fun _ => l1⟩
   · exact ⟨[], ⟨rfl, .inl ⟨rfl, rfl⟩⟩, fun _ => rfl⟩
   · exact ⟨_, o3, fun _ => l3⟩
   · exact ⟨_, o4, fun _ => l4⟩
   · exact ⟨_, o5, fun _ => l5⟩
   · exact ⟨_, o6, fun _ => l6⟩
   · exact ⟨_, o7, fun _ => l7⟩
   · exact ⟨[], ⟨rfl, .inl ⟨rfl, rfl⟩⟩, fun _ => rfl⟩
   · exact ⟨_, o9, fun _ => l9⟩
 · have h37o : v3.ownBlock = Option.none ∨ v3.ownBlock ≠ v7.ownBlock := by
    by_cases z : v3.ownBlock = Option.none
    · exact .inl z
    · obtain ⟨b, hb⟩ := Option.ne_none_iff_exists'.1 z; exact .inr (fun e => h37 b hb (e ▸ hb))
   have none_or : ∀ v : Value, v.ownBlock = Option.none ∨ v.ownBlock ≠ (Value.slice Option.none 0 0).ownBlock := fun v => by
    by_cases z : v.ownBlock = Option.none
    · exact .inl z
    · exact .inr z
   unfold rowsOf; refine List.Pairwise.cons ?_ ?_
   · intro r hr; simp only [List.mem_cons, List.not_mem_nil, or_false] at hr; rcases hr with rfl | rfl | rfl | rfl | rfl | rfl | rfl | rfl | rfl
     · exact .inl rfl
     · exact .inl rfl
     · exact .inl rfl
     · exact .inl rfl
     · exact .inl rfl
     · exact .inl rfl
     · exact .inl rfl
     · exact .inl rfl
     · exact .inl rfl
   refine List.Pairwise.cons ?_ ?_
   · intro r hr; simp only [List.mem_cons, List.not_mem_nil, or_false] at hr; rcases hr with rfl | rfl | rfl | rfl | rfl | rfl | rfl | rfl
     · exact (none_or v1)
     · exact (row_apart o1 o3 (by decide))
     · exact (row_apart o1 o4 (by decide))
     · exact (row_apart o1 o5 (by decide))
     · exact (row_apart o1 o6 (by decide))
     · exact (row_apart o1 o7 (by decide))
     · exact (none_or v1)
     · exact (row_apart o1 o9 (by decide))
   refine List.Pairwise.cons ?_ ?_
   · intro r hr; simp only [List.mem_cons, List.not_mem_nil, or_false] at hr; rcases hr with rfl | rfl | rfl | rfl | rfl | rfl | rfl
     · exact .inl rfl
     · exact .inl rfl
     · exact .inl rfl
     · exact .inl rfl
     · exact .inl rfl
     · exact .inl rfl
     · exact .inl rfl
   refine List.Pairwise.cons ?_ ?_
   · intro r hr; simp only [List.mem_cons, List.not_mem_nil, or_false] at hr; rcases hr with rfl | rfl | rfl | rfl | rfl | rfl
     · exact (row_apart o3 o4 (by decide))
     · exact (row_apart o3 o5 (by decide))
     · exact (row_apart o3 o6 (by decide))
     · exact h37o
     · exact (none_or v3)
     · exact (row_apart o3 o9 (by decide))
   refine List.Pairwise.cons ?_ ?_
   · intro r hr; simp only [List.mem_cons, List.not_mem_nil, or_false] at hr; rcases hr with rfl | rfl | rfl | rfl | rfl
     · exact (row_apart o4 o5 (by decide))
     · exact (row_apart o4 o6 (by decide))
     · exact (row_apart o4 o7 (by decide))
     · exact (none_or v4)
     · exact (row_apart o4 o9 (by decide))
   refine List.Pairwise.cons ?_ ?_
   · intro r hr; simp only [List.mem_cons, List.not_mem_nil, or_false] at hr; rcases hr with rfl | rfl | rfl | rfl
     · exact (row_apart o5 o6 (by decide))
     · exact (row_apart o5 o7 (by decide))
     · exact (none_or v5)
     · exact (row_apart o5 o9 (by decide))
   refine List.Pairwise.cons ?_ ?_
   · intro r hr; simp only [List.mem_cons, List.not_mem_nil, or_false] at hr; rcases hr with rfl | rfl | rfl
     · exact (row_apart o6 o7 (by decide))
     · exact (none_or v6)
     · exact (row_apart o6 o9 (by decide))
   refine List.Pairwise.cons ?_ ?_
   · intro r hr; simp only [List.mem_cons, List.not_mem_nil, or_false] at hr; rcases hr with rfl | rfl
     · exact (none_or v7)
     · exact (row_apart o7 o9 (by decide))
   refine List.Pairwise.cons ?_ ?_
   · intro r hr; simp only [List.mem_cons, List.not_mem_nil, or_false] at hr; rcases hr with rfl
     · exact .inl rfl
   refine List.Pairwise.cons ?_ List.Pairwise.nil
   · intro r hr; cases hr
 · intro b hb; obtain ⟨hlt, hc⟩ := hL b hb; refine ⟨hlt, fun r hr => ?_⟩
   have key : ∀ {e : TypeId} {size n : Nat} {v : Value} {xs : List Value}, w.ownsRow B e size v n xs → 41 ≠ e → v.ownBlock ≠ some b := fun o hne q => by
    rcases hc with hc | ⟨cs, hc⟩
    · have := (o.lt b q).1; omega
    · exact hc.not_row hne o q.symm
   simp only [rowsOf, List.mem_cons, List.not_mem_nil, or_false] at hr; rcases hr with rfl | rfl | rfl | rfl | rfl | rfl | rfl | rfl | rfl | rfl
   · exact fun e => by cases e
   · exact key o1 (by decide)
   · exact fun e => by cases e
   · exact key o3 (by decide)
   · exact key o4 (by decide)
   · exact key o5 (by decide)
   · exact key o6 (by decide)
   · exact key o7 (by decide)
   · exact fun e => by cases e
   · exact key o9 (by decide)
def bare : List ByteArray := List.replicate 15 ByteArray.empty
theorem grownBy_setCell0 (W : World) (b : Nat) (v : Value) : W.grownBy (W.setCell ⟨b, 0, none⟩ v) (some b) :=
  ⟨rfl, rfl, rfl, by simp [World.setCell], fun k _ hk => Below.heap_setCell _ _ _ k (fun e => hk (by rw [e]))⟩
theorem sTreNew_any (w : World) : Calls Tryz.prog 43 #[] w fun e w' => ∃ v, e = .returned (.agg #[v]) ∧ Own w.heap.size w' v bare ∧ Below w.heap.size w w' := by obtain ⟨i0, hi, hz0, hz1, hz2⟩ := info_parts info_str2; have hI := hide (And.intro hi (And.intro hz0 hz1)); (have hB2 : Hid (i0.bytes * 15 ≤ 281474976710656) := by show _ ≤ _; rw [hz2]; omega); clear hi hz0 hz1 hz2; go_enter Tryz.func43, Tryz.ntmps43; (go_wp2_with (at_make; refine wpList_make_full _ rfl _ _ 35 rfl w.heap.size 9 i0 (.string ⟨#[]⟩) 1 Tryz.underlying35 hI.out.1 hI.out.2.1 hI.out.2.2 _ _ _ _ 15 rfl rfl rfl rfl hB2.out (by unfold maxLen; omega) (by simp) ?_)); intro w1 hown hgrow; (have hO1 : Hid (Own w.heap.size w1 (.slice (some ⟨w.heap.size + 1, 0, none⟩) 15 15) bare) := by (have e : (madeCells #[Value.string ⟨#[]⟩] 15).toList = bare.map Value.string := by simp [madeCells, Nat.mod_one, List.map_const', bare]; rfl); rw [e] at hown; exact hown); have hL1 : Hid (Below w.heap.size w w1) := ((Below.refl _ _).alloc (Nat.le_refl _) _).grown hgrow (by simp) (fun k hk => by cases hk); have hblk : w1.heap[w.heap.size]? = some (.cells #[.slice none 0 0] 59) := (hgrow.block w.heap.size (by simp) (by simp)).trans (World.alloc_heap_new w _); (have hc : w1.cell? ⟨w.heap.size, 0, none⟩ = some (.slice none 0 0) := by simp [World.cell?, hblk]); (have hf : w1.frozen? ⟨w.heap.size, 0, none⟩ = false := by simp [World.frozen?, hblk]); clear hown hgrow; (go_wp2_with fail); refine bodyPost_ret (v := .agg #[.slice (some ⟨w.heap.size + 1, 0, none⟩) 15 15]) (by simp [results, Tryz.results43, go_sem, hc]) rfl ⟨_, rfl, ?_, hL1.out.setCell (p := ⟨w.heap.size, 0, none⟩) (Nat.le_refl _) _⟩; refine World.ownsRow.kept hO1.out (grownBy_setCell0 w1 w.heap.size _) (.inr ?_); simp [Value.ownBlock]
def fstOk (p : Int) (s t : ByteArray) : Prop := (0 ≤ p ∧ p ≤ 7) ∧ maySet s = true ∧ Kw.ok t = true
instance (p : Int) (s t : ByteArray) : Decidable (fstOk p s t) := by unfold fstOk; infer_instance
def fstOf (p : Int) (s t : ByteArray) : Mem := if fstOk p s t then ⟨true, p, setKeys bare p.toNat s, pathOf (chainOf (7 + p)) s, 0, t, ⟨#[]⟩⟩ else Mem.none
theorem fst_no {p : Int} {s t : ByteArray} (h : ¬ fstOk p s t) : fstOf p s t = Mem.none := by unfold fstOf; rw [if_neg h]
theorem fst_yes {p : Int} {s t : ByteArray} (h : fstOk p s t) : fstOf p s t = ⟨true, p, setKeys bare p.toNat s, pathOf (chainOf (7 + p)) s, 0, t, ⟨#[]⟩⟩ := by unfold fstOf; rw [if_pos h]
theorem sMemFirst_any (p : Int) (s t : ByteArray) (w : World) (hs : s.size ≤ maxLen) (ht : t.size ≤ maxLen) : Calls Tryz.prog 24 #[.int .i64 p, .string s, .string t] w fun e w' => ∃ v, e = .returned v ∧ MemO w.heap.size w' v (fstOf p s t) ∧ Below w.heap.size w w' := by
 have HS := hide hs; have HT := hide ht; unfold maxLen at hs ht; have HB0 : Hid (Below w.heap.size w (w.alloc (.cells noMem 62))) := (Below.refl _ _).alloc (Nat.le_refl _) _; have A0 := hide (Blk.new w 62 noMem); (have hs0 : (w.alloc (.cells noMem 62)).heap.size = w.heap.size + 1 := by simp); by_cases hp : 0 ≤ p ∧ p ≤ 7
 · obtain ⟨k, rfl⟩ : ∃ k : Nat, p = (k : Int) := ⟨p.toNat, by omega⟩; (have hk8 : k < 8 := by omega); have HK8 := hide hk8; clear hp; go_enter Tryz.func24, Tryz.ntmps24; (go_wp2_with fail); refine (l1In_yes _ _ _ _ (by omega) (by omega)).mono ?_; rintro e wa ⟨rfl, rfl⟩; (go_wp2_with fail); refine (sSecOk_any s _ HS.out).mono ?_; rintro e w1 ⟨rfl, hb1⟩; have A1 := hide (A0.out.below hb1); have HB1 := hide (HB0.out.trans (hb1.mono HB0.out.size)); have hs1 := hb1.size; rw [hs0] at hs1; clear hb1 A0 HB0 hs0
   cases hos : Kw.ok s with
   | false =>
    (have HE : Hid (¬ fstOk (k : Int) s t) := by show ¬ _; unfold fstOk maySet; rw [hos]; simp); have l1 := load_mm (A1.out.set noMem) rfl; have HB2 := hide (below_blk HB1.out (Nat.le_refl _) noMem); clear hos; (go_wp2_with (refine wpList_store_whole rfl 62 _ _ rfl w.heap.size noMem rfl rfl 62 _ A1.out info_mm rfl (one_mm _ _ _ _ _ _ _ _ _ _ _) ?_)); refine bodyPost_ret (v := .agg noMem) (results_cell rfl rfl l1) rfl ⟨_, rfl, ?_, unhide HB2⟩; rw [fst_no HE.out]; exact MemO.none _ _
   | true =>
    have HOS := hide hos; clear hos; (go_wp2_with fail); refine (sSecOk_any t _ HT.out).mono ?_; rintro e w2 ⟨rfl, hb2⟩; have A2 := hide (A1.out.below hb2); have HB2 := hide (HB1.out.trans (hb2.mono HB1.out.size)); have hs2 := hb2.size; clear hb2 A1 HB1
    cases hot : Kw.ok t with
    | false =>
     (have HE : Hid (¬ fstOk (k : Int) s t) := by show ¬ _; unfold fstOk; rw [hot]; simp); have l1 := load_mm (A2.out.set noMem) rfl; have HB3 := hide (below_blk HB2.out (Nat.le_refl _) noMem); clear hot; (go_wp2_with (refine wpList_store_whole rfl 62 _ _ rfl w.heap.size noMem rfl rfl 62 _ A2.out info_mm rfl (one_mm _ _ _ _ _ _ _ _ _ _ _) ?_)); refine bodyPost_ret (v := .agg noMem) (results_cell rfl rfl l1) rfl ⟨_, rfl, ?_, unhide HB3⟩; rw [fst_no HE.out]; exact MemO.none _ _
    | true =>
     have HOT := hide hot; clear hot; by_cases hsz : s.size ≤ 292
     · (have hsz2 : decide ((292 : Int) < (s.size : Int)) = false := by simp; omega); have HE : Hid (fstOk (k : Int) s t) := ⟨by have := HK8.out; omega, by unfold maySet; rw [HOS.out]; simpa using hsz, HOT.out⟩; (go_wp2_with fail); refine (sTreNew_any _).mono ?_; rintro e w3 ⟨v3, rfl, ho3, hb3⟩; have A3 := hide (A2.out.below hb3); have HB3 := hide (HB2.out.trans (hb3.mono HB2.out.size)); have hs3 := hb3.size; obtain ⟨g, c, rfl, hg1, hg2, hg3, hg4⟩ := row15 (show w3.ownsRow w2.heap.size 9 1 v3 15 (bare.map Value.string) from ho3); have O3 : Hid (w3.ownsRow w2.heap.size 9 1 (.slice (some ⟨g, 0, none⟩) 15 c) 15 (bare.map Value.string)) := ho3; clear ho3 hb3 A2 HB2; (go_wp2_with fail); refine (l3Set_any w2.heap.size g c bare rfl k HK8.out s (by omega) _ O3.out).mono ?_; rintro e w5 ⟨rfl, ho5, hg⟩; have A5 := hide (A3.out.kept hg (Blk.not_row A3.out (by decide) O3.out)); have HB5 : Hid (Below w.heap.size w w5) := HB3.out.grown hg HB3.out.size (fun z hz => by cases hz; omega); have O5 := hide ho5; have hs5 := hg.size; clear ho5 hg A3 HB3 O3; (go_wp2_with fail); refine (sTreLeaf_any _ _).mono ?_; rw [show leafOf (k : Int) = ((7 + k : Nat) : Int) by unfold leafOf; rw [if_pos (by have := HK8.out; omega)]; omega]; rintro e wz ⟨rfl, rfl⟩; (go_wp2_with fail); refine (l4Path_any (7 + k) (by have := HK8.out; omega) s (by omega) _).mono ?_; rintro e w6 ⟨v6, rfl, ho6, hb6⟩; obtain ⟨oo, oc, hv6⟩ := row_form' ho6; subst hv6; generalize hPL : (pathOf (chainOf ((7 + k : Nat) : Int)) s).length = PL at *; have A6 := hide (A5.out.below hb6); have HB6 := hide (HB5.out.trans (hb6.mono HB5.out.size)); have O6 := hide (own_below' O5.out hb6); have M6 := hide ho6; have hs6 := hb6.size; have HPL := hide hPL; clear ho6 hb6 A5 HB5 O5 hPL; have l1 := load_mm (A6.out.set (memC true (k : Int) (.slice (some ⟨g, 0, none⟩) 15 c) (.slice oo PL oc) 0 t ⟨#[]⟩)) rfl; have HB7 := hide (below_blk HB6.out (Nat.le_refl _) (memC true (k : Int) (.slice (some ⟨g, 0, none⟩) 15 c) (.slice oo PL oc) 0 t ⟨#[]⟩)); have O7 := hide (row_blk O6.out A6.out (by decide) (memC true (k : Int) (.slice (some ⟨g, 0, none⟩) 15 c) (.slice oo PL oc) 0 t ⟨#[]⟩)); have M7 := hide (row_blk M6.out A6.out (by decide) (memC true (k : Int) (.slice (some ⟨g, 0, none⟩) 15 c) (.slice oo PL oc) 0 t ⟨#[]⟩)); (go_wp2_with (refine wpList_store_whole rfl 62 _ _ rfl w.heap.size (memC true (k : Int) (.slice (some ⟨g, 0, none⟩) 15 c) (.slice oo PL oc) 0 t ⟨#[]⟩) rfl rfl 62 _ A6.out info_mm rfl (one_mm _ _ _ _ _ _ _ _ _ _ _) ?_)); refine bodyPost_ret (v := .agg (memC true (k : Int) (.slice (some ⟨g, 0, none⟩) 15 c) (.slice oo PL oc) 0 t ⟨#[]⟩)) (results_cell rfl rfl l1) rfl ⟨_, rfl, ?_, unhide HB7⟩; rw [fst_yes HE.out]; refine ⟨_, _, rfl, ?_, ?_⟩
       · unfold Own; rw [setKeys_len, show ((k : Int)).toNat = k from rfl]; exact row_lowB O7.out (by omega)
       · rw [show (7 + (k : Int)) = ((7 + k : Nat) : Int) by omega]; exact row_lowB M7.out (by omega)
     · (have hsz2 : (292 : Int) < (s.size : Int) := by omega); (have HE : Hid (¬ fstOk (k : Int) s t) := by show ¬ _; unfold fstOk maySet; rw [HOS.out]; simp; omega); have l1 := load_mm (A2.out.set noMem) rfl; have HB3 := hide (below_blk HB2.out (Nat.le_refl _) noMem); (go_wp2_with (refine wpList_store_whole rfl 62 _ _ rfl w.heap.size noMem rfl rfl 62 _ A2.out info_mm rfl (one_mm _ _ _ _ _ _ _ _ _ _ _) ?_)); refine bodyPost_ret (v := .agg noMem) (results_cell rfl rfl l1) rfl ⟨_, rfl, ?_, unhide HB3⟩; rw [fst_no HE.out]; exact MemO.none _ _
 · have HE : Hid (¬ fstOk p s t) := fun q => hp q.1; have l1 := load_mm (A0.out.set noMem) rfl; have HB3 := hide (below_blk HB0.out (Nat.le_refl _) noMem); have HP := hide hp; clear hp; go_enter Tryz.func24, Tryz.ntmps24; (go_wp2_with fail); refine (l1In_no _ _ _ _ (by have := HP.out; omega)).mono ?_; rintro e wa ⟨rfl, rfl⟩; (go_wp2_with (refine wpList_store_whole rfl 62 _ _ rfl w.heap.size noMem rfl rfl 62 _ A0.out info_mm rfl (one_mm _ _ _ _ _ _ _ _ _ _ _) ?_)); refine bodyPost_ret (v := .agg noMem) (results_cell rfl rfl l1) rfl ⟨_, rfl, ?_, unhide HB3⟩; rw [fst_no HE.out]; exact MemO.none _ _
def newN (who j : Nat) : Wld :=
  { Wld.none with seats := (List.range j).map (fun k => if k = who then fstOf (who : Int) (mkNew (who : Int) 1) (mkNew (who : Int) 2) else Mem.none), fresh := (List.range j).map (fun k => if k = who then 2 else 0), said := (List.range j).map (fun _ => 0), wins := (List.range j).map (fun _ => []) }
def newW (who : Nat) : Wld := newN who 8
theorem newN_len (who j : Nat) : (newN who j).seats.length = j ∧ (newN who j).fresh.length = j ∧ (newN who j).said.length = j ∧ (newN who j).wins.length = j := by unfold newN; simp
theorem newN_next (who j : Nat) : ({ newN who j with seats := (newN who j).seats ++ [if j = who then fstOf (who : Int) (mkNew (who : Int) 1) (mkNew (who : Int) 2) else Mem.none], fresh := (newN who j).fresh ++ [if j = who then 2 else 0], said := (newN who j).said ++ [0], wins := (newN who j).wins ++ [[]] } : Wld) = newN who (j + 1) := by unfold newN; simp only [List.range_succ, List.map_append, List.map_cons, List.map_nil]
theorem Rows.appFresh {X L : List Nat} {B : Nat} {w : World} {a b c d e f g h i j : Value} {W : Wld} (q : Rows X L B w (rowsOf a b c d e f g h i j W)) : ∃ cs, w.ownsRow B 3 1 d W.fresh.length cs ∧ ∀ (x : Int) (v : Value) (w' : World), w'.ownsRow B 3 1 v (W.fresh.length + 1) (cs ++ [.int .i64 x]) → w.grownBy w' d.ownBlock → (v.ownBlock = d.ownBlock ∨ v.ownBlock = some w.heap.size) → ∃ X', Rows X' L B w' (rowsOf a b c v e f g h i j { W with fresh := W.fresh ++ [x] }) ∧ MoreX X X' w := by obtain ⟨cs, h1, h2⟩ := q.own _ (List.mem_of_getElem? (i := 3) rfl); refine ⟨cs, h1, fun x v w' ho hg hat => ?_⟩; exact q.upd 3 (Nat.le_of_ble_eq_true rfl) ⟨3, 1, v, (W.fresh ++ [x]).length, fun _ _ => ListR intR (W.fresh ++ [x])⟩ hg (by show World.ownsRow _ _ _ _ _ (W.fresh ++ [x]).length _; rw [List.length_append]; exact ho) (stays_flat _ _) hat (fun _ _ => ListR.app h2 (ListR.one rfl))
theorem Rows.appSaid {X L : List Nat} {B : Nat} {w : World} {a b c d e f g h i j : Value} {W : Wld} (q : Rows X L B w (rowsOf a b c d e f g h i j W)) : ∃ cs, w.ownsRow B 3 1 h W.said.length cs ∧ ∀ (x : Int) (v : Value) (w' : World), w'.ownsRow B 3 1 v (W.said.length + 1) (cs ++ [.int .i64 x]) → w.grownBy w' h.ownBlock → (v.ownBlock = h.ownBlock ∨ v.ownBlock = some w.heap.size) → ∃ X', Rows X' L B w' (rowsOf a b c d e f g v i j { W with said := W.said ++ [x] }) ∧ MoreX X X' w := by obtain ⟨cs, h1, h2⟩ := q.own _ (List.mem_of_getElem? (i := 7) rfl); refine ⟨cs, h1, fun x v w' ho hg hat => ?_⟩; exact q.upd 7 (Nat.le_of_ble_eq_true rfl) ⟨3, 1, v, (W.said ++ [x]).length, fun _ _ => ListR intR (W.said ++ [x])⟩ hg (by show World.ownsRow _ _ _ _ _ (W.said ++ [x]).length _; rw [List.length_append]; exact ho) (stays_flat _ _) hat (fun _ _ => ListR.app h2 (ListR.one rfl))
theorem rows_none {B : Nat} {w : World} (L : List Nat) (hL : ∀ b ∈ L, b < w.heap.size) : ∃ X, Rows X L B w (rowsOf (.slice Option.none 0 0) (.slice Option.none 0 0) (.slice Option.none 0 0) (.slice Option.none 0 0) (.slice Option.none 0 0) (.slice Option.none 0 0) (.slice Option.none 0 0) (.slice Option.none 0 0) (.slice Option.none 0 0) (.slice Option.none 0 0) Wld.none) := by
 have key : ∀ r ∈ rowsOf (.slice Option.none 0 0) (.slice Option.none 0 0) (.slice Option.none 0 0) (.slice Option.none 0 0) (.slice Option.none 0 0) (.slice Option.none 0 0) (.slice Option.none 0 0) (.slice Option.none 0 0) (.slice Option.none 0 0) (.slice Option.none 0 0) Wld.none, r.v.ownBlock = Option.none ∧ Stays r.P ∧ ∃ cs, w.ownsRow B r.e r.size r.v r.n cs ∧ ∀ X, r.P X w cs := by
  intro r hr; simp only [rowsOf, List.mem_cons, List.not_mem_nil, or_false] at hr; have nil : ∀ (e : TypeId) (s : Nat), w.ownsRow B e s (.slice Option.none 0 0) 0 [] := fun e s => ⟨by simp, .inl ⟨rfl, rfl⟩⟩; rcases hr with rfl | rfl | rfl | rfl | rfl | rfl | rfl | rfl | rfl | rfl
  · exact ⟨rfl, stays_seat _, [], nil _ _, fun _ => rfl⟩
  · exact ⟨rfl, stays_flat _ _, [], nil _ _, fun _ => rfl⟩
  · exact ⟨rfl, stays_cmt _, [], nil _ _, fun _ => rfl⟩
  · exact ⟨rfl, stays_flat _ _, [], nil _ _, fun _ => rfl⟩
  · exact ⟨rfl, stays_flat _ _, [], nil _ _, fun _ => rfl⟩
  · exact ⟨rfl, stays_flat _ _, [], nil _ _, fun _ => rfl⟩
  · exact ⟨rfl, stays_flat _ _, [], nil _ _, fun _ => rfl⟩
  · exact ⟨rfl, stays_flat _ _, [], nil _ _, fun _ => rfl⟩
  · exact ⟨rfl, stays_wins _, [], nil _ _, fun _ => rfl⟩
  · exact ⟨rfl, stays_flat _ _, [], nil _ _, fun _ => rfl⟩
 refine ⟨_, Rows.flat (fun r hr => (key r hr).2.1) (fun r hr => (key r hr).2.2) ?_ (fun b hb => ⟨hL b hb, fun r hr e => by rw [(key r hr).1] at e; cases e⟩)⟩; rw [List.pairwise_iff_getElem]; intro i j hi hj hij; exact .inl (key _ (List.getElem_mem hi)).1
open Go.RowKit Kw
theorem nodup_le : ∀ (l C : List Int), (∀ x ∈ l, x ∈ C) → l.Pairwise (· ≠ ·) → l.length ≤ C.length
  | [], _, _, _ => Nat.zero_le _
  | a :: l, C, h, hn => by
    rw [List.pairwise_cons] at hn
    have ha : a ∈ C := h a List.mem_cons_self
    have ih := nodup_le l (C.erase a) (fun x hx => (List.mem_erase_of_ne (Ne.symm (hn.1 x hx))).2 (h x (List.mem_cons_of_mem _ hx))) hn.2
    rw [List.length_erase_of_mem ha] at ih
    have : 0 < C.length := List.length_pos_of_mem ha
    rw [List.length_cons]
    omega
theorem secAt_first' : ∀ (own : List Mo) (p : Int), (∀ i, i < own.length → (own.getD i noMo).1 ≠ p) ∨ ∃ i, i < own.length ∧ (own.getD i noMo).1 = p ∧ (own.getD i noMo).2 = secAt own p
  | [], _ => .inl (fun i hi => absurd hi (Nat.not_lt_zero _))
  | b :: bs, p => by
    by_cases e : b.1 = p
    · exact .inr ⟨0, by simp, e, by show b.2 = (if b.1 = p then b.2 else _); rw [if_pos e]⟩
    · rcases secAt_first' bs p with h | ⟨i, h1, h2, h3⟩
      · refine .inl (fun i hi => ?_)
        cases i with
        | zero => exact e
        | succ i => exact h i (by simpa using hi)
      · refine .inr ⟨i + 1, by simpa using h1, h2, ?_⟩
        show (bs.getD i noMo).2 = (if b.1 = p then b.2 else secAt bs p)
        rw [if_neg e]
        exact h3
theorem own_four {m : Mem} (h : memOkS m = true) (hi : m.inn = true) : m.own.length ≤ 4 := by
 unfold memOkS at h; rw [if_pos hi] at h; simp only [Bool.and_eq_true, decide_eq_true_eq] at h; obtain ⟨⟨⟨⟨⟨⟨h1, _⟩, hf⟩, _⟩, _⟩, _⟩, _⟩ := h; unfold fitsS at hf; rw [List.all_eq_true] at hf; (have key : ∀ j, j < m.own.length → (m.own.getD j noMo).1 ∈ chainOf (leafOf m.who) ∧ Kw.ok (m.own.getD j noMo).2 = true ∧ secAt (m.own.take j) (m.own.getD j noMo).1 = ByteArray.empty := fun j hj => by have q := hf j (List.mem_range.2 hj); unfold fitJ at q; simp only [Bool.and_eq_true, decide_eq_true_eq] at q; exact ⟨q.1.1.1, q.1.1.2, q.2⟩); have get : ∀ j (hj : j < m.own.length), m.own[j] = m.own.getD j noMo := fun j hj => by rw [List.getD_eq_getElem?_getD, List.getElem?_eq_getElem hj]; rfl
 have hl : (m.own.map (·.1)).length ≤ (chainOf (leafOf m.who)).length := by
  refine nodup_le _ _ (fun x hx => ?_) ?_
  · obtain ⟨o, ho, rfl⟩ := List.mem_map.1 hx; obtain ⟨j, hj, rfl⟩ := List.getElem_of_mem ho; rw [get j hj]; exact (key j hj).1
  · rw [List.pairwise_iff_getElem]; intro i j hi2 hj hij e; rw [List.length_map] at hi2 hj; rw [List.getElem_map, List.getElem_map, get i hi2, get j hj] at e; have q := (key j hj).2.2; rcases secAt_first' (m.own.take j) (m.own.getD j noMo).1 with z | z
    · exact z i (by rw [List.length_take]; omega) (by rw [take_getD _ _ _ hij]; exact e)
    · obtain ⟨i2, h3, h4, h5⟩ := z; rw [List.length_take] at h3; have h6 := (key i2 (by omega)).2.1; rw [take_getD _ _ _ (by omega)] at h5; rw [h5, q] at h6; exact absurd h6 (by decide)
 rw [List.length_map] at hl; obtain ⟨k, hk⟩ : ∃ k : Nat, m.who = (k : Int) := ⟨m.who.toNat, by omega⟩; rw [hk, leaf_in (by omega) (by omega), show (7 : Int) + (k : Int) = ((7 + k : Nat) : Int) by omega, (chain_leaf k (by omega)).1] at hl; exact hl
theorem key_300 (s : ByteArray) : (mkKey s).size ≤ 300 := by
 unfold mkKey; split
 · unfold cap; split
   · assumption
   · show 0 ≤ 300; omega
 · show 0 ≤ 300; omega
theorem epoch_300 (s t : ByteArray) : (mkEpoch s t).size ≤ 300 := by
 unfold mkEpoch; split
 · unfold cap; split
   · assumption
   · show 0 ≤ 300; omega
 · show 0 ≤ 300; omega
theorem new_300 (a b : Int) : (mkNew a b).size ≤ 300 := by
 unfold mkNew; split
 · rcases newName_sizes a.toNat b.toNat with h | h <;> omega
 · show 0 ≤ 300; omega
theorem fill_300 : ∀ (ps : List Nat) (xs : List ByteArray) (s : ByteArray), (∀ x ∈ xs, x.size ≤ 300) → ∀ x ∈ fill xs s ps, x.size ≤ 300
  | [], _, _, h => h
  | p :: ps, xs, s, h => fill_300 ps _ _ (fun x hx => by
    rcases List.mem_or_eq_of_mem_set hx with q | rfl
    · exact h x q
    · exact key_300 s)
theorem setKeys_300 {xs : List ByteArray} (h : ∀ x ∈ xs, x.size ≤ 300) (k : Nat) (s : ByteArray) : ∀ x ∈ setKeys xs k s, x.size ≤ 300 := fill_300 _ _ _ h
theorem baseK_300 {xs : List ByteArray} (h : ∀ x ∈ xs, x.size ≤ 300) (add rem : Int) {leaf : ByteArray} (hl : leaf.size ≤ 300) : ∀ x ∈ baseK xs add rem leaf, x.size ≤ 300 := by
 have hw : ∀ x ∈ withoutOf xs rem, x.size ≤ 300 := by
  unfold withoutOf; split
  · exact h
  · exact clear_small h _
 unfold baseK; split
 · exact hw
 · intro x hx; rcases List.mem_or_eq_of_mem_set hx with q | rfl
   · exact clear_small hw _ x q
   · exact hl
structure SeatZ (m : Mem) : Prop where
  k15 : m.inn = true → m.keys.length = 15
  k0 : m.inn = false → m.keys = []
  own : m.own.length ≤ 8
  key : ∀ x ∈ m.keys, x.size ≤ 300
  sec : ∀ o ∈ m.own, o.2.size ≤ 300
  init : m.init.size ≤ 300
  tag : m.tag.size ≤ 300
structure LogZ (c : Cmt) : Prop where
  keys : c.keys.length ≤ 15
  boxes : c.boxes.length ≤ 100
  key : ∀ x ∈ c.keys, x.size ≤ 300
  box : ∀ b ∈ c.boxes, b.1.size ≤ 300 ∧ b.2.size ≤ 300
  name : c.name.size ≤ 300
  tag : c.tag.size ≤ 300
  leaf : c.leaf.size ≤ 300
  wel : c.wel.key.size ≤ 300 ∧ c.wel.is.size ≤ 300 ∧ c.wel.ss.size ≤ 300
theorem seatZ_none : SeatZ Mem.none := ⟨fun h => (by cases h), fun _ => rfl, Nat.zero_le _, fun x hx => (by cases hx), fun x hx => (by cases hx), Nat.zero_le _, Nat.zero_le _⟩
theorem SeatZ.memZ {m : Mem} (h : SeatZ m) : MemZ m := by
 have hk : m.keys.length ≤ 15 := by
  cases q : m.inn with
  | true => rw [h.k15 q]; omega
  | false => rw [h.k0 q]; exact Nat.zero_le _
 (have big : 300 ≤ maxLen := by unfold maxLen; omega); exact ⟨by omega, by have := h.own; omega, fun x hx => Nat.le_trans (h.key x hx) big, fun o ho => Nat.le_trans (h.sec o ho) big, Nat.le_trans h.init big, Nat.le_trans h.tag big⟩
theorem LogZ.cmtZ {c : Cmt} (h : LogZ c) : CmtZ c := by (have big : 300 ≤ maxLen := by unfold maxLen; omega); exact ⟨fun x hx => Nat.le_trans (h.key x hx) big, fun b hb => ⟨Nat.le_trans (h.box b hb).1 big, Nat.le_trans (h.box b hb).2 big⟩, by have := h.name; omega, by have := h.tag; omega, Nat.le_trans h.leaf big, Nat.le_trans h.wel.1 big, Nat.le_trans h.wel.2.1 big, Nat.le_trans h.wel.2.2 big⟩
theorem commit_seat {m : Mem} {fresh : ByteArray} {add rem : Int} {leaf key : ByteArray} (h : SeatZ m) (hf : fresh.size ≤ 300) (hl : leaf.size ≤ 300) : SeatZ (commitX m fresh add rem leaf key) := by
 unfold commitX; split
 · rename_i hb; rw [commitB_eq] at hb; simp only [Bool.and_eq_true, decide_eq_true_eq] at hb; obtain ⟨h1, _, _, h4, h5, _⟩ := hb; have hi := (may_facts h4).1; have hk := (memOk_facts h1 hi); refine ⟨fun _ => ?_, fun q => (by cases q), ?_, setKeys_300 (baseK_300 h.key _ _ hl) _ _, pathU_size hf, epoch_300 _ _, ?_⟩
   · show (setKeys _ _ _).length = 15; rw [setKeys_len]; exact baseK_len (h.k15 hi) _ _ _
   · show (pathU m.who fresh).length ≤ 8; rw [pathU_len (by omega)]; omega
   · show (m.tag ++ fresh).size ≤ 300; rw [ByteArray.size_append]; exact h5
 · exact seatZ_none
theorem hear_seat {m : Mem} {c : Cmt} (h : SeatZ m) (hc : LogZ c) (hy : hearY m c = true) : SeatZ (hearX m c) := by
 rw [hearY_eq] at hy; simp only [Bool.and_eq_true] at hy; obtain ⟨⟨h1, h2⟩, h3, h4⟩ := hy; rw [hearX_eq, if_pos (by rw [h1, h2]; rfl), if_pos h3]; split
 · exact seatZ_none
 · rename_i hr
   have hb : hearB m c = true := by
    rcases (Bool.or_eq_true _ _).mp h4 with q | q
    · exact absurd (by simpa using q) hr
    · exact q
   rw [if_pos hb]; rw [takesB_eq] at h3; simp only [Bool.and_eq_true, decide_eq_true_eq] at h3; obtain ⟨hi, ht, _⟩ := h3; unfold cmtOk at h2; simp only [Bool.and_eq_true, decide_eq_true_eq] at h2; obtain ⟨⟨⟨⟨⟨⟨⟨⟨hse, _⟩, hn⟩, _⟩, _⟩, hk⟩, _⟩, _⟩, _⟩ := h2; unfold oneB at hse; simp only [Bool.and_eq_true, decide_eq_true_eq] at hse; rw [hearB_eq] at hb; simp only [Bool.and_eq_true, decide_eq_true_eq] at hb; obtain ⟨_, hs, _⟩ := hb; have hp : ∀ o ∈ hearPath m c, o.2.size ≤ 300 := path_le _ _ (by omega); have hw := (memOk_facts h1 hi).2.1; (have hpl : (hearPath m c).length ≤ 4 := by unfold hearPath; rw [pathOf_len]; obtain ⟨n, hn15, e⟩ := meet_place hw hse; rw [e]; exact (chain_len14 n hn15).2); refine ⟨fun _ => (treOk_iff.1 hk).1, fun q => (by cases q), ?_, hc.key, ?_, epoch_300 _ _, ?_⟩
   · show ((m.own.filter _).filter _ ++ hearPath m c).length ≤ 8; have h5 := own_four h1 hi; have h6 := List.length_filter_le (underB (hearPath m c)) m.own; have h7 := List.length_filter_le (keepsB c.keys) (m.own.filter (underB (hearPath m c))); rw [List.length_append]; omega
   · intro o ho; rcases List.mem_append.1 ho with q | q
     · exact h.sec o (List.mem_filter.1 (List.mem_filter.1 q).1).1
     · exact hp o q
   · show (m.tag ++ c.name).size ≤ 300; rw [ByteArray.size_append, ← ht]; exact hn
theorem getD_300 {xs : List ByteArray} (h : ∀ x ∈ xs, x.size ≤ 300) (k : Nat) : (xs.getD k ByteArray.empty).size ≤ 300 := by
 rw [List.getD_eq_getElem?_getD]
 cases q : xs[k]? with
 | none => exact Nat.zero_le _
 | some x => exact h x (List.mem_of_getElem? q)
theorem getM_300 {own : List Mo} (h : ∀ o ∈ own, o.2.size ≤ 300) (k : Nat) : (own.getD k noMo).2.size ≤ 300 := by
 rw [List.getD_eq_getElem?_getD]
 cases q : own[k]? with
 | none => exact Nat.zero_le _
 | some x => exact h x (List.mem_of_getElem? q)
theorem secAt_300 {own : List Mo} (h : ∀ o ∈ own, o.2.size ≤ 300) (p : Int) : (secAt own p).size ≤ 300 := by
 rcases secAt_mem own p with q | ⟨b, hb, _, q⟩
 · rw [q]; exact Nat.zero_le _
 · rw [q]; exact h b hb
theorem boxesTo_300 {xs : List ByteArray} {own : List Mo} (hx : ∀ x ∈ xs, x.size ≤ 300) (ho : ∀ o ∈ own, o.2.size ≤ 300) (add : Int) : ∀ k, ∀ b ∈ boxesTo xs own add k, b.1.size ≤ 300 ∧ b.2.size ≤ 300
  | 0, b, hb => by cases hb
  | k + 1, b, hb => by
    rcases List.mem_append.1 (show b ∈ boxesTo xs own add k ++ boxRow xs own add k from hb) with q | q
    · exact boxesTo_300 hx ho add k b q
    · unfold boxRow boxesAt at q
      obtain ⟨c, _, rfl⟩ := List.mem_map.1 q
      exact ⟨getD_300 hx _, getM_300 ho _⟩
theorem logZ_none : LogZ Cmt.none := ⟨Nat.zero_le _, Nat.zero_le _, fun x hx => (by cases hx), fun x hx => (by cases hx), Nat.zero_le _, Nat.zero_le _, Nat.zero_le _, Nat.zero_le _, Nat.zero_le _, Nat.zero_le _⟩
theorem commit_log {m : Mem} {fresh : ByteArray} {add rem : Int} {leaf key : ByteArray} (h : SeatZ m) (hf : fresh.size ≤ 300) (hl : leaf.size ≤ 300) (hk : key.size ≤ 300) : LogZ (commitY m fresh add rem leaf key) := by
 unfold commitY; split
 · rename_i hb; rw [commitB_eq] at hb; simp only [Bool.and_eq_true, decide_eq_true_eq] at hb; obtain ⟨h1, _, _, h4, _, _⟩ := hb; have hi := (may_facts h4).1; have hw := (memOk_facts h1 hi).2.1; have hbk := baseK_300 h.key add rem hl; have hpu := pathU_size (who := m.who) hf; refine ⟨?_, ?_, setKeys_300 hbk _ _, boxesTo_300 hbk hpu _ _, hf, h.tag, hl, ?_⟩
   · show (setKeys _ _ _).length ≤ 15; rw [setKeys_len, baseK_len (h.k15 hi)]; omega
   · show (boxesTo _ (pathU m.who fresh) add ((pathU m.who fresh).length - 1)).length ≤ 100; have q := boxesTo_le (baseK m.keys add rem leaf) (pathU m.who fresh) add ((pathU m.who fresh).length - 1) (fun j hj => pathU_place hw fresh j (by omega)); have e := pathU_len hw fresh; omega
   · show (commitW m fresh add rem leaf key).key.size ≤ 300 ∧ (commitW m fresh add rem leaf key).is.size ≤ 300 ∧ (commitW m fresh add rem leaf key).ss.size ≤ 300; unfold commitW; split
     · exact ⟨Nat.zero_le _, Nat.zero_le _, Nat.zero_le _⟩
     · exact ⟨hk, epoch_300 _ _, secAt_300 hpu _⟩
 · exact logZ_none
theorem join_seat {who : Int} {leaf key : ByteArray} {c : Cmt} (hw : 0 ≤ who ∧ who ≤ 7) (hl : leaf.size ≤ 300) (hc : LogZ c) : SeatZ (joinR who leaf key c) := by
 unfold joinR; split
 · rename_i hb; rw [joinB_eq] at hb; simp only [Bool.and_eq_true, decide_eq_true_eq] at hb; obtain ⟨h2, _, _, _, _, _, _, hs, _⟩ := hb; unfold cmtOk at h2; simp only [Bool.and_eq_true, decide_eq_true_eq] at h2; obtain ⟨⟨⟨⟨⟨⟨⟨⟨hse, _⟩, hn⟩, _⟩, _⟩, hk⟩, _⟩, _⟩, _⟩ := h2; unfold oneB at hse; simp only [Bool.and_eq_true, decide_eq_true_eq] at hse; obtain ⟨n, hn15, e⟩ := meet_place hw hse; refine ⟨fun _ => (treOk_iff.1 hk).1, fun q => (by cases q), ?_, hc.key, ?_, hc.wel.2.1, ?_⟩
   · show (joinOwn who leaf c).length ≤ 8; unfold joinOwn; rw [List.length_cons, pathOf_len, e]; have := (chain_len14 n hn15).2; omega
   · intro o ho; rcases List.mem_cons.1 (show o ∈ (leafOf who, leaf) :: pathOf _ _ from ho) with rfl | q
     · exact hl
     · exact path_le _ _ (by omega) o q
   · show (c.tag ++ c.name).size ≤ 300; rw [ByteArray.size_append]; exact hn
 · exact seatZ_none
theorem first_seat (who : Nat) (hw : who < 8) {s t : ByteArray} (hs : s.size ≤ 300) (ht : t.size ≤ 300) : SeatZ (fstOf (who : Int) s t) := by
 unfold fstOf; split
 · refine ⟨fun _ => ?_, fun q => (by cases q), ?_, setKeys_300 (fun x hx => ?_) _ _, path_le _ _ hs, ht, Nat.zero_le _⟩
   · show (setKeys bare _ _).length = 15; rw [setKeys_len]; rfl
   · show (pathOf _ _).length ≤ 8; rw [pathOf_len, show (7 : Int) + (who : Int) = ((7 + who : Nat) : Int) by omega, (chain_leaf who hw).1]; omega
   · unfold bare at hx; rw [List.eq_of_mem_replicate hx]; exact Nat.zero_le _
 · exact seatZ_none
end Go.Proofs.YtdfpeaenbmgihaaGreat
