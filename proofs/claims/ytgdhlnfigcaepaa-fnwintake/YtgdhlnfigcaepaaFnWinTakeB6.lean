/-
  A region that draws its order: whatever yields its value in every later world may be taken first; so what makes or writes memory alone comes up, one by one; what waits for all others may write what it likes.
-/
import Derived.Test.YtgdhlnfigcaepaaFnWinTakeB1
import Derived.OrdersHeld
import Derived.Deep.RegionHeld3
import Derived.Test.YtgdhlnfigcaepaaFnWinTakeB4
import Derived.Test.YtgdhlnfigcaepaaFnWinTakeB5
import Derived.Test.YtgdhlnfigcaepaaFnWinTakeB3
import Derived.BigRegion
namespace Go.Proofs.Ytgdhlnfigcaepaa
open Go.RowKit

/-- An order of worlds. -/
structure Pre (R : World → World → Prop) : Prop where
  refl : ∀ w, R w w
  trans : ∀ u v w, R u v → R v w → R u w

section
variable {P : Program} {ops : Array Oper} {Q : Exit → Act → World → Prop} {md : Region.Mode} {R : World → World → Prop}

/-- Operation j waits for all others. -/
def waitsB (md : Region.Mode) (ops : Array Oper) (j : Nat) : Bool :=
  (List.range ops.size).all fun k => k == j || ((ops[j]?).map (fun o => o.after.any fun e => Region.binds md e && e.on == k)).getD false

/-- Whatever order is picked from here on, and each operation leads from a world to a later one, but one that waits for all others. -/
def wpAnyR (P : Program) (md : Region.Mode) (ops : Array Oper) (Q : Exit → Act → World → Prop) (R : World → World → Prop) : Nat → Array Bool → Act → World → Prop
  | 0, listed, a, w => Region.ready md ops listed = [] ∧ Q .normal a w
  | fuel + 1, listed, a, w =>
    (Region.ready md ops listed = [] → Q .normal a w) ∧
    ∀ i ∈ Region.ready md ops listed, wpOp P ops Q i (fun a' w' => (waitsB md ops i = true ∧ Region.ready md ops (listed.setIfInBounds i true) = [] ∧ Q .normal a' w') ∨ (R w w' ∧ wpAnyR P md ops Q R fuel (listed.setIfInBounds i true) a' w')) a w

theorem wpAny_of_R : ∀ (fuel : Nat) (listed : Array Bool) (a : Act) (w : World), wpAnyR P md ops Q R fuel listed a w → wpAny P md ops Q fuel listed a w
  | 0, _, _, _, h => h
  | fuel + 1, _, _, _, h => ⟨h.1, fun i hi => wpOp_mono (fun a' w' h' => by
      rcases h' with ⟨_, h1, h2⟩ | h'
      · cases fuel with
        | zero => exact ⟨h1, h2⟩
        | succ f => exact ⟨fun _ => h2, by rw [h1]; simp⟩
      · exact wpAny_of_R fuel _ a' w' h'.2) (h.2 i hi)⟩

theorem YieldsIf.later {S S' : World → Prop} {o : Oper} {v : Value} {a : Act} (h : YieldsIf P ops S o v a) (hs : ∀ w, S' w → S w) : YieldsIf P ops S' o v a :=
  h.imp (fun ⟨hw, hv⟩ => ⟨hw, fun w hS => hv w (hs w hS)⟩) id

theorem waits_spec {j i : Nat} {oj : Oper} (hj : ops[j]? = some oj) (h : waitsB md ops j = true) (hi : i < ops.size) (hne : i ≠ j) : ∃ e ∈ oj.after, Region.binds md e = true ∧ e.on = i := by
  unfold waitsB at h
  rw [List.all_eq_true] at h
  have h1 := h i (by rw [List.mem_range]; exact hi)
  rw [hj] at h1
  simp only [Option.map_some, Option.getD_some, Bool.or_eq_true, beq_iff_eq, hne, false_or, Array.any_eq_true', Bool.and_eq_true] at h1
  exact h1

theorem wpAnyR_first (hP : Pre R) {i : Nat} {oi : Oper} {v : Value} (hi : ops[i]? = some oi) (hsel : ∀ (j : Nat) (o : Oper) cs b, ops[j]? = some o → o.op ≠ .select cs b)
    (hQ : ∀ c a w, Q (.panic c) (a.put oi.dst v) w → Q (.panic c) a w) :
    ∀ (fuel : Nat) (listed : Array Bool) (a : Act) (w : World),
      (∀ j oj, ops[j]? = some oj → j ≠ i → listed.getD j true = false → (∀ e ∈ oj.after, Region.binds md e = true → e.on ≠ i) → oi.apart ops oj = true) →
      i ∈ Region.ready md ops listed → YieldsIf P ops (R w) oi v a →
      wpAnyR P md ops Q R fuel (listed.setIfInBounds i true) (a.put oi.dst v) w → wpAnyR P md ops Q R (fuel + 1) listed a w := by
  intro fuel
  induction fuel with
  | zero =>
    intro listed a w _ hr hy H
    refine ⟨fun h => (by rw [h] at hr; cases hr), fun j hj => ?_⟩
    by_cases hji : j = i
    · subst hji; exact hy.wpOp hi (hP.refl w) (.inr ⟨hP.refl w, H⟩)
    · have := ready_mono hj hji
      rw [H.1] at this
      cases this
  | succ fuel ih =>
    intro listed a w hfree hr hy H
    refine ⟨fun h => (by rw [h] at hr; cases hr), fun j hj => ?_⟩
    by_cases hji : j = i
    · subst hji; exact hy.wpOp hi (hP.refl w) (.inr ⟨hP.refl w, H⟩)
    · have h1 := H.2 j (ready_mono hj hji)
      obtain ⟨hjun, oj, hoj, hall⟩ := mem_ready.1 hj
      have hnot : ∀ e ∈ oj.after, Region.binds md e = true → e.on ≠ i := fun e he hb heq => by
        have h1 := hall e he hb
        have h0 := (mem_ready.1 hr).1
        rw [heq] at h1
        rcases Nat.lt_or_ge i listed.size with h' | h'
        · simp [h'] at h0 h1; rw [h0] at h1; cases h1
        · simp [Array.getElem?_eq_none h'] at h1
      have hnw : ¬ waitsB md ops j = true := fun q => by
        obtain ⟨e, he, hb, heq⟩ := waits_spec hoj q (Array.getElem?_eq_some_iff.1 hi).1 (Ne.symm hji)
        exact hnot e he hb heq
      have h2 := wpOp_putIf hoj (hfree j oj hoj hji hjun hnot) (fun cs b => hsel i oi cs b hi) (fun cs b => hsel j oj cs b hoj) hQ hy h1
      have hfree' : ∀ k ok, ops[k]? = some ok → k ≠ i → (listed.setIfInBounds j true).getD k true = false →
          (∀ e ∈ ok.after, Region.binds md e = true → e.on ≠ i) → oi.apart ops ok = true := fun k ok hk hki hun hno => by
        refine hfree k ok hk hki ?_ hno
        by_cases hjk : j = k
        · subst hjk; exact hjun
        · rw [getD_set_ne true hjk] at hun; exact hun
      refine wpOp_mono (fun a' w' h3 => ?_) h2
      rcases h3.2 with ⟨q, _⟩ | ⟨h4, h5⟩
      · exact absurd q hnw
      refine .inr ⟨h4, ih (listed.setIfInBounds j true) a' w' hfree' (ready_mono hr (Ne.symm hji)) (YieldsIf.later h3.1 (fun u hu => hP.trans _ _ _ h4 hu)) ?_⟩
      rw [Array.setIfInBounds_comm _ _ hji]
      exact h5

/-- Take number i first: it yields v in every later world. -/
theorem ord_take (hP : Pre R) {i d : Nat} {v : Value} {fuel : Nat} {listed : Array Bool} {a : Act} {w : World}
    (hs : Region.noSelect ops = true) (hf : Region.free md ops listed i = true) (hr : (Region.ready md ops listed).contains i = true) (hd : (ops[i]?).bind (·.dst) = some d)
    (hQ : ∀ c a w, Q (.panic c) (a.put (some d) v) w → Q (.panic c) a w)
    (hy : ∀ oi, ops[i]? = some oi → Region.wanted oi (yielded ops a.tmps) = true ∧ ∀ w', R w w' → (execOp a.eval oi).run P w' = .ok (.value v) w')
    (h : wpAnyR P md ops Q R fuel (listed.setIfInBounds i true) (a.put (some d) v) w) : wpAnyR P md ops Q R (fuel + 1) listed a w := by
  cases hi : ops[i]? with
  | none => rw [hi] at hd; cases hd
  | some oi =>
    rw [hi] at hd
    have hd' : oi.dst = some d := hd
    rw [← hd'] at h hQ
    exact wpAnyR_first hP hi (Region.noSelect_spec hs) hQ fuel listed a w (Region.free_spec hi hf) (by simpa using hr) (.inl (hy oi hi)) h
/-- Take number i first: it is not wanted. -/
theorem ord_skip (hP : Pre R) {i d : Nat} {fuel : Nat} {listed : Array Bool} {a : Act} {w : World}
    (hs : Region.noSelect ops = true) (hf : Region.free md ops listed i = true) (hr : (Region.ready md ops listed).contains i = true) (hd : (ops[i]?).bind (·.dst) = some d)
    (hQ : ∀ c a w, Q (.panic c) (a.put (some d) undef) w → Q (.panic c) a w)
    (hy : ((ops[i]?).map fun oi => Region.wanted oi (yielded ops a.tmps)) = some false)
    (h : wpAnyR P md ops Q R fuel (listed.setIfInBounds i true) (a.put (some d) undef) w) : wpAnyR P md ops Q R (fuel + 1) listed a w := by
  cases hi : ops[i]? with
  | none => rw [hi] at hd; cases hd
  | some oi =>
    rw [hi] at hd hy
    have hd' : oi.dst = some d := hd
    rw [← hd'] at h hQ
    exact wpAnyR_first hP hi (Region.noSelect_spec hs) hQ fuel listed a w (Region.free_spec hi hf) (by simpa using hr) (.inr ⟨by simpa using hy, rfl⟩) h
/-- Number i alone comes up. -/
theorem ord_one {i : Nat} {fuel : Nat} {listed : Array Bool} {a : Act} {w : World} (hr : Region.ready md ops listed = [i])
    (h : ∀ oi K, ops[i]? = some oi → Shut (∀ a' w', R w w' → wpAnyR P md ops Q R fuel (listed.setIfInBounds i true) a' w' → K a' w') → Region.wanted oi (yielded ops a.tmps) = true ∧ oi.wp P a w K Q) : wpAnyR P md ops Q R (fuel + 1) listed a w := by
  refine ⟨fun h0 => (by rw [hr] at h0; cases h0), fun j hj => ?_⟩
  rw [hr] at hj
  obtain rfl : j = i := by simpa using hj
  unfold wpOp
  cases hi : ops[j]? with
  | none =>
    have : j ∈ Region.ready md ops listed := by rw [hr]; simp
    obtain ⟨_, o, ho, _⟩ := mem_ready.1 this
    rw [hi] at ho
    cases ho
  | some oi =>
    obtain ⟨hw, hwp⟩ := h oi (fun a' w' => (waitsB md ops j = true ∧ Region.ready md ops (listed.setIfInBounds j true) = [] ∧ Q .normal a' w') ∨ (R w w' ∧ wpAnyR P md ops Q R fuel (listed.setIfInBounds j true) a' w')) hi (fun a' w' hl hk => .inr (And.intro hl hk))
    simp only [hw, if_true]
    exact .inl hwp
/-- Number i comes up last: it waits for all others. -/
theorem ord_last {i : Nat} {fuel : Nat} {listed : Array Bool} {a : Act} {w : World} (hr : Region.ready md ops listed = [i]) (hwt : waitsB md ops i = true) (he : Region.ready md ops (listed.setIfInBounds i true) = [])
    (h : ∀ oi K, ops[i]? = some oi → Shut (∀ a' w', Q .normal a' w' → K a' w') → Region.wanted oi (yielded ops a.tmps) = true ∧ oi.wp P a w K Q) : wpAnyR P md ops Q R (fuel + 1) listed a w := by
  refine ⟨fun h0 => (by rw [hr] at h0; cases h0), fun j hj => ?_⟩
  rw [hr] at hj
  obtain rfl : j = i := by simpa using hj
  unfold wpOp
  cases hi : ops[j]? with
  | none =>
    have : j ∈ Region.ready md ops listed := by rw [hr]; simp
    obtain ⟨_, o, ho, _⟩ := mem_ready.1 this
    rw [hi] at ho
    cases ho
  | some oi =>
    obtain ⟨hw, hwp⟩ := h oi (fun a' w' => (waitsB md ops j = true ∧ Region.ready md ops (listed.setIfInBounds j true) = [] ∧ Q .normal a' w') ∨ (R w w' ∧ wpAnyR P md ops Q R fuel (listed.setIfInBounds j true) a' w')) hi (fun a' w' hl => .inl ⟨hwt, he, hl⟩)
    simp only [hw, if_true]
    exact .inl hwp
/-- All have come up. -/
theorem later_done {listed : Array Bool} {a : Act} {w : World} (hr : Region.ready md ops listed = []) (h : Q .normal a w) : ∀ fuel, wpAnyR P md ops Q R fuel listed a w
  | 0 => ⟨hr, h⟩
  | _ + 1 => ⟨fun _ => h, by rw [hr]; simp⟩
/-- The beginning. -/
theorem wp_region_ord (R : World → World → Prop) {id : Nat} {a : Act} {w : World} (hm : P.follows .mixedOrders = true)
    (h : wpAnyR P .any ops Q R ops.size (Array.replicate ops.size false) a w.drew) : (Code.region id ops true).wp P Q a w :=
  wp_region_any hm (wpAny_of_R _ _ _ _ h)
end

/-- Later worlds: what was there is as it was. -/
def Later (w w' : World) : Prop := Below w.heap.size w w'
theorem laterPre : Pre Later := ⟨fun _ => Below.refl _ _, fun _ _ _ h k => Below.trans h (Below.mono k h.size)⟩
/-- Worlds in which what lay below B is as it was. -/
theorem belowPre (B : Nat) : Pre (Below B) := ⟨fun _ => Below.refl _ _, fun _ _ _ h k => Below.trans h k⟩

section
variable {P : Program} {ops : Array Oper} {Q : Exit → Act → World → Prop} {md : Region.Mode}
theorem later_take {i d : Nat} {v : Value} {fuel : Nat} {listed : Array Bool} {a : Act} {w : World}
    (hs : Region.noSelect ops = true) (hf : Region.free md ops listed i = true) (hr : (Region.ready md ops listed).contains i = true) (hd : (ops[i]?).bind (·.dst) = some d)
    (hQ : ∀ c a w, Q (.panic c) (a.put (some d) v) w → Q (.panic c) a w)
    (hy : ∀ oi, ops[i]? = some oi → Region.wanted oi (yielded ops a.tmps) = true ∧ ∀ w', Later w w' → (execOp a.eval oi).run P w' = .ok (.value v) w')
    (h : wpAnyR P md ops Q Later fuel (listed.setIfInBounds i true) (a.put (some d) v) w) : wpAnyR P md ops Q Later (fuel + 1) listed a w := ord_take laterPre hs hf hr hd hQ hy h
theorem later_skip {i d : Nat} {fuel : Nat} {listed : Array Bool} {a : Act} {w : World}
    (hs : Region.noSelect ops = true) (hf : Region.free md ops listed i = true) (hr : (Region.ready md ops listed).contains i = true) (hd : (ops[i]?).bind (·.dst) = some d)
    (hQ : ∀ c a w, Q (.panic c) (a.put (some d) undef) w → Q (.panic c) a w)
    (hy : ((ops[i]?).map fun oi => Region.wanted oi (yielded ops a.tmps)) = some false)
    (h : wpAnyR P md ops Q Later fuel (listed.setIfInBounds i true) (a.put (some d) undef) w) : wpAnyR P md ops Q Later (fuel + 1) listed a w := ord_skip laterPre hs hf hr hd hQ hy h
theorem later_one {i : Nat} {fuel : Nat} {listed : Array Bool} {a : Act} {w : World} (hr : Region.ready md ops listed = [i])
    (h : ∀ oi K, ops[i]? = some oi → Shut (∀ a' w', Later w w' → wpAnyR P md ops Q Later fuel (listed.setIfInBounds i true) a' w' → K a' w') → Region.wanted oi (yielded ops a.tmps) = true ∧ oi.wp P a w K Q) : wpAnyR P md ops Q Later (fuel + 1) listed a w := ord_one hr h
theorem wp_region_later {id : Nat} {a : Act} {w : World} (hm : P.follows .mixedOrders = true)
    (h : wpAnyR P .any ops Q Later ops.size (Array.replicate ops.size false) a w.drew) : (Code.region id ops true).wp P Q a w := wp_region_ord Later hm h
end
#print axioms wp_region_later
end Go.Proofs.Ytgdhlnfigcaepaa
/-
  A region that draws its order: two that make memory may come up, one ahead of the other.
-/
namespace Go.Proofs.Ytgdhlnfigcaepaa
open Go.RowKit
section
variable {P : Program} {ops : Array Oper} {Q : Exit → Act → World → Prop} {md : Region.Mode} {R : World → World → Prop}
theorem ord_two {i j : Nat} {fuel : Nat} {listed : Array Bool} {a : Act} {w : World} (hr : Region.ready md ops listed = [i, j])
    (h : ∀ oi K, ops[i]? = some oi → Shut (∀ a' w', R w w' → wpAnyR P md ops Q R fuel (listed.setIfInBounds i true) a' w' → K a' w') → Region.wanted oi (yielded ops a.tmps) = true ∧ oi.wp P a w K Q)
    (k : ∀ oi K, ops[j]? = some oi → Shut (∀ a' w', R w w' → wpAnyR P md ops Q R fuel (listed.setIfInBounds j true) a' w' → K a' w') → Region.wanted oi (yielded ops a.tmps) = true ∧ oi.wp P a w K Q) : wpAnyR P md ops Q R (fuel + 1) listed a w := by
  refine ⟨fun h0 => (by rw [hr] at h0; cases h0), fun z hz => ?_⟩
  have step : ∀ z, z ∈ Region.ready md ops listed → (∀ oi K, ops[z]? = some oi → Shut (∀ a' w', R w w' → wpAnyR P md ops Q R fuel (listed.setIfInBounds z true) a' w' → K a' w') → Region.wanted oi (yielded ops a.tmps) = true ∧ oi.wp P a w K Q) →
      wpOp P ops Q z (fun a' w' => (waitsB md ops z = true ∧ Region.ready md ops (listed.setIfInBounds z true) = [] ∧ Q .normal a' w') ∨ (R w w' ∧ wpAnyR P md ops Q R fuel (listed.setIfInBounds z true) a' w')) a w := by
    intro z hm hh
    unfold wpOp
    cases hi : ops[z]? with
    | none =>
      obtain ⟨_, o, ho, _⟩ := mem_ready.1 hm
      rw [hi] at ho
      cases ho
    | some oi =>
      obtain ⟨hw, hwp⟩ := hh oi (fun a' w' => (waitsB md ops z = true ∧ Region.ready md ops (listed.setIfInBounds z true) = [] ∧ Q .normal a' w') ∨ (R w w' ∧ wpAnyR P md ops Q R fuel (listed.setIfInBounds z true) a' w')) hi (fun a' w' hl hk => .inr (And.intro hl hk))
      simp only [hw, if_true]
      exact .inl hwp
  rw [hr] at hz
  rcases (by simpa using hz : z = i ∨ z = j) with rfl | rfl
  · exact step z (by rw [hr]; simp) h
  · exact step z (by rw [hr]; simp) k
theorem later_two {i j : Nat} {fuel : Nat} {listed : Array Bool} {a : Act} {w : World} (hr : Region.ready md ops listed = [i, j])
    (h : ∀ oi K, ops[i]? = some oi → Shut (∀ a' w', Later w w' → wpAnyR P md ops Q Later fuel (listed.setIfInBounds i true) a' w' → K a' w') → Region.wanted oi (yielded ops a.tmps) = true ∧ oi.wp P a w K Q)
    (k : ∀ oi K, ops[j]? = some oi → Shut (∀ a' w', Later w w' → wpAnyR P md ops Q Later fuel (listed.setIfInBounds j true) a' w' → K a' w') → Region.wanted oi (yielded ops a.tmps) = true ∧ oi.wp P a w K Q) : wpAnyR P md ops Q Later (fuel + 1) listed a w := ord_two hr h k
end
end Go.Proofs.Ytgdhlnfigcaepaa
/-
  A drawn region's order of worlds: a list of cells stays. No Go function in it.
-/
namespace Go.Proofs.Ytgdhlnfigcaepaa
open Go.RowKit

/-- Cells that stay. -/
def KeepC (L : List Addr) (u u' : World) : Prop := ∀ a ∈ L, u'.cell? a = u.cell? a
theorem keepCPre (L : List Addr) : Pre (KeepC L) := ⟨fun _ _ _ => rfl, fun _ _ _ h k a ha => (k a ha).trans (h a ha)⟩

theorem keepC_below {L : List Addr} {u u' : World} (h : Below u.heap.size u u') (hl : ∀ a ∈ L, a.block < u.heap.size) : KeepC L u u' := fun a ha => h.cell (hl a ha)
theorem keepC_grown {L : List Addr} {u u' : World} {r : Option Nat} (h : u.grownBy u' r) (hl : ∀ a ∈ L, a.block < u.heap.size ∧ some a.block ≠ r) : KeepC L u u' := fun a ha => World.cell?_of_block (w := u) (h.block a.block (hl a ha).1 (hl a ha).2)
/-- A value of several cells is stored whole, in a drawn region. -/
theorem keepC_row {L : List Addr} {u : World} {b : Nat} {cs : Array Value} (hl : ∀ a ∈ L, a.block < u.heap.size ∧ a.block ≠ b) (hg : u.grownBy (u.setRow b cs) (some b)) : KeepC L u (u.setRow b cs) := keepC_grown hg (fun a ha => ⟨(hl a ha).1, fun e => (hl a ha).2 (by cases e; rfl)⟩)
end Go.Proofs.Ytgdhlnfigcaepaa
/-
  Results of which one lies in a block. No Go function in it.
-/
namespace Go.Proofs.Ytgdhlnfigcaepaa
open Go.RowKit

theorem results_cs {P : Program} {fn : Func} {a t s : Nat} {tmps : Array Value} {w : World} {b : Addr} {v x : Value} (h : fn.results = #[.cell a t, .tmp s]) (hp : tmps.getD a undef = .pointer (some b)) (hx : tmps.getD s undef = x) (hl : (loadVar t b).run P w = .ok v w) : (results fn tmps).run P w = .ok (.tuple #[v, x]) w := by
  have hp' : tmps[a]?.getD undef = .pointer (some b) := by simpa using hp
  have hx' : tmps[s]?.getD undef = x := by simpa using hx
  simp [results, h, hp', hx', asAddr, hl]
theorem results_ccs {P : Program} {fn : Func} {a t c u s : Nat} {tmps : Array Value} {w : World} {b d : Addr} {v y x : Value} (h : fn.results = #[.cell a t, .cell c u, .tmp s]) (hp : tmps.getD a undef = .pointer (some b)) (hq : tmps.getD c undef = .pointer (some d)) (hx : tmps.getD s undef = x) (hl : (loadVar t b).run P w = .ok v w) (hm : (loadVar u d).run P w = .ok y w) : (results fn tmps).run P w = .ok (.tuple #[v, y, x]) w := by
  have hp' : tmps[a]?.getD undef = .pointer (some b) := by simpa using hp
  have hq' : tmps[c]?.getD undef = .pointer (some d) := by simpa using hq
  have hx' : tmps[s]?.getD undef = x := by simpa using hx
  simp [results, h, hp', hq', hx', asAddr, hl, hm]
theorem results_cc {P : Program} {fn : Func} {a t c u : Nat} {tmps : Array Value} {w : World} {b d : Addr} {v y : Value} (h : fn.results = #[.cell a t, .cell c u]) (hp : tmps.getD a undef = .pointer (some b)) (hq : tmps.getD c undef = .pointer (some d)) (hl : (loadVar t b).run P w = .ok v w) (hm : (loadVar u d).run P w = .ok y w) : (results fn tmps).run P w = .ok (.tuple #[v, y]) w := by
  have hp' : tmps[a]?.getD undef = .pointer (some b) := by simpa using hp
  have hq' : tmps[c]?.getD undef = .pointer (some d) := by simpa using hq
  simp [results, h, hp', hq', asAddr, hl, hm]
end Go.Proofs.Ytgdhlnfigcaepaa
/-
  The specification's l6Take.
-/
namespace Go.Proofs.Ytgdhlnfigcaepaa
open Go.RowKit

/-- What a window behind a number is, as a value. -/
def TakeR (B : Nat) (x : Win) (n : Int) (v : Value) (w' : World) (v' : Value) : Prop := (lateB x n = true → v' = v) ∧ (lateB x n = false → OwnI B w' v' (tookW x n).seen)

set_option maxRecDepth 100000 in
set_option maxHeartbeats 4000000 in
theorem l6Take_any (x : Win) (v : Value) (n : Int) (w : World) (hI : IRow w v x.seen) (hl : x.seen.length ≤ 1000) (ht : -1000000 ≤ x.top ∧ x.top ≤ 1000000) (hn : -1000000 ≤ n ∧ n ≤ 1000000) :
    Calls Try.prog 45 #[.agg (x.cells v), .int .i64 n] w fun e w' => ∃ v', e = .returned (.tuple #[.agg ((takeW x n).1.cells v'), .bool (takeW x n).2]) ∧ TakeR w.heap.size x n v w' v' ∧ Below w.heap.size w w' := by
  have HT : Hid (takeW x n = if lateB x n = true then (x, false) else (tookW x n, true)) := rfl
  have HL : Hid (lateB x n = (decide (n ≤ x.top - 8) || decide (n ∈ x.seen))) := rfl
  have HK : Hid (tookW x n = ⟨x.key, max x.top n, seenOf n (max x.top n - 8) x.seen⟩) := rfl
  obtain ⟨lb, hlb⟩ : ∃ b, lateB x n = b := ⟨_, rfl⟩
  have HR : Hid (∀ B w' v', TakeR B x n v w' v' = ((lateB x n = true → v' = v) ∧ (lateB x n = false → OwnI B w' v' (tookW x n).seen))) := fun _ _ _ => rfl
  obtain ⟨key, top, xs⟩ := x
  simp only at hI hl ht HL HK HT HR hlb ⊢
  have HI := hide hI
  obtain ⟨ao, cap, rfl, _, _, _⟩ := hI.form
  clear hI
  have i8 : IntKind.i64.wrap (top - 8) = top - 8 := by simp [IntKind.wrap, IntKind.bits, IntKind.signed]; omega
  have a1' := ((Blk.new w 35 (winC key top (.slice ao xs.length cap))).alloc (.cells noWin 35))
  have r1' := Blk.new (w.alloc (.cells (winC key top (.slice ao xs.length cap)) 35)) 35 noWin
  have HB := hide (((Below.refl w.heap.size w).alloc (Nat.le_refl _) (.cells (winC key top (.slice ao xs.length cap)) 35)).alloc (by simp) (.cells noWin 35))
  have hw0 := World.size_alloc (w.alloc (.cells (winC key top (.slice ao xs.length cap)) 35)) (.cells noWin 35)
  simp only [World.size_alloc] at r1' hw0
  have A := hide a1'
  have R := hide r1'
  clear a1' r1'
  have c1 := (unhide A).cell 1
  have c2 := (unhide A).cell 2
  simp only [List.getElem?_toArray, List.getElem?_cons_zero, List.getElem?_cons_succ] at c1 c2
  have L0 := hide (load_wi (unhide A) rfl)
  have L1 := hide (load_wi ((unhide R).set (winC key top (.slice ao xs.length cap))) rfl)
  by_cases g1 : n ≤ top - 8
  · have HLT : Hid (lateB ⟨key, top, xs⟩ n = true) := by show _ = _; rw [HL.out, decide_eq_true g1]; rfl
    clear hlb
    go_enter Try.func45, Try.ntmps45
    have HTE : Hid (takeW ⟨key, top, xs⟩ n = (⟨key, top, xs⟩, false)) := by show _ = _; rw [HT.out, if_pos HLT.out]
    go_wp2_with (first | refine wpList_load_whole rfl 35 _ rfl ⟨w.heap.size, 0, none⟩ rfl _ (by exact unhide L0) ?_ | refine wpList_store_whole rfl 35 (.tmp 4) (.tmp 18) rfl (w.heap.size + 1) (winC key top (.slice ao xs.length cap)) ?hx1 ?hy1 35 noWin ?hb1 ?hi1 ?ho1 ?h11 ?h1)
    any_goals (first | rfl | exact unhide R | exact info_wi | exact one_wi _ _ _ _ _)
    go_wp2_with fail
    refine bodyPost_ret (v := .tuple #[.agg (winC key top (.slice ao xs.length cap)), .bool false]) (results_cs rfl rfl rfl (unhide L1)) rfl ?_
    rw [HTE.out]
    refine ⟨_, rfl, ?_, below_blk HB.out (by omega) _⟩
    rw [HR.out]
    exact ⟨fun _ => rfl, fun q => by rw [HLT.out] at q; cases q⟩
  have g2 : decide (n ≤ top - 8) = false := by simpa using g1
  go_enter Try.func45, Try.ntmps45
  go_wp2_with fail
  refine (l4In_any _ xs n _ ((unhide HI).below HB.out)).mono ?_
  by_cases g3 : n ∈ xs
  · rw [decide_eq_true g3]
    rintro e wz ⟨rfl, rfl⟩
    have HLT : Hid (lateB ⟨key, top, xs⟩ n = true) := by show _ = _; rw [HL.out, decide_eq_true g3, Bool.or_true]
    clear hlb
    have HTE : Hid (takeW ⟨key, top, xs⟩ n = (⟨key, top, xs⟩, false)) := by show _ = _; rw [HT.out, if_pos HLT.out]
    go_wp2_with (first | refine wpList_load_whole rfl 35 _ rfl ⟨w.heap.size, 0, none⟩ rfl _ (by exact unhide L0) ?_ | refine wpList_store_whole rfl 35 (.tmp 4) (.tmp 18) rfl (w.heap.size + 1) (winC key top (.slice ao xs.length cap)) ?hx2 ?hy2 35 noWin ?hb2 ?hi2 ?ho2 ?h12 ?h2)
    any_goals (first | rfl | exact unhide R | exact info_wi | exact one_wi _ _ _ _ _)
    go_wp2_with fail
    refine bodyPost_ret (v := .tuple #[.agg (winC key top (.slice ao xs.length cap)), .bool false]) (results_cs rfl rfl rfl (unhide L1)) rfl ?_
    rw [HTE.out]
    refine ⟨_, rfl, ?_, below_blk HB.out (by omega) _⟩
    rw [HR.out]
    exact ⟨fun _ => rfl, fun q => by rw [HLT.out] at q; cases q⟩
  rw [decide_eq_false g3]
  rintro e wz ⟨rfl, rfl⟩
  have HLF : Hid (lateB ⟨key, top, xs⟩ n = false) := by show _ = _; rw [HL.out, g2, decide_eq_false g3]; rfl
  have HTE : Hid (takeW ⟨key, top, xs⟩ n = (tookW ⟨key, top, xs⟩ n, true)) := by show _ = _; rw [HT.out, HLF.out]; rfl
  have htp : -1000000000 ≤ max top n ∧ max top n ≤ 1000000000 := by omega
  clear hlb g1 g2 g3 L0 L1 HL HT
  go_wp2_with fail
  generalize max top n = tp at *
  generalize (w.alloc (.cells (winC key top (.slice ao xs.length cap)) 35)).alloc (.cells noWin 35) = W0 at *
  replace A := hide ((unhide A).drew)
  replace R := hide ((unhide R).drew)
  replace HB : Hid (Below w.heap.size w W0.drew) := HB.out.drew
  clear c1 c2
  have cA : W0.drew.cell? ⟨w.heap.size, 0, none⟩ = some (.string key) := (unhide A).cell 0
  have cB : W0.drew.cell? ⟨w.heap.size, 2, none⟩ = some (.slice ao xs.length cap) := (unhide A).cell 2
  have C4 := hide (And.intro cA cB)
  have LT4 : Hid (∀ x ∈ ([⟨w.heap.size, 0, none⟩, ⟨w.heap.size, 2, none⟩] : List Addr), x.block < W0.drew.heap.size) := by
    intro x hx
    simp only [List.mem_cons, List.not_mem_nil, or_false] at hx
    rcases hx with rfl | rfl
    · exact cell_lt cA
    · exact cell_lt cB
  clear cA cB
  refine wp_region_ord ((KeepC ([⟨w.heap.size, 0, none⟩, ⟨w.heap.size, 2, none⟩] : List Addr))) (by kernel_rfl) ?_
  refine ord_take (keepCPre _) (i := 0) (d := 23) (v := ?_) (by kernel_rfl) (by kernel_rfl) (by kernel_rfl) (by kernel_rfl) (fun _ _ _ h => h) (fun oi hoi => ?_) ?_
  rotate_left
  · simp at hoi
    subst hoi
    refine ⟨by rfl, fun w' hw' => ?_⟩
    go_simp
    all_goals rfl
  try simp only [Act.put, List.setIfInBounds_toArray, List.set_cons_zero, List.set_cons_succ]
  refine ord_take (keepCPre _) (i := 1) (d := 24) (v := ?_) (by kernel_rfl) (by kernel_rfl) (by kernel_rfl) (by kernel_rfl) (fun _ _ _ h => h) (fun oi hoi => ?_) ?_
  rotate_left
  · simp at hoi
    subst hoi
    refine ⟨by rfl, fun w' hw' => ?_⟩
    have xq := (hw' ⟨w.heap.size, 0, none⟩ (by simp)).trans C4.out.1
    go_simp
    all_goals rfl
  try simp only [Act.put, List.setIfInBounds_toArray, List.set_cons_zero, List.set_cons_succ]
  refine ord_take (keepCPre _) (i := 2) (d := 25) (v := ?_) (by kernel_rfl) (by kernel_rfl) (by kernel_rfl) (by kernel_rfl) (fun _ _ _ h => h) (fun oi hoi => ?_) ?_
  rotate_left
  · simp at hoi
    subst hoi
    refine ⟨by rfl, fun w' hw' => ?_⟩
    go_simp
    all_goals rfl
  try simp only [Act.put, List.setIfInBounds_toArray, List.set_cons_zero, List.set_cons_succ]
  refine ord_take (keepCPre _) (i := 3) (d := 26) (v := ?_) (by kernel_rfl) (by kernel_rfl) (by kernel_rfl) (by kernel_rfl) (fun _ _ _ h => h) (fun oi hoi => ?_) ?_
  rotate_left
  · simp at hoi
    subst hoi
    refine ⟨by rfl, fun w' hw' => ?_⟩
    go_simp
    all_goals rfl
  try simp only [Act.put, List.setIfInBounds_toArray, List.set_cons_zero, List.set_cons_succ]
  refine ord_take (keepCPre _) (i := 4) (d := 27) (v := ?_) (by kernel_rfl) (by kernel_rfl) (by kernel_rfl) (by kernel_rfl) (fun _ _ _ h => h) (fun oi hoi => ?_) ?_
  rotate_left
  · simp at hoi
    subst hoi
    refine ⟨by rfl, fun w' hw' => ?_⟩
    have xq := (hw' ⟨w.heap.size, 2, none⟩ (by simp)).trans C4.out.2
    go_simp
    all_goals rfl
  try simp only [Act.put, List.setIfInBounds_toArray, List.set_cons_zero, List.set_cons_succ]
  refine ord_take (keepCPre _) (i := 5) (d := 28) (v := ?_) (by kernel_rfl) (by kernel_rfl) (by kernel_rfl) (by kernel_rfl) (fun _ _ _ h => h) (fun oi hoi => ?_) ?_
  rotate_left
  · simp at hoi
    subst hoi
    refine ⟨by rfl, fun w' hw' => ?_⟩
    go_simp
    all_goals rfl
  try simp only [Act.put, List.setIfInBounds_toArray, List.set_cons_zero, List.set_cons_succ]
  refine ord_take (keepCPre _) (i := 6) (d := 29) (v := ?_) (by kernel_rfl) (by kernel_rfl) (by kernel_rfl) (by kernel_rfl) (fun _ _ _ h => h) (fun oi hoi => ?_) ?_
  rotate_left
  · simp at hoi
    subst hoi
    refine ⟨by rfl, fun w' hw' => ?_⟩
    go_simp
    all_goals rfl
  try simp only [Act.put, List.setIfInBounds_toArray, List.set_cons_zero, List.set_cons_succ]
  refine ord_one (i := 7) (by kernel_rfl) (fun oi K hoi hK => ?_)
  simp at hoi
  subst hoi
  refine ⟨by rfl, ?_⟩
  go_simp
  refine (l6Seen_any _ xs n tp _ ((unhide HI).below HB.out) hl htp).mono ?_
  rintro e w1 ⟨u, rfl, ho, hb⟩
  obtain ⟨uo, uc, rfl⟩ := row_form' ho
  have hle := HB.out.size
  have hbs := hb.size
  have OS : Hid (OwnI w.heap.size w1 (.slice uo (seenOf n (tp - 8) xs).length uc) (seenOf n (tp - 8) xs)) := row_lowB ho hle
  go_simp
  refine hK.out _ _ (keepC_below hb LT4.out) ?_
  clear hK ho
  replace R := hide ((unhide R).below hb)
  replace HB := hide (HB.out.trans (hb.mono hle))
  have LT5 : Hid (∀ x ∈ ([⟨w.heap.size, 0, none⟩, ⟨w.heap.size, 2, none⟩] : List Addr), x.block < w1.heap.size ∧ x.block ≠ w.heap.size + 1) := by
    intro x hx
    refine ⟨Nat.lt_of_lt_of_le (LT4.out x hx) hbs, ?_⟩
    simp only [List.mem_cons, List.not_mem_nil, or_false] at hx
    rcases hx with rfl | rfl
    · show w.heap.size ≠ w.heap.size + 1; omega
    · show w.heap.size ≠ w.heap.size + 1; omega
  clear hb LT4 hle hbs
  try simp only [Act.put, List.setIfInBounds_toArray, List.set_cons_zero, List.set_cons_succ]
  refine ord_take (keepCPre _) (i := 8) (d := 31) (v := ?_) (by kernel_rfl) (by kernel_rfl) (by kernel_rfl) (by kernel_rfl) (fun _ _ _ h => h) (fun oi hoi => ?_) ?_
  rotate_left
  · simp at hoi
    subst hoi
    refine ⟨by rfl, fun w' hw' => ?_⟩
    go_simp
    all_goals rfl
  try simp only [Act.put, List.setIfInBounds_toArray, List.set_cons_zero, List.set_cons_succ]
  refine ord_one (i := 9) (by kernel_rfl) (fun oi K hoi hK => ?_)
  simp at hoi
  subst hoi
  refine ⟨by rfl, ?_⟩
  refine wp_store_row 35 (.tmp 4) (.tmp 31) rfl (w.heap.size + 1) (winC key tp (.slice uo (seenOf n (tp - 8) xs).length uc)) rfl rfl 35 noWin (unhide R) info_wi rfl (one_wi _ _ _ _ _) ?_
  refine hK.out _ _ (keepC_row LT5.out (grown_setRow _ _ _)) ?_
  clear hK
  try simp only [Act.put]
  refine ord_take (keepCPre _) (i := 10) (d := 5) (v := ?_) (by kernel_rfl) (by kernel_rfl) (by kernel_rfl) (by kernel_rfl) (fun _ _ _ h => h) (fun oi hoi => ?_) ?_
  rotate_left
  · simp at hoi
    subst hoi
    refine ⟨by rfl, fun w' hw' => ?_⟩
    go_simp
    all_goals rfl
  try simp only [Act.put, List.setIfInBounds_toArray, List.set_cons_zero, List.set_cons_succ]
  refine later_done (by kernel_rfl) ?_ _
  have l2 := load_wi ((unhide R).set (winC key tp (.slice uo (seenOf n (tp - 8) xs).length uc))) rfl
  go_wp2_with fail
  refine bodyPost_ret (v := .tuple #[.agg (winC key tp (.slice uo (seenOf n (tp - 8) xs).length uc)), .bool true]) (results_cs rfl rfl rfl l2) rfl ?_
  rw [HTE.out, HK.out]
  refine ⟨_, rfl, ?_, below_blk HB.out (by omega) _⟩
  rw [HR.out]
  refine ⟨fun q => (by rw [HLF.out] at q; cases q), fun _ => ?_⟩
  rw [HK.out]
  exact row_blk (unhide OS) (unhide R) (by decide) _
#print axioms l6Take_any
end Go.Proofs.Ytgdhlnfigcaepaa
/-
  What the specification tells of how a secret was made.
-/
namespace Go.Proofs.Ytgdhlnfigcaepaa
open Go.RowKit
open Kw (g len nv ok)

/-- A whole text that names a new secret: its letter, its digits, its number. -/
theorem new_parts {s : ByteArray} (hf : Kw.fresh s 0 = s.size) (h0 : s.size ≠ 0) : 65 ≤ g s 0 ∧ g s 0 ≤ 72 ∧ (∀ i, 1 ≤ i → i < s.size - 1 → 48 ≤ g s i ∧ g s i ≤ 57) ∧ (3 ≤ s.size ∧ s.size ≤ 4) ∧ nv s 0 = dv s 1 (s.size - 2) := by
  by_cases h1 : 65 ≤ g s 0 ∧ g s 0 ≤ 72 ∧ 49 ≤ g s (0 + 1) ∧ g s (0 + 1) ≤ 57
  · obtain ⟨p1, p2, p3, p4⟩ := h1
    rw [Nat.zero_add] at p3 p4
    by_cases h2 : g s (0 + 2) = 59
    · have e : Kw.fresh s 0 = 3 := by unfold Kw.fresh; rw [if_pos ⟨p1, p2, p3, p4⟩, if_pos h2]
      have e2 : nv s 0 = g s (0 + 1) - 48 := by unfold nv; rw [if_pos h2]
      have e3 : s.size = 3 := by omega
      refine ⟨p1, p2, ?_, by omega, ?_⟩
      · intro i h1 h2
        have : i = 1 := by omega
        subst this; omega
      · rw [e2, e3]
        show g s 1 - 48 = 0 * 10 + (g s (1 + 0) - 48)
        simp
    · by_cases h3 : 48 ≤ g s (0 + 2) ∧ g s (0 + 2) ≤ 57 ∧ g s (0 + 3) = 59
      · have e : Kw.fresh s 0 = 4 := by unfold Kw.fresh; rw [if_pos ⟨p1, p2, p3, p4⟩, if_neg h2, if_pos h3]
        have e2 : nv s 0 = (g s (0 + 1) - 48) * 10 + (g s (0 + 2) - 48) := by unfold nv; rw [if_neg h2]
        have e3 : s.size = 4 := by omega
        obtain ⟨r1, r2, _⟩ := h3
        rw [Nat.zero_add] at r1 r2
        refine ⟨p1, p2, ?_, by omega, ?_⟩
        · intro i h1 h2
          have : i = 1 ∨ i = 2 := by omega
          rcases this with rfl | rfl <;> omega
        · rw [e2, e3]
          show (g s 1 - 48) * 10 + (g s 2 - 48) = (0 * 10 + (g s (1 + 0) - 48)) * 10 + (g s (1 + 1) - 48)
          simp
      · exfalso; apply h0; rw [← hf]; unfold Kw.fresh; rw [if_pos ⟨p1, p2, p3, p4⟩, if_neg h2, if_neg h3]
  · exfalso; apply h0; rw [← hf]; unfold Kw.fresh; rw [if_neg h1]

set_option maxRecDepth 100000 in
set_option maxHeartbeats 1000000 in
theorem l1How_any (s : ByteArray) (w : World) (hk : ok s = true) :
    Calls Try.prog 38 #[.string s] w fun e w' => e = .returned (howV (mOp s) (mWho s) (mN s) (mA s) (mB s)) ∧ Below w.heap.size w w' := by
  obtain ⟨h1, h2, h3⟩ := ok_facts hk
  have p0 : 0 < s.size := by omega
  have p0' : (0 : Int) < (s.size : Int) := by omega
  have g0 := Kw.g_in p0
  unfold mOp mWho mN mA mB
  simp only [if_pos hk]
  by_cases c1 : g s 0 = 110
  · simp only [if_pos c1]
    have e1 : ((s[0].toNat : Int) == 110) = true := by simp; omega
    clear h2 h3 g0 c1
    have hk' := hide hk
    clear hk
    go_enter Try.func38, Try.ntmps38
    go_wp2_with fail
    refine bodyPost_ret (v := howV 2 0 0 (s.extract 1 s.size) ⟨#[]⟩) (by simp [results, Try.results38, go_sem, howV]) rfl ⟨rfl, ?_⟩
    exact (Below.refl _ _).alloc (Nat.le_refl _) _
  simp only [if_neg c1]
  have e1 : ((s[0].toNat : Int) == 110) = false := by simp; omega
  by_cases c2 : g s 0 = 107
  · simp only [if_pos c2]
    have e2 : ((s[0].toNat : Int) == 107) = true := by simp; omega
    clear h2 h3 g0 c1 c2
    have hk' := hide hk
    clear hk
    go_enter Try.func38, Try.ntmps38
    go_wp2_with fail
    refine bodyPost_ret (v := howV 3 0 0 (s.extract 1 s.size) ⟨#[]⟩) (by simp [results, Try.results38, go_sem, howV]) rfl ⟨rfl, ?_⟩
    exact (Below.refl _ _).alloc (Nat.le_refl _) _
  simp only [if_neg c2]
  have e2 : ((s[0].toNat : Int) == 107) = false := by simp; omega
  by_cases c3 : g s 0 = 101
  · simp only [if_pos c3]
    have e3 : ((s[0].toNat : Int) == 101) = true := by simp; omega
    have e4 : ((s[0].toNat : Int) == 109) = false := by simp; omega
    have e5 : ((s[0].toNat : Int) == 114) = false := by simp; omega
    obtain ⟨q1, q2, q3⟩ := parts_e hk c3
    have H := l1Size_all s h1 s.size 1 (by omega)
    have p1' : (1 : Int) + (len s 1 : Int) ≤ (s.size : Int) := by omega
    have p2' : (1 : Int) ≤ (s.size : Int) := by omega
    have p3' : (1 : Int) ≤ 1 + (len s 1 : Int) := by omega
    have i3 : IntKind.i64.wrap (1 + (len s 1 : Int)) = 1 + (len s 1 : Int) := by simp [IntKind.wrap, IntKind.bits, IntKind.signed]; omega
    have i5 : (0 : Int) ≤ 1 + (len s 1 : Int) := by omega
    clear h2 h3 g0 c1 c2 c3 q1 q2 q3
    have hk' := hide hk
    clear hk
    go_enter Try.func38, Try.ntmps38
    go_wp2_with fail
    refine (H _ _ rfl).mono ?_
    rintro e w1 ⟨rfl, hb1⟩
    obtain ⟨k0, k1, k2, k3, k4, z0, z1, z2, z3, z4⟩ := Res5.keep (b := w.heap.size) (by constructor <;> simp [go_sem]) hb1 (by simp)
    have hbb : Below w.heap.size w w1 := ((Below.refl w.heap.size w).alloc (Nat.le_refl _) _).trans (hb1.mono (by simp))
    clear hb1
    go_wp2_with fail
    go_region
    all_goals go_wp2_with fail
    all_goals refine bodyPost_ret (v := howV 4 0 0 (s.extract 1 (1 + len s 1)) (s.extract (1 + len s 1) s.size)) (by simp [results, Try.results38, go_sem, howV, k0, k1, k2, k3, k4]) rfl ⟨rfl, ?_⟩
    all_goals exact (below5 hbb (Nat.le_refl _) _ _ _ _ _).drew
  simp only [if_neg c3]
  have e3 : ((s[0].toNat : Int) == 101) = false := by simp; omega
  by_cases c4 : g s 0 = 109
  · simp only [if_pos c4]
    have e4 : ((s[0].toNat : Int) == 109) = true := by simp; omega
    obtain ⟨q1, q2, q3, q4⟩ := parts_m hk c4
    have p1 : 1 < s.size := by omega
    have p1' : (1 : Int) < (s.size : Int) := by omega
    have p2' : (2 : Int) ≤ (s.size : Int) := by omega
    rw [Kw.g_in p1] at q1 q2 ⊢
    have b1 : (65 : Int) ≤ (s[1].toNat : Int) := by omega
    have b2 : (s[1].toNat : Int) ≤ 72 := by omega
    clear h2 h3 g0 c1 c2 c3 c4 q1 q2 q3 q4
    have hk' := hide hk
    clear hk
    go_enter Try.func38, Try.ntmps38
    go_wp2_with fail
    go_region
    all_goals go_wp2_with fail
    all_goals refine bodyPost_ret (v := howV 5 ((s[1].toNat : Int) - 65) 0 (s.extract 2 s.size) ⟨#[]⟩) (by simp [results, Try.results38, go_sem, howV]) rfl ⟨rfl, ?_⟩
    all_goals exact ((Below.refl _ _).alloc (Nat.le_refl _) _).drew
  simp only [if_neg c4]
  have e4 : ((s[0].toNat : Int) == 109) = false := by simp; omega
  by_cases c5 : g s 0 = 114
  · simp only [if_pos c5]
    have e5 : ((s[0].toNat : Int) == 114) = true := by simp; omega
    obtain ⟨q1, q2, q3, q4⟩ := parts_r hk c5
    have p1 : 1 < s.size := by omega
    have p1' : (1 : Int) < (s.size : Int) := by omega
    have p2' : (2 : Int) ≤ (s.size : Int) := by omega
    rw [Kw.g_in p1] at q1 q2 ⊢
    have b1 : (48 : Int) ≤ (s[1].toNat : Int) := by omega
    have b2 : (s[1].toNat : Int) ≤ 57 := by omega
    have b3 : ((s[1].toNat - 48 : Nat) : Int) = (s[1].toNat : Int) - 48 := by omega
    rw [b3]
    clear h2 h3 g0 c1 c2 c3 c4 c5 q1 q2 q3 q4 b3
    have hk' := hide hk
    clear hk
    go_enter Try.func38, Try.ntmps38
    go_wp2_with fail
    go_region
    all_goals go_wp2_with fail
    all_goals refine bodyPost_ret (v := howV 6 0 ((s[1].toNat : Int) - 48) (s.extract 2 s.size) ⟨#[]⟩) (by simp [results, Try.results38, go_sem, howV]) rfl ⟨rfl, ?_⟩
    all_goals exact ((Below.refl _ _).alloc (Nat.le_refl _) _).drew
  simp only [if_neg c5]
  have e5 : ((s[0].toNat : Int) == 114) = false := by simp; omega
  have hfr := parts_new hk c1 c2 c3 c4 c5
  obtain ⟨q1, q2, q3, q4⟩ := new_parts hfr h2
  rw [g0] at q1 q2 ⊢
  have b1 : (65 : Int) ≤ (s[0].toNat : Int) := by omega
  have b2 : (s[0].toNat : Int) ≤ 72 := by omega
  have q3' := hide q3
  have q4' := hide q4.2
  have hsz3 : 3 ≤ s.size := by omega
  have hsz4 : s.size ≤ 4 := by omega
  clear h2 h3 g0 c1 c2 c3 c4 c5 q1 q2 q3 q4 hfr
  have hk' := hide hk
  clear hk
  go_enter Try.func38, Try.ntmps38
  go_wp2_with fail
  go_loop [4, 5] (fun n k => ∃ m j : Nat, k = .int .i64 (j : Int) ∧ n = .int .i64 (m : Int) ∧ 1 ≤ j ∧ j + 1 ≤ s.size ∧ m < 10 ^ (j - 1) ∧ Hid (m = dv s 1 (j - 1))) (fun _ k => s.size - (intOf k).toNat)
  case atStart => exact ⟨0, 1, rfl, rfl, by omega, by omega, by simp, rfl⟩
  case round =>
    obtain ⟨m, j, rfl, rfl, hj1, hj2, hm0, hm⟩ := hrel
    have hm1 : m ≤ 999 := by
      match j, hj1, hj2, hm0 with
      | 1, _, _, h => omega
      | 2, _, _, h => simp at h; omega
      | 3, _, _, h => simp at h; omega
      | j + 4, _, h4, _ => omega
    have hmm := hide hm0
    clear hm0
    by_cases hlt : j < s.size - 1
    · have hlt2 : (j : Int) < (s.size : Int) - 1 := by omega
      have hlt3 : j < s.size := by omega
      have hlt4 : (j : Int) < (s.size : Int) := by omega
      have hd := q3'.out j hj1 hlt
      rw [Kw.g_in hlt3] at hd
      have b3 : (48 : Int) ≤ (s[j].toNat : Int) := by omega
      have b4 : (s[j].toNat : Int) ≤ 57 := by omega
      have hG : Hid (g s j = s[j].toNat) := Kw.g_in hlt3
      clear hd
      go_wp2_with fail
      refine ⟨⟨m * 10 + (s[j].toNat - 48), j + 1, by simp, ?_, by omega, by omega, ?_, ?_⟩, by simp [intOf]; omega⟩
      · congr 1; omega
      · have := hmm.out
        rw [show j + 1 - 1 = (j - 1) + 1 by omega, Nat.pow_succ]; omega
      · show _ = dv s 1 (j + 1 - 1)
        rw [show j + 1 - 1 = (j - 1) + 1 by omega]
        show _ = dv s 1 (j - 1) * 10 + (g s (1 + (j - 1)) - 48)
        rw [show 1 + (j - 1) = j by omega, hG.out, ← hm.out]
    · have hge : decide ((j : Int) < (s.size : Int) - 1) = false := by simp; omega
      have hjj : Hid (j = s.size - 1) := by show j = s.size - 1; omega
      clear hlt
      go_wp2_with fail
      have hN : (nv s 0 : Int) = (m : Int) := by rw [q4'.out, hm.out, hjj.out, show s.size - 1 - 1 = s.size - 2 by omega]
      rw [hN]
      refine bodyPost_ret (v := howV 1 ((s[0].toNat : Int) - 65) (m : Int) ⟨#[]⟩ ⟨#[]⟩) (by simp [results, Try.results38, go_sem, howV]) rfl ⟨rfl, ?_⟩
      exact (Below.refl _ _).alloc (Nat.le_refl _) _

#print axioms l1How_any
end Go.Proofs.Ytgdhlnfigcaepaa
