/-
  The program's places: whether one is there, the place over it, the place of one; TreLeaf.
-/
import Derived.Test.YtjijfcollmjljaaFnTreInB3
import Derived.Test.YtjijfcollmjljaaFnTreInB1
import Derived.Test.YtjijfcollmjljaaFnTreInB4
import Derived.RangeFuncNested
import Derived.OrdersHeld
import Derived.Deep.RegionHeld3
import Derived.Laws.OwnMore
import Derived.Lib.AppendZeros
namespace Go.Proofs.Ytjijfcollmjljaa
open Go.RowKit

/-- The place under which one lies. -/
def overOf (p : Int) : Int := if 1 ≤ p ∧ p ≤ 14 then (p - 1) / 2 else -1
/-- A place, and all above it. -/
def chainOf (p : Int) : List Int := if 0 ≤ p ∧ p ≤ 14 then p :: upOf p else []
theorem upOf_nat (k : Nat) (h : k < 15) : upOf (k : Int) = (ups k).map (fun (k : Nat) => (k : Int)) := by
  unfold upOf; rw [if_pos (by omega)]; rfl
theorem upOf_chain (p : Int) : upOf p = chainOf (overOf p) := by
  by_cases h : 0 ≤ p ∧ p ≤ 14
  · obtain ⟨k, rfl⟩ : ∃ k : Nat, p = (k : Int) := ⟨p.toNat, by omega⟩
    have hk : k < 15 := by omega
    by_cases h0 : 0 < k
    · have e : overOf (k : Int) = (((k - 1) / 2 : Nat) : Int) := by unfold overOf; rw [if_pos (by omega)]; omega
      rw [e, upOf_nat k hk, ups_step k hk h0]
      unfold chainOf
      rw [if_pos (by omega), upOf_nat _ (by omega)]
      rfl
    · obtain rfl : k = 0 := by omega
      rfl
  · have e : overOf p = -1 := by unfold overOf; rw [if_neg (by omega)]
    rw [e]
    unfold upOf
    rw [if_neg h]
    rfl
theorem chain_cons (p : Int) (h : 0 ≤ p ∧ p ≤ 14) : chainOf p = p :: chainOf (overOf p) := by
  rw [← upOf_chain]; unfold chainOf; rw [if_pos h]
theorem chain_nil (p : Int) (h : ¬ (0 ≤ p ∧ p ≤ 14)) : chainOf p = [] := by unfold chainOf; rw [if_neg h]
theorem over_lt (p : Int) (h : 0 ≤ p) : overOf p < p ∧ -1 ≤ overOf p := by unfold overOf; split <;> omega
theorem over_wrap (p : Int) (h0 : 1 ≤ p) (h : p ≤ 14) : IntKind.i64.wrap (p - 1) = p - 1 ∧ IntKind.i64.wrap ((p - 1).tdiv 2) = overOf p := by
  constructor
  · simp [IntKind.wrap, IntKind.bits, IntKind.signed]; omega
  · rw [Int.tdiv_eq_ediv_of_nonneg (by omega)]
    unfold overOf
    rw [if_pos ⟨h0, h⟩]
    simp [IntKind.wrap, IntKind.bits, IntKind.signed]
    omega

set_option maxHeartbeats 400000 in
theorem isThere_yes (n : Int) (w : World) (h0 : 0 ≤ n) (h1 : n < 15) :
    Calls Try.prog 60 #[.int .i64 n] w fun e w' => e = .returned (.bool true) ∧ w' = w := by
  go_enter Try.func60, Try.ntmps60
  go_wp2
  go_ret
  exact ⟨rfl, rfl⟩

set_option maxHeartbeats 400000 in
theorem isThere_no (n : Int) (w : World) (h : n < 0 ∨ 15 ≤ n) :
    Calls Try.prog 60 #[.int .i64 n] w fun e w' => e = .returned (.bool false) ∧ w' = w := by
  rcases h with h | h
  · go_enter Try.func60, Try.ntmps60
    go_wp2
    go_ret
    exact ⟨rfl, rfl⟩
  · have h' : 0 ≤ n := by omega
    have h2 : decide (n < 15) = false := by simp; omega
    go_enter Try.func60, Try.ntmps60
    go_wp2
    go_ret
    exact ⟨rfl, rfl⟩

set_option maxHeartbeats 1000000 in
theorem over_any (p : Int) (w : World) : Calls Try.prog 61 #[.int .i64 p] w fun e w' => e = .returned (.int .i64 (overOf p)) ∧ w' = w := by
  by_cases h : 0 ≤ p ∧ p ≤ 14
  · by_cases h0 : p = 0
    · subst h0
      have e : overOf 0 = -1 := rfl
      rw [e]
      clear e h
      go_enter Try.func61, Try.ntmps61
      go_wp2_with fail
      refine (isThere_yes _ _ (by omega) (by omega)).mono ?_
      rintro e w1 ⟨rfl, rfl⟩
      go_wp2_with fail
      go_ret
      exact ⟨rfl, rfl⟩
    · obtain ⟨i1, i2⟩ := over_wrap p (by omega) h.2
      have hz : (p == 0) = false := by simp; exact h0
      generalize overOf p = q at i2
      have hh := hide h
      clear h
      go_enter Try.func61, Try.ntmps61
      go_wp2_with fail
      refine (isThere_yes _ _ (hh.out.1) (by have := hh.out; omega)).mono ?_
      rintro e w1 ⟨rfl, rfl⟩
      go_wp2_with fail
      go_ret
      exact ⟨rfl, rfl⟩
  · have e : overOf p = -1 := by unfold overOf; rw [if_neg (by omega)]
    rw [e]
    have hh := hide h
    clear e h
    go_enter Try.func61, Try.ntmps61
    go_wp2_with fail
    refine (isThere_no _ _ (by have := hh.out; omega)).mono ?_
    rintro e w1 ⟨rfl, rfl⟩
    go_wp2_with fail
    go_ret
    exact ⟨rfl, rfl⟩

set_option maxHeartbeats 400000 in
theorem placeOf_any (who : Int) (w : World) : Calls Try.prog 39 #[.int .i64 who] w fun e w' => e = .returned (.int .i64 (leafOf who)) ∧ w' = w := by
  by_cases h : 0 ≤ who ∧ who ≤ 7
  · have hl : leafOf who = 7 + who := by unfold leafOf; rw [if_pos h]
    rw [hl]
    have hh := hide h
    have i3 : IntKind.i64.wrap (7 + who) = 7 + who := by simp [IntKind.wrap, IntKind.bits, IntKind.signed]; omega
    clear hl h
    go_enter Try.func39, Try.ntmps39
    go_wp2_with fail
    refine (isOne_yes _ _ hh.out.1 (by have := hh.out; omega)).mono ?_
    rintro e w1 ⟨rfl, rfl⟩
    go_wp2_with fail
    go_ret
    exact ⟨rfl, rfl⟩
  · have hl : leafOf who = -1 := by unfold leafOf; rw [if_neg h]
    rw [hl]
    have hh := hide h
    clear hl h
    go_enter Try.func39, Try.ntmps39
    go_wp2_with fail
    refine (isOne_no _ _ (by have := hh.out; omega)).mono ?_
    rintro e w1 ⟨rfl, rfl⟩
    go_wp2_with fail
    go_ret
    exact ⟨rfl, rfl⟩
#print axioms over_any
end Go.Proofs.Ytjijfcollmjljaa
/-
  Slices of the call's own, their rows between two numbers. No Go function in it.
-/
namespace Go.Proofs.Ytjijfcollmjljaa
open Go.RowKit

/-- A slice of the call's own, its row between two numbers. -/
def RowIn (lo hi : Nat) (e : TypeId) (size : Nat) (w : World) (v : Value) (n : Nat) (xs : List Value) : Prop := w.ownsRow lo e size v n xs ∧ ∀ g, v.ownBlock = some g → g < hi
theorem RowIn.of {lo : Nat} {e : TypeId} {size : Nat} {w : World} {v : Value} {n : Nat} {xs : List Value} (h : w.ownsRow lo e size v n xs) : RowIn lo w.heap.size e size w v n xs := ⟨h, fun g hg => (h.lt g hg).2⟩
theorem RowIn.below {lo hi : Nat} {e : TypeId} {size : Nat} {w w' : World} {v : Value} {n : Nat} {xs : List Value} (h : RowIn lo hi e size w v n xs) (hb : Below w.heap.size w w') : RowIn lo hi e size w' v n xs := ⟨own_below' h.1 hb, h.2⟩
theorem RowIn.grown {lo hi : Nat} {e : TypeId} {size : Nat} {w w' : World} {v : Value} {n : Nat} {xs : List Value} {r : Option Nat} (h : RowIn lo hi e size w v n xs) (hg : w.grownBy w' r) (hr : ∀ k, r = some k → k < lo ∨ hi ≤ k) : RowIn lo hi e size w' v n xs := by
  refine ⟨h.1.kept hg ?_, h.2⟩
  cases hv : v.ownBlock with
  | none => exact .inl rfl
  | some g =>
    right
    intro e'
    have h1 := (h.1.lt g hv).1
    have h2 := h.2 g hv
    have := hr g e'.symm
    omega
theorem RowIn.out {lo hi : Nat} {e : TypeId} {size : Nat} {w : World} {v : Value} {n : Nat} {xs : List Value} (h : RowIn lo hi e size w v n xs) : ∀ k, v.ownBlock = some k → lo ≤ k ∧ k < hi := fun k hk => ⟨(h.1.lt k hk).1, h.2 k hk⟩
/-- Texts, so. -/
def TIn (lo hi : Nat) (w : World) (v : Value) (xs : List ByteArray) : Prop := RowIn lo hi 9 1 w v xs.length (xs.map Value.string)
theorem TIn.srow {lo hi : Nat} {w : World} {v : Value} {xs : List ByteArray} (h : TIn lo hi w v xs) : SRow w v xs := own_srow h.1
theorem TIn.below {lo hi : Nat} {w w' : World} {v : Value} {xs : List ByteArray} (h : TIn lo hi w v xs) (hb : Below w.heap.size w w') : TIn lo hi w' v xs := RowIn.below h hb
theorem TIn.grown {lo hi : Nat} {w w' : World} {v : Value} {xs : List ByteArray} {r : Option Nat} (h : TIn lo hi w v xs) (hg : w.grownBy w' r) (hr : ∀ k, r = some k → k < lo ∨ hi ≤ k) : TIn lo hi w' v xs := RowIn.grown h hg hr
end Go.Proofs.Ytjijfcollmjljaa
/-
  Variables in blocks of their own, beside rows. No Go function in it.
-/
namespace Go.Proofs.Ytjijfcollmjljaa
open Go.RowKit

theorem box_below {w w' : World} {b : Nat} {t : TypeId} {v : Value} (h : Boxed w b t v) (hb : Below w.heap.size w w') : Boxed w' b t v := (hb.block b h.lt).trans h
theorem box_below0 {w w' : World} {b B : Nat} {t : TypeId} {v : Value} (h : Boxed w b t v) (hb : Below B w w') (hlt : b < B) : Boxed w' b t v := (hb.block b hlt).trans h
/-- A row is not a variable's block: what is stored there leaves it. -/
theorem row_box {B : Nat} {w : World} {e t : TypeId} {size n b : Nat} {v u : Value} {xs : List Value} (h : w.ownsRow B e size v n xs) (hx : Boxed w b t u) (hte : t ≠ e) (x : Value) : (w.setCell ⟨b, 0, none⟩ x).ownsRow B e size v n xs :=
  h.kept (grownBy_setCell' w b x) (.inr (hx.not_row hte h).symm)
/-- A store into a variable's block leaves what lies below. -/
theorem below_box {B : Nat} {w w' : World} {b : Nat} (h : Below B w w') (hb : B ≤ b) (x : Value) : Below B w (w'.setCell ⟨b, 0, none⟩ x) := h.setCell (p := ⟨b, 0, none⟩) hb x
/-- A row that grows or turns leaves a variable's block of another type. -/
theorem box_grown {B : Nat} {w w' : World} {e t : TypeId} {size n b : Nat} {v u : Value} {xs : List Value} (hx : Boxed w b t u) (h : w.ownsRow B e size v n xs) (hte : t ≠ e) (hg : w.grownBy w' v.ownBlock) : Boxed w' b t u := hx.kept hg (hx.not_row hte h)
theorem row_lowB {B B' : Nat} {w : World} {e : TypeId} {size : Nat} {v : Value} {n : Nat} {xs : List Value} (h : w.ownsRow B e size v n xs) (hB : B' ≤ B) : w.ownsRow B' e size v n xs := by
  refine ⟨h.1, h.2.imp id ?_⟩
  rintro ⟨g, cap, cur, h1, h2, h3⟩
  exact ⟨g, cap, cur, h1, by omega, h3⟩
end Go.Proofs.Ytjijfcollmjljaa
/-
  A region that draws its order: whatever yields its value in every later world may be taken first; so what makes or writes memory alone comes up, one by one; what waits for all others may write what it likes.
-/
namespace Go.Proofs.Ytjijfcollmjljaa
open Go.RowKit

/-- An order of worlds. -/
structure Pre (R : World → World → Prop) : Prop where
  refl : ∀ w, R w w
  trans : ∀ u v w, R u v → R v w → R u w

section
variable {P : Program} {ops : Array Oper} {Q : Exit → Act → World → Prop} {md : Region.Mode} {R : World → World → Prop}

/-- Operation j waits for all others. -/
def waitsB (md : Region.Mode) (ops : Array Oper) (j : Nat) : Bool :=
  (List.range ops.size).all fun k => k == j || ((ops[j]?).map (fun o => o.after.any fun e => Region.binds md e && e.on == k)).getD false

/-- Whatever order is picked from here on, and each operation leads from a world to a later one, but one that waits for all others. -/
def wpAnyR (P : Program) (md : Region.Mode) (ops : Array Oper) (Q : Exit → Act → World → Prop) (R : World → World → Prop) : Nat → Array Bool → Act → World → Prop
  | 0, listed, a, w => Region.ready md ops listed = [] ∧ Q .normal a w
  | fuel + 1, listed, a, w =>
    (Region.ready md ops listed = [] → Q .normal a w) ∧
    ∀ i ∈ Region.ready md ops listed, wpOp P ops Q i (fun a' w' => (waitsB md ops i = true ∧ Region.ready md ops (listed.setIfInBounds i true) = [] ∧ Q .normal a' w') ∨ (R w w' ∧ wpAnyR P md ops Q R fuel (listed.setIfInBounds i true) a' w')) a w

theorem wpAny_of_R : ∀ (fuel : Nat) (listed : Array Bool) (a : Act) (w : World), wpAnyR P md ops Q R fuel listed a w → wpAny P md ops Q fuel listed a w
  | 0, _, _, _, h => h
  | fuel + 1, _, _, _, h => ⟨h.1, fun i hi => wpOp_mono (fun a' w' h' => by
      rcases h' with ⟨_, h1, h2⟩ | h'
      · cases fuel with
        | zero => exact ⟨h1, h2⟩
        | succ f => exact ⟨fun _ => h2, by rw [h1]; simp⟩
      · exact wpAny_of_R fuel _ a' w' h'.2) (h.2 i hi)⟩

theorem YieldsIf.later {S S' : World → Prop} {o : Oper} {v : Value} {a : Act} (h : YieldsIf P ops S o v a) (hs : ∀ w, S' w → S w) : YieldsIf P ops S' o v a :=
  h.imp (fun ⟨hw, hv⟩ => ⟨hw, fun w hS => hv w (hs w hS)⟩) id

theorem waits_spec {j i : Nat} {oj : Oper} (hj : ops[j]? = some oj) (h : waitsB md ops j = true) (hi : i < ops.size) (hne : i ≠ j) : ∃ e ∈ oj.after, Region.binds md e = true ∧ e.on = i := by
  unfold waitsB at h
  rw [List.all_eq_true] at h
  have h1 := h i (by rw [List.mem_range]; exact hi)
  rw [hj] at h1
  simp only [Option.map_some, Option.getD_some, Bool.or_eq_true, beq_iff_eq, hne, false_or, Array.any_eq_true', Bool.and_eq_true] at h1
  exact h1

theorem wpAnyR_first (hP : Pre R) {i : Nat} {oi : Oper} {v : Value} (hi : ops[i]? = some oi) (hsel : ∀ (j : Nat) (o : Oper) cs b, ops[j]? = some o → o.op ≠ .select cs b)
    (hQ : ∀ c a w, Q (.panic c) (a.put oi.dst v) w → Q (.panic c) a w) :
    ∀ (fuel : Nat) (listed : Array Bool) (a : Act) (w : World),
      (∀ j oj, ops[j]? = some oj → j ≠ i → listed.getD j true = false → (∀ e ∈ oj.after, Region.binds md e = true → e.on ≠ i) → oi.apart ops oj = true) →
      i ∈ Region.ready md ops listed → YieldsIf P ops (R w) oi v a →
      wpAnyR P md ops Q R fuel (listed.setIfInBounds i true) (a.put oi.dst v) w → wpAnyR P md ops Q R (fuel + 1) listed a w := by
  intro fuel
  induction fuel with
  | zero =>
    intro listed a w _ hr hy H
    refine ⟨fun h => (by rw [h] at hr; cases hr), fun j hj => ?_⟩
    by_cases hji : j = i
    · subst hji; exact hy.wpOp hi (hP.refl w) (.inr ⟨hP.refl w, H⟩)
    · have := ready_mono hj hji
      rw [H.1] at this
      cases this
  | succ fuel ih =>
    intro listed a w hfree hr hy H
    refine ⟨fun h => (by rw [h] at hr; cases hr), fun j hj => ?_⟩
    by_cases hji : j = i
    · subst hji; exact hy.wpOp hi (hP.refl w) (.inr ⟨hP.refl w, H⟩)
    · have h1 := H.2 j (ready_mono hj hji)
      obtain ⟨hjun, oj, hoj, hall⟩ := mem_ready.1 hj
      have hnot : ∀ e ∈ oj.after, Region.binds md e = true → e.on ≠ i := fun e he hb heq => by
        have h1 := hall e he hb
        have h0 := (mem_ready.1 hr).1
        rw [heq] at h1
        rcases Nat.lt_or_ge i listed.size with h' | h'
        · simp [h'] at h0 h1; rw [h0] at h1; cases h1
        · simp [Array.getElem?_eq_none h'] at h1
      have hnw : ¬ waitsB md ops j = true := fun q => by
        obtain ⟨e, he, hb, heq⟩ := waits_spec hoj q (Array.getElem?_eq_some_iff.1 hi).1 (Ne.symm hji)
        exact hnot e he hb heq
      have h2 := wpOp_putIf hoj (hfree j oj hoj hji hjun hnot) (fun cs b => hsel i oi cs b hi) (fun cs b => hsel j oj cs b hoj) hQ hy h1
      have hfree' : ∀ k ok, ops[k]? = some ok → k ≠ i → (listed.setIfInBounds j true).getD k true = false →
          (∀ e ∈ ok.after, Region.binds md e = true → e.on ≠ i) → oi.apart ops ok = true := fun k ok hk hki hun hno => by
        refine hfree k ok hk hki ?_ hno
        by_cases hjk : j = k
        · subst hjk; exact hjun
        · rw [getD_set_ne true hjk] at hun; exact hun
      refine wpOp_mono (fun a' w' h3 => ?_) h2
      rcases h3.2 with ⟨q, _⟩ | ⟨h4, h5⟩
      · exact absurd q hnw
      refine .inr ⟨h4, ih (listed.setIfInBounds j true) a' w' hfree' (ready_mono hr (Ne.symm hji)) (YieldsIf.later h3.1 (fun u hu => hP.trans _ _ _ h4 hu)) ?_⟩
      rw [Array.setIfInBounds_comm _ _ hji]
      exact h5

/-- Take number i first: it yields v in every later world. -/
theorem ord_take (hP : Pre R) {i d : Nat} {v : Value} {fuel : Nat} {listed : Array Bool} {a : Act} {w : World}
    (hs : Region.noSelect ops = true) (hf : Region.free md ops listed i = true) (hr : (Region.ready md ops listed).contains i = true) (hd : (ops[i]?).bind (·.dst) = some d)
    (hQ : ∀ c a w, Q (.panic c) (a.put (some d) v) w → Q (.panic c) a w)
    (hy : ∀ oi, ops[i]? = some oi → Region.wanted oi (yielded ops a.tmps) = true ∧ ∀ w', R w w' → (execOp a.eval oi).run P w' = .ok (.value v) w')
    (h : wpAnyR P md ops Q R fuel (listed.setIfInBounds i true) (a.put (some d) v) w) : wpAnyR P md ops Q R (fuel + 1) listed a w := by
  cases hi : ops[i]? with
  | none => rw [hi] at hd; cases hd
  | some oi =>
    rw [hi] at hd
    have hd' : oi.dst = some d := hd
    rw [← hd'] at h hQ
    exact wpAnyR_first hP hi (Region.noSelect_spec hs) hQ fuel listed a w (Region.free_spec hi hf) (by simpa using hr) (.inl (hy oi hi)) h
/-- Take number i first: it is not wanted. -/
theorem ord_skip (hP : Pre R) {i d : Nat} {fuel : Nat} {listed : Array Bool} {a : Act} {w : World}
    (hs : Region.noSelect ops = true) (hf : Region.free md ops listed i = true) (hr : (Region.ready md ops listed).contains i = true) (hd : (ops[i]?).bind (·.dst) = some d)
    (hQ : ∀ c a w, Q (.panic c) (a.put (some d) undef) w → Q (.panic c) a w)
    (hy : ((ops[i]?).map fun oi => Region.wanted oi (yielded ops a.tmps)) = some false)
    (h : wpAnyR P md ops Q R fuel (listed.setIfInBounds i true) (a.put (some d) undef) w) : wpAnyR P md ops Q R (fuel + 1) listed a w := by
  cases hi : ops[i]? with
  | none => rw [hi] at hd; cases hd
  | some oi =>
    rw [hi] at hd hy
    have hd' : oi.dst = some d := hd
    rw [← hd'] at h hQ
    exact wpAnyR_first hP hi (Region.noSelect_spec hs) hQ fuel listed a w (Region.free_spec hi hf) (by simpa using hr) (.inr ⟨by simpa using hy, rfl⟩) h
/-- Number i alone comes up. -/
theorem ord_one {i : Nat} {fuel : Nat} {listed : Array Bool} {a : Act} {w : World} (hr : Region.ready md ops listed = [i])
    (h : ∀ oi K, ops[i]? = some oi → Shut (∀ a' w', R w w' → wpAnyR P md ops Q R fuel (listed.setIfInBounds i true) a' w' → K a' w') → Region.wanted oi (yielded ops a.tmps) = true ∧ oi.wp P a w K Q) : wpAnyR P md ops Q R (fuel + 1) listed a w := by
  refine ⟨fun h0 => (by rw [hr] at h0; cases h0), fun j hj => ?_⟩
  rw [hr] at hj
  obtain rfl : j = i := by simpa using hj
  unfold wpOp
  cases hi : ops[j]? with
  | none =>
    have : j ∈ Region.ready md ops listed := by rw [hr]; simp
    obtain ⟨_, o, ho, _⟩ := mem_ready.1 this
    rw [hi] at ho
    cases ho
  | some oi =>
    obtain ⟨hw, hwp⟩ := h oi (fun a' w' => (waitsB md ops j = true ∧ Region.ready md ops (listed.setIfInBounds j true) = [] ∧ Q .normal a' w') ∨ (R w w' ∧ wpAnyR P md ops Q R fuel (listed.setIfInBounds j true) a' w')) hi (fun a' w' hl hk => .inr (And.intro hl hk))
    simp only [hw, if_true]
    exact .inl hwp
/-- Number i comes up last: it waits for all others. -/
theorem ord_last {i : Nat} {fuel : Nat} {listed : Array Bool} {a : Act} {w : World} (hr : Region.ready md ops listed = [i]) (hwt : waitsB md ops i = true) (he : Region.ready md ops (listed.setIfInBounds i true) = [])
    (h : ∀ oi K, ops[i]? = some oi → Shut (∀ a' w', Q .normal a' w' → K a' w') → Region.wanted oi (yielded ops a.tmps) = true ∧ oi.wp P a w K Q) : wpAnyR P md ops Q R (fuel + 1) listed a w := by
  refine ⟨fun h0 => (by rw [hr] at h0; cases h0), fun j hj => ?_⟩
  rw [hr] at hj
  obtain rfl : j = i := by simpa using hj
  unfold wpOp
  cases hi : ops[j]? with
  | none =>
    have : j ∈ Region.ready md ops listed := by rw [hr]; simp
    obtain ⟨_, o, ho, _⟩ := mem_ready.1 this
    rw [hi] at ho
    cases ho
  | some oi =>
    obtain ⟨hw, hwp⟩ := h oi (fun a' w' => (waitsB md ops j = true ∧ Region.ready md ops (listed.setIfInBounds j true) = [] ∧ Q .normal a' w') ∨ (R w w' ∧ wpAnyR P md ops Q R fuel (listed.setIfInBounds j true) a' w')) hi (fun a' w' hl => .inl ⟨hwt, he, hl⟩)
    simp only [hw, if_true]
    exact .inl hwp
/-- All have come up. -/
theorem later_done {listed : Array Bool} {a : Act} {w : World} (hr : Region.ready md ops listed = []) (h : Q .normal a w) : ∀ fuel, wpAnyR P md ops Q R fuel listed a w
  | 0 => ⟨hr, h⟩
  | _ + 1 => ⟨fun _ => h, by rw [hr]; simp⟩
/-- The beginning. -/
theorem wp_region_ord (R : World → World → Prop) {id : Nat} {a : Act} {w : World} (hm : P.follows .mixedOrders = true)
    (h : wpAnyR P .any ops Q R ops.size (Array.replicate ops.size false) a w.drew) : (Code.region id ops true).wp P Q a w :=
  wp_region_any hm (wpAny_of_R _ _ _ _ h)
end

/-- Later worlds: what was there is as it was. -/
def Later (w w' : World) : Prop := Below w.heap.size w w'
theorem laterPre : Pre Later := ⟨fun _ => Below.refl _ _, fun _ _ _ h k => Below.trans h (Below.mono k h.size)⟩
/-- Worlds in which what lay below B is as it was. -/
theorem belowPre (B : Nat) : Pre (Below B) := ⟨fun _ => Below.refl _ _, fun _ _ _ h k => Below.trans h k⟩

section
variable {P : Program} {ops : Array Oper} {Q : Exit → Act → World → Prop} {md : Region.Mode}
theorem later_take {i d : Nat} {v : Value} {fuel : Nat} {listed : Array Bool} {a : Act} {w : World}
    (hs : Region.noSelect ops = true) (hf : Region.free md ops listed i = true) (hr : (Region.ready md ops listed).contains i = true) (hd : (ops[i]?).bind (·.dst) = some d)
    (hQ : ∀ c a w, Q (.panic c) (a.put (some d) v) w → Q (.panic c) a w)
    (hy : ∀ oi, ops[i]? = some oi → Region.wanted oi (yielded ops a.tmps) = true ∧ ∀ w', Later w w' → (execOp a.eval oi).run P w' = .ok (.value v) w')
    (h : wpAnyR P md ops Q Later fuel (listed.setIfInBounds i true) (a.put (some d) v) w) : wpAnyR P md ops Q Later (fuel + 1) listed a w := ord_take laterPre hs hf hr hd hQ hy h
theorem later_skip {i d : Nat} {fuel : Nat} {listed : Array Bool} {a : Act} {w : World}
    (hs : Region.noSelect ops = true) (hf : Region.free md ops listed i = true) (hr : (Region.ready md ops listed).contains i = true) (hd : (ops[i]?).bind (·.dst) = some d)
    (hQ : ∀ c a w, Q (.panic c) (a.put (some d) undef) w → Q (.panic c) a w)
    (hy : ((ops[i]?).map fun oi => Region.wanted oi (yielded ops a.tmps)) = some false)
    (h : wpAnyR P md ops Q Later fuel (listed.setIfInBounds i true) (a.put (some d) undef) w) : wpAnyR P md ops Q Later (fuel + 1) listed a w := ord_skip laterPre hs hf hr hd hQ hy h
theorem later_one {i : Nat} {fuel : Nat} {listed : Array Bool} {a : Act} {w : World} (hr : Region.ready md ops listed = [i])
    (h : ∀ oi K, ops[i]? = some oi → Shut (∀ a' w', Later w w' → wpAnyR P md ops Q Later fuel (listed.setIfInBounds i true) a' w' → K a' w') → Region.wanted oi (yielded ops a.tmps) = true ∧ oi.wp P a w K Q) : wpAnyR P md ops Q Later (fuel + 1) listed a w := ord_one hr h
theorem wp_region_later {id : Nat} {a : Act} {w : World} (hm : P.follows .mixedOrders = true)
    (h : wpAnyR P .any ops Q Later ops.size (Array.replicate ops.size false) a w.drew) : (Code.region id ops true).wp P Q a w := wp_region_ord Later hm h
end
#print axioms wp_region_later
end Go.Proofs.Ytjijfcollmjljaa
/-
  TreIn of both sides.
-/
namespace Go.Proofs.Ytjijfcollmjljaa
open Go.RowKit

/-- Who of the first k is in. -/
def inUp (xs : List ByteArray) (k : Nat) : List Int := ints ((List.range k).filter fun k => keyed xs (7 + k))
theorem inUp_zero (xs : List ByteArray) : inUp xs 0 = [] := rfl
theorem inUp_yes {xs : List ByteArray} {k : Nat} (h : keyed xs (7 + k) = true) : inUp xs (k + 1) = inUp xs k ++ [(k : Int)] := by
  unfold inUp ints
  rw [List.range_succ, List.filter_append, List.map_append]
  simp [h]
theorem inUp_no {xs : List ByteArray} {k : Nat} (h : keyed xs (7 + k) = false) : inUp xs (k + 1) = inUp xs k := by
  unfold inUp ints
  rw [List.range_succ, List.filter_append, List.map_append]
  simp [h]
theorem inUp_len (xs : List ByteArray) (k : Nat) : (inUp xs k).length ≤ k := by
  unfold inUp ints
  rw [List.length_map]
  exact Nat.le_trans (List.length_filter_le _ _) (by simp)
/-- Who is in. -/
def inRes (xs : List ByteArray) : List Int := if treOk xs = true then inUp xs 8 else []
theorem inRes_len (xs : List ByteArray) : (inRes xs).length ≤ 8 := by
  unfold inRes
  split
  · exact inUp_len xs 8
  · simp

set_option maxRecDepth 100000 in
set_option maxHeartbeats 4000000 in
theorem iTreIn_any (v : Value) (xs : List ByteArray) (w : World) (h : SRow w v xs) (hx : ∀ x ∈ xs, x.size ≤ maxLen) :
    Calls Try.prog 21 #[.agg #[v]] w fun e w' => ∃ u, e = .returned u ∧ OwnI w.heap.size w' u (inRes xs) ∧ Below w.heap.size w w' := by
  obtain ⟨i0, hi, hz0, hz1, hz2⟩ := info_parts info_int2
  have hI := hide (And.intro hi (And.intro hz0 (And.intro hz1 hz2)))
  clear hi hz0 hz1 hz2
  obtain ⟨ao, cap, rfl, h1, h2, _⟩ := h.form
  have HX := hide hx
  have hR := hide h
  clear h hx
  go_enter Try.func21, Try.ntmps21
  go_wp2_with fail
  refine (iTreOk_any _ xs _ ((unhide hR).below ((Below.refl _ _).alloc (Nat.le_refl _) _)) (unhide HX)).mono ?_
  rintro e w1 ⟨rfl, hb1⟩
  have A1 := hide (box_below (Boxed.new w 25 (.slice ao xs.length cap)) hb1)
  have HB1 : Hid (Below w.heap.size w w1) := ((Below.refl _ _).alloc (Nat.le_refl _) _).trans (hb1.mono (by simp))
  have hs1 := hb1.size
  rw [World.size_alloc] at hs1
  have O1 : Hid (OwnI (w.heap.size + 1) w1 (.slice none 0 0) []) := World.ownsRow_nil _ _ _ _
  clear hb1
  cases hk : treOk xs with
  | false =>
    have HE : Hid (inRes xs = []) := by show _ = _; unfold inRes; rw [hk]; rfl
    clear hk
    go_wp2_with fail
    go_ret
    exact ⟨_, rfl, by rw [HE.out]; exact World.ownsRow_nil _ _ _ _, unhide HB1⟩
  | true =>
    have HE : Hid (inRes xs = inUp xs 8) := by show _ = _; unfold inRes; rw [hk]; rfl
    have HL : Hid (xs.length = 15) := (treOk_iff.1 hk).1
    clear hk
    go_wp2_with fail
    go_loopw [3, 8] (fun o i wr => ∃ k : Nat, k ≤ 8 ∧ i = .int .i64 (k : Int) ∧ Hid (OwnI (w.heap.size + 1) wr o (inUp xs k)) ∧ Hid (Boxed wr w.heap.size 25 (.slice ao xs.length cap)) ∧ Hid (Below w.heap.size w wr)) (fun _ i _ => 8 - (intOf i).toNat)
    case atStart => exact ⟨0, by omega, rfl, O1, A1, HB1⟩
    case round =>
      clear O1 A1 HB1 hs1
      obtain ⟨k, hk, rfl, hO, hA, hB⟩ := hrel
      have hle := hB.out.size
      have hlA := (unhide hA).lt
      by_cases hlt : k < 8
      · have hlt2 : (k : Int) < 8 := by omega
        have i3 : IntKind.i64.wrap ((k : Int) + 1) = (k : Int) + 1 := by simp [IntKind.wrap, IntKind.bits, IntKind.signed]; omega
        obtain ⟨ao', c1, q1, _, _, q2⟩ := (SRow.below (unhide hR) (unhide hB)).form
        simp only [Value.slice.injEq] at q1
        obtain ⟨rfl, _, rfl⟩ := q1
        obtain ⟨a, rfl, hck⟩ := q2 (7 + k) (by rw [HL.out]; omega)
        clear q2
        have hLf : Hid (leafOf (k : Int) = ((7 + k : Nat) : Int)) := by show _ = _; unfold leafOf; rw [if_pos (by omega)]; omega
        have hll := inUp_len xs k
        have HLL : Hid (xs.length = 15) := HL
        rw [HL.out] at hA h1 ⊢
        obtain ⟨n7, hn7⟩ : ∃ n : Nat, n = 7 + k := ⟨_, rfl⟩
        rw [← hn7] at hck hLf
        have j1 : (n7 : Int) < 15 := by omega
        have HK : Hid (keyed xs n7 = decide (xs.getD n7 ByteArray.empty ≠ ByteArray.empty)) := rfl
        have HY1 : Hid (keyed xs n7 = true → inUp xs (k + 1) = inUp xs k ++ [(k : Int)]) := by rw [hn7]; exact inUp_yes
        have HN1 : Hid (keyed xs n7 = false → inUp xs (k + 1) = inUp xs k) := by rw [hn7]; exact inUp_no
        clear hn7
        generalize xs.getD n7 ByteArray.empty = y at hck HK
        by_cases hy : y = ByteArray.empty
        · have hN := hide (HN1.out (by rw [HK.out]; simp [hy]))
          have hne : y.toList = [] := by rw [hy]; exact nil_text
          have hne2 : y.toList.isEmpty = true := by rw [hne]; rfl
          clear hy HY1 HN1 HK
          go_wp2_with fail
          refine wp_region_later (by kernel_rfl) ?_
          refine later_take (i := 0) (d := 11) (v := ?_) (by kernel_rfl) (by kernel_rfl) (by kernel_rfl) (by kernel_rfl) (fun _ _ _ h => h) (fun oi hoi => ?_) ?_
          rotate_left
          · simp at hoi
            subst hoi
            refine ⟨by rfl, fun w' hw' => ?_⟩
            go_simp
            all_goals rfl
          try simp only [Act.put, List.setIfInBounds_toArray, List.set_cons_zero, List.set_cons_succ]
          refine later_take (i := 1) (d := 12) (v := ?_) (by kernel_rfl) (by kernel_rfl) (by kernel_rfl) (by kernel_rfl) (fun _ _ _ h => h) (fun oi hoi => ?_) ?_
          rotate_left
          · simp at hoi
            subst hoi
            refine ⟨by rfl, fun w' hw' => ?_⟩
            have hx := (box_below (w := wr.drew) (unhide hA) hw').cell
            go_simp
            all_goals rfl
          try simp only [Act.put, List.setIfInBounds_toArray, List.set_cons_zero, List.set_cons_succ]
          refine later_take (i := 2) (d := 13) (v := ?_) (by kernel_rfl) (by kernel_rfl) (by kernel_rfl) (by kernel_rfl) (fun _ _ _ h => h) (fun oi hoi => ?_) ?_
          rotate_left
          · simp at hoi
            subst hoi
            refine ⟨by rfl, fun w' hw' => ?_⟩
            go_simp
            all_goals rfl
          try simp only [Act.put, List.setIfInBounds_toArray, List.set_cons_zero, List.set_cons_succ]
          refine later_one (i := 3) (by kernel_rfl) (fun oi K hoi hK => ?_)
          simp at hoi
          subst hoi
          refine ⟨by rfl, ?_⟩
          go_simp
          refine (placeOf_any _ _).mono ?_
          rw [hLf.out]
          rintro e wq ⟨rfl, rfl⟩
          go_simp
          refine hK.out _ _ (laterPre.refl _) ?_
          clear hK
          try simp only [Act.put, List.setIfInBounds_toArray, List.set_cons_zero, List.set_cons_succ]
          refine later_take (i := 4) (d := 15) (v := ?_) (by kernel_rfl) (by kernel_rfl) (by kernel_rfl) (by kernel_rfl) (fun _ _ _ h => h) (fun oi hoi => ?_) ?_
          rotate_left
          · simp at hoi
            subst hoi
            refine ⟨by rfl, fun w' hw' => ?_⟩
            go_simp
            all_goals rfl
          try simp only [Act.put, List.setIfInBounds_toArray, List.set_cons_zero, List.set_cons_succ]
          refine later_take (i := 5) (d := 16) (v := ?_) (by kernel_rfl) (by kernel_rfl) (by kernel_rfl) (by kernel_rfl) (fun _ _ _ h => h) (fun oi hoi => ?_) ?_
          rotate_left
          · simp at hoi
            subst hoi
            refine ⟨by rfl, fun w' hw' => ?_⟩
            have hx := (Below.cell hw' (cell_lt (w := wr.drew) hck)).trans hck
            go_simp
            all_goals rfl
          try simp only [Act.put, List.setIfInBounds_toArray, List.set_cons_zero, List.set_cons_succ]
          refine later_take (i := 6) (d := 17) (v := ?_) (by kernel_rfl) (by kernel_rfl) (by kernel_rfl) (by kernel_rfl) (fun _ _ _ h => h) (fun oi hoi => ?_) ?_
          rotate_left
          · simp at hoi
            subst hoi
            refine ⟨by rfl, fun w' hw' => ?_⟩
            go_simp
            all_goals rfl
          try simp only [Act.put, List.setIfInBounds_toArray, List.set_cons_zero, List.set_cons_succ]
          refine later_done (by kernel_rfl) ?_ _
          go_wp2_with fail
          go_roundw
          case rel => exact ⟨k + 1, by omega, by simp, by rw [hN.out]; exact OwnI.below (unhide hO) (Below.refl _ _).drew, hA, (unhide hB).drew⟩
          case measure => simp [intOf]; omega
        · have hY := hide (HY1.out (by rw [HK.out]; simpa using hy))
          have hne : ¬ y.toList = [] := no_text hy
          have hne2 : y.toList.isEmpty = false := by simpa using hne
          clear hy HY1 HN1 HK
          go_wp2_with fail
          refine wp_region_later (by kernel_rfl) ?_
          refine later_take (i := 0) (d := 11) (v := ?_) (by kernel_rfl) (by kernel_rfl) (by kernel_rfl) (by kernel_rfl) (fun _ _ _ h => h) (fun oi hoi => ?_) ?_
          rotate_left
          · simp at hoi
            subst hoi
            refine ⟨by rfl, fun w' hw' => ?_⟩
            go_simp
            all_goals rfl
          try simp only [Act.put, List.setIfInBounds_toArray, List.set_cons_zero, List.set_cons_succ]
          refine later_take (i := 1) (d := 12) (v := ?_) (by kernel_rfl) (by kernel_rfl) (by kernel_rfl) (by kernel_rfl) (fun _ _ _ h => h) (fun oi hoi => ?_) ?_
          rotate_left
          · simp at hoi
            subst hoi
            refine ⟨by rfl, fun w' hw' => ?_⟩
            have hx := (box_below (w := wr.drew) (unhide hA) hw').cell
            go_simp
            all_goals rfl
          try simp only [Act.put, List.setIfInBounds_toArray, List.set_cons_zero, List.set_cons_succ]
          refine later_take (i := 2) (d := 13) (v := ?_) (by kernel_rfl) (by kernel_rfl) (by kernel_rfl) (by kernel_rfl) (fun _ _ _ h => h) (fun oi hoi => ?_) ?_
          rotate_left
          · simp at hoi
            subst hoi
            refine ⟨by rfl, fun w' hw' => ?_⟩
            go_simp
            all_goals rfl
          try simp only [Act.put, List.setIfInBounds_toArray, List.set_cons_zero, List.set_cons_succ]
          refine later_one (i := 3) (by kernel_rfl) (fun oi K hoi hK => ?_)
          simp at hoi
          subst hoi
          refine ⟨by rfl, ?_⟩
          go_simp
          refine (placeOf_any _ _).mono ?_
          rw [hLf.out]
          rintro e wq ⟨rfl, rfl⟩
          go_simp
          refine hK.out _ _ (laterPre.refl _) ?_
          clear hK
          try simp only [Act.put, List.setIfInBounds_toArray, List.set_cons_zero, List.set_cons_succ]
          refine later_take (i := 4) (d := 15) (v := ?_) (by kernel_rfl) (by kernel_rfl) (by kernel_rfl) (by kernel_rfl) (fun _ _ _ h => h) (fun oi hoi => ?_) ?_
          rotate_left
          · simp at hoi
            subst hoi
            refine ⟨by rfl, fun w' hw' => ?_⟩
            go_simp
            all_goals rfl
          try simp only [Act.put, List.setIfInBounds_toArray, List.set_cons_zero, List.set_cons_succ]
          refine later_take (i := 5) (d := 16) (v := ?_) (by kernel_rfl) (by kernel_rfl) (by kernel_rfl) (by kernel_rfl) (fun _ _ _ h => h) (fun oi hoi => ?_) ?_
          rotate_left
          · simp at hoi
            subst hoi
            refine ⟨by rfl, fun w' hw' => ?_⟩
            have hx := (Below.cell hw' (cell_lt (w := wr.drew) hck)).trans hck
            go_simp
            all_goals rfl
          try simp only [Act.put, List.setIfInBounds_toArray, List.set_cons_zero, List.set_cons_succ]
          refine later_take (i := 6) (d := 17) (v := ?_) (by kernel_rfl) (by kernel_rfl) (by kernel_rfl) (by kernel_rfl) (fun _ _ _ h => h) (fun oi hoi => ?_) ?_
          rotate_left
          · simp at hoi
            subst hoi
            refine ⟨by rfl, fun w' hw' => ?_⟩
            go_simp
            all_goals rfl
          try simp only [Act.put, List.setIfInBounds_toArray, List.set_cons_zero, List.set_cons_succ]
          refine later_done (by kernel_rfl) ?_ _
          have hO2 := hide (OwnI.below (unhide hO) (Below.refl _ _).drew)
          go_wp2_with (at_builtin; refine wpList_append_own _ rfl _ _ 33 rfl (w.heap.size + 1) 3 i0 (.int .i64 0) 1 8 Try.underlying33 (unhide hI).1 (unhide hI).2.1 (unhide hI).2.2.1 (unhide hI).2.2.2 rfl (by decide) _ _ _ rfl ((unhide hO2).alloc _) ⟨wr.heap.size, 0, none⟩ 1 1 [.int .i64 (k : Int)] rfl rfl ?c1 ?c2 ?c3 ?c4 ?c5 ?_)
          case c1 =>
            intro j u hj
            match j, hj with
            | 0, hj => simp at hj; subst hj; simp [Addr.add]
          case c2 => intro u hu; simp at hu; subst hu; rfl
          case c3 => unfold maxLen; omega
          case c4 => omega
          case c5 => simp; omega
          intro v' w7 hown' hgrow _
          have R := OwnI.grow (unhide hO2) (Below.refl (w.heap.size + 1) wr.drew) (by show _ ≤ wr.heap.size; omega) hown' hgrow
          have R1 := hide R.1
          have hA7 : Hid (Boxed w7 w.heap.size 25 (.slice (some a) 15 cap)) := box_below0 (w := wr.drew) (unhide hA) R.2 (by omega)
          have R2 : Hid (Below w.heap.size w w7) := (unhide hB).drew.trans (R.2.mono (by omega))
          clear R hown' hgrow hO hO2 hA hB
          go_wp2_with fail
          go_roundw
          case rel => exact ⟨k + 1, by omega, by simp, by rw [hY.out]; exact unhide R1, hA7, R2⟩
          case measure => simp [intOf]; omega
      · have hlt2 : decide ((k : Int) < 8) = false := by simp; omega
        obtain rfl : k = 8 := by omega
        go_wp2_with fail
        go_ret
        exact ⟨_, rfl, by rw [HE.out]; exact row_lowB (unhide hO) (by omega), unhide hB⟩

set_option maxRecDepth 100000 in
set_option maxHeartbeats 4000000 in
theorem sTreIn_any (v : Value) (xs : List ByteArray) (w : World) (h : SRow w v xs) (hx : ∀ x ∈ xs, x.size ≤ maxLen) :
    Calls Try.prog 24 #[.agg #[v]] w fun e w' => ∃ u, e = .returned u ∧ OwnI w.heap.size w' u (inRes xs) ∧ Below w.heap.size w w' := by
  obtain ⟨i0, hi, hz0, hz1, hz2⟩ := info_parts info_int2
  have hI := hide (And.intro hi (And.intro hz0 (And.intro hz1 hz2)))
  clear hi hz0 hz1 hz2
  obtain ⟨ao, cap, rfl, h1, h2, _⟩ := h.form
  have HX := hide hx
  have hR := hide h
  clear h hx
  go_enter Try.func24, Try.ntmps24
  go_wp2_with fail
  refine (sTreOk_any _ xs _ (((unhide hR).below ((Below.refl _ _).alloc (Nat.le_refl _) _)).below ((Below.refl _ _).alloc (Nat.le_refl _) _)) (unhide HX)).mono ?_
  rintro e w1 ⟨rfl, hb1⟩
  have A1 := hide (box_below ((Boxed.new w 25 (.slice ao xs.length cap)).alloc (.cells #[] 3)) hb1)
  have HB1 : Hid (Below w.heap.size w w1) := (((Below.refl _ _).alloc (Nat.le_refl _) _).alloc (by simp) _).trans (hb1.mono (by simp; omega))
  have hs1 := hb1.size
  rw [World.size_alloc, World.size_alloc] at hs1
  have O1 : Hid (OwnI (w.heap.size + 1) w1 (.slice (some ⟨w.heap.size + 1, 0, none⟩) 0 0) []) := by
    have q := World.ownsRow_lit (base := w.heap.size + 1) (e := 3) (size := 1) (w.alloc (.cells #[.slice ao xs.length cap] 25)) #[] 0 (by simp) (by unfold maxLen; omega) rfl
    rw [World.size_alloc] at q
    exact own_below' q hb1
  clear hb1
  cases hk : treOk xs with
  | false =>
    have HE : Hid (inRes xs = []) := by show _ = _; unfold inRes; rw [hk]; rfl
    clear hk
    go_wp2_with fail
    go_ret
    exact ⟨_, rfl, by rw [HE.out]; exact row_lowB (unhide O1) (by omega), unhide HB1⟩
  | true =>
    have HE : Hid (inRes xs = inUp xs 8) := by show _ = _; unfold inRes; rw [hk]; rfl
    have HL : Hid (xs.length = 15) := (treOk_iff.1 hk).1
    clear hk
    go_wp2_with fail
    go_loopw [3, 4] (fun o i wr => ∃ k : Nat, k ≤ 8 ∧ i = .int .i64 (k : Int) ∧ Hid (OwnI (w.heap.size + 1) wr o (inUp xs k)) ∧ Hid (Boxed wr w.heap.size 25 (.slice ao xs.length cap)) ∧ Hid (Below w.heap.size w wr)) (fun _ i _ => 8 - (intOf i).toNat)
    case atStart => exact ⟨0, by omega, rfl, O1, A1, HB1⟩
    case round =>
      clear O1 A1 HB1 hs1
      obtain ⟨k, hk, rfl, hO, hA, hB⟩ := hrel
      have hle := hB.out.size
      have hlA := (unhide hA).lt
      by_cases hlt : k < 8
      · have hlt2 : (k : Int) < 8 := by omega
        have i3 : IntKind.i64.wrap ((k : Int) + 1) = (k : Int) + 1 := by simp [IntKind.wrap, IntKind.bits, IntKind.signed]; omega
        obtain ⟨ao', c1, q1, _, _, q2⟩ := (SRow.below (unhide hR) (unhide hB)).form
        simp only [Value.slice.injEq] at q1
        obtain ⟨rfl, _, rfl⟩ := q1
        obtain ⟨a, rfl, hck⟩ := q2 (7 + k) (by rw [HL.out]; omega)
        clear q2
        have hLf : Hid (leafOf (k : Int) = ((7 + k : Nat) : Int)) := by show _ = _; unfold leafOf; rw [if_pos (by omega)]; omega
        have hll := inUp_len xs k
        have HLL : Hid (xs.length = 15) := HL
        rw [HL.out] at hA h1 ⊢
        obtain ⟨n7, hn7⟩ : ∃ n : Nat, n = 7 + k := ⟨_, rfl⟩
        rw [← hn7] at hck hLf
        have j1 : (n7 : Int) < 15 := by omega
        have HK : Hid (keyed xs n7 = decide (xs.getD n7 ByteArray.empty ≠ ByteArray.empty)) := rfl
        have HY1 : Hid (keyed xs n7 = true → inUp xs (k + 1) = inUp xs k ++ [(k : Int)]) := by rw [hn7]; exact inUp_yes
        have HN1 : Hid (keyed xs n7 = false → inUp xs (k + 1) = inUp xs k) := by rw [hn7]; exact inUp_no
        clear hn7
        generalize xs.getD n7 ByteArray.empty = y at hck HK
        by_cases hy : y = ByteArray.empty
        · have hN := hide (HN1.out (by rw [HK.out]; simp [hy]))
          have hne : y.toList = [] := by rw [hy]; exact nil_text
          have hne2 : y.toList.isEmpty = true := by rw [hne]; rfl
          clear hy HY1 HN1 HK
          go_wp2_with fail
          refine wp_region_later (by kernel_rfl) ?_
          refine later_take (i := 0) (d := 14) (v := ?_) (by kernel_rfl) (by kernel_rfl) (by kernel_rfl) (by kernel_rfl) (fun _ _ _ h => h) (fun oi hoi => ?_) ?_
          rotate_left
          · simp at hoi
            subst hoi
            refine ⟨by rfl, fun w' hw' => ?_⟩
            go_simp
            all_goals rfl
          try simp only [Act.put, List.setIfInBounds_toArray, List.set_cons_zero, List.set_cons_succ]
          refine later_take (i := 1) (d := 15) (v := ?_) (by kernel_rfl) (by kernel_rfl) (by kernel_rfl) (by kernel_rfl) (fun _ _ _ h => h) (fun oi hoi => ?_) ?_
          rotate_left
          · simp at hoi
            subst hoi
            refine ⟨by rfl, fun w' hw' => ?_⟩
            have hx := (box_below (w := wr.drew) (unhide hA) hw').cell
            go_simp
            all_goals rfl
          try simp only [Act.put, List.setIfInBounds_toArray, List.set_cons_zero, List.set_cons_succ]
          refine later_take (i := 2) (d := 16) (v := ?_) (by kernel_rfl) (by kernel_rfl) (by kernel_rfl) (by kernel_rfl) (fun _ _ _ h => h) (fun oi hoi => ?_) ?_
          rotate_left
          · simp at hoi
            subst hoi
            refine ⟨by rfl, fun w' hw' => ?_⟩
            go_simp
            all_goals rfl
          try simp only [Act.put, List.setIfInBounds_toArray, List.set_cons_zero, List.set_cons_succ]
          refine later_one (i := 3) (by kernel_rfl) (fun oi K hoi hK => ?_)
          simp at hoi
          subst hoi
          refine ⟨by rfl, ?_⟩
          go_simp
          refine (sTreLeaf_any _ _).mono ?_
          rw [hLf.out]
          rintro e wq ⟨rfl, rfl⟩
          go_simp
          refine hK.out _ _ (laterPre.refl _) ?_
          clear hK
          try simp only [Act.put, List.setIfInBounds_toArray, List.set_cons_zero, List.set_cons_succ]
          refine later_take (i := 4) (d := 18) (v := ?_) (by kernel_rfl) (by kernel_rfl) (by kernel_rfl) (by kernel_rfl) (fun _ _ _ h => h) (fun oi hoi => ?_) ?_
          rotate_left
          · simp at hoi
            subst hoi
            refine ⟨by rfl, fun w' hw' => ?_⟩
            go_simp
            all_goals rfl
          try simp only [Act.put, List.setIfInBounds_toArray, List.set_cons_zero, List.set_cons_succ]
          refine later_take (i := 5) (d := 19) (v := ?_) (by kernel_rfl) (by kernel_rfl) (by kernel_rfl) (by kernel_rfl) (fun _ _ _ h => h) (fun oi hoi => ?_) ?_
          rotate_left
          · simp at hoi
            subst hoi
            refine ⟨by rfl, fun w' hw' => ?_⟩
            have hx := (Below.cell hw' (cell_lt (w := wr.drew) hck)).trans hck
            go_simp
            all_goals rfl
          try simp only [Act.put, List.setIfInBounds_toArray, List.set_cons_zero, List.set_cons_succ]
          refine later_take (i := 6) (d := 20) (v := ?_) (by kernel_rfl) (by kernel_rfl) (by kernel_rfl) (by kernel_rfl) (fun _ _ _ h => h) (fun oi hoi => ?_) ?_
          rotate_left
          · simp at hoi
            subst hoi
            refine ⟨by rfl, fun w' hw' => ?_⟩
            go_simp
            all_goals rfl
          try simp only [Act.put, List.setIfInBounds_toArray, List.set_cons_zero, List.set_cons_succ]
          refine later_done (by kernel_rfl) ?_ _
          go_wp2_with fail
          go_roundw
          case rel => exact ⟨k + 1, by omega, by simp, by rw [hN.out]; exact OwnI.below (unhide hO) (Below.refl _ _).drew, hA, (unhide hB).drew⟩
          case measure => simp [intOf]; omega
        · have hY := hide (HY1.out (by rw [HK.out]; simpa using hy))
          have hne : ¬ y.toList = [] := no_text hy
          have hne2 : y.toList.isEmpty = false := by simpa using hne
          clear hy HY1 HN1 HK
          go_wp2_with fail
          refine wp_region_later (by kernel_rfl) ?_
          refine later_take (i := 0) (d := 14) (v := ?_) (by kernel_rfl) (by kernel_rfl) (by kernel_rfl) (by kernel_rfl) (fun _ _ _ h => h) (fun oi hoi => ?_) ?_
          rotate_left
          · simp at hoi
            subst hoi
            refine ⟨by rfl, fun w' hw' => ?_⟩
            go_simp
            all_goals rfl
          try simp only [Act.put, List.setIfInBounds_toArray, List.set_cons_zero, List.set_cons_succ]
          refine later_take (i := 1) (d := 15) (v := ?_) (by kernel_rfl) (by kernel_rfl) (by kernel_rfl) (by kernel_rfl) (fun _ _ _ h => h) (fun oi hoi => ?_) ?_
          rotate_left
          · simp at hoi
            subst hoi
            refine ⟨by rfl, fun w' hw' => ?_⟩
            have hx := (box_below (w := wr.drew) (unhide hA) hw').cell
            go_simp
            all_goals rfl
          try simp only [Act.put, List.setIfInBounds_toArray, List.set_cons_zero, List.set_cons_succ]
          refine later_take (i := 2) (d := 16) (v := ?_) (by kernel_rfl) (by kernel_rfl) (by kernel_rfl) (by kernel_rfl) (fun _ _ _ h => h) (fun oi hoi => ?_) ?_
          rotate_left
          · simp at hoi
            subst hoi
            refine ⟨by rfl, fun w' hw' => ?_⟩
            go_simp
            all_goals rfl
          try simp only [Act.put, List.setIfInBounds_toArray, List.set_cons_zero, List.set_cons_succ]
          refine later_one (i := 3) (by kernel_rfl) (fun oi K hoi hK => ?_)
          simp at hoi
          subst hoi
          refine ⟨by rfl, ?_⟩
          go_simp
          refine (sTreLeaf_any _ _).mono ?_
          rw [hLf.out]
          rintro e wq ⟨rfl, rfl⟩
          go_simp
          refine hK.out _ _ (laterPre.refl _) ?_
          clear hK
          try simp only [Act.put, List.setIfInBounds_toArray, List.set_cons_zero, List.set_cons_succ]
          refine later_take (i := 4) (d := 18) (v := ?_) (by kernel_rfl) (by kernel_rfl) (by kernel_rfl) (by kernel_rfl) (fun _ _ _ h => h) (fun oi hoi => ?_) ?_
          rotate_left
          · simp at hoi
            subst hoi
            refine ⟨by rfl, fun w' hw' => ?_⟩
            go_simp
            all_goals rfl
          try simp only [Act.put, List.setIfInBounds_toArray, List.set_cons_zero, List.set_cons_succ]
          refine later_take (i := 5) (d := 19) (v := ?_) (by kernel_rfl) (by kernel_rfl) (by kernel_rfl) (by kernel_rfl) (fun _ _ _ h => h) (fun oi hoi => ?_) ?_
          rotate_left
          · simp at hoi
            subst hoi
            refine ⟨by rfl, fun w' hw' => ?_⟩
            have hx := (Below.cell hw' (cell_lt (w := wr.drew) hck)).trans hck
            go_simp
            all_goals rfl
          try simp only [Act.put, List.setIfInBounds_toArray, List.set_cons_zero, List.set_cons_succ]
          refine later_take (i := 6) (d := 20) (v := ?_) (by kernel_rfl) (by kernel_rfl) (by kernel_rfl) (by kernel_rfl) (fun _ _ _ h => h) (fun oi hoi => ?_) ?_
          rotate_left
          · simp at hoi
            subst hoi
            refine ⟨by rfl, fun w' hw' => ?_⟩
            go_simp
            all_goals rfl
          try simp only [Act.put, List.setIfInBounds_toArray, List.set_cons_zero, List.set_cons_succ]
          refine later_done (by kernel_rfl) ?_ _
          have hO2 := hide (OwnI.below (unhide hO) (Below.refl _ _).drew)
          go_wp2_with (at_builtin; refine wpList_append_own _ rfl _ _ 33 rfl (w.heap.size + 1) 3 i0 (.int .i64 0) 1 8 Try.underlying33 (unhide hI).1 (unhide hI).2.1 (unhide hI).2.2.1 (unhide hI).2.2.2 rfl (by decide) _ _ _ rfl ((unhide hO2).alloc _) ⟨wr.heap.size, 0, none⟩ 1 1 [.int .i64 (k : Int)] rfl rfl ?c1 ?c2 ?c3 ?c4 ?c5 ?_)
          case c1 =>
            intro j u hj
            match j, hj with
            | 0, hj => simp at hj; subst hj; simp [Addr.add]
          case c2 => intro u hu; simp at hu; subst hu; rfl
          case c3 => unfold maxLen; omega
          case c4 => omega
          case c5 => simp; omega
          intro v' w7 hown' hgrow _
          have R := OwnI.grow (unhide hO2) (Below.refl (w.heap.size + 1) wr.drew) (by show _ ≤ wr.heap.size; omega) hown' hgrow
          have R1 := hide R.1
          have hA7 : Hid (Boxed w7 w.heap.size 25 (.slice (some a) 15 cap)) := box_below0 (w := wr.drew) (unhide hA) R.2 (by omega)
          have R2 : Hid (Below w.heap.size w w7) := (unhide hB).drew.trans (R.2.mono (by omega))
          clear R hown' hgrow hO hO2 hA hB
          go_wp2_with fail
          go_roundw
          case rel => exact ⟨k + 1, by omega, by simp, by rw [hY.out]; exact unhide R1, hA7, R2⟩
          case measure => simp [intOf]; omega
      · have hlt2 : decide ((k : Int) < 8) = false := by simp; omega
        obtain rfl : k = 8 := by omega
        go_wp2_with fail
        go_ret
        exact ⟨_, rfl, by rw [HE.out]; exact row_lowB (unhide hO) (by omega), unhide hB⟩

#print axioms iTreIn_any
#print axioms sTreIn_any
end Go.Proofs.Ytjijfcollmjljaa
/-
  What TreClear and TreSet answer, plain; stores into rows of texts. No Go function in it.
-/
namespace Go.Proofs.Ytjijfcollmjljaa
open Go.RowKit Kw

theorem keyOk_small {x : ByteArray} (h : keyOk x = true) : x.size ≤ 300 := by
  unfold keyOk at h
  by_cases he : x = ByteArray.empty
  · subst he; show (0 : Nat) ≤ 300; omega
  · simp [he] at h
    exact (ok_facts h.1).1
theorem treOk_small {xs : List ByteArray} (h : treOk xs = true) : ∀ x ∈ xs, x.size ≤ 300 := by
  intro x hx
  obtain ⟨k, hk, rfl⟩ := mem_getD hx
  exact keyOk_small ((treOk_iff.1 h).2 k hk)
/-- What TreClear answers. -/
def clrRes (xs : List ByteArray) (p : Int) : List ByteArray := if treOk xs = true ∧ 0 ≤ p ∧ p ≤ 7 then clearOf xs p.toNat else []
theorem clearOf_len (xs : List ByteArray) (k : Nat) : (clearOf xs k).length = xs.length := wipe_len _ _
theorem clrRes_len (xs : List ByteArray) (p : Int) : (clrRes xs p).length ≤ 15 := by
  unfold clrRes
  split
  · next h => rw [clearOf_len, (treOk_iff.1 h.1).1]; omega
  · simp
theorem clrRes_no {xs : List ByteArray} {p : Int} (h : ¬ (treOk xs = true ∧ 0 ≤ p ∧ p ≤ 7)) : clrRes xs p = [] := by unfold clrRes; rw [if_neg h]
theorem clrRes_yes {xs : List ByteArray} {k : Nat} (h : treOk xs = true) (hk : k < 8) : clrRes xs (k : Int) = clearOf xs k := by unfold clrRes; rw [if_pos ⟨h, by omega, by omega⟩]; rfl
theorem clear_small {xs : List ByteArray} {M : Nat} (h : ∀ x ∈ xs, x.size ≤ M) (k : Nat) : ∀ x ∈ clearOf xs k, x.size ≤ M := by
  intro x hx
  obtain ⟨j, hj, rfl⟩ := mem_getD hx
  unfold clearOf
  rw [wipe_at]
  split
  · show (0 : Nat) ≤ M; omega
  · rw [clearOf_len] at hj
    exact h _ (getD_mem hj)
theorem wipe_snoc (xs : List ByteArray) (ps : List Nat) (p : Nat) : wipe xs (ps ++ [p]) = (wipe xs ps).set p ByteArray.empty := by unfold wipe; rw [List.foldl_append]; rfl

/-- A row of fifteen texts, written out. -/
theorem row15 {B : Nat} {w : World} {v : Value} {zs : List Value} (h : w.ownsRow B 9 1 v 15 zs) : ∃ g cap, v = .slice (some ⟨g, 0, none⟩) 15 cap ∧ B ≤ g ∧ g < w.heap.size ∧ 15 ≤ cap ∧ cap ≤ maxLen := by
  have hh := h
  rcases h.2 with ⟨_, q⟩ | ⟨g, cap, cur, rfl, h1, h2, h3, h4, h5, h6⟩
  · omega
  · exact ⟨g, cap, rfl, h1, (hh.lt g rfl).2, h3, h4⟩
/-- What a store at a place of it wants, and leaves. -/
theorem row15_set {B : Nat} {w : World} {g cap : Nat} {xs : List ByteArray} (hl : xs.length = 15) (h : w.ownsRow B 9 1 (.slice (some ⟨g, 0, none⟩) 15 cap) 15 (xs.map Value.string)) (j : Nat) (hj : j < 15) (y : ByteArray) :
    w.cell? ⟨g, j, none⟩ = some (.string (xs.getD j ByteArray.empty)) ∧ w.frozen? ⟨g, j, none⟩ = false ∧ (w.setCell ⟨g, j, none⟩ (.string y)).ownsRow B 9 1 (.slice (some ⟨g, 0, none⟩) 15 cap) 15 ((xs.set j y).map Value.string) ∧ w.grownBy (w.setCell ⟨g, j, none⟩ (.string y)) (some g) := by
  refine ⟨?_, h.frozenAt j, ?_⟩
  · rw [h.cellAt j (by omega), List.getElem?_map, List.getElem?_eq_getElem (by omega), List.getD_eq_getElem?_getD, List.getElem?_eq_getElem (by omega)]; rfl
  · obtain ⟨s1, s2⟩ := h.stored j (.string y)
    rw [List.map_set]
    exact ⟨s1, s2⟩
theorem grown_drew {w w' : World} {r : Option Nat} (h : w.grownBy w' r) : w.grownBy w'.drew r := ⟨h.os, h.tape, h.output, h.size, h.block⟩
theorem grown_below0 {wr u u' : World} {r : Option Nat} (h : wr.grownBy u r) (hb : Below u.heap.size u u') : wr.grownBy u' r :=
  ⟨hb.os.trans h.os, hb.tape.trans h.tape, hb.output.trans h.output, Nat.le_trans h.size hb.size, fun k hk hr => (hb.block k (Nat.lt_of_lt_of_le hk h.size)).trans (h.block k hk hr)⟩
end Go.Proofs.Ytjijfcollmjljaa
/-
  append of all of one row onto a slice of the call's own, whatever the row is, none too. No Go function in it.
-/
namespace Go.Proofs.Ytjijfcollmjljaa
open Go.RowKit

section
variable {P : Program} (w : World)
theorem grownBy_refl (r : Option Nat) : w.grownBy w r := ⟨rfl, rfl, rfl, Nat.le_refl _, fun _ _ _ => rfl⟩
theorem wpList_append_row {ops : Array Oper} {rest : List Oper} {o : Oper} {a : Act} {Q : Exit → Act → World → Prop} (hgd : o.guard = none) (s x : Operand) (t : TypeId)
    (ho : o.op = .call { callee := .builtin .append, args := #[s, x], argTypes := #[t, t] })
    (base : Nat) (e : TypeId) (i : TypeInfo) (z : Value) (size bytes : Nat) (ht : P.underlying t = some (.slice e)) (hi : P.info? e = some i) (hz : i.zero = some z)
    (hsize : i.size = size) (hby : i.bytes = bytes) (hzs : z.cells.size = size) (hsz : 0 < size)
    (v : Value) (n : Nat) (xs : List Value) (hs : a.eval s = v) (hown : w.ownsRow base e size v n xs)
    (y : Value) (m : Nat) (news : List Value) (hx : a.eval x = y)
    (hy : (y = .slice none 0 0 ∧ m = 0 ∧ news = []) ∨ ∃ ad c, y = .slice (some ad) m c ∧ news.length = m * size ∧ ∀ j u, news[j]? = some u → w.cell? (ad.add j) = some u) (h1 : ∀ u ∈ news, u.oneCell' = true)
    (h63 : n + m ≤ maxLen) (hbytes : (n + m) * bytes ≤ 140737488355328) (hbase : base ≤ w.heap.size)
    (h : ∀ v' w', w'.ownsRow base e size v' (n + m) (xs ++ news) → w.grownBy w' v.ownBlock → wpList P ops Q rest (a.put o.dst v') w') : wpList P ops Q (o :: rest) a w := by
  rcases hy with ⟨rfl, rfl, rfl⟩ | ⟨ad, c, rfl, hl, hnews⟩
  · refine wpList_plain hgd fun _ hK => ?_
    refine Go.Lib.wp_append_run w s x t t ho v (.slice none 0 0) hs hx v w (run_append_owned_none _ base t o.type e i size ht hi v n xs hown) (hK _ _ (h v w (by simpa using hown) (grownBy_refl w _)))
  · exact wpList_append_own _ hgd s x t ho base e i z size bytes ht hi hz hsize hby hzs hsz v n xs hs hown ad m c news hx hl hnews h1 h63 hbytes hbase (fun v' w' h2 h3 _ => h v' w' h2 h3)
end

section
variable {P : Program} (w : World)
theorem wp_append_row {o : Oper} {a : Act} {K : Act → World → Prop} {Q : Exit → Act → World → Prop} (s x : Operand) (t : TypeId)
    (ho : o.op = .call { callee := .builtin .append, args := #[s, x], argTypes := #[t, t] })
    (base : Nat) (e : TypeId) (i : TypeInfo) (z : Value) (size bytes : Nat) (ht : P.underlying t = some (.slice e)) (hi : P.info? e = some i) (hz : i.zero = some z)
    (hsize : i.size = size) (hby : i.bytes = bytes) (hzs : z.cells.size = size) (hsz : 0 < size)
    (v : Value) (n : Nat) (xs : List Value) (hs : a.eval s = v) (hown : w.ownsRow base e size v n xs)
    (y : Value) (m : Nat) (news : List Value) (hx : a.eval x = y)
    (hy : (y = .slice none 0 0 ∧ m = 0 ∧ news = []) ∨ ∃ ad c, y = .slice (some ad) m c ∧ news.length = m * size ∧ ∀ j u, news[j]? = some u → w.cell? (ad.add j) = some u) (h1 : ∀ u ∈ news, u.oneCell' = true)
    (h63 : n + m ≤ maxLen) (hbytes : (n + m) * bytes ≤ 140737488355328) (hbase : base ≤ w.heap.size)
    (h : ∀ v' w', w'.ownsRow base e size v' (n + m) (xs ++ news) → w.grownBy w' v.ownBlock → K (a.put o.dst v') w') : o.wp P a w K Q := by
  rcases hy with ⟨rfl, rfl, rfl⟩ | ⟨ad, c, rfl, hl, hnews⟩
  · exact Go.Lib.wp_append_run w s x t t ho v (.slice none 0 0) hs hx v w (run_append_owned_none _ base t o.type e i size ht hi v n xs hown) (h v w (by simpa using hown) (grownBy_refl w _))
  · exact wp_append_own w s x t ho base e i z size bytes ht hi hz hsize hby hzs hsz v n xs hs hown ad m c news hx hl hnews h1 h63 hbytes hbase (fun v' w' h2 h3 _ => h v' w' h2 h3)
end

/-- A row of numbers as what is appended. -/
theorem IRow.news {w : World} {v : Value} {xs : List Int} (h : IRow w v xs) :
    (v = .slice none 0 0 ∧ xs.length = 0 ∧ xs.map (Value.int .i64) = []) ∨ ∃ ad c, v = .slice (some ad) xs.length c ∧ (xs.map (Value.int .i64)).length = xs.length * 1 ∧ ∀ j u, (xs.map (Value.int .i64))[j]? = some u → w.cell? (ad.add j) = some u := by
  rcases h with ⟨rfl, rfl⟩ | ⟨a, cap, rfl, h1, h2, h3⟩
  · exact .inl ⟨rfl, rfl, rfl⟩
  · refine .inr ⟨a, cap, rfl, by simp, fun j u hj => ?_⟩
    rw [List.getElem?_map] at hj
    cases hx : xs[j]? with
    | none => rw [hx] at hj; cases hj
    | some x =>
      rw [hx] at hj
      have hlt := (List.getElem?_eq_some_iff.1 hx).1
      rw [h3 j hlt, List.getD_eq_getElem?_getD, hx]
      simpa using hj
/-- A row of texts as what is appended. -/
theorem SRow.news {w : World} {v : Value} {xs : List ByteArray} (h : SRow w v xs) :
    (v = .slice none 0 0 ∧ xs.length = 0 ∧ xs.map Value.string = []) ∨ ∃ ad c, v = .slice (some ad) xs.length c ∧ (xs.map Value.string).length = xs.length * 1 ∧ ∀ j u, (xs.map Value.string)[j]? = some u → w.cell? (ad.add j) = some u := by
  rcases h with ⟨rfl, rfl⟩ | ⟨a, cap, rfl, h1, h2, h3⟩
  · exact .inl ⟨rfl, rfl, rfl⟩
  · refine .inr ⟨a, cap, rfl, by simp, fun j u hj => ?_⟩
    rw [List.getElem?_map] at hj
    cases hx : xs[j]? with
    | none => rw [hx] at hj; cases hj
    | some x =>
      rw [hx] at hj
      have hlt := (List.getElem?_eq_some_iff.1 hx).1
      rw [h3 j hlt, List.getD_eq_getElem?_getD, hx]
      simpa using hj
theorem texts_one (xs : List ByteArray) : ∀ u ∈ xs.map Value.string, u.oneCell' = true := by
  intro u hu
  obtain ⟨x, _, rfl⟩ := List.mem_map.1 hu
  rfl
theorem ints_one (xs : List Int) : ∀ u ∈ xs.map (Value.int .i64), u.oneCell' = true := by
  intro u hu
  obtain ⟨x, _, rfl⟩ := List.mem_map.1 hu
  rfl
#print axioms IRow.news
end Go.Proofs.Ytjijfcollmjljaa
/-
  Slices of numbers of the call's own, their rows between two numbers. No Go function in it.
-/
namespace Go.Proofs.Ytjijfcollmjljaa
open Go.RowKit

/-- Numbers, so. -/
def IIn (lo hi : Nat) (w : World) (v : Value) (xs : List Int) : Prop := RowIn lo hi 3 1 w v xs.length (xs.map (Value.int .i64))
theorem IIn.of {lo : Nat} {w : World} {v : Value} {xs : List Int} (h : OwnI lo w v xs) : IIn lo w.heap.size w v xs := RowIn.of h
theorem IIn.irow {lo hi : Nat} {w : World} {v : Value} {xs : List Int} (h : IIn lo hi w v xs) : IRow w v xs := OwnI.irow h.1
theorem IIn.below {lo hi : Nat} {w w' : World} {v : Value} {xs : List Int} (h : IIn lo hi w v xs) (hb : Below w.heap.size w w') : IIn lo hi w' v xs := RowIn.below h hb
theorem IIn.grown {lo hi : Nat} {w w' : World} {v : Value} {xs : List Int} {r : Option Nat} (h : IIn lo hi w v xs) (hg : w.grownBy w' r) (hr : ∀ k, r = some k → k < lo ∨ hi ≤ k) : IIn lo hi w' v xs := RowIn.grown h hg hr
theorem IIn.drew {lo hi : Nat} {w : World} {v : Value} {xs : List Int} (h : IIn lo hi w v xs) : IIn lo hi w.drew v xs := h.below (Below.refl _ _).drew
end Go.Proofs.Ytjijfcollmjljaa
