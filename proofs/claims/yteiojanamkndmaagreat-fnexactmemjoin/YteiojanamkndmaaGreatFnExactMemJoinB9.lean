/-
  The spec's places: TreLeaf, TreSide, TreMeet, TreUp.
-/
import Derived.Test.YteiojanamkndmaaGreatFnExactMemJoinB4
import Derived.Test.YteiojanamkndmaaGreatFnExactMemJoinB3
import Derived.Test.YteiojanamkndmaaGreatFnExactMemJoinB5
import Derived.Deep.RegionHeld3
import Derived.Test.YteiojanamkndmaaGreatFnExactMemJoinB1
import Derived.OrdersHeld
namespace Go.Proofs.YteiojanamkndmaaGreat
open Go.RowKit

set_option maxHeartbeats 400000 in
theorem sTreLeaf_any (who : Int) (w : World) :
    Calls Tryz.prog 21 #[.int .i64 who] w fun e w' => e = .returned (.int .i64 (leafOf who)) ∧ w' = w := by
  by_cases h : 0 ≤ who ∧ who ≤ 7
  · obtain ⟨h1, h2⟩ := h
    have hl : leafOf who = 7 + who := by unfold leafOf; rw [if_pos ⟨h1, h2⟩]
    rw [hl]
    have HH := hide hl
    clear hl
    have i3 : IntKind.i64.wrap (7 + who) = 7 + who := by simp [IntKind.wrap, IntKind.bits, IntKind.signed]; omega
    go_enter Tryz.func21, Tryz.ntmps21
    go_wp2_with fail
    refine (l1In_yes _ _ _ _ (by omega) (by omega)).mono ?_
    rintro e w1 ⟨rfl, rfl⟩
    go_wp2_with fail
    go_ret
    exact ⟨rfl, rfl⟩
  · have hl : leafOf who = -1 := by unfold leafOf; rw [if_neg h]
    rw [hl]
    have HH := hide h
    clear hl h
    go_enter Tryz.func21, Tryz.ntmps21
    go_wp2_with fail
    refine (l1In_no _ _ _ _ (by have := HH.out; omega)).mono ?_
    rintro e w1 ⟨rfl, rfl⟩
    go_wp2_with fail
    go_ret
    exact ⟨rfl, rfl⟩

theorem half_wrap (x : Nat) (h0 : 0 < x) (h : x < 15) : IntKind.i64.wrap ((x : Int) - 1) = (x : Int) - 1 ∧ IntKind.i64.wrap (((x : Int) - 1).tdiv 2) = (((x - 1) / 2 : Nat) : Int) := by
  constructor
  · simp [IntKind.wrap, IntKind.bits, IntKind.signed]; omega
  · rw [show ((x : Int) - 1) = ((x - 1 : Nat) : Int) by omega, Int.tdiv_eq_ediv_of_nonneg (by omega)]
    have : ((x - 1 : Nat) : Int) / 2 = (((x - 1) / 2 : Nat) : Int) := by omega
    rw [this]
    simp [IntKind.wrap, IntKind.bits, IntKind.signed]
    omega

set_option maxRecDepth 100000 in
set_option maxHeartbeats 4000000 in
theorem sTreUp_any (n : Int) (w : World) :
    Calls Tryz.prog 47 #[.int .i64 n] w fun e w' => ∃ v, e = .returned v ∧ OwnI w.heap.size w' v (upOf n) ∧ Below w.heap.size w w' := by
  obtain ⟨i0, hi, hz0, hz1, hz2⟩ := info_parts info_int2
  have hI := hide (And.intro hi (And.intro hz0 (And.intro hz1 hz2)))
  clear hi hz0 hz1 hz2
  have hO0 : Hid (OwnI w.heap.size (w.alloc (Obj.cells #[] 3)) (.slice (some ⟨w.heap.size, 0, none⟩) 0 0) []) := by
    have h := World.ownsRow_lit (base := w.heap.size) (e := 3) (size := 1) w #[] 0 (Nat.le_refl _) (by unfold maxLen; omega) rfl
    exact h
  have hL0 := hide ((Below.refl w.heap.size w).alloc (Nat.le_refl _) (Obj.cells #[] 3))
  by_cases h : 0 ≤ n ∧ n ≤ 14
  · obtain ⟨x, rfl⟩ : ∃ k : Nat, n = (k : Int) := ⟨n.toNat, by omega⟩
    have hx : x < 15 := by omega
    have hl : Hid (upOf (x : Int) = (ups x).map (fun (k : Nat) => (k : Int))) := by show upOf (x : Int) = _; unfold upOf; rw [if_pos h]; rfl
    clear h
    go_enter Tryz.func47, Tryz.ntmps47
    go_wp2_with fail
    refine (l1In_yes _ _ _ _ (by omega) (by omega)).mono ?_
    rintro e w1 ⟨rfl, rfl⟩
    go_wp2_with fail
    go_loopw [3, 4] (fun o i wr => ∃ (k : Nat) (out : List Int), k < 15 ∧ i = .int .i64 (k : Int) ∧ Hid (OwnI w.heap.size wr o out) ∧ Hid (Below w.heap.size w wr) ∧ Hid (out ++ (ups k).map (fun (k : Nat) => (k : Int)) = (ups x).map (fun (k : Nat) => (k : Int)))) (fun _ i _ => (intOf i).toNat)
    case atStart => exact ⟨x, [], hx, rfl, hO0, hL0, rfl⟩
    case round =>
      clear hO0 hL0
      obtain ⟨k, out, hk, rfl, hO, hL, hU⟩ := hrel
      have hle := hL.out.size
      have hol : out.length ≤ 3 := by
        have q := congrArg List.length hU.out
        rw [List.length_append, List.length_map, List.length_map] at q
        have := ups_len x hx
        omega
      by_cases h0 : 0 < k
      · have h02 : (0 : Int) < (k : Int) := by omega
        obtain ⟨i1, i2⟩ := half_wrap k h0 hk
        have hs := hide (ups_step k hk h0)
        have hp : (k - 1) / 2 < 15 := by omega
        have hpk : (k - 1) / 2 < k := by omega
        generalize (k - 1) / 2 = p at i2 hs hp hpk
        go_wp2_with (at_builtin; refine wpList_append_own _ rfl _ _ 86 rfl w.heap.size 3 i0 (.int .i64 0) 1 8 Tryz.underlying86 (unhide hI).1 (unhide hI).2.1 (unhide hI).2.2.1 (unhide hI).2.2.2 rfl (by decide) _ _ _ rfl ((unhide hO).alloc _) ⟨wr.heap.size, 0, none⟩ 1 1 [.int .i64 (p : Int)] rfl rfl ?c1 ?c2 ?c3 ?c4 ?c5 ?_)
        case c1 =>
          intro j u hj
          match j, hj with
          | 0, hj => simp at hj; subst hj; simp [Addr.add]
        case c2 => intro u hu; simp at hu; subst hu; rfl
        case c3 => unfold maxLen; omega
        case c4 => omega
        case c5 => simp; omega
        intro v' w7 hown' hgrow _
        have R := OwnI.grow (unhide hO) (unhide hL) (Nat.le_refl _) hown' hgrow
        have R1 := hide R.1
        have R2 := hide R.2
        have R3 : Hid ((out ++ [(p : Int)]) ++ (ups p).map (fun (k : Nat) => (k : Int)) = (ups x).map (fun (k : Nat) => (k : Int))) := by
          show (out ++ [(p : Int)]) ++ _ = _
          rw [← hU.out, hs.out, List.map_cons, List.append_assoc]
          rfl
        clear R hown' hgrow hO hL hU
        go_wp2_with fail
        go_roundw
        case rel => exact ⟨p, out ++ [(p : Int)], hp, rfl, R1, R2, R3⟩
        case measure => simp [intOf]; omega
      · have h02 : decide ((0 : Int) < (k : Int)) = false := by simp; omega
        have hk0 : k = 0 := by omega
        subst hk0
        have hU2 : Hid (out = upOf (x : Int)) := by
          show out = _
          have q := hU.out
          rw [ups_zero, List.map_nil, List.append_nil] at q
          rw [hl.out]
          exact q
        clear hU h0 hk
        go_wp2_with fail
        go_ret
        exact ⟨_, rfl, by rw [← hU2.out]; exact unhide hO, unhide hL⟩
  · have hl : Hid (upOf n = []) := by show upOf n = []; unfold upOf; rw [if_neg h]
    have HH := hide h
    clear h
    go_enter Tryz.func47, Tryz.ntmps47
    go_wp2_with fail
    refine (l1In_no _ _ _ _ (by have := HH.out; omega)).mono ?_
    rintro e w1 ⟨rfl, rfl⟩
    go_wp2_with fail
    go_ret
    exact ⟨_, rfl, by rw [hl.out]; exact unhide hO0, unhide hL0⟩
#print axioms sTreUp_any
end Go.Proofs.YteiojanamkndmaaGreat
/-
  A region that draws its order: whatever yields its value in every later world may be taken first; so what makes or writes memory alone comes up, one by one; what waits for all others may write what it likes.
-/
namespace Go.Proofs.YteiojanamkndmaaGreat
open Go.RowKit

/-- An order of worlds. -/
structure Pre (R : World → World → Prop) : Prop where
  refl : ∀ w, R w w
  trans : ∀ u v w, R u v → R v w → R u w

section
variable {P : Program} {ops : Array Oper} {Q : Exit → Act → World → Prop} {md : Region.Mode} {R : World → World → Prop}

/-- Operation j waits for all others. -/
def waitsB (md : Region.Mode) (ops : Array Oper) (j : Nat) : Bool :=
  (List.range ops.size).all fun k => k == j || ((ops[j]?).map (fun o => o.after.any fun e => Region.binds md e && e.on == k)).getD false

/-- Whatever order is picked from here on, and each operation leads from a world to a later one, but one that waits for all others. -/
def wpAnyR (P : Program) (md : Region.Mode) (ops : Array Oper) (Q : Exit → Act → World → Prop) (R : World → World → Prop) : Nat → Array Bool → Act → World → Prop
  | 0, listed, a, w => Region.ready md ops listed = [] ∧ Q .normal a w
  | fuel + 1, listed, a, w =>
    (Region.ready md ops listed = [] → Q .normal a w) ∧
    ∀ i ∈ Region.ready md ops listed, wpOp P ops Q i (fun a' w' => (waitsB md ops i = true ∧ Region.ready md ops (listed.setIfInBounds i true) = [] ∧ Q .normal a' w') ∨ (R w w' ∧ wpAnyR P md ops Q R fuel (listed.setIfInBounds i true) a' w')) a w

theorem wpAny_of_R : ∀ (fuel : Nat) (listed : Array Bool) (a : Act) (w : World), wpAnyR P md ops Q R fuel listed a w → wpAny P md ops Q fuel listed a w
  | 0, _, _, _, h => h
  | fuel + 1, _, _, _, h => ⟨h.1, fun i hi => wpOp_mono (fun a' w' h' => by
      rcases h' with ⟨_, h1, h2⟩ | h'
      · cases fuel with
        | zero => exact ⟨h1, h2⟩
        | succ f => exact ⟨fun _ => h2, by rw [h1]; simp⟩
      · exact wpAny_of_R fuel _ a' w' h'.2) (h.2 i hi)⟩

theorem YieldsIf.later {S S' : World → Prop} {o : Oper} {v : Value} {a : Act} (h : YieldsIf P ops S o v a) (hs : ∀ w, S' w → S w) : YieldsIf P ops S' o v a :=
  h.imp (fun ⟨hw, hv⟩ => ⟨hw, fun w hS => hv w (hs w hS)⟩) id

theorem waits_spec {j i : Nat} {oj : Oper} (hj : ops[j]? = some oj) (h : waitsB md ops j = true) (hi : i < ops.size) (hne : i ≠ j) : ∃ e ∈ oj.after, Region.binds md e = true ∧ e.on = i := by
  unfold waitsB at h
  rw [List.all_eq_true] at h
  have h1 := h i (by rw [List.mem_range]; exact hi)
  rw [hj] at h1
  simp only [Option.map_some, Option.getD_some, Bool.or_eq_true, beq_iff_eq, hne, false_or, Array.any_eq_true', Bool.and_eq_true] at h1
  exact h1

theorem wpAnyR_first (hP : Pre R) {i : Nat} {oi : Oper} {v : Value} (hi : ops[i]? = some oi) (hsel : ∀ (j : Nat) (o : Oper) cs b, ops[j]? = some o → o.op ≠ .select cs b)
    (hQ : ∀ c a w, Q (.panic c) (a.put oi.dst v) w → Q (.panic c) a w) :
    ∀ (fuel : Nat) (listed : Array Bool) (a : Act) (w : World),
      (∀ j oj, ops[j]? = some oj → j ≠ i → listed.getD j true = false → (∀ e ∈ oj.after, Region.binds md e = true → e.on ≠ i) → oi.apart ops oj = true) →
      i ∈ Region.ready md ops listed → YieldsIf P ops (R w) oi v a →
      wpAnyR P md ops Q R fuel (listed.setIfInBounds i true) (a.put oi.dst v) w → wpAnyR P md ops Q R (fuel + 1) listed a w := by
  intro fuel
  induction fuel with
  | zero =>
    intro listed a w _ hr hy H
    refine ⟨fun h => (by rw [h] at hr; cases hr), fun j hj => ?_⟩
    by_cases hji : j = i
    · subst hji; exact hy.wpOp hi (hP.refl w) (.inr ⟨hP.refl w, H⟩)
    · have := ready_mono hj hji
      rw [H.1] at this
      cases this
  | succ fuel ih =>
    intro listed a w hfree hr hy H
    refine ⟨fun h => (by rw [h] at hr; cases hr), fun j hj => ?_⟩
    by_cases hji : j = i
    · subst hji; exact hy.wpOp hi (hP.refl w) (.inr ⟨hP.refl w, H⟩)
    · have h1 := H.2 j (ready_mono hj hji)
      obtain ⟨hjun, oj, hoj, hall⟩ := mem_ready.1 hj
      have hnot : ∀ e ∈ oj.after, Region.binds md e = true → e.on ≠ i := fun e he hb heq => by
        have h1 := hall e he hb
        have h0 := (mem_ready.1 hr).1
        rw [heq] at h1
        rcases Nat.lt_or_ge i listed.size with h' | h'
        · simp [h'] at h0 h1; rw [h0] at h1; cases h1
        · simp [Array.getElem?_eq_none h'] at h1
      have hnw : ¬ waitsB md ops j = true := fun q => by
        obtain ⟨e, he, hb, heq⟩ := waits_spec hoj q (Array.getElem?_eq_some_iff.1 hi).1 (Ne.symm hji)
        exact hnot e he hb heq
      have h2 := wpOp_putIf hoj (hfree j oj hoj hji hjun hnot) (fun cs b => hsel i oi cs b hi) (fun cs b => hsel j oj cs b hoj) hQ hy h1
      have hfree' : ∀ k ok, ops[k]? = some ok → k ≠ i → (listed.setIfInBounds j true).getD k true = false →
          (∀ e ∈ ok.after, Region.binds md e = true → e.on ≠ i) → oi.apart ops ok = true := fun k ok hk hki hun hno => by
        refine hfree k ok hk hki ?_ hno
        by_cases hjk : j = k
        · subst hjk; exact hjun
        · rw [getD_set_ne true hjk] at hun; exact hun
      refine wpOp_mono (fun a' w' h3 => ?_) h2
      rcases h3.2 with ⟨q, _⟩ | ⟨h4, h5⟩
      · exact absurd q hnw
      refine .inr ⟨h4, ih (listed.setIfInBounds j true) a' w' hfree' (ready_mono hr (Ne.symm hji)) (YieldsIf.later h3.1 (fun u hu => hP.trans _ _ _ h4 hu)) ?_⟩
      rw [Array.setIfInBounds_comm _ _ hji]
      exact h5

/-- Take number i first: it yields v in every later world. -/
theorem ord_take (hP : Pre R) {i d : Nat} {v : Value} {fuel : Nat} {listed : Array Bool} {a : Act} {w : World}
    (hs : Region.noSelect ops = true) (hf : Region.free md ops listed i = true) (hr : (Region.ready md ops listed).contains i = true) (hd : (ops[i]?).bind (·.dst) = some d)
    (hQ : ∀ c a w, Q (.panic c) (a.put (some d) v) w → Q (.panic c) a w)
    (hy : ∀ oi, ops[i]? = some oi → Region.wanted oi (yielded ops a.tmps) = true ∧ ∀ w', R w w' → (execOp a.eval oi).run P w' = .ok (.value v) w')
    (h : wpAnyR P md ops Q R fuel (listed.setIfInBounds i true) (a.put (some d) v) w) : wpAnyR P md ops Q R (fuel + 1) listed a w := by
  cases hi : ops[i]? with
  | none => rw [hi] at hd; cases hd
  | some oi =>
    rw [hi] at hd
    have hd' : oi.dst = some d := hd
    rw [← hd'] at h hQ
    exact wpAnyR_first hP hi (Region.noSelect_spec hs) hQ fuel listed a w (Region.free_spec hi hf) (by simpa using hr) (.inl (hy oi hi)) h
/-- Take number i first: it is not wanted. -/
theorem ord_skip (hP : Pre R) {i d : Nat} {fuel : Nat} {listed : Array Bool} {a : Act} {w : World}
    (hs : Region.noSelect ops = true) (hf : Region.free md ops listed i = true) (hr : (Region.ready md ops listed).contains i = true) (hd : (ops[i]?).bind (·.dst) = some d)
    (hQ : ∀ c a w, Q (.panic c) (a.put (some d) undef) w → Q (.panic c) a w)
    (hy : ((ops[i]?).map fun oi => Region.wanted oi (yielded ops a.tmps)) = some false)
    (h : wpAnyR P md ops Q R fuel (listed.setIfInBounds i true) (a.put (some d) undef) w) : wpAnyR P md ops Q R (fuel + 1) listed a w := by
  cases hi : ops[i]? with
  | none => rw [hi] at hd; cases hd
  | some oi =>
    rw [hi] at hd hy
    have hd' : oi.dst = some d := hd
    rw [← hd'] at h hQ
    exact wpAnyR_first hP hi (Region.noSelect_spec hs) hQ fuel listed a w (Region.free_spec hi hf) (by simpa using hr) (.inr ⟨by simpa using hy, rfl⟩) h
/-- Number i alone comes up. -/
theorem ord_one {i : Nat} {fuel : Nat} {listed : Array Bool} {a : Act} {w : World} (hr : Region.ready md ops listed = [i])
    (h : ∀ oi K, ops[i]? = some oi → Shut (∀ a' w', R w w' → wpAnyR P md ops Q R fuel (listed.setIfInBounds i true) a' w' → K a' w') → Region.wanted oi (yielded ops a.tmps) = true ∧ oi.wp P a w K Q) : wpAnyR P md ops Q R (fuel + 1) listed a w := by
  refine ⟨fun h0 => (by rw [hr] at h0; cases h0), fun j hj => ?_⟩
  rw [hr] at hj
  obtain rfl : j = i := by simpa using hj
  unfold wpOp
  cases hi : ops[j]? with
  | none =>
    have : j ∈ Region.ready md ops listed := by rw [hr]; simp
    obtain ⟨_, o, ho, _⟩ := mem_ready.1 this
    rw [hi] at ho
    cases ho
  | some oi =>
    obtain ⟨hw, hwp⟩ := h oi (fun a' w' => (waitsB md ops j = true ∧ Region.ready md ops (listed.setIfInBounds j true) = [] ∧ Q .normal a' w') ∨ (R w w' ∧ wpAnyR P md ops Q R fuel (listed.setIfInBounds j true) a' w')) hi (fun a' w' hl hk => .inr (And.intro hl hk))
    simp only [hw, if_true]
    exact .inl hwp
/-- Number i comes up last: it waits for all others. -/
theorem ord_last {i : Nat} {fuel : Nat} {listed : Array Bool} {a : Act} {w : World} (hr : Region.ready md ops listed = [i]) (hwt : waitsB md ops i = true) (he : Region.ready md ops (listed.setIfInBounds i true) = [])
    (h : ∀ oi K, ops[i]? = some oi → Shut (∀ a' w', Q .normal a' w' → K a' w') → Region.wanted oi (yielded ops a.tmps) = true ∧ oi.wp P a w K Q) : wpAnyR P md ops Q R (fuel + 1) listed a w := by
  refine ⟨fun h0 => (by rw [hr] at h0; cases h0), fun j hj => ?_⟩
  rw [hr] at hj
  obtain rfl : j = i := by simpa using hj
  unfold wpOp
  cases hi : ops[j]? with
  | none =>
    have : j ∈ Region.ready md ops listed := by rw [hr]; simp
    obtain ⟨_, o, ho, _⟩ := mem_ready.1 this
    rw [hi] at ho
    cases ho
  | some oi =>
    obtain ⟨hw, hwp⟩ := h oi (fun a' w' => (waitsB md ops j = true ∧ Region.ready md ops (listed.setIfInBounds j true) = [] ∧ Q .normal a' w') ∨ (R w w' ∧ wpAnyR P md ops Q R fuel (listed.setIfInBounds j true) a' w')) hi (fun a' w' hl => .inl ⟨hwt, he, hl⟩)
    simp only [hw, if_true]
    exact .inl hwp
/-- All have come up. -/
theorem later_done {listed : Array Bool} {a : Act} {w : World} (hr : Region.ready md ops listed = []) (h : Q .normal a w) : ∀ fuel, wpAnyR P md ops Q R fuel listed a w
  | 0 => ⟨hr, h⟩
  | _ + 1 => ⟨fun _ => h, by rw [hr]; simp⟩
/-- The beginning. -/
theorem wp_region_ord (R : World → World → Prop) {id : Nat} {a : Act} {w : World} (hm : P.follows .mixedOrders = true)
    (h : wpAnyR P .any ops Q R ops.size (Array.replicate ops.size false) a w.drew) : (Code.region id ops true).wp P Q a w :=
  wp_region_any hm (wpAny_of_R _ _ _ _ h)
end

/-- Later worlds: what was there is as it was. -/
def Later (w w' : World) : Prop := Below w.heap.size w w'
theorem laterPre : Pre Later := ⟨fun _ => Below.refl _ _, fun _ _ _ h k => Below.trans h (Below.mono k h.size)⟩
/-- Worlds in which what lay below B is as it was. -/
theorem belowPre (B : Nat) : Pre (Below B) := ⟨fun _ => Below.refl _ _, fun _ _ _ h k => Below.trans h k⟩

section
variable {P : Program} {ops : Array Oper} {Q : Exit → Act → World → Prop} {md : Region.Mode}
theorem later_take {i d : Nat} {v : Value} {fuel : Nat} {listed : Array Bool} {a : Act} {w : World}
    (hs : Region.noSelect ops = true) (hf : Region.free md ops listed i = true) (hr : (Region.ready md ops listed).contains i = true) (hd : (ops[i]?).bind (·.dst) = some d)
    (hQ : ∀ c a w, Q (.panic c) (a.put (some d) v) w → Q (.panic c) a w)
    (hy : ∀ oi, ops[i]? = some oi → Region.wanted oi (yielded ops a.tmps) = true ∧ ∀ w', Later w w' → (execOp a.eval oi).run P w' = .ok (.value v) w')
    (h : wpAnyR P md ops Q Later fuel (listed.setIfInBounds i true) (a.put (some d) v) w) : wpAnyR P md ops Q Later (fuel + 1) listed a w := ord_take laterPre hs hf hr hd hQ hy h
theorem later_skip {i d : Nat} {fuel : Nat} {listed : Array Bool} {a : Act} {w : World}
    (hs : Region.noSelect ops = true) (hf : Region.free md ops listed i = true) (hr : (Region.ready md ops listed).contains i = true) (hd : (ops[i]?).bind (·.dst) = some d)
    (hQ : ∀ c a w, Q (.panic c) (a.put (some d) undef) w → Q (.panic c) a w)
    (hy : ((ops[i]?).map fun oi => Region.wanted oi (yielded ops a.tmps)) = some false)
    (h : wpAnyR P md ops Q Later fuel (listed.setIfInBounds i true) (a.put (some d) undef) w) : wpAnyR P md ops Q Later (fuel + 1) listed a w := ord_skip laterPre hs hf hr hd hQ hy h
theorem later_one {i : Nat} {fuel : Nat} {listed : Array Bool} {a : Act} {w : World} (hr : Region.ready md ops listed = [i])
    (h : ∀ oi K, ops[i]? = some oi → Shut (∀ a' w', Later w w' → wpAnyR P md ops Q Later fuel (listed.setIfInBounds i true) a' w' → K a' w') → Region.wanted oi (yielded ops a.tmps) = true ∧ oi.wp P a w K Q) : wpAnyR P md ops Q Later (fuel + 1) listed a w := ord_one hr h
theorem wp_region_later {id : Nat} {a : Act} {w : World} (hm : P.follows .mixedOrders = true)
    (h : wpAnyR P .any ops Q Later ops.size (Array.replicate ops.size false) a w.drew) : (Code.region id ops true).wp P Q a w := wp_region_ord Later hm h
end
#print axioms wp_region_later
end Go.Proofs.YteiojanamkndmaaGreat
/-
  A region that draws its order: two that make memory may come up, one ahead of the other.
-/
namespace Go.Proofs.YteiojanamkndmaaGreat
open Go.RowKit
section
variable {P : Program} {ops : Array Oper} {Q : Exit → Act → World → Prop} {md : Region.Mode} {R : World → World → Prop}
theorem ord_two {i j : Nat} {fuel : Nat} {listed : Array Bool} {a : Act} {w : World} (hr : Region.ready md ops listed = [i, j])
    (h : ∀ oi K, ops[i]? = some oi → Shut (∀ a' w', R w w' → wpAnyR P md ops Q R fuel (listed.setIfInBounds i true) a' w' → K a' w') → Region.wanted oi (yielded ops a.tmps) = true ∧ oi.wp P a w K Q)
    (k : ∀ oi K, ops[j]? = some oi → Shut (∀ a' w', R w w' → wpAnyR P md ops Q R fuel (listed.setIfInBounds j true) a' w' → K a' w') → Region.wanted oi (yielded ops a.tmps) = true ∧ oi.wp P a w K Q) : wpAnyR P md ops Q R (fuel + 1) listed a w := by
  refine ⟨fun h0 => (by rw [hr] at h0; cases h0), fun z hz => ?_⟩
  have step : ∀ z, z ∈ Region.ready md ops listed → (∀ oi K, ops[z]? = some oi → Shut (∀ a' w', R w w' → wpAnyR P md ops Q R fuel (listed.setIfInBounds z true) a' w' → K a' w') → Region.wanted oi (yielded ops a.tmps) = true ∧ oi.wp P a w K Q) →
      wpOp P ops Q z (fun a' w' => (waitsB md ops z = true ∧ Region.ready md ops (listed.setIfInBounds z true) = [] ∧ Q .normal a' w') ∨ (R w w' ∧ wpAnyR P md ops Q R fuel (listed.setIfInBounds z true) a' w')) a w := by
    intro z hm hh
    unfold wpOp
    cases hi : ops[z]? with
    | none =>
      obtain ⟨_, o, ho, _⟩ := mem_ready.1 hm
      rw [hi] at ho
      cases ho
    | some oi =>
      obtain ⟨hw, hwp⟩ := hh oi (fun a' w' => (waitsB md ops z = true ∧ Region.ready md ops (listed.setIfInBounds z true) = [] ∧ Q .normal a' w') ∨ (R w w' ∧ wpAnyR P md ops Q R fuel (listed.setIfInBounds z true) a' w')) hi (fun a' w' hl hk => .inr (And.intro hl hk))
      simp only [hw, if_true]
      exact .inl hwp
  rw [hr] at hz
  rcases (by simpa using hz : z = i ∨ z = j) with rfl | rfl
  · exact step z (by rw [hr]; simp) h
  · exact step z (by rw [hr]; simp) k
theorem later_two {i j : Nat} {fuel : Nat} {listed : Array Bool} {a : Act} {w : World} (hr : Region.ready md ops listed = [i, j])
    (h : ∀ oi K, ops[i]? = some oi → Shut (∀ a' w', Later w w' → wpAnyR P md ops Q Later fuel (listed.setIfInBounds i true) a' w' → K a' w') → Region.wanted oi (yielded ops a.tmps) = true ∧ oi.wp P a w K Q)
    (k : ∀ oi K, ops[j]? = some oi → Shut (∀ a' w', Later w w' → wpAnyR P md ops Q Later fuel (listed.setIfInBounds j true) a' w' → K a' w') → Region.wanted oi (yielded ops a.tmps) = true ∧ oi.wp P a w K Q) : wpAnyR P md ops Q Later (fuel + 1) listed a w := ord_two hr h k
end
end Go.Proofs.YteiojanamkndmaaGreat
