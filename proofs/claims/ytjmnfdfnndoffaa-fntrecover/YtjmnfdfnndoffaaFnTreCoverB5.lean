/-
  The program's places: whether one is there, the place over it, the place of one; TreLeaf.
-/
import Derived.Test.YtjmnfdfnndoffaaFnTreCoverB3
import Derived.Test.YtjmnfdfnndoffaaFnTreCoverB1
import Derived.Test.YtjmnfdfnndoffaaFnTreCoverB4
import Derived.RangeFuncNested
import Derived.Laws.OwnMore
import Derived.Lib.AppendZeros
import Derived.OrdersHeld
import Derived.Deep.RegionHeld3
namespace Go.Proofs.Ytjmnfdfnndoffaa
open Go.RowKit

/-- The place under which one lies. -/
def overOf (p : Int) : Int := if 1 ≤ p ∧ p ≤ 14 then (p - 1) / 2 else -1
/-- A place, and all above it. -/
def chainOf (p : Int) : List Int := if 0 ≤ p ∧ p ≤ 14 then p :: upOf p else []
theorem upOf_nat (k : Nat) (h : k < 15) : upOf (k : Int) = (ups k).map (fun (k : Nat) => (k : Int)) := by
  unfold upOf; rw [if_pos (by omega)]; rfl
theorem upOf_chain (p : Int) : upOf p = chainOf (overOf p) := by
  by_cases h : 0 ≤ p ∧ p ≤ 14
  · obtain ⟨k, rfl⟩ : ∃ k : Nat, p = (k : Int) := ⟨p.toNat, by omega⟩
    have hk : k < 15 := by omega
    by_cases h0 : 0 < k
    · have e : overOf (k : Int) = (((k - 1) / 2 : Nat) : Int) := by unfold overOf; rw [if_pos (by omega)]; omega
      rw [e, upOf_nat k hk, ups_step k hk h0]
      unfold chainOf
      rw [if_pos (by omega), upOf_nat _ (by omega)]
      rfl
    · obtain rfl : k = 0 := by omega
      rfl
  · have e : overOf p = -1 := by unfold overOf; rw [if_neg (by omega)]
    rw [e]
    unfold upOf
    rw [if_neg h]
    rfl
theorem chain_cons (p : Int) (h : 0 ≤ p ∧ p ≤ 14) : chainOf p = p :: chainOf (overOf p) := by
  rw [← upOf_chain]; unfold chainOf; rw [if_pos h]
theorem chain_nil (p : Int) (h : ¬ (0 ≤ p ∧ p ≤ 14)) : chainOf p = [] := by unfold chainOf; rw [if_neg h]
theorem over_lt (p : Int) (h : 0 ≤ p) : overOf p < p ∧ -1 ≤ overOf p := by unfold overOf; split <;> omega
theorem over_wrap (p : Int) (h0 : 1 ≤ p) (h : p ≤ 14) : IntKind.i64.wrap (p - 1) = p - 1 ∧ IntKind.i64.wrap ((p - 1).tdiv 2) = overOf p := by
  constructor
  · simp [IntKind.wrap, IntKind.bits, IntKind.signed]; omega
  · rw [Int.tdiv_eq_ediv_of_nonneg (by omega)]
    unfold overOf
    rw [if_pos ⟨h0, h⟩]
    simp [IntKind.wrap, IntKind.bits, IntKind.signed]
    omega

set_option maxHeartbeats 400000 in
theorem isThere_yes (n : Int) (w : World) (h0 : 0 ≤ n) (h1 : n < 15) :
    Calls Try.prog 52 #[.int .i64 n] w fun e w' => e = .returned (.bool true) ∧ w' = w := by
  go_enter Try.func52, Try.ntmps52
  go_wp2
  go_ret
  exact ⟨rfl, rfl⟩

set_option maxHeartbeats 400000 in
theorem isThere_no (n : Int) (w : World) (h : n < 0 ∨ 15 ≤ n) :
    Calls Try.prog 52 #[.int .i64 n] w fun e w' => e = .returned (.bool false) ∧ w' = w := by
  rcases h with h | h
  · go_enter Try.func52, Try.ntmps52
    go_wp2
    go_ret
    exact ⟨rfl, rfl⟩
  · have h' : 0 ≤ n := by omega
    have h2 : decide (n < 15) = false := by simp; omega
    go_enter Try.func52, Try.ntmps52
    go_wp2
    go_ret
    exact ⟨rfl, rfl⟩

set_option maxHeartbeats 1000000 in
theorem over_any (p : Int) (w : World) : Calls Try.prog 60 #[.int .i64 p] w fun e w' => e = .returned (.int .i64 (overOf p)) ∧ w' = w := by
  by_cases h : 0 ≤ p ∧ p ≤ 14
  · by_cases h0 : p = 0
    · subst h0
      have e : overOf 0 = -1 := rfl
      rw [e]
      clear e h
      go_enter Try.func60, Try.ntmps60
      go_wp2_with fail
      refine (isThere_yes _ _ (by omega) (by omega)).mono ?_
      rintro e w1 ⟨rfl, rfl⟩
      go_wp2_with fail
      go_ret
      exact ⟨rfl, rfl⟩
    · obtain ⟨i1, i2⟩ := over_wrap p (by omega) h.2
      have hz : (p == 0) = false := by simp; exact h0
      generalize overOf p = q at i2
      have hh := hide h
      clear h
      go_enter Try.func60, Try.ntmps60
      go_wp2_with fail
      refine (isThere_yes _ _ (hh.out.1) (by have := hh.out; omega)).mono ?_
      rintro e w1 ⟨rfl, rfl⟩
      go_wp2_with fail
      go_ret
      exact ⟨rfl, rfl⟩
  · have e : overOf p = -1 := by unfold overOf; rw [if_neg (by omega)]
    rw [e]
    have hh := hide h
    clear e h
    go_enter Try.func60, Try.ntmps60
    go_wp2_with fail
    refine (isThere_no _ _ (by have := hh.out; omega)).mono ?_
    rintro e w1 ⟨rfl, rfl⟩
    go_wp2_with fail
    go_ret
    exact ⟨rfl, rfl⟩

set_option maxHeartbeats 400000 in
theorem placeOf_any (who : Int) (w : World) : Calls Try.prog 35 #[.int .i64 who] w fun e w' => e = .returned (.int .i64 (leafOf who)) ∧ w' = w := by
  by_cases h : 0 ≤ who ∧ who ≤ 7
  · have hl : leafOf who = 7 + who := by unfold leafOf; rw [if_pos h]
    rw [hl]
    have hh := hide h
    have i3 : IntKind.i64.wrap (7 + who) = 7 + who := by simp [IntKind.wrap, IntKind.bits, IntKind.signed]; omega
    clear hl h
    go_enter Try.func35, Try.ntmps35
    go_wp2_with fail
    refine (isOne_yes _ _ hh.out.1 (by have := hh.out; omega)).mono ?_
    rintro e w1 ⟨rfl, rfl⟩
    go_wp2_with fail
    go_ret
    exact ⟨rfl, rfl⟩
  · have hl : leafOf who = -1 := by unfold leafOf; rw [if_neg h]
    rw [hl]
    have hh := hide h
    clear hl h
    go_enter Try.func35, Try.ntmps35
    go_wp2_with fail
    refine (isOne_no _ _ (by have := hh.out; omega)).mono ?_
    rintro e w1 ⟨rfl, rfl⟩
    go_wp2_with fail
    go_ret
    exact ⟨rfl, rfl⟩
#print axioms over_any
end Go.Proofs.Ytjmnfdfnndoffaa
/-
  Both places under one.
-/
namespace Go.Proofs.Ytjmnfdfnndoffaa
open Go.RowKit

theorem wrap_small (n : Int) (h0 : -1000 ≤ n) (h : n ≤ 1000) : IntKind.i64.wrap n = n := by simp [IntKind.wrap, IntKind.bits, IntKind.signed]; omega

set_option maxHeartbeats 400000 in
theorem under_any (p : Int) (h0 : -10 ≤ p) (h1 : p ≤ 20) (w : World) : Calls Try.prog 53 #[.int .i64 p] w fun e w' => e = .returned (.agg #[.int .i64 (2 * p + 1), .int .i64 (2 * p + 2)]) ∧ Below w.heap.size w w' := by
  have i1 := wrap_small (2 * p) (by omega) (by omega)
  have i2 := wrap_small (2 * p + 1) (by omega) (by omega)
  have i3 := wrap_small (2 * p + 2) (by omega) (by omega)
  clear h0 h1
  go_enter Try.func53, Try.ntmps53
  go_wp2_with fail
  refine bodyPost_ret (v := .agg #[.int .i64 (2 * p + 1), .int .i64 (2 * p + 2)]) (by simp [results, Try.results53, go_sem]) rfl ⟨rfl, ?_⟩
  exact (Below.refl _ _).alloc (Nat.le_refl _) _
end Go.Proofs.Ytjmnfdfnndoffaa
/-
  Slices of the call's own, their rows between two numbers. No Go function in it.
-/
namespace Go.Proofs.Ytjmnfdfnndoffaa
open Go.RowKit

/-- A slice of the call's own, its row between two numbers. -/
def RowIn (lo hi : Nat) (e : TypeId) (size : Nat) (w : World) (v : Value) (n : Nat) (xs : List Value) : Prop := w.ownsRow lo e size v n xs ∧ ∀ g, v.ownBlock = some g → g < hi
theorem RowIn.of {lo : Nat} {e : TypeId} {size : Nat} {w : World} {v : Value} {n : Nat} {xs : List Value} (h : w.ownsRow lo e size v n xs) : RowIn lo w.heap.size e size w v n xs := ⟨h, fun g hg => (h.lt g hg).2⟩
theorem RowIn.below {lo hi : Nat} {e : TypeId} {size : Nat} {w w' : World} {v : Value} {n : Nat} {xs : List Value} (h : RowIn lo hi e size w v n xs) (hb : Below w.heap.size w w') : RowIn lo hi e size w' v n xs := ⟨own_below' h.1 hb, h.2⟩
theorem RowIn.grown {lo hi : Nat} {e : TypeId} {size : Nat} {w w' : World} {v : Value} {n : Nat} {xs : List Value} {r : Option Nat} (h : RowIn lo hi e size w v n xs) (hg : w.grownBy w' r) (hr : ∀ k, r = some k → k < lo ∨ hi ≤ k) : RowIn lo hi e size w' v n xs := by
  refine ⟨h.1.kept hg ?_, h.2⟩
  cases hv : v.ownBlock with
  | none => exact .inl rfl
  | some g =>
    right
    intro e'
    have h1 := (h.1.lt g hv).1
    have h2 := h.2 g hv
    have := hr g e'.symm
    omega
theorem RowIn.out {lo hi : Nat} {e : TypeId} {size : Nat} {w : World} {v : Value} {n : Nat} {xs : List Value} (h : RowIn lo hi e size w v n xs) : ∀ k, v.ownBlock = some k → lo ≤ k ∧ k < hi := fun k hk => ⟨(h.1.lt k hk).1, h.2 k hk⟩
/-- Texts, so. -/
def TIn (lo hi : Nat) (w : World) (v : Value) (xs : List ByteArray) : Prop := RowIn lo hi 9 1 w v xs.length (xs.map Value.string)
theorem TIn.srow {lo hi : Nat} {w : World} {v : Value} {xs : List ByteArray} (h : TIn lo hi w v xs) : SRow w v xs := own_srow h.1
theorem TIn.below {lo hi : Nat} {w w' : World} {v : Value} {xs : List ByteArray} (h : TIn lo hi w v xs) (hb : Below w.heap.size w w') : TIn lo hi w' v xs := RowIn.below h hb
theorem TIn.grown {lo hi : Nat} {w w' : World} {v : Value} {xs : List ByteArray} {r : Option Nat} (h : TIn lo hi w v xs) (hg : w.grownBy w' r) (hr : ∀ k, r = some k → k < lo ∨ hi ≤ k) : TIn lo hi w' v xs := RowIn.grown h hg hr
end Go.Proofs.Ytjmnfdfnndoffaa
/-
  Variables in blocks of their own, beside rows. No Go function in it.
-/
namespace Go.Proofs.Ytjmnfdfnndoffaa
open Go.RowKit

theorem box_below {w w' : World} {b : Nat} {t : TypeId} {v : Value} (h : Boxed w b t v) (hb : Below w.heap.size w w') : Boxed w' b t v := (hb.block b h.lt).trans h
theorem box_below0 {w w' : World} {b B : Nat} {t : TypeId} {v : Value} (h : Boxed w b t v) (hb : Below B w w') (hlt : b < B) : Boxed w' b t v := (hb.block b hlt).trans h
/-- A row is not a variable's block: what is stored there leaves it. -/
theorem row_box {B : Nat} {w : World} {e t : TypeId} {size n b : Nat} {v u : Value} {xs : List Value} (h : w.ownsRow B e size v n xs) (hx : Boxed w b t u) (hte : t ≠ e) (x : Value) : (w.setCell ⟨b, 0, none⟩ x).ownsRow B e size v n xs :=
  h.kept (grownBy_setCell' w b x) (.inr (hx.not_row hte h).symm)
/-- A store into a variable's block leaves what lies below. -/
theorem below_box {B : Nat} {w w' : World} {b : Nat} (h : Below B w w') (hb : B ≤ b) (x : Value) : Below B w (w'.setCell ⟨b, 0, none⟩ x) := h.setCell (p := ⟨b, 0, none⟩) hb x
/-- A row that grows or turns leaves a variable's block of another type. -/
theorem box_grown {B : Nat} {w w' : World} {e t : TypeId} {size n b : Nat} {v u : Value} {xs : List Value} (hx : Boxed w b t u) (h : w.ownsRow B e size v n xs) (hte : t ≠ e) (hg : w.grownBy w' v.ownBlock) : Boxed w' b t u := hx.kept hg (hx.not_row hte h)
theorem row_lowB {B B' : Nat} {w : World} {e : TypeId} {size : Nat} {v : Value} {n : Nat} {xs : List Value} (h : w.ownsRow B e size v n xs) (hB : B' ≤ B) : w.ownsRow B' e size v n xs := by
  refine ⟨h.1, h.2.imp id ?_⟩
  rintro ⟨g, cap, cur, h1, h2, h3⟩
  exact ⟨g, cap, cur, h1, by omega, h3⟩
end Go.Proofs.Ytjmnfdfnndoffaa
/-
  append of all of one row onto a slice of the call's own, whatever the row is, none too. No Go function in it.
-/
namespace Go.Proofs.Ytjmnfdfnndoffaa
open Go.RowKit

section
variable {P : Program} (w : World)
theorem grownBy_refl (r : Option Nat) : w.grownBy w r := ⟨rfl, rfl, rfl, Nat.le_refl _, fun _ _ _ => rfl⟩
theorem wpList_append_row {ops : Array Oper} {rest : List Oper} {o : Oper} {a : Act} {Q : Exit → Act → World → Prop} (hgd : o.guard = none) (s x : Operand) (t : TypeId)
    (ho : o.op = .call { callee := .builtin .append, args := #[s, x], argTypes := #[t, t] })
    (base : Nat) (e : TypeId) (i : TypeInfo) (z : Value) (size bytes : Nat) (ht : P.underlying t = some (.slice e)) (hi : P.info? e = some i) (hz : i.zero = some z)
    (hsize : i.size = size) (hby : i.bytes = bytes) (hzs : z.cells.size = size) (hsz : 0 < size)
    (v : Value) (n : Nat) (xs : List Value) (hs : a.eval s = v) (hown : w.ownsRow base e size v n xs)
    (y : Value) (m : Nat) (news : List Value) (hx : a.eval x = y)
    (hy : (y = .slice none 0 0 ∧ m = 0 ∧ news = []) ∨ ∃ ad c, y = .slice (some ad) m c ∧ news.length = m * size ∧ ∀ j u, news[j]? = some u → w.cell? (ad.add j) = some u) (h1 : ∀ u ∈ news, u.oneCell' = true)
    (h63 : n + m ≤ maxLen) (hbytes : (n + m) * bytes ≤ 140737488355328) (hbase : base ≤ w.heap.size)
    (h : ∀ v' w', w'.ownsRow base e size v' (n + m) (xs ++ news) → w.grownBy w' v.ownBlock → wpList P ops Q rest (a.put o.dst v') w') : wpList P ops Q (o :: rest) a w := by
  rcases hy with ⟨rfl, rfl, rfl⟩ | ⟨ad, c, rfl, hl, hnews⟩
  · refine wpList_plain hgd fun _ hK => ?_
    refine Go.Lib.wp_append_run w s x t t ho v (.slice none 0 0) hs hx v w (run_append_owned_none _ base t o.type e i size ht hi v n xs hown) (hK _ _ (h v w (by simpa using hown) (grownBy_refl w _)))
  · exact wpList_append_own _ hgd s x t ho base e i z size bytes ht hi hz hsize hby hzs hsz v n xs hs hown ad m c news hx hl hnews h1 h63 hbytes hbase (fun v' w' h2 h3 _ => h v' w' h2 h3)
end

section
variable {P : Program} (w : World)
theorem wp_append_row {o : Oper} {a : Act} {K : Act → World → Prop} {Q : Exit → Act → World → Prop} (s x : Operand) (t : TypeId)
    (ho : o.op = .call { callee := .builtin .append, args := #[s, x], argTypes := #[t, t] })
    (base : Nat) (e : TypeId) (i : TypeInfo) (z : Value) (size bytes : Nat) (ht : P.underlying t = some (.slice e)) (hi : P.info? e = some i) (hz : i.zero = some z)
    (hsize : i.size = size) (hby : i.bytes = bytes) (hzs : z.cells.size = size) (hsz : 0 < size)
    (v : Value) (n : Nat) (xs : List Value) (hs : a.eval s = v) (hown : w.ownsRow base e size v n xs)
    (y : Value) (m : Nat) (news : List Value) (hx : a.eval x = y)
    (hy : (y = .slice none 0 0 ∧ m = 0 ∧ news = []) ∨ ∃ ad c, y = .slice (some ad) m c ∧ news.length = m * size ∧ ∀ j u, news[j]? = some u → w.cell? (ad.add j) = some u) (h1 : ∀ u ∈ news, u.oneCell' = true)
    (h63 : n + m ≤ maxLen) (hbytes : (n + m) * bytes ≤ 140737488355328) (hbase : base ≤ w.heap.size)
    (h : ∀ v' w', w'.ownsRow base e size v' (n + m) (xs ++ news) → w.grownBy w' v.ownBlock → K (a.put o.dst v') w') : o.wp P a w K Q := by
  rcases hy with ⟨rfl, rfl, rfl⟩ | ⟨ad, c, rfl, hl, hnews⟩
  · exact Go.Lib.wp_append_run w s x t t ho v (.slice none 0 0) hs hx v w (run_append_owned_none _ base t o.type e i size ht hi v n xs hown) (h v w (by simpa using hown) (grownBy_refl w _))
  · exact wp_append_own w s x t ho base e i z size bytes ht hi hz hsize hby hzs hsz v n xs hs hown ad m c news hx hl hnews h1 h63 hbytes hbase (fun v' w' h2 h3 _ => h v' w' h2 h3)
end

/-- A row of numbers as what is appended. -/
theorem IRow.news {w : World} {v : Value} {xs : List Int} (h : IRow w v xs) :
    (v = .slice none 0 0 ∧ xs.length = 0 ∧ xs.map (Value.int .i64) = []) ∨ ∃ ad c, v = .slice (some ad) xs.length c ∧ (xs.map (Value.int .i64)).length = xs.length * 1 ∧ ∀ j u, (xs.map (Value.int .i64))[j]? = some u → w.cell? (ad.add j) = some u := by
  rcases h with ⟨rfl, rfl⟩ | ⟨a, cap, rfl, h1, h2, h3⟩
  · exact .inl ⟨rfl, rfl, rfl⟩
  · refine .inr ⟨a, cap, rfl, by simp, fun j u hj => ?_⟩
    rw [List.getElem?_map] at hj
    cases hx : xs[j]? with
    | none => rw [hx] at hj; cases hj
    | some x =>
      rw [hx] at hj
      have hlt := (List.getElem?_eq_some_iff.1 hx).1
      rw [h3 j hlt, List.getD_eq_getElem?_getD, hx]
      simpa using hj
/-- A row of texts as what is appended. -/
theorem SRow.news {w : World} {v : Value} {xs : List ByteArray} (h : SRow w v xs) :
    (v = .slice none 0 0 ∧ xs.length = 0 ∧ xs.map Value.string = []) ∨ ∃ ad c, v = .slice (some ad) xs.length c ∧ (xs.map Value.string).length = xs.length * 1 ∧ ∀ j u, (xs.map Value.string)[j]? = some u → w.cell? (ad.add j) = some u := by
  rcases h with ⟨rfl, rfl⟩ | ⟨a, cap, rfl, h1, h2, h3⟩
  · exact .inl ⟨rfl, rfl, rfl⟩
  · refine .inr ⟨a, cap, rfl, by simp, fun j u hj => ?_⟩
    rw [List.getElem?_map] at hj
    cases hx : xs[j]? with
    | none => rw [hx] at hj; cases hj
    | some x =>
      rw [hx] at hj
      have hlt := (List.getElem?_eq_some_iff.1 hx).1
      rw [h3 j hlt, List.getD_eq_getElem?_getD, hx]
      simpa using hj
theorem texts_one (xs : List ByteArray) : ∀ u ∈ xs.map Value.string, u.oneCell' = true := by
  intro u hu
  obtain ⟨x, _, rfl⟩ := List.mem_map.1 hu
  rfl
theorem ints_one (xs : List Int) : ∀ u ∈ xs.map (Value.int .i64), u.oneCell' = true := by
  intro u hu
  obtain ⟨x, _, rfl⟩ := List.mem_map.1 hu
  rfl
#print axioms IRow.news
end Go.Proofs.Ytjmnfdfnndoffaa
/-
  A region that draws its order: whatever yields its value in every later world may be taken first; so what makes or writes memory alone comes up, one by one; what waits for all others may write what it likes.
-/
namespace Go.Proofs.Ytjmnfdfnndoffaa
open Go.RowKit

/-- An order of worlds. -/
structure Pre (R : World → World → Prop) : Prop where
  refl : ∀ w, R w w
  trans : ∀ u v w, R u v → R v w → R u w

section
variable {P : Program} {ops : Array Oper} {Q : Exit → Act → World → Prop} {md : Region.Mode} {R : World → World → Prop}

/-- Operation j waits for all others. -/
def waitsB (md : Region.Mode) (ops : Array Oper) (j : Nat) : Bool :=
  (List.range ops.size).all fun k => k == j || ((ops[j]?).map (fun o => o.after.any fun e => Region.binds md e && e.on == k)).getD false

/-- Whatever order is picked from here on, and each operation leads from a world to a later one, but one that waits for all others. -/
def wpAnyR (P : Program) (md : Region.Mode) (ops : Array Oper) (Q : Exit → Act → World → Prop) (R : World → World → Prop) : Nat → Array Bool → Act → World → Prop
  | 0, listed, a, w => Region.ready md ops listed = [] ∧ Q .normal a w
  | fuel + 1, listed, a, w =>
    (Region.ready md ops listed = [] → Q .normal a w) ∧
    ∀ i ∈ Region.ready md ops listed, wpOp P ops Q i (fun a' w' => (waitsB md ops i = true ∧ Region.ready md ops (listed.setIfInBounds i true) = [] ∧ Q .normal a' w') ∨ (R w w' ∧ wpAnyR P md ops Q R fuel (listed.setIfInBounds i true) a' w')) a w

theorem wpAny_of_R : ∀ (fuel : Nat) (listed : Array Bool) (a : Act) (w : World), wpAnyR P md ops Q R fuel listed a w → wpAny P md ops Q fuel listed a w
  | 0, _, _, _, h => h
  | fuel + 1, _, _, _, h => ⟨h.1, fun i hi => wpOp_mono (fun a' w' h' => by
      rcases h' with ⟨_, h1, h2⟩ | h'
      · cases fuel with
        | zero => exact ⟨h1, h2⟩
        | succ f => exact ⟨fun _ => h2, by rw [h1]; simp⟩
      · exact wpAny_of_R fuel _ a' w' h'.2) (h.2 i hi)⟩

theorem YieldsIf.later {S S' : World → Prop} {o : Oper} {v : Value} {a : Act} (h : YieldsIf P ops S o v a) (hs : ∀ w, S' w → S w) : YieldsIf P ops S' o v a :=
  h.imp (fun ⟨hw, hv⟩ => ⟨hw, fun w hS => hv w (hs w hS)⟩) id

theorem waits_spec {j i : Nat} {oj : Oper} (hj : ops[j]? = some oj) (h : waitsB md ops j = true) (hi : i < ops.size) (hne : i ≠ j) : ∃ e ∈ oj.after, Region.binds md e = true ∧ e.on = i := by
  unfold waitsB at h
  rw [List.all_eq_true] at h
  have h1 := h i (by rw [List.mem_range]; exact hi)
  rw [hj] at h1
  simp only [Option.map_some, Option.getD_some, Bool.or_eq_true, beq_iff_eq, hne, false_or, Array.any_eq_true', Bool.and_eq_true] at h1
  exact h1

theorem wpAnyR_first (hP : Pre R) {i : Nat} {oi : Oper} {v : Value} (hi : ops[i]? = some oi) (hsel : ∀ (j : Nat) (o : Oper) cs b, ops[j]? = some o → o.op ≠ .select cs b)
    (hQ : ∀ c a w, Q (.panic c) (a.put oi.dst v) w → Q (.panic c) a w) :
    ∀ (fuel : Nat) (listed : Array Bool) (a : Act) (w : World),
      (∀ j oj, ops[j]? = some oj → j ≠ i → listed.getD j true = false → (∀ e ∈ oj.after, Region.binds md e = true → e.on ≠ i) → oi.apart ops oj = true) →
      i ∈ Region.ready md ops listed → YieldsIf P ops (R w) oi v a →
      wpAnyR P md ops Q R fuel (listed.setIfInBounds i true) (a.put oi.dst v) w → wpAnyR P md ops Q R (fuel + 1) listed a w := by
  intro fuel
  induction fuel with
  | zero =>
    intro listed a w _ hr hy H
    refine ⟨fun h => (by rw [h] at hr; cases hr), fun j hj => ?_⟩
    by_cases hji : j = i
    · subst hji; exact hy.wpOp hi (hP.refl w) (.inr ⟨hP.refl w, H⟩)
    · have := ready_mono hj hji
      rw [H.1] at this
      cases this
  | succ fuel ih =>
    intro listed a w hfree hr hy H
    refine ⟨fun h => (by rw [h] at hr; cases hr), fun j hj => ?_⟩
    by_cases hji : j = i
    · subst hji; exact hy.wpOp hi (hP.refl w) (.inr ⟨hP.refl w, H⟩)
    · have h1 := H.2 j (ready_mono hj hji)
      obtain ⟨hjun, oj, hoj, hall⟩ := mem_ready.1 hj
      have hnot : ∀ e ∈ oj.after, Region.binds md e = true → e.on ≠ i := fun e he hb heq => by
        have h1 := hall e he hb
        have h0 := (mem_ready.1 hr).1
        rw [heq] at h1
        rcases Nat.lt_or_ge i listed.size with h' | h'
        · simp [h'] at h0 h1; rw [h0] at h1; cases h1
        · simp [Array.getElem?_eq_none h'] at h1
      have hnw : ¬ waitsB md ops j = true := fun q => by
        obtain ⟨e, he, hb, heq⟩ := waits_spec hoj q (Array.getElem?_eq_some_iff.1 hi).1 (Ne.symm hji)
        exact hnot e he hb heq
      have h2 := wpOp_putIf hoj (hfree j oj hoj hji hjun hnot) (fun cs b => hsel i oi cs b hi) (fun cs b => hsel j oj cs b hoj) hQ hy h1
      have hfree' : ∀ k ok, ops[k]? = some ok → k ≠ i → (listed.setIfInBounds j true).getD k true = false →
          (∀ e ∈ ok.after, Region.binds md e = true → e.on ≠ i) → oi.apart ops ok = true := fun k ok hk hki hun hno => by
        refine hfree k ok hk hki ?_ hno
        by_cases hjk : j = k
        · subst hjk; exact hjun
        · rw [getD_set_ne true hjk] at hun; exact hun
      refine wpOp_mono (fun a' w' h3 => ?_) h2
      rcases h3.2 with ⟨q, _⟩ | ⟨h4, h5⟩
      · exact absurd q hnw
      refine .inr ⟨h4, ih (listed.setIfInBounds j true) a' w' hfree' (ready_mono hr (Ne.symm hji)) (YieldsIf.later h3.1 (fun u hu => hP.trans _ _ _ h4 hu)) ?_⟩
      rw [Array.setIfInBounds_comm _ _ hji]
      exact h5

/-- Take number i first: it yields v in every later world. -/
theorem ord_take (hP : Pre R) {i d : Nat} {v : Value} {fuel : Nat} {listed : Array Bool} {a : Act} {w : World}
    (hs : Region.noSelect ops = true) (hf : Region.free md ops listed i = true) (hr : (Region.ready md ops listed).contains i = true) (hd : (ops[i]?).bind (·.dst) = some d)
    (hQ : ∀ c a w, Q (.panic c) (a.put (some d) v) w → Q (.panic c) a w)
    (hy : ∀ oi, ops[i]? = some oi → Region.wanted oi (yielded ops a.tmps) = true ∧ ∀ w', R w w' → (execOp a.eval oi).run P w' = .ok (.value v) w')
    (h : wpAnyR P md ops Q R fuel (listed.setIfInBounds i true) (a.put (some d) v) w) : wpAnyR P md ops Q R (fuel + 1) listed a w := by
  cases hi : ops[i]? with
  | none => rw [hi] at hd; cases hd
  | some oi =>
    rw [hi] at hd
    have hd' : oi.dst = some d := hd
    rw [← hd'] at h hQ
    exact wpAnyR_first hP hi (Region.noSelect_spec hs) hQ fuel listed a w (Region.free_spec hi hf) (by simpa using hr) (.inl (hy oi hi)) h
/-- Take number i first: it is not wanted. -/
theorem ord_skip (hP : Pre R) {i d : Nat} {fuel : Nat} {listed : Array Bool} {a : Act} {w : World}
    (hs : Region.noSelect ops = true) (hf : Region.free md ops listed i = true) (hr : (Region.ready md ops listed).contains i = true) (hd : (ops[i]?).bind (·.dst) = some d)
    (hQ : ∀ c a w, Q (.panic c) (a.put (some d) undef) w → Q (.panic c) a w)
    (hy : ((ops[i]?).map fun oi => Region.wanted oi (yielded ops a.tmps)) = some false)
    (h : wpAnyR P md ops Q R fuel (listed.setIfInBounds i true) (a.put (some d) undef) w) : wpAnyR P md ops Q R (fuel + 1) listed a w := by
  cases hi : ops[i]? with
  | none => rw [hi] at hd; cases hd
  | some oi =>
    rw [hi] at hd hy
    have hd' : oi.dst = some d := hd
    rw [← hd'] at h hQ
    exact wpAnyR_first hP hi (Region.noSelect_spec hs) hQ fuel listed a w (Region.free_spec hi hf) (by simpa using hr) (.inr ⟨by simpa using hy, rfl⟩) h
/-- Number i alone comes up. -/
theorem ord_one {i : Nat} {fuel : Nat} {listed : Array Bool} {a : Act} {w : World} (hr : Region.ready md ops listed = [i])
    (h : ∀ oi K, ops[i]? = some oi → Shut (∀ a' w', R w w' → wpAnyR P md ops Q R fuel (listed.setIfInBounds i true) a' w' → K a' w') → Region.wanted oi (yielded ops a.tmps) = true ∧ oi.wp P a w K Q) : wpAnyR P md ops Q R (fuel + 1) listed a w := by
  refine ⟨fun h0 => (by rw [hr] at h0; cases h0), fun j hj => ?_⟩
  rw [hr] at hj
  obtain rfl : j = i := by simpa using hj
  unfold wpOp
  cases hi : ops[j]? with
  | none =>
    have : j ∈ Region.ready md ops listed := by rw [hr]; simp
    obtain ⟨_, o, ho, _⟩ := mem_ready.1 this
    rw [hi] at ho
    cases ho
  | some oi =>
    obtain ⟨hw, hwp⟩ := h oi (fun a' w' => (waitsB md ops j = true ∧ Region.ready md ops (listed.setIfInBounds j true) = [] ∧ Q .normal a' w') ∨ (R w w' ∧ wpAnyR P md ops Q R fuel (listed.setIfInBounds j true) a' w')) hi (fun a' w' hl hk => .inr (And.intro hl hk))
    simp only [hw, if_true]
    exact .inl hwp
/-- Number i comes up last: it waits for all others. -/
theorem ord_last {i : Nat} {fuel : Nat} {listed : Array Bool} {a : Act} {w : World} (hr : Region.ready md ops listed = [i]) (hwt : waitsB md ops i = true) (he : Region.ready md ops (listed.setIfInBounds i true) = [])
    (h : ∀ oi K, ops[i]? = some oi → Shut (∀ a' w', Q .normal a' w' → K a' w') → Region.wanted oi (yielded ops a.tmps) = true ∧ oi.wp P a w K Q) : wpAnyR P md ops Q R (fuel + 1) listed a w := by
  refine ⟨fun h0 => (by rw [hr] at h0; cases h0), fun j hj => ?_⟩
  rw [hr] at hj
  obtain rfl : j = i := by simpa using hj
  unfold wpOp
  cases hi : ops[j]? with
  | none =>
    have : j ∈ Region.ready md ops listed := by rw [hr]; simp
    obtain ⟨_, o, ho, _⟩ := mem_ready.1 this
    rw [hi] at ho
    cases ho
  | some oi =>
    obtain ⟨hw, hwp⟩ := h oi (fun a' w' => (waitsB md ops j = true ∧ Region.ready md ops (listed.setIfInBounds j true) = [] ∧ Q .normal a' w') ∨ (R w w' ∧ wpAnyR P md ops Q R fuel (listed.setIfInBounds j true) a' w')) hi (fun a' w' hl => .inl ⟨hwt, he, hl⟩)
    simp only [hw, if_true]
    exact .inl hwp
/-- All have come up. -/
theorem later_done {listed : Array Bool} {a : Act} {w : World} (hr : Region.ready md ops listed = []) (h : Q .normal a w) : ∀ fuel, wpAnyR P md ops Q R fuel listed a w
  | 0 => ⟨hr, h⟩
  | _ + 1 => ⟨fun _ => h, by rw [hr]; simp⟩
/-- The beginning. -/
theorem wp_region_ord (R : World → World → Prop) {id : Nat} {a : Act} {w : World} (hm : P.follows .mixedOrders = true)
    (h : wpAnyR P .any ops Q R ops.size (Array.replicate ops.size false) a w.drew) : (Code.region id ops true).wp P Q a w :=
  wp_region_any hm (wpAny_of_R _ _ _ _ h)
end

/-- Later worlds: what was there is as it was. -/
def Later (w w' : World) : Prop := Below w.heap.size w w'
theorem laterPre : Pre Later := ⟨fun _ => Below.refl _ _, fun _ _ _ h k => Below.trans h (Below.mono k h.size)⟩
/-- Worlds in which what lay below B is as it was. -/
theorem belowPre (B : Nat) : Pre (Below B) := ⟨fun _ => Below.refl _ _, fun _ _ _ h k => Below.trans h k⟩

section
variable {P : Program} {ops : Array Oper} {Q : Exit → Act → World → Prop} {md : Region.Mode}
theorem later_take {i d : Nat} {v : Value} {fuel : Nat} {listed : Array Bool} {a : Act} {w : World}
    (hs : Region.noSelect ops = true) (hf : Region.free md ops listed i = true) (hr : (Region.ready md ops listed).contains i = true) (hd : (ops[i]?).bind (·.dst) = some d)
    (hQ : ∀ c a w, Q (.panic c) (a.put (some d) v) w → Q (.panic c) a w)
    (hy : ∀ oi, ops[i]? = some oi → Region.wanted oi (yielded ops a.tmps) = true ∧ ∀ w', Later w w' → (execOp a.eval oi).run P w' = .ok (.value v) w')
    (h : wpAnyR P md ops Q Later fuel (listed.setIfInBounds i true) (a.put (some d) v) w) : wpAnyR P md ops Q Later (fuel + 1) listed a w := ord_take laterPre hs hf hr hd hQ hy h
theorem later_skip {i d : Nat} {fuel : Nat} {listed : Array Bool} {a : Act} {w : World}
    (hs : Region.noSelect ops = true) (hf : Region.free md ops listed i = true) (hr : (Region.ready md ops listed).contains i = true) (hd : (ops[i]?).bind (·.dst) = some d)
    (hQ : ∀ c a w, Q (.panic c) (a.put (some d) undef) w → Q (.panic c) a w)
    (hy : ((ops[i]?).map fun oi => Region.wanted oi (yielded ops a.tmps)) = some false)
    (h : wpAnyR P md ops Q Later fuel (listed.setIfInBounds i true) (a.put (some d) undef) w) : wpAnyR P md ops Q Later (fuel + 1) listed a w := ord_skip laterPre hs hf hr hd hQ hy h
theorem later_one {i : Nat} {fuel : Nat} {listed : Array Bool} {a : Act} {w : World} (hr : Region.ready md ops listed = [i])
    (h : ∀ oi K, ops[i]? = some oi → Shut (∀ a' w', Later w w' → wpAnyR P md ops Q Later fuel (listed.setIfInBounds i true) a' w' → K a' w') → Region.wanted oi (yielded ops a.tmps) = true ∧ oi.wp P a w K Q) : wpAnyR P md ops Q Later (fuel + 1) listed a w := ord_one hr h
theorem wp_region_later {id : Nat} {a : Act} {w : World} (hm : P.follows .mixedOrders = true)
    (h : wpAnyR P .any ops Q Later ops.size (Array.replicate ops.size false) a w.drew) : (Code.region id ops true).wp P Q a w := wp_region_ord Later hm h
end
#print axioms wp_region_later
end Go.Proofs.Ytjmnfdfnndoffaa
/-
  What covers: coverFrom of the program, l3Cover of the specification.
-/
namespace Go.Proofs.Ytjmnfdfnndoffaa
open Go.RowKit

/-- What covers from a place down, if it is one. -/
def covR (xs : List ByteArray) (p : Int) : List Int := if 0 ≤ p ∧ p ≤ 14 then ints (cover xs p.toNat) else []
theorem covR_nat (xs : List ByteArray) (n : Nat) (h : n < 15) : covR xs (n : Int) = ints (cover xs n) := by unfold covR; rw [if_pos (by omega)]; rfl
theorem covR_out (xs : List ByteArray) (p : Int) (h : ¬ (0 ≤ p ∧ p ≤ 14)) : covR xs p = [] := by unfold covR; rw [if_neg h]
theorem covR_both (xs : List ByteArray) (n : Nat) (h : n < 15) (hk : keyed xs n = false) : covR xs (n : Int) = covR xs (2 * (n : Int) + 1) ++ covR xs (2 * (n : Int) + 2) := by
  by_cases h7 : n < 7
  · rw [covR_nat xs n h, cover_both xs n hk h7]
    have e1 : 2 * (n : Int) + 1 = ((2 * n + 1 : Nat) : Int) := by omega
    have e2 : 2 * (n : Int) + 2 = ((2 * n + 2 : Nat) : Int) := by omega
    rw [e1, e2, covR_nat xs _ (by omega), covR_nat xs _ (by omega)]
    simp [ints]
  · rw [covR_nat xs n h, cover_bare xs n hk (by omega), covR_out xs _ (by omega), covR_out xs _ (by omega)]
    rfl
theorem ints_len (ps : List Nat) : (ints ps).length = ps.length := by simp [ints]
theorem cover_le (xs : List ByteArray) : ∀ n, n < 15 → (cover xs n).length ≤ 8 ∧ (1 ≤ n → (cover xs n).length ≤ 4) ∧ (3 ≤ n → (cover xs n).length ≤ 2) ∧ (7 ≤ n → (cover xs n).length ≤ 1) := by
  apply down
  · intro n h h'
    cases q : keyed xs n with
    | true => rw [cover_keyed xs n q]; simp
    | false => rw [cover_bare xs n q h]; simp
  · intro n h i1 i2
    cases q : keyed xs n with
    | true => rw [cover_keyed xs n q]; simp
    | false =>
      rw [cover_both xs n q h, List.length_append]
      have := i1.2.1 (by omega)
      have := i2.2.1 (by omega)
      refine ⟨by omega, fun h1 => ?_, fun h3 => ?_, fun h7 => by omega⟩
      · have := i1.2.2.1 (by omega); have := i2.2.2.1 (by omega); omega
      · have := i1.2.2.2 (by omega); have := i2.2.2.2 (by omega); omega
theorem covR_len (xs : List ByteArray) (p : Int) : (covR xs p).length ≤ 8 := by
  unfold covR
  split
  · rw [ints_len]; exact (cover_le xs p.toNat (by omega)).1
  · simp

/-- What TreCover answers. -/
def covRes (xs : List ByteArray) (p : Int) : List Int := if treOk xs = true then covR xs p else []
theorem covRes_len (xs : List ByteArray) (p : Int) : (covRes xs p).length ≤ 8 := by
  unfold covRes
  split
  · exact covR_len xs p
  · simp

/-- What coverFrom leaves. -/
def CovC (xs : List ByteArray) (v : Value) (p : Int) : Prop := ∀ w : World, SRow w v xs →
  Calls Try.prog 28 #[v, .int .i64 p] w fun e w' => ∃ u, e = .returned u ∧ OwnI w.heap.size w' u (covR xs p) ∧ Below w.heap.size w w'

set_option maxHeartbeats 1000000 in
theorem covC_out (xs : List ByteArray) (v : Value) (p : Int) (h : ¬ (0 ≤ p ∧ p ≤ 14)) : CovC xs v p := by
  intro w hs
  have HE := hide (covR_out xs p h)
  have hh := hide h
  clear h hs
  go_enter Try.func28, Try.ntmps28
  go_wp2_with fail
  refine (isThere_no _ _ (by have := hh.out; omega)).mono ?_
  rintro e w1 ⟨rfl, rfl⟩
  go_wp2_with fail
  go_ret
  exact ⟨_, rfl, by rw [HE.out]; exact World.ownsRow_nil _ _ _ _, Below.refl _ _⟩

set_option maxRecDepth 100000 in
set_option maxHeartbeats 2000000 in
theorem covC_keyed (xs : List ByteArray) (hl : xs.length = 15) (v : Value) (n : Nat) (hn : n < 15) (q : keyed xs n = true) : CovC xs v (n : Int) := by
  intro w hs
  obtain ⟨ao, cap, rfl, h1, h2, h3⟩ := hs.form
  obtain ⟨a, rfl, hc⟩ := h3 n (by omega)
  have hne : ¬ (xs.getD n ByteArray.empty).toList = [] := no_text (by simpa [keyed] using q)
  have hne2 : (xs.getD n ByteArray.empty).toList.isEmpty = false := by simpa using hne
  have HC : Hid (covR xs (n : Int) = [(n : Int)]) := by show _ = _; rw [covR_nat xs n hn, cover_keyed xs n q]; rfl
  have HO : Hid (OwnI w.heap.size (w.alloc (.cells #[.int .i64 (n : Int)] 3)) (.slice (some ⟨w.heap.size, 0, none⟩) 1 1) [(n : Int)]) := World.ownsRow_lit (base := w.heap.size) (e := 3) (size := 1) w #[.int .i64 (n : Int)] 1 (Nat.le_refl _) (by unfold maxLen; omega) rfl
  have HB : Hid (Below w.heap.size w (w.alloc (.cells #[.int .i64 (n : Int)] 3))) := (Below.refl _ _).alloc (Nat.le_refl _) _
  have hn2 : (n : Int) < 15 := by omega
  clear q h3 hs
  rw [hl] at h1 ⊢
  generalize xs.getD n ByteArray.empty = y at hc hne hne2
  go_enter Try.func28, Try.ntmps28
  go_wp2_with fail
  refine (isThere_yes _ _ (by omega) (by omega)).mono ?_
  rintro e w1 ⟨rfl, rfl⟩
  go_wp2_with fail
  go_ret
  exact ⟨_, rfl, by rw [HC.out]; exact unhide HO, unhide HB⟩

theorem idx_0 (p1 p2 : Int) (w : World) : (Instr.index 70 (.agg #[.int .i64 p1, .int .i64 p2]) (.int .i64 0)).run Try.prog w = .ok (.int .i64 p1) w := by kernel_rfl
theorem idx_1 (p1 p2 : Int) (w : World) : (Instr.index 70 (.agg #[.int .i64 p1, .int .i64 p2]) (.int .i64 1)).run Try.prog w = .ok (.int .i64 p2) w := by kernel_rfl

set_option maxRecDepth 100000 in
set_option maxHeartbeats 4000000 in
theorem covC_both (xs : List ByteArray) (hl : xs.length = 15) (v : Value) (n : Nat) (hn : n < 15) (q : keyed xs n = false) (ih1 : CovC xs v (2 * (n : Int) + 1)) (ih2 : CovC xs v (2 * (n : Int) + 2)) : CovC xs v (n : Int) := by
  intro w hs
  obtain ⟨i0, hi, hz0, hz1, hz2⟩ := info_parts info_int2
  have hI := hide (And.intro hi (And.intro hz0 (And.intro hz1 hz2)))
  clear hi hz0 hz1 hz2
  have hR := hide hs
  obtain ⟨ao, cap, rfl, h1, h2, h3⟩ := hs.form
  obtain ⟨a, rfl, hc⟩ := h3 n (by omega)
  have hne : (xs.getD n ByteArray.empty).toList = [] := by
    have e : xs.getD n ByteArray.empty = ByteArray.empty := by simpa [keyed] using q
    rw [e]; exact nil_text
  have hne2 : (xs.getD n ByteArray.empty).toList.isEmpty = true := by rw [hne]; rfl
  have HC := hide (covR_both xs n hn q)
  have L1 := covR_len xs (2 * (n : Int) + 1)
  have L2 := covR_len xs (2 * (n : Int) + 2)
  have I1 := hide ih1
  have I2 := hide ih2
  have hn2 : (n : Int) < 15 := by omega
  clear q h3 hs ih1 ih2
  rw [hl] at h1 hR I1 I2 ⊢
  have HL := hide hl
  clear hl
  generalize xs.getD n ByteArray.empty = y at hc hne hne2
  go_enter Try.func28, Try.ntmps28
  go_wp2_with fail
  refine (isThere_yes _ _ (by omega) (by omega)).mono ?_
  rintro e wa ⟨rfl, rfl⟩
  go_wp2_with fail
  refine (under_any _ (by omega) (by omega) _).mono ?_
  rintro e w1 ⟨rfl, hb1⟩
  have HB1 := hide hb1
  clear hb1 hc
  generalize 2 * (n : Int) + 1 = p1 at *
  generalize 2 * (n : Int) + 2 = p2 at *
  go_wp2_with fail
  go_loopw [5, 20] (fun o i wr => ∃ k : Nat, k ≤ 2 ∧ i = .int .i64 (k : Int) ∧ Hid (OwnI wa.heap.size wr o (if k = 0 then [] else if k = 1 then covR xs p1 else covR xs p1 ++ covR xs p2)) ∧ Hid (Below wa.heap.size wa wr)) (fun _ i _ => 2 - (intOf i).toNat)
  case atStart => exact ⟨0, by omega, rfl, World.ownsRow_nil _ _ _ _, HB1⟩
  case round =>
    clear HB1
    obtain ⟨k, hk, rfl, hO, hB⟩ := hrel
    have hle := hB.out.size
    rcases (by omega : k = 0 ∨ k = 1 ∨ k = 2) with rfl | rfl | rfl
    · rw [show ((0 : Nat) : Int) = 0 from rfl]
      have hix := idx_0 p1 p2
      go_wp2_with fail
      refine (unhide I1 _ ((unhide hR).below (unhide hB))).mono ?_
      rintro e w2 ⟨u2, rfl, ho2, hb2⟩
      have N2 := hide ho2.irow.news
      have hO2 : Hid (OwnI wa.heap.size w2 u5 []) := OwnI.below (unhide hO) hb2
      have hB2 := hide ((unhide hB).trans (hb2.mono hle))
      have hle2 := hB2.out.size
      clear hb2 ho2 hO hB
      go_wp2_with (at_builtin; refine wpList_append_row _ rfl _ _ 28 rfl wa.heap.size 3 i0 (.int .i64 0) 1 8 Try.underlying28 (unhide hI).1 (unhide hI).2.1 (unhide hI).2.2.1 (unhide hI).2.2.2 rfl (by decide) _ _ _ rfl (unhide hO2) _ _ _ rfl (unhide N2) (ints_one _) (by unfold maxLen; simp; omega) (by simp; omega) (by omega) ?_)
      intro v3 w3 ho3 hg3
      have R1 : Hid (OwnI wa.heap.size w3 v3 (covR xs p1)) := by
        show OwnI _ _ _ _
        unfold OwnI
        simpa using ho3
      have R2 : Hid (Below wa.heap.size wa w3) := (unhide hB2).grown hg3 hle2 (fun k hk => ((unhide hO2).lt k hk).1)
      clear ho3 hg3 hO2 hB2 N2
      go_wp2_with fail
      go_roundw
      case rel => exact ⟨1, by omega, rfl, R1, R2⟩
      case measure => simp [intOf]
    · rw [show ((1 : Nat) : Int) = 1 from rfl]
      have hO1 : Hid (OwnI wa.heap.size wr u5 (covR xs p1)) := hO
      have hix := idx_1 p1 p2
      go_wp2_with fail
      refine (unhide I2 _ ((unhide hR).below (unhide hB))).mono ?_
      rintro e w2 ⟨u2, rfl, ho2, hb2⟩
      have N2 := hide ho2.irow.news
      have hO2 : Hid (OwnI wa.heap.size w2 u5 (covR xs p1)) := OwnI.below (unhide hO1) hb2
      have hB2 := hide ((unhide hB).trans (hb2.mono hle))
      have hle2 := hB2.out.size
      clear hb2 ho2 hO hB hO1
      go_wp2_with (at_builtin; refine wpList_append_row _ rfl _ _ 28 rfl wa.heap.size 3 i0 (.int .i64 0) 1 8 Try.underlying28 (unhide hI).1 (unhide hI).2.1 (unhide hI).2.2.1 (unhide hI).2.2.2 rfl (by decide) _ _ _ rfl (unhide hO2) _ _ _ rfl (unhide N2) (ints_one _) (by unfold maxLen; omega) (by omega) (by omega) ?_)
      intro v3 w3 ho3 hg3
      have R1 : Hid (OwnI wa.heap.size w3 v3 (covR xs p1 ++ covR xs p2)) := by
        unfold OwnI
        rw [List.length_append, List.map_append]
        exact ho3
      have R2 : Hid (Below wa.heap.size wa w3) := (unhide hB2).grown hg3 hle2 (fun k hk => ((unhide hO2).lt k hk).1)
      clear ho3 hg3 hO2 hB2 N2
      go_wp2_with fail
      go_roundw
      case rel => exact ⟨2, by omega, rfl, R1, R2⟩
      case measure => simp [intOf]
    · rw [show ((2 : Nat) : Int) = 2 from rfl]
      have hO1 : Hid (OwnI wa.heap.size wr u5 (covR xs p1 ++ covR xs p2)) := hO
      go_wp2_with fail
      go_ret
      exact ⟨_, rfl, by rw [HC.out]; exact unhide hO1, unhide hB⟩

theorem coverFrom_any (xs : List ByteArray) (hl : xs.length = 15) (v : Value) (p : Int) : CovC xs v p := by
  by_cases h : 0 ≤ p ∧ p ≤ 14
  · obtain ⟨n, rfl⟩ : ∃ k : Nat, p = (k : Int) := ⟨p.toNat, by omega⟩
    have key : ∀ n : Nat, n < 15 → CovC xs v ((n : Nat) : Int) := by
      apply down (P := fun n => CovC xs v ((n : Nat) : Int))
      · intro n h7 h15
        cases q : keyed xs n with
        | true => exact covC_keyed xs hl v n h15 q
        | false => exact covC_both xs hl v n h15 q (covC_out xs v _ (by omega)) (covC_out xs v _ (by omega))
      · intro n h7 i1 i2
        cases q : keyed xs n with
        | true => exact covC_keyed xs hl v n (by omega) q
        | false =>
          have e1 : 2 * (n : Int) + 1 = ((2 * n + 1 : Nat) : Int) := by omega
          have e2 : 2 * (n : Int) + 2 = ((2 * n + 2 : Nat) : Int) := by omega
          exact covC_both xs hl v n (by omega) q (by rw [e1]; exact i1) (by rw [e2]; exact i2)
    exact key n (by omega)
  · exact covC_out xs v p h
#print axioms coverFrom_any

set_option maxRecDepth 100000 in
set_option maxHeartbeats 2000000 in
theorem iTreCover_any (v : Value) (xs : List ByteArray) (p : Int) (w : World) (h : SRow w v xs) (hx : ∀ x ∈ xs, x.size ≤ maxLen) :
    Calls Try.prog 7 #[.agg #[v], .int .i64 p] w fun e w' => ∃ u, e = .returned u ∧ OwnI w.heap.size w' u (covRes xs p) ∧ Below w.heap.size w w' := by
  obtain ⟨ao, cap, rfl, h1, h2, _⟩ := h.form
  have HX := hide hx
  have hR := hide h
  clear h hx
  go_enter Try.func7, Try.ntmps7
  go_wp2_with fail
  refine (iTreOk_any _ xs _ ((unhide hR).below ((Below.refl _ _).alloc (Nat.le_refl _) _)) (unhide HX)).mono ?_
  rintro e w1 ⟨rfl, hb1⟩
  have A1 := hide (box_below (Boxed.new w 25 (.slice ao xs.length cap)) hb1)
  have HB1 : Hid (Below w.heap.size w w1) := ((Below.refl _ _).alloc (Nat.le_refl _) _).trans (hb1.mono (by simp))
  clear hb1
  have l1 := (unhide A1).cell
  cases hk : treOk xs with
  | false =>
    have HK := hide hk
    clear hk
    go_wp2_with fail
    go_ret
    exact ⟨_, rfl, by unfold covRes; rw [if_neg (by rw [HK.out]; simp)]; exact World.ownsRow_nil _ _ _ _, unhide HB1⟩
  | true =>
    have HK := hide hk
    have HL : Hid (xs.length = 15) := (treOk_iff.1 hk).1
    clear hk
    go_wp2_with fail
    refine (coverFrom_any xs HL.out _ p _ ((unhide hR).below (unhide HB1))).mono ?_
    rintro e w2 ⟨u2, rfl, ho2, hb2⟩
    have O2 := hide ho2
    have HB2 := hide (HB1.out.trans (hb2.mono HB1.out.size))
    clear ho2 hb2
    go_wp2_with fail
    go_ret
    exact ⟨_, rfl, by unfold covRes; rw [if_pos HK.out]; exact row_lowB (unhide O2) HB1.out.size, unhide HB2⟩

set_option maxRecDepth 100000 in
set_option maxHeartbeats 4000000 in
theorem l3Cover_both (xs : List ByteArray) (hl : xs.length = 15) (n : Nat) (h7 : n < 7) (q : keyed xs n = false) (v : Value)
    (ih1 : ∀ w, SRow w v xs → Calls Try.prog 30 #[.agg #[v], .int .i64 ((2 * n + 1 : Nat) : Int)] w (Covers xs (2 * n + 1) w))
    (ih2 : ∀ w, SRow w v xs → Calls Try.prog 30 #[.agg #[v], .int .i64 ((2 * n + 2 : Nat) : Int)] w (Covers xs (2 * n + 2) w))
    (w : World) (h : SRow w v xs) : Calls Try.prog 30 #[.agg #[v], .int .i64 (n : Int)] w (Covers xs n w) := by
  obtain ⟨i0, hi, hz0, hz1, hz2⟩ := info_parts info_int2
  have hI := hide (And.intro hi (And.intro hz0 (And.intro hz1 hz2)))
  clear hi hz0 hz1 hz2
  have hR0 := hide h
  obtain ⟨ao, cap, rfl, h1, h2, h3⟩ := h.form
  obtain ⟨a, rfl, hc0⟩ := h3 n (by omega)
  have hc := (((Below.refl w.heap.size w).alloc (Nat.le_refl _) (Obj.cells #[.slice (some a) xs.length cap] 25)).cell (cell_lt hc0)).trans hc0
  have hne : (xs.getD n ByteArray.empty).toList = [] := by
    have e : xs.getD n ByteArray.empty = ByteArray.empty := by simpa [keyed] using q
    rw [e]; exact nil_text
  have hne2 : (xs.getD n ByteArray.empty).toList.isEmpty = true := by rw [hne]; rfl
  have HC := hide (cover_both xs n q h7)
  have h72 : decide ((7 : Int) ≤ (n : Int)) = false := by simp; omega
  have L1 := (cover_le xs (2 * n + 1) (by omega)).1
  have L2 := (cover_le xs (2 * n + 2) (by omega)).1
  have i1 : IntKind.i64.wrap (2 * (n : Int)) = 2 * (n : Int) := wrap_small _ (by omega) (by omega)
  have i2 : IntKind.i64.wrap (2 * (n : Int) + 1) = ((2 * n + 1 : Nat) : Int) := by rw [wrap_small _ (by omega) (by omega)]; omega
  have i3 : IntKind.i64.wrap (2 * (n : Int) + 2) = ((2 * n + 2 : Nat) : Int) := by rw [wrap_small _ (by omega) (by omega)]; omega
  have I1 := hide ih1
  have I2 := hide ih2
  clear q h3 hc0 h ih1 ih2
  rw [hl] at h1 hc hR0 I1 I2 ⊢
  have HL := hide hl
  clear hl
  generalize xs.getD n ByteArray.empty = y at hc hne hne2
  have hA := hide (Boxed.new w 25 (.slice (some a) 15 cap))
  have hR : Hid (SRow (w.alloc (.cells #[.slice (some a) 15 cap] 25)) (.slice (some a) 15 cap) xs) := (unhide hR0).below ((Below.refl _ _).alloc (Nat.le_refl _) _)
  have hB0 : Hid (Below w.heap.size w (w.alloc (.cells #[.slice (some a) 15 cap] 25))) := (Below.refl _ _).alloc (Nat.le_refl _) _
  generalize 2 * n + 1 = n1 at *
  generalize 2 * n + 2 = n2 at *
  go_enter Try.func30, Try.ntmps30
  go_wp2_with fail
  refine wp_region_ord (Below (w.heap.size + 1)) (by kernel_rfl) ?_
  refine ord_take (belowPre (w.heap.size + 1)) (i := 0) (d := 16) (v := ?_) (by kernel_rfl) (by kernel_rfl) (by kernel_rfl) (by kernel_rfl) (fun _ _ _ h => h) (fun oi hoi => ?_) ?_
  rotate_left
  · simp at hoi
    subst hoi
    refine ⟨by rfl, fun w' hw' => ?_⟩
    have hx := (box_below0 (w := (w.alloc (.cells #[.slice (some a) 15 cap] 25)).drew) (unhide hA) hw' (by omega)).cell
    go_simp
    all_goals rfl
  try simp only [Act.put, List.setIfInBounds_toArray, List.set_cons_zero, List.set_cons_succ]
  refine ord_take (belowPre (w.heap.size + 1)) (i := 1) (d := 17) (v := ?_) (by kernel_rfl) (by kernel_rfl) (by kernel_rfl) (by kernel_rfl) (fun _ _ _ h => h) (fun oi hoi => ?_) ?_
  rotate_left
  · simp at hoi
    subst hoi
    refine ⟨by rfl, fun w' hw' => ?_⟩
    go_simp
    all_goals rfl
  try simp only [Act.put, List.setIfInBounds_toArray, List.set_cons_zero, List.set_cons_succ]
  refine ord_take (belowPre (w.heap.size + 1)) (i := 2) (d := 18) (v := ?_) (by kernel_rfl) (by kernel_rfl) (by kernel_rfl) (by kernel_rfl) (fun _ _ _ h => h) (fun oi hoi => ?_) ?_
  rotate_left
  · simp at hoi
    subst hoi
    refine ⟨by rfl, fun w' hw' => ?_⟩
    go_simp
    all_goals rfl
  try simp only [Act.put, List.setIfInBounds_toArray, List.set_cons_zero, List.set_cons_succ]
  refine ord_take (belowPre (w.heap.size + 1)) (i := 3) (d := 19) (v := ?_) (by kernel_rfl) (by kernel_rfl) (by kernel_rfl) (by kernel_rfl) (fun _ _ _ h => h) (fun oi hoi => ?_) ?_
  rotate_left
  · simp at hoi
    subst hoi
    refine ⟨by rfl, fun w' hw' => ?_⟩
    go_simp
    all_goals rfl
  try simp only [Act.put, List.setIfInBounds_toArray, List.set_cons_zero, List.set_cons_succ]
  refine ord_take (belowPre (w.heap.size + 1)) (i := 5) (d := 21) (v := ?_) (by kernel_rfl) (by kernel_rfl) (by kernel_rfl) (by kernel_rfl) (fun _ _ _ h => h) (fun oi hoi => ?_) ?_
  rotate_left
  · simp at hoi
    subst hoi
    refine ⟨by rfl, fun w' hw' => ?_⟩
    have hx := (box_below0 (w := (w.alloc (.cells #[.slice (some a) 15 cap] 25)).drew) (unhide hA) hw' (by omega)).cell
    go_simp
    all_goals rfl
  try simp only [Act.put, List.setIfInBounds_toArray, List.set_cons_zero, List.set_cons_succ]
  refine ord_take (belowPre (w.heap.size + 1)) (i := 6) (d := 22) (v := ?_) (by kernel_rfl) (by kernel_rfl) (by kernel_rfl) (by kernel_rfl) (fun _ _ _ h => h) (fun oi hoi => ?_) ?_
  rotate_left
  · simp at hoi
    subst hoi
    refine ⟨by rfl, fun w' hw' => ?_⟩
    go_simp
    all_goals rfl
  try simp only [Act.put, List.setIfInBounds_toArray, List.set_cons_zero, List.set_cons_succ]
  refine ord_take (belowPre (w.heap.size + 1)) (i := 7) (d := 23) (v := ?_) (by kernel_rfl) (by kernel_rfl) (by kernel_rfl) (by kernel_rfl) (fun _ _ _ h => h) (fun oi hoi => ?_) ?_
  rotate_left
  · simp at hoi
    subst hoi
    refine ⟨by rfl, fun w' hw' => ?_⟩
    go_simp
    all_goals rfl
  try simp only [Act.put, List.setIfInBounds_toArray, List.set_cons_zero, List.set_cons_succ]
  refine ord_take (belowPre (w.heap.size + 1)) (i := 8) (d := 24) (v := ?_) (by kernel_rfl) (by kernel_rfl) (by kernel_rfl) (by kernel_rfl) (fun _ _ _ h => h) (fun oi hoi => ?_) ?_
  rotate_left
  · simp at hoi
    subst hoi
    refine ⟨by rfl, fun w' hw' => ?_⟩
    go_simp
    all_goals rfl
  try simp only [Act.put, List.setIfInBounds_toArray, List.set_cons_zero, List.set_cons_succ]
  refine ord_one (i := 4) (by kernel_rfl) (fun oi K hoi hK => ?_)
  simp at hoi
  subst hoi
  refine ⟨by rfl, ?_⟩
  go_simp
  refine (unhide I1 _ (unhide hR).drew).mono ?_
  rintro e w2 ⟨u2, rfl, ho2, hb2⟩
  go_simp
  refine hK.out _ _ (hb2.mono (by simp)) ?_
  clear hK
  have O2 := hide ho2
  have HB2 : Hid (Below w.heap.size w w2) := (unhide hB0).drew.trans (hb2.mono (by simp))
  have hs2 := hb2.size
  have R2 := hide ((unhide hR).drew.below hb2)
  clear ho2 hb2
  try simp only [Act.put, List.setIfInBounds_toArray, List.set_cons_zero, List.set_cons_succ]
  refine ord_one (i := 9) (by kernel_rfl) (fun oi K hoi hK => ?_)
  simp at hoi
  subst hoi
  refine ⟨by rfl, ?_⟩
  go_simp
  refine (unhide I2 _ (unhide R2)).mono ?_
  rintro e w3 ⟨u3, rfl, ho3, hb3⟩
  go_simp
  refine hK.out _ _ (hb3.mono (by simp at hs2; omega)) ?_
  clear hK
  have N3 := hide ho3.irow.news
  have O3 := hide (OwnI.below (unhide O2) hb3)
  have HB3 := hide (HB2.out.trans (hb3.mono HB2.out.size))
  have hs3 := hb3.size
  clear ho3 hb3 O2 HB2
  try simp only [Act.put, List.setIfInBounds_toArray, List.set_cons_zero, List.set_cons_succ]
  refine ord_one (i := 10) (by kernel_rfl) (fun oi K hoi hK => ?_)
  simp at hoi
  subst hoi
  refine ⟨by rfl, ?_⟩
  refine wp_append_row _ _ _ 28 rfl (w.heap.size + 1) 3 i0 (.int .i64 0) 1 8 Try.underlying28 (unhide hI).1 (unhide hI).2.1 (unhide hI).2.2.1 (unhide hI).2.2.2 rfl (by decide) _ _ _ rfl (row_lowB (unhide O3) (by simp)) _ _ _ rfl (unhide N3) (ints_one _) (by rw [ints_len, ints_len]; unfold maxLen; omega) (by rw [ints_len, ints_len]; omega) (by simp at hs2; omega) ?_
  intro v4 w4 ho4 hg4
  have R5 : Hid (OwnI w.heap.size w4 v4 (ints (cover xs n1 ++ cover xs n2))) := by
    show OwnI _ _ _ _
    unfold OwnI ints
    rw [List.map_append, List.length_append, List.map_append]
    exact row_lowB ho4 (by omega)
  have HB5 : Hid (Below w.heap.size w w4) := (unhide HB3).grown hg4 HB3.out.size (fun k hk => by have := ((unhide O3).lt k hk).1; simp at this; omega)
  refine hK.out _ _ ((Below.refl _ _).grown hg4 (by simp at hs2; omega) (fun k hk => by have := ((unhide O3).lt k hk).1; simp at this; omega)) ?_
  clear hK ho4 hg4 O3 N3 HB3
  try simp only [Act.put, List.setIfInBounds_toArray, List.set_cons_zero, List.set_cons_succ]
  refine ord_take (belowPre (w.heap.size + 1)) (i := 11) (d := 4) (v := ?_) (by kernel_rfl) (by kernel_rfl) (by kernel_rfl) (by kernel_rfl) (fun _ _ _ h => h) (fun oi hoi => ?_) ?_
  rotate_left
  · simp at hoi
    subst hoi
    refine ⟨by rfl, fun w' hw' => ?_⟩
    go_simp
    all_goals rfl
  try simp only [Act.put, List.setIfInBounds_toArray, List.set_cons_zero, List.set_cons_succ]
  refine later_done (by kernel_rfl) ?_ _
  go_wp2_with fail
  go_ret
  refine ⟨_, rfl, ?_, unhide HB5⟩
  rw [HC.out]
  exact unhide R5

theorem l3Cover_any (xs : List ByteArray) (hl : xs.length = 15) (v : Value) : ∀ n : Nat, n < 15 → ∀ w, SRow w v xs → Calls Try.prog 30 #[.agg #[v], .int .i64 ((n : Nat) : Int)] w (Covers xs n w) := by
  apply down (P := fun n => ∀ w, SRow w v xs → Calls Try.prog 30 #[.agg #[v], .int .i64 ((n : Nat) : Int)] w (Covers xs n w))
  · intro n h7 h15 w h
    cases q : keyed xs n with
    | true => exact cov_keyed xs hl n h15 q v w h
    | false => exact cov_bare xs hl n h7 h15 q v w h
  · intro n h7 i1 i2 w h
    cases q : keyed xs n with
    | true => exact cov_keyed xs hl n (by omega) q v w h
    | false => exact l3Cover_both xs hl n h7 q v i1 i2 w h

set_option maxRecDepth 100000 in
set_option maxHeartbeats 2000000 in
theorem sTreCover_any (v : Value) (xs : List ByteArray) (p : Int) (w : World) (h : SRow w v xs) (hx : ∀ x ∈ xs, x.size ≤ maxLen) :
    Calls Try.prog 9 #[.agg #[v], .int .i64 p] w fun e w' => ∃ u, e = .returned u ∧ OwnI w.heap.size w' u (covRes xs p) ∧ Below w.heap.size w w' := by
  obtain ⟨ao, cap, rfl, h1, h2, _⟩ := h.form
  have HX := hide hx
  have hR := hide h
  clear h hx
  go_enter Try.func9, Try.ntmps9
  go_wp2_with fail
  refine (sTreOk_any _ xs _ ((unhide hR).below ((Below.refl _ _).alloc (Nat.le_refl _) _)) (unhide HX)).mono ?_
  rintro e w1 ⟨rfl, hb1⟩
  have A1 := hide (box_below (Boxed.new w 25 (.slice ao xs.length cap)) hb1)
  have HB1 : Hid (Below w.heap.size w w1) := ((Below.refl _ _).alloc (Nat.le_refl _) _).trans (hb1.mono (by simp))
  have O1 : Hid (OwnI w.heap.size (w1.alloc (.cells #[] 3)) (.slice (some ⟨w1.heap.size, 0, none⟩) 0 0) []) := World.ownsRow_lit (base := w.heap.size) (e := 3) (size := 1) w1 #[] 0 (unhide HB1).size (by unfold maxLen; omega) rfl
  have HB2 : Hid (Below w.heap.size w (w1.alloc (.cells #[] 3))) := (unhide HB1).alloc (unhide HB1).size _
  clear hb1
  have l1 := (unhide A1).cell
  cases hk : treOk xs with
  | false =>
    have HK := hide hk
    clear hk
    go_wp2_with fail
    go_ret
    exact ⟨_, rfl, by unfold covRes; rw [if_neg (by rw [HK.out]; simp)]; exact unhide O1, unhide HB2⟩
  | true =>
    have HK := hide hk
    have HL : Hid (xs.length = 15) := (treOk_iff.1 hk).1
    clear hk
    by_cases hp : 0 ≤ p ∧ p ≤ 14
    · obtain ⟨n, rfl⟩ : ∃ k : Nat, p = (k : Int) := ⟨p.toNat, by omega⟩
      have hn : n < 15 := by omega
      have HE := hide (covR_nat xs n hn)
      clear hp
      go_wp2_with fail
      refine (l1In_yes _ _ _ _ (by omega) (by omega)).mono ?_
      rintro e wa ⟨rfl, rfl⟩
      go_wp2_with fail
      refine (l3Cover_any xs HL.out _ n hn _ ((unhide hR).below (unhide HB1))).mono ?_
      rintro e w2 ⟨u2, rfl, ho2, hb2⟩
      have O2 := hide ho2
      have HB3 := hide (HB1.out.trans (hb2.mono HB1.out.size))
      clear ho2 hb2
      go_wp2_with fail
      go_ret
      exact ⟨_, rfl, by unfold covRes; rw [if_pos HK.out, HE.out]; exact row_lowB (unhide O2) HB1.out.size, unhide HB3⟩
    · have HE := hide (covR_out xs p hp)
      have HP := hide hp
      clear hp
      go_wp2_with fail
      refine (l1In_no _ _ _ _ (by have := HP.out; omega)).mono ?_
      rintro e wa ⟨rfl, rfl⟩
      go_wp2_with fail
      go_ret
      exact ⟨_, rfl, by unfold covRes; rw [if_pos HK.out, HE.out]; exact unhide O1, unhide HB2⟩
#print axioms iTreCover_any
#print axioms sTreCover_any
end Go.Proofs.Ytjmnfdfnndoffaa
