/-
  The program's places: whether one is there, the place over it, the place of one; TreLeaf.
-/
import Derived.Test.YtabpaaahobakpaaGreatFnGrpNewB4
import Derived.Test.YtabpaaahobakpaaGreatFnGrpNewB2
import Derived.Test.YtabpaaahobakpaaGreatFnGrpNewB1
import Derived.RangeFuncBox
import Derived.Deep.RegionHeld3
import Derived.Test.YtabpaaahobakpaaGreatFnGrpNewB3
import Derived.RangeFuncNested
import Derived.RangeFuncBound
import Derived.RangeFuncCalls
import Derived.RangeFuncLeaves
import Derived.Shelf.Abstract
import Derived.Shelf.RegionOpen
import Derived.WalkKit
import Derived.OwnWalkIn
import Derived.TacticsInMore
import Derived.LoopNIn
import Derived.LoopIn
namespace Go.Proofs.YtabpaaahobakpaaGreat
open Go.RowKit

/-- The place under which one lies. -/
def overOf (p : Int) : Int := if 1 ≤ p ∧ p ≤ 14 then (p - 1) / 2 else -1
/-- A place, and all above it. -/
def chainOf (p : Int) : List Int := if 0 ≤ p ∧ p ≤ 14 then p :: upOf p else []
theorem upOf_nat (k : Nat) (h : k < 15) : upOf (k : Int) = (ups k).map (fun (k : Nat) => (k : Int)) := by
  unfold upOf; rw [if_pos (by omega)]; rfl
theorem upOf_chain (p : Int) : upOf p = chainOf (overOf p) := by
  by_cases h : 0 ≤ p ∧ p ≤ 14
  · obtain ⟨k, rfl⟩ : ∃ k : Nat, p = (k : Int) := ⟨p.toNat, by omega⟩
    have hk : k < 15 := by omega
    by_cases h0 : 0 < k
    · have e : overOf (k : Int) = (((k - 1) / 2 : Nat) : Int) := by unfold overOf; rw [if_pos (by omega)]; omega
      rw [e, upOf_nat k hk, ups_step k hk h0]
      unfold chainOf
      rw [if_pos (by omega), upOf_nat _ (by omega)]
      rfl
    · obtain rfl : k = 0 := by omega
      rfl
  · have e : overOf p = -1 := by unfold overOf; rw [if_neg (by omega)]
    rw [e]
    unfold upOf
    rw [if_neg h]
    rfl
theorem chain_cons (p : Int) (h : 0 ≤ p ∧ p ≤ 14) : chainOf p = p :: chainOf (overOf p) := by
  rw [← upOf_chain]; unfold chainOf; rw [if_pos h]
theorem chain_nil (p : Int) (h : ¬ (0 ≤ p ∧ p ≤ 14)) : chainOf p = [] := by unfold chainOf; rw [if_neg h]
theorem over_lt (p : Int) (h : 0 ≤ p) : overOf p < p ∧ -1 ≤ overOf p := by unfold overOf; split <;> omega
theorem over_wrap (p : Int) (h0 : 1 ≤ p) (h : p ≤ 14) : IntKind.i64.wrap (p - 1) = p - 1 ∧ IntKind.i64.wrap ((p - 1).tdiv 2) = overOf p := by
  constructor
  · simp [IntKind.wrap, IntKind.bits, IntKind.signed]; omega
  · rw [Int.tdiv_eq_ediv_of_nonneg (by omega)]
    unfold overOf
    rw [if_pos ⟨h0, h⟩]
    simp [IntKind.wrap, IntKind.bits, IntKind.signed]
    omega

set_option maxHeartbeats 400000 in
theorem isThere_yes (n : Int) (w : World) (h0 : 0 ≤ n) (h1 : n < 15) :
    Calls Tryz.prog 167 #[.int .i64 n] w fun e w' => e = .returned (.bool true) ∧ w' = w := by
  go_enter Tryz.func167, Tryz.ntmps167
  go_wp2
  go_ret
  exact ⟨rfl, rfl⟩

set_option maxHeartbeats 400000 in
theorem isThere_no (n : Int) (w : World) (h : n < 0 ∨ 15 ≤ n) :
    Calls Tryz.prog 167 #[.int .i64 n] w fun e w' => e = .returned (.bool false) ∧ w' = w := by
  rcases h with h | h
  · go_enter Tryz.func167, Tryz.ntmps167
    go_wp2
    go_ret
    exact ⟨rfl, rfl⟩
  · have h' : 0 ≤ n := by omega
    have h2 : decide (n < 15) = false := by simp; omega
    go_enter Tryz.func167, Tryz.ntmps167
    go_wp2
    go_ret
    exact ⟨rfl, rfl⟩

set_option maxHeartbeats 1000000 in
theorem over_any (p : Int) (w : World) : Calls Tryz.prog 168 #[.int .i64 p] w fun e w' => e = .returned (.int .i64 (overOf p)) ∧ w' = w := by
  by_cases h : 0 ≤ p ∧ p ≤ 14
  · by_cases h0 : p = 0
    · subst h0
      have e : overOf 0 = -1 := rfl
      rw [e]
      clear e h
      go_enter Tryz.func168, Tryz.ntmps168
      go_wp2_with fail
      refine (isThere_yes _ _ (by omega) (by omega)).mono ?_
      rintro e w1 ⟨rfl, rfl⟩
      go_wp2_with fail
      go_ret
      exact ⟨rfl, rfl⟩
    · obtain ⟨i1, i2⟩ := over_wrap p (by omega) h.2
      have hz : (p == 0) = false := by simp; exact h0
      generalize overOf p = q at i2
      have hh := hide h
      clear h
      go_enter Tryz.func168, Tryz.ntmps168
      go_wp2_with fail
      refine (isThere_yes _ _ (hh.out.1) (by have := hh.out; omega)).mono ?_
      rintro e w1 ⟨rfl, rfl⟩
      go_wp2_with fail
      go_ret
      exact ⟨rfl, rfl⟩
  · have e : overOf p = -1 := by unfold overOf; rw [if_neg (by omega)]
    rw [e]
    have hh := hide h
    clear e h
    go_enter Tryz.func168, Tryz.ntmps168
    go_wp2_with fail
    refine (isThere_no _ _ (by have := hh.out; omega)).mono ?_
    rintro e w1 ⟨rfl, rfl⟩
    go_wp2_with fail
    go_ret
    exact ⟨rfl, rfl⟩

set_option maxHeartbeats 400000 in
theorem placeOf_any (who : Int) (w : World) : Calls Tryz.prog 54 #[.int .i64 who] w fun e w' => e = .returned (.int .i64 (leafOf who)) ∧ w' = w := by
  by_cases h : 0 ≤ who ∧ who ≤ 7
  · have hl : leafOf who = 7 + who := by unfold leafOf; rw [if_pos h]
    rw [hl]
    have hh := hide h
    have i3 : IntKind.i64.wrap (7 + who) = 7 + who := by simp [IntKind.wrap, IntKind.bits, IntKind.signed]; omega
    clear hl h
    go_enter Tryz.func54, Tryz.ntmps54
    go_wp2_with fail
    refine (isOne_yes _ _ hh.out.1 (by have := hh.out; omega)).mono ?_
    rintro e w1 ⟨rfl, rfl⟩
    go_wp2_with fail
    go_ret
    exact ⟨rfl, rfl⟩
  · have hl : leafOf who = -1 := by unfold leafOf; rw [if_neg h]
    rw [hl]
    have hh := hide h
    clear hl h
    go_enter Tryz.func54, Tryz.ntmps54
    go_wp2_with fail
    refine (isOne_no _ _ (by have := hh.out; omega)).mono ?_
    rintro e w1 ⟨rfl, rfl⟩
    go_wp2_with fail
    go_ret
    exact ⟨rfl, rfl⟩
end Go.Proofs.YtabpaaahobakpaaGreat
/-
  Rows of secrets with their places (MemOwn).
-/
namespace Go.Proofs.YtabpaaahobakpaaGreat
open Go.RowKit Go.Shelf

abbrev Mo := Int × ByteArray
def noMo : Mo := (0, ByteArray.empty)
theorem info_mo : (Tryz.prog.info? 134).map (fun i => (i.zero, i.size, i.bytes)) = some (some (.agg #[.int .i64 0, .string ⟨#[]⟩]), 2, 24) := by kernel_rfl
theorem underMo : Tryz.prog.underlying 40 = some (.slice 134) := by kernel_rfl

/-- A slice holds these: each a place, and a secret. -/
def MRow (w : World) (v : Value) (bs : List Mo) : Prop :=
  ∃ (ao : Option Addr) (cap : Nat), v = .slice ao bs.length cap ∧ bs.length ≤ cap ∧ cap ≤ maxLen ∧ ∀ i, i < bs.length → ∃ a, ao = some a ∧ w.cell? (a.add (i * 2)) = some (.int .i64 (bs.getD i noMo).1) ∧ w.cell? ((a.add (i * 2)).add 1) = some (.string (bs.getD i noMo).2)
theorem MRow.below {w w' : World} {v : Value} {bs : List Mo} (h : MRow w v bs) (hb : Below w.heap.size w w') : MRow w' v bs := by
  obtain ⟨ao, cap, h1, h2, h3, h4⟩ := h
  refine ⟨ao, cap, h1, h2, h3, fun i hi => ?_⟩
  obtain ⟨a, q1, q2, q3⟩ := h4 i hi
  exact ⟨a, q1, (hb.cell (cell_lt q2)).trans q2, (hb.cell (cell_lt q3)).trans q3⟩
theorem add_oneM (x : Addr) : x.add 1 = ⟨x.block, x.off + 1, none⟩ := Addr.add_succ' x 0
theorem MRow.form {w : World} {v : Value} {bs : List Mo} (h : MRow w v bs) :
    ∃ (ao : Option Addr) (cap : Nat), v = .slice ao bs.length cap ∧ bs.length ≤ cap ∧ cap ≤ maxLen ∧ ∀ i, i < bs.length → ∃ a, ao = some a ∧ w.cell? (a.add (i * 2)) = some (.int .i64 (bs.getD i noMo).1) ∧ w.cell? ⟨(a.add (i * 2)).block, (a.add (i * 2)).off + 1, none⟩ = some (.string (bs.getD i noMo).2) := by
  obtain ⟨ao, cap, h1, h2, h3, h4⟩ := h
  refine ⟨ao, cap, h1, h2, h3, fun i hi => ?_⟩
  obtain ⟨a, q1, q2, q3⟩ := h4 i hi
  exact ⟨a, q1, q2, by rw [← add_oneM]; exact q3⟩
/-- Cell by cell. -/
def mcells (bs : List Mo) : List Value := bs.flatMap fun b => [.int .i64 b.1, .string b.2]
theorem mcells_snoc (bs : List Mo) (b : Mo) : mcells (bs ++ [b]) = mcells bs ++ [.int .i64 b.1, .string b.2] := by simp [mcells]
theorem mcells_get : ∀ (bs : List Mo) (i : Nat), i < bs.length → (mcells bs)[i * 2]? = some (.int .i64 (bs.getD i noMo).1) ∧ (mcells bs)[i * 2 + 1]? = some (.string (bs.getD i noMo).2)
  | [], i, h => absurd h (Nat.not_lt_zero _)
  | b :: bs, 0, _ => by simp [mcells]
  | b :: bs, i + 1, h => by
    have := mcells_get bs i (by simpa using h)
    rw [show (i + 1) * 2 = i * 2 + 1 + 1 by omega]
    simpa [mcells] using this

/-- A slice of the call's own holds these. -/
def OwnM (B : Nat) (w : World) (v : Value) (bs : List Mo) : Prop := w.ownsRow B 134 2 v bs.length (mcells bs)
theorem OwnM.mrow {B : Nat} {w : World} {v : Value} {bs : List Mo} (h : OwnM B w v bs) : MRow w v bs := by
  rcases h.2 with ⟨h1, h2⟩ | ⟨g, cap, cur, h1, h2, h3, h4, h5, _⟩
  · exact ⟨none, 0, by rw [h1, h2], by omega, by omega, fun i hi => by omega⟩
  · refine ⟨some ⟨g, 0, none⟩, cap, h1, h4, h5, fun i hi => ?_⟩
    have hc := World.ownsRow.cells h (g := g) (by rw [h1]; rfl)
    obtain ⟨p1, p2⟩ := mcells_get bs i hi
    refine ⟨_, rfl, hc _ _ p1, ?_⟩
    rw [Addr.add_lit, Addr.add_lit, Nat.zero_add]
    have := hc _ _ p2
    rw [Addr.add_lit, Nat.zero_add] at this
    exact this
/-- Rows of two types lie apart. -/
theorem row_apart {w : World} {B B' : Nat} {e e' : TypeId} {size size' : Nat} {v v' : Value} {n n' : Nat} {xs xs' : List Value} (h : w.ownsRow B e size v n xs) (k : w.ownsRow B' e' size' v' n' xs') (hne : e ≠ e') : v.ownBlock = none ∨ v.ownBlock ≠ v'.ownBlock := by
  rcases h.2 with ⟨rfl, _⟩ | ⟨g, cap, cur, rfl, _, hgb, _⟩
  · exact .inl rfl
  · rcases k.2 with ⟨rfl, _⟩ | ⟨g', cap', cur', rfl, _, hgb', _⟩
    · exact .inr (by simp [Value.ownBlock])
    · refine .inr (fun q => ?_)
      obtain rfl : g = g' := by simpa [Value.ownBlock] using q
      have := hgb.symm.trans hgb'
      simp at this
      exact hne this.2

/-- Secrets made one from the other, at places. -/
def pathOf : List Int → ByteArray → List Mo
  | [], _ => []
  | p :: ps, s => (p, s) :: pathOf ps (mkNext s)
theorem pathOf_len : ∀ (ps : List Int) (s : ByteArray), (pathOf ps s).length = ps.length
  | [], _ => rfl
  | _ :: ps, s => by simp [pathOf, pathOf_len ps]
theorem pathOf_snoc : ∀ (ps : List Int) (x : Int) (s : ByteArray), pathOf (ps ++ [x]) s = pathOf ps s ++ [(x, nextN s ps.length)]
  | [], _, _ => rfl
  | p :: ps, x, s => by
    show (p, s) :: pathOf (ps ++ [x]) (mkNext s) = (p, s) :: (pathOf ps (mkNext s) ++ _)
    rw [pathOf_snoc ps, nextN_in]
    rfl
end Go.Proofs.YtabpaaahobakpaaGreat
/-
  One in a group, as a value and in memory.
-/
namespace Go.Proofs.YtabpaaahobakpaaGreat
open Go.RowKit

/-- One in a group. -/
structure Mem where
  inn : Bool
  who : Int
  keys : List ByteArray
  own : List Mo
  ep : Int
  init : ByteArray
  tag : ByteArray
deriving DecidableEq
/-- None. -/
def Mem.none : Mem := ⟨false, 0, [], [], 0, ⟨#[]⟩, ⟨#[]⟩⟩

/-- Its cells. -/
abbrev memC (i : Bool) (who : Int) (ks os : Value) (ep : Int) (init tag : ByteArray) : Array Value := #[.bool i, .int .i64 who, ks, os, .int .i64 ep, .string init, .string tag]
abbrev noMem : Array Value := memC false 0 (.slice none 0 0) (.slice none 0 0) 0 ⟨#[]⟩ ⟨#[]⟩
abbrev Mem.cells (m : Mem) (ks os : Value) : Array Value := memC m.inn m.who ks os m.ep m.init m.tag
/-- A value is one in a group, its rows to be read. -/
def MemR (w : World) (v : Value) (m : Mem) : Prop := ∃ ks os, v = .agg (m.cells ks os) ∧ SRow w ks m.keys ∧ MRow w os m.own
/-- A value is one in a group, its rows the call's own. -/
def MemO (B : Nat) (w : World) (v : Value) (m : Mem) : Prop := ∃ ks os, v = .agg (m.cells ks os) ∧ Own B w ks m.keys ∧ OwnM B w os m.own
theorem MemR.below {w w' : World} {v : Value} {m : Mem} (h : MemR w v m) (hb : Below w.heap.size w w') : MemR w' v m := by
  obtain ⟨ks, os, h1, h2, h3⟩ := h
  exact ⟨ks, os, h1, h2.below hb, h3.below hb⟩
theorem MemO.row {B : Nat} {w : World} {v : Value} {m : Mem} (h : MemO B w v m) : MemR w v m := by
  obtain ⟨ks, os, h1, h2, h3⟩ := h
  exact ⟨ks, os, h1, h2.srow, h3.mrow⟩
theorem MemO.below {B : Nat} {w w' : World} {v : Value} {m : Mem} (h : MemO B w v m) (hb : Below w.heap.size w w') : MemO B w' v m := by
  obtain ⟨ks, os, h1, h2, h3⟩ := h
  exact ⟨ks, os, h1, Own.below h2 hb, own_below' h3 hb⟩
theorem MemO.none (B : Nat) (w : World) : MemO B w (.agg noMem) Mem.none := ⟨_, _, rfl, World.ownsRow_nil _ _ _ _, World.ownsRow_nil _ _ _ _⟩
/-- Its two rows lie between two numbers. -/
def MemIn (lo hi : Nat) (w : World) (ks os : Value) (keys : List ByteArray) (own : List Mo) : Prop := RowIn lo hi 9 1 w ks keys.length (keys.map Value.string) ∧ RowIn lo hi 134 2 w os own.length (mcells own)
theorem MemIn.of {B : Nat} {w : World} {ks os : Value} {keys : List ByteArray} {own : List Mo} (h : Own B w ks keys) (k : OwnM B w os own) : MemIn B w.heap.size w ks os keys own := ⟨RowIn.of h, RowIn.of k⟩
theorem MemIn.below {lo hi : Nat} {w w' : World} {ks os : Value} {keys : List ByteArray} {own : List Mo} (h : MemIn lo hi w ks os keys own) (hb : Below w.heap.size w w') : MemIn lo hi w' ks os keys own := ⟨h.1.below hb, h.2.below hb⟩
theorem MemIn.grown {lo hi : Nat} {w w' : World} {ks os : Value} {keys : List ByteArray} {own : List Mo} {r : Option Nat} (h : MemIn lo hi w ks os keys own) (hg : w.grownBy w' r) (hr : ∀ k, r = some k → k < lo ∨ hi ≤ k) : MemIn lo hi w' ks os keys own := ⟨h.1.grown hg hr, h.2.grown hg hr⟩
theorem MemIn.srow {lo hi : Nat} {w : World} {ks os : Value} {keys : List ByteArray} {own : List Mo} (h : MemIn lo hi w ks os keys own) : SRow w ks keys := own_srow h.1.1
theorem MemIn.mrow {lo hi : Nat} {w : World} {ks os : Value} {keys : List ByteArray} {own : List Mo} (h : MemIn lo hi w ks os keys own) : MRow w os own := OwnM.mrow h.2.1

theorem info_mm : (Tryz.prog.info? 42).map (·.size) = some 7 := by kernel_rfl
theorem one_mm (i : Bool) (who : Int) (a : Option Addr) (l c : Nat) (a' : Option Addr) (l' c' : Nat) (ep : Int) (init tag : ByteArray) : (memC i who (.slice a l c) (.slice a' l' c') ep init tag).all (·.oneCell') = true := by simp [Value.oneCell']
theorem load_mm {w : World} {b : Nat} {cs : Array Value} (h : Blk w b 42 cs) (hc : cs.size = 7) : (loadVar 42 ⟨b, 0, none⟩).run Tryz.prog w = .ok (.agg cs) w :=
  run_loadVar_row w b _ _ cs (0, 0) _ h Tryz.underlying42 rfl (by rw [hc]; exact info_mm)
end Go.Proofs.YtabpaaahobakpaaGreat
/-
  The laws' own look whether two rows of texts are the same.
-/
namespace Go.Proofs.YtabpaaahobakpaaGreat
open Go.RowKit

end Go.Proofs.YtabpaaahobakpaaGreat
/-
  The laws' own marks: texts that are written into rows, and looked up again.
-/
namespace Go.Proofs.YtabpaaahobakpaaGreat
open Go.RowKit

/-- The digits of a number, ahead of some. -/
def mtd (k : Nat) (t : ByteArray) : ByteArray := if _h : k = 0 then t else mtd (k / 10) (by1 (48 + k % 10) ++ t)
termination_by k
decreasing_by omega
/-- The mark of a number. -/
def mt (k : Nat) : ByteArray := ⟨#[109]⟩ ++ mtd k ⟨#[]⟩

end Go.Proofs.YtabpaaahobakpaaGreat
/-
  The laws' own marks: texts that are looked up again.
-/
namespace Go.Proofs.YtabpaaahobakpaaGreat
open Go.RowKit

end Go.Proofs.YtabpaaahobakpaaGreat
/-
  The laws' own helpers over secrets with their places: whether two rows are the same; marks in one, looked up again.
-/
namespace Go.Proofs.YtabpaaahobakpaaGreat
open Go.RowKit

end Go.Proofs.YtabpaaahobakpaaGreat
/-
  The laws' own helpers over trees: whether two are the same; marks in one, looked up again.
-/
namespace Go.Proofs.YtabpaaahobakpaaGreat
open Go.RowKit

theorem SRow.alloc {w : World} {v : Value} {xs : List ByteArray} (h : SRow w v xs) (o : Obj) : SRow (w.alloc o) v xs := h.below ((Below.refl _ _).alloc (Nat.le_refl _) _)

end Go.Proofs.YtabpaaahobakpaaGreat
/-
  The laws' own helpers over one in a group: whether two are the same; marks in one, looked up again.
-/
namespace Go.Proofs.YtabpaaahobakpaaGreat
open Go.RowKit

end Go.Proofs.YtabpaaahobakpaaGreat
/-
  Whether seats, and windows of nothing, are the same; marks in windows of nothing.
-/
namespace Go.Proofs.YtabpaaahobakpaaGreat
open Go.RowKit

/-- Seats that can be read. -/
def SeatP (w : World) (v : Value) (ms : List Mem) : Prop :=
  ∃ (g c : Nat), v = .slice (some ⟨g, 0, none⟩) ms.length c ∧ ∀ (k : Nat) (m : Mem), ms[k]? = some m → ∃ ks os, (∀ (n : Nat) (u : Value), (m.cells ks os)[n]? = some u → w.cell? ⟨g, k * 7 + n, none⟩ = some u) ∧ SRow w ks m.keys ∧ MRow w os m.own
theorem SeatP.below {w w' : World} {v : Value} {ms : List Mem} (h : SeatP w v ms) (hb : Below w.heap.size w w') : SeatP w' v ms := by
  obtain ⟨g, c, h1, h2⟩ := h
  refine ⟨g, c, h1, fun k m hm => ?_⟩
  obtain ⟨ks, os, c1, c2, c3⟩ := h2 k m hm
  exact ⟨ks, os, fun n u hu => (hb.cell (cell_lt (c1 n u hu))).trans (c1 n u hu), c2.below hb, c3.below hb⟩
/-- Windows of nothing, so many. -/
def WinE (w : World) (v : Value) (n : Nat) : Prop := ∃ (g c : Nat), v = .slice (some ⟨g, 0, none⟩) n c ∧ ∀ k, k < n → ∃ (a : Option Addr) (d : Nat), w.cell? ⟨g, k, none⟩ = some (.slice a 0 d)
theorem WinE.below {w w' : World} {v : Value} {n : Nat} (h : WinE w v n) (hb : Below w.heap.size w w') : WinE w' v n := by
  obtain ⟨g, c, h1, h2⟩ := h
  refine ⟨g, c, h1, fun k hk => ?_⟩
  obtain ⟨a, d, h3⟩ := h2 k hk
  exact ⟨a, d, (hb.cell (cell_lt h3)).trans h3⟩

end Go.Proofs.YtabpaaahobakpaaGreat
/-
  The laws' own looks over rows of numbers: whether two are the same, whether a number is one of some.
-/
namespace Go.Proofs.YtabpaaahobakpaaGreat
open Go.RowKit

theorem ints_eq {xs ys : List Int} (hl : xs.length = ys.length) (h : ∀ j, j < xs.length → xs.getD j 0 = ys.getD j 0) : xs = ys := by
  apply List.ext_getElem hl
  intro i h1 h2
  have := h i h1
  rw [List.getD_eq_getElem?_getD, List.getElem?_eq_getElem h1, List.getD_eq_getElem?_getD, List.getElem?_eq_getElem h2] at this
  exact this
theorem getI_mem {xs : List Int} {k : Nat} (h : k < xs.length) : xs.getD k 0 ∈ xs := by
  rw [List.getD_eq_getElem?_getD, List.getElem?_eq_getElem h]
  exact List.getElem_mem h

set_option maxHeartbeats 1000000 in
theorem keInts_any (v u : Value) (xs ys : List Int) (w : World) (h : IRow w v xs) (k : IRow w u ys) :
    Calls Tryz.prog 11 #[v, u] w fun e w' => e = .returned (.bool (decide (xs = ys))) ∧ Below w.heap.size w w' := by
  obtain ⟨ao, cap, rfl, h1, h2, hc⟩ := h.form
  obtain ⟨bo, cap', rfl, h1', h2', hc'⟩ := k.form
  have hR := hide h
  have hS := hide k
  unfold maxLen at h2 h2'
  clear h k hc hc'
  by_cases hl : xs.length = ys.length
  · rw [← hl] at hS h1' ⊢
    have HL := hide hl
    clear hl
    go_enter Tryz.func11, Tryz.ntmps11
    go_wp2_with fail
    go_loopw [5] (fun i wr => ∃ k : Nat, k ≤ xs.length ∧ i = .int .i64 (k : Int) ∧ Hid (∀ j, j < k → xs.getD j 0 = ys.getD j 0) ∧ Hid (Below w.heap.size w wr)) (fun i _ => xs.length - (intOf i).toNat)
    case atStart => exact ⟨0, by omega, rfl, fun j hj => by omega, Below.refl _ _⟩
    case round =>
      obtain ⟨k, hk, rfl, hN, hL⟩ := hrel
      by_cases hlt : k < xs.length
      · have hlt2 : (k : Int) < (xs.length : Int) := by omega
        obtain ⟨ao', c1, q1, _, _, q2⟩ := (IRow.below (unhide hR) (unhide hL)).form
        simp only [Value.slice.injEq] at q1
        obtain ⟨rfl, _, rfl⟩ := q1
        obtain ⟨bo', c2, q3, _, _, q4⟩ := (IRow.below (unhide hS) (unhide hL)).form
        simp only [Value.slice.injEq] at q3
        obtain ⟨rfl, z3, rfl⟩ := q3
        clear z3
        obtain ⟨a, rfl, hck⟩ := q2 k hlt
        obtain ⟨b, rfl, hck'⟩ := q4 k (by have := HL.out; omega)
        clear q2 q4
        have i3 : IntKind.i64.wrap ((k : Int) + 1) = (k : Int) + 1 := by simp [IntKind.wrap, IntKind.bits, IntKind.signed]; omega
        have hYes : Hid (xs.getD k 0 = ys.getD k 0 → ∀ j, j < k + 1 → xs.getD j 0 = ys.getD j 0) := by
          intro ht j hj
          by_cases hjk : j = k
          · subst hjk; exact ht
          · exact hN j (by omega)
        have hNo : Hid (xs.getD k 0 ≠ ys.getD k 0 → decide (xs = ys) = false) := by
          intro ht
          simp
          intro e
          exact ht (by rw [e])
        generalize xs.getD k 0 = y at hck hYes hNo
        generalize ys.getD k 0 = z at hck' hYes hNo
        by_cases he : y = z
        · have hN1 := hide (hYes.out he)
          subst he
          go_wp2_with fail
          go_quiet (fail)
          go_wp2_with fail
          go_roundw
          case rel => exact ⟨k + 1, by omega, by simp, hN1, below_drewN (unhide hL) _⟩
          case measure => simp [intOf]; omega
        · have hE := hNo.out he
          have hnk : (y == z) = false := by simpa using he
          have hnk2 : (y != z) = true := by simpa using he
          go_wp2_with fail
          go_quiet (fail)
          go_wp2_with fail
          go_ret
          exact ⟨ret_bool' hE.symm, below_drewN (unhide hL) _⟩
      · have hlt2 : decide ((k : Int) < (xs.length : Int)) = false := by simp; omega
        have hE : decide (xs = ys) = true := by
          simp
          exact ints_eq HL.out (fun j hj => hN j (by omega))
        go_wp2_with fail
        go_ret
        exact ⟨ret_bool' hE.symm, unhide hL⟩
  · have hl2 : ((xs.length : Int) == (ys.length : Int)) = false := by simp; omega
    have hE : decide (xs = ys) = false := by
      simp
      intro e
      exact hl (by rw [e])
    go_enter Tryz.func11, Tryz.ntmps11
    go_wp2_with fail
    go_ret
    exact ⟨ret_bool' hE.symm, Below.refl _ _⟩

end Go.Proofs.YtabpaaahobakpaaGreat
/-
  The laws' own look whether two rows of numbers are the same.
-/
namespace Go.Proofs.YtabpaaahobakpaaGreat
open Go.RowKit

end Go.Proofs.YtabpaaahobakpaaGreat
/-
  Rows whose elements are told by a relation over their cells. No Go function in it.
-/
namespace Go.Proofs.YtabpaaahobakpaaGreat
open Go.RowKit

/-- These cells are these elements', one behind the other. -/
def ListR {α : Type} (R : α → List Value → Prop) : List α → List Value → Prop
  | [], cs => cs = []
  | a :: l, cs => ∃ c cs', cs = c ++ cs' ∧ R a c ∧ ListR R l cs'
section
variable {α : Type} {R R' : α → List Value → Prop} {n : Nat}
theorem ListR.mono (h : ∀ a c, R a c → R' a c) : ∀ {l : List α} {cs : List Value}, ListR R l cs → ListR R' l cs
  | [], _, q => q
  | _ :: _, _, ⟨c, cs', e, q1, q2⟩ => ⟨c, cs', e, h _ _ q1, ListR.mono h q2⟩
theorem ListR.len (h : ∀ a c, R a c → c.length = n) : ∀ {l : List α} {cs : List Value}, ListR R l cs → cs.length = l.length * n
  | [], _, q => by rw [show _ = [] from q]; simp
  | _ :: l, _, ⟨c, cs', e, q1, q2⟩ => by rw [e, List.length_append, h _ _ q1, ListR.len h q2, List.length_cons, Nat.succ_mul, Nat.add_comm]
theorem ListR.app : ∀ {l k : List α} {cs ds : List Value}, ListR R l cs → ListR R k ds → ListR R (l ++ k) (cs ++ ds)
  | [], _, _, _, q, p => by rw [show _ = [] from q]; exact p
  | _ :: _, _, _, _, ⟨c, cs', e, q1, q2⟩, p => ⟨c, _, by rw [e, List.append_assoc], q1, ListR.app q2 p⟩
theorem ListR.one {a : α} {c : List Value} (h : R a c) : ListR R [a] c := ⟨c, [], by simp, h, rfl⟩
/-- One of them: its cells. -/
theorem ListR.get (h : ∀ a c, R a c → c.length = n) : ∀ {l : List α} {cs : List Value} (i : Nat) (hi : i < l.length), ListR R l cs → ∃ c, R l[i] c ∧ ∀ j u, c[j]? = some u → cs[i * n + j]? = some u
  | [], _, i, hi, _ => absurd hi (Nat.not_lt_zero _)
  | a :: l, _, 0, _, ⟨c, cs', e, q1, _⟩ => ⟨c, q1, fun j u hj => by
      rw [e, Nat.zero_mul, Nat.zero_add, List.getElem?_append_left (List.getElem?_eq_some_iff.1 hj).1]; exact hj⟩
  | a :: l, _, i + 1, hi, ⟨c, cs', e, q1, q2⟩ => by
    obtain ⟨d, p1, p2⟩ := ListR.get h i (by simpa using hi) q2
    refine ⟨d, p1, fun j u hj => ?_⟩
    have hc := h _ _ q1
    rw [e, List.getElem?_append_right (by rw [hc, Nat.succ_mul]; omega), hc, show (i + 1) * n + j - n = i * n + j by rw [Nat.succ_mul]; omega]
    exact p2 j u hj
/-- One of them anew: its cells overwritten. -/
theorem ListR.set (h : ∀ a c, R a c → c.length = n) {b : α} {d : List Value} (hd : R b d) : ∀ {l : List α} {cs : List Value} (i : Nat), i < l.length → ListR R l cs → ListR R (l.set i b) (cs.take (i * n) ++ d ++ cs.drop (i * n + n))
  | [], _, i, hi, _ => absurd hi (Nat.not_lt_zero _)
  | a :: l, _, 0, _, ⟨c, cs', e, q1, q2⟩ => by
    have hc := h _ _ q1
    rw [e, Nat.zero_mul, Nat.zero_add, List.take_zero, List.nil_append, ← hc, List.drop_left]
    exact ⟨d, cs', rfl, hd, q2⟩
  | a :: l, _, i + 1, hi, ⟨c, cs', e, q1, q2⟩ => by
    have hc := h _ _ q1
    have ih := ListR.set h hd i (by simpa using hi) q2
    refine ⟨c, _, ?_, q1, ih⟩
    rw [e, Nat.succ_mul, List.take_append, List.drop_append, hc, show i * n + n - n = i * n by omega, show i * n + n + n - n = i * n + n by omega, List.take_of_length_le (by omega), List.drop_eq_nil_of_le (by omega)]
    simp
end

/-- No block of some, and there already. -/
def InX (X : List Nat) (w : World) (v : Value) : Prop := ∀ b, v.ownBlock = some b → b < w.heap.size ∧ b ∉ X
end Go.Proofs.YtabpaaahobakpaaGreat
/-
 What covers: l3Cover of the specification.
-/
namespace Go.Proofs.YtabpaaahobakpaaGreat
open Go.RowKit
end Go.Proofs.YtabpaaahobakpaaGreat
/-
  The laws' own helpers over rows of texts: how great one is, a copy of one, whether two are the same.
-/
namespace Go.Proofs.YtabpaaahobakpaaGreat
open Go.RowKit

/-- The first k of some texts, and as many empty ones as there are more. -/
def part (xs : List ByteArray) (k : Nat) : List Value := (xs.take k).map Value.string ++ List.replicate (xs.length - k) (Value.string ⟨#[]⟩)
theorem part_zero (xs : List ByteArray) : part xs 0 = List.replicate xs.length (Value.string ⟨#[]⟩) := by unfold part; simp
theorem part_all (xs : List ByteArray) : part xs xs.length = xs.map Value.string := by unfold part; simp
theorem part_set (xs : List ByteArray) (k : Nat) (h : k < xs.length) : (part xs k).set k (.string (xs.getD k ByteArray.empty)) = part xs (k + 1) := by
  unfold part
  apply List.ext_getElem?
  intro i
  rw [List.getElem?_set]
  simp only [List.length_append, List.length_map, List.length_take, List.length_replicate]
  by_cases hik : k = i
  · subst hik
    rw [if_pos rfl, if_pos (by omega), List.getElem?_append_left (by simp; omega)]
    simp [h]
  · rw [if_neg hik]
    by_cases hlt : i < k
    · rw [List.getElem?_append_left (by simp; omega), List.getElem?_append_left (by simp; omega)]
      simp [hlt, show i < k + 1 by omega]
    · rw [List.getElem?_append_right (by simp; omega), List.getElem?_append_right (by simp; omega)]
      simp only [List.length_map, List.length_take, List.getElem?_replicate]
      congr 1
      simp
      omega

theorem part_at (xs : List ByteArray) (k : Nat) (h : k < xs.length) : (part xs k)[k]? = some (.string ⟨#[]⟩) := by
  unfold part
  rw [List.getElem?_append_right (by simp; omega)]
  simp only [List.length_map, List.length_take, List.getElem?_replicate]
  rw [if_pos (by omega)]

theorem info_str' : (Tryz.prog.info? 9).map (fun i => (i.zero, i.size, i.bytes)) = some (some (.string ⟨#[]⟩), 1, 16) := by kernel_rfl

end Go.Proofs.YtabpaaahobakpaaGreat
/-
  Rows of boxes; the spec's test of one.
-/
namespace Go.Proofs.YtabpaaahobakpaaGreat
open Go.RowKit

abbrev Bx := ByteArray × ByteArray
def noBx : Bx := (ByteArray.empty, ByteArray.empty)

/-- A slice holds these boxes: each its key, and what is in it. -/
def BRow (w : World) (v : Value) (bs : List Bx) : Prop :=
  ∃ (ao : Option Addr) (cap : Nat), v = .slice ao bs.length cap ∧ bs.length ≤ cap ∧ cap ≤ maxLen ∧ ∀ i, i < bs.length → ∃ a, ao = some a ∧ w.cell? (a.add (i * 2)) = some (.string (bs.getD i noBx).1) ∧ w.cell? ((a.add (i * 2)).add 1) = some (.string (bs.getD i noBx).2)

theorem BRow.below {w w' : World} {v : Value} {bs : List Bx} (h : BRow w v bs) (hb : Below w.heap.size w w') : BRow w' v bs := by
  obtain ⟨ao, cap, h1, h2, h3, h4⟩ := h
  refine ⟨ao, cap, h1, h2, h3, fun i hi => ?_⟩
  obtain ⟨a, q1, q2, q3⟩ := h4 i hi
  exact ⟨a, q1, (hb.cell (cell_lt q2)).trans q2, (hb.cell (cell_lt q3)).trans q3⟩

theorem add_one (x : Addr) : x.add 1 = ⟨x.block, x.off + 1, none⟩ := Addr.add_succ' x 0

end Go.Proofs.YtabpaaahobakpaaGreat
/-
  Boxes of the call's own, cell by cell.
-/
namespace Go.Proofs.YtabpaaahobakpaaGreat
open Go.RowKit

/-- Boxes, cell by cell. -/
def bcells (bs : List Bx) : List Value := bs.flatMap fun b => [.string b.1, .string b.2]
end Go.Proofs.YtabpaaahobakpaaGreat
/-
  The spec's places: TreLeaf, TreSide, TreMeet, TreUp.
-/
namespace Go.Proofs.YtabpaaahobakpaaGreat
open Go.RowKit

set_option maxHeartbeats 400000 in
theorem sTreLeaf_any (who : Int) (w : World) :
    Calls Tryz.prog 93 #[.int .i64 who] w fun e w' => e = .returned (.int .i64 (leafOf who)) ∧ w' = w := by
  by_cases h : 0 ≤ who ∧ who ≤ 7
  · obtain ⟨h1, h2⟩ := h
    have hl : leafOf who = 7 + who := by unfold leafOf; rw [if_pos ⟨h1, h2⟩]
    rw [hl]
    have HH := hide hl
    clear hl
    have i3 : IntKind.i64.wrap (7 + who) = 7 + who := by simp [IntKind.wrap, IntKind.bits, IntKind.signed]; omega
    go_enter Tryz.func93, Tryz.ntmps93
    go_wp2_with fail
    refine (l1In_yes _ _ _ _ (by omega) (by omega)).mono ?_
    rintro e w1 ⟨rfl, rfl⟩
    go_wp2_with fail
    go_ret
    exact ⟨rfl, rfl⟩
  · have hl : leafOf who = -1 := by unfold leafOf; rw [if_neg h]
    rw [hl]
    have HH := hide h
    clear hl h
    go_enter Tryz.func93, Tryz.ntmps93
    go_wp2_with fail
    refine (l1In_no _ _ _ _ (by have := HH.out; omega)).mono ?_
    rintro e w1 ⟨rfl, rfl⟩
    go_wp2_with fail
    go_ret
    exact ⟨rfl, rfl⟩

theorem half_wrap (x : Nat) (h0 : 0 < x) (h : x < 15) : IntKind.i64.wrap ((x : Int) - 1) = (x : Int) - 1 ∧ IntKind.i64.wrap (((x : Int) - 1).tdiv 2) = (((x - 1) / 2 : Nat) : Int) := by
  constructor
  · simp [IntKind.wrap, IntKind.bits, IntKind.signed]; omega
  · rw [show ((x : Int) - 1) = ((x - 1 : Nat) : Int) by omega, Int.tdiv_eq_ediv_of_nonneg (by omega)]
    have : ((x - 1 : Nat) : Int) / 2 = (((x - 1) / 2 : Nat) : Int) := by omega
    rw [this]
    simp [IntKind.wrap, IntKind.bits, IntKind.signed]
    omega

set_option maxRecDepth 100000 in
set_option maxHeartbeats 4000000 in
theorem sTreUp_any (n : Int) (w : World) :
    Calls Tryz.prog 139 #[.int .i64 n] w fun e w' => ∃ v, e = .returned v ∧ OwnI w.heap.size w' v (upOf n) ∧ Below w.heap.size w w' := by
  obtain ⟨i0, hi, hz0, hz1, hz2⟩ := info_parts info_int2
  have hI := hide (And.intro hi (And.intro hz0 (And.intro hz1 hz2)))
  clear hi hz0 hz1 hz2
  have hO0 : Hid (OwnI w.heap.size (w.alloc (Obj.cells #[] 3)) (.slice (some ⟨w.heap.size, 0, none⟩) 0 0) []) := by
    have h := World.ownsRow_lit (base := w.heap.size) (e := 3) (size := 1) w #[] 0 (Nat.le_refl _) (by unfold maxLen; omega) rfl
    exact h
  have hL0 := hide ((Below.refl w.heap.size w).alloc (Nat.le_refl _) (Obj.cells #[] 3))
  by_cases h : 0 ≤ n ∧ n ≤ 14
  · obtain ⟨x, rfl⟩ : ∃ k : Nat, n = (k : Int) := ⟨n.toNat, by omega⟩
    have hx : x < 15 := by omega
    have hl : Hid (upOf (x : Int) = (ups x).map (fun (k : Nat) => (k : Int))) := by show upOf (x : Int) = _; unfold upOf; rw [if_pos h]; rfl
    clear h
    go_enter Tryz.func139, Tryz.ntmps139
    go_wp2_with fail
    refine (l1In_yes _ _ _ _ (by omega) (by omega)).mono ?_
    rintro e w1 ⟨rfl, rfl⟩
    go_wp2_with fail
    go_loopw [3, 4] (fun o i wr => ∃ (k : Nat) (out : List Int), k < 15 ∧ i = .int .i64 (k : Int) ∧ Hid (OwnI w.heap.size wr o out) ∧ Hid (Below w.heap.size w wr) ∧ Hid (out ++ (ups k).map (fun (k : Nat) => (k : Int)) = (ups x).map (fun (k : Nat) => (k : Int)))) (fun _ i _ => (intOf i).toNat)
    case atStart => exact ⟨x, [], hx, rfl, hO0, hL0, rfl⟩
    case round =>
      clear hO0 hL0
      obtain ⟨k, out, hk, rfl, hO, hL, hU⟩ := hrel
      have hle := hL.out.size
      have hol : out.length ≤ 3 := by
        have q := congrArg List.length hU.out
        rw [List.length_append, List.length_map, List.length_map] at q
        have := ups_len x hx
        omega
      by_cases h0 : 0 < k
      · have h02 : (0 : Int) < (k : Int) := by omega
        obtain ⟨i1, i2⟩ := half_wrap k h0 hk
        have hs := hide (ups_step k hk h0)
        have hp : (k - 1) / 2 < 15 := by omega
        have hpk : (k - 1) / 2 < k := by omega
        generalize (k - 1) / 2 = p at i2 hs hp hpk
        go_wp2_with (at_builtin; refine wpList_append_own _ rfl _ _ 27 rfl w.heap.size 3 i0 (.int .i64 0) 1 8 Tryz.underlying27 (unhide hI).1 (unhide hI).2.1 (unhide hI).2.2.1 (unhide hI).2.2.2 rfl (by decide) _ _ _ rfl ((unhide hO).alloc _) ⟨wr.heap.size, 0, none⟩ 1 1 [.int .i64 (p : Int)] rfl rfl ?c1 ?c2 ?c3 ?c4 ?c5 ?_)
        case c1 =>
          intro j u hj
          match j, hj with
          | 0, hj => simp at hj; subst hj; simp [Addr.add]
        case c2 => intro u hu; simp at hu; subst hu; rfl
        case c3 => unfold maxLen; omega
        case c4 => omega
        case c5 => simp; omega
        intro v' w7 hown' hgrow _
        have R := OwnI.grow (unhide hO) (unhide hL) (Nat.le_refl _) hown' hgrow
        have R1 := hide R.1
        have R2 := hide R.2
        have R3 : Hid ((out ++ [(p : Int)]) ++ (ups p).map (fun (k : Nat) => (k : Int)) = (ups x).map (fun (k : Nat) => (k : Int))) := by
          show (out ++ [(p : Int)]) ++ _ = _
          rw [← hU.out, hs.out, List.map_cons, List.append_assoc]
          rfl
        clear R hown' hgrow hO hL hU
        go_wp2_with fail
        go_roundw
        case rel => exact ⟨p, out ++ [(p : Int)], hp, rfl, R1, R2, R3⟩
        case measure => simp [intOf]; omega
      · have h02 : decide ((0 : Int) < (k : Int)) = false := by simp; omega
        have hk0 : k = 0 := by omega
        subst hk0
        have hU2 : Hid (out = upOf (x : Int)) := by
          show out = _
          have q := hU.out
          rw [ups_zero, List.map_nil, List.append_nil] at q
          rw [hl.out]
          exact q
        clear hU h0 hk
        go_wp2_with fail
        go_ret
        exact ⟨_, rfl, by rw [← hU2.out]; exact unhide hO, unhide hL⟩
  · have hl : Hid (upOf n = []) := by show upOf n = []; unfold upOf; rw [if_neg h]
    have HH := hide h
    clear h
    go_enter Tryz.func139, Tryz.ntmps139
    go_wp2_with fail
    refine (l1In_no _ _ _ _ (by have := HH.out; omega)).mono ?_
    rintro e w1 ⟨rfl, rfl⟩
    go_wp2_with fail
    go_ret
    exact ⟨_, rfl, by rw [hl.out]; exact unhide hO0, unhide hL0⟩
end Go.Proofs.YtabpaaahobakpaaGreat
/-
  Contracts of MakNext, MakKey and MakEpoch, the program's and the specification's.
-/
namespace Go.Proofs.YtabpaaahobakpaaGreat
open Go.RowKit

theorem cap_yes {x : ByteArray} (h : x.size ≤ 300) : cap x = x := by unfold cap; rw [if_pos h]
theorem cap_no {x : ByteArray} (h : 300 < x.size) : cap x = ⟨#[]⟩ := by unfold cap; rw [if_neg (by omega)]

theorem method_next (x : Value) (w : World) : (method 363 203 x "loop.example/keyward/impl.name").run Tryz.prog w = .ok (219, x) w := by kernel_rfl
theorem method_key (x : Value) (w : World) : (method 363 202 x "loop.example/keyward/impl.name").run Tryz.prog w = .ok (218, x) w := by kernel_rfl
set_option maxHeartbeats 400000 in
theorem nextName_any (s : ByteArray) (w : World) (hs : s.size ≤ 300) :
    Calls Tryz.prog 219 #[.agg #[.string s]] w fun e w' => e = .returned (.string (nextT s)) ∧ Below w.heap.size w w' := by
  go_enter Tryz.func219, Tryz.ntmps219
  go_wp2
  go_ret
  exact ⟨ret_str rfl, (Below.refl _ _).alloc (Nat.le_refl _) _⟩

set_option maxHeartbeats 400000 in
theorem keyName_any (s : ByteArray) (w : World) (hs : s.size ≤ 300) :
    Calls Tryz.prog 218 #[.agg #[.string s]] w fun e w' => e = .returned (.string (keyT s)) ∧ Below w.heap.size w w' := by
  go_enter Tryz.func218, Tryz.ntmps218
  go_wp2
  go_ret
  exact ⟨ret_str rfl, (Below.refl _ _).alloc (Nat.le_refl _) _⟩

set_option maxRecDepth 100000 in
set_option maxHeartbeats 400000 in
theorem nameOf_next (s : ByteArray) (w : World) (hs : s.size ≤ 300) :
    Calls Tryz.prog 87 #[.iface 203 (.agg #[.string s])] w fun e w' => e = .returned (.string (cap (nextT s))) ∧ Below w.heap.size w w' := by
  have hm := method_next
  have hz := next_size s
  by_cases hc : (nextT s).size ≤ 300
  · rw [cap_yes hc]
    have hd : decide ((300 : Int) < ((nextT s).size : Int)) = false := by simp; omega
    clear hz hc
    go_enter Tryz.func87, Tryz.ntmps87
    go_wp2_with (go_at_call 219; refine (nextName_any _ _ hs).mono ?_; rintro e w' ⟨rfl, hb⟩)
    go_ret
    exact ⟨rfl, hb⟩
  · rw [cap_no (by omega)]
    have hd : (300 : Int) < ((nextT s).size : Int) := by omega
    clear hz hc
    go_enter Tryz.func87, Tryz.ntmps87
    go_wp2_with (go_at_call 219; refine (nextName_any _ _ hs).mono ?_; rintro e w' ⟨rfl, hb⟩)
    go_ret
    exact ⟨rfl, hb⟩

set_option maxHeartbeats 400000 in
theorem iMakNext_any (s : ByteArray) (w : World) (hm : s.size ≤ maxLen) :
    Calls Tryz.prog 135 #[.string s] w fun e w' => e = .returned (.string (mkNext s)) ∧ Below w.heap.size w w' := by
  have M := hide hm
  clear hm
  cases hk : Kw.ok s with
  | false =>
    rw [show mkNext s = ⟨#[]⟩ by unfold mkNext; rw [if_neg (by rw [hk]; simp)]]
    have K := hide hk
    clear hk
    go_enter Tryz.func135, Tryz.ntmps135
    go_wp2_with fail
    refine (iSecOk_any s _ M.out).mono ?_
    rw [K.out]
    rintro e w1 ⟨rfl, hb1⟩
    go_wp2_with fail
    go_ret
    exact ⟨rfl, hb1⟩
  | true =>
    rw [show mkNext s = cap (nextT s) by unfold mkNext; rw [if_pos hk]]
    have hs := (ok_facts hk).1
    have K := hide hk
    clear hk
    go_enter Tryz.func135, Tryz.ntmps135
    go_wp2_with fail
    refine (iSecOk_any s _ M.out).mono ?_
    rw [K.out]
    rintro e w1 ⟨rfl, hb1⟩
    go_wp2_with fail
    refine (nameOf_next s _ hs).mono ?_
    rintro e w2 ⟨rfl, hb2⟩
    go_wp2_with fail
    go_ret
    exact ⟨rfl, hb1.trans (hb2.mono hb1.size)⟩

set_option maxHeartbeats 400000 in
theorem sMakNext_any (s : ByteArray) (w : World) (hm : s.size ≤ maxLen) :
    Calls Tryz.prog 140 #[.string s] w fun e w' => e = .returned (.string (mkNext s)) ∧ Below w.heap.size w w' := by
  have M := hide hm
  clear hm
  cases hk : Kw.ok s with
  | false =>
    rw [show mkNext s = ⟨#[]⟩ by unfold mkNext; rw [if_neg (by rw [hk]; simp)]]
    have K := hide hk
    clear hk
    go_enter Tryz.func140, Tryz.ntmps140
    go_wp2_with fail
    refine (sSecOk_any s _ M.out).mono ?_
    rw [K.out]
    rintro e w1 ⟨rfl, hb1⟩
    go_wp2_with fail
    go_ret
    exact ⟨rfl, hb1⟩
  | true =>
    have hz := next_size s
    have hs := (ok_facts hk).1
    rw [show mkNext s = only (nextT s) by unfold mkNext; rw [if_pos hk, only_cap (by omega) (len_next hk)]]
    have M2 : Hid ((nextT s).size ≤ maxLen) := by show _ ≤ maxLen; unfold maxLen; omega
    have K := hide hk
    clear hk hz
    go_enter Tryz.func140, Tryz.ntmps140
    go_wp2_with fail
    refine (sSecOk_any s _ M.out).mono ?_
    rw [K.out]
    rintro e w1 ⟨rfl, hb1⟩
    go_wp2_with fail
    refine (l1Ok_any (nextT s) _ M2.out).mono ?_
    rintro e w2 ⟨rfl, hb2⟩
    go_wp2_with fail
    go_ret
    exact ⟨rfl, hb1.trans (hb2.mono hb1.size)⟩
set_option maxRecDepth 100000 in
set_option maxHeartbeats 400000 in
theorem nameOf_key (s : ByteArray) (w : World) (hs : s.size ≤ 300) :
    Calls Tryz.prog 87 #[.iface 202 (.agg #[.string s])] w fun e w' => e = .returned (.string (cap (keyT s))) ∧ Below w.heap.size w w' := by
  have hm := method_key
  have hz := key_size s
  by_cases hc : (keyT s).size ≤ 300
  · rw [cap_yes hc]
    have hd : decide ((300 : Int) < ((keyT s).size : Int)) = false := by simp; omega
    clear hz hc
    go_enter Tryz.func87, Tryz.ntmps87
    go_wp2_with (go_at_call 218; refine (keyName_any _ _ hs).mono ?_; rintro e w' ⟨rfl, hb⟩)
    go_ret
    exact ⟨rfl, hb⟩
  · rw [cap_no (by omega)]
    have hd : (300 : Int) < ((keyT s).size : Int) := by omega
    clear hz hc
    go_enter Tryz.func87, Tryz.ntmps87
    go_wp2_with (go_at_call 218; refine (keyName_any _ _ hs).mono ?_; rintro e w' ⟨rfl, hb⟩)
    go_ret
    exact ⟨rfl, hb⟩

set_option maxHeartbeats 400000 in
theorem iMakKey_any (s : ByteArray) (w : World) (hm : s.size ≤ maxLen) :
    Calls Tryz.prog 134 #[.string s] w fun e w' => e = .returned (.string (mkKey s)) ∧ Below w.heap.size w w' := by
  have M := hide hm
  clear hm
  cases hk : Kw.ok s with
  | false =>
    rw [show mkKey s = ⟨#[]⟩ by unfold mkKey; rw [if_neg (by rw [hk]; simp)]]
    have K := hide hk
    clear hk
    go_enter Tryz.func134, Tryz.ntmps134
    go_wp2_with fail
    refine (iSecOk_any s _ M.out).mono ?_
    rw [K.out]
    rintro e w1 ⟨rfl, hb1⟩
    go_wp2_with fail
    go_ret
    exact ⟨rfl, hb1⟩
  | true =>
    rw [show mkKey s = cap (keyT s) by unfold mkKey; rw [if_pos hk]]
    have hs := (ok_facts hk).1
    have K := hide hk
    clear hk
    go_enter Tryz.func134, Tryz.ntmps134
    go_wp2_with fail
    refine (iSecOk_any s _ M.out).mono ?_
    rw [K.out]
    rintro e w1 ⟨rfl, hb1⟩
    go_wp2_with fail
    refine (nameOf_key s _ hs).mono ?_
    rintro e w2 ⟨rfl, hb2⟩
    go_wp2_with fail
    go_ret
    exact ⟨rfl, hb1.trans (hb2.mono hb1.size)⟩

set_option maxHeartbeats 400000 in
theorem sMakKey_any (s : ByteArray) (w : World) (hm : s.size ≤ maxLen) :
    Calls Tryz.prog 138 #[.string s] w fun e w' => e = .returned (.string (mkKey s)) ∧ Below w.heap.size w w' := by
  have M := hide hm
  clear hm
  cases hk : Kw.ok s with
  | false =>
    rw [show mkKey s = ⟨#[]⟩ by unfold mkKey; rw [if_neg (by rw [hk]; simp)]]
    have K := hide hk
    clear hk
    go_enter Tryz.func138, Tryz.ntmps138
    go_wp2_with fail
    refine (sSecOk_any s _ M.out).mono ?_
    rw [K.out]
    rintro e w1 ⟨rfl, hb1⟩
    go_wp2_with fail
    go_ret
    exact ⟨rfl, hb1⟩
  | true =>
    have hz := key_size s
    have hs := (ok_facts hk).1
    rw [show mkKey s = only (keyT s) by unfold mkKey; rw [if_pos hk, only_cap (by omega) (len_key hk)]]
    have M2 : Hid ((keyT s).size ≤ maxLen) := by show _ ≤ maxLen; unfold maxLen; omega
    have K := hide hk
    clear hk hz
    go_enter Tryz.func138, Tryz.ntmps138
    go_wp2_with fail
    refine (sSecOk_any s _ M.out).mono ?_
    rw [K.out]
    rintro e w1 ⟨rfl, hb1⟩
    go_wp2_with fail
    refine (l1Ok_any (keyT s) _ M2.out).mono ?_
    rintro e w2 ⟨rfl, hb2⟩
    go_wp2_with fail
    go_ret
    exact ⟨rfl, hb1.trans (hb2.mono hb1.size)⟩
end Go.Proofs.YtabpaaahobakpaaGreat
/-
  The specification's l4Path.
-/
namespace Go.Proofs.YtabpaaahobakpaaGreat
open Go.RowKit Go.Shelf

theorem two_new (w : World) (x y : Value) (t : TypeId) : ∀ j u, [x, y][j]? = some u → (w.alloc (.cells #[x, y] t)).cell? (Addr.add ⟨w.heap.size, 0, none⟩ j) = some u := by
  intro j u hj
  match j, hj with
  | 0, hj => simp at hj; subst hj; simp [Addr.add, go_sem]
  | 1, hj => simp at hj; subst hj; simp [Addr.add, go_sem]

set_option maxRecDepth 100000 in
set_option maxHeartbeats 4000000 in
theorem l4Path_any (n : Nat) (hn : n < 15) (s : ByteArray) (hss : s.size ≤ 300) (w : World) :
    Calls Tryz.prog 92 #[.int .i64 (n : Int), .string s] w fun e w' => ∃ v, e = .returned v ∧ OwnM w.heap.size w' v (pathOf (chainOf (n : Int)) s) ∧ Below w.heap.size w w' := by
  obtain ⟨i0, hi, hz0, hz1, hz2⟩ := info_parts info_mo
  have hI := hide (And.intro hi (And.intro hz0 (And.intro hz1 hz2)))
  clear hi hz0 hz1 hz2
  have HCH : Hid (chainOf (n : Int) = (n : Int) :: upOf (n : Int)) := by show _ = _; unfold chainOf; rw [if_pos (by omega)]
  have HUL : Hid ((upOf (n : Int)).length ≤ 4) := by show _ ≤ _; rw [upOf_nat n hn, List.length_map]; have := ups_len n hn; omega
  have hO0 : Hid (OwnM w.heap.size (w.alloc (.cells #[.int .i64 (n : Int), .string s] 134)) (.slice (some ⟨w.heap.size, 0, none⟩) 1 1) (pathOf ((n : Int) :: (upOf (n : Int)).take 0) s)) := World.ownsRow_lit (base := w.heap.size) (e := 134) (size := 2) w #[.int .i64 (n : Int), .string s] 1 (Nat.le_refl _) (by unfold maxLen; omega) rfl
  have hB0 : Hid (Below w.heap.size w (w.alloc (.cells #[.int .i64 (n : Int), .string s] 134))) := (Below.refl _ _).alloc (Nat.le_refl _) _
  go_enter Tryz.func92, Tryz.ntmps92
  go_wp2_with fail
  refine (sTreUp_any _ _).mono ?_
  rintro e w2 ⟨u2, rfl, ho2, hb2⟩
  generalize upOf (n : Int) = N at *
  have U2 := hide ho2
  have O2 : Hid (OwnM w.heap.size w2 _ _) := own_below' (unhide hO0) hb2
  have HB2 := hide (hB0.out.trans (hb2.mono hB0.out.size))
  obtain ⟨uo, uc, rfl⟩ := row_form' ho2
  generalize (w.alloc (.cells #[.int .i64 (n : Int), .string s] 134)).heap.size = Bu at U2
  clear ho2 hb2 hO0 hB0
  go_wp2_with fail
  go_loopw [1, 5, 7] (fun sv o i wr => ∃ j : Nat, j ≤ N.length ∧ i = .int .i64 (j : Int) ∧ sv = .string (nextN s j) ∧ (∃ oo oc, o = .slice oo (j + 1) oc) ∧ Hid (OwnM w.heap.size wr o (pathOf ((n : Int) :: N.take j) s)) ∧ Hid (OwnI Bu wr (.slice uo N.length uc) N) ∧ Hid (Below w.heap.size w wr)) (fun _ _ i _ => N.length - (intOf i).toNat)
  case atStart => exact ⟨0, by omega, rfl, rfl, ⟨_, _, rfl⟩, O2, U2, HB2⟩
  case round =>
    clear O2 U2 HB2
    obtain ⟨j, hj, rfl, rfl, ⟨oo, oc, rfl⟩, hO, hU, hB⟩ := hrel
    by_cases hlt : j < N.length
    · have hlt2 : (j : Int) < (N.length : Int) := by omega
      have i3 : IntKind.i64.wrap ((j : Int) + 1) = (j : Int) + 1 := by have := HUL.out; simp [IntKind.wrap, IntKind.bits, IntKind.signed]; omega
      have hns := nextN_size s hss j
      have HNX : Hid (nextN s (j + 1) = mkNext (nextN s j)) := rfl
      have HTK : Hid (pathOf ((n : Int) :: N.take (j + 1)) s = pathOf ((n : Int) :: N.take j) s ++ [(N.getD j 0, nextN s (j + 1))]) := by
        show _ = _
        rw [List.take_succ_eq_append_getElem hlt, ← List.cons_append, pathOf_snoc, List.getD_eq_getElem?_getD, List.getElem?_eq_getElem hlt]
        simp [Nat.min_eq_left (Nat.le_of_lt hlt)]
      have HPL : Hid ((pathOf ((n : Int) :: N.take j) s).length = j + 1) := by show _ = _; rw [pathOf_len]; simp [Nat.min_eq_left (Nat.le_of_lt hlt)]
      generalize pathOf ((n : Int) :: N.take j) s = P at *
      generalize hsc : nextN s j = sc at *
      go_wp2_with fail
      refine (sMakNext_any sc _ (le_maxLen (by omega))).mono ?_
      rw [← HNX.out]
      rintro e wn ⟨rfl, hbn⟩
      have hUn := hide (own_below' (unhide hU) hbn)
      have hO1 : wn.ownsRow w.heap.size 134 2 (.slice oo (j + 1) oc) P.length (mcells P) := own_below' (unhide hO) hbn
      rw [HPL.out] at hO1
      have hOn := hide hO1
      have hBn := hide (hB.out.trans (hbn.mono hB.out.size))
      have hsz := hBn.out.size
      clear hbn hO hU hB hO1 HNX hsc
      obtain ⟨q0, q1, q2, _, _, q5⟩ := (OwnI.irow (unhide hUn)).form
      simp only [Value.slice.injEq] at q2
      obtain ⟨rfl, _, rfl⟩ := q2
      obtain ⟨ad, rfl, hck⟩ := q5 j hlt
      clear q5
      have HUL2 := HUL.out
      generalize N.getD j 0 = x at *
      generalize hsn : nextN s (j + 1) = sn at *
      have HSN := hide hsn
      clear hsn
      go_wp2_with (at_builtin; refine wpList_append_own _ rfl _ _ 40 rfl w.heap.size 134 i0 (.agg #[.int .i64 0, .string ⟨#[]⟩]) 2 24 underMo (unhide hI).1 (unhide hI).2.1 (unhide hI).2.2.1 (unhide hI).2.2.2 rfl (by decide) _ _ _ rfl (World.ownsRow.alloc (unhide hOn) _) ⟨wn.heap.size, 0, none⟩ 1 1 [.int .i64 x, .string sn] rfl rfl (two_new _ _ _ _) (by intro u hu; simp at hu; rcases hu with rfl | rfl <;> rfl) (by unfold maxLen; omega) (by omega) (by simp; omega) ?_)
      intro v' w3 hown' hgrow _
      have hU3 : Hid (OwnI Bu w3 (.slice (some ad) N.length uc) N) := World.ownsRow.kept (World.ownsRow.alloc (unhide hUn) (.cells #[.int .i64 x, .string sn] 134)) hgrow (row_apart (World.ownsRow.alloc (unhide hUn) (.cells #[.int .i64 x, .string sn] 134)) (World.ownsRow.alloc (unhide hOn) (.cells #[.int .i64 x, .string sn] 134)) (by decide))
      have hB3 : Hid (Below w.heap.size w w3) := ((unhide hBn).alloc hsz _).grown hgrow (by simp; omega) (fun k hk => (World.ownsRow.lt (unhide hOn) k hk).1)
      have hO3 : Hid (OwnM w.heap.size w3 v' (P ++ [(x, sn)])) := by
        show OwnM _ _ _ _
        unfold OwnM
        rw [List.length_append, HPL.out, mcells_snoc]
        exact hown'
      obtain ⟨vo, vc, rfl⟩ := row_form' hown'
      clear hown' hgrow hOn hUn hBn
      go_wp2_with fail
      go_roundw
      case rel => exact ⟨j + 1, by omega, by simp, by rw [HSN.out], ⟨_, _, rfl⟩, by rw [HTK.out]; exact unhide hO3, hU3, hB3⟩
      case measure => simp [intOf]; omega
    · have hlt2 : decide ((j : Int) < (N.length : Int)) = false := by simp; omega
      have hjn : j = N.length := by omega
      subst hjn
      go_wp2_with fail
      go_ret
      refine ⟨_, rfl, ?_, unhide hB⟩
      have q := unhide hO
      rw [List.take_length, ← HCH.out] at q
      exact q
end Go.Proofs.YtabpaaahobakpaaGreat
/-
  The spec's places: TreSide, TreMeet.
-/
namespace Go.Proofs.YtabpaaahobakpaaGreat
open Go.RowKit

end Go.Proofs.YtabpaaahobakpaaGreat
/-
 The specification's l4Boxes: what goes to whom.
-/
namespace Go.Proofs.YtabpaaahobakpaaGreat
open Go.RowKit
end Go.Proofs.YtabpaaahobakpaaGreat
/-
  The specification's l4Key.
-/
namespace Go.Proofs.YtabpaaahobakpaaGreat
open Go.RowKit

end Go.Proofs.YtabpaaahobakpaaGreat
/-
  A commit, as a value and in memory; whether it is ok by itself, as plain words.
-/
namespace Go.Proofs.YtabpaaahobakpaaGreat
open Go.RowKit

/-- What one who comes is told. -/
structure Wel where
  key : ByteArray
  ik : ByteArray
  is : ByteArray
  sk : ByteArray
  ss : ByteArray
deriving DecidableEq
def Wel.none : Wel := ⟨⟨#[]⟩, ⟨#[]⟩, ⟨#[]⟩, ⟨#[]⟩, ⟨#[]⟩⟩
/-- A commit. -/
structure Cmt where
  sender : Int
  tag : ByteArray
  name : ByteArray
  add : Int
  rem : Int
  leaf : ByteArray
  keys : List ByteArray
  boxes : List Bx
  wel : Wel
deriving DecidableEq
def Cmt.none : Cmt := ⟨0, ⟨#[]⟩, ⟨#[]⟩, 0, 0, ⟨#[]⟩, [], [], Wel.none⟩

abbrev cmtC (se : Int) (tag name : ByteArray) (add rem : Int) (leaf : ByteArray) (ks bs : Value) (k ik is sk ss : ByteArray) : Array Value :=
  #[.int .i64 se, .string tag, .string name, .int .i64 add, .int .i64 rem, .string leaf, ks, bs, .string k, .string ik, .string is, .string sk, .string ss]
abbrev Cmt.cells (c : Cmt) (ks bs : Value) : Array Value := cmtC c.sender c.tag c.name c.add c.rem c.leaf ks bs c.wel.key c.wel.ik c.wel.is c.wel.sk c.wel.ss
/-- A value is a commit, its rows to be read. -/
def CmtR (w : World) (v : Value) (c : Cmt) : Prop := ∃ ks bs, v = .agg (c.cells ks bs) ∧ SRow w ks c.keys ∧ BRow w bs c.boxes
theorem CmtR.below {w w' : World} {v : Value} {c : Cmt} (h : CmtR w v c) (hb : Below w.heap.size w w') : CmtR w' v c := by
  obtain ⟨ks, bs, h1, h2, h3⟩ := h
  exact ⟨ks, bs, h1, h2.below hb, h3.below hb⟩

end Go.Proofs.YtabpaaahobakpaaGreat
/-
  The specification's l1In, whatever comes in.
-/
namespace Go.Proofs.YtabpaaahobakpaaGreat
open Go.RowKit

def inB (lo hi n : Int) : Bool := decide (lo ≤ n) && decide (n ≤ hi)
theorem l1In_any (n lo hi : Int) (w : World) :
    Calls Tryz.prog 29 #[.int .i64 n, .int .i64 lo, .int .i64 hi] w fun e w' => e = .returned (.bool (inB lo hi n)) ∧ w' = w := by
  by_cases h : lo ≤ n ∧ n ≤ hi
  · rw [show inB lo hi n = true by unfold inB; simp [h.1, h.2]]
    exact l1In_yes n lo hi w h.1 h.2
  · rw [show inB lo hi n = false by unfold inB; simp; omega]
    exact l1In_no n lo hi w (by omega)
end Go.Proofs.YtabpaaahobakpaaGreat
/-
  The specification's CmtOk.
-/
namespace Go.Proofs.YtabpaaahobakpaaGreat
open Go.RowKit

end Go.Proofs.YtabpaaahobakpaaGreat
/-
 The specification's l4May.
-/
namespace Go.Proofs.YtabpaaahobakpaaGreat
open Go.RowKit
end Go.Proofs.YtabpaaahobakpaaGreat
/-
  The specification's l5Count.
-/
namespace Go.Proofs.YtabpaaahobakpaaGreat
open Go.RowKit

end Go.Proofs.YtabpaaahobakpaaGreat
/-
  The program's iterators: upward, above.
-/
namespace Go.Proofs.YtabpaaahobakpaaGreat
open Go.RowKit Go.Shelf
attribute [local go_sem] Oper.semAt_some

set_option maxRecDepth 100000 in
set_option maxHeartbeats 1000000 in
theorem upward1_in (n : Nat) (hn : 1 ≤ n) (l Bn n₀ : Nat) (p : Int) (J Jx : List Int → World → Prop)
    (hY : ∀ pre x W, J pre W → pre.length < (chainOf p).length → YieldAt Fence.wide (n - 1) Tryz.prog l #[.int .i64 x] W fun e W' =>
      (e = .returned (.bool true) ∧ J (pre ++ [x]) W' ∧ Below n₀ W W') ∨ (e = .returned (.bool false) ∧ Jx (pre ++ [x]) W'))
    (W : World) (hBn : W.cell? ⟨Bn, 0, none⟩ = some (.int .i64 p)) (h0 : J [] W) :
    CallsIn Fence.wide n Tryz.prog 166 #[.func (.yield l) #[] #[], .pointer (some ⟨Bn, 0, none⟩)] W fun e W' => (∃ v, e = .returned v) ∧
      ((∃ ys, ys = chainOf p ∧ J ys W') ∨ (∃ pre, pre <+: chainOf p ∧ Jx pre W')) := by
  refine callsIn_of_wp Tryz.func166 rfl trivial ?_ rfl
  simp only [Tryz.ntmps166, List.size_toArray, List.length_cons, List.length_nil, Nat.reduceAdd, Nat.reduceSub, Array.replicate_succ, Array.replicate_zero, List.push_toArray, List.append_toArray, List.nil_append, List.cons_append]
  gi_wp2
  gi_loopw [3] (fun q wr => ∃ (pre : List Int) (x : Int), q = .int .i64 x ∧ chainOf p = pre ++ chainOf x ∧ J pre wr)
    (fun q _ => (intOf q + 1).toNat)
  case atStart => exact ⟨[], p, rfl, rfl, h0⟩
  case round =>
    obtain ⟨pre, x, rfl, hx, hJs⟩ := hrel
    by_cases ht : 0 ≤ x ∧ x ≤ 14
    · have hc := chain_cons x ht
      obtain ⟨fn, tmps, assign, body, hy, hR⟩ := hY pre x wr hJs (by rw [hx, hc]; simp)
      have hh := hide ht
      gi_wp2_with (refine ⟨trivial, ?_⟩; gi_at_call 167; refine (callsIn_wide.2 (isThere_yes x _ hh.out.1 (by have := hh.out; omega))).mono ?_; rintro e w' ⟨rfl, rfl⟩)
      refine hR.mono ?_
      clear hR hy
      rintro e W3 (⟨rfl, hJ3, hk3⟩ | ⟨rfl, hJx3⟩)
      · gi_wp2_with (refine ⟨trivial, ?_⟩; gi_at_call 168; refine (callsIn_wide.2 (over_any x _)).mono ?_; rintro e w' ⟨rfl, rfl⟩)
        go_roundw
        case rel => exact ⟨pre ++ [x], overOf x, rfl, by rw [hx, hc]; simp, hJ3⟩
        case measure => have := over_lt x ht.1; simp [intOf]; omega
      · gi_wp2
        go_end0
        exact ⟨⟨_, rfl⟩, .inr ⟨pre ++ [x], ⟨chainOf (overOf x), by rw [hx, hc]; simp⟩, hJx3⟩⟩
    · have hc := chain_nil x ht
      have hh := hide ht
      gi_wp2_with (refine ⟨trivial, ?_⟩; gi_at_call 167; refine (callsIn_wide.2 (isThere_no x _ (by have := hh.out; omega))).mono ?_; rintro e w' ⟨rfl, rfl⟩)
      refine ⟨fun _ h => (by cases h), ?_⟩
      gi_wp2
      go_end0
      exact ⟨⟨_, rfl⟩, .inl ⟨pre, by rw [hx, hc]; simp, hJs⟩⟩

set_option maxHeartbeats 1000000 in
theorem upward_in (n : Nat) (p : Int) (w : World) :
    CallsIn Fence.wide n Tryz.prog 133 #[.int .i64 p] w fun e w' => e = .returned (.func (.func 166) #[] #[.pointer (some ⟨w.heap.size, 0, none⟩)]) ∧ w' = w.alloc (.cells #[.int .i64 p] 105) := by
  refine callsIn_of_wp Tryz.func133 rfl trivial ?_ rfl
  simp only [Tryz.ntmps133, List.size_toArray, List.length_cons, List.length_nil, Nat.reduceAdd, Nat.reduceSub, Array.replicate_succ, Array.replicate_zero, List.push_toArray, List.append_toArray, List.nil_append, List.cons_append]
  gi_wp2
  go_ret
  exact ⟨rfl, rfl⟩

/-- What upward hands back tells a place, and all above it; or, where a round says 'no more', the first of these. -/
theorem upward_stops (n : Nat) (hn : 1 ≤ n) (Bn n₀ : Nat) (p : Int) (w : World) (hBn : Bn < w.heap.size) (hc : w.cell? ⟨Bn, 0, none⟩ = some (.int .i64 p)) :
    SeqStopsK Fence.wide n Tryz.prog 166 #[.pointer (some ⟨Bn, 0, none⟩)] (fun x : Int => #[Value.int .i64 x]) (Below n₀) (fun ys => ys = chainOf p) (fun pre => pre <+: chainOf p) (chainOf p).length w := fun l J Jx W hW _ _ hY h0 =>
  upward1_in n hn l Bn n₀ p J Jx hY W ((hW.cell (p := ⟨Bn, 0, none⟩) hBn).trans hc) h0
end Go.Proofs.YtabpaaahobakpaaGreat
