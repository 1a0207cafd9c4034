/-
  One in a group, as a value and in memory.
-/
import Derived.Test.YtkcopldlobomhaaBlk
import Derived.Test.YtkcopldlobomhaaMOwn
namespace Go.Proofs.Ytkcopldlobomhaa
open Go.RowKit

/-- One in a group. -/
structure Mem where
  inn : Bool
  who : Int
  keys : List ByteArray
  own : List Mo
  ep : Int
  init : ByteArray
  tag : ByteArray
deriving DecidableEq
/-- None. -/
def Mem.none : Mem := ⟨false, 0, [], [], 0, ⟨#[]⟩, ⟨#[]⟩⟩

/-- Its cells. -/
abbrev memC (i : Bool) (who : Int) (ks os : Value) (ep : Int) (init tag : ByteArray) : Array Value := #[.bool i, .int .i64 who, ks, os, .int .i64 ep, .string init, .string tag]
abbrev noMem : Array Value := memC false 0 (.slice none 0 0) (.slice none 0 0) 0 ⟨#[]⟩ ⟨#[]⟩
abbrev Mem.cells (m : Mem) (ks os : Value) : Array Value := memC m.inn m.who ks os m.ep m.init m.tag
/-- A value is one in a group, its rows to be read. -/
def MemR (w : World) (v : Value) (m : Mem) : Prop := ∃ ks os, v = .agg (m.cells ks os) ∧ SRow w ks m.keys ∧ MRow w os m.own
/-- A value is one in a group, its rows the call's own. -/
def MemO (B : Nat) (w : World) (v : Value) (m : Mem) : Prop := ∃ ks os, v = .agg (m.cells ks os) ∧ Own B w ks m.keys ∧ OwnM B w os m.own
theorem MemR.below {w w' : World} {v : Value} {m : Mem} (h : MemR w v m) (hb : Below w.heap.size w w') : MemR w' v m := by
  obtain ⟨ks, os, h1, h2, h3⟩ := h
  exact ⟨ks, os, h1, h2.below hb, h3.below hb⟩
theorem MemO.row {B : Nat} {w : World} {v : Value} {m : Mem} (h : MemO B w v m) : MemR w v m := by
  obtain ⟨ks, os, h1, h2, h3⟩ := h
  exact ⟨ks, os, h1, h2.srow, h3.mrow⟩
theorem MemO.below {B : Nat} {w w' : World} {v : Value} {m : Mem} (h : MemO B w v m) (hb : Below w.heap.size w w') : MemO B w' v m := by
  obtain ⟨ks, os, h1, h2, h3⟩ := h
  exact ⟨ks, os, h1, Own.below h2 hb, own_below' h3 hb⟩
theorem MemO.none (B : Nat) (w : World) : MemO B w (.agg noMem) Mem.none := ⟨_, _, rfl, World.ownsRow_nil _ _ _ _, World.ownsRow_nil _ _ _ _⟩
/-- Its two rows lie between two numbers. -/
def MemIn (lo hi : Nat) (w : World) (ks os : Value) (keys : List ByteArray) (own : List Mo) : Prop := RowIn lo hi 9 1 w ks keys.length (keys.map Value.string) ∧ RowIn lo hi 55 2 w os own.length (mcells own)
theorem MemIn.of {B : Nat} {w : World} {ks os : Value} {keys : List ByteArray} {own : List Mo} (h : Own B w ks keys) (k : OwnM B w os own) : MemIn B w.heap.size w ks os keys own := ⟨RowIn.of h, RowIn.of k⟩
theorem MemIn.below {lo hi : Nat} {w w' : World} {ks os : Value} {keys : List ByteArray} {own : List Mo} (h : MemIn lo hi w ks os keys own) (hb : Below w.heap.size w w') : MemIn lo hi w' ks os keys own := ⟨h.1.below hb, h.2.below hb⟩
theorem MemIn.grown {lo hi : Nat} {w w' : World} {ks os : Value} {keys : List ByteArray} {own : List Mo} {r : Option Nat} (h : MemIn lo hi w ks os keys own) (hg : w.grownBy w' r) (hr : ∀ k, r = some k → k < lo ∨ hi ≤ k) : MemIn lo hi w' ks os keys own := ⟨h.1.grown hg hr, h.2.grown hg hr⟩
theorem MemIn.srow {lo hi : Nat} {w : World} {ks os : Value} {keys : List ByteArray} {own : List Mo} (h : MemIn lo hi w ks os keys own) : SRow w ks keys := own_srow h.1.1
theorem MemIn.mrow {lo hi : Nat} {w : World} {ks os : Value} {keys : List ByteArray} {own : List Mo} (h : MemIn lo hi w ks os keys own) : MRow w os own := OwnM.mrow h.2.1

theorem info_mm : (Try.prog.info? 30).map (·.size) = some 7 := by kernel_rfl
theorem one_mm (i : Bool) (who : Int) (a : Option Addr) (l c : Nat) (a' : Option Addr) (l' c' : Nat) (ep : Int) (init tag : ByteArray) : (memC i who (.slice a l c) (.slice a' l' c') ep init tag).all (·.oneCell') = true := by simp [Value.oneCell']
theorem load_mm {w : World} {b : Nat} {cs : Array Value} (h : Blk w b 30 cs) (hc : cs.size = 7) : (loadVar 30 ⟨b, 0, none⟩).run Try.prog w = .ok (.agg cs) w :=
  run_loadVar_row w b _ _ cs (0, 0) _ h Try.underlying30 rfl (by rw [hc]; exact info_mm)
end Go.Proofs.Ytkcopldlobomhaa
