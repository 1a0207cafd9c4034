/-
  Rows of secrets with their places (MemOwn).
-/
import Derived.Test.YtkcopldlobomhaaStr0
import Derived.Test.YtkcopldlobomhaaIntR
import Derived.Test.YtkcopldlobomhaaBxd
import Derived.Test.YtkcopldlobomhaaRowInI
import Derived.Test.YtkcopldlobomhaaTSet0
import Derived.Test.YtkcopldlobomhaaPlc
import Derived.RangeFuncBox
namespace Go.Proofs.Ytkcopldlobomhaa
open Go.RowKit Go.Shelf

abbrev Mo := Int × ByteArray
def noMo : Mo := (0, ByteArray.empty)
theorem info_mo : (Try.prog.info? 55).map (fun i => (i.zero, i.size, i.bytes)) = some (some (.agg #[.int .i64 0, .string ⟨#[]⟩]), 2, 24) := by kernel_rfl
theorem underMo : Try.prog.underlying 28 = some (.slice 55) := by kernel_rfl

/-- A slice holds these: each a place, and a secret. -/
def MRow (w : World) (v : Value) (bs : List Mo) : Prop :=
  ∃ (ao : Option Addr) (cap : Nat), v = .slice ao bs.length cap ∧ bs.length ≤ cap ∧ cap ≤ maxLen ∧ ∀ i, i < bs.length → ∃ a, ao = some a ∧ w.cell? (a.add (i * 2)) = some (.int .i64 (bs.getD i noMo).1) ∧ w.cell? ((a.add (i * 2)).add 1) = some (.string (bs.getD i noMo).2)
theorem MRow.below {w w' : World} {v : Value} {bs : List Mo} (h : MRow w v bs) (hb : Below w.heap.size w w') : MRow w' v bs := by
  obtain ⟨ao, cap, h1, h2, h3, h4⟩ := h
  refine ⟨ao, cap, h1, h2, h3, fun i hi => ?_⟩
  obtain ⟨a, q1, q2, q3⟩ := h4 i hi
  exact ⟨a, q1, (hb.cell (cell_lt q2)).trans q2, (hb.cell (cell_lt q3)).trans q3⟩
theorem add_oneM (x : Addr) : x.add 1 = ⟨x.block, x.off + 1, none⟩ := Addr.add_succ' x 0
theorem MRow.form {w : World} {v : Value} {bs : List Mo} (h : MRow w v bs) :
    ∃ (ao : Option Addr) (cap : Nat), v = .slice ao bs.length cap ∧ bs.length ≤ cap ∧ cap ≤ maxLen ∧ ∀ i, i < bs.length → ∃ a, ao = some a ∧ w.cell? (a.add (i * 2)) = some (.int .i64 (bs.getD i noMo).1) ∧ w.cell? ⟨(a.add (i * 2)).block, (a.add (i * 2)).off + 1, none⟩ = some (.string (bs.getD i noMo).2) := by
  obtain ⟨ao, cap, h1, h2, h3, h4⟩ := h
  refine ⟨ao, cap, h1, h2, h3, fun i hi => ?_⟩
  obtain ⟨a, q1, q2, q3⟩ := h4 i hi
  exact ⟨a, q1, q2, by rw [← add_oneM]; exact q3⟩
theorem getM_mem {bs : List Mo} {k : Nat} (h : k < bs.length) : bs.getD k noMo ∈ bs := by
  rw [List.getD_eq_getElem?_getD, List.getElem?_eq_getElem h]
  exact List.getElem_mem h

/-- Cell by cell. -/
def mcells (bs : List Mo) : List Value := bs.flatMap fun b => [.int .i64 b.1, .string b.2]
theorem mcells_snoc (bs : List Mo) (b : Mo) : mcells (bs ++ [b]) = mcells bs ++ [.int .i64 b.1, .string b.2] := by simp [mcells]
theorem mcells_get : ∀ (bs : List Mo) (i : Nat), i < bs.length → (mcells bs)[i * 2]? = some (.int .i64 (bs.getD i noMo).1) ∧ (mcells bs)[i * 2 + 1]? = some (.string (bs.getD i noMo).2)
  | [], i, h => absurd h (Nat.not_lt_zero _)
  | b :: bs, 0, _ => by simp [mcells]
  | b :: bs, i + 1, h => by
    have := mcells_get bs i (by simpa using h)
    rw [show (i + 1) * 2 = i * 2 + 1 + 1 by omega]
    simpa [mcells] using this

/-- A slice of the call's own holds these. -/
def OwnM (B : Nat) (w : World) (v : Value) (bs : List Mo) : Prop := w.ownsRow B 55 2 v bs.length (mcells bs)
theorem OwnM.mrow {B : Nat} {w : World} {v : Value} {bs : List Mo} (h : OwnM B w v bs) : MRow w v bs := by
  rcases h.2 with ⟨h1, h2⟩ | ⟨g, cap, cur, h1, h2, h3, h4, h5, _⟩
  · exact ⟨none, 0, by rw [h1, h2], by omega, by omega, fun i hi => by omega⟩
  · refine ⟨some ⟨g, 0, none⟩, cap, h1, h4, h5, fun i hi => ?_⟩
    have hc := World.ownsRow.cells h (g := g) (by rw [h1]; rfl)
    obtain ⟨p1, p2⟩ := mcells_get bs i hi
    refine ⟨_, rfl, hc _ _ p1, ?_⟩
    rw [Addr.add_lit, Addr.add_lit, Nat.zero_add]
    have := hc _ _ p2
    rw [Addr.add_lit, Nat.zero_add] at this
    exact this
/-- Rows of two types lie apart. -/
theorem row_apart {w : World} {B B' : Nat} {e e' : TypeId} {size size' : Nat} {v v' : Value} {n n' : Nat} {xs xs' : List Value} (h : w.ownsRow B e size v n xs) (k : w.ownsRow B' e' size' v' n' xs') (hne : e ≠ e') : v.ownBlock = none ∨ v.ownBlock ≠ v'.ownBlock := by
  rcases h.2 with ⟨rfl, _⟩ | ⟨g, cap, cur, rfl, _, hgb, _⟩
  · exact .inl rfl
  · rcases k.2 with ⟨rfl, _⟩ | ⟨g', cap', cur', rfl, _, hgb', _⟩
    · exact .inr (by simp [Value.ownBlock])
    · refine .inr (fun q => ?_)
      obtain rfl : g = g' := by simpa [Value.ownBlock] using q
      have := hgb.symm.trans hgb'
      simp at this
      exact hne this.2

/-- Secrets made one from the other, at places. -/
def pathOf : List Int → ByteArray → List Mo
  | [], _ => []
  | p :: ps, s => (p, s) :: pathOf ps (mkNext s)
theorem pathOf_len : ∀ (ps : List Int) (s : ByteArray), (pathOf ps s).length = ps.length
  | [], _ => rfl
  | _ :: ps, s => by simp [pathOf, pathOf_len ps]
theorem pathOf_snoc : ∀ (ps : List Int) (x : Int) (s : ByteArray), pathOf (ps ++ [x]) s = pathOf ps s ++ [(x, nextN s ps.length)]
  | [], _, _ => rfl
  | p :: ps, x, s => by
    show (p, s) :: pathOf (ps ++ [x]) (mkNext s) = (p, s) :: (pathOf ps (mkNext s) ++ _)
    rw [pathOf_snoc ps, nextN_in]
    rfl
end Go.Proofs.Ytkcopldlobomhaa
