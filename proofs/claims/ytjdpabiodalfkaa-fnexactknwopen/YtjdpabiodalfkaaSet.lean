/-
  The program's set of texts: what one holds; whether a text is in it; one more.
-/
import Derived.Test.YtjdpabiodalfkaaStr0
import Derived.Test.YtjdpabiodalfkaaLast
import Derived.Maps.OwnSet
import Derived.Maps.AppendAt
import Derived.ArgAppend
namespace Go.Proofs.Ytjdpabiodalfkaa
open Go.RowKit Go.Maps Go.WideMaps

theorem underM : Try.prog.underlying 64 = some (.map 9 3) := by kernel_rfl
theorem underS : Try.prog.underlying 9 = some .string := by kernel_rfl
theorem underI : Try.prog.underlying 3 = some (.int .i64) := by kernel_rfl
theorem underSS : Try.prog.underlying 23 = some (.slice 9) := by kernel_rfl
theorem lawS : Keyed Try.prog 9 := string_keyed underS
theorem zeroI (w : World) : (zeroValue 3).run Try.prog w = .ok (.int .i64 0) w := by kernel_rfl

/-- A text as a map's key. -/
def klit (s : ByteArray) : Lit := .string s.data.toList
theorem klit_key (s : ByteArray) : WideAt.IsKeyLit (klit s) := by unfold klit WideAt.IsKeyLit; trivial
theorem klit_inj {s t : ByteArray} (h : klit s = klit t) : s = t := by
  unfold klit at h
  simp at h
  exact ByteArray.ext (by simpa using h)
theorem klit_keyOf {s : ByteArray} (h : s.size ≤ maxLen) : keyOf Try.prog 9 (.string s) = some (klit s) := keyOf_string_mk underS h

/-- A map holds just these texts as its keys. -/
def MapOf (w : World) (bm : Nat) (L : List ByteArray) : Prop :=
  ∃ (n : Nat) (D : DataW Unit), n ≤ L.length ∧ w.ownsMap Try.prog 9 (plainElem Try.prog 3) bm n D ∧ Maps.IsMap D ∧ ∀ s : ByteArray, Maps.has D (klit s) = has L s

/-- A set's two parts hold these texts, each once, in order. -/
structure SetV (B : Nat) (w : World) (bm : Nat) (v : Value) (L : List ByteArray) : Prop where
  own : Own B w v L
  map : MapOf w bm L
  base : B ≤ bm

theorem MapOf.lt {w : World} {bm : Nat} {L : List ByteArray} (h : MapOf w bm L) : bm < w.heap.size := by
  obtain ⟨n, D, _, h, _⟩ := h
  exact h.lt
theorem MapOf.keep {w w' : World} {bm : Nat} {L : List ByteArray} (h : MapOf w bm L) (hb : w'.heap[bm]? = w.heap[bm]?) : MapOf w' bm L := by
  obtain ⟨n, D, h1, ⟨es, clock, h2, h3⟩, h4⟩ := h
  exact ⟨n, D, h1, ⟨es, clock, hb.trans h2, h3⟩, h4⟩
theorem SetV.below {B : Nat} {w w' : World} {bm : Nat} {v : Value} {L : List ByteArray} (h : SetV B w bm v L) (hb : Below w.heap.size w w') : SetV B w' bm v L :=
  ⟨h.own.below hb, h.map.keep (hb.block bm h.map.lt), h.base⟩

/-- A block holds a set. -/
def SetAt (B : Nat) (w : World) (ab bm : Nat) (v : Value) (L : List ByteArray) : Prop :=
  w.heap[ab]? = some (.cells #[.map (some bm), v] 66 (0, 0)) ∧ SetV B w bm v L
theorem SetAt.lt {B : Nat} {w : World} {ab bm : Nat} {v : Value} {L : List ByteArray} (h : SetAt B w ab bm v L) : ab < w.heap.size := (Array.getElem?_eq_some_iff.1 h.1).1
theorem SetAt.below {B : Nat} {w w' : World} {ab bm : Nat} {v : Value} {L : List ByteArray} (h : SetAt B w ab bm v L) (hb : Below w.heap.size w w') : SetAt B w' ab bm v L :=
  ⟨(hb.block ab h.lt).trans h.1, h.2.below hb⟩
theorem SetAt.c0 {B : Nat} {w : World} {ab bm : Nat} {v : Value} {L : List ByteArray} (h : SetAt B w ab bm v L) : w.cell? ⟨ab, 0, none⟩ = some (.map (some bm)) := by rw [cell_of_row _ _ _ _ _ _ h.1]; rfl
theorem SetAt.c1 {B : Nat} {w : World} {ab bm : Nat} {v : Value} {L : List ByteArray} (h : SetAt B w ab bm v L) : w.cell? ⟨ab, 1, none⟩ = some v := by rw [cell_of_row _ _ _ _ _ _ h.1]; rfl
theorem SetAt.f1 {B : Nat} {w : World} {ab bm : Nat} {v : Value} {L : List ByteArray} (h : SetAt B w ab bm v L) : w.frozen? ⟨ab, 1, none⟩ = false := by simp [World.frozen?, h.1]

set_option maxHeartbeats 400000 in
theorem set_has_any {B : Nat} {w : World} {ab bm : Nat} {v : Value} {L : List ByteArray} (s : ByteArray) (h : SetAt B w ab bm v L) (hs : s.size ≤ maxLen) :
    Calls Try.prog 74 #[.pointer (some ⟨ab, 0, none⟩), .string s] w fun e w' => e = .returned (.bool (has L s)) ∧ Below w.heap.size w w' := by
  have c0 := h.c0
  obtain ⟨n, D, hn, hown, hD, hhas⟩ := h.2.map
  have hkey := klit_keyOf hs
  rw [← hhas s]
  clear h hhas hn hs
  go_enter Try.func74, Try.ntmps74
  go_wp2_with (first
    | (at_lookup; refine wpList_lookup_own_ok_int _ rfl _ _ 64 rfl 9 3 .i64 lawS underM underI (zeroI _) bm n _ rfl hown _ _ rfl hkey ?_; intro c hat hwc)
    | fail)
  go_ret
  exact ⟨rfl, Below.refl _ _⟩

theorem arr_expl (n : Nat) (t : Array Value) (h : t.size = n) : t = ((List.range n).map (fun i => t.getD i undef)).toArray := by
  apply Array.ext
  · simp [h]
  · intro i h1 h2
    simp [h1]

theorem not_has_snoc {L : List ByteArray} {s t : ByteArray} : has (L ++ [s]) t = (has L t || decide (s = t)) := by
  unfold has
  simp

#print axioms set_has_any
end Go.Proofs.Ytjdpabiodalfkaa
