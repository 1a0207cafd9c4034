/-
  Blocks of several cells that a call made: whole values stored into them and read out of them. No Go function in it.
-/
import Derived.Test.YtabpaaahobakpaaDoorFnExactTagNamesB1
import Derived.Lib.SplitLaws
import Derived.Lib.IndexLaws
import Derived.Shelf.LaysM
import Derived.Shelf.Strconv.Clone
import Derived.Shelf.Strings.Split
import Derived.Test.YtabpaaahobakpaaDoorRows
import Derived.WalkKit
import Derived.Deep.RegionHeld3
namespace Go.Proofs.YtabpaaahobakpaaDoor
open Go.RowKit

/-- A block holds these cells, all of one variable. -/
def Blk (w : World) (b : Nat) (t : TypeId) (cs : Array Value) : Prop := w.heap[b]? = some (.cells cs t (0, 0))
theorem Blk.lt {w : World} {b : Nat} {t : TypeId} {cs : Array Value} (h : Blk w b t cs) : b < w.heap.size := (Array.getElem?_eq_some_iff.1 h).1
theorem Blk.new (w : World) (t : TypeId) (cs : Array Value) : Blk (w.alloc (.cells cs t)) w.heap.size t cs := World.alloc_heap_new w _
theorem Blk.below {w w' : World} {b : Nat} {t : TypeId} {cs : Array Value} (h : Blk w b t cs) (hb : Below w.heap.size w w') : Blk w' b t cs := (hb.block b h.lt).trans h
theorem Blk.below0 {w w' : World} {b B : Nat} {t : TypeId} {cs : Array Value} (h : Blk w b t cs) (hb : Below B w w') (hlt : b < B) : Blk w' b t cs := (hb.block b hlt).trans h
theorem Blk.kept {w w' : World} {row : Option Nat} {b : Nat} {t : TypeId} {cs : Array Value} (h : Blk w b t cs) (hg : w.grownBy w' row) (hne : some b ≠ row) : Blk w' b t cs := (hg.block b h.lt hne).trans h
theorem Blk.alloc {w : World} {b : Nat} {t : TypeId} {cs : Array Value} (h : Blk w b t cs) (o : Obj) : Blk (w.alloc o) b t cs := h.kept (World.grownBy_alloc w o none) (by simp)
theorem Blk.drew {w : World} {b : Nat} {t : TypeId} {cs : Array Value} (h : Blk w b t cs) : Blk w.drew b t cs := h
theorem Blk.cell {w : World} {b : Nat} {t : TypeId} {cs : Array Value} (h : Blk w b t cs) (i : Nat) : w.cell? ⟨b, i, none⟩ = cs[i]? := by simp [World.cell?, show w.heap[b]? = _ from h]
theorem Blk.frozen {w : World} {b : Nat} {t : TypeId} {cs : Array Value} (h : Blk w b t cs) (i : Nat) : w.frozen? ⟨b, i, none⟩ = false := by simp [World.frozen?, show w.heap[b]? = _ from h]
theorem Blk.set {w : World} {b : Nat} {t : TypeId} {cs : Array Value} (h : Blk w b t cs) (ds : Array Value) : Blk (w.setRow b ds) b t ds := setRow_heap w b cs ds t _ h
theorem grown_setRow (w : World) (b : Nat) (cs : Array Value) : w.grownBy (w.setRow b cs) (some b) :=
  ⟨rfl, rfl, rfl, by simp, fun k _ hk => setRow_other w b k cs (fun e => hk (by rw [e]))⟩
theorem Blk.other {w : World} {b b' : Nat} {t : TypeId} {cs : Array Value} (h : Blk w b t cs) (hne : b ≠ b') (ds : Array Value) : Blk (w.setRow b' ds) b t cs := h.kept (grown_setRow w b' ds) (fun e => hne (by cases e; rfl))
theorem Blk.boxed {w : World} {b : Nat} {t : TypeId} {v : Value} (h : Blk w b t #[v]) : Boxed w b t v := h
/-- No row of another type is such a block. -/
theorem Blk.not_row {w : World} {b : Nat} {t e : TypeId} {cs : Array Value} (h : Blk w b t cs) (hte : t ≠ e) {base size k : Nat} {v : Value} {xs : List Value} (hr : w.ownsRow base e size v k xs) : some b ≠ v.ownBlock := by
  rcases hr.2 with ⟨rfl, _⟩ | ⟨g, cap, cur, rfl, _, hgb, _⟩
  · simp [Value.ownBlock]
  · intro q
    obtain rfl : b = g := by simpa [Value.ownBlock] using q
    have := (show w.heap[b]? = _ from h).symm.trans hgb
    simp at this
    exact hte this.2
theorem row_blk {B : Nat} {w : World} {e t : TypeId} {size n b : Nat} {v : Value} {xs : List Value} {cs : Array Value} (h : w.ownsRow B e size v n xs) (hx : Blk w b t cs) (hte : t ≠ e) (ds : Array Value) : (w.setRow b ds).ownsRow B e size v n xs :=
  h.kept (grown_setRow w b ds) (.inr (hx.not_row hte h).symm)
theorem below_blk {B : Nat} {w w' : World} {b : Nat} (h : Below B w w') (hb : B ≤ b) (ds : Array Value) : Below B w (w'.setRow b ds) := h.trans ⟨rfl, rfl, rfl, by simp [World.setRow], fun k hk => setRow_other w' b k ds (by omega)⟩
/-- A value of several cells is stored whole. -/
theorem wpList_store_whole {P : Program} {ops : Array Oper} {rest : List Oper} {o : Oper} {a : Act} {w : World} {Q : Exit → Act → World → Prop} (hg : o.guard = none) (ty : TypeId) (x y : Operand) (ho : o.op = .store ty x y)
    (b : Nat) (cells : Array Value) (hx : a.eval x = .pointer (some ⟨b, 0, none⟩)) (hy : a.eval y = .agg cells)
    (t : TypeId) (old : Array Value) (hb : Blk w b t old) (hi : (P.info? ty).map (·.size) = some cells.size)
    (hold : old.size = cells.size) (h1 : cells.all (·.oneCell') = true)
    (h : wpList P ops Q rest (a.put o.dst undef) (w.setRow b cells)) : wpList P ops Q (o :: rest) a w :=
  wpList_plain hg fun _ hK => wp_store_row ty x y ho b cells hx hy t old hb hi hold h1 (hK _ _ h)
/-- A value of several cells is read whole. -/
theorem wpList_load_whole {P : Program} {ops : Array Oper} {rest : List Oper} {o : Oper} {a : Act} {w : World} {Q : Exit → Act → World → Prop} (hg : o.guard = none) (ty : TypeId) (x : Operand) (ho : o.op = .load ty x)
    (b : Addr) (hx : a.eval x = .pointer (some b)) (v : Value) (hl : (loadVar ty b).run P w = .ok v w)
    (h : wpList P ops Q rest (a.put o.dst v) w) : wpList P ops Q (o :: rest) a w :=
  wpList_plain hg fun _ hK => by
    unfold Oper.wp execOp
    simp only [ho, hx, Instr.loadAt, Instr.sureAddr, Sem.run_bind, Sem.run_pure, Result.andThen_ok, hl]
    exact hK _ _ h
/-- A result that lies in a block. -/
theorem results_cell {P : Program} {fn : Func} {a t : Nat} {tmps : Array Value} {w : World} {b : Addr} {v : Value} (h : fn.results = #[.cell a t]) (hp : tmps.getD a undef = .pointer (some b)) (hl : (loadVar t b).run P w = .ok v w) : (results fn tmps).run P w = .ok v w := by
  have hp' : tmps[a]?.getD undef = .pointer (some b) := by simpa using hp
  simp [results, h, hp', asAddr, hl]
end Go.Proofs.YtabpaaahobakpaaDoor
/-
  Plain mathematics: a text's pieces, each up to a sign of a name's end. Nothing of the program is in it.
-/
namespace Go.Proofs.YtabpaaahobakpaaDoor
open Kw
open Go.Lib (indexB countB splitB indexB_cases countB_miss countB_hit splitB_hit index_one indexByte_none indexByte_some)

/-- The pieces that end at one of the next n bytes from k on; the first begins at a. -/
def goP (t : ByteArray) : Nat → Nat → Nat → List ByteArray
  | 0, _, _ => []
  | n + 1, a, k => if g t k = 59 then t.extract a (k + 1) :: goP t n (k + 1) (k + 1) else goP t n a (k + 1)
/-- A text's pieces. -/
def pieces (t : ByteArray) : List ByteArray := goP t t.size 0 0

theorem goP_len (t : ByteArray) : ∀ n a k, (goP t n a k).length ≤ n
  | 0, _, _ => by simp [goP]
  | n + 1, a, k => by
    unfold goP
    split
    · have := goP_len t n (k + 1) (k + 1)
      simp only [List.length_cons]; omega
    · have := goP_len t n a (k + 1)
      omega
theorem pieces_len (t : ByteArray) : (pieces t).length ≤ t.size := goP_len t _ 0 0
theorem goP_size (t : ByteArray) : ∀ n a k, ∀ x ∈ goP t n a k, x.size ≤ t.size
  | 0, _, _ => by simp [goP]
  | n + 1, a, k => by
    unfold goP
    split
    · intro x hx
      rcases List.mem_cons.1 hx with rfl | hx
      · simp [ByteArray.size_extract]; omega
      · exact goP_size t n (k + 1) (k + 1) x hx
    · exact goP_size t n a (k + 1)
theorem pieces_size (t : ByteArray) : ∀ x ∈ pieces t, x.size ≤ t.size := goP_size t _ 0 0
theorem goP_shift (t : ByteArray) (d : Nat) : ∀ n a k, d + k + n ≤ t.size → a ≤ k → goP (t.extract d t.size) n a k = goP t n (d + a) (d + k)
  | 0, _, _, _, _ => rfl
  | n + 1, a, k, h, ha => by
    unfold goP
    rw [g_extract t d t.size k (Nat.le_refl _) (by omega)]
    have e : (t.extract d t.size).extract a (k + 1) = t.extract (d + a) (d + k + 1) := by
      apply ext_g
      · simp [ByteArray.size_extract]; omega
      · intro i hi
        simp [ByteArray.size_extract] at hi
        rw [g_extract _ _ _ _ (by simp [ByteArray.size_extract]; omega) (by omega), g_extract _ _ _ _ (Nat.le_refl _) (by omega), g_extract _ _ _ _ (by omega) (by omega)]
        congr 1; omega
    rw [goP_shift t d n (k + 1) (k + 1) (by omega) (by omega), goP_shift t d n a (k + 1) (by omega) (by omega), e]
    rfl
theorem goP_skip (t : ByteArray) : ∀ i n a k, (∀ j, k ≤ j → j < k + i → g t j ≠ 59) → goP t (i + n) a k = goP t n a (k + i)
  | 0, n, a, k, _ => by rw [Nat.zero_add, Nat.add_zero]
  | i + 1, n, a, k, h => by
    rw [show i + 1 + n = i + n + 1 by omega]
    rw [goP]
    rw [if_neg (h k (by omega) (by omega)), goP_skip t i n a (k + 1) (fun j h1 h2 => h j (by omega) (by omega))]
    congr 1; omega
theorem list_g {t : ByteArray} {j : Nat} : (t.data.toList)[j]? = some 59 ↔ g t j = 59 := by
  by_cases h : j < t.size
  · rw [g_in h]
    rw [List.getElem?_eq_getElem (by simpa using h)]
    have e : t.data.toList[j]'(by simpa using h) = t[j]'h := rfl
    rw [e]
    constructor
    · intro q; have q := Option.some.inj q; rw [q]; rfl
    · intro q; rw [← UInt8.toNat_inj.1 (show (t[j]'h).toNat = (59 : UInt8).toNat from q)]
  · rw [g_out (by omega), List.getElem?_eq_none (by simpa using h)]
    simp
def sep59 : ByteArray := ⟨#[59]⟩
theorem index59 (s : ByteArray) : indexB s sep59 = Go.Lib.indexByte s.data.toList 59 := index_one _ _
theorem miss59 {s : ByteArray} (h : indexB s sep59 = -1) (j : Nat) : g s j ≠ 59 := fun q => indexByte_none (by rw [← index59]; exact h) j (list_g.2 q)
theorem hit59 {s : ByteArray} {i : Nat} (h : indexB s sep59 = i) : g s i = 59 ∧ ∀ j, j < i → g s j ≠ 59 := by
  obtain ⟨h1, h2⟩ := indexByte_some (by rw [← index59]; exact h)
  exact ⟨list_g.1 h1, fun j hj q => h2 j hj (list_g.2 q)⟩
/-- What the library splits are the pieces, and what is behind the last one. -/
theorem split_pieces : ∀ (k : Nat) (s : ByteArray), countB s sep59 = k → ∃ last, splitB sep59 1 k s = pieces s ++ [last]
  | 0, s, hk => by
    rcases indexB_cases s sep59 with hi | ⟨i, hi, _⟩
    · refine ⟨s, ?_⟩
      have e : pieces s = [] := by
        have := goP_skip s s.size 0 0 0 (fun j _ _ => miss59 hi j)
        rw [Nat.add_zero] at this
        exact this
      rw [e]; rfl
    · rw [countB_hit s sep59 i (by decide) hi] at hk; omega
  | k + 1, s, hk => by
    rcases indexB_cases s sep59 with hi | ⟨i, hi, hl⟩
    · rw [countB_miss s sep59 hi] at hk; omega
    · rw [countB_hit s sep59 i (by decide) hi] at hk
      have hl' : i + 1 ≤ s.size := hl
      obtain ⟨last, hs⟩ := split_pieces k (s.extract (i + 1) s.size) (by have : sep59.size = 1 := rfl; rw [this] at hk; omega)
      refine ⟨last, ?_⟩
      rw [splitB_hit sep59 1 k s i hi, show sep59.size = 1 from rfl, hs]
      obtain ⟨h1, h2⟩ := hit59 hi
      have e : pieces s = s.extract 0 (i + 1) :: pieces (s.extract (i + 1) s.size) := by
        unfold pieces
        obtain ⟨m, hm⟩ : ∃ m, s.size = i + (m + 1) := ⟨s.size - i - 1, by omega⟩
        have hz : (s.extract (i + 1) s.size).size = m := by simp [ByteArray.size_extract]; omega
        rw [hz, goP_shift s (i + 1) m 0 0 (by omega) (Nat.le_refl _)]
        conv => lhs; rw [hm]
        rw [goP_skip s i (m + 1) 0 0 (fun j _ hj => h2 j (by omega)), Nat.zero_add, goP, if_pos h1]
      rw [e]; rfl
#print axioms split_pieces
end Go.Proofs.YtabpaaahobakpaaDoor
/-
  The library's contracts of Clone, Count, Index and the split of a text, laid at this program.
-/
namespace Go.Proofs.YtabpaaahobakpaaDoor
open Go.Shelf Go.RowKit
def lay_clone_ren : Go.Shelf.Ren := ⟨fun | 316 => 14 | n => n, fun | 9 => 9 | 3 => 3 | 4 => 4 | 37 => 31 | 0 => 0 | 127 => 33 | 5 => 5 | n => n, fun | n => n⟩
theorem lay_clone : Go.Proofs.LaysM.n316 Tryd.prog lay_clone_ren := {
  mixed := by kernel_rfl
  f316 := Tryd.func14.trans (congrArg some (by kernel_rfl))
  t0 := Tryd.underlying0
  a0 := Tryd.isAgg0
  z0 := Tryd.sizeOf0
  v0 := Tryd.zeroValue0
  t3 := Tryd.underlying3
  a3 := Tryd.isAgg3
  z3 := Tryd.sizeOf3
  v3 := Tryd.zeroValue3
  t4 := Tryd.underlying4
  a4 := Tryd.isAgg4
  z4 := Tryd.sizeOf4
  v4 := Tryd.zeroValue4
  t9 := Tryd.underlying9
  a9 := Tryd.isAgg9
  z9 := Tryd.sizeOf9
  v9 := Tryd.zeroValue9
  t37 := Tryd.underlying31
  a37 := Tryd.isAgg31
  z37 := Tryd.sizeOf31
  v37 := Tryd.zeroValue31
  t127 := Tryd.underlying33
  a127 := Tryd.isAgg33
  z127 := Tryd.sizeOf33
  v127 := Tryd.zeroValue33
  t5 := Tryd.underlying5
  a5 := Tryd.isAgg5
  z5 := Tryd.sizeOf5
  v5 := Tryd.zeroValue5
  i0 := by kernel_rfl
  i3 := by kernel_rfl
  i4 := by kernel_rfl
  i5 := by kernel_rfl
  i9 := by kernel_rfl
  i37 := by kernel_rfl
  i127 := by kernel_rfl }
def lay_split_ren : Go.Shelf.Ren := ⟨fun | 221 => 15 | 268 => 16 | 138 => 17 | 143 => 18 | 195 => 19 | 197 => 20 | 218 => 21 | 219 => 22 | 260 => 23 | 217 => 24 | 225 => 25 | 224 => 26 | 267 => 27 | 266 => 28 | 314 => 29 | n => n, fun | 9 => 9 | 3 => 3 | 31 => 22 | 4 => 4 | 0 => 0 | 105 => 37 | 21 => 21 | 5 => 5 | 46 => 41 | 119 => 42 | 139 => 45 | 138 => 44 | 146 => 47 | 51 => 46 | n => n, fun | 1 => 0 | 3 => 1 | 4 => 2 | n => n⟩
theorem lay_split : Go.Proofs.Lays.n221 Tryd.prog lay_split_ren := {
  mixed := by kernel_rfl
  f138 := Tryd.func17.trans (congrArg some (by kernel_rfl))
  f143 := Tryd.func18.trans (congrArg some (by kernel_rfl))
  f195 := Tryd.func19.trans (congrArg some (by kernel_rfl))
  f197 := Tryd.func20.trans (congrArg some (by kernel_rfl))
  f217 := Tryd.func24.trans (congrArg some (by kernel_rfl))
  f218 := Tryd.func21.trans (congrArg some (by kernel_rfl))
  f219 := Tryd.func22.trans (congrArg some (by kernel_rfl))
  f221 := Tryd.func15.trans (congrArg some (by kernel_rfl))
  f224 := Tryd.func26.trans (congrArg some (by kernel_rfl))
  f225 := Tryd.func25.trans (congrArg some (by kernel_rfl))
  f260 := Tryd.func23.trans (congrArg some (by kernel_rfl))
  f266 := Tryd.func28.trans (congrArg some (by kernel_rfl))
  f267 := Tryd.func27.trans (congrArg some (by kernel_rfl))
  f268 := Tryd.func16.trans (congrArg some (by kernel_rfl))
  f314 := Tryd.func29.trans (congrArg some (by kernel_rfl))
  t0 := Tryd.underlying0
  a0 := Tryd.isAgg0
  z0 := Tryd.sizeOf0
  v0 := Tryd.zeroValue0
  t3 := Tryd.underlying3
  a3 := Tryd.isAgg3
  z3 := Tryd.sizeOf3
  v3 := Tryd.zeroValue3
  t4 := Tryd.underlying4
  a4 := Tryd.isAgg4
  z4 := Tryd.sizeOf4
  v4 := Tryd.zeroValue4
  t5 := Tryd.underlying5
  a5 := Tryd.isAgg5
  z5 := Tryd.sizeOf5
  v5 := Tryd.zeroValue5
  t9 := Tryd.underlying9
  a9 := Tryd.isAgg9
  z9 := Tryd.sizeOf9
  v9 := Tryd.zeroValue9
  t21 := Tryd.underlying21
  a21 := Tryd.isAgg21
  z21 := Tryd.sizeOf21
  v21 := Tryd.zeroValue21
  t31 := Tryd.underlying22
  a31 := Tryd.isAgg22
  z31 := Tryd.sizeOf22
  v31 := Tryd.zeroValue22
  t46 := Tryd.underlying41
  a46 := Tryd.isAgg41
  z46 := Tryd.sizeOf41
  v46 := Tryd.zeroValue41
  t51 := Tryd.underlying46
  a51 := Tryd.isAgg46
  z51 := Tryd.sizeOf46
  v51 := Tryd.zeroValue46
  t105 := Tryd.underlying37
  a105 := Tryd.isAgg37
  z105 := Tryd.sizeOf37
  v105 := Tryd.zeroValue37
  t119 := Tryd.underlying42
  a119 := Tryd.isAgg42
  z119 := Tryd.sizeOf42
  t138 := Tryd.underlying44
  a138 := Tryd.isAgg44
  z138 := Tryd.sizeOf44
  v138 := Tryd.zeroValue44
  t139 := Tryd.underlying45
  a139 := Tryd.isAgg45
  z139 := Tryd.sizeOf45
  v139 := Tryd.zeroValue45
  t146 := Tryd.underlying47
  a146 := Tryd.isAgg47
  z146 := Tryd.sizeOf47
  v146 := Tryd.zeroValue47
  g1 := by kernel_rfl
  g3 := by kernel_rfl
  g4 := by kernel_rfl }
theorem countTn_any (s : ByteArray) (w : World) : Calls Tryd.prog 17 #[.string s, .string sep59] w fun e w' => e = .returned (.int .i64 (Lib.countB s sep59)) ∧ w' = w := by
  refine (Any.strings_Count_one { lay_split with } s 59 w).mono fun e w' ⟨he, hw⟩ => ⟨?_, hw⟩
  rw [he]
  show _ = Ending.returned (Value.int .i64 ((Lib.count s.data.toList [59] : Nat) : Int))
  rw [Lib.count_one]
  rfl
theorem indexTn_any (s : ByteArray) (w : World) : Calls Tryd.prog 18 #[.string s, .string sep59] w fun e w' => e = .returned (.int .i64 (Lib.indexB s sep59)) ∧ w' = w := by
  refine (Any.strings_Index_one { lay_split with } s 59 w).mono fun e w' ⟨he, hw⟩ => ⟨?_, hw⟩
  rw [he, index59]
theorem cloneTn_any (s : ByteArray) (w : World) (h : s.size ≤ 2000000) : Calls Tryd.prog 14 #[.string s] w fun e w' => e = .returned (.string s) ∧ Below w.heap.size w w' := Any.stringslite_Clone lay_clone s w (by omega)
/-- Split behind each sign, one piece for each and the rest. -/
theorem genSplit_any (s : ByteArray) (w : World) (hs : s.size ≤ 1048576) :
    Calls Tryd.prog 15 #[.string s, .string sep59, .int .i64 1, .int .i64 (-1)] w fun e w' => ∃ last, e = .returned (.slice (some ⟨w.heap.size, 0, none⟩) ((pieces s).length + 1) ((pieces s).length + 1)) ∧ w' = w.alloc (.cells (((pieces s) ++ [last]).map Value.string).toArray 9) := by
  have hle := Lib.countB_le sep59 (by decide) s.size s (Nat.le_refl _)
  have hlen := Lib.splitB_all sep59 (by decide) 1 _ s rfl
  obtain ⟨last, hp⟩ := split_pieces _ s rfl
  have hpl : (pieces s).length = Lib.countB s sep59 := by rw [hp] at hlen; simpa using hlen
  have c := Any.strings_genSplit_core lay_split (by kernel_rfl) s sep59 1 (-1) (Lib.countB s sep59 + 1) w (by omega) (by decide) (by decide)
    (fun x c hx => indexTn_any x _) (countTn_any s w) (by decide) (by decide) (by rw [if_pos (by decide)]; omega)
  rw [Nat.add_sub_cancel, hlen] at c
  refine c.mono fun e w' ⟨he, hw⟩ => ⟨last, ?_, ?_⟩
  · rw [he, hpl]
  · rw [hw, hp]
    congr 2
    have e1 : (pieces s ++ [last]).length = Lib.countB s sep59 + 1 := by simp [hpl]
    rw [← e1]
    exact Lib.cellsOf_full _
#print axioms genSplit_any
end Go.Proofs.YtabpaaahobakpaaDoor
/-
  The program's TagNames: the pieces of a text, copied.
-/
namespace Go.Proofs.YtabpaaahobakpaaDoor
open Go.RowKit

set_option maxHeartbeats 400000 in
theorem clone2_any (s : ByteArray) (w : World) (h : s.size ≤ 2000000) :
    Calls Tryd.prog 12 #[.string s] w fun e w' => e = .returned (.string s) ∧ Below w.heap.size w w' := by
  go_enter Tryd.func12, Tryd.ntmps12
  go_wp2_with (go_at_call 14; refine (cloneTn_any _ _ h).mono ?_; rintro e w' ⟨rfl, hb⟩)
  go_ret
  exact ⟨rfl, hb⟩
set_option maxHeartbeats 2000000 in
theorem cloneNames2_any (v : Value) (xs : List ByteArray) (w : World) (h : SRow w v xs) (hl : xs.length ≤ 1048576) (hy : ∀ x ∈ xs, x.size ≤ 2000000) :
    Calls Tryd.prog 9 #[v] w fun e w' => ∃ v' : Value, e = .returned v' ∧ w'.ownsRow w.heap.size 9 1 v' xs.length (xs.map Value.string) ∧ Below w.heap.size w w' := by
  obtain ⟨ao, cap, rfl, h1, h2, hc⟩ := h.form
  have hR := hide h
  unfold maxLen at h2
  have HY := hide hy
  clear h hc hy
  obtain ⟨i0, hi, hz0, hz1, hz2⟩ := info_parts info_str'
  have hI := hide (And.intro hi (And.intro hz0 (And.intro hz1 hz2)))
  have hB2 : Hid (i0.bytes * xs.length ≤ 281474976710656) := by show _ ≤ _; rw [hz2]; omega
  clear hi hz0 hz1 hz2
  go_enter Tryd.func9, Tryd.ntmps9
  go_wp2_with (at_make; refine wpList_make_full _ rfl _ _ 22 rfl w.heap.size 9 i0 (.string ⟨#[]⟩) 1 Tryd.underlying22 (unhide hI).1 (unhide hI).2.1 (unhide hI).2.2.1 _ _ _ _ xs.length rfl rfl rfl rfl (unhide hB2) (by unfold maxLen; omega) (Nat.le_refl _) ?_)
  intro w1 hown hgrow
  have hO1 : Hid (w1.ownsRow w.heap.size 9 1 (.slice (some ⟨w.heap.size, 0, none⟩) xs.length xs.length) xs.length (part xs 0)) := by
    rw [part_zero]
    have e : (madeCells #[Value.string ⟨#[]⟩] xs.length).toList = List.replicate xs.length (Value.string ⟨#[]⟩) := by
      simp [madeCells, Nat.mod_one, List.map_const']
    rw [← e]
    exact hown
  have hL1 : Hid (Below w.heap.size w w1) := (Below.refl _ _).grown hgrow (Nat.le_refl _) (fun k hk => by cases hk)
  clear hown hgrow
  go_wp2_with fail
  go_loopw [11] (fun i wr => ∃ k : Nat, k ≤ xs.length ∧ i = .int .i64 (k : Int) ∧ Hid (wr.ownsRow w.heap.size 9 1 (.slice (some ⟨w.heap.size, 0, none⟩) xs.length xs.length) xs.length (part xs k)) ∧ Hid (Below w.heap.size w wr)) (fun i _ => xs.length - (intOf i).toNat)
  case atStart => exact ⟨0, by omega, rfl, hO1, hL1⟩
  case round =>
    clear hO1 hL1
    obtain ⟨k, hk, rfl, hO, hL⟩ := hrel
    by_cases hlt : k < xs.length
    · have hlt2 : (k : Int) < (xs.length : Int) := by omega
      obtain ⟨ao', c1, q1, _, _, q2⟩ := (SRow.below (unhide hR) (unhide hL)).form
      simp only [Value.slice.injEq] at q1
      obtain ⟨rfl, _, rfl⟩ := q1
      obtain ⟨a, rfl, hck⟩ := q2 k hlt
      clear q2
      have i3 : IntKind.i64.wrap ((k : Int) + 1) = (k : Int) + 1 := by simp [IntKind.wrap, IntKind.bits, IntKind.signed]; omega
      have hY : Hid ((xs.getD k ByteArray.empty).size ≤ 2000000) := HY.out _ (getD_mem hlt)
      have hps := hide (part_set xs k hlt)
      generalize xs.getD k ByteArray.empty = y at hck hY hps
      have hle := hL.out.size
      go_wp2_with fail
      refine (clone2_any y _ hY.out).mono ?_
      rintro e w2 ⟨rfl, hb2⟩
      have hO2 := own_below' (unhide hO) hb2
      have hL2 := (unhide hL).trans (hb2.mono hle)
      have hle2 := hL2.size
      have hfz := hO2.frozenAt k
      have hcell : w2.cell? ⟨w.heap.size, k, none⟩ = some (.string ⟨#[]⟩) := (hO2.cellAt k (by omega)).trans (part_at xs k hlt)
      have hS1 := hO2.stored k (.string y)
      rw [hps.out] at hS1
      have hS2 := hide hS1
      have hL3 := hide hL2
      clear hS1 hO2 hL2 hb2 hck
      go_wp2_with fail
      go_roundw
      case rel => exact ⟨k + 1, by omega, by simp, hS2.out.1, (unhide hL3).grown hS2.out.2 hle2 (fun j hj => by cases hj; exact Nat.le_refl _)⟩
      case measure => simp [intOf]; omega
    · have hlt2 : decide ((k : Int) < (xs.length : Int)) = false := by simp; omega
      have hkn : k = xs.length := by omega
      subst hkn
      rw [part_all] at hO
      go_wp2_with fail
      go_ret
      exact ⟨_, rfl, unhide hO, unhide hL⟩

set_option maxHeartbeats 1000000 in
theorem splitAfter_any (s : ByteArray) (w : World) (hs : s.size ≤ 1048576) :
    Calls Tryd.prog 13 #[.string s, .string sep59] w fun e w' => ∃ last, e = .returned (.slice (some ⟨w.heap.size, 0, none⟩) ((pieces s).length + 1) ((pieces s).length + 1)) ∧ w' = w.alloc (.cells (((pieces s) ++ [last]).map Value.string).toArray 9) := by
  have c := genSplit_any s w hs
  have hz : ((sep59.size : Nat) : Int) = 1 := rfl
  go_enter Tryd.func13, Tryd.ntmps13
  go_wp2_with fail
  refine c.mono ?_
  rintro e w' ⟨last, rfl, hw⟩
  have HW := hide hw
  clear hw c
  go_wp2_with fail
  go_ret
  exact ⟨last, rfl, HW.out⟩

set_option maxHeartbeats 1000000 in
theorem piecesOf_any (s : ByteArray) (w : World) (hs : s.size ≤ 1048576) :
    Calls Tryd.prog 10 #[.string s] w fun e w' => ∃ v, e = .returned v ∧ SRow w' v (pieces s) ∧ Below w.heap.size w w' := by
  have hp := pieces_len s
  obtain ⟨n, hn⟩ : ∃ n, (pieces s).length = n := ⟨_, rfl⟩
  have c := splitAfter_any s w hs
  rw [hn] at c hp
  have i1 : IntKind.i64.wrap (((n + 1 : Nat) : Int) - 1) = (n : Int) := by simp [IntKind.wrap, IntKind.bits, IntKind.signed]; omega
  have HN := hide hn
  clear hn
  go_enter Tryd.func10, Tryd.ntmps10
  go_wp2_with fail
  refine c.mono ?_
  rintro e w' ⟨last, rfl, hw⟩
  have HW := hide hw
  clear hw c
  go_wp2_with fail
  go_ret
  refine ⟨_, rfl, ?_, ?_⟩
  · rw [HW.out]
    refine .inr ⟨⟨w.heap.size, 0, none⟩, n + 1, by rw [HN.out]; rfl, by rw [HN.out]; omega, by unfold maxLen; omega, fun i hi => ?_⟩
    have hb := Blk.new w 9 ((pieces s ++ [last]).map Value.string).toArray
    have hc := hb.cell i
    rw [List.getElem?_toArray, List.getElem?_map, List.getElem?_append_left hi] at hc
    rw [show (⟨w.heap.size, 0, none⟩ : Addr).add i = ⟨w.heap.size, i, none⟩ by simp [Addr.add]; omega]
    rw [hc, List.getD_eq_getElem?_getD, List.getElem?_eq_getElem hi]
    rfl
  · rw [HW.out]; exact (Below.refl _ _).alloc (Nat.le_refl _) _

set_option maxHeartbeats 1000000 in
theorem iTagNames_any (s : ByteArray) (w : World) (hs : s.size ≤ 1048576) :
    Calls Tryd.prog 5 #[.string s] w fun e w' => ∃ v', e = .returned v' ∧ Own w.heap.size w' v' (pieces s) ∧ Below w.heap.size w w' := by
  go_enter Tryd.func5, Tryd.ntmps5
  go_wp2_with fail
  refine (piecesOf_any s _ hs).mono ?_
  rintro e w1 ⟨v, rfl, hv, hb⟩
  have HV := hide hv
  have HB := hide hb
  have hle := hb.size
  clear hv hb
  go_wp2_with fail
  refine (cloneNames2_any v (pieces s) _ (unhide HV) (by have := pieces_len s; omega) (fun x hx => by have := pieces_size s x hx; omega)).mono ?_
  rintro e w2 ⟨v', rfl, ho, hb⟩
  have HO := hide ho
  have HB2 := hide ((unhide HB).trans (hb.mono hle))
  clear ho hb
  go_wp2_with fail
  go_ret
  exact ⟨_, rfl, row_lowB (unhide HO) hle, unhide HB2⟩
#print axioms iTagNames_any
end Go.Proofs.YtabpaaahobakpaaDoor
/-
  The specification's TagNames.
-/
namespace Go.Proofs.YtabpaaahobakpaaDoor
open Go.RowKit Kw

theorem goP_hit (t : ByteArray) (n a k : Nat) (h : g t k = 59) : goP t (n + 1) a k = t.extract a (k + 1) :: goP t n (k + 1) (k + 1) := by rw [goP, if_pos h]
theorem goP_miss (t : ByteArray) (n a k : Nat) (h : g t k ≠ 59) : goP t (n + 1) a k = goP t n a (k + 1) := by rw [goP, if_neg h]
set_option maxRecDepth 100000 in
set_option maxHeartbeats 4000000 in
theorem sTagNames_any (t : ByteArray) (w : World) (ht : t.size ≤ 1048576) :
    Calls Tryd.prog 4 #[.string t] w fun e w' => ∃ v', e = .returned v' ∧ Own w.heap.size w' v' (pieces t) ∧ Below w.heap.size w w' := by
  obtain ⟨i0, hi, hz0, hz1, hz2⟩ := info_parts info_str2
  have hI := hide (And.intro hi (And.intro hz0 (And.intro hz1 hz2)))
  clear hi hz0 hz1 hz2
  have hO0 : Hid (Own w.heap.size (w.alloc (Obj.cells #[] 9)) (.slice (some ⟨w.heap.size, 0, none⟩) 0 0) []) := by
    have h := World.ownsRow_lit (base := w.heap.size) (e := 9) (size := 1) w #[] 0 (Nat.le_refl _) (by unfold maxLen; omega) rfl
    exact h
  have hL0 := hide ((Below.refl w.heap.size w).alloc (Nat.le_refl _) (Obj.cells #[] 9))
  go_enter Tryd.func4, Tryd.ntmps4
  go_wp2_with fail
  go_loopw [3, 4, 5] (fun o f i wr => ∃ (k a : Nat) (out : List ByteArray), k ≤ t.size ∧ a ≤ k ∧ f = .int .i64 (a : Int) ∧ i = .int .i64 (k : Int) ∧ Hid (out.length ≤ k) ∧ Hid (out ++ goP t (t.size - k) a k = pieces t) ∧ Hid (Own w.heap.size wr o out) ∧ Hid (Below w.heap.size w wr)) (fun _ _ i _ => t.size - (intOf i).toNat)
  case atStart => exact ⟨0, 0, [], by omega, by omega, rfl, rfl, hide (Nat.le_refl _), hide rfl, hO0, hL0⟩
  case round =>
    clear hO0 hL0
    obtain ⟨k, a, out, hk, ha, rfl, rfl, hlen, hgo, hO, hL⟩ := hrel
    have hle := hL.out.size
    by_cases hlt : k < t.size
    · have hlt2 : (k : Int) < (t.size : Int) := by omega
      have i3 : IntKind.i64.wrap ((k : Int) + 1) = (k : Int) + 1 := by simp [IntKind.wrap, IntKind.bits, IntKind.signed]; omega
      have HG := hide (g_in hlt)
      by_cases hz : t[k].toNat = 59
      · have HG1 : Hid (out ++ [t.extract a (k + 1)] ++ goP t (t.size - (k + 1)) (k + 1) (k + 1) = pieces t) := by
          refine hide ?_
          rw [← hgo.out, show t.size - k = (t.size - (k + 1)) + 1 by omega, goP_hit t _ a k (by rw [HG.out]; exact hz)]
          simp
        clear HG hgo
        generalize hy : t.extract a (k + 1) = y at *
        have HY := hide hy
        clear hy
        go_wp2_with (at_builtin; refine wpList_append_own _ rfl _ _ 22 rfl w.heap.size 9 i0 (.string ⟨#[]⟩) 1 16 Tryd.underlying22 (unhide hI).1 (unhide hI).2.1 (unhide hI).2.2.1 (unhide hI).2.2.2 rfl (by decide) _ _ _ rfl ((unhide hO).alloc _) ⟨wr.heap.size, 0, none⟩ 1 1 [.string (t.extract a (k + 1))] rfl rfl ?c1 ?c2 ?c3 ?c4 ?c5 ?_)
        case c1 =>
          intro j u hj
          match j, hj with
          | 0, hj => simp at hj; subst hj; simp [Addr.add, HY.out]
        case c2 => intro u hu; simp at hu; subst hu; rfl
        case c3 => have q := hlen.out; unfold maxLen; omega
        case c4 => have q := hlen.out; omega
        case c5 => simp; omega
        intro v' w7 hown' hgrow _
        have R := Own.grow (unhide hO) (unhide hL) (Nat.le_refl _) hown' hgrow
        rw [HY.out] at R
        have R1 := hide R.1
        have R2 := hide R.2
        clear R hown' hgrow hO hL
        go_wp2_with fail
        go_roundw
        case rel => exact ⟨k + 1, k + 1, out ++ [y], by omega, by omega, rfl, by simp, hide (by have q := hlen.out; simp; omega), HG1, R1, R2⟩
        case measure => simp [intOf]; omega
      · have HG1 : Hid (out ++ goP t (t.size - (k + 1)) a (k + 1) = pieces t) := by
          refine hide ?_
          rw [← hgo.out, show t.size - k = (t.size - (k + 1)) + 1 by omega, goP_miss t _ a k (by rw [HG.out]; exact hz)]
        clear HG hgo
        go_wp2_with fail
        go_roundw
        case rel => exact ⟨k + 1, a, out, by omega, by omega, rfl, by simp, hide (by have := hlen.out; omega), HG1, hO, hL⟩
        case measure => simp [intOf]; omega
    · have hlt2 : decide ((k : Int) < (t.size : Int)) = false := by simp; omega
      obtain rfl : k = t.size := by omega
      have HE : Hid (out = pieces t) := by
        have q := hgo.out
        rw [Nat.sub_self] at q
        exact hide (by simpa [goP] using q)
      go_wp2_with fail
      go_ret
      exact ⟨_, rfl, by rw [← HE.out]; exact unhide hO, unhide hL⟩
#print axioms sTagNames_any
end Go.Proofs.YtabpaaahobakpaaDoor
/-
  A byte as a text. No Go function in it.
-/
namespace Go.Proofs.YtabpaaahobakpaaDoor
open Go.RowKit

theorem conv1 (W : World) (a : Addr) (n : Int) (h : W.cell? a = some (.int .u8 n)) :
    (convert 31 9 (.slice (some a) 1 1)).run Tryd.prog W = .ok (.string (by1 n.toNat)) W := by
  rw [run_convert_bytes_string W 31 9 5 _ _ _ Tryd.underlying31 Tryd.underlying5 Tryd.underlying9]
  rw [run_bytesToString W a 1 1 [n] ?_]
  · rfl
  · exact run_loadCells_list W a [.int .u8 n] (fun j v hj => by
      match j, hj with
      | 0, hj => simp at hj; subst hj; simpa [Addr.add] using h)
end Go.Proofs.YtabpaaahobakpaaDoor
/-
  The laws' own marks: texts that are written into rows, and looked up again.
-/
namespace Go.Proofs.YtabpaaahobakpaaDoor
open Go.RowKit

theorem grown_below' {wr u u' : World} {r : Option Nat} (h : wr.grownBy u r) (hb : Below u.heap.size u u') : wr.grownBy u' r :=
  ⟨hb.os.trans h.os, hb.tape.trans h.tape, hb.output.trans h.output, Nat.le_trans h.size hb.size, fun k hk hr => (hb.block k (Nat.lt_of_lt_of_le hk h.size)).trans (h.block k hk hr)⟩

/-- The digits of a number, ahead of some. -/
def mtd (k : Nat) (t : ByteArray) : ByteArray := if _h : k = 0 then t else mtd (k / 10) (by1 (48 + k % 10) ++ t)
termination_by k
decreasing_by omega
theorem mtd_zero (t : ByteArray) : mtd 0 t = t := by unfold mtd; simp
theorem mtd_pos {k : Nat} (h : k ≠ 0) (t : ByteArray) : mtd k t = mtd (k / 10) (by1 (48 + k % 10) ++ t) := by rw [mtd]; simp [h]
/-- The mark of a number. -/
def mt (k : Nat) : ByteArray := ⟨#[109]⟩ ++ mtd k ⟨#[]⟩

set_option maxRecDepth 100000 in
set_option maxHeartbeats 1000000 in
theorem markText_any (n : Nat) (w : World) (h0 : 0 < n) (h : n ≤ 10000000) :
    Calls Tryd.prog 11 #[.int .i64 (n : Int)] w fun e w' => e = .returned (.string (mt n)) ∧ Below w.heap.size w w' := by
  have hc := conv1
  have hp : decide ((n : Int) ≤ 0) = false := by simp; omega
  go_enter Tryd.func11, Tryd.ntmps11
  go_wp2_with fail
  go_loopw [0, 3] (fun a s wr => ∃ (k : Nat) (t : ByteArray), a = .int .i64 (k : Int) ∧ s = .string t ∧ k + t.size ≤ n ∧ Hid (mtd k t = mtd n ⟨#[]⟩) ∧ Hid (Below w.heap.size w wr)) (fun a _ _ => (intOf a).toNat)
  case atStart => exact ⟨n, ⟨#[]⟩, rfl, rfl, Nat.le_refl _, rfl, Below.refl _ _⟩
  case round =>
    obtain ⟨k, t, rfl, rfl, hk, hm, hL⟩ := hrel
    have hle := hL.out.size
    by_cases hpos : 0 < k
    · have hpos2 : (0 : Int) < (k : Int) := by omega
      have e10 : (k : Int).tmod 10 = ((k % 10 : Nat) : Int) := by rw [Int.tmod_eq_emod_of_nonneg (by omega)]; omega
      have d10 : (k : Int).tdiv 10 = ((k / 10 : Nat) : Int) := by rw [Int.tdiv_eq_ediv_of_nonneg (by omega)]; omega
      have hr : k % 10 < 10 := Nat.mod_lt _ (by omega)
      have hm1 : Hid (mtd (k / 10) (by1 (48 + k % 10) ++ t) = mtd n ⟨#[]⟩) := by show _ = _; rw [← mtd_pos (by omega)]; exact hm.out
      have hd : k / 10 < k := by omega
      generalize k % 10 = r at e10 hr hm1
      generalize k / 10 = q at d10 hm1 hd
      have u8 : IntKind.u8.wrap (48 + (r : Int)) = 48 + (r : Int) := by simp [IntKind.wrap, IntKind.bits, IntKind.signed]; omega
      have hnat : ((48 : Int) + (r : Int)).toNat = 48 + r := by omega
      have hs1 : (by1 (48 + r)).size = 1 := rfl
      have hts : t.size ≤ 10000000 := by omega
      have hHA : Hid (Below w.heap.size w (wr.alloc (.cells #[.int .u8 (48 + (r : Int))] 5))) := (unhide hL).alloc hle _
      go_wp2_with fail
      go_roundw
      case rel => exact ⟨q, by1 (48 + r) ++ t, rfl, rfl, by rw [ByteArray.size_append, hs1]; omega, hm1, hHA⟩
      case measure => simp [intOf]; omega
    · have hpos2 : decide ((0 : Int) < (k : Int)) = false := by simp; omega
      have hk0 : k = 0 := by omega
      subst hk0
      have he : Hid (⟨#[109]⟩ ++ t = mt n) := by show _ = _; unfold mt; rw [← hm.out, mtd_zero]
      go_wp2_with fail
      go_ret
      exact ⟨congrArg (fun x => Ending.returned (.string x)) he.out, unhide hL⟩
/-- The marks from one on. -/
def marks (k n : Nat) : List ByteArray := (List.range n).map fun i => mt (k + i)
theorem marks_len (k n : Nat) : (marks k n).length = n := by unfold marks; simp
theorem marks_get {k n i : Nat} (h : i < n) : (marks k n).getD i ByteArray.empty = mt (k + i) := by
  unfold marks
  rw [List.getD_eq_getElem?_getD]
  simp [h]

/-- The first j marked, the rest as they were. -/
def markd (k : Nat) (xs : List ByteArray) (j : Nat) : List ByteArray := marks k j ++ xs.drop j
theorem markd_zero (k : Nat) (xs : List ByteArray) : markd k xs 0 = xs := by unfold markd marks; simp
theorem markd_all (k : Nat) (xs : List ByteArray) : markd k xs xs.length = marks k xs.length := by unfold markd; simp
theorem markd_len {k : Nat} {xs : List ByteArray} {j : Nat} (h : j ≤ xs.length) : (markd k xs j).length = xs.length := by unfold markd; rw [List.length_append, marks_len, List.length_drop]; omega
theorem markd_set {k : Nat} {xs : List ByteArray} {j : Nat} (h : j < xs.length) : (markd k xs j).set j (mt (k + j)) = markd k xs (j + 1) := by
  unfold markd marks
  rw [List.range_succ, List.map_append, List.set_append_right _ _ (by simp)]
  have e : (xs.drop j).set 0 (mt (k + j)) = mt (k + j) :: xs.drop (j + 1) := by rw [List.drop_eq_getElem_cons h]; rfl
  simp [e]

set_option maxRecDepth 100000 in
set_option maxHeartbeats 1000000 in
theorem markStringS_any (B : Nat) (v : Value) (xs : List ByteArray) (k : Nat) (w : World) (h : Own B w v xs) (hk : 0 < k) (hk2 : k ≤ 4000000) (hl : xs.length ≤ 1048576) :
    Calls Tryd.prog 7 #[v, .int .i64 (k : Int)] w fun e w' => e = .returned (.int .i64 ((k + xs.length : Nat) : Int)) ∧ Own B w' v (marks k xs.length) ∧ w.grownBy w' v.ownBlock := by
  have hO := hide h
  obtain ⟨ao, cap, hv⟩ := row_form' h
  subst hv
  clear h
  go_enter Tryd.func7, Tryd.ntmps7
  go_wp2_with fail
  go_loopw [1, 5] (fun c i wr => ∃ j : Nat, j ≤ xs.length ∧ i = .int .i64 (j : Int) ∧ c = .int .i64 ((k + j : Nat) : Int) ∧ Hid (wr.ownsRow B 9 1 (.slice ao xs.length cap) xs.length ((markd k xs j).map Value.string)) ∧ Hid (w.grownBy wr (Value.ownBlock (.slice ao xs.length cap)))) (fun _ i _ => xs.length - (intOf i).toNat)
  case atStart => exact ⟨0, by omega, rfl, by simp, by rw [markd_zero]; exact unhide hO, ⟨rfl, rfl, rfl, Nat.le_refl _, fun _ _ _ => rfl⟩⟩
  case round =>
    obtain ⟨j, hj, rfl, rfl, hOj, hG⟩ := hrel
    by_cases hlt : j < xs.length
    · have hlt2 : (j : Int) < (xs.length : Int) := by omega
      have i3 : IntKind.i64.wrap ((j : Int) + 1) = (j : Int) + 1 := by simp [IntKind.wrap, IntKind.bits, IntKind.signed]; omega
      obtain ⟨z, hz⟩ : ∃ z : Nat, z = k + j := ⟨_, rfl⟩
      rw [← hz]
      have hz1 : 0 < z := by omega
      have hz2 : z ≤ 6000000 := by omega
      have HZ := hide hz
      clear hz
      have i4 : IntKind.i64.wrap ((z : Int) + 1) = (z : Int) + 1 := by simp [IntKind.wrap, IntKind.bits, IntKind.signed]; omega
      rcases (unhide hOj).2 with ⟨q, _⟩ | ⟨g, cap', cur, hq, hBg, hcur, _⟩
      · simp at q; omega
      simp only [Value.slice.injEq] at hq
      obtain ⟨rfl, _, rfl⟩ := hq
      clear hcur
      go_wp2_with fail
      refine (markText_any z _ (by omega) (by omega)).mono ?_
      rintro e w2 ⟨rfl, hb2⟩
      have hO2 := own_below' (unhide hOj) hb2
      have hG2 := hide (grown_below' (unhide hG) hb2)
      have hml := markd_len (k := k) (xs := xs) (j := j) hj
      have hfz := hO2.frozenAt j
      have hcell : w2.cell? ⟨g, j, none⟩ = some (.string ((markd k xs j).getD j ByteArray.empty)) := by
        rw [hO2.cellAt j (by omega), List.getElem?_map, List.getElem?_eq_getElem (by omega), List.getD_eq_getElem?_getD, List.getElem?_eq_getElem (by omega)]; rfl
      obtain ⟨s1, s2⟩ := hO2.stored j (.string (mt z))
      rw [← List.map_set, HZ.out, markd_set hlt] at s1
      have HS1 := hide s1
      have HG3 : Hid (w.grownBy (w2.setCell ⟨g, j, none⟩ (.string (mt z))) (some g)) := (unhide hG2).trans s2
      clear s1 s2 hO2 hb2 hOj hG hG2 hml
      generalize (markd k xs j).getD j ByteArray.empty = old at hcell
      rw [← HZ.out] at HS1
      generalize mt z = y at HS1 HG3 ⊢
      go_wp2_with fail
      go_roundw
      case rel => exact ⟨j + 1, by omega, by simp, by rw [show ((k + (j + 1) : Nat) : Int) = (z : Int) + 1 by have := HZ.out; omega], HS1, HG3⟩
      case measure => simp [intOf]; omega
    · have hlt2 : decide ((j : Int) < (xs.length : Int)) = false := by simp; omega
      have hjn : j = xs.length := by omega
      subst hjn
      rw [markd_all] at hOj
      go_wp2_with fail
      go_ret
      refine ⟨rfl, ?_, unhide hG⟩
      unfold Own
      rw [marks_len]
      exact unhide hOj

#print axioms markStringS_any
end Go.Proofs.YtabpaaahobakpaaDoor
/-
  The laws' own marks: texts that are looked up again.
-/
namespace Go.Proofs.YtabpaaahobakpaaDoor
open Go.RowKit

set_option maxRecDepth 100000 in
set_option maxHeartbeats 2000000 in
theorem heldStringS_any (v : Value) (n k : Nat) (w : World) (h : SRow w v (marks k n)) (hk : 0 < k) (hk2 : k ≤ 4000000) (hl : n ≤ 1048576) :
    Calls Tryd.prog 8 #[v, .int .i64 (k : Int)] w fun e w' => e = .returned (.int .i64 ((k + n : Nat) : Int)) ∧ Below w.heap.size w w' := by
  have hR := hide h
  obtain ⟨ao, cap, rfl, h1, h2, _⟩ := h.form
  rw [marks_len] at h1 hR ⊢
  unfold maxLen at h2
  clear h
  go_enter Tryd.func8, Tryd.ntmps8
  go_wp2_with fail
  go_loopw [1, 5] (fun c i wr => ∃ j : Nat, j ≤ n ∧ i = .int .i64 (j : Int) ∧ c = .int .i64 ((k + j : Nat) : Int) ∧ Hid (Below w.heap.size w wr)) (fun _ i _ => n - (intOf i).toNat)
  case atStart => exact ⟨0, by omega, rfl, by simp, Below.refl _ _⟩
  case round =>
    obtain ⟨j, hj, rfl, rfl, hL⟩ := hrel
    have hle := hL.out.size
    by_cases hlt : j < n
    · have hlt2 : (j : Int) < (n : Int) := by omega
      have i3 : IntKind.i64.wrap ((j : Int) + 1) = (j : Int) + 1 := by simp [IntKind.wrap, IntKind.bits, IntKind.signed]; omega
      obtain ⟨ao', c1, q1, _, _, q2⟩ := (SRow.below (unhide hR) (unhide hL)).form
      rw [marks_len] at q1 q2
      simp only [Value.slice.injEq] at q1
      obtain ⟨rfl, _, rfl⟩ := q1
      obtain ⟨ad, rfl, hck⟩ := q2 j hlt
      rw [marks_get hlt] at hck
      clear q2
      obtain ⟨z, hz⟩ : ∃ z : Nat, z = k + j := ⟨_, rfl⟩
      rw [← hz] at hck ⊢
      have hz1 : 0 < z := by omega
      have hz2 : z ≤ 6000000 := by omega
      have HZ := hide hz
      clear hz
      have i4 : IntKind.i64.wrap ((z : Int) + 1) = (z : Int) + 1 := by simp [IntKind.wrap, IntKind.bits, IntKind.signed]; omega
      have HM : Hid (∀ u : World, Calls Tryd.prog 11 #[.int .i64 (z : Int)] u fun e w' => e = .returned (.string (mt z)) ∧ Below u.heap.size u w') := fun u => markText_any z u hz1 (by omega)
      generalize mt z = y at hck HM
      go_wp2_with fail
      go_region_held3 (fun w' => w'.cell? (ad.add j) = some (.string y))
        ((first | exact hck | exact pck))
        ((go_at_call 11; refine (HM.out wr.drew).mono ?_; rintro e w2 ⟨rfl, hb2⟩; have pck := (hb2.cell (cell_lt hck)).trans hck; have hL2 : Hid (Below w.heap.size w w2) := ((unhide hL).drew).trans (hb2.mono hle); clear hb2))
      go_wp2_with fail
      go_roundw
      case rel => exact ⟨j + 1, by omega, by simp, by rw [show ((k + (j + 1) : Nat) : Int) = (z : Int) + 1 by have := HZ.out; omega], hL2⟩
      case measure => simp [intOf]; omega
    · have hlt2 : decide ((j : Int) < (n : Int)) = false := by simp; omega
      have hjn : j = n := by omega
      subst hjn
      go_wp2_with fail
      go_ret
      exact ⟨rfl, unhide hL⟩
end Go.Proofs.YtabpaaahobakpaaDoor
