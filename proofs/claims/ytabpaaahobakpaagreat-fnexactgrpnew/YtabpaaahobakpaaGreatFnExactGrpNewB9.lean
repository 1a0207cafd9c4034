/-
  Rows of windows, made anew.
-/
import Derived.Test.YtabpaaahobakpaaGreatFnExactGrpNewB7
import Derived.Test.YtabpaaahobakpaaGreatFnExactGrpNewB5
import Derived.Test.YtabpaaahobakpaaGreatFnExactGrpNewB6
import Derived.Test.YtabpaaahobakpaaGreatFnExactGrpNewB8
import Derived.Test.YtabpaaahobakpaaGreatRows
import Derived.WalkKit
import Derived.Orders
import Derived.ArgAppend
import Derived.Test.YtabpaaahobakpaaGreatFnExactGrpNewB1
import Derived.RangeFuncRecord
import Derived.Test.YtabpaaahobakpaaGreatFnExactGrpNewB4
import Derived.Test.YtabpaaahobakpaaGreatFnExactGrpNewB3
import Derived.Test.YtabpaaahobakpaaGreatFnExactGrpNewB2
import Derived.Maps.AppendAt
namespace Go.Proofs.YtabpaaahobakpaaGreat
open Go.RowKit

/-- A window's cells, its numbers the call's own. -/
def winF (B : Nat) (w : World) (x : Win) (c : List Value) : Prop := ∃ s, c = (x.cells s).toList ∧ OwnI B w s x.seen
/-- Windows of the call's own. -/
def OutW (B : Nat) (w : World) (v : Value) (l : List Win) : Prop := ∃ cs, w.ownsRow B 137 3 v l.length cs ∧ ListR (winF B w) l cs
/-- Windows, as they are read. -/
def InW (w : World) (v : Value) (l : List Win) : Prop := ∃ cs, RowR w v l.length cs ∧ ListR (winR [] w) l cs
theorem winF.below {B : Nat} {w w' : World} (hb : Below w.heap.size w w') (x : Win) (c : List Value) (h : winF B w x c) : winF B w' x c := by
  obtain ⟨s, e, h1⟩ := h
  exact ⟨s, e, own_below' h1 hb⟩
theorem OutW.below {B : Nat} {w w' : World} {v : Value} {l : List Win} (h : OutW B w v l) (hb : Below w.heap.size w w') : OutW B w' v l := by
  obtain ⟨cs, h1, h2⟩ := h
  exact ⟨cs, own_below' h1 hb, h2.mono (winF.below hb)⟩
theorem InW.below {w w' : World} {v : Value} {l : List Win} (h : InW w v l) (hb : Below w.heap.size w w') : InW w' v l := by
  obtain ⟨cs, h1, h2⟩ := h
  exact ⟨cs, h1.below hb, h2.mono (winR.keep (KeepX.below hb) (MoreX.refl _ _))⟩
theorem OutW.form {B : Nat} {w : World} {v : Value} {l : List Win} (h : OutW B w v l) : ∃ a c, v = .slice a l.length c := by
  obtain ⟨cs, h1, _⟩ := h
  exact row_form' h1
/-- One of them, read. -/
theorem InW.at {w : World} {v : Value} {l : List Win} (h : InW w v l) (i : Nat) (hi : i < l.length) : ∃ ad c s, v = .slice (some ad) l.length c ∧ w.cell? (ad.add (i * 3)) = some (.string l[i].key) ∧ w.cell? ⟨(ad.add (i * 3)).block, (ad.add (i * 3)).off + 1, Option.none⟩ = some (.int .i64 l[i].top) ∧ w.cell? ⟨(ad.add (i * 3)).block, (ad.add (i * 3)).off + 2, Option.none⟩ = some s ∧ IRow w s l[i].seen := by
  obtain ⟨cs, h1, h2⟩ := h
  rcases h1 with ⟨_, h3, _⟩ | ⟨ad, c, rfl, _, _, h5⟩
  · omega
  obtain ⟨d, ⟨s, rfl, h6, _⟩, h7⟩ := ListR.get winR.len i hi h2
  refine ⟨ad, c, s, rfl, h5 _ _ (h7 0 _ rfl), ?_, ?_, h6⟩
  · have q := h5 _ _ (h7 1 _ rfl)
    rw [Addr.add_succ' ad (i * 3)] at q
    rw [add_block, add_off, Nat.add_assoc]
    exact q
  · have q := h5 _ _ (h7 2 _ rfl)
    rw [Addr.add_succ' ad (i * 3 + 1)] at q
    rw [add_block, add_off, Nat.add_assoc]
    exact q
end Go.Proofs.YtabpaaahobakpaaGreat
/-
 The specification's l6Take.
-/
namespace Go.Proofs.YtabpaaahobakpaaGreat
open Go.RowKit
end Go.Proofs.YtabpaaahobakpaaGreat
/-
 The specification's l6Hears.
-/
namespace Go.Proofs.YtabpaaahobakpaaGreat
open Go.RowKit
end Go.Proofs.YtabpaaahobakpaaGreat
/-
  Windows behind a frame, as plain words; rows of windows with their numbers' slices.
-/
namespace Go.Proofs.YtabpaaahobakpaaGreat
open Go.RowKit

/-- Windows, as they are read, none of it in some blocks. -/
def WinsX (X : List Nat) (w : World) (v : Value) (l : List Win) : Prop := InX X w v ∧ ∃ cs, RowR w v l.length cs ∧ ListR (winR X w) l cs
theorem WinsX.below {X : List Nat} {w w' : World} {v : Value} {l : List Win} (h : WinsX X w v l) (hb : Below w.heap.size w w') : WinsX X w' v l := by
  obtain ⟨h0, cs, h1, h2⟩ := h
  exact ⟨h0.keep (KeepX.below hb) (MoreX.refl _ _), cs, h1.below hb, h2.mono (winR.keep (KeepX.below hb) (MoreX.refl _ _))⟩
theorem WinsX.form {X : List Nat} {w : World} {v : Value} {l : List Win} (h : WinsX X w v l) : ∃ a c, v = .slice a l.length c := by
  obtain ⟨_, cs, h1, _⟩ := h
  exact h1.form
/-- The windows and their numbers' slices. -/
theorem ListR.wins {X : List Nat} {w : World} : ∀ {l : List Win} {cs : List Value}, ListR (winR X w) l cs → ∃ ws : List (Win × Value), ws.map Prod.fst = l ∧ (∀ p ∈ ws, IRow w p.2 p.1.seen ∧ InX X w p.2) ∧ cs = ws.flatMap (fun p => (p.1.cells p.2).toList)
  | [], cs, h => ⟨[], rfl, by simp, by rw [show cs = [] from h]; rfl⟩
  | x :: l, cs, ⟨c, cs', e, ⟨s, e2, h1, h2⟩, h3⟩ => by
    obtain ⟨ws, p1, p2, p3⟩ := ListR.wins h3
    refine ⟨(x, s) :: ws, by simp [p1], fun p hp => ?_, by rw [e, e2, p3]; simp⟩
    rcases List.mem_cons.1 hp with rfl | hp
    · exact ⟨h1, h2⟩
    · exact p2 p hp
/-- One of them, read. -/
theorem WinsX.at {X : List Nat} {w : World} {v : Value} {l : List Win} (h : WinsX X w v l) (i : Nat) (hi : i < l.length) : ∃ ad c s, v = .slice (some ad) l.length c ∧ w.cell? (ad.add (i * 3)) = some (.string l[i].key) ∧ w.cell? ⟨(ad.add (i * 3)).block, (ad.add (i * 3)).off + 1, Option.none⟩ = some (.int .i64 l[i].top) ∧ w.cell? ⟨(ad.add (i * 3)).block, (ad.add (i * 3)).off + 2, Option.none⟩ = some s ∧ IRow w s l[i].seen ∧ InX X w s := by
  obtain ⟨_, cs, h1, h2⟩ := h
  rcases h1 with ⟨_, h3, _⟩ | ⟨ad, c, rfl, _, _, h5⟩
  · omega
  obtain ⟨d, ⟨s, rfl, h6, h8⟩, h7⟩ := ListR.get winR.len i hi h2
  refine ⟨ad, c, s, rfl, h5 _ _ (h7 0 _ rfl), ?_, ?_, h6, h8⟩
  · have q := h5 _ _ (h7 1 _ rfl)
    rw [Addr.add_succ' ad (i * 3)] at q
    rw [add_block, add_off, Nat.add_assoc]
    exact q
  · have q := h5 _ _ (h7 2 _ rfl)
    rw [Addr.add_succ' ad (i * 3 + 1)] at q
    rw [add_block, add_off, Nat.add_assoc]
    exact q
end Go.Proofs.YtabpaaahobakpaaGreat
/-
  A world in which one hears a frame, as plain words.
-/
namespace Go.Proofs.YtabpaaahobakpaaGreat
open Go.RowKit

end Go.Proofs.YtabpaaahobakpaaGreat
/-
  A region that draws its order: if each operation that may come up keeps an invariant, the region leaves it, whatever order is drawn.
-/
namespace Go.Proofs.YtabpaaahobakpaaGreat

end Go.Proofs.YtabpaaahobakpaaGreat
/-
  A region that draws its order and whose last operation waits for all others: those ahead of it keep an invariant, whatever order is drawn, and the last one ends it.
-/
namespace Go.Proofs.YtabpaaahobakpaaGreat

end Go.Proofs.YtabpaaahobakpaaGreat
/-
  A region that draws its order, whose operations make memory but write none that was there, but for the last one, which waits for all: whatever order is drawn, what each yields is told by a relation that every later world keeps; behind it the slots are laid open.
-/
namespace Go.Proofs.YtabpaaahobakpaaGreat
open Go.RowKit

end Go.Proofs.YtabpaaahobakpaaGreat
/-
  A region that draws its order, whose operations make memory but write none that was there, but for the last one: two of its new rows lie apart.
-/
namespace Go.Proofs.YtabpaaahobakpaaGreat
open Go.RowKit

end Go.Proofs.YtabpaaahobakpaaGreat
/-
 The specification's l7Cmt: a commit in new memory.
-/
namespace Go.Proofs.YtabpaaahobakpaaGreat
open Go.RowKit
end Go.Proofs.YtabpaaahobakpaaGreat
/-
 The specification's l6Wins: windows in new memory.
-/
namespace Go.Proofs.YtabpaaahobakpaaGreat
open Go.RowKit
end Go.Proofs.YtabpaaahobakpaaGreat
/-
  Worlds in new memory: rows that grow, and what is asked of sizes.
-/
namespace Go.Proofs.YtabpaaahobakpaaGreat
open Go.RowKit

/-- One seat more. -/
theorem Rows.appSeats {X L : List Nat} {B : Nat} {w : World} {a b c d e f g h i j : Value} {W : Wld} (q : Rows X L B w (rowsOf a b c d e f g h i j W)) :
    ∃ cs, w.ownsRow B 42 7 a W.seats.length cs ∧ ∀ (x : Mem) (ks os v : Value) (w' : World), SRow w ks x.keys → RowR w os x.own.length (mcells x.own) → InX X w ks → InX X w os →
      w'.ownsRow B 42 7 v (W.seats.length + 1) (cs ++ (x.cells ks os).toList) → w.grownBy w' a.ownBlock → (v.ownBlock = a.ownBlock ∨ v.ownBlock = some w.heap.size) →
      ∃ X', Rows X' L B w' (rowsOf v b c d e f g h i j { W with seats := W.seats ++ [x] }) ∧ MoreX X X' w := by
  obtain ⟨cs, h1, h2⟩ := q.own _ (List.mem_of_getElem? (i := 0) rfl)
  refine ⟨cs, h1, fun x ks os v w' p1 p2 p3 p4 ho hg hat => ?_⟩
  have hkx : KeepX X w w' := KeepX.grown hg (fun z hz => q.inx _ (List.mem_of_getElem? (i := 0) rfl) z hz)
  exact q.upd 0 (Nat.le_of_ble_eq_true rfl) ⟨42, 7, v, (W.seats ++ [x]).length, fun X w => ListR (seatR X w) (W.seats ++ [x])⟩ hg (by show World.ownsRow _ _ _ _ _ (W.seats ++ [x]).length _; rw [List.length_append]; exact ho) (stays_seat _) hat
    (fun X' hm => ListR.app (ListR.mono (seatR.keep hkx hm) h2) (ListR.one ⟨ks, os, rfl, p1.keepX p3 hkx, p2.keepX p4 hkx, p3.keep hkx hm, p4.keep hkx hm⟩))
/-- One's windows more. -/
theorem Rows.appWins {X L : List Nat} {B : Nat} {w : World} {a b c d e f g h i j : Value} {W : Wld} (q : Rows X L B w (rowsOf a b c d e f g h i j W)) :
    ∃ cs, w.ownsRow B 58 1 i W.wins.length cs ∧ ∀ (l : List Win) (y v : Value) (w' : World), WinsX X w y l →
      w'.ownsRow B 58 1 v (W.wins.length + 1) (cs ++ [y]) → w.grownBy w' i.ownBlock → (v.ownBlock = i.ownBlock ∨ v.ownBlock = some w.heap.size) →
      ∃ X', Rows X' L B w' (rowsOf a b c d e f g h v j { W with wins := W.wins ++ [l] }) ∧ MoreX X X' w := by
  obtain ⟨cs, h1, h2⟩ := q.own _ (List.mem_of_getElem? (i := 8) rfl)
  refine ⟨cs, h1, fun l y v w' p1 ho hg hat => ?_⟩
  obtain ⟨p2, ds, p3, p4⟩ := p1
  have hkx : KeepX X w w' := KeepX.grown hg (fun z hz => q.inx _ (List.mem_of_getElem? (i := 8) rfl) z hz)
  exact q.upd 8 (Nat.le_of_ble_eq_true rfl) ⟨58, 1, v, (W.wins ++ [l]).length, fun X w => ListR (winsR X w) (W.wins ++ [l])⟩ hg (by show World.ownsRow _ _ _ _ _ (W.wins ++ [l]).length _; rw [List.length_append]; exact ho) (stays_wins _) hat
    (fun X' hm => ListR.app (ListR.mono (winsR.keep hkx hm) h2) (ListR.one ⟨y, ds, rfl, p3.keepX p2 hkx, p4.mono (winR.keep hkx hm), p2.keep hkx hm⟩))
theorem rowT_mm : RowT Tryz.prog 24 42 7 104 := rowT_of (show Tryz.prog.underlying 24 = some (.slice 42) by kernel_rfl) (show (Tryz.prog.info? 42).map (fun i => (i.zero, i.size, i.bytes)) = some (some (.agg noMem), 7, 104) by kernel_rfl) rfl (by decide)
theorem rowT_ww : RowT Tryz.prog 31 58 1 24 := rowT_of (show Tryz.prog.underlying 31 = some (.slice 58) by kernel_rfl) (show (Tryz.prog.info? 58).map (fun i => (i.zero, i.size, i.bytes)) = some (some (.slice Option.none 0 0), 1, 24) by kernel_rfl) rfl (by decide)
theorem Rows.flat {B : Nat} {w : World} {rs : List RowD} {L : List Nat} (hst : ∀ r ∈ rs, Stays r.P) (hown : ∀ r ∈ rs, ∃ cs, w.ownsRow B r.e r.size r.v r.n cs ∧ ∀ X, r.P X w cs) (hap : rs.Pairwise fun r r' => r.v.ownBlock = Option.none ∨ r.v.ownBlock ≠ r'.v.ownBlock) (hL : ∀ b ∈ L, b < w.heap.size ∧ ∀ r ∈ rs, r.v.ownBlock ≠ some b) : Rows (L ++ rs.filterMap fun r => r.v.ownBlock) L B w rs :=
  ⟨fun b hb => ⟨List.mem_append_left _ hb, (hL b hb).2⟩, fun b hb => by
    rcases List.mem_append.1 hb with h | h
    · exact (hL b h).1
    · obtain ⟨r, hr, e⟩ := List.mem_filterMap.1 h
      obtain ⟨cs, h1, _⟩ := hown r hr
      exact (h1.lt b e).2, fun r hr b hb => List.mem_append_right _ (List.mem_filterMap.2 ⟨r, hr, hb⟩), hst, fun r hr => by
    obtain ⟨cs, h1, h2⟩ := hown r hr
    exact ⟨cs, h1, h2 _⟩, hap⟩
end Go.Proofs.YtabpaaahobakpaaGreat
/-
  Trees without keys: TreNew of the specification.
-/
namespace Go.Proofs.YtabpaaahobakpaaGreat
open Go.RowKit

/-- No keys. -/
def bare : List ByteArray := List.replicate 15 ByteArray.empty
theorem grownBy_setCell0 (W : World) (b : Nat) (v : Value) : W.grownBy (W.setCell ⟨b, 0, none⟩ v) (some b) :=
  ⟨rfl, rfl, rfl, by simp [World.setCell], fun k _ hk => Below.heap_setCell _ _ _ k (fun e => hk (by rw [e]))⟩

set_option maxRecDepth 100000 in
set_option maxHeartbeats 1000000 in
theorem sTreNew_any (w : World) : Calls Tryz.prog 91 #[] w fun e w' => ∃ v, e = .returned (.agg #[v]) ∧ Own w.heap.size w' v bare ∧ Below w.heap.size w w' := by
  obtain ⟨i0, hi, hz0, hz1, hz2⟩ := info_parts info_str2
  have hI := hide (And.intro hi (And.intro hz0 hz1))
  have hB2 : Hid (i0.bytes * 15 ≤ 281474976710656) := by show _ ≤ _; rw [hz2]; omega
  clear hi hz0 hz1 hz2
  go_enter Tryz.func91, Tryz.ntmps91
  go_wp2_with (at_make; refine wpList_make_full _ rfl _ _ 28 rfl w.heap.size 9 i0 (.string ⟨#[]⟩) 1 Tryz.underlying28 (unhide hI).1 (unhide hI).2.1 (unhide hI).2.2 _ _ _ _ 15 rfl rfl rfl rfl (unhide hB2) (by unfold maxLen; omega) (by simp) ?_)
  intro w1 hown hgrow
  have hO1 : Hid (Own w.heap.size w1 (.slice (some ⟨w.heap.size + 1, 0, none⟩) 15 15) bare) := by
    have e : (madeCells #[Value.string ⟨#[]⟩] 15).toList = bare.map Value.string := by
      simp [madeCells, Nat.mod_one, List.map_const', bare]; rfl
    rw [e] at hown
    exact hown
  have hL1 : Hid (Below w.heap.size w w1) := ((Below.refl _ _).alloc (Nat.le_refl _) _).grown hgrow (by simp) (fun k hk => by cases hk)
  have hblk : w1.heap[w.heap.size]? = some (.cells #[.slice none 0 0] 39) := (hgrow.block w.heap.size (by simp) (by simp)).trans (World.alloc_heap_new w _)
  have hc : w1.cell? ⟨w.heap.size, 0, none⟩ = some (.slice none 0 0) := by simp [World.cell?, hblk]
  have hf : w1.frozen? ⟨w.heap.size, 0, none⟩ = false := by simp [World.frozen?, hblk]
  clear hown hgrow
  go_wp2_with fail
  refine bodyPost_ret (v := .agg #[.slice (some ⟨w.heap.size + 1, 0, none⟩) 15 15]) (by simp [results, Tryz.results91, go_sem, hc]) rfl ⟨_, rfl, ?_, (unhide hL1).setCell (p := ⟨w.heap.size, 0, none⟩) (Nat.le_refl _) _⟩
  refine World.ownsRow.kept (unhide hO1) (grownBy_setCell0 w1 w.heap.size _) (.inr ?_)
  simp [Value.ownBlock]

end Go.Proofs.YtabpaaahobakpaaGreat
/-
  The specification's MemFirst.
-/
namespace Go.Proofs.YtabpaaahobakpaaGreat
open Go.RowKit

/-- Whether MemFirst makes one. -/
def fstOk (p : Int) (s t : ByteArray) : Prop := (0 ≤ p ∧ p ≤ 7) ∧ maySet s = true ∧ Kw.ok t = true
instance (p : Int) (s t : ByteArray) : Decidable (fstOk p s t) := by unfold fstOk; infer_instance
/-- What MemFirst answers. -/
def fstOf (p : Int) (s t : ByteArray) : Mem := if fstOk p s t then ⟨true, p, setKeys bare p.toNat s, pathOf (chainOf (7 + p)) s, 0, t, ⟨#[]⟩⟩ else Mem.none
theorem fst_no {p : Int} {s t : ByteArray} (h : ¬ fstOk p s t) : fstOf p s t = Mem.none := by unfold fstOf; rw [if_neg h]
theorem fst_yes {p : Int} {s t : ByteArray} (h : fstOk p s t) : fstOf p s t = ⟨true, p, setKeys bare p.toNat s, pathOf (chainOf (7 + p)) s, 0, t, ⟨#[]⟩⟩ := by unfold fstOf; rw [if_pos h]

set_option maxRecDepth 100000 in
set_option maxHeartbeats 4000000 in
theorem sMemFirst_any (p : Int) (s t : ByteArray) (w : World) (hs : s.size ≤ maxLen) (ht : t.size ≤ maxLen) :
    Calls Tryz.prog 30 #[.int .i64 p, .string s, .string t] w fun e w' => ∃ v, e = .returned v ∧ MemO w.heap.size w' v (fstOf p s t) ∧ Below w.heap.size w w' := by
  have HS := hide hs
  have HT := hide ht
  unfold maxLen at hs ht
  have HB0 : Hid (Below w.heap.size w (w.alloc (.cells noMem 42))) := (Below.refl _ _).alloc (Nat.le_refl _) _
  have A0 := hide (Blk.new w 42 noMem)
  have hs0 : (w.alloc (.cells noMem 42)).heap.size = w.heap.size + 1 := by simp
  by_cases hp : 0 ≤ p ∧ p ≤ 7
  · obtain ⟨k, rfl⟩ : ∃ k : Nat, p = (k : Int) := ⟨p.toNat, by omega⟩
    have hk8 : k < 8 := by omega
    have HK8 := hide hk8
    clear hp
    go_enter Tryz.func30, Tryz.ntmps30
    go_wp2_with fail
    refine (l1In_yes _ _ _ _ (by omega) (by omega)).mono ?_
    rintro e wa ⟨rfl, rfl⟩
    go_wp2_with fail
    refine (sSecOk_any s _ HS.out).mono ?_
    rintro e w1 ⟨rfl, hb1⟩
    have A1 := hide ((unhide A0).below hb1)
    have HB1 := hide (HB0.out.trans (hb1.mono HB0.out.size))
    have hs1 := hb1.size
    rw [hs0] at hs1
    clear hb1 A0 HB0 hs0
    cases hos : Kw.ok s with
    | false =>
      have HE : Hid (¬ fstOk (k : Int) s t) := by show ¬ _; unfold fstOk maySet; rw [hos]; simp
      have l1 := load_mm ((unhide A1).set noMem) rfl
      have HB2 := hide (below_blk (unhide HB1) (Nat.le_refl _) noMem)
      clear hos
      go_wp2_with (refine wpList_store_whole rfl 42 _ _ rfl w.heap.size noMem rfl rfl 42 _ (unhide A1) info_mm rfl (one_mm _ _ _ _ _ _ _ _ _ _ _) ?_)
      refine bodyPost_ret (v := .agg noMem) (results_cell rfl rfl l1) rfl ⟨_, rfl, ?_, unhide HB2⟩
      rw [fst_no HE.out]
      exact MemO.none _ _
    | true =>
      have HOS := hide hos
      clear hos
      go_wp2_with fail
      refine (sSecOk_any t _ HT.out).mono ?_
      rintro e w2 ⟨rfl, hb2⟩
      have A2 := hide ((unhide A1).below hb2)
      have HB2 := hide (HB1.out.trans (hb2.mono HB1.out.size))
      have hs2 := hb2.size
      clear hb2 A1 HB1
      cases hot : Kw.ok t with
      | false =>
        have HE : Hid (¬ fstOk (k : Int) s t) := by show ¬ _; unfold fstOk; rw [hot]; simp
        have l1 := load_mm ((unhide A2).set noMem) rfl
        have HB3 := hide (below_blk (unhide HB2) (Nat.le_refl _) noMem)
        clear hot
        go_wp2_with (refine wpList_store_whole rfl 42 _ _ rfl w.heap.size noMem rfl rfl 42 _ (unhide A2) info_mm rfl (one_mm _ _ _ _ _ _ _ _ _ _ _) ?_)
        refine bodyPost_ret (v := .agg noMem) (results_cell rfl rfl l1) rfl ⟨_, rfl, ?_, unhide HB3⟩
        rw [fst_no HE.out]
        exact MemO.none _ _
      | true =>
        have HOT := hide hot
        clear hot
        by_cases hsz : s.size ≤ 292
        · have hsz2 : decide ((292 : Int) < (s.size : Int)) = false := by simp; omega
          have HE : Hid (fstOk (k : Int) s t) := ⟨by have := HK8.out; omega, by unfold maySet; rw [HOS.out]; simpa using hsz, HOT.out⟩
          go_wp2_with fail
          refine (sTreNew_any _).mono ?_
          rintro e w3 ⟨v3, rfl, ho3, hb3⟩
          have A3 := hide ((unhide A2).below hb3)
          have HB3 := hide (HB2.out.trans (hb3.mono HB2.out.size))
          have hs3 := hb3.size
          obtain ⟨g, c, rfl, hg1, hg2, hg3, hg4⟩ := row15 (show w3.ownsRow w2.heap.size 9 1 v3 15 (bare.map Value.string) from ho3)
          have O3 : Hid (w3.ownsRow w2.heap.size 9 1 (.slice (some ⟨g, 0, none⟩) 15 c) 15 (bare.map Value.string)) := ho3
          clear ho3 hb3 A2 HB2
          go_wp2_with fail
          refine (l3Set_any w2.heap.size g c bare rfl k HK8.out s (by omega) _ (unhide O3)).mono ?_
          rintro e w5 ⟨rfl, ho5, hg⟩
          have A5 := hide ((unhide A3).kept hg (Blk.not_row (unhide A3) (by decide) (unhide O3)))
          have HB5 : Hid (Below w.heap.size w w5) := (unhide HB3).grown hg HB3.out.size (fun z hz => by cases hz; omega)
          have O5 := hide ho5
          have hs5 := hg.size
          clear ho5 hg A3 HB3 O3
          go_wp2_with fail
          refine (sTreLeaf_any _ _).mono ?_
          rw [show leafOf (k : Int) = ((7 + k : Nat) : Int) by unfold leafOf; rw [if_pos (by have := HK8.out; omega)]; omega]
          rintro e wz ⟨rfl, rfl⟩
          go_wp2_with fail
          refine (l4Path_any (7 + k) (by have := HK8.out; omega) s (by omega) _).mono ?_
          rintro e w6 ⟨v6, rfl, ho6, hb6⟩
          obtain ⟨oo, oc, hv6⟩ := row_form' ho6
          subst hv6
          generalize hPL : (pathOf (chainOf ((7 + k : Nat) : Int)) s).length = PL at *
          have A6 := hide ((unhide A5).below hb6)
          have HB6 := hide (HB5.out.trans (hb6.mono HB5.out.size))
          have O6 := hide (own_below' (unhide O5) hb6)
          have M6 := hide ho6
          have hs6 := hb6.size
          have HPL := hide hPL
          clear ho6 hb6 A5 HB5 O5 hPL
          have l1 := load_mm ((unhide A6).set (memC true (k : Int) (.slice (some ⟨g, 0, none⟩) 15 c) (.slice oo PL oc) 0 t ⟨#[]⟩)) rfl
          have HB7 := hide (below_blk (unhide HB6) (Nat.le_refl _) (memC true (k : Int) (.slice (some ⟨g, 0, none⟩) 15 c) (.slice oo PL oc) 0 t ⟨#[]⟩))
          have O7 := hide (row_blk (unhide O6) (unhide A6) (by decide) (memC true (k : Int) (.slice (some ⟨g, 0, none⟩) 15 c) (.slice oo PL oc) 0 t ⟨#[]⟩))
          have M7 := hide (row_blk (unhide M6) (unhide A6) (by decide) (memC true (k : Int) (.slice (some ⟨g, 0, none⟩) 15 c) (.slice oo PL oc) 0 t ⟨#[]⟩))
          go_wp2_with (refine wpList_store_whole rfl 42 _ _ rfl w.heap.size (memC true (k : Int) (.slice (some ⟨g, 0, none⟩) 15 c) (.slice oo PL oc) 0 t ⟨#[]⟩) rfl rfl 42 _ (unhide A6) info_mm rfl (one_mm _ _ _ _ _ _ _ _ _ _ _) ?_)
          refine bodyPost_ret (v := .agg (memC true (k : Int) (.slice (some ⟨g, 0, none⟩) 15 c) (.slice oo PL oc) 0 t ⟨#[]⟩)) (results_cell rfl rfl l1) rfl ⟨_, rfl, ?_, unhide HB7⟩
          rw [fst_yes HE.out]
          refine ⟨_, _, rfl, ?_, ?_⟩
          · unfold Own
            rw [setKeys_len, show ((k : Int)).toNat = k from rfl]
            exact row_lowB (unhide O7) (by omega)
          · rw [show (7 + (k : Int)) = ((7 + k : Nat) : Int) by omega]
            exact row_lowB (unhide M7) (by omega)
        · have hsz2 : (292 : Int) < (s.size : Int) := by omega
          have HE : Hid (¬ fstOk (k : Int) s t) := by show ¬ _; unfold fstOk maySet; rw [HOS.out]; simp; omega
          have l1 := load_mm ((unhide A2).set noMem) rfl
          have HB3 := hide (below_blk (unhide HB2) (Nat.le_refl _) noMem)
          go_wp2_with (refine wpList_store_whole rfl 42 _ _ rfl w.heap.size noMem rfl rfl 42 _ (unhide A2) info_mm rfl (one_mm _ _ _ _ _ _ _ _ _ _ _) ?_)
          refine bodyPost_ret (v := .agg noMem) (results_cell rfl rfl l1) rfl ⟨_, rfl, ?_, unhide HB3⟩
          rw [fst_no HE.out]
          exact MemO.none _ _
  · have HE : Hid (¬ fstOk p s t) := fun q => hp q.1
    have l1 := load_mm ((unhide A0).set noMem) rfl
    have HB3 := hide (below_blk (unhide HB0) (Nat.le_refl _) noMem)
    have HP := hide hp
    clear hp
    go_enter Tryz.func30, Tryz.ntmps30
    go_wp2_with fail
    refine (l1In_no _ _ _ _ (by have := HP.out; omega)).mono ?_
    rintro e wa ⟨rfl, rfl⟩
    go_wp2_with (refine wpList_store_whole rfl 42 _ _ rfl w.heap.size noMem rfl rfl 42 _ (unhide A0) info_mm rfl (one_mm _ _ _ _ _ _ _ _ _ _ _) ?_)
    refine bodyPost_ret (v := .agg noMem) (results_cell rfl rfl l1) rfl ⟨_, rfl, ?_, unhide HB3⟩
    rw [fst_no HE.out]
    exact MemO.none _ _
end Go.Proofs.YtabpaaahobakpaaGreat
/-
  A group that begins, as plain words.
-/
namespace Go.Proofs.YtabpaaahobakpaaGreat
open Go.RowKit

/-- The first j seats of who begins, and its numbers. -/
def newN (who j : Nat) : Wld :=
  { Wld.none with seats := (List.range j).map (fun k => if k = who then fstOf (who : Int) (mkNew (who : Int) 1) (mkNew (who : Int) 2) else Mem.none), fresh := (List.range j).map (fun k => if k = who then 2 else 0), said := (List.range j).map (fun _ => 0), wins := (List.range j).map (fun _ => []) }
def newW (who : Nat) : Wld := newN who 8
theorem newN_len (who j : Nat) : (newN who j).seats.length = j ∧ (newN who j).fresh.length = j ∧ (newN who j).said.length = j ∧ (newN who j).wins.length = j := by unfold newN; simp
theorem newN_next (who j : Nat) : ({ newN who j with seats := (newN who j).seats ++ [if j = who then fstOf (who : Int) (mkNew (who : Int) 1) (mkNew (who : Int) 2) else Mem.none], fresh := (newN who j).fresh ++ [if j = who then 2 else 0], said := (newN who j).said ++ [0], wins := (newN who j).wins ++ [[]] } : Wld) = newN who (j + 1) := by
  unfold newN
  simp only [List.range_succ, List.map_append, List.map_cons, List.map_nil]
theorem Rows.appFresh {X L : List Nat} {B : Nat} {w : World} {a b c d e f g h i j : Value} {W : Wld} (q : Rows X L B w (rowsOf a b c d e f g h i j W)) :
    ∃ cs, w.ownsRow B 3 1 d W.fresh.length cs ∧ ∀ (x : Int) (v : Value) (w' : World), w'.ownsRow B 3 1 v (W.fresh.length + 1) (cs ++ [.int .i64 x]) → w.grownBy w' d.ownBlock → (v.ownBlock = d.ownBlock ∨ v.ownBlock = some w.heap.size) →
      ∃ X', Rows X' L B w' (rowsOf a b c v e f g h i j { W with fresh := W.fresh ++ [x] }) ∧ MoreX X X' w := by
  obtain ⟨cs, h1, h2⟩ := q.own _ (List.mem_of_getElem? (i := 3) rfl)
  refine ⟨cs, h1, fun x v w' ho hg hat => ?_⟩
  exact q.upd 3 (Nat.le_of_ble_eq_true rfl) ⟨3, 1, v, (W.fresh ++ [x]).length, fun _ _ => ListR intR (W.fresh ++ [x])⟩ hg (by show World.ownsRow _ _ _ _ _ (W.fresh ++ [x]).length _; rw [List.length_append]; exact ho) (stays_flat _ _) hat (fun _ _ => ListR.app h2 (ListR.one rfl))
theorem Rows.appSaid {X L : List Nat} {B : Nat} {w : World} {a b c d e f g h i j : Value} {W : Wld} (q : Rows X L B w (rowsOf a b c d e f g h i j W)) :
    ∃ cs, w.ownsRow B 3 1 h W.said.length cs ∧ ∀ (x : Int) (v : Value) (w' : World), w'.ownsRow B 3 1 v (W.said.length + 1) (cs ++ [.int .i64 x]) → w.grownBy w' h.ownBlock → (v.ownBlock = h.ownBlock ∨ v.ownBlock = some w.heap.size) →
      ∃ X', Rows X' L B w' (rowsOf a b c d e f g v i j { W with said := W.said ++ [x] }) ∧ MoreX X X' w := by
  obtain ⟨cs, h1, h2⟩ := q.own _ (List.mem_of_getElem? (i := 7) rfl)
  refine ⟨cs, h1, fun x v w' ho hg hat => ?_⟩
  exact q.upd 7 (Nat.le_of_ble_eq_true rfl) ⟨3, 1, v, (W.said ++ [x]).length, fun _ _ => ListR intR (W.said ++ [x])⟩ hg (by show World.ownsRow _ _ _ _ _ (W.said ++ [x]).length _; rw [List.length_append]; exact ho) (stays_flat _ _) hat (fun _ _ => ListR.app h2 (ListR.one rfl))
/-- A world of nothing. -/
theorem rows_none {B : Nat} {w : World} (L : List Nat) (hL : ∀ b ∈ L, b < w.heap.size) : ∃ X, Rows X L B w (rowsOf (.slice Option.none 0 0) (.slice Option.none 0 0) (.slice Option.none 0 0) (.slice Option.none 0 0) (.slice Option.none 0 0) (.slice Option.none 0 0) (.slice Option.none 0 0) (.slice Option.none 0 0) (.slice Option.none 0 0) (.slice Option.none 0 0) Wld.none) := by
  have key : ∀ r ∈ rowsOf (.slice Option.none 0 0) (.slice Option.none 0 0) (.slice Option.none 0 0) (.slice Option.none 0 0) (.slice Option.none 0 0) (.slice Option.none 0 0) (.slice Option.none 0 0) (.slice Option.none 0 0) (.slice Option.none 0 0) (.slice Option.none 0 0) Wld.none, r.v.ownBlock = Option.none ∧ Stays r.P ∧ ∃ cs, w.ownsRow B r.e r.size r.v r.n cs ∧ ∀ X, r.P X w cs := by
    intro r hr
    simp only [rowsOf, List.mem_cons, List.not_mem_nil, or_false] at hr
    have nil : ∀ (e : TypeId) (s : Nat), w.ownsRow B e s (.slice Option.none 0 0) 0 [] := fun e s => ⟨by simp, .inl ⟨rfl, rfl⟩⟩
    rcases hr with rfl | rfl | rfl | rfl | rfl | rfl | rfl | rfl | rfl | rfl
    · exact ⟨rfl, stays_seat _, [], nil _ _, fun _ => rfl⟩
    · exact ⟨rfl, stays_flat _ _, [], nil _ _, fun _ => rfl⟩
    · exact ⟨rfl, stays_cmt _, [], nil _ _, fun _ => rfl⟩
    · exact ⟨rfl, stays_flat _ _, [], nil _ _, fun _ => rfl⟩
    · exact ⟨rfl, stays_flat _ _, [], nil _ _, fun _ => rfl⟩
    · exact ⟨rfl, stays_flat _ _, [], nil _ _, fun _ => rfl⟩
    · exact ⟨rfl, stays_flat _ _, [], nil _ _, fun _ => rfl⟩
    · exact ⟨rfl, stays_flat _ _, [], nil _ _, fun _ => rfl⟩
    · exact ⟨rfl, stays_wins _, [], nil _ _, fun _ => rfl⟩
    · exact ⟨rfl, stays_flat _ _, [], nil _ _, fun _ => rfl⟩
  refine ⟨_, Rows.flat (fun r hr => (key r hr).2.1) (fun r hr => (key r hr).2.2) ?_ (fun b hb => ⟨hL b hb, fun r hr e => by rw [(key r hr).1] at e; cases e⟩)⟩
  rw [List.pairwise_iff_getElem]
  intro i j hi hj hij
  exact .inl (key _ (List.getElem_mem hi)).1
end Go.Proofs.YtabpaaahobakpaaGreat
/-
  A group that begins, of both sides: what can be read of it.
-/
namespace Go.Proofs.YtabpaaahobakpaaGreat
open Go.RowKit

theorem listR_int : ∀ {xs : List Int} {cs : List Value}, ListR intR xs cs → cs = xs.map (Value.int .i64)
  | [], _, h => h
  | x :: r, cs, ⟨c, ds, e, h1, h2⟩ => by
    rw [e, show c = [.int .i64 x] from h1, listR_int h2]
    rfl
theorem fresh_new {who : Nat} (hw : who < 8) : (List.replicate 8 (Value.int .i64 0)).set who (.int .i64 2) = (newW who).fresh.map (Value.int .i64) := by
  rcases (by omega : who = 0 ∨ who = 1 ∨ who = 2 ∨ who = 3 ∨ who = 4 ∨ who = 5 ∨ who = 6 ∨ who = 7) with rfl | rfl | rfl | rfl | rfl | rfl | rfl | rfl <;> rfl
theorem len_new (who : Nat) : (newW who).seats.length = 8 ∧ (newW who).fresh.length = 8 ∧ (newW who).said.length = 8 ∧ (newW who).wins.length = 8 := newN_len who 8
theorem seat_new {who k : Nat} (hk : k < 8) : (newW who).seats[k]? = some (if k = who then fstOf (who : Int) (mkNew (who : Int) 1) (mkNew (who : Int) 2) else Mem.none) := by
  unfold newW newN
  simp only
  rw [List.getElem?_map, List.getElem?_range hk]
  rfl
theorem wins_new {who k : Nat} (hk : k < 8) : (newW who).wins[k]? = some [] := by
  unfold newW newN
  simp only
  rw [List.getElem?_map, List.getElem?_range hk]
  rfl
theorem sx_at (who : Nat) (x : Sx) (k : Nat) (hk : k < 8) : ((List.replicate 8 sx0).set who x)[k]? = some (if k = who then x else sx0) := by
  rw [List.getElem?_set]
  by_cases e : who = k
  · subst e
    rw [if_pos rfl, if_pos (by simpa using hk), if_pos rfl]
  · rw [if_neg e, List.getElem?_replicate, if_pos hk, if_neg (Ne.symm e)]
theorem srow_zero (who q : Nat) (x : Sx) : srow who q x 0 = (List.replicate 8 sx0).set who x := by
  apply List.ext_getElem?
  intro k
  by_cases hk : k < 8
  · rw [srow_at hk, sx_at who x k hk, if_neg (by omega)]
    rfl
  · rw [List.getElem?_eq_none (by rw [srow_len]; omega), List.getElem?_eq_none (by rw [List.length_set]; simp; omega)]

theorem newP_rows {X L : List Nat} {B : Nat} {w : World} {t0 t1 t2 t3 t4 t5 t6 t7 t8 t9 : Value} {who : Nat} (q : Rows X L B w (rowsOf t0 t1 t2 t3 t4 t5 t6 t7 t8 t9 (newW who))) :
    NewP w (.agg (wldC t0 t1 t2 t3 t4 t5 t6 t7 t8 t9)) (newW who).seats (newW who).fresh (newW who).said 8 := by
  obtain ⟨⟨a0, p0, rfl⟩, ⟨a1, p1, rfl⟩, ⟨a2, p2, rfl⟩, ⟨a3, p3, rfl⟩, ⟨a4, p4, rfl⟩, ⟨a5, p5, rfl⟩, ⟨a6, p6, rfl⟩, ⟨a7, p7, rfl⟩, ⟨a8, p8, rfl⟩, ⟨a9, p9, rfl⟩⟩ := q.forms
  have hl := len_new who
  refine ⟨_, _, _, _, a1, a2, a4, a5, a6, a9, p1, p2, p4, p5, p6, p9, rfl, ?_, ?_, ?_, ?_⟩
  · obtain ⟨g, c, _, _, e, _⟩ := q.seat 0 (by omega)
    simp only [Value.slice.injEq] at e
    obtain ⟨rfl, _, rfl⟩ := e
    refine ⟨g, p0, rfl, fun k m hm => ?_⟩
    have hk : k < (newW who).seats.length := (List.getElem?_eq_some_iff.1 hm).1
    obtain ⟨g', c', ks, os, e, h1, h2, h3⟩ := q.seat k hk
    simp only [Value.slice.injEq, Option.some.injEq, Addr.mk.injEq, and_true] at e
    obtain ⟨rfl, _⟩ := e
    rw [(List.getElem?_eq_some_iff.1 hm).2] at h1 h2 h3
    exact ⟨ks, os, h1, h2, h3.mrow⟩
  · obtain ⟨cs, h1, h2⟩ := q.own _ (List.mem_of_getElem? (i := 3) rfl)
    rw [listR_int h2] at h1
    exact OwnI.irow h1
  · obtain ⟨cs, h1, h2⟩ := q.own _ (List.mem_of_getElem? (i := 7) rfl)
    rw [listR_int h2] at h1
    exact OwnI.irow h1
  · obtain ⟨cs, h1, h2⟩ := q.own _ (List.mem_of_getElem? (i := 8) rfl)
    obtain ⟨g, c, e, _⟩ := row_some h1 (by show 0 < (newW who).wins.length; omega)
    have e' : Value.slice a8 (newW who).wins.length p8 = .slice (some ⟨g, 0, none⟩) (newW who).wins.length c := e
    simp only [Value.slice.injEq] at e'
    obtain ⟨rfl, _, rfl⟩ := e'
    refine ⟨g, p8, by rw [hl.2.2.2], fun k hk => ?_⟩
    obtain ⟨d, ⟨v, ds, rfl, r, _, _⟩, hd⟩ := ListR.get winsR.len k (by omega) h2
    have hw := wins_new (who := who) hk
    rw [List.getElem?_eq_getElem (by omega)] at hw
    rw [Option.some.inj hw] at r
    have p4 := World.ownsRow.cells h1 (g := g) rfl (k * 1 + 0) v (hd 0 v rfl)
    rw [Addr.add_lit, Nat.zero_add, Nat.mul_one, Nat.add_zero] at p4
    rcases r with ⟨rfl, _, _⟩ | ⟨ad, cc, rfl, _⟩
    · exact ⟨none, 0, p4⟩
    · exact ⟨some ad, cc, p4⟩
theorem newP_own {B : Nat} {w : World} {g0 c0 g8 c8 : Nat} {s3 s7 ks os : Value} {who : Nat} {m : Mem} (hm : fstOf (who : Int) (mkNew (who : Int) 1) (mkNew (who : Int) 2) = m)
    (a1 a2 a4 a5 a6 a9 : Option Addr) (p1 p2 p4 p5 p6 p9 : Nat)
    (h0 : w.ownsRow B 42 7 (.slice (some ⟨g0, 0, none⟩) 8 c0) 8 (scells ((List.replicate 8 sx0).set who (m.inn, m.who, ks, os, m.ep, m.init, m.tag)))) (hk : Own B w ks m.keys) (ho : OwnM B w os m.own)
    (h3 : OwnI B w s3 (newW who).fresh) (h7 : OwnI B w s7 (newW who).said) (h8 : w.ownsRow B 58 1 (.slice (some ⟨g8, 0, none⟩) 8 c8) 8 (List.replicate 8 (.slice none 0 0))) :
    NewP w (.agg (wldC (.slice (some ⟨g0, 0, none⟩) 8 c0) (.slice a1 0 p1) (.slice a2 0 p2) s3 (.slice a4 0 p4) (.slice a5 0 p5) (.slice a6 0 p6) s7 (.slice (some ⟨g8, 0, none⟩) 8 c8) (.slice a9 0 p9))) (newW who).seats (newW who).fresh (newW who).said 8 := by
  have hl := len_new who
  refine ⟨_, _, _, _, a1, a2, a4, a5, a6, a9, p1, p2, p4, p5, p6, p9, rfl, ?_, OwnI.irow h3, OwnI.irow h7, ?_⟩
  · refine ⟨g0, c0, by rw [hl.1], fun k m' hm' => ?_⟩
    have hk8 : k < 8 := by have := (List.getElem?_eq_some_iff.1 hm').1; omega
    rw [seat_new hk8, hm] at hm'
    have hx := sx_at who (m.inn, m.who, ks, os, m.ep, m.init, m.tag) k hk8
    have cell : ∀ (y : Sx) (n : Nat) (u : Value), ((List.replicate 8 sx0).set who (m.inn, m.who, ks, os, m.ep, m.init, m.tag))[k]? = some y → (scell y)[n]? = some u → w.cell? ⟨g0, k * 7 + n, none⟩ = some u := by
      intro y n u hy hu
      have hn : n < 7 := (List.getElem?_eq_some_iff.1 hu).1
      rw [h0.cellAt (k * 7 + n) (by omega), scells_at _ k n y hy hn, hu]
    by_cases e : k = who
    · rw [if_pos e] at hm' hx
      cases hm'
      exact ⟨ks, os, fun n u hu => cell _ n u hx (by simp at hu; exact hu), Own.srow hk, OwnM.mrow ho⟩
    · rw [if_neg e] at hm' hx
      cases hm'
      exact ⟨.slice none 0 0, .slice none 0 0, fun n u hu => cell _ n u hx (by simp at hu; exact hu), .inl ⟨rfl, rfl⟩, ⟨none, 0, rfl, Nat.le_refl _, by unfold maxLen; omega, fun i hi => absurd hi (Nat.not_lt_zero _)⟩⟩
  · refine ⟨g8, c8, rfl, fun k hk => ⟨none, 0, ?_⟩⟩
    rw [h8.cellAt k (by omega), List.getElem?_replicate, if_pos hk]
end Go.Proofs.YtabpaaahobakpaaGreat
/-
  The program's copy of names.
-/
namespace Go.Proofs.YtabpaaahobakpaaGreat
open Go.RowKit

set_option maxHeartbeats 2000000 in
theorem cloneNames_any (v : Value) (xs : List ByteArray) (w : World) (h : SRow w v xs) (hl : xs.length ≤ 1048576) (hy : ∀ x ∈ xs, x.size ≤ 1000000) :
    Calls Tryz.prog 132 #[v] w fun e w' => ∃ v' : Value, e = .returned v' ∧ w'.ownsRow w.heap.size 9 1 v' xs.length (xs.map Value.string) ∧ Below w.heap.size w w' := by
  obtain ⟨ao, cap, rfl, h1, h2, hc⟩ := h.form
  have hR := hide h
  unfold maxLen at h2
  have HY := hide hy
  clear h hc hy
  obtain ⟨i0, hi, hz0, hz1, hz2⟩ := info_parts info_str'
  have hI := hide (And.intro hi (And.intro hz0 (And.intro hz1 hz2)))
  have hB2 : Hid (i0.bytes * xs.length ≤ 281474976710656) := by show _ ≤ _; rw [hz2]; omega
  clear hi hz0 hz1 hz2
  go_enter Tryz.func132, Tryz.ntmps132
  go_wp2_with (at_make; refine wpList_make_full _ rfl _ _ 28 rfl w.heap.size 9 i0 (.string ⟨#[]⟩) 1 Tryz.underlying28 (unhide hI).1 (unhide hI).2.1 (unhide hI).2.2.1 _ _ _ _ xs.length rfl rfl rfl rfl (unhide hB2) (by unfold maxLen; omega) (Nat.le_refl _) ?_)
  intro w1 hown hgrow
  have hO1 : Hid (w1.ownsRow w.heap.size 9 1 (.slice (some ⟨w.heap.size, 0, none⟩) xs.length xs.length) xs.length (part xs 0)) := by
    rw [part_zero]
    have e : (madeCells #[Value.string ⟨#[]⟩] xs.length).toList = List.replicate xs.length (Value.string ⟨#[]⟩) := by
      simp [madeCells, Nat.mod_one, List.map_const']
    rw [← e]
    exact hown
  have hL1 : Hid (Below w.heap.size w w1) := (Below.refl _ _).grown hgrow (Nat.le_refl _) (fun k hk => by cases hk)
  clear hown hgrow
  go_wp2_with fail
  go_loopw [11] (fun i wr => ∃ k : Nat, k ≤ xs.length ∧ i = .int .i64 (k : Int) ∧ Hid (wr.ownsRow w.heap.size 9 1 (.slice (some ⟨w.heap.size, 0, none⟩) xs.length xs.length) xs.length (part xs k)) ∧ Hid (Below w.heap.size w wr)) (fun i _ => xs.length - (intOf i).toNat)
  case atStart => exact ⟨0, by omega, rfl, hO1, hL1⟩
  case round =>
    clear hO1 hL1
    obtain ⟨k, hk, rfl, hO, hL⟩ := hrel
    by_cases hlt : k < xs.length
    · have hlt2 : (k : Int) < (xs.length : Int) := by omega
      obtain ⟨ao', c1, q1, _, _, q2⟩ := (SRow.below (unhide hR) (unhide hL)).form
      simp only [Value.slice.injEq] at q1
      obtain ⟨rfl, _, rfl⟩ := q1
      obtain ⟨a, rfl, hck⟩ := q2 k hlt
      clear q2
      have i3 : IntKind.i64.wrap ((k : Int) + 1) = (k : Int) + 1 := by simp [IntKind.wrap, IntKind.bits, IntKind.signed]; omega
      have hY : Hid ((xs.getD k ByteArray.empty).size ≤ 1000000) := HY.out _ (getD_mem hlt)
      have hps := hide (part_set xs k hlt)
      generalize xs.getD k ByteArray.empty = y at hck hY hps
      have hle := hL.out.size
      go_wp2_with fail
      refine (clone_any y _ hY.out).mono ?_
      rintro e w2 ⟨rfl, hb2⟩
      have hO2 := own_below' (unhide hO) hb2
      have hL2 := (unhide hL).trans (hb2.mono hle)
      have hle2 := hL2.size
      have hfz := hO2.frozenAt k
      have hcell : w2.cell? ⟨w.heap.size, k, none⟩ = some (.string ⟨#[]⟩) := (hO2.cellAt k (by omega)).trans (part_at xs k hlt)
      have hS1 := hO2.stored k (.string y)
      rw [hps.out] at hS1
      have hS2 := hide hS1
      have hL3 := hide hL2
      clear hS1 hO2 hL2 hb2 hck
      go_wp2_with fail
      go_roundw
      case rel => exact ⟨k + 1, by omega, by simp, hS2.out.1, (unhide hL3).grown hS2.out.2 hle2 (fun j hj => by cases hj; exact Nat.le_refl _)⟩
      case measure => simp [intOf]; omega
    · have hlt2 : decide ((k : Int) < (xs.length : Int)) = false := by simp; omega
      have hkn : k = xs.length := by omega
      subst hkn
      rw [part_all] at hO
      go_wp2_with fail
      go_ret
      exact ⟨_, rfl, unhide hO, unhide hL⟩
end Go.Proofs.YtabpaaahobakpaaGreat
/-
  The program's ownUpward: a secret at a place, and at each place above the one made from that below.
-/
namespace Go.Proofs.YtabpaaahobakpaaGreat
open Go.RowKit Go.Shelf
attribute [local go_sem] Oper.semAt_some

theorem chain_len4 (p : Int) : (chainOf p).length ≤ 4 := by
  unfold chainOf
  split
  · next h =>
    obtain ⟨k, rfl⟩ : ∃ k : Nat, p = (k : Int) := ⟨p.toNat, by omega⟩
    rw [List.length_cons, upOf_nat k (by omega), List.length_map]
    have := ups_len k (by omega)
    omega
  · simp
theorem keepsOthers_belowU {w w' : World} (h : Below w.heap.size w w') : KeepsOthers w w' := ⟨h.size, fun k _ hk _ => (h.block k (Array.getElem?_eq_some_iff.1 hk).1).trans hk⟩
theorem two_newI (w : World) (x y : Value) (t : TypeId) : ∀ j u, [x, y][j]? = some u → (w.alloc (.cells #[x, y] t)).cell? (Addr.add ⟨w.heap.size, 0, none⟩ j) = some u := by
  intro j u hj
  match j, hj with
  | 0, hj => simp at hj; subst hj; simp [Addr.add, go_sem]
  | 1, hj => simp at hj; subst hj; simp [Addr.add, go_sem]

set_option maxRecDepth 100000 in
set_option maxHeartbeats 4000000 in
theorem ownUpward_in (n : Nat) (hn : 3 ≤ n) (p : Int) (s : ByteArray) (hss : s.size ≤ 300) (w : World) :
    CallsIn Fence.wide n Tryz.prog 85 #[.int .i64 p, .string s] w fun e W' => ∃ v, e = .returned v ∧ OwnM w.heap.size W' v (pathOf (chainOf p) s) ∧ Below w.heap.size w W' := by
  have h1 : 1 ≤ n := by omega
  have h2 : 1 ≤ n - 1 := by omega
  have hro : Fence.wide.round = none := rfl
  have hcl := chain_len4 p
  obtain ⟨i0, hi, hz0, hz1, hz2⟩ := info_parts info_mo
  have hI := hide (And.intro hi (And.intro hz0 (And.intro hz1 hz2)))
  clear hi hz0 hz1 hz2
  have bS0 := hide ((Boxed.new w 9 (.string s)).alloc (.cells #[.slice none 0 0] 40))
  have bO0 := Boxed.new (w.alloc (.cells #[.string s] 9)) 40 (.slice none 0 0)
  rw [World.size_alloc] at bO0
  have BO0 := hide bO0
  have HB0 : Hid (Below w.heap.size w ((w.alloc (.cells #[.string s] 9)).alloc (.cells #[.slice none 0 0] 40))) := ((Below.refl _ w).alloc (Nat.le_refl _) _).alloc (by simp) _
  clear bO0
  refine callsIn_of_wp_marks Tryz.func85 rfl trivial ?_ hro
  simp only [Tryz.ntmps85, List.size_toArray, List.length_cons, List.length_nil, Nat.reduceAdd, Nat.reduceSub, Array.replicate_succ, Array.replicate_zero, List.push_toArray, List.append_toArray, List.nil_append, List.cons_append]
  gi_wp2_with (first
    | (refine ⟨trivial, ?_⟩; gi_at_call 86; refine (callsIn_wide.2 (clone_any s _ (by omega))).mono ?_; rintro e w1 ⟨rfl, hb1⟩; have bS1 := box_below (unhide bS0) hb1; have BO1 := hide ((box_below (unhide BO0) hb1).other (B' := w.heap.size) (by omega) (.string s)); have c1 := bS1.cell; have c2 := bS1.frozen; have BS1 := hide (bS1.set (.string s)); have HB1 := hide (below_box (HB0.out.trans (hb1.mono HB0.out.size)) (Nat.le_refl _) (.string s)); have hs1 : w.heap.size + 2 ≤ (w1.setCell ⟨w.heap.size, 0, none⟩ (.string s)).heap.size := (by have := hb1.size; simp [World.setCell] at this ⊢; omega); clear hb1 bS1)
    | (refine ⟨trivial, ?_⟩; gi_at_call 133; refine (upward_in _ _ _).mono ?_; rintro e wz ⟨rfl, rfl⟩))
  have hq2 : (w1.setCell ⟨w.heap.size, 0, none⟩ (.string s)).heap.size = w1.heap.size := by simp [World.setCell]
  generalize w1.setCell ⟨w.heap.size, 0, none⟩ (.string s) = w2 at *
  rw [← hq2]
  clear hq2
  clear c1 c2 bS0 BO0 HB0
  have bS := (unhide BS1).alloc (.cells #[.int .i64 p] 105)
  have bO := (unhide BO1).alloc (.cells #[.int .i64 p] 105)
  have bN := Boxed.new w2 105 (.int .i64 p)
  have hB3 : Below w.heap.size w (w2.alloc (.cells #[.int .i64 p] 105)) := (unhide HB1).alloc HB1.out.size _
  have hsz : (w2.alloc (.cells #[.int .i64 p] 105)).heap.size = w2.heap.size + 1 := by simp
  obtain ⟨W0, hW0⟩ : ∃ W0, w2.alloc (.cells #[.int .i64 p] 105) = W0 := ⟨_, rfl⟩
  rw [hW0] at bS bO bN hB3 hsz ⊢
  clear hW0 BS1 BO1 HB1
  refine wpIn_rangeFunc_ownG hro h1 (gf := 166) (lb := #[.pointer (some ⟨w2.heap.size, 0, none⟩)]) rfl trivial (enters_of Tryz.func166 (by kernel_rfl) rfl)
    (upward_stops (n - 1) h2 w2.heap.size w.heap.size p W0 (by omega) bN.cell) belowK_t (belowK_b (by omega)) (Below.refl _ _) (fun _ => rfl)
    (fun pre W => ((∃ v, Boxed W (w.heap.size + 1) 40 v ∧ W.ownsRow w.heap.size 134 2 v pre.length (mcells (pathOf pre s)) ∧ True) ∧ Boxed W w.heap.size 9 (.string (nextN s pre.length))) ∧ Below w.heap.size w W)
    (fun _ _ _ => False)
    (OwnFrom.and (OwnFrom.and (Own.from (holdsRow_own w.heap.size (w.heap.size + 1) 40 134 2 (fun (pre : List Int) => pre.length) (fun (pre : List Int) => mcells (pathOf pre s)) (fun _ _ => True)) _) (Own.from (boxed_own _ _ (fun (pre : List Int) => Value.string (nextN s pre.length))) _)) (ownFrom_below (Nat.le_refl _) (by omega)))
    (fun _ _ _ _ _ hs _ _ => hs)
    ⟨⟨⟨_, bO, World.ownsRow_nil _ _ _ _, trivial⟩, bS⟩, hB3⟩
    (fun x => { tmps := #[.int .i64 p, .string s, undef, .pointer (some ⟨w.heap.size, 0, none⟩), .slice none 0 0, .pointer (some ⟨w.heap.size + 1, 0, none⟩), .int .i64 x, .string s, .string s, .int .i64 p, .func (.func 166) #[] #[.pointer (some ⟨w2.heap.size, 0, none⟩)], .int .i64 x, undef, undef, undef, undef, undef, undef, undef, undef, undef], defers := [] }) ?assign ?body ?done ?stop
  case assign =>
    intro l x W K hK
    gi_wp2
    exact hK
  case body =>
    rintro l pre x W ⟨⟨⟨v, hv, hrow, _⟩, hbS⟩, hB⟩ hlt
    have hc := hv.cell
    have hcs := hbS.cell
    have h3' : 1 ≤ n - 1 - 1 := by omega
    have hns := nextN_size s hss pre.length
    have HW : Hid (mcells (pathOf (pre ++ [x]) s) = mcells (pathOf pre s) ++ [.int .i64 x, .string (nextN s pre.length)]) := by show _ = _; rw [pathOf_snoc, mcells_snoc]
    have HNX : Hid (nextN s (pre ++ [x]).length = mkNext (nextN s pre.length)) := by show _ = _; rw [List.length_append]; rfl
    generalize nextN s pre.length = sc at hcs hbS HW HNX hns
    have HS := hide hbS
    clear hbS
    gi_wp2_with (gi_at_builtin; refine wpListIn_append_own _ rfl _ _ 40 rfl w.heap.size 134 i0 (.agg #[.int .i64 0, .string ⟨#[]⟩]) 2 24 underMo (unhide hI).1 (unhide hI).2.1 (unhide hI).2.2.1 (unhide hI).2.2.2 rfl (by decide) _ _ _ rfl (hrow.alloc _) ⟨W.heap.size, 0, none⟩ 1 1 [.int .i64 x, .string sc] rfl rfl (two_newI _ _ _ _) (by simp [Value.oneCell']) (by unfold maxLen; omega) (by omega) (by have := hB.size; simp; omega) ?_; intro v' w1 hown' hgrow _; obtain ⟨g', cap', rfl⟩ := ownsRow_succ hown'; obtain ⟨hv1, hv2, hr2, hk2, hb2⟩ := hv.appended (by decide) hrow hB.size (Nat.le_succ _) hown' hgrow; have hc1 := hv1.cell; have hf1 := hv1.frozen; have s1 := ((unhide HS).alloc (.cells #[.int .i64 x, .string sc] 134)).kept hgrow (Boxed.not_row ((unhide HS).alloc (.cells #[.int .i64 x, .string sc] 134)) (by decide) (hrow.alloc _)); have s2 := s1.other (B' := w.heap.size + 1) (by omega) (.slice (some ⟨g', 0, none⟩) (pre.length + 1) cap'); have hs2 := s2.cell; have S2 := hide s2; have V2 := hide hv2; have R2 := hide hr2; have K2 := hide hk2; have B2 := hide hb2; clear hown' hgrow s1 s2 hr2 hk2 hb2 hv2 hv)
    gi_wp2_with (refine ⟨trivial, ?_⟩; gi_at_call 135; refine (CallsIn.inRound l (callsIn_wide.2 (iMakNext_any sc _ (le_maxLen (by omega))))).mono ?_; rintro e wm ⟨rfl, hbm⟩; have c3 := box_below (unhide S2) hbm; have c3c := c3.cell; have c3f := c3.frozen; have F1 : Hid (Boxed (wm.setCell ⟨w.heap.size, 0, none⟩ (.string (mkNext sc))) w.heap.size 9 (.string (mkNext sc))) := c3.set _; have F2 := hide ((box_below (unhide V2) hbm).other (B' := w.heap.size) (by omega) (.string (mkNext sc))); have F4 := hide (row_box (own_below' (unhide R2) hbm) c3 (by decide) (.string (mkNext sc))); have F5 := hide ((unhide K2).trans ((keepsOthers_belowU hbm).trans (KeepsOthers.setCell wm ⟨w.heap.size, 0, none⟩ (.string (mkNext sc))))); have F6 : Hid (Below w.heap.size W (wm.setCell ⟨w.heap.size, 0, none⟩ (.string (mkNext sc)))) := ((unhide B2).trans (hbm.mono (Nat.le_trans hB.size (unhide B2).size))).setCell (p := ⟨w.heap.size, 0, none⟩) (Nat.le_refl _) _; clear c3 hbm)
    refine ⟨(unhide F5).from _, unhide F6, ⟨⟨_, unhide F2, ?_, trivial⟩, by rw [HNX.out]; exact unhide F1⟩, hB.trans (unhide F6)⟩
    rw [HW.out, List.length_append]
    exact unhide F4
  case done =>
    rintro D ys W hD rfl ⟨⟨⟨v, hv, hrow, _⟩, _⟩, hB⟩ hK
    have hc := hv.cell
    gi_wp2
    refine ⟨by simp, .inl ⟨_, _, rfl, run_takeDeferred hK, ?_⟩⟩
    refine ⟨_, results_tmp rfl _ _ _, v, rfl, ?_, hB.trans (belowK_b (w := w) (Nat.le_refl _) W D _ _ (by omega) hK rfl rfl)⟩
    unfold OwnM
    rw [pathOf_len]
    exact ownsRow_putObj hrow _ hK rfl
  case stop =>
    rintro D c pre W _ _ h _
    exact h.elim
theorem ownUpward_any (p : Int) (s : ByteArray) (hss : s.size ≤ 300) (w : World) :
    Calls Tryz.prog 85 #[.int .i64 p, .string s] w fun e W' => ∃ v, e = .returned v ∧ OwnM w.heap.size W' v (pathOf (chainOf p) s) ∧ Below w.heap.size w W' := callsIn_wide.1 (ownUpward_in 3 (by omega) p s hss w)
end Go.Proofs.YtabpaaahobakpaaGreat
/-
  The program's TreClear.
-/
namespace Go.Proofs.YtabpaaahobakpaaGreat
open Go.RowKit Go.Shelf
attribute [local go_sem] Oper.semAt_some

def vals (ps : List (Fin 15)) : List Nat := ps.map (·.val)
theorem vals_snoc (ps : List (Fin 15)) (x : Fin 15) : vals (ps ++ [x]) = vals ps ++ [x.val] := by simp [vals]
theorem vals_chain (k : Nat) (h : k < 8) : vals (chainF ((7 + k : Nat) : Int)) = (7 + k) :: ups (7 + k) := by
  rw [chainF_nat (7 + k) (by omega)]
  exact chainT_val _

end Go.Proofs.YtabpaaahobakpaaGreat
