/-
  A group that begins, of both sides: what can be read of it.
-/
import Derived.Test.YtabpaaahobakpaaGreatFnGrpNewB7
import Derived.Test.YtabpaaahobakpaaGreatFnGrpNewB8
import Derived.Test.YtabpaaahobakpaaGreatFnGrpNewB1
import Derived.Deep.RegionWith
import Derived.Test.YtabpaaahobakpaaGreatFnGrpNewB2
import Derived.Test.YtabpaaahobakpaaGreatFnGrpNewB5
import Derived.Test.YtabpaaahobakpaaGreatFnGrpNewB3
import Derived.Maps.AppendAt
import Derived.Test.YtabpaaahobakpaaGreatFnGrpNewB4
import Derived.Test.YtabpaaahobakpaaGreatFnGrpNewB6
namespace Go.Proofs.YtabpaaahobakpaaGreat
open Go.RowKit

theorem listR_int : ∀ {xs : List Int} {cs : List Value}, ListR intR xs cs → cs = xs.map (Value.int .i64)
  | [], _, h => h
  | x :: r, cs, ⟨c, ds, e, h1, h2⟩ => by
    rw [e, show c = [.int .i64 x] from h1, listR_int h2]
    rfl
theorem fresh_new {who : Nat} (hw : who < 8) : (List.replicate 8 (Value.int .i64 0)).set who (.int .i64 2) = (newW who).fresh.map (Value.int .i64) := by
  rcases (by omega : who = 0 ∨ who = 1 ∨ who = 2 ∨ who = 3 ∨ who = 4 ∨ who = 5 ∨ who = 6 ∨ who = 7) with rfl | rfl | rfl | rfl | rfl | rfl | rfl | rfl <;> rfl
theorem len_new (who : Nat) : (newW who).seats.length = 8 ∧ (newW who).fresh.length = 8 ∧ (newW who).said.length = 8 ∧ (newW who).wins.length = 8 := newN_len who 8
theorem seat_new {who k : Nat} (hk : k < 8) : (newW who).seats[k]? = some (if k = who then fstOf (who : Int) (mkNew (who : Int) 1) (mkNew (who : Int) 2) else Mem.none) := by
  unfold newW newN
  simp only
  rw [List.getElem?_map, List.getElem?_range hk]
  rfl
theorem wins_new {who k : Nat} (hk : k < 8) : (newW who).wins[k]? = some [] := by
  unfold newW newN
  simp only
  rw [List.getElem?_map, List.getElem?_range hk]
  rfl
theorem sx_at (who : Nat) (x : Sx) (k : Nat) (hk : k < 8) : ((List.replicate 8 sx0).set who x)[k]? = some (if k = who then x else sx0) := by
  rw [List.getElem?_set]
  by_cases e : who = k
  · subst e
    rw [if_pos rfl, if_pos (by simpa using hk), if_pos rfl]
  · rw [if_neg e, List.getElem?_replicate, if_pos hk, if_neg (Ne.symm e)]
theorem newP_rows {X L : List Nat} {B : Nat} {w : World} {t0 t1 t2 t3 t4 t5 t6 t7 t8 t9 : Value} {who : Nat} (q : Rows X L B w (rowsOf t0 t1 t2 t3 t4 t5 t6 t7 t8 t9 (newW who))) :
    NewP w (.agg (wldC t0 t1 t2 t3 t4 t5 t6 t7 t8 t9)) (newW who).seats (newW who).fresh (newW who).said 8 := by
  obtain ⟨⟨a0, p0, rfl⟩, ⟨a1, p1, rfl⟩, ⟨a2, p2, rfl⟩, ⟨a3, p3, rfl⟩, ⟨a4, p4, rfl⟩, ⟨a5, p5, rfl⟩, ⟨a6, p6, rfl⟩, ⟨a7, p7, rfl⟩, ⟨a8, p8, rfl⟩, ⟨a9, p9, rfl⟩⟩ := q.forms
  have hl := len_new who
  refine ⟨_, _, _, _, a1, a2, a4, a5, a6, a9, p1, p2, p4, p5, p6, p9, rfl, ?_, ?_, ?_, ?_⟩
  · obtain ⟨g, c, _, _, e, _⟩ := q.seat 0 (by omega)
    simp only [Value.slice.injEq] at e
    obtain ⟨rfl, _, rfl⟩ := e
    refine ⟨g, p0, rfl, fun k m hm => ?_⟩
    have hk : k < (newW who).seats.length := (List.getElem?_eq_some_iff.1 hm).1
    obtain ⟨g', c', ks, os, e, h1, h2, h3⟩ := q.seat k hk
    simp only [Value.slice.injEq, Option.some.injEq, Addr.mk.injEq, and_true] at e
    obtain ⟨rfl, _⟩ := e
    rw [(List.getElem?_eq_some_iff.1 hm).2] at h1 h2 h3
    exact ⟨ks, os, h1, h2, h3.mrow⟩
  · obtain ⟨cs, h1, h2⟩ := q.own _ (List.mem_of_getElem? (i := 3) rfl)
    rw [listR_int h2] at h1
    exact OwnI.irow h1
  · obtain ⟨cs, h1, h2⟩ := q.own _ (List.mem_of_getElem? (i := 7) rfl)
    rw [listR_int h2] at h1
    exact OwnI.irow h1
  · obtain ⟨cs, h1, h2⟩ := q.own _ (List.mem_of_getElem? (i := 8) rfl)
    obtain ⟨g, c, e, _⟩ := row_some h1 (by show 0 < (newW who).wins.length; omega)
    have e' : Value.slice a8 (newW who).wins.length p8 = .slice (some ⟨g, 0, none⟩) (newW who).wins.length c := e
    simp only [Value.slice.injEq] at e'
    obtain ⟨rfl, _, rfl⟩ := e'
    refine ⟨g, p8, by rw [hl.2.2.2], fun k hk => ?_⟩
    obtain ⟨d, ⟨v, ds, rfl, r, _, _⟩, hd⟩ := ListR.get winsR.len k (by omega) h2
    have hw := wins_new (who := who) hk
    rw [List.getElem?_eq_getElem (by omega)] at hw
    rw [Option.some.inj hw] at r
    have p4 := World.ownsRow.cells h1 (g := g) rfl (k * 1 + 0) v (hd 0 v rfl)
    rw [Addr.add_lit, Nat.zero_add, Nat.mul_one, Nat.add_zero] at p4
    rcases r with ⟨rfl, _, _⟩ | ⟨ad, cc, rfl, _⟩
    · exact ⟨none, 0, p4⟩
    · exact ⟨some ad, cc, p4⟩
theorem newP_own {B : Nat} {w : World} {g0 c0 g8 c8 : Nat} {s3 s7 ks os : Value} {who : Nat} {m : Mem} (hm : fstOf (who : Int) (mkNew (who : Int) 1) (mkNew (who : Int) 2) = m)
    (a1 a2 a4 a5 a6 a9 : Option Addr) (p1 p2 p4 p5 p6 p9 : Nat)
    (h0 : w.ownsRow B 42 7 (.slice (some ⟨g0, 0, none⟩) 8 c0) 8 (scells ((List.replicate 8 sx0).set who (m.inn, m.who, ks, os, m.ep, m.init, m.tag)))) (hk : Own B w ks m.keys) (ho : OwnM B w os m.own)
    (h3 : OwnI B w s3 (newW who).fresh) (h7 : OwnI B w s7 (newW who).said) (h8 : w.ownsRow B 58 1 (.slice (some ⟨g8, 0, none⟩) 8 c8) 8 (List.replicate 8 (.slice none 0 0))) :
    NewP w (.agg (wldC (.slice (some ⟨g0, 0, none⟩) 8 c0) (.slice a1 0 p1) (.slice a2 0 p2) s3 (.slice a4 0 p4) (.slice a5 0 p5) (.slice a6 0 p6) s7 (.slice (some ⟨g8, 0, none⟩) 8 c8) (.slice a9 0 p9))) (newW who).seats (newW who).fresh (newW who).said 8 := by
  have hl := len_new who
  refine ⟨_, _, _, _, a1, a2, a4, a5, a6, a9, p1, p2, p4, p5, p6, p9, rfl, ?_, OwnI.irow h3, OwnI.irow h7, ?_⟩
  · refine ⟨g0, c0, by rw [hl.1], fun k m' hm' => ?_⟩
    have hk8 : k < 8 := by have := (List.getElem?_eq_some_iff.1 hm').1; omega
    rw [seat_new hk8, hm] at hm'
    have hx := sx_at who (m.inn, m.who, ks, os, m.ep, m.init, m.tag) k hk8
    have cell : ∀ (y : Sx) (n : Nat) (u : Value), ((List.replicate 8 sx0).set who (m.inn, m.who, ks, os, m.ep, m.init, m.tag))[k]? = some y → (scell y)[n]? = some u → w.cell? ⟨g0, k * 7 + n, none⟩ = some u := by
      intro y n u hy hu
      have hn : n < 7 := (List.getElem?_eq_some_iff.1 hu).1
      rw [h0.cellAt (k * 7 + n) (by omega), scells_at _ k n y hy hn, hu]
    by_cases e : k = who
    · rw [if_pos e] at hm' hx
      cases hm'
      exact ⟨ks, os, fun n u hu => cell _ n u hx (by simp at hu; exact hu), Own.srow hk, OwnM.mrow ho⟩
    · rw [if_neg e] at hm' hx
      cases hm'
      exact ⟨.slice none 0 0, .slice none 0 0, fun n u hu => cell _ n u hx (by simp at hu; exact hu), .inl ⟨rfl, rfl⟩, ⟨none, 0, rfl, Nat.le_refl _, by unfold maxLen; omega, fun i hi => absurd hi (Nat.not_lt_zero _)⟩⟩
  · refine ⟨g8, c8, rfl, fun k hk => ⟨none, 0, ?_⟩⟩
    rw [h8.cellAt k (by omega), List.getElem?_replicate, if_pos hk]
end Go.Proofs.YtabpaaahobakpaaGreat
/-
  Contracts of the reader by which inputs are drawn: what one draw leaves.
-/
namespace Go.Proofs.YtabpaaahobakpaaGreat
open Go.RowKit

/-- All blocks but one are as they were; more may have come. -/
structure Ex (b : Nat) (w w' : World) : Prop where
  os : w'.os = w.os
  tape : w'.tape = w.tape
  output : w'.output = w.output
  size : w.heap.size ≤ w'.heap.size
  block : ∀ k, k < w.heap.size → k ≠ b → w'.heap[k]? = w.heap[k]?

theorem Ex.refl (b : Nat) (w : World) : Ex b w w := ⟨rfl, rfl, rfl, Nat.le_refl _, fun _ _ _ => rfl⟩
theorem Ex.trans {b : Nat} {u v w : World} (h : Ex b u v) (k : Ex b v w) : Ex b u w :=
  ⟨k.os.trans h.os, k.tape.trans h.tape, k.output.trans h.output, Nat.le_trans h.size k.size, fun i hi hn => (k.block i (Nat.lt_of_lt_of_le hi h.size) hn).trans (h.block i hi hn)⟩
theorem Ex.set {b : Nat} {u w : World} (h : Ex b u w) (o : Nat) (v : Value) : Ex b u (w.setCell ⟨b, o, none⟩ v) :=
  h.trans ⟨rfl, rfl, rfl, by simp [World.setCell], fun k _ hn => Below.heap_setCell _ _ _ _ hn⟩
theorem Ex.drewN {b : Nat} {u w : World} (h : Ex b u w) (n : Nat) : Ex b u (w.drewN n) := h.trans ⟨rfl, rfl, rfl, Nat.le_refl _, fun _ _ _ => rfl⟩
theorem Ex.drew {b : Nat} {u w : World} (h : Ex b u w) : Ex b u w.drew := h.trans ⟨rfl, rfl, rfl, Nat.le_refl _, fun _ _ _ => rfl⟩
theorem Ex.alloc {b : Nat} {u w : World} (h : Ex b u w) (o : Obj) : Ex b u (w.alloc o) := h.trans ⟨rfl, rfl, rfl, by simp, fun k hk _ => Below.heap_alloc _ _ _ hk⟩
theorem Ex.below {b : Nat} {w w' : World} (h : Ex b w w') {B : Nat} (hB : B ≤ b) (hw : B ≤ w.heap.size) : Below B w w' := ⟨h.os, h.tape, h.output, h.size, fun k hk => h.block k (by omega) (by omega)⟩
theorem Ex.cell {b : Nat} {w w' : World} (h : Ex b w w') {p : Addr} (hp : p.block < w.heap.size) (hn : p.block ≠ b) : w'.cell? p = w.cell? p := World.cell?_of_block (w := w) (h.block p.block hp hn)
theorem Ex.frozen {b : Nat} {w w' : World} (h : Ex b w w') {p : Addr} (hp : p.block < w.heap.size) (hn : p.block ≠ b) : w'.frozen? p = w.frozen? p := World.frozen?_of_block (w := w) (h.block p.block hp hn)

/-- A reader of a code lies at block b; it has drawn p times. -/
structure Dr (b : Nat) (a : Option Addr) (len cap : Nat) (z : Nat → Int) (p : Nat) (w : World) : Prop where
  c0 : w.cell? ⟨b, 0, none⟩ = some (.slice a len cap)
  c1 : w.cell? ⟨b, 1, none⟩ = some (.int .i64 (p : Int))
  f1 : w.frozen? ⟨b, 1, none⟩ = false
  lt : b < w.heap.size
  le : len ≤ 2000
  row : len = 0 ∨ ∃ x : Addr, a = some x ∧ x.block < b ∧ ∀ i, i < len → w.cell? (x.add i) = some (.int .u8 (z i)) ∧ 0 ≤ z i ∧ z i ≤ 255

theorem cell_other {w : World} {b : Nat} {q : Addr} {u : Value} (h : w.cell? q = some u) (hq : q.block < b) (v : Value) : (w.setCell ⟨b, 1, none⟩ v).cell? q = some u := by
  rw [World.cell?_of_block (w := w) (Below.heap_setCell w ⟨b, 1, none⟩ v q.block (by show q.block ≠ b; omega))]
  exact h

theorem add_block (x : Addr) (i : Nat) : (x.add i).block = x.block := by unfold Addr.add; split <;> rfl
theorem cell_row {w : World} {b : Nat} {x : Addr} {i : Nat} {u : Value} (h : w.cell? (x.add i) = some u) (hx : x.block < b) (v : Value) : (w.setCell ⟨b, 1, none⟩ v).cell? (x.add i) = some u :=
  cell_other h (by rw [add_block]; exact hx) v

theorem Dr.step {b : Nat} {a : Option Addr} {len cap : Nat} {z : Nat → Int} {p : Nat} {w : World} (h : Dr b a len cap z p w) (n p' : Nat) (v : Value) (hv : v = .int .i64 (p' : Int)) :
    Dr b a len cap z p' ((w.drewN n).setCell ⟨b, 1, none⟩ v) ∧ Ex b w ((w.drewN n).setCell ⟨b, 1, none⟩ v) := by
  obtain ⟨c0, c1, f1, lt, le, row⟩ := h
  subst hv
  refine ⟨⟨by simp [go_sem, c0], by simp [go_sem, c1], by simp [go_sem, f1], by simpa [World.setCell] using lt, le, ?_⟩, ((Ex.refl b w).drewN n).set 1 _⟩
  rcases row with h0 | ⟨x, hx, hxb, hr⟩
  · exact .inl h0
  · exact .inr ⟨x, hx, hxb, fun i hi => ⟨cell_row (w := w.drewN n) (hr i hi).1 hxb _, (hr i hi).2⟩⟩

theorem Dr.step0 {b : Nat} {a : Option Addr} {len cap : Nat} {z : Nat → Int} {p : Nat} {w : World} (h : Dr b a len cap z p w) (n p' : Nat) (v : Value) (hv : v = .int .i64 (p' : Int)) :
    Dr b a len cap z p' ((w.setCell ⟨b, 1, none⟩ v).drewN n) ∧ Ex b w ((w.setCell ⟨b, 1, none⟩ v).drewN n) := h.step n p' v hv

theorem bits_xor_i64_nat (a b : Nat) (ha : a < 4611686018427387904) (hb : b < 4611686018427387904) :
    bits .xor .i64 (a : Int) (b : Int) = ((a ^^^ b : Nat) : Int) := by
  have hx : a ^^^ b < 2 ^ 62 := Nat.xor_lt_two_pow (by omega) (by omega)
  have h1 : (BitVec.ofInt 64 (a : Int)).toNat = a := by
    rw [BitVec.ofInt_natCast, BitVec.toNat_ofNat]; exact Nat.mod_eq_of_lt (by omega)
  have h2 : (BitVec.ofInt 64 (b : Int)).toNat = b := by
    rw [BitVec.ofInt_natCast, BitVec.toNat_ofNat]; exact Nat.mod_eq_of_lt (by omega)
  show IntKind.i64.wrap ((BitVec.ofInt 64 (a : Int) ^^^ BitVec.ofInt 64 (b : Int)).toNat : Int) = _
  rw [BitVec.toNat_xor, h1, h2]
  simp [IntKind.wrap, IntKind.bits, IntKind.signed]; omega

theorem ret_nat {a : Int} {b : Nat} (h : a = (b : Int)) : Ending.returned (.int .i64 a) = .returned (.int .i64 (b : Int)) := by rw [h]

theorem mix_nat {X : Int} {n : Nat} (h0 : 0 ≤ X) (h1 : X < 4611686018427387904) (hn : 1 ≤ n) : ∃ v : Nat, (bits BinOp.xor IntKind.i64 X (X / 64)).tmod (n : Int) = (v : Int) ∧ v < n := by
  obtain ⟨k, rfl⟩ := Int.eq_ofNat_of_zero_le h0
  have e : ((k : Int) / 64) = ((k / 64 : Nat) : Int) := by omega
  rw [e, bits_xor_i64_nat k (k / 64) (by omega) (by omega)]
  exact ⟨(k ^^^ (k / 64)) % n, rfl, Nat.mod_lt _ (by omega)⟩

set_option maxHeartbeats 1000000 in
theorem pick_row (b : Nat) (x : Addr) (len cap : Nat) (z : Nat → Int) (p n : Nat) (w : World) (h : Dr b (some x) len cap z p w) (hn : 1 ≤ n) (hn2 : n ≤ 1000) (hp : p ≤ 1000000) (hl : len ≠ 0) :
    Calls Tryz.prog 17 #[.pointer (some ⟨b, 0, none⟩), .int .i64 (n : Int)] w fun e w' => ∃ v : Nat, e = .returned (.int .i64 (v : Int)) ∧ v < n ∧ Dr b (some x) len cap z (p + 1) w' ∧ Ex b w w' := by
  have hD := hide h
  obtain ⟨c0, c1, f1, lt, le, row⟩ := h
  have hn3 : decide ((n : Int) < 1) = false := by simp; omega
  have hl3 : ((len : Int) == 0) = false := by simp; omega
  obtain ⟨x', hx, hxb, hrow⟩ := row.resolve_left hl
  simp only [Option.some.injEq] at hx
  subst hx
  by_cases hlt : p < len
  · obtain ⟨r1, r2, r3⟩ := hrow p hlt
    have r4 : ∀ v, (w.setCell ⟨b, 1, none⟩ v).cell? (x.add p) = some (.int .u8 (z p)) := fun v => cell_row r1 hxb v
    have hn4 : ((n : Int) == 0) = false := by simp; omega
    clear hrow row r1
    go_enter Tryz.func17, Tryz.ntmps17
    go_wp2_with fail
    go_ret
    obtain ⟨d1, d2⟩ := (unhide hD).step 0 (p + 1) (.int .i64 ((p : Int) + 1)) (by simp)
    have w1 := Int.emod_nonneg (z p) (show (n : Int) ≠ 0 by omega)
    have w2 := Int.emod_lt_of_pos (z p) (show (0 : Int) < (n : Int) by omega)
    exact ⟨(z p % (n : Int)).toNat, ret_nat (by omega), by omega, d1, d2⟩
  · have hd : decide ((p : Int) < (len : Int)) = false := by simp; omega
    obtain ⟨k1, t1, m1⟩ : ∃ k1 : Nat, (p : Int).tmod (len : Int) = (k1 : Int) ∧ k1 < len := ⟨p % len, rfl, Nat.mod_lt _ (by omega)⟩
    obtain ⟨k2, t2, m2⟩ : ∃ k2 : Nat, ((p : Int) * 7 + 3).tmod (len : Int) = (k2 : Int) ∧ k2 < len := ⟨(p * 7 + 3) % len, rfl, Nat.mod_lt _ (by omega)⟩
    obtain ⟨k3, t3, m3⟩ : ∃ k3 : Nat, (p : Int).tdiv (len : Int) = (k3 : Int) ∧ k3 ≤ 1000000 := ⟨p / len, rfl, by have := Nat.div_le_self p len; omega⟩
    obtain ⟨r1, r2, r3⟩ := hrow _ m1
    obtain ⟨q1, q2, q3⟩ := hrow _ m2
    have r4 : ∀ v, (w.setCell ⟨b, 1, none⟩ v).cell? (x.add k1) = some (.int .u8 (z k1)) := fun v => cell_row r1 hxb v
    have q4 : ∀ v, (w.setCell ⟨b, 1, none⟩ v).cell? (x.add k2) = some (.int .u8 (z k2)) := fun v => cell_row q1 hxb v
    have m1' : (k1 : Int) < (len : Int) := by omega
    have m2' : (k2 : Int) < (len : Int) := by omega
    have hn4 : ((n : Int) == 0) = false := by simp; omega
    generalize z k1 = z1 at *
    generalize z k2 = z2 at *
    clear hrow row r1 q1
    go_enter Tryz.func17, Tryz.ntmps17
    go_wp2_with fail
    go_quiet (fail)
    go_wp2_with fail
    go_ret
    obtain ⟨d1, d2⟩ := (unhide hD).step0 nq (p + 1) (.int .i64 ((p : Int) + 1)) (by simp)
    obtain ⟨v, hv1, hv2⟩ := mix_nat (X := z1 * 131 + z2 * 1117 + (p : Int) * 29 + (k3 : Int) * 53) (by omega) (by omega) hn
    exact ⟨v, ret_nat hv1, hv2, d1, d2⟩

/-- A code that is read. -/
structure Code where
  a : Option Addr
  len : Nat
  cap : Nat
  z : Nat → Int

def DrC (b : Nat) (C : Code) (p : Nat) (w : World) : Prop := Dr b C.a C.len C.cap C.z p w

theorem DrC.lt {b : Nat} {C : Code} {p : Nat} {w : World} (h : DrC b C p w) : b < w.heap.size := Dr.lt h
theorem DrC.below {b : Nat} {C : Code} {p : Nat} {w w' : World} (h : DrC b C p w) (hb : Below w.heap.size w w') : DrC b C p w' := by
  obtain ⟨c0, c1, f1, lt, le, row⟩ := h
  refine ⟨(hb.cell (p := ⟨b, 0, none⟩) lt).trans c0, (hb.cell (p := ⟨b, 1, none⟩) lt).trans c1, (hb.frozen (p := ⟨b, 1, none⟩) lt).trans f1, Nat.lt_of_lt_of_le lt hb.size, le, ?_⟩
  rcases row with h0 | ⟨x, hx, hxb, hr⟩
  · exact .inl h0
  · exact .inr ⟨x, hx, hxb, fun i hi => ⟨(hb.cell (p := x.add i) (by rw [add_block]; omega)).trans (hr i hi).1, (hr i hi).2⟩⟩
theorem DrC.alloc {b : Nat} {C : Code} {p : Nat} {w : World} (h : DrC b C p w) (o : Obj) : DrC b C p (w.alloc o) := h.below ((Below.refl _ _).alloc (Nat.le_refl _) _)
theorem DrC.drew {b : Nat} {C : Code} {p : Nat} {w : World} (h : DrC b C p w) : DrC b C p w.drew := h.below (Below.refl _ _).drew
theorem DrC.drewN {b : Nat} {C : Code} {p : Nat} {w : World} (h : DrC b C p w) (n : Nat) : DrC b C p (w.drewN n) := h.below (below_drewN (Below.refl _ _) n)

/-- What one draw comes to. -/
def PickPost (b : Nat) (C : Code) (p n : Nat) (w : World) (e : Ending) (w' : World) : Prop :=
  ∃ v : Nat, e = .returned (.int .i64 (v : Int)) ∧ v < n ∧ DrC b C (p + 1) w' ∧ Ex b w w'

set_option maxHeartbeats 1000000 in
theorem pick_any (b : Nat) (C : Code) (p n : Nat) (m : Int) (hm : m = (n : Int)) (w : World) (h : DrC b C p w) (hn : 1 ≤ n) (hn2 : n ≤ 1000) (hp : p ≤ 1000000) :
    Calls Tryz.prog 17 #[.pointer (some ⟨b, 0, none⟩), .int .i64 m] w (PickPost b C p n w) := by
  subst hm
  obtain ⟨a, len, cap, z⟩ := C
  by_cases hl : len = 0
  · have hD : Hid (Dr b a len cap z p w) := h
    obtain ⟨c0, c1, f1, lt, le, row⟩ := h
    simp only at c0
    subst hl
    have hn3 : decide ((n : Int) < 1) = false := by simp; omega
    clear row
    go_enter Tryz.func17, Tryz.ntmps17
    go_wp2_with fail
    go_ret
    obtain ⟨d1, d2⟩ := (unhide hD).step 0 (p + 1) (.int .i64 ((p : Int) + 1)) (by simp)
    exact ⟨0, rfl, by omega, d1, d2⟩
  · have h2 : Dr b a len cap z p w := h
    obtain ⟨x, hx, _⟩ := h2.row.resolve_left hl
    subst hx
    exact pick_row b x len cap z p n w h2 hn hn2 hp hl

end Go.Proofs.YtabpaaahobakpaaGreat
/-
  What a reader is opened with: l20Open.
-/
namespace Go.Proofs.YtabpaaahobakpaaGreat
open Go.RowKit

theorem below_lt {w : World} {p : Addr} {v : Value} (h : w.cell? p = some v) : p.block < w.heap.size := by
  apply Classical.byContradiction
  intro hn
  have : w.heap[p.block]? = none := Array.getElem?_eq_none (by omega)
  simp [World.cell?, this] at h

set_option maxHeartbeats 1000000 in
theorem l20Open_any (a : Option Addr) (len cap : Nat) (zs : List Int) (w : World) (h : IsRow .u8 w a len cap zs) :
    Calls Tryz.prog 16 #[.slice a len cap] w fun e w' => ∃ C, e = .returned (.pointer (some ⟨w.heap.size, 0, none⟩)) ∧ DrC w.heap.size C 0 w' ∧ Below w.heap.size w w' := by
  rcases h with ⟨rfl, rfl, rfl, rfl⟩ | ⟨x, rfl, hl, hm, hz, hc, hw⟩
  · go_enter Tryz.func16, Tryz.ntmps16
    go_wp2_with fail
    go_ret
    refine ⟨⟨none, 0, 0, fun _ => 0⟩, rfl, ⟨by simp [go_sem], by simp [go_sem], by simp [go_sem], by simp, by simp, .inl rfl⟩, (Below.refl _ _).alloc (Nat.le_refl _) _⟩
  · have row : ∀ (n : Nat) (o : Obj), n ≤ len → n = 0 ∨ ∃ y : Addr, some x = some y ∧ y.block < w.heap.size ∧ ∀ i, i < n → (w.alloc o).cell? (y.add i) = some (.int .u8 (zs.getD i 0)) ∧ 0 ≤ zs.getD i 0 ∧ zs.getD i 0 ≤ 255 := by
      intro n o hn
      by_cases h0 : n = 0
      · exact .inl h0
      · refine .inr ⟨x, rfl, ?_, fun i hi => ?_⟩
        · have := below_lt (hc 0 (by omega))
          rwa [add_block] at this
        · have hci := hc i (by omega)
          have hlt := below_lt hci
          refine ⟨?_, ?_⟩
          · rw [World.cell?_of_block (w := w) (Below.heap_alloc w o _ hlt)]; exact hci
          · have hwi := hw (zs.getD i 0) (by rw [List.getD_eq_getElem?_getD, List.getElem?_eq_getElem (by omega)]; simp)
            exact bounds_u8 hwi
    unfold maxLen at hm
    by_cases hbig : len ≤ 2000
    · have hd : decide ((2000 : Int) < (len : Int)) = false := by simp; omega
      have R := hide (row len)
      clear row hc hw
      go_enter Tryz.func16, Tryz.ntmps16
      go_wp2_with fail
      go_ret
      exact ⟨⟨some x, len, cap, fun i => zs.getD i 0⟩, rfl, ⟨by simp [go_sem], by simp [go_sem], by simp [go_sem], by simp, hbig, unhide R _ (Nat.le_refl _)⟩, (Below.refl _ _).alloc (Nat.le_refl _) _⟩
    · have hd : (2000 : Int) < (len : Int) := by omega
      have hd2 : (2000 : Int) ≤ (cap : Int) := by omega
      have R := hide (row 2000)
      clear row hc hw
      go_enter Tryz.func16, Tryz.ntmps16
      go_wp2_with fail
      go_ret
      exact ⟨⟨some x, 2000, cap, fun i => zs.getD i 0⟩, rfl, ⟨by simp [go_sem], by simp [go_sem], by simp [go_sem], by simp, by simp, unhide R _ (by omega)⟩, (Below.refl _ _).alloc (Nat.le_refl _) _⟩

end Go.Proofs.YtabpaaahobakpaaGreat
/-
  Contracts of the functions that draw secrets' names and texts: each returns a text, not too long, and leaves the reader further on.
-/
namespace Go.Proofs.YtabpaaahobakpaaGreat
open Go.RowKit

theorem cap_300 (x : ByteArray) : (cap x).size ≤ 300 := by
  unfold cap; split
  · assumption
  · show 0 ≤ 300; omega
theorem mkNext_300 (s : ByteArray) : (mkNext s).size ≤ 300 := by unfold mkNext; split; exact cap_300 _; show 0 ≤ 300; omega
end Go.Proofs.YtabpaaahobakpaaGreat
/-
  The program's copy of names.
-/
namespace Go.Proofs.YtabpaaahobakpaaGreat
open Go.RowKit

set_option maxHeartbeats 2000000 in
theorem cloneNames_any (v : Value) (xs : List ByteArray) (w : World) (h : SRow w v xs) (hl : xs.length ≤ 1048576) (hy : ∀ x ∈ xs, x.size ≤ 1000000) :
    Calls Tryz.prog 132 #[v] w fun e w' => ∃ v' : Value, e = .returned v' ∧ w'.ownsRow w.heap.size 9 1 v' xs.length (xs.map Value.string) ∧ Below w.heap.size w w' := by
  obtain ⟨ao, cap, rfl, h1, h2, hc⟩ := h.form
  have hR := hide h
  unfold maxLen at h2
  have HY := hide hy
  clear h hc hy
  obtain ⟨i0, hi, hz0, hz1, hz2⟩ := info_parts info_str'
  have hI := hide (And.intro hi (And.intro hz0 (And.intro hz1 hz2)))
  have hB2 : Hid (i0.bytes * xs.length ≤ 281474976710656) := by show _ ≤ _; rw [hz2]; omega
  clear hi hz0 hz1 hz2
  go_enter Tryz.func132, Tryz.ntmps132
  go_wp2_with (at_make; refine wpList_make_full _ rfl _ _ 28 rfl w.heap.size 9 i0 (.string ⟨#[]⟩) 1 Tryz.underlying28 (unhide hI).1 (unhide hI).2.1 (unhide hI).2.2.1 _ _ _ _ xs.length rfl rfl rfl rfl (unhide hB2) (by unfold maxLen; omega) (Nat.le_refl _) ?_)
  intro w1 hown hgrow
  have hO1 : Hid (w1.ownsRow w.heap.size 9 1 (.slice (some ⟨w.heap.size, 0, none⟩) xs.length xs.length) xs.length (part xs 0)) := by
    rw [part_zero]
    have e : (madeCells #[Value.string ⟨#[]⟩] xs.length).toList = List.replicate xs.length (Value.string ⟨#[]⟩) := by
      simp [madeCells, Nat.mod_one, List.map_const']
    rw [← e]
    exact hown
  have hL1 : Hid (Below w.heap.size w w1) := (Below.refl _ _).grown hgrow (Nat.le_refl _) (fun k hk => by cases hk)
  clear hown hgrow
  go_wp2_with fail
  go_loopw [11] (fun i wr => ∃ k : Nat, k ≤ xs.length ∧ i = .int .i64 (k : Int) ∧ Hid (wr.ownsRow w.heap.size 9 1 (.slice (some ⟨w.heap.size, 0, none⟩) xs.length xs.length) xs.length (part xs k)) ∧ Hid (Below w.heap.size w wr)) (fun i _ => xs.length - (intOf i).toNat)
  case atStart => exact ⟨0, by omega, rfl, hO1, hL1⟩
  case round =>
    clear hO1 hL1
    obtain ⟨k, hk, rfl, hO, hL⟩ := hrel
    by_cases hlt : k < xs.length
    · have hlt2 : (k : Int) < (xs.length : Int) := by omega
      obtain ⟨ao', c1, q1, _, _, q2⟩ := (SRow.below (unhide hR) (unhide hL)).form
      simp only [Value.slice.injEq] at q1
      obtain ⟨rfl, _, rfl⟩ := q1
      obtain ⟨a, rfl, hck⟩ := q2 k hlt
      clear q2
      have i3 : IntKind.i64.wrap ((k : Int) + 1) = (k : Int) + 1 := by simp [IntKind.wrap, IntKind.bits, IntKind.signed]; omega
      have hY : Hid ((xs.getD k ByteArray.empty).size ≤ 1000000) := HY.out _ (getD_mem hlt)
      have hps := hide (part_set xs k hlt)
      generalize xs.getD k ByteArray.empty = y at hck hY hps
      have hle := hL.out.size
      go_wp2_with fail
      refine (clone_any y _ hY.out).mono ?_
      rintro e w2 ⟨rfl, hb2⟩
      have hO2 := own_below' (unhide hO) hb2
      have hL2 := (unhide hL).trans (hb2.mono hle)
      have hle2 := hL2.size
      have hfz := hO2.frozenAt k
      have hcell : w2.cell? ⟨w.heap.size, k, none⟩ = some (.string ⟨#[]⟩) := (hO2.cellAt k (by omega)).trans (part_at xs k hlt)
      have hS1 := hO2.stored k (.string y)
      rw [hps.out] at hS1
      have hS2 := hide hS1
      have hL3 := hide hL2
      clear hS1 hO2 hL2 hb2 hck
      go_wp2_with fail
      go_roundw
      case rel => exact ⟨k + 1, by omega, by simp, hS2.out.1, (unhide hL3).grown hS2.out.2 hle2 (fun j hj => by cases hj; exact Nat.le_refl _)⟩
      case measure => simp [intOf]; omega
    · have hlt2 : decide ((k : Int) < (xs.length : Int)) = false := by simp; omega
      have hkn : k = xs.length := by omega
      subst hkn
      rw [part_all] at hO
      go_wp2_with fail
      go_ret
      exact ⟨_, rfl, unhide hO, unhide hL⟩
end Go.Proofs.YtabpaaahobakpaaGreat
/-
  The program's ownUpward: a secret at a place, and at each place above the one made from that below.
-/
namespace Go.Proofs.YtabpaaahobakpaaGreat
open Go.RowKit Go.Shelf
attribute [local go_sem] Oper.semAt_some

theorem chain_len4 (p : Int) : (chainOf p).length ≤ 4 := by
  unfold chainOf
  split
  · next h =>
    obtain ⟨k, rfl⟩ : ∃ k : Nat, p = (k : Int) := ⟨p.toNat, by omega⟩
    rw [List.length_cons, upOf_nat k (by omega), List.length_map]
    have := ups_len k (by omega)
    omega
  · simp
theorem keepsOthers_belowU {w w' : World} (h : Below w.heap.size w w') : KeepsOthers w w' := ⟨h.size, fun k _ hk _ => (h.block k (Array.getElem?_eq_some_iff.1 hk).1).trans hk⟩
theorem two_newI (w : World) (x y : Value) (t : TypeId) : ∀ j u, [x, y][j]? = some u → (w.alloc (.cells #[x, y] t)).cell? (Addr.add ⟨w.heap.size, 0, none⟩ j) = some u := by
  intro j u hj
  match j, hj with
  | 0, hj => simp at hj; subst hj; simp [Addr.add, go_sem]
  | 1, hj => simp at hj; subst hj; simp [Addr.add, go_sem]

set_option maxRecDepth 100000 in
set_option maxHeartbeats 4000000 in
theorem ownUpward_in (n : Nat) (hn : 3 ≤ n) (p : Int) (s : ByteArray) (hss : s.size ≤ 300) (w : World) :
    CallsIn Fence.wide n Tryz.prog 85 #[.int .i64 p, .string s] w fun e W' => ∃ v, e = .returned v ∧ OwnM w.heap.size W' v (pathOf (chainOf p) s) ∧ Below w.heap.size w W' := by
  have h1 : 1 ≤ n := by omega
  have h2 : 1 ≤ n - 1 := by omega
  have hro : Fence.wide.round = none := rfl
  have hcl := chain_len4 p
  obtain ⟨i0, hi, hz0, hz1, hz2⟩ := info_parts info_mo
  have hI := hide (And.intro hi (And.intro hz0 (And.intro hz1 hz2)))
  clear hi hz0 hz1 hz2
  have bS0 := hide ((Boxed.new w 9 (.string s)).alloc (.cells #[.slice none 0 0] 40))
  have bO0 := Boxed.new (w.alloc (.cells #[.string s] 9)) 40 (.slice none 0 0)
  rw [World.size_alloc] at bO0
  have BO0 := hide bO0
  have HB0 : Hid (Below w.heap.size w ((w.alloc (.cells #[.string s] 9)).alloc (.cells #[.slice none 0 0] 40))) := ((Below.refl _ w).alloc (Nat.le_refl _) _).alloc (by simp) _
  clear bO0
  refine callsIn_of_wp_marks Tryz.func85 rfl trivial ?_ hro
  simp only [Tryz.ntmps85, List.size_toArray, List.length_cons, List.length_nil, Nat.reduceAdd, Nat.reduceSub, Array.replicate_succ, Array.replicate_zero, List.push_toArray, List.append_toArray, List.nil_append, List.cons_append]
  gi_wp2_with (first
    | (refine ⟨trivial, ?_⟩; gi_at_call 86; refine (callsIn_wide.2 (clone_any s _ (by omega))).mono ?_; rintro e w1 ⟨rfl, hb1⟩; have bS1 := box_below (unhide bS0) hb1; have BO1 := hide ((box_below (unhide BO0) hb1).other (B' := w.heap.size) (by omega) (.string s)); have c1 := bS1.cell; have c2 := bS1.frozen; have BS1 := hide (bS1.set (.string s)); have HB1 := hide (below_box (HB0.out.trans (hb1.mono HB0.out.size)) (Nat.le_refl _) (.string s)); have hs1 : w.heap.size + 2 ≤ (w1.setCell ⟨w.heap.size, 0, none⟩ (.string s)).heap.size := (by have := hb1.size; simp [World.setCell] at this ⊢; omega); clear hb1 bS1)
    | (refine ⟨trivial, ?_⟩; gi_at_call 133; refine (upward_in _ _ _).mono ?_; rintro e wz ⟨rfl, rfl⟩))
  have hq2 : (w1.setCell ⟨w.heap.size, 0, none⟩ (.string s)).heap.size = w1.heap.size := by simp [World.setCell]
  generalize w1.setCell ⟨w.heap.size, 0, none⟩ (.string s) = w2 at *
  rw [← hq2]
  clear hq2
  clear c1 c2 bS0 BO0 HB0
  have bS := (unhide BS1).alloc (.cells #[.int .i64 p] 105)
  have bO := (unhide BO1).alloc (.cells #[.int .i64 p] 105)
  have bN := Boxed.new w2 105 (.int .i64 p)
  have hB3 : Below w.heap.size w (w2.alloc (.cells #[.int .i64 p] 105)) := (unhide HB1).alloc HB1.out.size _
  have hsz : (w2.alloc (.cells #[.int .i64 p] 105)).heap.size = w2.heap.size + 1 := by simp
  obtain ⟨W0, hW0⟩ : ∃ W0, w2.alloc (.cells #[.int .i64 p] 105) = W0 := ⟨_, rfl⟩
  rw [hW0] at bS bO bN hB3 hsz ⊢
  clear hW0 BS1 BO1 HB1
  refine wpIn_rangeFunc_ownG hro h1 (gf := 166) (lb := #[.pointer (some ⟨w2.heap.size, 0, none⟩)]) rfl trivial (enters_of Tryz.func166 (by kernel_rfl) rfl)
    (upward_stops (n - 1) h2 w2.heap.size w.heap.size p W0 (by omega) bN.cell) belowK_t (belowK_b (by omega)) (Below.refl _ _) (fun _ => rfl)
    (fun pre W => ((∃ v, Boxed W (w.heap.size + 1) 40 v ∧ W.ownsRow w.heap.size 134 2 v pre.length (mcells (pathOf pre s)) ∧ True) ∧ Boxed W w.heap.size 9 (.string (nextN s pre.length))) ∧ Below w.heap.size w W)
    (fun _ _ _ => False)
    (OwnFrom.and (OwnFrom.and (Own.from (holdsRow_own w.heap.size (w.heap.size + 1) 40 134 2 (fun (pre : List Int) => pre.length) (fun (pre : List Int) => mcells (pathOf pre s)) (fun _ _ => True)) _) (Own.from (boxed_own _ _ (fun (pre : List Int) => Value.string (nextN s pre.length))) _)) (ownFrom_below (Nat.le_refl _) (by omega)))
    (fun _ _ _ _ _ hs _ _ => hs)
    ⟨⟨⟨_, bO, World.ownsRow_nil _ _ _ _, trivial⟩, bS⟩, hB3⟩
    (fun x => { tmps := #[.int .i64 p, .string s, undef, .pointer (some ⟨w.heap.size, 0, none⟩), .slice none 0 0, .pointer (some ⟨w.heap.size + 1, 0, none⟩), .int .i64 x, .string s, .string s, .int .i64 p, .func (.func 166) #[] #[.pointer (some ⟨w2.heap.size, 0, none⟩)], .int .i64 x, undef, undef, undef, undef, undef, undef, undef, undef, undef], defers := [] }) ?assign ?body ?done ?stop
  case assign =>
    intro l x W K hK
    gi_wp2
    exact hK
  case body =>
    rintro l pre x W ⟨⟨⟨v, hv, hrow, _⟩, hbS⟩, hB⟩ hlt
    have hc := hv.cell
    have hcs := hbS.cell
    have h3' : 1 ≤ n - 1 - 1 := by omega
    have hns := nextN_size s hss pre.length
    have HW : Hid (mcells (pathOf (pre ++ [x]) s) = mcells (pathOf pre s) ++ [.int .i64 x, .string (nextN s pre.length)]) := by show _ = _; rw [pathOf_snoc, mcells_snoc]
    have HNX : Hid (nextN s (pre ++ [x]).length = mkNext (nextN s pre.length)) := by show _ = _; rw [List.length_append]; rfl
    generalize nextN s pre.length = sc at hcs hbS HW HNX hns
    have HS := hide hbS
    clear hbS
    gi_wp2_with (gi_at_builtin; refine wpListIn_append_own _ rfl _ _ 40 rfl w.heap.size 134 i0 (.agg #[.int .i64 0, .string ⟨#[]⟩]) 2 24 underMo (unhide hI).1 (unhide hI).2.1 (unhide hI).2.2.1 (unhide hI).2.2.2 rfl (by decide) _ _ _ rfl (hrow.alloc _) ⟨W.heap.size, 0, none⟩ 1 1 [.int .i64 x, .string sc] rfl rfl (two_newI _ _ _ _) (by simp [Value.oneCell']) (by unfold maxLen; omega) (by omega) (by have := hB.size; simp; omega) ?_; intro v' w1 hown' hgrow _; obtain ⟨g', cap', rfl⟩ := ownsRow_succ hown'; obtain ⟨hv1, hv2, hr2, hk2, hb2⟩ := hv.appended (by decide) hrow hB.size (Nat.le_succ _) hown' hgrow; have hc1 := hv1.cell; have hf1 := hv1.frozen; have s1 := ((unhide HS).alloc (.cells #[.int .i64 x, .string sc] 134)).kept hgrow (Boxed.not_row ((unhide HS).alloc (.cells #[.int .i64 x, .string sc] 134)) (by decide) (hrow.alloc _)); have s2 := s1.other (B' := w.heap.size + 1) (by omega) (.slice (some ⟨g', 0, none⟩) (pre.length + 1) cap'); have hs2 := s2.cell; have S2 := hide s2; have V2 := hide hv2; have R2 := hide hr2; have K2 := hide hk2; have B2 := hide hb2; clear hown' hgrow s1 s2 hr2 hk2 hb2 hv2 hv)
    gi_wp2_with (refine ⟨trivial, ?_⟩; gi_at_call 135; refine (CallsIn.inRound l (callsIn_wide.2 (iMakNext_any sc _ (le_maxLen (by omega))))).mono ?_; rintro e wm ⟨rfl, hbm⟩; have c3 := box_below (unhide S2) hbm; have c3c := c3.cell; have c3f := c3.frozen; have F1 : Hid (Boxed (wm.setCell ⟨w.heap.size, 0, none⟩ (.string (mkNext sc))) w.heap.size 9 (.string (mkNext sc))) := c3.set _; have F2 := hide ((box_below (unhide V2) hbm).other (B' := w.heap.size) (by omega) (.string (mkNext sc))); have F4 := hide (row_box (own_below' (unhide R2) hbm) c3 (by decide) (.string (mkNext sc))); have F5 := hide ((unhide K2).trans ((keepsOthers_belowU hbm).trans (KeepsOthers.setCell wm ⟨w.heap.size, 0, none⟩ (.string (mkNext sc))))); have F6 : Hid (Below w.heap.size W (wm.setCell ⟨w.heap.size, 0, none⟩ (.string (mkNext sc)))) := ((unhide B2).trans (hbm.mono (Nat.le_trans hB.size (unhide B2).size))).setCell (p := ⟨w.heap.size, 0, none⟩) (Nat.le_refl _) _; clear c3 hbm)
    refine ⟨(unhide F5).from _, unhide F6, ⟨⟨_, unhide F2, ?_, trivial⟩, by rw [HNX.out]; exact unhide F1⟩, hB.trans (unhide F6)⟩
    rw [HW.out, List.length_append]
    exact unhide F4
  case done =>
    rintro D ys W hD rfl ⟨⟨⟨v, hv, hrow, _⟩, _⟩, hB⟩ hK
    have hc := hv.cell
    gi_wp2
    refine ⟨by simp, .inl ⟨_, _, rfl, run_takeDeferred hK, ?_⟩⟩
    refine ⟨_, results_tmp rfl _ _ _, v, rfl, ?_, hB.trans (belowK_b (w := w) (Nat.le_refl _) W D _ _ (by omega) hK rfl rfl)⟩
    unfold OwnM
    rw [pathOf_len]
    exact ownsRow_putObj hrow _ hK rfl
  case stop =>
    rintro D c pre W _ _ h _
    exact h.elim
theorem ownUpward_any (p : Int) (s : ByteArray) (hss : s.size ≤ 300) (w : World) :
    Calls Tryz.prog 85 #[.int .i64 p, .string s] w fun e W' => ∃ v, e = .returned v ∧ OwnM w.heap.size W' v (pathOf (chainOf p) s) ∧ Below w.heap.size w W' := callsIn_wide.1 (ownUpward_in 3 (by omega) p s hss w)
end Go.Proofs.YtabpaaahobakpaaGreat
/-
  The program's TreClear.
-/
namespace Go.Proofs.YtabpaaahobakpaaGreat
open Go.RowKit Go.Shelf
attribute [local go_sem] Oper.semAt_some

def vals (ps : List (Fin 15)) : List Nat := ps.map (·.val)
theorem vals_snoc (ps : List (Fin 15)) (x : Fin 15) : vals (ps ++ [x]) = vals ps ++ [x.val] := by simp [vals]
theorem vals_chain (k : Nat) (h : k < 8) : vals (chainF ((7 + k : Nat) : Int)) = (7 + k) :: ups (7 + k) := by
  rw [chainF_nat (7 + k) (by omega)]
  exact chainT_val _

end Go.Proofs.YtabpaaahobakpaaGreat
/-
  The program's TreSet.
-/
namespace Go.Proofs.YtabpaaahobakpaaGreat
open Go.RowKit Go.Shelf
attribute [local go_sem] Oper.semAt_some

theorem keepsOthers_below {w w' : World} (h : Below w.heap.size w w') : KeepsOthers w w' := ⟨h.size, fun k _ hk _ => (h.block k (Array.getElem?_eq_some_iff.1 hk).1).trans hk⟩

set_option maxRecDepth 100000 in
set_option maxHeartbeats 1000000 in
theorem mayBeSet_any (s : ByteArray) (w : World) (hm : s.size ≤ maxLen) :
    Calls Tryz.prog 82 #[.string s] w fun e w' => e = .returned (.bool (maySet s)) ∧ Below w.heap.size w w' := by
  have M := hide hm
  unfold maxLen at hm
  have HE : Hid (maySet s = (Kw.ok s && decide (s.size ≤ 292))) := rfl
  go_enter Tryz.func82, Tryz.ntmps82
  go_wp2_with fail
  refine (iSecOk_any s _ M.out).mono ?_
  cases hk : Kw.ok s with
  | false =>
    rintro e w1 ⟨rfl, hb1⟩
    have HK := hide hk
    clear hk
    go_wp2_with fail
    go_ret
    exact ⟨ret_bool' (by rw [HE.out, HK.out]; rfl), hb1⟩
  | true =>
    rintro e w1 ⟨rfl, hb1⟩
    have HK := hide hk
    clear hk
    by_cases h2 : s.size ≤ 292
    · have h3 : (s.size : Int) ≤ 292 := by omega
      go_wp2_with fail
      go_ret
      exact ⟨ret_bool' (by rw [HE.out, HK.out]; simp [h2]), hb1⟩
    · have h3 : decide ((s.size : Int) ≤ 292) = false := by simp; omega
      go_wp2_with fail
      go_ret
      exact ⟨ret_bool' (by rw [HE.out, HK.out]; simp [h2]), hb1⟩

set_option maxRecDepth 100000 in
set_option maxHeartbeats 2000000 in
theorem iTreSet_no (v : Value) (xs : List ByteArray) (p : Int) (s : ByteArray) (w : World) (h : SRow w v xs) (hx : ∀ x ∈ xs, x.size ≤ maxLen) (hs : s.size ≤ maxLen) (hno : ¬ ((treOk xs = true ∧ 0 ≤ p ∧ p ≤ 7) ∧ maySet s = true)) :
    Calls Tryz.prog 83 #[.agg #[v], .int .i64 p, .string s] w fun e w' => ∃ u, e = .returned (.agg #[u]) ∧ Own w.heap.size w' u [] ∧ Below w.heap.size w w' := by
  obtain ⟨ao, cap, rfl, h1, h2, _⟩ := h.form
  have HX := hide hx
  have HS := hide hs
  have hR := hide h
  have HN := hide hno
  clear h hx hno hs
  go_enter Tryz.func83, Tryz.ntmps83
  go_wp2_with fail
  refine (iTreOk_any _ xs _ ((((unhide hR).below ((Below.refl _ _).alloc (Nat.le_refl _) _)).below ((Below.refl _ _).alloc (Nat.le_refl _) _)).below ((Below.refl _ _).alloc (Nat.le_refl _) _)) (unhide HX)).mono ?_
  rintro e w1 ⟨rfl, hb1⟩
  have S1 := hide (box_below ((Boxed.new (w.alloc (.cells #[.slice ao xs.length cap] 39)) 9 (.string s)).alloc (.cells #[.slice none 0 0] 39)) hb1)
  have B1 := hide (box_below (Boxed.new ((w.alloc (.cells #[.slice ao xs.length cap] 39)).alloc (.cells #[.string s] 9)) 39 (.slice none 0 0)) hb1)
  simp only [World.size_alloc] at B1 S1
  have HB1 : Hid (Below w.heap.size w w1) := ((((Below.refl _ _).alloc (Nat.le_refl _) _).alloc (by simp) _).alloc (by simp; omega) _).trans (hb1.mono (by simp; omega))
  have l0 := (unhide S1).cell
  clear hb1
  cases hk : treOk xs with
  | false =>
    have HB2 := hide (below_box (unhide HB1) (b := w.heap.size + 1 + 1) (by omega) (.slice none 0 0))
    have l1 := (unhide B1).cell
    have l2 := (unhide B1).frozen
    have l3 := ((unhide B1).set (.slice none 0 0)).cell
    clear hk
    go_wp2_with fail
    refine bodyPost_ret (v := .agg #[.slice none 0 0]) (by simp [results, Tryz.results83, go_sem, l3]) rfl ⟨_, rfl, World.ownsRow_nil _ _ _ _, unhide HB2⟩
  | true =>
    by_cases hp : 0 ≤ p ∧ p ≤ 7
    · have hms : Hid (maySet s = false) := by
        show _ = _
        cases q : maySet s with
        | false => rfl
        | true => exact absurd ⟨⟨hk, hp⟩, q⟩ HN.out
      have HP := hide hp
      clear hk hp
      go_wp2_with fail
      refine (isOne_yes _ _ HP.out.1 (by have := HP.out; omega)).mono ?_
      rintro e wq ⟨rfl, rfl⟩
      go_wp2_with fail
      refine (mayBeSet_any s _ HS.out).mono ?_
      rw [hms.out]
      rintro e w2 ⟨rfl, hb2⟩
      have HB3 := hide (HB1.out.trans (hb2.mono HB1.out.size))
      have B2 := box_below (unhide B1) hb2
      have HB2 := hide (below_box (unhide HB3) (b := w.heap.size + 1 + 1) (by omega) (.slice none 0 0))
      have l1 := B2.cell
      have l2 := B2.frozen
      have l3 := (B2.set (.slice none 0 0)).cell
      clear hb2 B2 l0
      go_wp2_with fail
      refine bodyPost_ret (v := .agg #[.slice none 0 0]) (by simp [results, Tryz.results83, go_sem, l3]) rfl ⟨_, rfl, World.ownsRow_nil _ _ _ _, unhide HB2⟩
    · have HB2 := hide (below_box (unhide HB1) (b := w.heap.size + 1 + 1) (by omega) (.slice none 0 0))
      have l1 := (unhide B1).cell
      have l2 := (unhide B1).frozen
      have l3 := ((unhide B1).set (.slice none 0 0)).cell
      have HP := hide hp
      clear hk hp
      go_wp2_with fail
      refine (isOne_no _ _ (by have := HP.out; omega)).mono ?_
      rintro e wq ⟨rfl, rfl⟩
      go_wp2_with fail
      refine bodyPost_ret (v := .agg #[.slice none 0 0]) (by simp [results, Tryz.results83, go_sem, l3]) rfl ⟨_, rfl, World.ownsRow_nil _ _ _ _, unhide HB2⟩

set_option maxRecDepth 100000 in
set_option maxHeartbeats 8000000 in
theorem iTreSet_ok (v : Value) (xs : List ByteArray) (k : Nat) (hk : k < 8) (s : ByteArray) (hms : maySet s = true) (w : World) (h : SRow w v xs) (hok : treOk xs = true) (n : Nat) (hn : 4 ≤ n) :
    CallsIn Fence.wide n Tryz.prog 83 #[.agg #[v], .int .i64 (k : Int), .string s] w fun e w' => ∃ u, e = .returned (.agg #[u]) ∧ Own w.heap.size w' u (setKeys xs k s) ∧ Below w.heap.size w w' := by
  have hl : xs.length = 15 := (treOk_iff.1 hok).1
  have hsm := treOk_small hok
  obtain ⟨ao, cap, rfl, h1, h2, _⟩ := h.form
  rw [hl] at h ⊢
  have h1' : 1 ≤ n := by omega
  have h2' : 1 ≤ n - 1 := by omega
  have hro : Fence.wide.round = none := rfl
  have HSM := hide hsm
  have HOK := hide hok
  have HMS := hide hms
  have hss : s.size ≤ 300 := by
    unfold maySet at hms
    simp at hms
    omega
  have hR := hide h
  have hLf : Hid (leafOf (k : Int) = ((7 + k : Nat) : Int)) := by show _ = _; unfold leafOf; rw [if_pos (by omega)]; omega
  have HL := hide hl
  clear h hok hsm h1 h2 hl hms
  refine callsIn_of_wp_marks Tryz.func83 rfl trivial ?_ hro
  simp only [Tryz.ntmps83, List.size_toArray, List.length_cons, List.length_nil, Nat.reduceAdd, Nat.reduceSub, Array.replicate_succ, Array.replicate_zero, List.push_toArray, List.append_toArray, List.nil_append, List.cons_append]
  gi_wp2_with (first
    | (refine ⟨trivial, ?_⟩; gi_at_call 53; refine (callsIn_wide.2 (iTreOk_any _ xs _ ((((unhide hR).below ((Below.refl _ _).alloc (Nat.le_refl _) _)).below ((Below.refl _ _).alloc (Nat.le_refl _) _)).below ((Below.refl _ _).alloc (Nat.le_refl _) _)) (fun x hx => Nat.le_trans (HSM.out x hx) (by unfold maxLen; omega)))).mono ?_; rw [HOK.out]; rintro e w1 ⟨rfl, hb1⟩; have A1 := box_below (((Boxed.new w 39 (.slice ao 15 cap)).alloc (.cells #[.string s] 9)).alloc (.cells #[.slice none 0 0] 39)) hb1; have C1 := box_below ((Boxed.new (w.alloc (.cells #[.slice ao 15 cap] 39)) 9 (.string s)).alloc (.cells #[.slice none 0 0] 39)) hb1; have B1 := box_below (Boxed.new ((w.alloc (.cells #[.slice ao 15 cap] 39)).alloc (.cells #[.string s] 9)) 39 (.slice none 0 0)) hb1; simp only [World.size_alloc] at B1 C1; have HA1 := A1.cell; have HC1 := C1.cell; have HB1 : Hid (Below w.heap.size w w1) := ((((Below.refl _ _).alloc (Nat.le_refl _) _).alloc (by simp) _).alloc (by simp; omega) _).trans (hb1.mono (by simp; omega)); have A1h := hide A1; have B1h := hide B1; have C1h := hide C1; have hs1 := hb1.size; simp only [World.size_alloc] at hs1; clear hb1 A1 B1 C1)
    | (refine ⟨trivial, ?_⟩; gi_at_call 18; refine (callsIn_wide.2 (isOne_yes (k : Int) _ (by omega) (by omega))).mono ?_; rintro e wq ⟨rfl, rfl⟩)
    | (refine ⟨trivial, ?_⟩; gi_at_call 82; refine (callsIn_wide.2 (mayBeSet_any s _ (by unfold maxLen; omega))).mono ?_; rw [HMS.out]; rintro e w5 ⟨rfl, hb5⟩; have A5h := hide (box_below (unhide A1h) hb5); have B5h := hide (box_below (unhide B1h) hb5); have C5h := hide (box_below (unhide C1h) hb5); have HB5 := hide (HB1.out.trans (hb5.mono HB1.out.size)); have hs5 := hb5.size; have HA5 := (unhide A5h).cell; clear hb5 HA1 HC1)
    | (refine ⟨trivial, ?_⟩; gi_at_call 132; refine (callsIn_wide.2 (cloneNames_any _ xs _ ((unhide hR).below (unhide HB5)) (by have := HL.out; omega) (fun x hx => Nat.le_trans (HSM.out x hx) (by omega)))).mono ?_; rw [HL.out]; rintro e w2 ⟨v2, rfl, ho2, hb2⟩; obtain ⟨g, c2, rfl, hg1, hg2, hg3, hg4⟩ := row15 ho2; have O2 := hide ho2; have HB2 := hide (HB5.out.trans (hb2.mono HB5.out.size)); have B2h := hide (box_below (unhide B5h) hb2); have C2h := hide (box_below (unhide C5h) hb2); have hs2 := hb2.size; clear ho2 hb2 HA5)
    | (refine ⟨trivial, ?_⟩; gi_at_call 54; refine (callsIn_wide.2 (placeOf_any (k : Int) _)).mono ?_; rw [hLf.out]; rintro e wz ⟨rfl, rfl⟩)
    | (refine ⟨trivial, ?_⟩; gi_at_call 133; refine (upward_in _ _ _).mono ?_; rintro e wz ⟨rfl, rfl⟩))
  have bK := (Boxed.new w2 28 (.slice (some ⟨g, 0, none⟩) 15 c2)).alloc (.cells #[.int .i64 (7 + (k : Int))] 105)
  have bN := Boxed.new (w2.alloc (.cells #[.slice (some ⟨g, 0, none⟩) 15 c2] 28)) 105 (.int .i64 (7 + (k : Int)))
  have bR := ((unhide B2h).alloc (.cells #[.slice (some ⟨g, 0, none⟩) 15 c2] 28)).alloc (.cells #[.int .i64 (7 + (k : Int))] 105)
  have bS := ((unhide C2h).alloc (.cells #[.slice (some ⟨g, 0, none⟩) 15 c2] 28)).alloc (.cells #[.int .i64 (7 + (k : Int))] 105)
  rw [World.size_alloc] at bN
  have hO3 := own_below' (own_below' (unhide O2) ((Below.refl _ _).alloc (Nat.le_refl _) (.cells #[.slice (some ⟨g, 0, none⟩) 15 c2] 28))) ((Below.refl _ _).alloc (Nat.le_refl _) (.cells #[.int .i64 (7 + (k : Int))] 105))
  have hB3 : Below w.heap.size w ((w2.alloc (.cells #[.slice (some ⟨g, 0, none⟩) 15 c2] 28)).alloc (.cells #[.int .i64 (7 + (k : Int))] 105)) := ((unhide HB2).alloc HB2.out.size _).alloc (by simp; have := HB2.out.size; omega) _
  have hsz : ((w2.alloc (.cells #[.slice (some ⟨g, 0, none⟩) 15 c2] 28)).alloc (.cells #[.int .i64 (7 + (k : Int))] 105)).heap.size = w2.heap.size + 2 := by simp
  have hw2 := HB2.out.size
  have hw5 := HB5.out.size
  obtain ⟨W0, hW0⟩ : ∃ W0, (w2.alloc (.cells #[.slice (some ⟨g, 0, none⟩) 15 c2] 28)).alloc (.cells #[.int .i64 (7 + (k : Int))] 105) = W0 := ⟨_, rfl⟩
  rw [hW0] at bK bN bR bS hO3 hB3 hsz ⊢
  clear hW0
  refine wpIn_rangeFunc_ownG hro h1' (gf := 166) (lb := #[.pointer (some ⟨w2.heap.size + 1, 0, none⟩)]) rfl trivial (enters_of Tryz.func166 (by kernel_rfl) rfl)
    (upwardF_stops (n - 1) h2' (w2.heap.size + 1) w.heap.size (7 + (k : Int)) W0 (by omega) bN.cell) belowK_t (belowK_b (by omega)) (Below.refl _ _) (fun _ => rfl)
    (fun pre W => (((∃ u, Boxed W w2.heap.size 28 u ∧ W.ownsRow w5.heap.size 9 1 u 15 ((fill xs s (vals pre)).map Value.string) ∧ u = .slice (some ⟨g, 0, none⟩) 15 c2) ∧ Boxed W (w.heap.size + 1) 9 (.string (nextN s pre.length))) ∧ Boxed W (w.heap.size + 1 + 1) 39 (.slice none 0 0)) ∧ Below w.heap.size w W)
    (fun _ _ _ => False)
    (OwnFrom.and (OwnFrom.and (OwnFrom.and (Own.from (holdsRow_own w5.heap.size w2.heap.size 28 9 1 (fun (_ : List (Fin 15)) => 15) (fun (pre : List (Fin 15)) => (fill xs s (vals pre)).map Value.string) (fun _ u => u = .slice (some ⟨g, 0, none⟩) 15 c2)) _) (Own.from (boxed_own _ _ (fun (pre : List (Fin 15)) => Value.string (nextN s pre.length))) _)) (Own.from (boxed_own _ _ _) _)) (ownFrom_below (Nat.le_refl _) (by omega)))
    (fun _ _ _ _ _ hs _ _ => hs)
    ⟨⟨⟨⟨_, bK, hO3, rfl⟩, bS⟩, bR⟩, hB3⟩
    (fun x => { tmps := #[.agg #[.slice ao 15 cap], .int .i64 (k : Int), .string s, .pointer (some ⟨w.heap.size, 0, none⟩), undef, .pointer (some ⟨w.heap.size + 1, 0, none⟩), .pointer (some ⟨w.heap.size + 1 + 1, 0, none⟩), .pointer (some ⟨w2.heap.size, 0, none⟩), .int .i64 ((x.val : Nat) : Int), .agg #[.slice ao 15 cap], .bool true, .bool false, .bool false, .int .i64 (k : Int), .bool true, .bool false, .bool false, .bool false, .string s, .bool true, .bool false, .bool false, undef, .pointer (some ⟨w.heap.size, 0, none⟩), .slice ao 15 cap, .slice (some ⟨g, 0, none⟩) 15 c2, .int .i64 (k : Int), .int .i64 (7 + (k : Int)), .func (.func 166) #[] #[.pointer (some ⟨w2.heap.size + 1, 0, none⟩)], .int .i64 ((x.val : Nat) : Int), undef, undef, undef, undef, undef, undef, undef, undef, undef], defers := [] }) ?assign ?body ?done ?stop
  case assign =>
    intro l x W K hK
    gi_wp2
    exact hK
  case body =>
    rintro l pre x W ⟨⟨⟨⟨u, hu, hrow, rfl⟩, hbS⟩, hbR⟩, hB⟩ hlt
    have hj := x.isLt
    have hc := hu.cell
    have hcs := hbS.cell
    have j1 : ((x.val : Nat) : Int) < 15 := by omega
    have h3' : 1 ≤ n - 1 - 1 := by omega
    have hns := nextN_size s hss pre.length
    have HW : Hid (fill xs s (vals (pre ++ [x])) = (fill xs s (vals pre)).set x.val (mkKey (nextN s pre.length))) := by show _ = _; rw [vals_snoc, fill_snoc]; simp [vals]
    have HNX : Hid (nextN s (pre ++ [x]).length = mkNext (nextN s pre.length)) := by show _ = _; rw [List.length_append]; rfl
    generalize nextN s pre.length = sc at hcs hbS HW HNX hns
    have HROW := hide hrow
    have HU := hide hu
    have HS := hide hbS
    have HR := hide hbR
    clear hrow hu hbS hbR
    gi_wp2
    have hmx : Tryz.prog.follows .mixedOrders = true := by kernel_rfl
    gi_region_with_o (refine ⟨trivial, ?_⟩; gi_at_call 134; refine (CallsIn.inRound l (callsIn_wide.2 (iMakKey_any sc _ (le_maxLen (by omega))))).mono ?_; rintro e wk ⟨rfl, hbk⟩; have o1 := own_below' (w := W.drew) (unhide HROW) hbk; obtain ⟨s1, s2, s3, s4⟩ := row15_set (by rw [fill_len]; exact HL.out) o1 x.val hj (mkKey sc); have k1 := box_below (w := W.drew) (unhide HU) hbk; have k2 := hide (box_grown k1 o1 (by decide) s4); have r2 := hide (box_grown (box_below (w := W.drew) (unhide HR) hbk) o1 (by decide) s4); have c1 := box_below (w := W.drew) (unhide HS) hbk; have c2' := c1.kept s4 (fun q => by cases q; omega); have C2 := hide c2'; have k1c := k1.cell; have c2c := c2'.cell; have S3 := hide s3; have KO := hide ((keepsOthers_below hbk).trans (KeepsOthers.setCell wk ⟨g, x.val, none⟩ (.string (mkKey sc)))); have BW : Hid (Below w.heap.size W (wk.setCell ⟨g, x.val, none⟩ (.string (mkKey sc)))) := ((Below.refl w.heap.size W).drew.trans (hbk.mono hB.size)).setCell (p := ⟨g, x.val, none⟩) (by show w.heap.size ≤ g; omega) _; clear o1 s3 s4 k1 c1 c2' hbk; generalize (fill xs s (vals pre)).getD x.val ByteArray.empty = old at s1; generalize mkKey sc = ky at *)
    all_goals gi_wp2_with (refine ⟨trivial, ?_⟩; gi_at_call 135; refine (CallsIn.inRound l (callsIn_wide.2 (iMakNext_any sc _ (le_maxLen (by omega))))).mono ?_; rintro e wm ⟨rfl, hbm⟩; have c3 := box_below (unhide C2) hbm; have c3c := c3.cell; have c3f := c3.frozen; have F1 : Hid (Boxed (wm.setCell ⟨w.heap.size + 1, 0, none⟩ (.string (mkNext sc))) (w.heap.size + 1) 9 (.string (mkNext sc))) := c3.set _; have F2 : Hid (Boxed (wm.setCell ⟨w.heap.size + 1, 0, none⟩ (.string (mkNext sc))) w2.heap.size 28 (.slice (some ⟨g, 0, none⟩) 15 c2)) := (box_below (unhide k2) hbm).other (by omega) _; have F3 : Hid (Boxed (wm.setCell ⟨w.heap.size + 1, 0, none⟩ (.string (mkNext sc))) (w.heap.size + 1 + 1) 39 (.slice none 0 0)) := (box_below (unhide r2) hbm).other (by omega) _; have F4 := hide (World.ownsRow.kept (own_below' (unhide S3) hbm) (grownBy_setCell' wm (w.heap.size + 1) (.string (mkNext sc))) (.inr (by simp [Value.ownBlock]; omega))); have F5 := hide ((unhide KO).trans ((keepsOthers_below hbm).trans (KeepsOthers.setCell wm ⟨w.heap.size + 1, 0, none⟩ (.string (mkNext sc))))); have F6 : Hid (Below w.heap.size W (wm.setCell ⟨w.heap.size + 1, 0, none⟩ (.string (mkNext sc)))) := ((unhide BW).trans (hbm.mono (Nat.le_trans hB.size (unhide BW).size))).setCell (p := ⟨w.heap.size + 1, 0, none⟩) (by simp) _; clear c3 hbm)
    all_goals exact ⟨((KeepsOthers.drew W).trans (unhide F5)).from _, unhide F6, ⟨⟨⟨_, unhide F2, by rw [HW.out]; exact unhide F4, rfl⟩, by rw [HNX.out]; exact unhide F1⟩, unhide F3⟩, hB.trans (unhide F6)⟩
  case done =>
    rintro D ys W hD rfl ⟨⟨⟨⟨u, hu, hrow, rfl⟩, hbS⟩, hbR⟩, hB⟩ hK
    have hc := hu.cell
    have hc2 := hbR.cell
    have hc3 := hbR.frozen
    have HE : Hid (fill xs s (vals (chainF (7 + (k : Int)))) = setKeys xs k s) := by
      show _ = _
      have q := vals_chain k hk
      rw [show (((7 + k : Nat) : Int)) = 7 + (k : Int) by omega] at q
      rw [q]
      rfl
    have R1 := row_box hrow hbR (by decide) (.slice (some ⟨g, 0, none⟩) 15 c2)
    gi_wp2
    have hK' := (KeepsOthers.setCell W ⟨w.heap.size + 1 + 1, 0, none⟩ (.slice (some ⟨g, 0, none⟩) 15 c2)).same D _ hK rfl
    refine ⟨by simp, .inl ⟨_, _, rfl, run_takeDeferred hK', ?_⟩⟩
    have hc5 := cell_kept (hbR.set (.slice (some ⟨g, 0, none⟩) 15 c2)).cell (grownBy_putObj' _ D (.deferred none)) (fun r e => by cases e; exact ⟨_, hK', rfl⟩)
    refine ⟨.agg #[.slice (some ⟨g, 0, none⟩) 15 c2], ?_, _, rfl, ?_, (hB.setCell (p := ⟨w.heap.size + 1 + 1, 0, none⟩) (by simp; omega) _).trans (belowK_b (w := w) (Nat.le_refl _) _ D _ _ (by omega) hK' rfl rfl)⟩
    · simp [results, Tryz.f83, go_sem, hc5]
    · have q := ownsRow_putObj R1 (.deferred none) hK' rfl
      rw [HE.out] at q
      unfold Own
      rw [setKeys_len, HL.out]
      exact row_lowB q hw5
  case stop =>
    rintro D c pre W _ _ h _
    exact h.elim

theorem iTreSet_any (v : Value) (xs : List ByteArray) (p : Int) (s : ByteArray) (w : World) (h : SRow w v xs) (hx : ∀ x ∈ xs, x.size ≤ maxLen) (hs : s.size ≤ maxLen) :
    Calls Tryz.prog 83 #[.agg #[v], .int .i64 p, .string s] w fun e w' => ∃ u, e = .returned (.agg #[u]) ∧ Own w.heap.size w' u (setRes xs p s) ∧ Below w.heap.size w w' := by
  by_cases hy : (treOk xs = true ∧ 0 ≤ p ∧ p ≤ 7) ∧ maySet s = true
  · obtain ⟨k, rfl⟩ : ∃ k : Nat, p = (k : Int) := ⟨p.toNat, by omega⟩
    rw [setRes_yes hy.1.1 (by omega) hy.2]
    exact callsIn_wide.1 (iTreSet_ok v xs k (by omega) s hy.2 w h hy.1.1 4 (Nat.le_refl _))
  · rw [setRes_no hy]
    exact iTreSet_no v xs p s w h hx hs hy
end Go.Proofs.YtabpaaahobakpaaGreat
/-
  Trees without keys: TreNew of the program.
-/
namespace Go.Proofs.YtabpaaahobakpaaGreat
open Go.RowKit

set_option maxRecDepth 100000 in
set_option maxHeartbeats 1000000 in
theorem iTreNew_any (w : World) : Calls Tryz.prog 84 #[] w fun e w' => ∃ v, e = .returned (.agg #[v]) ∧ Own w.heap.size w' v bare ∧ Below w.heap.size w w' := by
  obtain ⟨i0, hi, hz0, hz1, hz2⟩ := info_parts info_str2
  have hI := hide (And.intro hi (And.intro hz0 hz1))
  have hB2 : Hid (i0.bytes * 15 ≤ 281474976710656) := by show _ ≤ _; rw [hz2]; omega
  clear hi hz0 hz1 hz2
  go_enter Tryz.func84, Tryz.ntmps84
  go_wp2_with (at_make; refine wpList_make_full _ rfl _ _ 28 rfl w.heap.size 9 i0 (.string ⟨#[]⟩) 1 Tryz.underlying28 (unhide hI).1 (unhide hI).2.1 (unhide hI).2.2 _ _ _ _ 15 rfl rfl rfl rfl (unhide hB2) (by unfold maxLen; omega) (by simp) ?_)
  intro w1 hown hgrow
  have hO1 : Hid (Own w.heap.size w1 (.slice (some ⟨w.heap.size + 1, 0, none⟩) 15 15) bare) := by
    have e : (madeCells #[Value.string ⟨#[]⟩] 15).toList = bare.map Value.string := by
      simp [madeCells, Nat.mod_one, List.map_const', bare]; rfl
    rw [e] at hown
    exact hown
  have hL1 : Hid (Below w.heap.size w w1) := ((Below.refl _ _).alloc (Nat.le_refl _) _).grown hgrow (by simp) (fun k hk => by cases hk)
  have hblk : w1.heap[w.heap.size]? = some (.cells #[.slice none 0 0] 39) := (hgrow.block w.heap.size (by simp) (by simp)).trans (World.alloc_heap_new w _)
  have hc : w1.cell? ⟨w.heap.size, 0, none⟩ = some (.slice none 0 0) := by simp [World.cell?, hblk]
  have hf : w1.frozen? ⟨w.heap.size, 0, none⟩ = false := by simp [World.frozen?, hblk]
  clear hown hgrow
  go_wp2_with fail
  refine bodyPost_ret (v := .agg #[.slice (some ⟨w.heap.size + 1, 0, none⟩) 15 15]) (by simp [results, Tryz.results84, go_sem, hc]) rfl ⟨_, rfl, ?_, (unhide hL1).setCell (p := ⟨w.heap.size, 0, none⟩) (Nat.le_refl _) _⟩
  refine World.ownsRow.kept (unhide hO1) (grownBy_setCell0 w1 w.heap.size _) (.inr ?_)
  simp [Value.ownBlock]

end Go.Proofs.YtabpaaahobakpaaGreat
