/-
  Contracts of the reader by which inputs are drawn: what one draw leaves.
-/
import Derived.Test.YticmbajfdpchnaaBase
import Derived.Deep.RegionWith
namespace Go.Proofs.Yticmbajfdpchnaa
open Go.RowKit

/-- All blocks but one are as they were; more may have come. -/
structure Ex (b : Nat) (w w' : World) : Prop where
  os : w'.os = w.os
  tape : w'.tape = w.tape
  output : w'.output = w.output
  size : w.heap.size ≤ w'.heap.size
  block : ∀ k, k < w.heap.size → k ≠ b → w'.heap[k]? = w.heap[k]?

theorem Ex.refl (b : Nat) (w : World) : Ex b w w := ⟨rfl, rfl, rfl, Nat.le_refl _, fun _ _ _ => rfl⟩
theorem Ex.trans {b : Nat} {u v w : World} (h : Ex b u v) (k : Ex b v w) : Ex b u w :=
  ⟨k.os.trans h.os, k.tape.trans h.tape, k.output.trans h.output, Nat.le_trans h.size k.size, fun i hi hn => (k.block i (Nat.lt_of_lt_of_le hi h.size) hn).trans (h.block i hi hn)⟩
theorem Ex.of_below (b : Nat) {w w' : World} (h : Below w.heap.size w w') : Ex b w w' := ⟨h.os, h.tape, h.output, h.size, fun k hk _ => h.block k hk⟩
theorem Ex.set {b : Nat} {u w : World} (h : Ex b u w) (o : Nat) (v : Value) : Ex b u (w.setCell ⟨b, o, none⟩ v) :=
  h.trans ⟨rfl, rfl, rfl, by simp [World.setCell], fun k _ hn => Below.heap_setCell _ _ _ _ hn⟩
theorem Ex.drewN {b : Nat} {u w : World} (h : Ex b u w) (n : Nat) : Ex b u (w.drewN n) := h.trans ⟨rfl, rfl, rfl, Nat.le_refl _, fun _ _ _ => rfl⟩
theorem Ex.drew {b : Nat} {u w : World} (h : Ex b u w) : Ex b u w.drew := h.trans ⟨rfl, rfl, rfl, Nat.le_refl _, fun _ _ _ => rfl⟩
theorem Ex.alloc {b : Nat} {u w : World} (h : Ex b u w) (o : Obj) : Ex b u (w.alloc o) := h.trans ⟨rfl, rfl, rfl, by simp, fun k hk _ => Below.heap_alloc _ _ _ hk⟩
theorem Ex.below {b : Nat} {w w' : World} (h : Ex b w w') {B : Nat} (hB : B ≤ b) (hw : B ≤ w.heap.size) : Below B w w' := ⟨h.os, h.tape, h.output, h.size, fun k hk => h.block k (by omega) (by omega)⟩
theorem Ex.cell {b : Nat} {w w' : World} (h : Ex b w w') {p : Addr} (hp : p.block < w.heap.size) (hn : p.block ≠ b) : w'.cell? p = w.cell? p := World.cell?_of_block (w := w) (h.block p.block hp hn)
theorem Ex.frozen {b : Nat} {w w' : World} (h : Ex b w w') {p : Addr} (hp : p.block < w.heap.size) (hn : p.block ≠ b) : w'.frozen? p = w.frozen? p := World.frozen?_of_block (w := w) (h.block p.block hp hn)

/-- A reader of a code lies at block b; it has drawn p times. -/
structure Dr (b : Nat) (a : Option Addr) (len cap : Nat) (z : Nat → Int) (p : Nat) (w : World) : Prop where
  c0 : w.cell? ⟨b, 0, none⟩ = some (.slice a len cap)
  c1 : w.cell? ⟨b, 1, none⟩ = some (.int .i64 (p : Int))
  f1 : w.frozen? ⟨b, 1, none⟩ = false
  lt : b < w.heap.size
  le : len ≤ 2000
  row : len = 0 ∨ ∃ x : Addr, a = some x ∧ x.block < b ∧ ∀ i, i < len → w.cell? (x.add i) = some (.int .u8 (z i)) ∧ 0 ≤ z i ∧ z i ≤ 255

theorem cell_other {w : World} {b : Nat} {q : Addr} {u : Value} (h : w.cell? q = some u) (hq : q.block < b) (v : Value) : (w.setCell ⟨b, 1, none⟩ v).cell? q = some u := by
  rw [World.cell?_of_block (w := w) (Below.heap_setCell w ⟨b, 1, none⟩ v q.block (by show q.block ≠ b; omega))]
  exact h

theorem add_block (x : Addr) (i : Nat) : (x.add i).block = x.block := by unfold Addr.add; split <;> rfl
theorem cell_row {w : World} {b : Nat} {x : Addr} {i : Nat} {u : Value} (h : w.cell? (x.add i) = some u) (hx : x.block < b) (v : Value) : (w.setCell ⟨b, 1, none⟩ v).cell? (x.add i) = some u :=
  cell_other h (by rw [add_block]; exact hx) v

theorem Dr.step {b : Nat} {a : Option Addr} {len cap : Nat} {z : Nat → Int} {p : Nat} {w : World} (h : Dr b a len cap z p w) (n p' : Nat) (v : Value) (hv : v = .int .i64 (p' : Int)) :
    Dr b a len cap z p' ((w.drewN n).setCell ⟨b, 1, none⟩ v) ∧ Ex b w ((w.drewN n).setCell ⟨b, 1, none⟩ v) := by
  obtain ⟨c0, c1, f1, lt, le, row⟩ := h
  subst hv
  refine ⟨⟨by simp [go_sem, c0], by simp [go_sem, c1], by simp [go_sem, f1], by simpa [World.setCell] using lt, le, ?_⟩, ((Ex.refl b w).drewN n).set 1 _⟩
  rcases row with h0 | ⟨x, hx, hxb, hr⟩
  · exact .inl h0
  · exact .inr ⟨x, hx, hxb, fun i hi => ⟨cell_row (w := w.drewN n) (hr i hi).1 hxb _, (hr i hi).2⟩⟩

theorem Dr.step0 {b : Nat} {a : Option Addr} {len cap : Nat} {z : Nat → Int} {p : Nat} {w : World} (h : Dr b a len cap z p w) (n p' : Nat) (v : Value) (hv : v = .int .i64 (p' : Int)) :
    Dr b a len cap z p' ((w.setCell ⟨b, 1, none⟩ v).drewN n) ∧ Ex b w ((w.setCell ⟨b, 1, none⟩ v).drewN n) := h.step n p' v hv

theorem bits_xor_i64_nat (a b : Nat) (ha : a < 4611686018427387904) (hb : b < 4611686018427387904) :
    bits .xor .i64 (a : Int) (b : Int) = ((a ^^^ b : Nat) : Int) := by
  have hx : a ^^^ b < 2 ^ 62 := Nat.xor_lt_two_pow (by omega) (by omega)
  have h1 : (BitVec.ofInt 64 (a : Int)).toNat = a := by
    rw [BitVec.ofInt_natCast, BitVec.toNat_ofNat]; exact Nat.mod_eq_of_lt (by omega)
  have h2 : (BitVec.ofInt 64 (b : Int)).toNat = b := by
    rw [BitVec.ofInt_natCast, BitVec.toNat_ofNat]; exact Nat.mod_eq_of_lt (by omega)
  show IntKind.i64.wrap ((BitVec.ofInt 64 (a : Int) ^^^ BitVec.ofInt 64 (b : Int)).toNat : Int) = _
  rw [BitVec.toNat_xor, h1, h2]
  simp [IntKind.wrap, IntKind.bits, IntKind.signed]; omega

theorem ret_nat {a : Int} {b : Nat} (h : a = (b : Int)) : Ending.returned (.int .i64 a) = .returned (.int .i64 (b : Int)) := by rw [h]

theorem mix_nat {X : Int} {n : Nat} (h0 : 0 ≤ X) (h1 : X < 4611686018427387904) (hn : 1 ≤ n) : ∃ v : Nat, (bits BinOp.xor IntKind.i64 X (X / 64)).tmod (n : Int) = (v : Int) ∧ v < n := by
  obtain ⟨k, rfl⟩ := Int.eq_ofNat_of_zero_le h0
  have e : ((k : Int) / 64) = ((k / 64 : Nat) : Int) := by omega
  rw [e, bits_xor_i64_nat k (k / 64) (by omega) (by omega)]
  exact ⟨(k ^^^ (k / 64)) % n, rfl, Nat.mod_lt _ (by omega)⟩

set_option maxHeartbeats 1000000 in
theorem pick_row (b : Nat) (x : Addr) (len cap : Nat) (z : Nat → Int) (p n : Nat) (w : World) (h : Dr b (some x) len cap z p w) (hn : 1 ≤ n) (hn2 : n ≤ 1000) (hp : p ≤ 1000000) (hl : len ≠ 0) :
    Calls Try.prog 22 #[.pointer (some ⟨b, 0, none⟩), .int .i64 (n : Int)] w fun e w' => ∃ v : Nat, e = .returned (.int .i64 (v : Int)) ∧ v < n ∧ Dr b (some x) len cap z (p + 1) w' ∧ Ex b w w' := by
  have hD := hide h
  obtain ⟨c0, c1, f1, lt, le, row⟩ := h
  have hn3 : decide ((n : Int) < 1) = false := by simp; omega
  have hl3 : ((len : Int) == 0) = false := by simp; omega
  obtain ⟨x', hx, hxb, hrow⟩ := row.resolve_left hl
  simp only [Option.some.injEq] at hx
  subst hx
  by_cases hlt : p < len
  · obtain ⟨r1, r2, r3⟩ := hrow p hlt
    have r4 : ∀ v, (w.setCell ⟨b, 1, none⟩ v).cell? (x.add p) = some (.int .u8 (z p)) := fun v => cell_row r1 hxb v
    have hn4 : ((n : Int) == 0) = false := by simp; omega
    clear hrow row r1
    go_enter Try.func22, Try.ntmps22
    go_wp2_with fail
    go_ret
    obtain ⟨d1, d2⟩ := (unhide hD).step 0 (p + 1) (.int .i64 ((p : Int) + 1)) (by simp)
    have w1 := Int.emod_nonneg (z p) (show (n : Int) ≠ 0 by omega)
    have w2 := Int.emod_lt_of_pos (z p) (show (0 : Int) < (n : Int) by omega)
    exact ⟨(z p % (n : Int)).toNat, ret_nat (by omega), by omega, d1, d2⟩
  · have hd : decide ((p : Int) < (len : Int)) = false := by simp; omega
    obtain ⟨k1, t1, m1⟩ : ∃ k1 : Nat, (p : Int).tmod (len : Int) = (k1 : Int) ∧ k1 < len := ⟨p % len, rfl, Nat.mod_lt _ (by omega)⟩
    obtain ⟨k2, t2, m2⟩ : ∃ k2 : Nat, ((p : Int) * 7 + 3).tmod (len : Int) = (k2 : Int) ∧ k2 < len := ⟨(p * 7 + 3) % len, rfl, Nat.mod_lt _ (by omega)⟩
    obtain ⟨k3, t3, m3⟩ : ∃ k3 : Nat, (p : Int).tdiv (len : Int) = (k3 : Int) ∧ k3 ≤ 1000000 := ⟨p / len, rfl, by have := Nat.div_le_self p len; omega⟩
    obtain ⟨r1, r2, r3⟩ := hrow _ m1
    obtain ⟨q1, q2, q3⟩ := hrow _ m2
    have r4 : ∀ v, (w.setCell ⟨b, 1, none⟩ v).cell? (x.add k1) = some (.int .u8 (z k1)) := fun v => cell_row r1 hxb v
    have q4 : ∀ v, (w.setCell ⟨b, 1, none⟩ v).cell? (x.add k2) = some (.int .u8 (z k2)) := fun v => cell_row q1 hxb v
    have m1' : (k1 : Int) < (len : Int) := by omega
    have m2' : (k2 : Int) < (len : Int) := by omega
    have hn4 : ((n : Int) == 0) = false := by simp; omega
    generalize z k1 = z1 at *
    generalize z k2 = z2 at *
    clear hrow row r1 q1
    go_enter Try.func22, Try.ntmps22
    go_wp2_with fail
    go_quiet (fail)
    go_wp2_with fail
    go_ret
    obtain ⟨d1, d2⟩ := (unhide hD).step0 nq (p + 1) (.int .i64 ((p : Int) + 1)) (by simp)
    obtain ⟨v, hv1, hv2⟩ := mix_nat (X := z1 * 131 + z2 * 1117 + (p : Int) * 29 + (k3 : Int) * 53) (by omega) (by omega) hn
    exact ⟨v, ret_nat hv1, hv2, d1, d2⟩

/-- A code that is read. -/
structure Code where
  a : Option Addr
  len : Nat
  cap : Nat
  z : Nat → Int

def DrC (b : Nat) (C : Code) (p : Nat) (w : World) : Prop := Dr b C.a C.len C.cap C.z p w

theorem DrC.lt {b : Nat} {C : Code} {p : Nat} {w : World} (h : DrC b C p w) : b < w.heap.size := Dr.lt h
theorem DrC.below {b : Nat} {C : Code} {p : Nat} {w w' : World} (h : DrC b C p w) (hb : Below w.heap.size w w') : DrC b C p w' := by
  obtain ⟨c0, c1, f1, lt, le, row⟩ := h
  refine ⟨(hb.cell (p := ⟨b, 0, none⟩) lt).trans c0, (hb.cell (p := ⟨b, 1, none⟩) lt).trans c1, (hb.frozen (p := ⟨b, 1, none⟩) lt).trans f1, Nat.lt_of_lt_of_le lt hb.size, le, ?_⟩
  rcases row with h0 | ⟨x, hx, hxb, hr⟩
  · exact .inl h0
  · exact .inr ⟨x, hx, hxb, fun i hi => ⟨(hb.cell (p := x.add i) (by rw [add_block]; omega)).trans (hr i hi).1, (hr i hi).2⟩⟩
theorem DrC.alloc {b : Nat} {C : Code} {p : Nat} {w : World} (h : DrC b C p w) (o : Obj) : DrC b C p (w.alloc o) := h.below ((Below.refl _ _).alloc (Nat.le_refl _) _)
theorem DrC.drew {b : Nat} {C : Code} {p : Nat} {w : World} (h : DrC b C p w) : DrC b C p w.drew := h.below (Below.refl _ _).drew
theorem DrC.drewN {b : Nat} {C : Code} {p : Nat} {w : World} (h : DrC b C p w) (n : Nat) : DrC b C p (w.drewN n) := h.below (below_drewN (Below.refl _ _) n)

/-- What one draw comes to. -/
def PickPost (b : Nat) (C : Code) (p n : Nat) (w : World) (e : Ending) (w' : World) : Prop :=
  ∃ v : Nat, e = .returned (.int .i64 (v : Int)) ∧ v < n ∧ DrC b C (p + 1) w' ∧ Ex b w w'

set_option maxHeartbeats 1000000 in
theorem pick_any (b : Nat) (C : Code) (p n : Nat) (m : Int) (hm : m = (n : Int)) (w : World) (h : DrC b C p w) (hn : 1 ≤ n) (hn2 : n ≤ 1000) (hp : p ≤ 1000000) :
    Calls Try.prog 22 #[.pointer (some ⟨b, 0, none⟩), .int .i64 m] w (PickPost b C p n w) := by
  subst hm
  obtain ⟨a, len, cap, z⟩ := C
  by_cases hl : len = 0
  · have hD : Hid (Dr b a len cap z p w) := h
    obtain ⟨c0, c1, f1, lt, le, row⟩ := h
    simp only at c0
    subst hl
    have hn3 : decide ((n : Int) < 1) = false := by simp; omega
    clear row
    go_enter Try.func22, Try.ntmps22
    go_wp2_with fail
    go_ret
    obtain ⟨d1, d2⟩ := (unhide hD).step 0 (p + 1) (.int .i64 ((p : Int) + 1)) (by simp)
    exact ⟨0, rfl, by omega, d1, d2⟩
  · have h2 : Dr b a len cap z p w := h
    obtain ⟨x, hx, _⟩ := h2.row.resolve_left hl
    subst hx
    exact pick_row b x len cap z p n w h2 hn hn2 hp hl

end Go.Proofs.Yticmbajfdpchnaa
