/-
  Contracts of the reader by which inputs are drawn: what one draw leaves.
-/
import Derived.Test.YtgdhlnfigcaepaaFnFraTextB1
import Derived.Deep.RegionWith
namespace Go.Proofs.Ytgdhlnfigcaepaa
open Go.RowKit

/-- All blocks but one are as they were; more may have come. -/
structure Ex (b : Nat) (w w' : World) : Prop where
  os : w'.os = w.os
  tape : w'.tape = w.tape
  output : w'.output = w.output
  size : w.heap.size ≤ w'.heap.size
  block : ∀ k, k < w.heap.size → k ≠ b → w'.heap[k]? = w.heap[k]?

theorem Ex.refl (b : Nat) (w : World) : Ex b w w := ⟨rfl, rfl, rfl, Nat.le_refl _, fun _ _ _ => rfl⟩
theorem Ex.trans {b : Nat} {u v w : World} (h : Ex b u v) (k : Ex b v w) : Ex b u w :=
  ⟨k.os.trans h.os, k.tape.trans h.tape, k.output.trans h.output, Nat.le_trans h.size k.size, fun i hi hn => (k.block i (Nat.lt_of_lt_of_le hi h.size) hn).trans (h.block i hi hn)⟩
theorem Ex.of_below (b : Nat) {w w' : World} (h : Below w.heap.size w w') : Ex b w w' := ⟨h.os, h.tape, h.output, h.size, fun k hk _ => h.block k hk⟩
theorem Ex.set {b : Nat} {u w : World} (h : Ex b u w) (o : Nat) (v : Value) : Ex b u (w.setCell ⟨b, o, none⟩ v) :=
  h.trans ⟨rfl, rfl, rfl, by simp [World.setCell], fun k _ hn => Below.heap_setCell _ _ _ _ hn⟩
theorem Ex.drewN {b : Nat} {u w : World} (h : Ex b u w) (n : Nat) : Ex b u (w.drewN n) := h.trans ⟨rfl, rfl, rfl, Nat.le_refl _, fun _ _ _ => rfl⟩
theorem Ex.drew {b : Nat} {u w : World} (h : Ex b u w) : Ex b u w.drew := h.trans ⟨rfl, rfl, rfl, Nat.le_refl _, fun _ _ _ => rfl⟩
theorem Ex.alloc {b : Nat} {u w : World} (h : Ex b u w) (o : Obj) : Ex b u (w.alloc o) := h.trans ⟨rfl, rfl, rfl, by simp, fun k hk _ => Below.heap_alloc _ _ _ hk⟩
theorem Ex.below {b : Nat} {w w' : World} (h : Ex b w w') {B : Nat} (hB : B ≤ b) (hw : B ≤ w.heap.size) : Below B w w' := ⟨h.os, h.tape, h.output, h.size, fun k hk => h.block k (by omega) (by omega)⟩
theorem Ex.cell {b : Nat} {w w' : World} (h : Ex b w w') {p : Addr} (hp : p.block < w.heap.size) (hn : p.block ≠ b) : w'.cell? p = w.cell? p := World.cell?_of_block (w := w) (h.block p.block hp hn)
theorem Ex.frozen {b : Nat} {w w' : World} (h : Ex b w w') {p : Addr} (hp : p.block < w.heap.size) (hn : p.block ≠ b) : w'.frozen? p = w.frozen? p := World.frozen?_of_block (w := w) (h.block p.block hp hn)

/-- A reader of a code lies at block b; it has drawn p times. -/
structure Dr (b : Nat) (a : Option Addr) (len cap : Nat) (z : Nat → Int) (p : Nat) (w : World) : Prop where
  c0 : w.cell? ⟨b, 0, none⟩ = some (.slice a len cap)
  c1 : w.cell? ⟨b, 1, none⟩ = some (.int .i64 (p : Int))
  f1 : w.frozen? ⟨b, 1, none⟩ = false
  lt : b < w.heap.size
  le : len ≤ 2000
  row : len = 0 ∨ ∃ x : Addr, a = some x ∧ x.block < b ∧ ∀ i, i < len → w.cell? (x.add i) = some (.int .u8 (z i)) ∧ 0 ≤ z i ∧ z i ≤ 255

theorem cell_other {w : World} {b : Nat} {q : Addr} {u : Value} (h : w.cell? q = some u) (hq : q.block < b) (v : Value) : (w.setCell ⟨b, 1, none⟩ v).cell? q = some u := by
  rw [World.cell?_of_block (w := w) (Below.heap_setCell w ⟨b, 1, none⟩ v q.block (by show q.block ≠ b; omega))]
  exact h

theorem add_block (x : Addr) (i : Nat) : (x.add i).block = x.block := by unfold Addr.add; split <;> rfl
theorem cell_row {w : World} {b : Nat} {x : Addr} {i : Nat} {u : Value} (h : w.cell? (x.add i) = some u) (hx : x.block < b) (v : Value) : (w.setCell ⟨b, 1, none⟩ v).cell? (x.add i) = some u :=
  cell_other h (by rw [add_block]; exact hx) v

theorem Dr.step {b : Nat} {a : Option Addr} {len cap : Nat} {z : Nat → Int} {p : Nat} {w : World} (h : Dr b a len cap z p w) (n p' : Nat) (v : Value) (hv : v = .int .i64 (p' : Int)) :
    Dr b a len cap z p' ((w.drewN n).setCell ⟨b, 1, none⟩ v) ∧ Ex b w ((w.drewN n).setCell ⟨b, 1, none⟩ v) := by
  obtain ⟨c0, c1, f1, lt, le, row⟩ := h
  subst hv
  refine ⟨⟨by simp [go_sem, c0], by simp [go_sem, c1], by simp [go_sem, f1], by simpa [World.setCell] using lt, le, ?_⟩, ((Ex.refl b w).drewN n).set 1 _⟩
  rcases row with h0 | ⟨x, hx, hxb, hr⟩
  · exact .inl h0
  · exact .inr ⟨x, hx, hxb, fun i hi => ⟨cell_row (w := w.drewN n) (hr i hi).1 hxb _, (hr i hi).2⟩⟩

theorem Dr.step0 {b : Nat} {a : Option Addr} {len cap : Nat} {z : Nat → Int} {p : Nat} {w : World} (h : Dr b a len cap z p w) (n p' : Nat) (v : Value) (hv : v = .int .i64 (p' : Int)) :
    Dr b a len cap z p' ((w.setCell ⟨b, 1, none⟩ v).drewN n) ∧ Ex b w ((w.setCell ⟨b, 1, none⟩ v).drewN n) := h.step n p' v hv

theorem bits_xor_i64_nat (a b : Nat) (ha : a < 4611686018427387904) (hb : b < 4611686018427387904) :
    bits .xor .i64 (a : Int) (b : Int) = ((a ^^^ b : Nat) : Int) := by
  have hx : a ^^^ b < 2 ^ 62 := Nat.xor_lt_two_pow (by omega) (by omega)
  have h1 : (BitVec.ofInt 64 (a : Int)).toNat = a := by
    rw [BitVec.ofInt_natCast, BitVec.toNat_ofNat]; exact Nat.mod_eq_of_lt (by omega)
  have h2 : (BitVec.ofInt 64 (b : Int)).toNat = b := by
    rw [BitVec.ofInt_natCast, BitVec.toNat_ofNat]; exact Nat.mod_eq_of_lt (by omega)
  show IntKind.i64.wrap ((BitVec.ofInt 64 (a : Int) ^^^ BitVec.ofInt 64 (b : Int)).toNat : Int) = _
  rw [BitVec.toNat_xor, h1, h2]
  simp [IntKind.wrap, IntKind.bits, IntKind.signed]; omega

theorem ret_nat {a : Int} {b : Nat} (h : a = (b : Int)) : Ending.returned (.int .i64 a) = .returned (.int .i64 (b : Int)) := by rw [h]

theorem mix_nat {X : Int} {n : Nat} (h0 : 0 ≤ X) (h1 : X < 4611686018427387904) (hn : 1 ≤ n) : ∃ v : Nat, (bits BinOp.xor IntKind.i64 X (X / 64)).tmod (n : Int) = (v : Int) ∧ v < n := by
  obtain ⟨k, rfl⟩ := Int.eq_ofNat_of_zero_le h0
  have e : ((k : Int) / 64) = ((k / 64 : Nat) : Int) := by omega
  rw [e, bits_xor_i64_nat k (k / 64) (by omega) (by omega)]
  exact ⟨(k ^^^ (k / 64)) % n, rfl, Nat.mod_lt _ (by omega)⟩

set_option maxHeartbeats 1000000 in
theorem pick_row (b : Nat) (x : Addr) (len cap : Nat) (z : Nat → Int) (p n : Nat) (w : World) (h : Dr b (some x) len cap z p w) (hn : 1 ≤ n) (hn2 : n ≤ 1000) (hp : p ≤ 1000000) (hl : len ≠ 0) :
    Calls Try.prog 53 #[.pointer (some ⟨b, 0, none⟩), .int .i64 (n : Int)] w fun e w' => ∃ v : Nat, e = .returned (.int .i64 (v : Int)) ∧ v < n ∧ Dr b (some x) len cap z (p + 1) w' ∧ Ex b w w' := by
  have hD := hide h
  obtain ⟨c0, c1, f1, lt, le, row⟩ := h
  have hn3 : decide ((n : Int) < 1) = false := by simp; omega
  have hl3 : ((len : Int) == 0) = false := by simp; omega
  obtain ⟨x', hx, hxb, hrow⟩ := row.resolve_left hl
  simp only [Option.some.injEq] at hx
  subst hx
  by_cases hlt : p < len
  · obtain ⟨r1, r2, r3⟩ := hrow p hlt
    have r4 : ∀ v, (w.setCell ⟨b, 1, none⟩ v).cell? (x.add p) = some (.int .u8 (z p)) := fun v => cell_row r1 hxb v
    have hn4 : ((n : Int) == 0) = false := by simp; omega
    clear hrow row r1
    go_enter Try.func53, Try.ntmps53
    go_wp2_with fail
    go_ret
    obtain ⟨d1, d2⟩ := (unhide hD).step 0 (p + 1) (.int .i64 ((p : Int) + 1)) (by simp)
    have w1 := Int.emod_nonneg (z p) (show (n : Int) ≠ 0 by omega)
    have w2 := Int.emod_lt_of_pos (z p) (show (0 : Int) < (n : Int) by omega)
    exact ⟨(z p % (n : Int)).toNat, ret_nat (by omega), by omega, d1, d2⟩
  · have hd : decide ((p : Int) < (len : Int)) = false := by simp; omega
    obtain ⟨k1, t1, m1⟩ : ∃ k1 : Nat, (p : Int).tmod (len : Int) = (k1 : Int) ∧ k1 < len := ⟨p % len, rfl, Nat.mod_lt _ (by omega)⟩
    obtain ⟨k2, t2, m2⟩ : ∃ k2 : Nat, ((p : Int) * 7 + 3).tmod (len : Int) = (k2 : Int) ∧ k2 < len := ⟨(p * 7 + 3) % len, rfl, Nat.mod_lt _ (by omega)⟩
    obtain ⟨k3, t3, m3⟩ : ∃ k3 : Nat, (p : Int).tdiv (len : Int) = (k3 : Int) ∧ k3 ≤ 1000000 := ⟨p / len, rfl, by have := Nat.div_le_self p len; omega⟩
    obtain ⟨r1, r2, r3⟩ := hrow _ m1
    obtain ⟨q1, q2, q3⟩ := hrow _ m2
    have r4 : ∀ v, (w.setCell ⟨b, 1, none⟩ v).cell? (x.add k1) = some (.int .u8 (z k1)) := fun v => cell_row r1 hxb v
    have q4 : ∀ v, (w.setCell ⟨b, 1, none⟩ v).cell? (x.add k2) = some (.int .u8 (z k2)) := fun v => cell_row q1 hxb v
    have m1' : (k1 : Int) < (len : Int) := by omega
    have m2' : (k2 : Int) < (len : Int) := by omega
    have hn4 : ((n : Int) == 0) = false := by simp; omega
    generalize z k1 = z1 at *
    generalize z k2 = z2 at *
    clear hrow row r1 q1
    go_enter Try.func53, Try.ntmps53
    go_wp2_with fail
    go_quiet (fail)
    go_wp2_with fail
    go_ret
    obtain ⟨d1, d2⟩ := (unhide hD).step0 nq (p + 1) (.int .i64 ((p : Int) + 1)) (by simp)
    obtain ⟨v, hv1, hv2⟩ := mix_nat (X := z1 * 131 + z2 * 1117 + (p : Int) * 29 + (k3 : Int) * 53) (by omega) (by omega) hn
    exact ⟨v, ret_nat hv1, hv2, d1, d2⟩

/-- A code that is read. -/
structure Code where
  a : Option Addr
  len : Nat
  cap : Nat
  z : Nat → Int

def DrC (b : Nat) (C : Code) (p : Nat) (w : World) : Prop := Dr b C.a C.len C.cap C.z p w

theorem DrC.lt {b : Nat} {C : Code} {p : Nat} {w : World} (h : DrC b C p w) : b < w.heap.size := Dr.lt h
theorem DrC.below {b : Nat} {C : Code} {p : Nat} {w w' : World} (h : DrC b C p w) (hb : Below w.heap.size w w') : DrC b C p w' := by
  obtain ⟨c0, c1, f1, lt, le, row⟩ := h
  refine ⟨(hb.cell (p := ⟨b, 0, none⟩) lt).trans c0, (hb.cell (p := ⟨b, 1, none⟩) lt).trans c1, (hb.frozen (p := ⟨b, 1, none⟩) lt).trans f1, Nat.lt_of_lt_of_le lt hb.size, le, ?_⟩
  rcases row with h0 | ⟨x, hx, hxb, hr⟩
  · exact .inl h0
  · exact .inr ⟨x, hx, hxb, fun i hi => ⟨(hb.cell (p := x.add i) (by rw [add_block]; omega)).trans (hr i hi).1, (hr i hi).2⟩⟩
theorem DrC.alloc {b : Nat} {C : Code} {p : Nat} {w : World} (h : DrC b C p w) (o : Obj) : DrC b C p (w.alloc o) := h.below ((Below.refl _ _).alloc (Nat.le_refl _) _)
theorem DrC.drew {b : Nat} {C : Code} {p : Nat} {w : World} (h : DrC b C p w) : DrC b C p w.drew := h.below (Below.refl _ _).drew
theorem DrC.drewN {b : Nat} {C : Code} {p : Nat} {w : World} (h : DrC b C p w) (n : Nat) : DrC b C p (w.drewN n) := h.below (below_drewN (Below.refl _ _) n)

/-- What one draw comes to. -/
def PickPost (b : Nat) (C : Code) (p n : Nat) (w : World) (e : Ending) (w' : World) : Prop :=
  ∃ v : Nat, e = .returned (.int .i64 (v : Int)) ∧ v < n ∧ DrC b C (p + 1) w' ∧ Ex b w w'

set_option maxHeartbeats 1000000 in
theorem pick_any (b : Nat) (C : Code) (p n : Nat) (m : Int) (hm : m = (n : Int)) (w : World) (h : DrC b C p w) (hn : 1 ≤ n) (hn2 : n ≤ 1000) (hp : p ≤ 1000000) :
    Calls Try.prog 53 #[.pointer (some ⟨b, 0, none⟩), .int .i64 m] w (PickPost b C p n w) := by
  subst hm
  obtain ⟨a, len, cap, z⟩ := C
  by_cases hl : len = 0
  · have hD : Hid (Dr b a len cap z p w) := h
    obtain ⟨c0, c1, f1, lt, le, row⟩ := h
    simp only at c0
    subst hl
    have hn3 : decide ((n : Int) < 1) = false := by simp; omega
    clear row
    go_enter Try.func53, Try.ntmps53
    go_wp2_with fail
    go_ret
    obtain ⟨d1, d2⟩ := (unhide hD).step 0 (p + 1) (.int .i64 ((p : Int) + 1)) (by simp)
    exact ⟨0, rfl, by omega, d1, d2⟩
  · have h2 : Dr b a len cap z p w := h
    obtain ⟨x, hx, _⟩ := h2.row.resolve_left hl
    subst hx
    exact pick_row b x len cap z p n w h2 hn hn2 hp hl

end Go.Proofs.Ytgdhlnfigcaepaa
/-
  What a reader is opened with: l20Open.
-/
namespace Go.Proofs.Ytgdhlnfigcaepaa
open Go.RowKit

theorem below_lt {w : World} {p : Addr} {v : Value} (h : w.cell? p = some v) : p.block < w.heap.size := by
  apply Classical.byContradiction
  intro hn
  have : w.heap[p.block]? = none := Array.getElem?_eq_none (by omega)
  simp [World.cell?, this] at h

set_option maxHeartbeats 1000000 in
theorem l20Open_any (a : Option Addr) (len cap : Nat) (zs : List Int) (w : World) (h : IsRow .u8 w a len cap zs) :
    Calls Try.prog 52 #[.slice a len cap] w fun e w' => ∃ C, e = .returned (.pointer (some ⟨w.heap.size, 0, none⟩)) ∧ DrC w.heap.size C 0 w' ∧ Below w.heap.size w w' := by
  rcases h with ⟨rfl, rfl, rfl, rfl⟩ | ⟨x, rfl, hl, hm, hz, hc, hw⟩
  · go_enter Try.func52, Try.ntmps52
    go_wp2_with fail
    go_ret
    refine ⟨⟨none, 0, 0, fun _ => 0⟩, rfl, ⟨by simp [go_sem], by simp [go_sem], by simp [go_sem], by simp, by simp, .inl rfl⟩, (Below.refl _ _).alloc (Nat.le_refl _) _⟩
  · have row : ∀ (n : Nat) (o : Obj), n ≤ len → n = 0 ∨ ∃ y : Addr, some x = some y ∧ y.block < w.heap.size ∧ ∀ i, i < n → (w.alloc o).cell? (y.add i) = some (.int .u8 (zs.getD i 0)) ∧ 0 ≤ zs.getD i 0 ∧ zs.getD i 0 ≤ 255 := by
      intro n o hn
      by_cases h0 : n = 0
      · exact .inl h0
      · refine .inr ⟨x, rfl, ?_, fun i hi => ?_⟩
        · have := below_lt (hc 0 (by omega))
          rwa [add_block] at this
        · have hci := hc i (by omega)
          have hlt := below_lt hci
          refine ⟨?_, ?_⟩
          · rw [World.cell?_of_block (w := w) (Below.heap_alloc w o _ hlt)]; exact hci
          · have hwi := hw (zs.getD i 0) (by rw [List.getD_eq_getElem?_getD, List.getElem?_eq_getElem (by omega)]; simp)
            exact bounds_u8 hwi
    unfold maxLen at hm
    by_cases hbig : len ≤ 2000
    · have hd : decide ((2000 : Int) < (len : Int)) = false := by simp; omega
      have R := hide (row len)
      clear row hc hw
      go_enter Try.func52, Try.ntmps52
      go_wp2_with fail
      go_ret
      exact ⟨⟨some x, len, cap, fun i => zs.getD i 0⟩, rfl, ⟨by simp [go_sem], by simp [go_sem], by simp [go_sem], by simp, hbig, unhide R _ (Nat.le_refl _)⟩, (Below.refl _ _).alloc (Nat.le_refl _) _⟩
    · have hd : (2000 : Int) < (len : Int) := by omega
      have hd2 : (2000 : Int) ≤ (cap : Int) := by omega
      have R := hide (row 2000)
      clear row hc hw
      go_enter Try.func52, Try.ntmps52
      go_wp2_with fail
      go_ret
      exact ⟨⟨some x, 2000, cap, fun i => zs.getD i 0⟩, rfl, ⟨by simp [go_sem], by simp [go_sem], by simp [go_sem], by simp, by simp, unhide R _ (by omega)⟩, (Below.refl _ _).alloc (Nat.le_refl _) _⟩

end Go.Proofs.Ytgdhlnfigcaepaa
/-
  Drawn texts that may be said: DrawFraText.
-/
namespace Go.Proofs.Ytgdhlnfigcaepaa
open Go.RowKit

set_option maxRecDepth 100000 in
set_option maxHeartbeats 1000000 in
theorem DrawFraText_any (a : Option Addr) (len cap : Nat) (zs : List Int) (w : World) (h : IsRow .u8 w a len cap zs) :
    Calls Try.prog 27 #[.slice a len cap] w fun e w' => ∃ s : ByteArray, e = .returned (.string s) ∧ s.size ≤ 9 ∧ Below w.heap.size w w' := by
  have hR := hide h
  clear h
  go_enter Try.func27, Try.ntmps27
  go_wp2_with fail
  refine (l20Open_any a len cap zs _ (unhide hR)).mono ?_
  rintro e w1 ⟨C, rfl, d1, hb1⟩
  have D1 := hide d1
  have HB1 := hide hb1
  have hlt1 := d1.lt
  clear d1 hb1
  go_wp2_with fail
  refine (pick_any w.heap.size C 0 7 _ rfl _ ((unhide D1).alloc _) (by omega) (by omega) (by omega)).mono ?_
  rintro e w2 ⟨k, rfl, hk, d2, x2⟩
  have hu : ∃ u : ByteArray, w2.cell? ⟨w1.heap.size, k, none⟩ = some (.string u) ∧ u.size ≤ 9 := by
    rw [x2.cell (p := ⟨w1.heap.size, k, none⟩) (by simp) (by show w1.heap.size ≠ w.heap.size; omega)]
    match k, hk with
    | 0, _ => exact ⟨_, by simp [go_sem]; rfl, by decide⟩
    | 1, _ => exact ⟨_, by simp [go_sem]; rfl, by decide⟩
    | 2, _ => exact ⟨_, by simp [go_sem]; rfl, by decide⟩
    | 3, _ => exact ⟨_, by simp [go_sem]; rfl, by decide⟩
    | 4, _ => exact ⟨_, by simp [go_sem]; rfl, by decide⟩
    | 5, _ => exact ⟨_, by simp [go_sem]; rfl, by decide⟩
    | 6, _ => exact ⟨_, by simp [go_sem]; rfl, by decide⟩
    | k + 7, hk => omega
  obtain ⟨u, hu1, hu2⟩ := hu
  have hk' : (k : Int) < 7 := by omega
  have HB2 : Hid (Below w.heap.size w w2) := ((unhide HB1).alloc (by omega) _).trans (x2.below (Nat.le_refl _) (by simp; omega))
  clear d2 x2 D1 hk HB1
  go_wp2_with fail
  go_ret
  exact ⟨u, rfl, hu2, unhide HB2⟩
#print axioms DrawFraText_any
end Go.Proofs.Ytgdhlnfigcaepaa
/-
  impl.isOne.
-/
namespace Go.Proofs.Ytgdhlnfigcaepaa
open Go.RowKit

set_option maxHeartbeats 400000 in
theorem isOne_yes (n : Int) (w : World) (h0 : 0 ≤ n) (h1 : n < 8) :
    Calls Try.prog 39 #[.int .i64 n] w fun e w' => e = .returned (.bool true) ∧ w' = w := by
  go_enter Try.func39, Try.ntmps39
  go_wp2
  go_ret
  exact ⟨rfl, rfl⟩

set_option maxHeartbeats 400000 in
theorem isOne_no (n : Int) (w : World) (h : n < 0 ∨ 8 ≤ n) :
    Calls Try.prog 39 #[.int .i64 n] w fun e w' => e = .returned (.bool false) ∧ w' = w := by
  rcases h with h | h
  · go_enter Try.func39, Try.ntmps39
    go_wp2
    go_ret
    exact ⟨rfl, rfl⟩
  · have h' : 0 ≤ n := by omega
    have h2 : decide (n < 8) = false := by simp; omega
    go_enter Try.func39, Try.ntmps39
    go_wp2
    go_ret
    exact ⟨rfl, rfl⟩
end Go.Proofs.Ytgdhlnfigcaepaa
/-
  Contracts of the reader of names, method by method, over the landed program.
-/
namespace Go.Proofs.Ytgdhlnfigcaepaa
open Go.RowKit

/-- A reader of the text s lies at block b, and all ahead of place a is read. -/
structure Rd (b : Nat) (s : ByteArray) (a : Nat) (w : World) : Prop where
  t : w.cell? ⟨b, 0, none⟩ = some (.string s)
  p : w.cell? ⟨b, 1, none⟩ = some (.int .i64 (a : Int))
  f : w.frozen? ⟨b, 1, none⟩ = false
  lt : b < w.heap.size

theorem Rd.step {b : Nat} {s : ByteArray} {a : Nat} {w : World} (h : Rd b s a w) (n a' : Nat) (v : Value) (hv : v = .int .i64 (a' : Int)) :
    Rd b s a' ((w.drewN n).setCell ⟨b, 1, none⟩ v) ∧ Below b w ((w.drewN n).setCell ⟨b, 1, none⟩ v) := by
  obtain ⟨t, p, f, lt⟩ := h
  subst hv
  refine ⟨⟨by simp [go_sem, t], by simp [go_sem, p], by simp [go_sem, f], by simpa [World.setCell] using lt⟩, ?_⟩
  exact (below_drewN (Below.refl b w) n).setCell (p := ⟨b, 1, none⟩) (Nat.le_refl _) _

theorem Rd.drewN {b : Nat} {s : ByteArray} {a : Nat} {w : World} (h : Rd b s a w) (n : Nat) : Rd b s a (w.drewN n) ∧ Below b w (w.drewN n) := by
  obtain ⟨t, p, f, lt⟩ := h
  exact ⟨⟨by simp [go_sem, t], by simp [go_sem, p], by simp [go_sem, f], lt⟩, below_drewN (Below.refl _ _) n⟩

theorem ret_u8 {a b : Nat} {c : Bool} (h : a = b) : Ending.returned (.tuple #[.int .u8 (a : Int), .bool c]) = .returned (.tuple #[.int .u8 (b : Int), .bool c]) := by rw [h]

set_option maxHeartbeats 400000 in
theorem readSign_in (b : Nat) (s : ByteArray) (a : Nat) (w : World) (hs : s.size ≤ 300) (h : Rd b s a w) (ha : a < s.size) :
    Calls Try.prog 84 #[.pointer (some ⟨b, 0, none⟩)] w fun e w' => e = .returned (.tuple #[.int .u8 (Kw.g s a), .bool true]) ∧ Rd b s (a + 1) w' ∧ Below b w w' := by
  have hr := hide h
  obtain ⟨t, p, f, lt⟩ := h
  have hd : decide ((s.size : Int) ≤ (a : Int)) = false := by simp; omega
  have h1 : (a : Int) < (s.size : Int) := by omega
  go_enter Try.func84, Try.ntmps84
  go_wp2_with fail
  go_quiet (fail)
  go_wp2_with fail
  go_quiet (fail)
  go_wp2_with fail
  go_ret2
  exact ⟨ret_u8 (Kw.g_in ha).symm, (unhide hr).step _ (a + 1) _ (by simp)⟩

set_option maxHeartbeats 400000 in
theorem readSign_out (b : Nat) (s : ByteArray) (a : Nat) (w : World) (h : Rd b s a w) (ha : s.size ≤ a) :
    Calls Try.prog 84 #[.pointer (some ⟨b, 0, none⟩)] w fun e w' => e = .returned (.tuple #[.int .u8 0, .bool false]) ∧ Rd b s a w' ∧ Below b w w' := by
  have hr := hide h
  obtain ⟨t, p, f, lt⟩ := h
  go_enter Try.func84, Try.ntmps84
  go_wp2_with fail
  go_quiet (fail)
  go_wp2_with fail
  go_ret2
  exact ⟨rfl, (unhide hr).drewN _⟩

/-- Up to which place a reader at block b has read. -/
def posOf (b : Nat) (w : World) : Nat := match w.cell? ⟨b, 1, none⟩ with | some v => (intOf v).toNat | none => 0
theorem Rd.pos {b : Nat} {s : ByteArray} {a : Nat} {w : World} (h : Rd b s a w) : posOf b w = a := by unfold posOf; rw [h.p]; simp [intOf]

/-- What reading a number comes to. -/
def NumPost (b : Nat) (s : ByteArray) (a most : Nat) (w : World) (e : Ending) (w' : World) : Prop :=
  ∃ a1, Rd b s a1 w' ∧ Below b w w' ∧
    ((∃ n : Nat, Kw.num s most a = some (n, a1) ∧ e = .returned (.tuple #[.int .i64 (n : Int), .bool true])) ∨ (Kw.num s most a = none ∧ e = .returned (.tuple #[.int .i64 0, .bool false])))

theorem num_stop {b : Nat} {s : ByteArray} {a a' n most : Nat} {w wr : World} (hr : Hid (Rd b s a' wr)) (hb : Below b w wr) (hnum : Hid (Kw.rdn s most (s.size + 1 - a') n a' = Kw.num s most a))
    (hnd : ¬ (48 ≤ Kw.g s a' ∧ Kw.g s a' ≤ 57)) (hle : a' ≤ s.size) (nq : Nat) : NumPost b s a most w (.returned (.tuple #[.int .i64 (n : Int), .bool (decide (0 < n))])) (wr.drewN nq) := by
  have h1 := hnum.out
  rw [show s.size + 1 - a' = (s.size - a') + 1 by omega, Kw.rdn_succ, if_neg hnd] at h1
  obtain ⟨r1, r2⟩ := (unhide hr).drewN nq
  refine ⟨a', r1, hb.trans r2, ?_⟩
  by_cases h0 : 0 < n
  · rw [if_pos h0] at h1
    exact .inl ⟨n, h1.symm, by simp [h0]⟩
  · rw [if_neg h0] at h1
    have : n = 0 := by omega
    exact .inr ⟨h1.symm, by simp [this]⟩

theorem num_fail {b : Nat} {s : ByteArray} {a a' n most : Nat} {w wr : World} (hr : Hid (Rd b s a' wr)) (hb : Below b w wr) (hnum : Hid (Kw.rdn s most (s.size + 1 - a') n a' = Kw.num s most a))
    (hle : a' < s.size) (hG : Hid (Kw.g s a' = s[a'].toNat)) (h48 : (48 : Int) ≤ (s[a'].toNat : Int)) (h57 : (s[a'].toNat : Int) ≤ 57) (hx : (n : Int) * 10 + ((s[a'].toNat : Int) - 48) < 1 ∨ (most : Int) < (n : Int) * 10 + ((s[a'].toNat : Int) - 48)) (nq : Nat) :
    NumPost b s a most w (.returned (.tuple #[.int .i64 0, .bool false])) ((wr.drewN nq).setCell ⟨b, 1, none⟩ (.int .i64 ((a' : Int) + 1))) := by
  have h1 := hnum.out
  have h2 := hG.out
  rw [show s.size + 1 - a' = (s.size - a') + 1 by omega, Kw.rdn_succ, h2, if_pos (by omega), if_pos (by omega)] at h1
  obtain ⟨r1, r2⟩ := (unhide hr).step nq (a' + 1) (.int .i64 ((a' : Int) + 1)) (by simp)
  exact ⟨a' + 1, r1, hb.trans r2, .inr ⟨h1.symm, rfl⟩⟩

theorem num_next {s : ByteArray} {a a' n most : Nat} (hnum : Hid (Kw.rdn s most (s.size + 1 - a') n a' = Kw.num s most a))
    (hle : a' < s.size) (hG : Hid (Kw.g s a' = s[a'].toNat)) (h48 : (48 : Int) ≤ (s[a'].toNat : Int)) (h57 : (s[a'].toNat : Int) ≤ 57) (hx : ¬ (n : Int) * 10 + ((s[a'].toNat : Int) - 48) < 1) (hy : ¬ (most : Int) < (n : Int) * 10 + ((s[a'].toNat : Int) - 48)) :
    Hid (Kw.rdn s most (s.size + 1 - (a' + 1)) (n * 10 + (s[a'].toNat - 48)) (a' + 1) = Kw.num s most a) := by
  have h1 := hnum.out
  have h2 := hG.out
  rw [show s.size + 1 - a' = (s.size - a') + 1 by omega, Kw.rdn_succ, h2, if_pos (by omega), if_neg (by omega)] at h1
  rw [show s.size + 1 - (a' + 1) = s.size - a' by omega]
  exact h1

theorem num_round {b : Nat} {s : ByteArray} {a a' m most : Nat} {x : Int} {w wr : World} {k : Nat} (hr : Hid (Rd b s a' wr)) (hb : Below b w wr) (hlt : a' < s.size) (hm : m ≤ most) (hx : x = (m : Int))
    (hN : Hid (Kw.rdn s most (s.size + 1 - (a' + 1)) m (a' + 1) = Kw.num s most a)) :
    (∃ n_1 a'_1 : Nat, Value.int IntKind.i64 x = Value.int IntKind.i64 (n_1 : Int) ∧ Rd b s a'_1 ((wr.drewN k).setCell ⟨b, 1, none⟩ (.int .i64 ((a' : Int) + 1))) ∧ Below b w ((wr.drewN k).setCell ⟨b, 1, none⟩ (.int .i64 ((a' : Int) + 1))) ∧
      n_1 ≤ most ∧ a'_1 ≤ s.size ∧ Hid (Kw.rdn s most (s.size + 1 - a'_1) n_1 a'_1 = Kw.num s most a)) ∧
    s.size + 1 - posOf b ((wr.drewN k).setCell ⟨b, 1, none⟩ (.int .i64 ((a' : Int) + 1))) < s.size + 1 - posOf b wr := by
  obtain ⟨r1, r2⟩ := (unhide hr).step k (a' + 1) (.int .i64 ((a' : Int) + 1)) (by simp)
  refine ⟨⟨m, a' + 1, by rw [hx], r1, hb.trans r2, hm, by omega, hN⟩, ?_⟩
  rw [r1.pos, (unhide hr).pos]
  omega

set_option maxHeartbeats 1000000 in
theorem readNumber_any (b : Nat) (s : ByteArray) (a : Nat) (most : Nat) (w : World) (hs : s.size ≤ 300) (h : Rd b s a w) (ha : a ≤ s.size) (hm2 : most ≤ 99) :
    Calls Try.prog 92 #[.pointer (some ⟨b, 0, none⟩), .int .i64 (most : Int)] w fun e w' => NumPost b s a most w e w' := by
  go_enter Try.func92, Try.ntmps92
  go_wp2_with fail
  go_loopw [6] (fun nn wr => ∃ n a' : Nat, nn = .int .i64 (n : Int) ∧ Rd b s a' wr ∧ Below b w wr ∧ n ≤ most ∧ a' ≤ s.size ∧ Hid (Kw.rdn s most (s.size + 1 - a') n a' = Kw.num s most a)) (fun nn wr => s.size + 1 - posOf b wr)
  case atStart => exact ⟨0, a, rfl, h, Below.refl _ _, Nat.zero_le _, ha, rfl⟩
  case round =>
    obtain ⟨n, a', rfl, hr0, hb, hn, hle, hnum⟩ := hrel
    clear h ha
    have hr := hide hr0
    obtain ⟨t, p, f, lt⟩ := hr0
    by_cases hlt : a' < s.size
    · have hG : Hid (Kw.g s a' = s[a'].toNat) := Kw.g_in hlt
      have hlt2 : (a' : Int) < (s.size : Int) := by omega
      by_cases h48 : (48 : Int) ≤ (s[a'].toNat : Int)
      · by_cases h57 : (s[a'].toNat : Int) ≤ 57
        · by_cases hlo : (n : Int) * 10 + ((s[a'].toNat : Int) - 48) < 1
          · go_wp2_with fail
            go_quiet (fail)
            go_wp2_with fail
            go_quiet (fail)
            go_wp2_with fail
            go_ret2
            exact num_fail hr hb hnum hlt hG h48 h57 (.inl hlo) _
          · have hlo2 : decide ((n : Int) * 10 + ((s[a'].toNat : Int) - 48) < 1) = false := by simp; omega
            by_cases hhi : (most : Int) < (n : Int) * 10 + ((s[a'].toNat : Int) - 48)
            · go_wp2_with fail
              go_quiet (fail)
              go_wp2_with fail
              go_quiet (fail)
              go_wp2_with fail
              go_ret2
              exact num_fail hr hb hnum hlt hG h48 h57 (.inr hhi) _
            · have hhi2 : decide ((most : Int) < (n : Int) * 10 + ((s[a'].toNat : Int) - 48)) = false := by simp; omega
              have hN := num_next hnum hlt hG h48 h57 hlo hhi
              have hlo3 := hide hlo
              have hhi3 := hide hhi
              clear hlo hhi
              go_wp2_with fail
              go_quiet (fail)
              go_wp2_with fail
              go_quiet (fail)
              go_wp2_with fail
              exact num_round hr hb hlt (by have := hhi3.out; omega) (by omega) hN
        · have hd : decide ((s[a'].toNat : Int) ≤ 57) = false := by simp; omega
          have h57' := hide h57
          clear h57
          go_wp2_with fail
          go_quiet (fail)
          go_wp2_with fail
          go_ret2
          exact num_stop hr hb hnum (by rw [hG.out]; have := h57'.out; omega) hle _
      · have hd : decide ((48 : Int) ≤ (s[a'].toNat : Int)) = false := by simp; omega
        have h48' := hide h48
        clear h48
        go_wp2_with fail
        go_quiet (fail)
        go_wp2_with fail
        go_ret2
        exact num_stop hr hb hnum (by rw [hG.out]; have := h48'.out; omega) hle _
    · have hd : decide ((a' : Int) < (s.size : Int)) = false := by simp; omega
      go_wp2_with fail
      go_quiet (fail)
      go_wp2_with fail
      go_ret2
      exact num_stop hr hb hnum (by rw [Kw.g_out (by omega)]; omega) hle _

theorem readNumber_yes {n a1 : Nat} (b : Nat) (s : ByteArray) (a : Nat) (m : Int) (most : Nat) (hm : m = (most : Int)) (w : World) (hs : s.size ≤ 300) (h : Rd b s a w) (ha : a ≤ s.size) (hm2 : most ≤ 99) (hn : Hid (Kw.num s most a = some (n, a1))) :
    Calls Try.prog 92 #[.pointer (some ⟨b, 0, none⟩), .int .i64 m] w fun e w' => e = .returned (.tuple #[.int .i64 (n : Int), .bool true]) ∧ Rd b s a1 w' ∧ Below b w w' := by
  subst hm
  refine (readNumber_any b s a most w hs h ha hm2).mono ?_
  rintro e w' ⟨a2, r1, r2, ⟨k, e1, e2⟩ | ⟨e1, e2⟩⟩
  · rw [hn.out] at e1
    simp at e1
    obtain ⟨rfl, rfl⟩ := e1
    exact ⟨e2, r1, r2⟩
  · rw [hn.out] at e1; simp at e1

theorem readNumber_no (b : Nat) (s : ByteArray) (a : Nat) (m : Int) (most : Nat) (hm : m = (most : Int)) (w : World) (hs : s.size ≤ 300) (h : Rd b s a w) (ha : a ≤ s.size) (hm2 : most ≤ 99) (hn : Hid (Kw.num s most a = none)) :
    Calls Try.prog 92 #[.pointer (some ⟨b, 0, none⟩), .int .i64 m] w fun e w' => e = .returned (.tuple #[.int .i64 0, .bool false]) ∧ (∃ a1, Rd b s a1 w') ∧ Below b w w' := by
  subst hm
  refine (readNumber_any b s a most w hs h ha hm2).mono ?_
  rintro e w' ⟨a2, r1, r2, ⟨k, e1, e2⟩ | ⟨e1, e2⟩⟩
  · rw [hn.out] at e1; simp at e1
  · exact ⟨e2, ⟨a2, r1⟩, r2⟩

set_option maxHeartbeats 400000 in
theorem readLetter_yes (b : Nat) (s : ByteArray) (a : Nat) (w : World) (hs : s.size ≤ 300) (h : Rd b s a w) (h1 : 65 ≤ Kw.g s a) (h2 : Kw.g s a ≤ 72) :
    Calls Try.prog 91 #[.pointer (some ⟨b, 0, none⟩)] w fun e w' => e = .returned (.tuple #[.int .i64 ((Kw.g s a : Int) - 65), .bool true]) ∧ Rd b s (a + 1) w' ∧ Below b w w' := by
  have ha : a < s.size := Kw.g_lt.1 (by omega)
  have hr := hide h
  clear h
  go_enter Try.func91, Try.ntmps91
  go_wp2_with fail
  refine (readSign_in b s a _ hs (unhide hr) ha).mono ?_
  rintro e w1 ⟨rfl, r1, hb1⟩
  go_wp2_with fail
  refine (isOne_yes _ _ (by omega) (by omega)).mono ?_
  rintro e w2 ⟨rfl, rfl⟩
  go_wp2_with fail
  go_ret2
  exact ⟨rfl, r1, hb1⟩

set_option maxHeartbeats 400000 in
theorem readLetter_no (b : Nat) (s : ByteArray) (a : Nat) (w : World) (hs : s.size ≤ 300) (h : Rd b s a w) (hn : Kw.g s a < 65 ∨ 72 < Kw.g s a) :
    Calls Try.prog 91 #[.pointer (some ⟨b, 0, none⟩)] w fun e w' => ∃ v, e = .returned (.tuple #[v, .bool false]) ∧ (∃ a1, Rd b s a1 w') ∧ Below b w w' := by
  have hr := hide h
  clear h
  by_cases ha : a < s.size
  · have hg := Kw.g_lt.2 ha
    go_enter Try.func91, Try.ntmps91
    go_wp2_with fail
    refine (readSign_in b s a _ hs (unhide hr) ha).mono ?_
    rintro e w1 ⟨rfl, r1, hb1⟩
    go_wp2_with fail
    refine (isOne_no _ _ (by omega)).mono ?_
    rintro e w2 ⟨rfl, rfl⟩
    go_wp2_with fail
    go_ret2
    exact ⟨_, rfl, ⟨_, r1⟩, hb1⟩
  · clear hn
    go_enter Try.func91, Try.ntmps91
    go_wp2_with fail
    refine (readSign_out b s a _ (unhide hr) (by omega)).mono ?_
    rintro e w1 ⟨rfl, r1, hb1⟩
    go_wp2_with fail
    go_ret2
    exact ⟨_, rfl, ⟨_, r1⟩, hb1⟩
end Go.Proofs.Ytgdhlnfigcaepaa
/-
  The recursive descent over names, over the landed program: what reading a name at a place comes to.
-/
namespace Go.Proofs.Ytgdhlnfigcaepaa
open Go.RowKit

/-- The value that tells how the secret at a place was made. -/
def secV (s : ByteArray) (a : Nat) : Value :=
  if Kw.g s a = 110 then .iface 99 (.agg #[.string (s.extract (a + 1) (a + 1 + Kw.len s (a + 1)))])
  else if Kw.g s a = 107 then .iface 100 (.agg #[.string (s.extract (a + 1) (a + 1 + Kw.len s (a + 1)))])
  else if Kw.g s a = 101 then .iface 102 (.agg #[.string (s.extract (a + 1) (a + 1 + Kw.len s (a + 1))), .string (s.extract (a + 1 + Kw.len s (a + 1)) (a + 1 + Kw.len s (a + 1) + Kw.len s (a + 1 + Kw.len s (a + 1))))])
  else if Kw.g s a = 109 then .iface 83 (.agg #[.string (s.extract (a + 2) (a + 2 + Kw.len s (a + 2))), .int .i64 ((Kw.g s (a + 1) : Int) - 65)])
  else if Kw.g s a = 114 then .iface 104 (.agg #[.string (s.extract (a + 2) (a + 2 + Kw.len s (a + 2))), .int .i64 ((Kw.g s (a + 1) - 48 : Nat) : Int)])
  else .iface 97 (.agg #[.int .i64 ((Kw.g s a : Int) - 65), .int .i64 (Kw.nv s a : Int)])

/-- What reading comes to, of a text that is a name from a place on, so many bytes, or of one that is none. -/
def Post (b : Nat) (s : ByteArray) (a k : Nat) (v : Value) (w : World) (e : Ending) (w' : World) : Prop :=
  Below b w w' ∧ ((k ≠ 0 ∧ e = .returned (.tuple #[v, .bool true]) ∧ Rd b s (a + k) w') ∨ (k = 0 ∧ (∃ u, e = .returned (.tuple #[u, .bool false])) ∧ ∃ a1, Rd b s a1 w'))

theorem Post.yes {b : Nat} {s : ByteArray} {a k : Nat} {v : Value} {w : World} {e : Ending} {w' : World} (h : Post b s a k v w e w') (hk : k ≠ 0) : e = .returned (.tuple #[v, .bool true]) ∧ Rd b s (a + k) w' ∧ Below b w w' := by
  obtain ⟨h1, ⟨_, h2, h3⟩ | ⟨h2, _⟩⟩ := h
  · exact ⟨h2, h3, h1⟩
  · exact absurd h2 hk
theorem Post.no {b : Nat} {s : ByteArray} {a k : Nat} {v : Value} {w : World} {e : Ending} {w' : World} (h : Post b s a k v w e w') (hk : k = 0) : ∃ u, e = .returned (.tuple #[u, .bool false]) ∧ (∃ a1, Rd b s a1 w') ∧ Below b w w' := by
  obtain ⟨h1, ⟨h2, _⟩ | ⟨_, ⟨u, h2⟩, h3⟩⟩ := h
  · exact absurd hk h2
  · exact ⟨u, h2, h3, h1⟩

/-- The same, where nothing is handed back of a text that is none. -/
def PostN (b : Nat) (s : ByteArray) (a k : Nat) (v : Value) (w : World) (e : Ending) (w' : World) : Prop :=
  Below b w w' ∧ ((k ≠ 0 ∧ e = .returned (.tuple #[v, .bool true]) ∧ Rd b s (a + k) w') ∨ (k = 0 ∧ e = .returned (.tuple #[.string ⟨#[]⟩, .bool false]) ∧ ∃ a1, Rd b s a1 w'))
theorem PostN.yes {b : Nat} {s : ByteArray} {a k : Nat} {v : Value} {w : World} {e : Ending} {w' : World} (h : PostN b s a k v w e w') (hk : k ≠ 0) : e = .returned (.tuple #[v, .bool true]) ∧ Rd b s (a + k) w' ∧ Below b w w' := by
  obtain ⟨h1, ⟨_, h2, h3⟩ | ⟨h2, _⟩⟩ := h
  · exact ⟨h2, h3, h1⟩
  · exact absurd h2 hk
theorem PostN.no {b : Nat} {s : ByteArray} {a k : Nat} {v : Value} {w : World} {e : Ending} {w' : World} (h : PostN b s a k v w e w') (hk : k = 0) : e = .returned (.tuple #[.string ⟨#[]⟩, .bool false]) ∧ (∃ a1, Rd b s a1 w') ∧ Below b w w' := by
  obtain ⟨h1, ⟨h2, _⟩ | ⟨_, h2, h3⟩⟩ := h
  · exact absurd hk h2
  · exact ⟨h2, h3, h1⟩

set_option maxHeartbeats 400000 in
theorem readNew_any (b : Nat) (s : ByteArray) (a : Nat) (w : World) (hs : s.size ≤ 300) (h : Rd b s a w) (ha : a ≤ s.size) :
    Calls Try.prog 89 #[.pointer (some ⟨b, 0, none⟩)] w (Post b s a (Kw.fresh s a) (.iface 97 (.agg #[.int .i64 ((Kw.g s a : Int) - 65), .int .i64 (Kw.nv s a : Int)])) w) := by
  have hr := hide h
  clear h
  by_cases hf : Kw.fresh s a = 0
  · by_cases hl : Kw.g s a < 65 ∨ 72 < Kw.g s a
    · have hf' := hide hf
      clear hf
      go_enter Try.func89, Try.ntmps89
      go_wp2_with fail
      refine (readLetter_no b s a _ hs (unhide hr) hl).mono ?_
      rintro e w1 ⟨v1, rfl, r1, hb1⟩
      go_wp2_with fail
      go_ret2
      exact ⟨hb1, .inr ⟨hf'.out, ⟨_, rfl⟩, r1⟩⟩
    · have hn := Kw.fresh_no hf (by omega) (by omega)
      have ha2 : a < s.size := Kw.g_lt.1 (by omega)
      have hf' := hide hf
      clear hf
      rcases hn with hn | ⟨n, a1, hn, h59, ha1⟩
      · have hN := hide hn
        clear hn
        go_enter Try.func89, Try.ntmps89
        go_wp2_with fail
        refine (readLetter_yes b s a _ hs (unhide hr) (by omega) (by omega)).mono ?_
        rintro e w1 ⟨rfl, r1, hb1⟩
        go_wp2_with fail
        refine (readNumber_no b s (a + 1) _ 99 rfl _ hs r1 (by omega) (by omega) hN).mono ?_
        rintro e w2 ⟨rfl, r2, hb2⟩
        go_wp2_with fail
        go_ret2
        exact ⟨hb1.trans hb2, .inr ⟨hf'.out, ⟨_, rfl⟩, r2⟩⟩
      · have hN := hide hn
        clear hn
        by_cases ha3 : a1 < s.size
        · have hne : ((Kw.g s a1 : Int) == 59) = false := by simp; omega
          have hg := Kw.g_lt.2 ha3
          clear h59
          go_enter Try.func89, Try.ntmps89
          go_wp2_with fail
          refine (readLetter_yes b s a _ hs (unhide hr) (by omega) (by omega)).mono ?_
          rintro e w1 ⟨rfl, r1, hb1⟩
          go_wp2_with fail
          refine (readNumber_yes b s (a + 1) _ 99 rfl _ hs r1 (by omega) (by omega) hN).mono ?_
          rintro e w2 ⟨rfl, r2, hb2⟩
          go_wp2_with fail
          refine (readSign_in b s a1 _ hs r2 ha3).mono ?_
          rintro e w3 ⟨rfl, r3, hb3⟩
          go_wp2_with fail
          go_ret2
          exact ⟨(hb1.trans hb2).trans hb3, .inr ⟨hf'.out, ⟨_, rfl⟩, ⟨_, r3⟩⟩⟩
        · clear h59
          go_enter Try.func89, Try.ntmps89
          go_wp2_with fail
          refine (readLetter_yes b s a _ hs (unhide hr) (by omega) (by omega)).mono ?_
          rintro e w1 ⟨rfl, r1, hb1⟩
          go_wp2_with fail
          refine (readNumber_yes b s (a + 1) _ 99 rfl _ hs r1 (by omega) (by omega) hN).mono ?_
          rintro e w2 ⟨rfl, r2, hb2⟩
          go_wp2_with fail
          refine (readSign_out b s a1 _ r2 (by omega)).mono ?_
          rintro e w3 ⟨rfl, r3, hb3⟩
          go_wp2_with fail
          go_ret2
          exact ⟨(hb1.trans hb2).trans hb3, .inr ⟨hf'.out, ⟨_, rfl⟩, ⟨_, r3⟩⟩⟩
  · obtain ⟨p1, p2, p3, p4, p5⟩ := Kw.fresh_yes hf
    have ple := Kw.fresh_le hf
    have hN := hide p3
    have hf' := hide hf
    have ha3 : a + Kw.fresh s a - 1 < s.size := by omega
    have heq : Kw.g s (a + Kw.fresh s a - 1) = 59 := p4
    have hpos : a + Kw.fresh s a - 1 + 1 = a + Kw.fresh s a := by omega
    have hpos' := hide hpos
    generalize hq : a + Kw.fresh s a - 1 = q at *
    clear p3 hf p4 hpos
    have hq' := hide hq
    clear hq
    go_enter Try.func89, Try.ntmps89
    go_wp2_with fail
    refine (readLetter_yes b s a _ hs (unhide hr) p1 p2).mono ?_
    rintro e w1 ⟨rfl, r1, hb1⟩
    go_wp2_with fail
    refine (readNumber_yes b s (a + 1) _ 99 rfl _ hs r1 (by omega) (by omega) hN).mono ?_
    rintro e w2 ⟨rfl, r2, hb2⟩
    go_wp2_with fail
    refine (readSign_in b s q _ hs r2 ha3).mono ?_
    rintro e w3 ⟨rfl, r3, hb3⟩
    go_wp2_with fail
    go_ret2
    exact ⟨(hb1.trans hb2).trans hb3, .inl ⟨hf'.out, rfl, by rw [hpos'.out] at r3; exact r3⟩⟩

/-- Reading how the secret at place a was made is done as it must be. -/
def HowAt (b : Nat) (s : ByteArray) (a : Nat) : Prop := ∀ w, Rd b s a w → Calls Try.prog 73 #[.pointer (some ⟨b, 0, none⟩)] w (Post b s a (Kw.len s a) (secV s a) w)
/-- Reading the name at place a is done as it must be. -/
def NameAt (b : Nat) (s : ByteArray) (a : Nat) : Prop := ∀ w, Rd b s a w → Calls Try.prog 85 #[.pointer (some ⟨b, 0, none⟩)] w (PostN b s a (Kw.len s a) (.string (s.extract a (a + Kw.len s a))) w)

set_option maxHeartbeats 400000 in
theorem readName_of (b : Nat) (s : ByteArray) (a : Nat) (H : HowAt b s a) : NameAt b s a := by
  intro w h
  have hr := hide h
  have hh := hide h
  obtain ⟨t, p, f, lt⟩ := h
  by_cases hl : Kw.len s a = 0
  · have hl' := hide hl
    clear hl
    go_enter Try.func85, Try.ntmps85
    go_wp2_with fail
    refine (H _ (unhide hr)).mono ?_
    rintro e w1 h1
    obtain ⟨u, rfl, r1, hb1⟩ := h1.no hl'.out
    clear h1
    go_wp2_with fail
    go_ret2
    exact ⟨hb1, .inr ⟨hl'.out, rfl, r1⟩⟩
  · have hle := Kw.len_le hl
    have hl' := hide hl
    clear hl
    go_enter Try.func85, Try.ntmps85
    go_wp2_with fail
    refine (H _ (unhide hr)).mono ?_
    rintro e w1 h1
    obtain ⟨rfl, r1, hb1⟩ := h1.yes hl'.out
    clear h1
    have hr1 := hide r1
    clear t p f lt
    obtain ⟨t, p, f, lt⟩ := r1
    generalize Kw.len s a = k at *
    have i0 : a ≤ a + k := by omega
    generalize hk : a + k = m at *
    have hk' := hide hk
    clear hk
    have i1 : (a : Int) ≤ (m : Int) := by omega
    have i2 : (m : Int) ≤ (s.size : Int) := by omega
    go_wp2_with fail
    go_quiet (fail)
    go_wp2_with fail
    go_ret2
    obtain ⟨r2, hb2⟩ := (unhide hr1).drewN nq
    exact ⟨hb1.trans hb2, .inl ⟨hl'.out, rfl, by rw [hk'.out]; exact r2⟩⟩

set_option maxHeartbeats 400000 in
theorem readEpoch_of (b : Nat) (s : ByteArray) (a : Nat) (H : NameAt b s a) (H2 : Kw.len s a ≠ 0 → NameAt b s (a + Kw.len s a)) (w : World) (h : Rd b s a w) :
    Calls Try.prog 86 #[.pointer (some ⟨b, 0, none⟩)] w (Post b s a (Kw.epLen s a)
      (.iface 102 (.agg #[.string (s.extract a (a + Kw.len s a)), .string (s.extract (a + Kw.len s a) (a + Kw.len s a + Kw.len s (a + Kw.len s a)))])) w) := by
  have hr := hide h
  clear h
  by_cases hl : Kw.len s a = 0
  · have hl' := hide hl
    clear hl
    go_enter Try.func86, Try.ntmps86
    go_wp2_with fail
    refine (H _ (unhide hr)).mono ?_
    rintro e w1 h1
    obtain ⟨rfl, r1, hb1⟩ := h1.no hl'.out
    clear h1
    go_wp2_with fail
    go_ret2
    exact ⟨hb1, .inr ⟨by unfold Kw.epLen; rw [if_pos hl'.out], ⟨_, rfl⟩, r1⟩⟩
  · have H3 := H2 hl
    clear H2
    have hl' := hide hl
    clear hl
    generalize hm : a + Kw.len s a = m at *
    have hm' := hide hm
    clear hm
    by_cases hk : Kw.len s m = 0
    · have hk' := hide hk
      clear hk
      go_enter Try.func86, Try.ntmps86
      go_wp2_with fail
      refine (H _ (unhide hr)).mono ?_
      rintro e w1 h1
      obtain ⟨rfl, r1, hb1⟩ := h1.yes hl'.out
      rw [hm'.out] at r1
      clear h1
      go_wp2_with fail
      refine (H3 _ r1).mono ?_
      rintro e w2 h2
      obtain ⟨rfl, r2, hb2⟩ := h2.no hk'.out
      clear h2
      go_wp2_with fail
      go_ret2
      exact ⟨hb1.trans hb2, .inr ⟨by unfold Kw.epLen; rw [if_neg hl'.out, hm'.out, Kw.more_zero hk'.out], ⟨_, rfl⟩, r2⟩⟩
    · have hk' := hide hk
      clear hk
      go_enter Try.func86, Try.ntmps86
      go_wp2_with fail
      refine (H _ (unhide hr)).mono ?_
      rintro e w1 h1
      obtain ⟨rfl, r1, hb1⟩ := h1.yes hl'.out
      rw [hm'.out] at r1 ⊢
      clear h1
      go_wp2_with fail
      refine (H3 _ r1).mono ?_
      rintro e w2 h2
      obtain ⟨rfl, r2, hb2⟩ := h2.yes hk'.out
      clear h2
      go_wp2_with fail
      go_ret2
      have e2 : Kw.epLen s a = Kw.len s a + Kw.len s m := by unfold Kw.epLen; rw [if_neg hl'.out, hm'.out, Kw.more_pos hk'.out]
      refine ⟨hb1.trans hb2, .inl ⟨by rw [e2]; have := hk'.out; omega, rfl, ?_⟩⟩
      rw [e2, ← Nat.add_assoc, hm'.out]
      exact r2

set_option maxHeartbeats 400000 in
theorem readSay_of (b : Nat) (s : ByteArray) (a : Nat) (hs : s.size ≤ 300) (H : a < s.size → NameAt b s (a + 1)) (w : World) (h : Rd b s a w) :
    Calls Try.prog 87 #[.pointer (some ⟨b, 0, none⟩)] w (Post b s a (Kw.sayLen s a)
      (.iface 83 (.agg #[.string (s.extract (a + 1) (a + 1 + Kw.len s (a + 1))), .int .i64 ((Kw.g s a : Int) - 65)])) w) := by
  have hr := hide h
  clear h
  by_cases hl : Kw.g s a < 65 ∨ 72 < Kw.g s a
  · clear H
    go_enter Try.func87, Try.ntmps87
    go_wp2_with fail
    refine (readLetter_no b s a _ hs (unhide hr) hl).mono ?_
    rintro e w1 ⟨v1, rfl, r1, hb1⟩
    go_wp2_with fail
    go_ret2
    exact ⟨hb1, .inr ⟨by unfold Kw.sayLen; rw [if_neg (by omega)], ⟨_, rfl⟩, r1⟩⟩
  · have h1 : 65 ≤ Kw.g s a := by omega
    have h2 : Kw.g s a ≤ 72 := by omega
    have H1 := H (Kw.g_lt.1 (by omega))
    clear H hl
    by_cases hk : Kw.len s (a + 1) = 0
    · have hk' := hide hk
      clear hk
      go_enter Try.func87, Try.ntmps87
      go_wp2_with fail
      refine (readLetter_yes b s a _ hs (unhide hr) h1 h2).mono ?_
      rintro e w1 ⟨rfl, r1, hb1⟩
      go_wp2_with fail
      refine (H1 _ r1).mono ?_
      rintro e w2 h3
      obtain ⟨rfl, r2, hb2⟩ := h3.no hk'.out
      clear h3
      go_wp2_with fail
      go_ret2
      exact ⟨hb1.trans hb2, .inr ⟨by unfold Kw.sayLen; rw [if_pos ⟨h1, h2⟩, Kw.more_zero hk'.out], ⟨_, rfl⟩, r2⟩⟩
    · have hk' := hide hk
      clear hk
      go_enter Try.func87, Try.ntmps87
      go_wp2_with fail
      refine (readLetter_yes b s a _ hs (unhide hr) h1 h2).mono ?_
      rintro e w1 ⟨rfl, r1, hb1⟩
      go_wp2_with fail
      refine (H1 _ r1).mono ?_
      rintro e w2 h3
      obtain ⟨rfl, r2, hb2⟩ := h3.yes hk'.out
      clear h3
      go_wp2_with fail
      go_ret2
      have e2 : Kw.sayLen s a = 1 + Kw.len s (a + 1) := by unfold Kw.sayLen; rw [if_pos ⟨h1, h2⟩, Kw.more_pos hk'.out]
      refine ⟨hb1.trans hb2, .inl ⟨by rw [e2]; omega, rfl, ?_⟩⟩
      rw [e2, ← Nat.add_assoc]
      exact r2

set_option maxHeartbeats 400000 in
theorem readRoom_of (b : Nat) (s : ByteArray) (a : Nat) (hs : s.size ≤ 300) (ha : a ≤ s.size) (H : a < s.size → NameAt b s (a + 1)) (w : World) (h : Rd b s a w) :
    Calls Try.prog 88 #[.pointer (some ⟨b, 0, none⟩)] w (Post b s a (Kw.roomLen s a)
      (.iface 104 (.agg #[.string (s.extract (a + 1) (a + 1 + Kw.len s (a + 1))), .int .i64 ((Kw.g s a - 48 : Nat) : Int)])) w) := by
  have hr := hide h
  clear h
  have key : (Kw.num s 9 a = none ∧ Kw.roomLen s a = 0) ∨ (Kw.num s 9 a = some (Kw.g s a - 48, a + 1) ∧ 49 ≤ Kw.g s a ∧ Kw.g s a ≤ 57) := by
    by_cases hg : 49 ≤ Kw.g s a ∧ Kw.g s a ≤ 57
    · by_cases hk : Kw.len s (a + 1) = 0
      · rcases Kw.room_no hg with h | h
        · exact .inl ⟨h, by unfold Kw.roomLen; rw [if_pos hg, Kw.more_zero hk]⟩
        · exact .inr ⟨h, hg⟩
      · exact .inr ⟨Kw.room_yes hg hk, hg⟩
    · exact .inl ⟨Kw.num_zero (by omega), by unfold Kw.roomLen; rw [if_neg hg]⟩
  rcases key with ⟨hn, he⟩ | ⟨hn, h1, h2⟩
  · have hN := hide hn
    have hE := hide he
    clear hn he H
    go_enter Try.func88, Try.ntmps88
    go_wp2_with fail
    refine (readNumber_no b s a _ 9 rfl _ hs (unhide hr) ha (by omega) hN).mono ?_
    rintro e w1 ⟨rfl, r1, hb1⟩
    go_wp2_with fail
    go_ret2
    exact ⟨hb1, .inr ⟨hE.out, ⟨_, rfl⟩, r1⟩⟩
  · have hN := hide hn
    clear hn
    have H1 := H (Kw.g_lt.1 (by omega))
    clear H
    by_cases hk : Kw.len s (a + 1) = 0
    · have hk' := hide hk
      clear hk
      go_enter Try.func88, Try.ntmps88
      go_wp2_with fail
      refine (readNumber_yes b s a _ 9 rfl _ hs (unhide hr) ha (by omega) hN).mono ?_
      rintro e w1 ⟨rfl, r1, hb1⟩
      go_wp2_with fail
      refine (H1 _ r1).mono ?_
      rintro e w2 h3
      obtain ⟨rfl, r2, hb2⟩ := h3.no hk'.out
      clear h3
      go_wp2_with fail
      go_ret2
      exact ⟨hb1.trans hb2, .inr ⟨by unfold Kw.roomLen; rw [if_pos ⟨h1, h2⟩, Kw.more_zero hk'.out], ⟨_, rfl⟩, r2⟩⟩
    · have hk' := hide hk
      clear hk
      go_enter Try.func88, Try.ntmps88
      go_wp2_with fail
      refine (readNumber_yes b s a _ 9 rfl _ hs (unhide hr) ha (by omega) hN).mono ?_
      rintro e w1 ⟨rfl, r1, hb1⟩
      go_wp2_with fail
      refine (H1 _ r1).mono ?_
      rintro e w2 h3
      obtain ⟨rfl, r2, hb2⟩ := h3.yes hk'.out
      clear h3
      go_wp2_with fail
      go_ret2
      have e2 : Kw.roomLen s a = 1 + Kw.len s (a + 1) := by unfold Kw.roomLen; rw [if_pos ⟨h1, h2⟩, Kw.more_pos hk'.out]
      refine ⟨hb1.trans hb2, .inl ⟨by rw [e2]; omega, rfl, ?_⟩⟩
      rw [e2, ← Nat.add_assoc]
      exact r2
end Go.Proofs.Ytgdhlnfigcaepaa
/-
  The program's SecOk and readSecret: at every text they answer as the plain function on names does.
-/
namespace Go.Proofs.Ytgdhlnfigcaepaa
open Go.RowKit

theorem Rd.back {b : Nat} {s : ByteArray} {a : Nat} {w : World} (h : Rd b s (a + 1) w) (v : Value) (hv : v = .int .i64 (a : Int)) :
    Rd b s a (w.setCell ⟨b, 1, none⟩ v) ∧ Below b w (w.setCell ⟨b, 1, none⟩ v) := by
  obtain ⟨t, p, f, lt⟩ := h
  subst hv
  refine ⟨⟨by simp [go_sem, t], by simp [go_sem, p], by simp [go_sem, f], by simpa [World.setCell] using lt⟩, ?_⟩
  exact (Below.refl b w).setCell (p := ⟨b, 1, none⟩) (Nat.le_refl _) _

theorem Post.form {b : Nat} {s : ByteArray} {a k : Nat} {v : Value} {w : World} {e : Ending} {w' : World} (h : Post b s a k v w e w') :
    ∃ u c, e = .returned (.tuple #[u, .bool c]) ∧ Post b s a k v w (.returned (.tuple #[u, .bool c])) w' := by
  have h0 := h
  obtain ⟨h1, ⟨h2, h3, h4⟩ | ⟨h2, ⟨u, h3⟩, h4⟩⟩ := h
  · exact ⟨_, _, h3, by rw [← h3]; exact h0⟩
  · exact ⟨_, _, h3, by rw [← h3]; exact h0⟩

theorem PostN.form {b : Nat} {s : ByteArray} {a k : Nat} {x : ByteArray} {w : World} {e : Ending} {w' : World} (h : PostN b s a k (.string x) w e w') :
    ∃ u c, e = .returned (.tuple #[.string u, .bool c]) ∧ PostN b s a k (.string x) w (.returned (.tuple #[.string u, .bool c])) w' := by
  have h0 := h
  obtain ⟨h1, ⟨h2, h3, h4⟩ | ⟨h2, h3, h4⟩⟩ := h
  · exact ⟨_, _, h3, by rw [← h3]; exact h0⟩
  · exact ⟨_, _, h3, by rw [← h3]; exact h0⟩

theorem Post.lift {b : Nat} {s : ByteArray} {a k : Nat} {v : Value} {w w1 : World} {e : Ending} {w' : World} (h : Post b s (a + 1) k v w1 e w') (hb : Below b w w1) (hl : Kw.len s a = Kw.more 1 k) (hv : secV s a = v) :
    Post b s a (Kw.len s a) (secV s a) w e w' := by
  rw [hv]
  obtain ⟨h1, ⟨h2, h3, h4⟩ | ⟨h2, h3, h4⟩⟩ := h
  · rw [hl, Kw.more_pos h2]
    exact ⟨hb.trans h1, .inl ⟨by omega, h3, by rw [← Nat.add_assoc]; exact h4⟩⟩
  · rw [hl, Kw.more_zero h2]
    exact ⟨hb.trans h1, .inr ⟨rfl, h3, h4⟩⟩

theorem PostN.lift {b : Nat} {s : ByteArray} {a k t : Nat} {x u : ByteArray} {c : Bool} {w w1 : World} {w' : World} (h : PostN b s (a + 1) k (.string x) w1 (.returned (.tuple #[.string u, .bool c])) w') (hb : Below b w w1) (hl : Kw.len s a = Kw.more 1 k)
    (hv : secV s a = .iface t (.agg #[.string x])) : Post b s a (Kw.len s a) (secV s a) w (.returned (.tuple #[.iface t (.agg #[.string u]), .bool c])) w' := by
  rw [hv]
  obtain ⟨h1, ⟨h2, h3, h4⟩ | ⟨h2, h3, h4⟩⟩ := h
  · simp at h3
    obtain ⟨rfl, rfl⟩ := h3
    rw [hl, Kw.more_pos h2]
    exact ⟨hb.trans h1, .inl ⟨by omega, rfl, by rw [← Nat.add_assoc]; exact h4⟩⟩
  · simp at h3
    obtain ⟨rfl, rfl⟩ := h3
    rw [hl, Kw.more_zero h2]
    exact ⟨hb.trans h1, .inr ⟨rfl, ⟨_, rfl⟩, h4⟩⟩

theorem Post.lift0 {b : Nat} {s : ByteArray} {a : Nat} {v : Value} {w w1 : World} {e : Ending} {w' : World} (h : Post b s a (Kw.fresh s a) v w1 e w') (hb : Below b w w1) (hl : Kw.len s a = Kw.fresh s a) (hv : secV s a = v) :
    Post b s a (Kw.len s a) (secV s a) w e w' := by
  rw [hv, hl]
  exact ⟨hb.trans h.1, h.2⟩

set_option maxHeartbeats 1000000 in
theorem readHow_step (b : Nat) (s : ByteArray) (hs : s.size ≤ 300) (a : Nat) (ha : a < s.size) (ih : ∀ m, a < m → m ≤ s.size → HowAt b s m) : HowAt b s a := by
  intro w h
  have hr := hide h
  clear h
  have hN1 : NameAt b s (a + 1) := readName_of b s (a + 1) (ih _ (by omega) (by omega))
  have hg := Kw.g_lt.2 ha
  by_cases c1 : Kw.g s a = 110
  · have e1 : ((Kw.g s a : Int) == 110) = true := by simp; omega
    have C1 := hide c1
    clear c1
    go_enter Try.func73, Try.ntmps73
    go_wp2_with fail
    refine (readSign_in b s a _ hs (unhide hr) ha).mono ?_
    rintro e w1 ⟨rfl, r1, hb1⟩
    go_wp2_with fail
    refine (hN1 _ r1).mono ?_
    rintro e w2 h2
    obtain ⟨u, c, rfl, hp⟩ := h2.form
    clear h2
    go_wp2_with fail
    go_ret2
    exact hp.lift hb1 (Kw.len_nk (.inl C1.out)) (by unfold secV; rw [if_pos C1.out])
  have e1 : ((Kw.g s a : Int) == 110) = false := by simp; omega
  by_cases c2 : Kw.g s a = 107
  · have e2 : ((Kw.g s a : Int) == 107) = true := by simp; omega
    have C2 := hide c2
    have C1 := hide c1
    clear c2 c1
    go_enter Try.func73, Try.ntmps73
    go_wp2_with fail
    refine (readSign_in b s a _ hs (unhide hr) ha).mono ?_
    rintro e w1 ⟨rfl, r1, hb1⟩
    go_wp2_with fail
    refine (hN1 _ r1).mono ?_
    rintro e w2 h2
    obtain ⟨u, c, rfl, hp⟩ := h2.form
    clear h2
    go_wp2_with fail
    go_ret2
    exact hp.lift hb1 (Kw.len_nk (.inr C2.out)) (by unfold secV; rw [if_neg C1.out, if_pos C2.out])
  have e2 : ((Kw.g s a : Int) == 107) = false := by simp; omega
  by_cases c3 : Kw.g s a = 101
  · have e3 : ((Kw.g s a : Int) == 101) = true := by simp; omega
    have C3 := hide c3
    have C2 := hide c2
    have C1 := hide c1
    have hN2 : Kw.len s (a + 1) ≠ 0 → NameAt b s (a + 1 + Kw.len s (a + 1)) := fun hl => readName_of b s _ (ih _ (by omega) (Kw.len_le hl))
    have HN2 := hide hN2
    clear c3 c2 c1 hN2
    go_enter Try.func73, Try.ntmps73
    go_wp2_with fail
    refine (readSign_in b s a _ hs (unhide hr) ha).mono ?_
    rintro e w1 ⟨rfl, r1, hb1⟩
    go_wp2_with fail
    refine (readEpoch_of b s (a + 1) hN1 (unhide HN2) _ r1).mono ?_
    rintro e w2 h2
    obtain ⟨u, c, rfl, hp⟩ := h2.form
    clear h2
    go_wp2_with fail
    go_ret2
    exact hp.lift hb1 (Kw.len_e C3.out) (by unfold secV; rw [if_neg C1.out, if_neg C2.out, if_pos C3.out])
  have e3 : ((Kw.g s a : Int) == 101) = false := by simp; omega
  have hN2 : a + 1 < s.size → NameAt b s (a + 1 + 1) := fun hl => readName_of b s _ (ih _ (by omega) (by omega))
  have HN2 := hide hN2
  clear hN2
  by_cases c4 : Kw.g s a = 109
  · have e4 : ((Kw.g s a : Int) == 109) = true := by simp; omega
    have C4 := hide c4
    have C3 := hide c3
    have C2 := hide c2
    have C1 := hide c1
    clear c4 c3 c2 c1
    go_enter Try.func73, Try.ntmps73
    go_wp2_with fail
    refine (readSign_in b s a _ hs (unhide hr) ha).mono ?_
    rintro e w1 ⟨rfl, r1, hb1⟩
    go_wp2_with fail
    refine (readSay_of b s (a + 1) hs (unhide HN2) _ r1).mono ?_
    rintro e w2 h2
    obtain ⟨u, c, rfl, hp⟩ := h2.form
    clear h2
    go_wp2_with fail
    go_ret2
    exact hp.lift hb1 (Kw.len_m C4.out) (by unfold secV; rw [if_neg C1.out, if_neg C2.out, if_neg C3.out, if_pos C4.out])
  have e4 : ((Kw.g s a : Int) == 109) = false := by simp; omega
  by_cases c5 : Kw.g s a = 114
  · have e5 : ((Kw.g s a : Int) == 114) = true := by simp; omega
    have C5 := hide c5
    have C4 := hide c4
    have C3 := hide c3
    have C2 := hide c2
    have C1 := hide c1
    clear c5 c4 c3 c2 c1
    go_enter Try.func73, Try.ntmps73
    go_wp2_with fail
    refine (readSign_in b s a _ hs (unhide hr) ha).mono ?_
    rintro e w1 ⟨rfl, r1, hb1⟩
    go_wp2_with fail
    refine (readRoom_of b s (a + 1) hs (by omega) (unhide HN2) _ r1).mono ?_
    rintro e w2 h2
    obtain ⟨u, c, rfl, hp⟩ := h2.form
    clear h2
    go_wp2_with fail
    go_ret2
    exact hp.lift hb1 (Kw.len_r C5.out) (by unfold secV; rw [if_neg C1.out, if_neg C2.out, if_neg C3.out, if_neg C4.out, if_pos C5.out])
  have e5 : ((Kw.g s a : Int) == 114) = false := by simp; omega
  have C5 := hide c5
  have C4 := hide c4
  have C3 := hide c3
  have C2 := hide c2
  have C1 := hide c1
  clear c5 c4 c3 c2 c1 HN2 hN1
  go_enter Try.func73, Try.ntmps73
  go_wp2_with fail
  refine (readSign_in b s a _ hs (unhide hr) ha).mono ?_
  rintro e w1 ⟨rfl, r1, hb1⟩
  have R1 := hide r1
  obtain ⟨t, p, f, lt⟩ := r1
  go_wp2_with fail
  obtain ⟨r2, hb2⟩ := (unhide R1).back (.int .i64 (a : Int)) rfl
  refine (readNew_any b s a _ hs r2 (by omega)).mono ?_
  rintro e w2 h2
  obtain ⟨u, c, rfl, hp⟩ := h2.form
  clear h2
  go_wp2_with fail
  go_ret2
  exact hp.lift0 (hb1.trans hb2) (Kw.len_else C1.out C2.out C4.out C5.out C3.out) (by unfold secV; rw [if_neg C1.out, if_neg C2.out, if_neg C3.out, if_neg C4.out, if_neg C5.out])

set_option maxHeartbeats 400000 in
theorem readHow_out (b : Nat) (s : ByteArray) (a : Nat) (ha : s.size ≤ a) : HowAt b s a := by
  intro w h
  have hr := hide h
  clear h
  go_enter Try.func73, Try.ntmps73
  go_wp2_with fail
  refine (readSign_out b s a _ (unhide hr) ha).mono ?_
  rintro e w1 ⟨rfl, r1, hb1⟩
  go_wp2_with fail
  go_ret2
  exact ⟨hb1, .inr ⟨Kw.len_out ha, ⟨_, rfl⟩, ⟨_, r1⟩⟩⟩

theorem readHow_all (b : Nat) (s : ByteArray) (hs : s.size ≤ 300) : ∀ f a, s.size - a ≤ f → HowAt b s a := by
  intro f
  induction f with
  | zero => intro a h; exact readHow_out b s a (by omega)
  | succ f ih =>
    intro a h
    by_cases ha : a < s.size
    · exact readHow_step b s hs a ha (fun m h1 h2 => ih m (by omega))
    · exact readHow_out b s a (by omega)

/-- What reading a whole text comes to. -/
def ReadPost (s : ByteArray) (w : World) (e : Ending) (w' : World) : Prop :=
  Below w.heap.size w w' ∧ ((Kw.ok s = true ∧ e = .returned (.tuple #[secV s 0, .bool true])) ∨ (Kw.ok s = false ∧ e = .returned (.tuple #[.nilIface, .bool false])))

theorem Rd.start (s : ByteArray) (w : World) : Rd w.heap.size s 0 (w.alloc (.cells #[.string s, .int .i64 0] 94)) :=
  ⟨by simp [go_sem], by simp [go_sem], by simp [go_sem], by simp⟩

set_option maxHeartbeats 400000 in
theorem readSecret_any (s : ByteArray) (w : World) (hm : s.size ≤ maxLen) :
    Calls Try.prog 56 #[.string s] w (ReadPost s w) := by
  unfold maxLen at hm
  by_cases hs : s.size ≤ 300
  · have H := readHow_all w.heap.size s hs s.size 0 (by omega)
    have hb0 : Below w.heap.size w (w.alloc (.cells #[.string s, .int .i64 0] 94)) := (Below.refl _ _).alloc (Nat.le_refl _) _
    by_cases hl : Kw.len s 0 = 0
    · have L := hide hl
      clear hl
      go_enter Try.func56, Try.ntmps56
      go_wp2_with fail
      refine (H _ (Rd.start s w)).mono ?_
      rintro e w1 h1
      obtain ⟨u, rfl, r1, hb1⟩ := h1.no L.out
      clear h1
      go_wp2_with fail
      go_ret2
      exact ⟨hb0.trans hb1, .inr ⟨ok_none L.out, rfl⟩⟩
    · have hle := Kw.len_le hl
      have L := hide hl
      clear hl
      by_cases hq : Kw.len s 0 = s.size
      · have Q := hide hq
        clear hq
        go_enter Try.func56, Try.ntmps56
        go_wp2_with fail
        refine (H _ (Rd.start s w)).mono ?_
        rintro e w1 h1
        obtain ⟨rfl, r1, hb1⟩ := h1.yes L.out
        clear h1
        rw [Nat.zero_add, Q.out] at r1
        obtain ⟨t, p, f, lt⟩ := r1
        go_wp2_with fail
        go_ret2
        exact ⟨hb0.trans hb1, .inl ⟨ok_yes hs L.out Q.out, rfl⟩⟩
      · have Q := hide hq
        have hne : ((Kw.len s 0 : Int) != (s.size : Int)) = true := by simp; omega
        clear hq
        go_enter Try.func56, Try.ntmps56
        go_wp2_with fail
        refine (H _ (Rd.start s w)).mono ?_
        rintro e w1 h1
        obtain ⟨rfl, r1, hb1⟩ := h1.yes L.out
        clear h1
        rw [Nat.zero_add] at r1
        obtain ⟨t, p, f, lt⟩ := r1
        go_wp2_with fail
        go_ret2
        exact ⟨hb0.trans hb1, .inr ⟨ok_part Q.out, rfl⟩⟩
  · have hs2 : 300 < s.size := by omega
    go_enter Try.func56, Try.ntmps56
    go_wp2_with fail
    go_ret2
    exact ⟨Below.refl _ _, .inr ⟨ok_long hs2, rfl⟩⟩

theorem ReadPost.form {s : ByteArray} {w : World} {e : Ending} {w' : World} (h : ReadPost s w e w') : ∃ u, e = .returned (.tuple #[u, .bool (Kw.ok s)]) ∧ Below w.heap.size w w' := by
  obtain ⟨h1, ⟨h2, h3⟩ | ⟨h2, h3⟩⟩ := h
  · exact ⟨_, by rw [h2]; exact h3, h1⟩
  · exact ⟨_, by rw [h2]; exact h3, h1⟩

set_option maxHeartbeats 400000 in
theorem iSecOk_any (s : ByteArray) (w : World) (hm : s.size ≤ maxLen) :
    Calls Try.prog 54 #[.string s] w fun e w' => e = .returned (.bool (Kw.ok s)) ∧ Below w.heap.size w w' := by
  have M := hide hm
  clear hm
  go_enter Try.func54, Try.ntmps54
  go_wp2_with fail
  refine (readSecret_any s _ M.out).mono ?_
  rintro e w1 h1
  obtain ⟨u, rfl, hb1⟩ := h1.form
  clear h1
  go_wp2_with fail
  go_ret
  exact ⟨rfl, hb1⟩
#print axioms iSecOk_any
end Go.Proofs.Ytgdhlnfigcaepaa
/-
  The laws' own last word: it returns true.
-/
namespace Go.Proofs.Ytgdhlnfigcaepaa
open Go.RowKit

set_option maxHeartbeats 400000 in
theorem keOk_any (w : World) : Calls Try.prog 28 #[] w fun e w' => e = .returned (.bool true) ∧ Below w.heap.size w w' := by
  have hk : Hid (Kw.ok ⟨#[65, 49, 59]⟩ = true) := by show Kw.ok _ = true; decide +kernel
  go_enter Try.func28, Try.ntmps28
  go_wp2_with fail
  refine (iSecOk_any ⟨#[65, 49, 59]⟩ _ (le_maxLen (by decide))).mono ?_
  rw [hk.out]
  rintro e w1 ⟨rfl, hb1⟩
  go_wp2_with fail
  go_ret
  exact ⟨rfl, hb1⟩

#print axioms keOk_any
end Go.Proofs.Ytgdhlnfigcaepaa
