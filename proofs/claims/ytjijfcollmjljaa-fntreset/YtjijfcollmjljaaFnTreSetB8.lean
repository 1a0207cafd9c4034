/-
  Contracts of the reader by which inputs are drawn: what one draw leaves.
-/
import Derived.Test.YtjijfcollmjljaaFnTreSetB1
import Derived.Deep.RegionWith
import Derived.Test.YtjijfcollmjljaaFnTreSetB2
import Derived.Test.YtjijfcollmjljaaFnTreSetB3
import Derived.Test.YtjijfcollmjljaaFnTreSetB6
import Derived.Test.YtjijfcollmjljaaFnTreSetB4
namespace Go.Proofs.Ytjijfcollmjljaa
open Go.RowKit

/-- All blocks but one are as they were; more may have come. -/
structure Ex (b : Nat) (w w' : World) : Prop where
  os : w'.os = w.os
  tape : w'.tape = w.tape
  output : w'.output = w.output
  size : w.heap.size ≤ w'.heap.size
  block : ∀ k, k < w.heap.size → k ≠ b → w'.heap[k]? = w.heap[k]?

theorem Ex.refl (b : Nat) (w : World) : Ex b w w := ⟨rfl, rfl, rfl, Nat.le_refl _, fun _ _ _ => rfl⟩
theorem Ex.trans {b : Nat} {u v w : World} (h : Ex b u v) (k : Ex b v w) : Ex b u w :=
  ⟨k.os.trans h.os, k.tape.trans h.tape, k.output.trans h.output, Nat.le_trans h.size k.size, fun i hi hn => (k.block i (Nat.lt_of_lt_of_le hi h.size) hn).trans (h.block i hi hn)⟩
theorem Ex.of_below (b : Nat) {w w' : World} (h : Below w.heap.size w w') : Ex b w w' := ⟨h.os, h.tape, h.output, h.size, fun k hk _ => h.block k hk⟩
theorem Ex.set {b : Nat} {u w : World} (h : Ex b u w) (o : Nat) (v : Value) : Ex b u (w.setCell ⟨b, o, none⟩ v) :=
  h.trans ⟨rfl, rfl, rfl, by simp [World.setCell], fun k _ hn => Below.heap_setCell _ _ _ _ hn⟩
theorem Ex.drewN {b : Nat} {u w : World} (h : Ex b u w) (n : Nat) : Ex b u (w.drewN n) := h.trans ⟨rfl, rfl, rfl, Nat.le_refl _, fun _ _ _ => rfl⟩
theorem Ex.drew {b : Nat} {u w : World} (h : Ex b u w) : Ex b u w.drew := h.trans ⟨rfl, rfl, rfl, Nat.le_refl _, fun _ _ _ => rfl⟩
theorem Ex.alloc {b : Nat} {u w : World} (h : Ex b u w) (o : Obj) : Ex b u (w.alloc o) := h.trans ⟨rfl, rfl, rfl, by simp, fun k hk _ => Below.heap_alloc _ _ _ hk⟩
theorem Ex.below {b : Nat} {w w' : World} (h : Ex b w w') {B : Nat} (hB : B ≤ b) (hw : B ≤ w.heap.size) : Below B w w' := ⟨h.os, h.tape, h.output, h.size, fun k hk => h.block k (by omega) (by omega)⟩
theorem Ex.cell {b : Nat} {w w' : World} (h : Ex b w w') {p : Addr} (hp : p.block < w.heap.size) (hn : p.block ≠ b) : w'.cell? p = w.cell? p := World.cell?_of_block (w := w) (h.block p.block hp hn)
theorem Ex.frozen {b : Nat} {w w' : World} (h : Ex b w w') {p : Addr} (hp : p.block < w.heap.size) (hn : p.block ≠ b) : w'.frozen? p = w.frozen? p := World.frozen?_of_block (w := w) (h.block p.block hp hn)

/-- A reader of a code lies at block b; it has drawn p times. -/
structure Dr (b : Nat) (a : Option Addr) (len cap : Nat) (z : Nat → Int) (p : Nat) (w : World) : Prop where
  c0 : w.cell? ⟨b, 0, none⟩ = some (.slice a len cap)
  c1 : w.cell? ⟨b, 1, none⟩ = some (.int .i64 (p : Int))
  f1 : w.frozen? ⟨b, 1, none⟩ = false
  lt : b < w.heap.size
  le : len ≤ 2000
  row : len = 0 ∨ ∃ x : Addr, a = some x ∧ x.block < b ∧ ∀ i, i < len → w.cell? (x.add i) = some (.int .u8 (z i)) ∧ 0 ≤ z i ∧ z i ≤ 255

theorem cell_other {w : World} {b : Nat} {q : Addr} {u : Value} (h : w.cell? q = some u) (hq : q.block < b) (v : Value) : (w.setCell ⟨b, 1, none⟩ v).cell? q = some u := by
  rw [World.cell?_of_block (w := w) (Below.heap_setCell w ⟨b, 1, none⟩ v q.block (by show q.block ≠ b; omega))]
  exact h

theorem add_block (x : Addr) (i : Nat) : (x.add i).block = x.block := by unfold Addr.add; split <;> rfl
theorem cell_row {w : World} {b : Nat} {x : Addr} {i : Nat} {u : Value} (h : w.cell? (x.add i) = some u) (hx : x.block < b) (v : Value) : (w.setCell ⟨b, 1, none⟩ v).cell? (x.add i) = some u :=
  cell_other h (by rw [add_block]; exact hx) v

theorem Dr.step {b : Nat} {a : Option Addr} {len cap : Nat} {z : Nat → Int} {p : Nat} {w : World} (h : Dr b a len cap z p w) (n p' : Nat) (v : Value) (hv : v = .int .i64 (p' : Int)) :
    Dr b a len cap z p' ((w.drewN n).setCell ⟨b, 1, none⟩ v) ∧ Ex b w ((w.drewN n).setCell ⟨b, 1, none⟩ v) := by
  obtain ⟨c0, c1, f1, lt, le, row⟩ := h
  subst hv
  refine ⟨⟨by simp [go_sem, c0], by simp [go_sem, c1], by simp [go_sem, f1], by simpa [World.setCell] using lt, le, ?_⟩, ((Ex.refl b w).drewN n).set 1 _⟩
  rcases row with h0 | ⟨x, hx, hxb, hr⟩
  · exact .inl h0
  · exact .inr ⟨x, hx, hxb, fun i hi => ⟨cell_row (w := w.drewN n) (hr i hi).1 hxb _, (hr i hi).2⟩⟩

theorem Dr.step0 {b : Nat} {a : Option Addr} {len cap : Nat} {z : Nat → Int} {p : Nat} {w : World} (h : Dr b a len cap z p w) (n p' : Nat) (v : Value) (hv : v = .int .i64 (p' : Int)) :
    Dr b a len cap z p' ((w.setCell ⟨b, 1, none⟩ v).drewN n) ∧ Ex b w ((w.setCell ⟨b, 1, none⟩ v).drewN n) := h.step n p' v hv

theorem bits_xor_i64_nat (a b : Nat) (ha : a < 4611686018427387904) (hb : b < 4611686018427387904) :
    bits .xor .i64 (a : Int) (b : Int) = ((a ^^^ b : Nat) : Int) := by
  have hx : a ^^^ b < 2 ^ 62 := Nat.xor_lt_two_pow (by omega) (by omega)
  have h1 : (BitVec.ofInt 64 (a : Int)).toNat = a := by
    rw [BitVec.ofInt_natCast, BitVec.toNat_ofNat]; exact Nat.mod_eq_of_lt (by omega)
  have h2 : (BitVec.ofInt 64 (b : Int)).toNat = b := by
    rw [BitVec.ofInt_natCast, BitVec.toNat_ofNat]; exact Nat.mod_eq_of_lt (by omega)
  show IntKind.i64.wrap ((BitVec.ofInt 64 (a : Int) ^^^ BitVec.ofInt 64 (b : Int)).toNat : Int) = _
  rw [BitVec.toNat_xor, h1, h2]
  simp [IntKind.wrap, IntKind.bits, IntKind.signed]; omega

theorem ret_nat {a : Int} {b : Nat} (h : a = (b : Int)) : Ending.returned (.int .i64 a) = .returned (.int .i64 (b : Int)) := by rw [h]

theorem mix_nat {X : Int} {n : Nat} (h0 : 0 ≤ X) (h1 : X < 4611686018427387904) (hn : 1 ≤ n) : ∃ v : Nat, (bits BinOp.xor IntKind.i64 X (X / 64)).tmod (n : Int) = (v : Int) ∧ v < n := by
  obtain ⟨k, rfl⟩ := Int.eq_ofNat_of_zero_le h0
  have e : ((k : Int) / 64) = ((k / 64 : Nat) : Int) := by omega
  rw [e, bits_xor_i64_nat k (k / 64) (by omega) (by omega)]
  exact ⟨(k ^^^ (k / 64)) % n, rfl, Nat.mod_lt _ (by omega)⟩

set_option maxHeartbeats 1000000 in
theorem pick_row (b : Nat) (x : Addr) (len cap : Nat) (z : Nat → Int) (p n : Nat) (w : World) (h : Dr b (some x) len cap z p w) (hn : 1 ≤ n) (hn2 : n ≤ 1000) (hp : p ≤ 1000000) (hl : len ≠ 0) :
    Calls Try.prog 34 #[.pointer (some ⟨b, 0, none⟩), .int .i64 (n : Int)] w fun e w' => ∃ v : Nat, e = .returned (.int .i64 (v : Int)) ∧ v < n ∧ Dr b (some x) len cap z (p + 1) w' ∧ Ex b w w' := by
  have hD := hide h
  obtain ⟨c0, c1, f1, lt, le, row⟩ := h
  have hn3 : decide ((n : Int) < 1) = false := by simp; omega
  have hl3 : ((len : Int) == 0) = false := by simp; omega
  obtain ⟨x', hx, hxb, hrow⟩ := row.resolve_left hl
  simp only [Option.some.injEq] at hx
  subst hx
  by_cases hlt : p < len
  · obtain ⟨r1, r2, r3⟩ := hrow p hlt
    have r4 : ∀ v, (w.setCell ⟨b, 1, none⟩ v).cell? (x.add p) = some (.int .u8 (z p)) := fun v => cell_row r1 hxb v
    have hn4 : ((n : Int) == 0) = false := by simp; omega
    clear hrow row r1
    go_enter Try.func34, Try.ntmps34
    go_wp2_with fail
    go_ret
    obtain ⟨d1, d2⟩ := (unhide hD).step 0 (p + 1) (.int .i64 ((p : Int) + 1)) (by simp)
    have w1 := Int.emod_nonneg (z p) (show (n : Int) ≠ 0 by omega)
    have w2 := Int.emod_lt_of_pos (z p) (show (0 : Int) < (n : Int) by omega)
    exact ⟨(z p % (n : Int)).toNat, ret_nat (by omega), by omega, d1, d2⟩
  · have hd : decide ((p : Int) < (len : Int)) = false := by simp; omega
    obtain ⟨k1, t1, m1⟩ : ∃ k1 : Nat, (p : Int).tmod (len : Int) = (k1 : Int) ∧ k1 < len := ⟨p % len, rfl, Nat.mod_lt _ (by omega)⟩
    obtain ⟨k2, t2, m2⟩ : ∃ k2 : Nat, ((p : Int) * 7 + 3).tmod (len : Int) = (k2 : Int) ∧ k2 < len := ⟨(p * 7 + 3) % len, rfl, Nat.mod_lt _ (by omega)⟩
    obtain ⟨k3, t3, m3⟩ : ∃ k3 : Nat, (p : Int).tdiv (len : Int) = (k3 : Int) ∧ k3 ≤ 1000000 := ⟨p / len, rfl, by have := Nat.div_le_self p len; omega⟩
    obtain ⟨r1, r2, r3⟩ := hrow _ m1
    obtain ⟨q1, q2, q3⟩ := hrow _ m2
    have r4 : ∀ v, (w.setCell ⟨b, 1, none⟩ v).cell? (x.add k1) = some (.int .u8 (z k1)) := fun v => cell_row r1 hxb v
    have q4 : ∀ v, (w.setCell ⟨b, 1, none⟩ v).cell? (x.add k2) = some (.int .u8 (z k2)) := fun v => cell_row q1 hxb v
    have m1' : (k1 : Int) < (len : Int) := by omega
    have m2' : (k2 : Int) < (len : Int) := by omega
    have hn4 : ((n : Int) == 0) = false := by simp; omega
    generalize z k1 = z1 at *
    generalize z k2 = z2 at *
    clear hrow row r1 q1
    go_enter Try.func34, Try.ntmps34
    go_wp2_with fail
    go_quiet (fail)
    go_wp2_with fail
    go_ret
    obtain ⟨d1, d2⟩ := (unhide hD).step0 nq (p + 1) (.int .i64 ((p : Int) + 1)) (by simp)
    obtain ⟨v, hv1, hv2⟩ := mix_nat (X := z1 * 131 + z2 * 1117 + (p : Int) * 29 + (k3 : Int) * 53) (by omega) (by omega) hn
    exact ⟨v, ret_nat hv1, hv2, d1, d2⟩

/-- A code that is read. -/
structure Code where
  a : Option Addr
  len : Nat
  cap : Nat
  z : Nat → Int

def DrC (b : Nat) (C : Code) (p : Nat) (w : World) : Prop := Dr b C.a C.len C.cap C.z p w

theorem DrC.lt {b : Nat} {C : Code} {p : Nat} {w : World} (h : DrC b C p w) : b < w.heap.size := Dr.lt h
theorem DrC.below {b : Nat} {C : Code} {p : Nat} {w w' : World} (h : DrC b C p w) (hb : Below w.heap.size w w') : DrC b C p w' := by
  obtain ⟨c0, c1, f1, lt, le, row⟩ := h
  refine ⟨(hb.cell (p := ⟨b, 0, none⟩) lt).trans c0, (hb.cell (p := ⟨b, 1, none⟩) lt).trans c1, (hb.frozen (p := ⟨b, 1, none⟩) lt).trans f1, Nat.lt_of_lt_of_le lt hb.size, le, ?_⟩
  rcases row with h0 | ⟨x, hx, hxb, hr⟩
  · exact .inl h0
  · exact .inr ⟨x, hx, hxb, fun i hi => ⟨(hb.cell (p := x.add i) (by rw [add_block]; omega)).trans (hr i hi).1, (hr i hi).2⟩⟩
theorem DrC.alloc {b : Nat} {C : Code} {p : Nat} {w : World} (h : DrC b C p w) (o : Obj) : DrC b C p (w.alloc o) := h.below ((Below.refl _ _).alloc (Nat.le_refl _) _)
theorem DrC.drew {b : Nat} {C : Code} {p : Nat} {w : World} (h : DrC b C p w) : DrC b C p w.drew := h.below (Below.refl _ _).drew
theorem DrC.drewN {b : Nat} {C : Code} {p : Nat} {w : World} (h : DrC b C p w) (n : Nat) : DrC b C p (w.drewN n) := h.below (below_drewN (Below.refl _ _) n)

/-- What one draw comes to. -/
def PickPost (b : Nat) (C : Code) (p n : Nat) (w : World) (e : Ending) (w' : World) : Prop :=
  ∃ v : Nat, e = .returned (.int .i64 (v : Int)) ∧ v < n ∧ DrC b C (p + 1) w' ∧ Ex b w w'

set_option maxHeartbeats 1000000 in
theorem pick_any (b : Nat) (C : Code) (p n : Nat) (m : Int) (hm : m = (n : Int)) (w : World) (h : DrC b C p w) (hn : 1 ≤ n) (hn2 : n ≤ 1000) (hp : p ≤ 1000000) :
    Calls Try.prog 34 #[.pointer (some ⟨b, 0, none⟩), .int .i64 m] w (PickPost b C p n w) := by
  subst hm
  obtain ⟨a, len, cap, z⟩ := C
  by_cases hl : len = 0
  · have hD : Hid (Dr b a len cap z p w) := h
    obtain ⟨c0, c1, f1, lt, le, row⟩ := h
    simp only at c0
    subst hl
    have hn3 : decide ((n : Int) < 1) = false := by simp; omega
    clear row
    go_enter Try.func34, Try.ntmps34
    go_wp2_with fail
    go_ret
    obtain ⟨d1, d2⟩ := (unhide hD).step 0 (p + 1) (.int .i64 ((p : Int) + 1)) (by simp)
    exact ⟨0, rfl, by omega, d1, d2⟩
  · have h2 : Dr b a len cap z p w := h
    obtain ⟨x, hx, _⟩ := h2.row.resolve_left hl
    subst hx
    exact pick_row b x len cap z p n w h2 hn hn2 hp hl

end Go.Proofs.Ytjijfcollmjljaa
/-
  Contracts of MakSay and MakRoom, the program's and the specification's.
-/
namespace Go.Proofs.Ytjijfcollmjljaa
open Go.RowKit

theorem cap_yes2 {x : ByteArray} (h : x.size ≤ 300) : cap x = x := by unfold cap; rw [if_pos h]
theorem cap_no2 {x : ByteArray} (h : 300 < x.size) : cap x = ⟨#[]⟩ := by unfold cap; rw [if_neg (by omega)]

theorem method_say (x : Value) (w : World) : (method 238 102 x "loop.example/keyward/impl.name").run Try.prog w = .ok (122, x) w := by kernel_rfl
theorem method_room (x : Value) (w : World) : (method 238 104 x "loop.example/keyward/impl.name").run Try.prog w = .ok (123, x) w := by kernel_rfl

set_option maxHeartbeats 400000 in
theorem sayName_any (s : ByteArray) (who : Int) (w : World) (hs : s.size ≤ 300) (h0 : 0 ≤ who) (h1 : who < 8) :
    Calls Try.prog 122 #[.agg #[.string s, .int .i64 who]] w fun e w' => e = .returned (.string (sayT s who.toNat)) ∧ Below w.heap.size w w' := by
  have s1 : (by1 (65 + who.toNat)).size = 1 := rfl
  have s2 : ¬ (9223372036854775807 < 2 + s.size) := by omega
  go_enter Try.func122, Try.ntmps122
  go_wp2_with fail
  go_quiet ((go_at_call 106; exact Calls.quiet_of_same (letterOf_any _ _ h0 h1)))
  go_wp2
  go_ret
  exact ⟨ret_str rfl, below_drewN ((Below.refl _ _).alloc (Nat.le_refl _) _) _⟩

set_option maxHeartbeats 400000 in
theorem roomName_any (s : ByteArray) (room : Int) (w : World) (hs : s.size ≤ 300) (h0 : 1 ≤ room) (h1 : room < 10) :
    Calls Try.prog 123 #[.agg #[.string s, .int .i64 room]] w fun e w' => e = .returned (.string (roomT s room.toNat)) ∧ Below w.heap.size w w' := by
  have s1 : (dec room.toNat).size = 1 := by rw [dec_size, if_pos (by omega)]
  have s2 : ¬ (9223372036854775807 < 2 + s.size) := by omega
  have g0 : 0 ≤ room := by omega
  have g1 : room < 100 := by omega
  go_enter Try.func123, Try.ntmps123
  go_wp2_with fail
  go_quiet ((go_at_call 107; exact Calls.quiet_of_same (itoa_any _ _ g0 g1)))
  go_wp2
  go_ret
  exact ⟨ret_str rfl, below_drewN ((Below.refl _ _).alloc (Nat.le_refl _) _) _⟩

set_option maxRecDepth 100000 in
set_option maxHeartbeats 400000 in
theorem nameOf_say (s : ByteArray) (who : Int) (w : World) (hs : s.size ≤ 300) (h0 : 0 ≤ who) (h1 : who < 8) :
    Calls Try.prog 48 #[.iface 102 (.agg #[.string s, .int .i64 who])] w fun e w' => e = .returned (.string (cap (sayT s who.toNat))) ∧ Below w.heap.size w w' := by
  have hm := method_say
  have hz := say_size s who.toNat
  by_cases hc : (sayT s who.toNat).size ≤ 300
  · rw [cap_yes2 hc]
    have hd : decide ((300 : Int) < ((sayT s who.toNat).size : Int)) = false := by simp; omega
    clear hz hc
    go_enter Try.func48, Try.ntmps48
    go_wp2_with (go_at_call 122; refine (sayName_any _ _ _ hs h0 h1).mono ?_; rintro e w' ⟨rfl, hb⟩)
    go_ret
    exact ⟨rfl, hb⟩
  · rw [cap_no2 (by omega)]
    have hd : (300 : Int) < ((sayT s who.toNat).size : Int) := by omega
    have hd2 : ((sayT s who.toNat).size : Int) ≤ 1000 := by omega
    clear hz hc
    go_enter Try.func48, Try.ntmps48
    go_wp2_with (go_at_call 122; refine (sayName_any _ _ _ hs h0 h1).mono ?_; rintro e w' ⟨rfl, hb⟩)
    go_ret
    exact ⟨rfl, hb⟩

set_option maxRecDepth 100000 in
set_option maxHeartbeats 400000 in
theorem nameOf_room (s : ByteArray) (room : Int) (w : World) (hs : s.size ≤ 300) (h0 : 1 ≤ room) (h1 : room < 10) :
    Calls Try.prog 48 #[.iface 104 (.agg #[.string s, .int .i64 room])] w fun e w' => e = .returned (.string (cap (roomT s room.toNat))) ∧ Below w.heap.size w w' := by
  have hm := method_room
  have hz := room_size s room.toNat
  have hy : (dec room.toNat).size = 1 := by rw [dec_size, if_pos (by omega)]
  by_cases hc : (roomT s room.toNat).size ≤ 300
  · rw [cap_yes2 hc]
    have hd : decide ((300 : Int) < ((roomT s room.toNat).size : Int)) = false := by simp; omega
    clear hz hc hy
    go_enter Try.func48, Try.ntmps48
    go_wp2_with (go_at_call 123; refine (roomName_any _ _ _ hs h0 h1).mono ?_; rintro e w' ⟨rfl, hb⟩)
    go_ret
    exact ⟨rfl, hb⟩
  · rw [cap_no2 (by omega)]
    have hd : (300 : Int) < ((roomT s room.toNat).size : Int) := by omega
    have hd2 : ((roomT s room.toNat).size : Int) ≤ 1000 := by omega
    clear hz hc hy
    go_enter Try.func48, Try.ntmps48
    go_wp2_with (go_at_call 123; refine (roomName_any _ _ _ hs h0 h1).mono ?_; rintro e w' ⟨rfl, hb⟩)
    go_ret
    exact ⟨rfl, hb⟩

set_option maxHeartbeats 400000 in
theorem sMakSay_any (s : ByteArray) (who : Int) (w : World) (hm : s.size ≤ maxLen) :
    Calls Try.prog 72 #[.string s, .int .i64 who] w fun e w' => e = .returned (.string (mkSay s who)) ∧ Below w.heap.size w w' := by
  have M := hide hm
  clear hm
  cases hk : Kw.ok s with
  | false =>
    rw [show mkSay s who = ⟨#[]⟩ by unfold mkSay; rw [if_neg (by rw [hk]; simp)]]
    have K := hide hk
    clear hk
    go_enter Try.func72, Try.ntmps72
    go_wp2_with fail
    refine (sSecOk_any s _ M.out).mono ?_
    rw [K.out]
    rintro e w1 ⟨rfl, hb1⟩
    go_wp2_with fail
    go_ret
    exact ⟨rfl, hb1⟩
  | true =>
    have hs := (ok_facts hk).1
    by_cases hbad : who < 0 ∨ 8 ≤ who
    · rw [show mkSay s who = ⟨#[]⟩ by unfold mkSay; rw [if_neg (by omega)]]
      have K := hide hk
      clear hk
      go_enter Try.func72, Try.ntmps72
      go_wp2_with fail
      refine (sSecOk_any s _ M.out).mono ?_
      rw [K.out]
      rintro e w1 ⟨rfl, hb1⟩
      go_wp2_with fail
      refine (l1In_no _ _ _ _ (by omega)).mono ?_
      rintro e w2 ⟨rfl, rfl⟩
      go_wp2_with fail
      go_ret
      exact ⟨rfl, hb1⟩
    · have g0 : 0 ≤ who := by omega
      have g1 : who < 8 := by omega
      have hz := say_size s who.toNat
      rw [show mkSay s who = only (sayT s who.toNat) by unfold mkSay; rw [if_pos ⟨hk, g0, g1⟩, only_cap (by omega) (len_say hk (by omega))]]
      have M2 : Hid ((sayT s who.toNat).size ≤ maxLen) := by show _ ≤ maxLen; unfold maxLen; omega
      have K := hide hk
      clear hk hz hbad
      have s1 : (by1 (65 + who.toNat)).size = 1 := rfl
      have g2 : who ≤ 7 := by omega
      go_enter Try.func72, Try.ntmps72
      go_wp2_with fail
      refine (sSecOk_any s _ M.out).mono ?_
      rw [K.out]
      rintro e w1 ⟨rfl, hb1⟩
      go_wp2_with fail
      refine (l1In_yes _ _ _ _ (by omega) (by omega)).mono ?_
      rintro e w2 ⟨rfl, rfl⟩
      go_wp2_with fail
      refine (l1Who_any _ _ g0 g1).mono ?_
      rintro e w3 ⟨rfl, hb3⟩
      go_wp2_with fail
      refine (l1Ok_any (sayT s who.toNat) _ M2.out).mono ?_
      rintro e w4 ⟨rfl, hb4⟩
      go_wp2_with fail
      go_ret
      have hb13 := hb1.trans (hb3.mono hb1.size)
      exact ⟨rfl, hb13.trans (hb4.mono hb13.size)⟩

set_option maxHeartbeats 400000 in
theorem sMakRoom_any (s : ByteArray) (room : Int) (w : World) (hm : s.size ≤ maxLen) :
    Calls Try.prog 73 #[.string s, .int .i64 room] w fun e w' => e = .returned (.string (mkRoom s room)) ∧ Below w.heap.size w w' := by
  have M := hide hm
  clear hm
  cases hk : Kw.ok s with
  | false =>
    rw [show mkRoom s room = ⟨#[]⟩ by unfold mkRoom; rw [if_neg (by rw [hk]; simp)]]
    have K := hide hk
    clear hk
    go_enter Try.func73, Try.ntmps73
    go_wp2_with fail
    refine (sSecOk_any s _ M.out).mono ?_
    rw [K.out]
    rintro e w1 ⟨rfl, hb1⟩
    go_wp2_with fail
    go_ret
    exact ⟨rfl, hb1⟩
  | true =>
    have hs := (ok_facts hk).1
    by_cases hbad : room < 1 ∨ 9 < room
    · rw [show mkRoom s room = ⟨#[]⟩ by unfold mkRoom; rw [if_neg (by omega)]]
      have K := hide hk
      clear hk
      go_enter Try.func73, Try.ntmps73
      go_wp2_with fail
      refine (sSecOk_any s _ M.out).mono ?_
      rw [K.out]
      rintro e w1 ⟨rfl, hb1⟩
      go_wp2_with fail
      refine (l1In_no _ _ _ _ (by omega)).mono ?_
      rintro e w2 ⟨rfl, rfl⟩
      go_wp2_with fail
      go_ret
      exact ⟨rfl, hb1⟩
    · have g0 : 1 ≤ room := by omega
      have g1 : room ≤ 9 := by omega
      have g3 : room < 10 := by omega
      have hy : (dec room.toNat).size = 1 := by rw [dec_size, if_pos (by omega)]
      have hz := room_size s room.toNat
      rw [show mkRoom s room = only (roomT s room.toNat) by unfold mkRoom; rw [if_pos ⟨hk, g0, g1⟩, only_cap (by omega) (len_room hk (by omega) (by omega))]]
      have M2 : Hid ((roomT s room.toNat).size ≤ maxLen) := by show _ ≤ maxLen; unfold maxLen; omega
      have K := hide hk
      clear hk hz hbad
      have g4 : 0 ≤ room := by omega
      have g5 : room < 100 := by omega
      go_enter Try.func73, Try.ntmps73
      go_wp2_with fail
      refine (sSecOk_any s _ M.out).mono ?_
      rw [K.out]
      rintro e w1 ⟨rfl, hb1⟩
      go_wp2_with fail
      refine (l1In_yes _ _ _ _ (by omega) (by omega)).mono ?_
      rintro e w2 ⟨rfl, rfl⟩
      go_wp2_with fail
      refine (l1Plain_any _ _ g4 g5).mono ?_
      rintro e w3 ⟨rfl, hb3⟩
      go_wp2_with fail
      refine (l1Ok_any (roomT s room.toNat) _ M2.out).mono ?_
      rintro e w4 ⟨rfl, hb4⟩
      go_wp2_with fail
      go_ret
      have hb13 := hb1.trans (hb3.mono hb1.size)
      exact ⟨rfl, hb13.trans (hb4.mono hb13.size)⟩

#print axioms sMakSay_any
#print axioms sMakRoom_any
end Go.Proofs.Ytjijfcollmjljaa
/-
  Contracts of the functions that draw secrets' names and texts: each returns a text, not too long, and leaves the reader further on.
-/
namespace Go.Proofs.Ytjijfcollmjljaa
open Go.RowKit

/-- What drawing a text comes to. -/
def StrPost (b : Nat) (C : Code) (p K M : Nat) (w : World) (e : Ending) (w' : World) : Prop :=
  ∃ (s : ByteArray) (q : Nat), e = .returned (.string s) ∧ s.size ≤ M ∧ q ≤ p + K ∧ DrC b C q w' ∧ Ex b w w'

theorem cap_300 (x : ByteArray) : (cap x).size ≤ 300 := by
  unfold cap; split
  · assumption
  · show 0 ≤ 300; omega
theorem mkNew_300 (who n : Int) : (mkNew who n).size ≤ 300 := by
  unfold mkNew; split
  · rcases newName_sizes who.toNat n.toNat with h | h <;> omega
  · show 0 ≤ 300; omega
theorem mkNext_300 (s : ByteArray) : (mkNext s).size ≤ 300 := by unfold mkNext; split; exact cap_300 _; show 0 ≤ 300; omega
theorem mkKey_300 (s : ByteArray) : (mkKey s).size ≤ 300 := by unfold mkKey; split; exact cap_300 _; show 0 ≤ 300; omega
theorem mkEpoch_300 (s t : ByteArray) : (mkEpoch s t).size ≤ 300 := by unfold mkEpoch; split; exact cap_300 _; show 0 ≤ 300; omega
theorem mkSay_300 (s : ByteArray) (n : Int) : (mkSay s n).size ≤ 300 := by unfold mkSay; split; exact cap_300 _; show 0 ≤ 300; omega
theorem mkRoom_300 (s : ByteArray) (n : Int) : (mkRoom s n).size ≤ 300 := by unfold mkRoom; split; exact cap_300 _; show 0 ≤ 300; omega

def Kd : Nat → Nat
  | 0 => 2
  | d + 1 => 3 + 2 * Kd d

/-- The secret's name that is drawn at a depth is drawn as it must be. -/
def DrawAt (b : Nat) (C : Code) (d : Nat) : Prop := ∀ (x : Int) (p : Nat) (w : World), x = (d : Int) → DrC b C p w → p + Kd d ≤ 1000000 →
    Calls Try.prog 56 #[.pointer (some ⟨b, 0, none⟩), .int .i64 x] w (StrPost b C p (Kd d) 300 w)

set_option maxHeartbeats 1000000 in
theorem l20Secret_zero (b : Nat) (C : Code) : DrawAt b C 0 := by
  intro x p w hx h hp
  subst hx
  have hD := hide h
  have hp1 : p ≤ 1000000 := by omega
  have hp2 : p + 1 ≤ 1000000 := by unfold Kd at hp; omega
  clear h
  go_enter Try.func56, Try.ntmps56
  go_wp2_with fail
  refine (pick_any b C p 3 _ rfl _ (unhide hD) (by omega) (by omega) hp1).mono ?_
  rintro e w1 ⟨v1, rfl, hv1, d1, x1⟩
  have D1 := hide d1
  clear d1
  go_wp2_with fail
  refine (pick_any b C (p + 1) 4 _ rfl _ (unhide D1) (by omega) (by omega) hp2).mono ?_
  rintro e w2 ⟨v2, rfl, hv2, d2, x2⟩
  have D2 := hide d2
  clear d2
  go_wp2_with fail
  refine (sMakNew_any _ _ _).mono ?_
  rintro e w3 ⟨rfl, hb3⟩
  go_wp2_with fail
  go_ret
  exact ⟨_, p + 1 + 1, rfl, mkNew_300 _ _, by unfold Kd; omega, (unhide D2).below hb3, (x1.trans x2).trans (Ex.of_below b hb3)⟩

set_option maxHeartbeats 4000000 in
theorem l20Secret_succ (b : Nat) (C : Code) (d : Nat) (hd : d ≤ 10) (ih : DrawAt b C d) : DrawAt b C (d + 1) := by
  intro x p w hx h hp
  subst hx
  have hD := hide h
  have hk : Kd (d + 1) = 3 + 2 * Kd d := rfl
  have hK := hide hk
  have hp1 : p ≤ 1000000 := by omega
  have hp2 : p + 1 ≤ 1000000 := by omega
  have hp3 : p + 2 ≤ 1000000 := by omega
  have hp4 : p + 2 + Kd d ≤ 1000000 := by omega
  have hp5 : p + 2 + Kd d + Kd d ≤ 1000000 := by omega
  clear h hk hp
  go_enter Try.func56, Try.ntmps56
  go_wp2_with fail
  refine (pick_any b C p 3 _ rfl _ (unhide hD) (by omega) (by omega) hp1).mono ?_
  rintro e w1 ⟨v1, rfl, hv1, d1, x1⟩
  have D1 := hide d1
  clear d1
  by_cases hv0 : v1 = 0
  · subst hv0
    go_wp2_with fail
    refine (pick_any b C (p + 1) 3 _ rfl _ (unhide D1) (by omega) (by omega) hp2).mono ?_
    rintro e w2 ⟨v2, rfl, hv2, d2, x2⟩
    have D2 := hide d2
    clear d2
    go_wp2_with fail
    refine (pick_any b C (p + 1 + 1) 4 _ rfl _ (unhide D2) (by omega) (by omega) hp3).mono ?_
    rintro e w3 ⟨v3, rfl, hv3, d3, x3⟩
    have D3 := hide d3
    clear d3
    go_wp2_with fail
    refine (sMakNew_any _ _ _).mono ?_
    rintro e w4 ⟨rfl, hb4⟩
    go_wp2_with fail
    go_ret
    exact ⟨_, p + 1 + 1 + 1, rfl, mkNew_300 _ _, by rw [hK.out]; omega, (unhide D3).below hb4, ((x1.trans x2).trans x3).trans (Ex.of_below b hb4)⟩
  have hv0' : ((v1 : Int) == 0) = false := by simp; omega
  clear hv0
  go_wp2_with fail
  refine (pick_any b C (p + 1) 6 _ rfl _ (unhide D1) (by omega) (by omega) hp2).mono ?_
  rintro e w2 ⟨v2, rfl, hv2, d2, x2⟩
  have D2 := hide d2
  have x12 := x1.trans x2
  clear d2 D1 x1 x2
  by_cases hc0 : v2 = 0
  · subst hc0
    go_wp2_with fail
    refine (ih _ (p + 1 + 1) _ (by omega) (unhide D2) hp4).mono ?_
    rintro e w3 ⟨s3, q3, rfl, hs3, hq3, d3, x3⟩
    have D3 := hide d3
    have x13 := x12.trans x3
    clear d3 x3
    go_wp2_with fail
    refine (sMakNext_any s3 _ (le_maxLen (by omega))).mono ?_
    rintro e w4 ⟨rfl, hb4⟩
    go_wp2_with fail
    go_ret
    exact ⟨_, q3, rfl, mkNext_300 _, by rw [hK.out]; omega, (unhide D3).below hb4, x13.trans (Ex.of_below b hb4)⟩
  have he0 : ((v2 : Int) == 0) = false := by simp; omega
  by_cases hc1 : v2 = 1
  · subst hc1
    go_wp2_with fail
    refine (ih _ (p + 1 + 1) _ (by omega) (unhide D2) hp4).mono ?_
    rintro e w3 ⟨s3, q3, rfl, hs3, hq3, d3, x3⟩
    have D3 := hide d3
    have x13 := x12.trans x3
    clear d3 x3
    go_wp2_with fail
    refine (sMakNext_any s3 _ (le_maxLen (by omega))).mono ?_
    rintro e w4 ⟨rfl, hb4⟩
    go_wp2_with fail
    go_ret
    exact ⟨_, q3, rfl, mkNext_300 _, by rw [hK.out]; omega, (unhide D3).below hb4, x13.trans (Ex.of_below b hb4)⟩
  have he1 : ((v2 : Int) == 1) = false := by simp; omega
  by_cases hc2 : v2 = 2
  · subst hc2
    go_wp2_with fail
    refine (ih _ (p + 1 + 1) _ (by omega) (unhide D2) hp4).mono ?_
    rintro e w3 ⟨s3, q3, rfl, hs3, hq3, d3, x3⟩
    have D3 := hide d3
    have x13 := x12.trans x3
    clear d3 x3
    go_wp2_with fail
    refine (sMakKey_any s3 _ (le_maxLen (by omega))).mono ?_
    rintro e w4 ⟨rfl, hb4⟩
    go_wp2_with fail
    go_ret
    exact ⟨_, q3, rfl, mkKey_300 _, by rw [hK.out]; omega, (unhide D3).below hb4, x13.trans (Ex.of_below b hb4)⟩
  have he2 : ((v2 : Int) == 2) = false := by simp; omega
  by_cases hc3 : v2 = 3
  · subst hc3
    go_wp2_with fail
    refine (ih _ (p + 1 + 1) _ (by omega) (unhide D2) hp4).mono ?_
    rintro e w3 ⟨s3, q3, rfl, hs3, hq3, d3, x3⟩
    have D3 := hide d3
    have x13 := x12.trans x3
    clear d3 x3
    go_wp2_with fail
    refine (ih _ q3 _ (by omega) (unhide D3) (by omega)).mono ?_
    rintro e w4 ⟨s4, q4, rfl, hs4, hq4, d4, x4⟩
    have D4 := hide d4
    have x14 := x13.trans x4
    clear d4 x4
    go_wp2_with fail
    refine (sMakEpoch_any s3 s4 _ (le_maxLen (by omega)) (le_maxLen (by omega))).mono ?_
    rintro e w5 ⟨rfl, hb5⟩
    go_wp2_with fail
    go_ret
    exact ⟨_, q4, rfl, mkEpoch_300 _ _, by rw [hK.out]; omega, (unhide D4).below hb5, x14.trans (Ex.of_below b hb5)⟩
  have he3 : ((v2 : Int) == 3) = false := by simp; omega
  by_cases hc4 : v2 = 4
  · subst hc4
    go_wp2_with fail
    refine (ih _ (p + 1 + 1) _ (by omega) (unhide D2) hp4).mono ?_
    rintro e w3 ⟨s3, q3, rfl, hs3, hq3, d3, x3⟩
    have D3 := hide d3
    have x13 := x12.trans x3
    clear d3 x3
    go_wp2_with fail
    refine (pick_any b C q3 8 _ rfl _ (unhide D3) (by omega) (by omega) (by omega)).mono ?_
    rintro e w4 ⟨v4, rfl, hv4, d4, x4⟩
    have D4 := hide d4
    have x14 := x13.trans x4
    clear d4 x4
    go_wp2_with fail
    refine (sMakSay_any s3 _ _ (le_maxLen (by omega))).mono ?_
    rintro e w5 ⟨rfl, hb5⟩
    go_wp2_with fail
    go_ret
    exact ⟨_, q3 + 1, rfl, mkSay_300 _ _, by rw [hK.out]; omega, (unhide D4).below hb5, x14.trans (Ex.of_below b hb5)⟩
  have he4 : ((v2 : Int) == 4) = false := by simp; omega
  clear hc0 hc1 hc2 hc3 hc4
  go_wp2_with fail
  refine (ih _ (p + 1 + 1) _ (by omega) (unhide D2) hp4).mono ?_
  rintro e w3 ⟨s3, q3, rfl, hs3, hq3, d3, x3⟩
  have D3 := hide d3
  have x13 := x12.trans x3
  clear d3 x3
  go_wp2_with fail
  refine (pick_any b C q3 9 _ rfl _ (unhide D3) (by omega) (by omega) (by omega)).mono ?_
  rintro e w4 ⟨v4, rfl, hv4, d4, x4⟩
  have D4 := hide d4
  have x14 := x13.trans x4
  clear d4 x4
  go_wp2_with fail
  refine (sMakRoom_any s3 _ _ (le_maxLen (by omega))).mono ?_
  rintro e w5 ⟨rfl, hb5⟩
  go_wp2_with fail
  go_ret
  exact ⟨_, q3 + 1, rfl, mkRoom_300 _ _, by rw [hK.out]; omega, (unhide D4).below hb5, x14.trans (Ex.of_below b hb5)⟩

theorem l20Secret_any (b : Nat) (C : Code) : ∀ d, d ≤ 4 → DrawAt b C d := by
  intro d
  induction d with
  | zero => intro _; exact l20Secret_zero b C
  | succ d ih => intro h; exact l20Secret_succ b C d (by omega) (ih (by omega))
#print axioms l20Secret_any
end Go.Proofs.Ytjijfcollmjljaa
/-
  What a reader is opened with: l20Open.
-/
namespace Go.Proofs.Ytjijfcollmjljaa
open Go.RowKit

theorem below_lt {w : World} {p : Addr} {v : Value} (h : w.cell? p = some v) : p.block < w.heap.size := by
  apply Classical.byContradiction
  intro hn
  have : w.heap[p.block]? = none := Array.getElem?_eq_none (by omega)
  simp [World.cell?, this] at h

set_option maxHeartbeats 1000000 in
theorem l20Open_any (a : Option Addr) (len cap : Nat) (zs : List Int) (w : World) (h : IsRow .u8 w a len cap zs) :
    Calls Try.prog 32 #[.slice a len cap] w fun e w' => ∃ C, e = .returned (.pointer (some ⟨w.heap.size, 0, none⟩)) ∧ DrC w.heap.size C 0 w' ∧ Below w.heap.size w w' := by
  rcases h with ⟨rfl, rfl, rfl, rfl⟩ | ⟨x, rfl, hl, hm, hz, hc, hw⟩
  · go_enter Try.func32, Try.ntmps32
    go_wp2_with fail
    go_ret
    refine ⟨⟨none, 0, 0, fun _ => 0⟩, rfl, ⟨by simp [go_sem], by simp [go_sem], by simp [go_sem], by simp, by simp, .inl rfl⟩, (Below.refl _ _).alloc (Nat.le_refl _) _⟩
  · have row : ∀ (n : Nat) (o : Obj), n ≤ len → n = 0 ∨ ∃ y : Addr, some x = some y ∧ y.block < w.heap.size ∧ ∀ i, i < n → (w.alloc o).cell? (y.add i) = some (.int .u8 (zs.getD i 0)) ∧ 0 ≤ zs.getD i 0 ∧ zs.getD i 0 ≤ 255 := by
      intro n o hn
      by_cases h0 : n = 0
      · exact .inl h0
      · refine .inr ⟨x, rfl, ?_, fun i hi => ?_⟩
        · have := below_lt (hc 0 (by omega))
          rwa [add_block] at this
        · have hci := hc i (by omega)
          have hlt := below_lt hci
          refine ⟨?_, ?_⟩
          · rw [World.cell?_of_block (w := w) (Below.heap_alloc w o _ hlt)]; exact hci
          · have hwi := hw (zs.getD i 0) (by rw [List.getD_eq_getElem?_getD, List.getElem?_eq_getElem (by omega)]; simp)
            exact bounds_u8 hwi
    unfold maxLen at hm
    by_cases hbig : len ≤ 2000
    · have hd : decide ((2000 : Int) < (len : Int)) = false := by simp; omega
      have R := hide (row len)
      clear row hc hw
      go_enter Try.func32, Try.ntmps32
      go_wp2_with fail
      go_ret
      exact ⟨⟨some x, len, cap, fun i => zs.getD i 0⟩, rfl, ⟨by simp [go_sem], by simp [go_sem], by simp [go_sem], by simp, hbig, unhide R _ (Nat.le_refl _)⟩, (Below.refl _ _).alloc (Nat.le_refl _) _⟩
    · have hd : (2000 : Int) < (len : Int) := by omega
      have hd2 : (2000 : Int) ≤ (cap : Int) := by omega
      have R := hide (row 2000)
      clear row hc hw
      go_enter Try.func32, Try.ntmps32
      go_wp2_with fail
      go_ret
      exact ⟨⟨some x, 2000, cap, fun i => zs.getD i 0⟩, rfl, ⟨by simp [go_sem], by simp [go_sem], by simp [go_sem], by simp, by simp, unhide R _ (by omega)⟩, (Below.refl _ _).alloc (Nat.le_refl _) _⟩

end Go.Proofs.Ytjijfcollmjljaa
/-
  One in so many: odd.
-/
namespace Go.Proofs.Ytjijfcollmjljaa
open Go.RowKit

set_option maxHeartbeats 400000 in
theorem odd_any (b : Nat) (C : Code) (p n : Nat) (m : Int) (hm : m = (n : Int)) (w : World) (h : DrC b C p w) (hn : 1 ≤ n) (hn2 : n ≤ 1000) (hp : p ≤ 1000000) :
    Calls Try.prog 55 #[.pointer (some ⟨b, 0, none⟩), .int .i64 m] w fun e w' => ∃ c : Bool, e = .returned (.bool c) ∧ DrC b C (p + 1) w' ∧ Ex b w w' := by
  subst hm
  have hD := hide h
  clear h
  go_enter Try.func55, Try.ntmps55
  go_wp2_with fail
  refine (pick_any b C p n _ rfl _ (unhide hD) hn hn2 hp).mono ?_
  rintro e w1 ⟨v, rfl, hv, d1, x1⟩
  have D1 := hide d1
  clear d1
  go_wp2_with fail
  go_ret
  exact ⟨_, rfl, unhide D1, x1⟩
#print axioms pick_any
#print axioms odd_any
end Go.Proofs.Ytjijfcollmjljaa
/-
  Contracts of the functions that draw texts, right and wrong ones, from a code.
-/
namespace Go.Proofs.Ytjijfcollmjljaa
open Go.RowKit

set_option maxHeartbeats 2000000 in
theorem l20Bent_any (b : Nat) (C : Code) (p : Nat) (s : ByteArray) (hs : s.size ≤ 300) (w : World) (h : DrC b C p w) (hp : p + 4 ≤ 1000000) :
    Calls Try.prog 57 #[.pointer (some ⟨b, 0, none⟩), .string s] w (StrPost b C p 4 700 w) := by
  have hD := hide h
  have hcv := conv1
  clear h
  go_enter Try.func57, Try.ntmps57
  go_wp2_with fail
  refine (pick_any b C p (s.size + 1) _ (by simp) _ (unhide hD) (by omega) (by omega) (by omega)).mono ?_
  rintro e w1 ⟨k, rfl, hk, d1, x1⟩
  have D1 := hide d1
  clear d1
  go_wp2_with fail
  refine (pick_any b C (p + 1) 256 _ rfl _ (unhide D1) (by omega) (by omega) (by omega)).mono ?_
  rintro e w2 ⟨v2, rfl, hv2, d2, x2⟩
  have D2 := hide d2
  have x12 := x1.trans x2
  have hlt2 := d2.lt
  clear d2 x1 x2 D1
  go_wp2_with fail
  refine (pick_any b C (p + 1 + 1) 10 _ rfl _ ((unhide D2).alloc _) (by omega) (by omega) (by omega)).mono ?_
  rintro e w3 ⟨v3, rfl, hv3, d3, x3⟩
  have hu : ∃ u : Int, w3.cell? ⟨w2.heap.size, v3, none⟩ = some (.int .i64 u) ∧ 0 ≤ u ∧ u ≤ 255 := by
    rw [x3.cell (p := ⟨w2.heap.size, v3, none⟩) (by simp) (by show w2.heap.size ≠ b; omega)]
    match v3, hv3 with
    | 0, _ => exact ⟨32, by simp [go_sem], by omega, by omega⟩
    | 1, _ => exact ⟨48, by simp [go_sem], by omega, by omega⟩
    | 2, _ => exact ⟨49, by simp [go_sem], by omega, by omega⟩
    | 3, _ => exact ⟨57, by simp [go_sem], by omega, by omega⟩
    | 4, _ => exact ⟨59, by simp [go_sem], by omega, by omega⟩
    | 5, _ => exact ⟨110, by simp [go_sem], by omega, by omega⟩
    | 6, _ => exact ⟨101, by simp [go_sem], by omega, by omega⟩
    | 7, _ => exact ⟨65, by simp [go_sem], by omega, by omega⟩
    | 8, _ => exact ⟨73, by simp [go_sem], by omega, by omega⟩
    | 9, _ => exact ⟨(v2 : Int), by simp [go_sem], by omega, by omega⟩
    | v + 10, hv => omega
  obtain ⟨u, hu1, hu2, hu3⟩ := hu
  have x13 := (x12.alloc _).trans x3
  have D3 := hide d3
  have hlt3 := d3.lt
  have hv3' : (v3 : Int) < 10 := by omega
  clear d3 x3 x12 D2 hv3
  go_wp2_with fail
  refine (pick_any b C (p + 1 + 1 + 1) 3 _ rfl _ ((unhide D3).alloc _) (by omega) (by omega) (by omega)).mono ?_
  rintro e w4 ⟨v4, rfl, hv4, d4, x4⟩
  have x14 := (x13.alloc _).trans x4
  have D4 := hide d4
  clear d4 x4 x13 D3 hu1
  generalize hcc : by1 u.toNat = c
  have hcs : c.size = 1 := by rw [← hcc]; rfl
  clear hcc
  by_cases h0 : v4 = 0
  · subst h0
    have i1 : (k : Int) ≤ (s.size : Int) := by omega
    go_wp2_with fail
    go_quiet (fail)
    go_wp2_with fail
    go_ret
    exact ⟨_, p + 1 + 1 + 1 + 1, rfl, by simp [ByteArray.size_append, ByteArray.size_extract]; omega, by omega, (unhide D4).drewN _, x14.drewN _⟩
  have e0 : ((v4 : Int) == 0) = false := by simp; omega
  by_cases h1 : v4 = 1
  · subst h1
    by_cases hks : k < s.size
    · have i1 : (k : Int) < (s.size : Int) := by omega
      have i2 : (k : Int) ≤ (s.size : Int) := by omega
      have i3 : (k : Int) + 1 ≤ (s.size : Int) := by omega
      go_wp2_with fail
      go_quiet (fail)
      go_wp2_with fail
      go_ret
      exact ⟨_, p + 1 + 1 + 1 + 1, rfl, by simp [ByteArray.size_append, ByteArray.size_extract]; omega, by omega, (unhide D4).drewN _, x14.drewN _⟩
    · have i1 : decide ((k : Int) < (s.size : Int)) = false := by simp; omega
      go_wp2_with fail
      go_ret
      exact ⟨_, p + 1 + 1 + 1 + 1, rfl, by omega, by omega, unhide D4, x14⟩
  have e1 : ((v4 : Int) == 1) = false := by simp; omega
  clear h0 h1
  by_cases hks : k < s.size
  · have i1 : (k : Int) < (s.size : Int) := by omega
    have i2 : (k : Int) ≤ (s.size : Int) := by omega
    have i3 : (k : Int) + 1 ≤ (s.size : Int) := by omega
    go_wp2_with fail
    go_quiet (fail)
    go_wp2_with fail
    go_ret
    exact ⟨_, p + 1 + 1 + 1 + 1, rfl, by simp [ByteArray.size_append, ByteArray.size_extract]; omega, by omega, (unhide D4).drewN _, x14.drewN _⟩
  · have i1 : decide ((k : Int) < (s.size : Int)) = false := by simp; omega
    go_wp2_with fail
    go_ret
    exact ⟨_, p + 1 + 1 + 1 + 1, rfl, by omega, by omega, unhide D4, x14⟩

set_option maxRecDepth 100000 in
set_option maxHeartbeats 2000000 in
theorem l20SecretOr_any (b : Nat) (C : Code) (p n : Nat) (m : Int) (hm : m = (n : Int)) (w : World) (h : DrC b C p w) (hn : 1 ≤ n) (hn2 : n ≤ 1000) (hp : p + 100 ≤ 1000000) :
    Calls Try.prog 35 #[.pointer (some ⟨b, 0, none⟩), .int .i64 m] w (StrPost b C p 100 700 w) := by
  subst hm
  have hD := hide h
  have hk4 : Kd 4 = 77 := rfl
  have H4 := l20Secret_any b C 4 (by omega)
  clear h
  go_enter Try.func35, Try.ntmps35
  go_wp2_with fail
  refine (H4 _ p _ rfl (unhide hD) (by omega)).mono ?_
  rintro e w1 ⟨s, q, rfl, hs, hq, d1, x1⟩
  have D1 := hide d1
  clear d1 H4
  rw [hk4] at hq
  clear hk4
  go_wp2_with fail
  refine (odd_any b C q n _ rfl _ (unhide D1) hn hn2 (by omega)).mono ?_
  rintro e w2 ⟨c, rfl, d2, x2⟩
  have D2 := hide d2
  have x12 := x1.trans x2
  clear d2 x1 x2 D1
  cases c with
  | false =>
    go_wp2_with fail
    go_ret
    exact ⟨s, q + 1, rfl, by omega, by omega, unhide D2, x12⟩
  | true =>
    go_wp2_with fail
    refine (pick_any b C (q + 1) 4 _ rfl _ (unhide D2) (by omega) (by omega) (by omega)).mono ?_
    rintro e w3 ⟨v, rfl, hv, d3, x3⟩
    have D3 := hide d3
    have hlt3 := d3.lt
    have x13 := x12.trans x3
    clear d3 x3 x12 D2
    by_cases h0 : v = 0
    · subst h0
      go_wp2_with fail
      refine (l20Bent_any b C (q + 1 + 1) s hs _ (unhide D3) (by omega)).mono ?_
      rintro e w4 ⟨s4, q4, rfl, hs4, hq4, d4, x4⟩
      go_wp2_with fail
      go_ret
      exact ⟨s4, q4, rfl, hs4, by omega, d4, x13.trans x4⟩
    have e0 : ((v : Int) == 0) = false := by simp; omega
    by_cases h1 : v = 1
    · subst h1
      go_wp2_with fail
      refine (pick_any b C (q + 1 + 1) 13 _ rfl _ ((unhide D3).alloc _) (by omega) (by omega) (by omega)).mono ?_
      rintro e w4 ⟨k, rfl, hk, d4, x4⟩
      have hu : ∃ u : ByteArray, w4.cell? ⟨w3.heap.size, k, none⟩ = some (.string u) ∧ u.size ≤ 300 := by
        rw [x4.cell (p := ⟨w3.heap.size, k, none⟩) (by simp) (by show w3.heap.size ≠ b; omega)]
        match k, hk with
        | 0, _ => exact ⟨_, by simp [go_sem]; rfl, by decide⟩
        | 1, _ => exact ⟨_, by simp [go_sem]; rfl, by decide⟩
        | 2, _ => exact ⟨_, by simp [go_sem]; rfl, by decide⟩
        | 3, _ => exact ⟨_, by simp [go_sem]; rfl, by decide⟩
        | 4, _ => exact ⟨_, by simp [go_sem]; rfl, by decide⟩
        | 5, _ => exact ⟨_, by simp [go_sem]; rfl, by decide⟩
        | 6, _ => exact ⟨_, by simp [go_sem]; rfl, by decide⟩
        | 7, _ => exact ⟨_, by simp [go_sem]; rfl, by decide⟩
        | 8, _ => exact ⟨_, by simp [go_sem]; rfl, by decide⟩
        | 9, _ => exact ⟨_, by simp [go_sem]; rfl, by decide⟩
        | 10, _ => exact ⟨_, by simp [go_sem]; rfl, by decide⟩
        | 11, _ => exact ⟨_, by simp [go_sem]; rfl, by decide⟩
        | 12, _ => exact ⟨_, by simp [go_sem]; rfl, by decide⟩
        | k + 13, hk => omega
      obtain ⟨u, hu1, hu2⟩ := hu
      have x14 := (x13.alloc _).trans x4
      have D4 := hide d4
      have hk' : (k : Int) < 13 := by omega
      clear d4 x4 x13 D3 hk
      go_wp2_with fail
      go_ret
      exact ⟨u, q + 1 + 1 + 1, rfl, by omega, by omega, unhide D4, x14⟩
    have e1 : ((v : Int) == 1) = false := by simp; omega
    by_cases h2 : v = 2
    · subst h2
      clear h0 h1
      go_wp2_with fail
      go_loop [5] (fun t => ∃ y : ByteArray, t = .string y ∧ y.size ≤ 301) (fun t => match t with | .string y => 302 - y.size | _ => 0)
      case atStart => exact ⟨s, rfl, by omega⟩
      case round =>
        obtain ⟨y, rfl, hy⟩ := hrel
        by_cases hy2 : y.size ≤ 300
        · have hy3 : (y.size : Int) ≤ 300 := by omega
          go_wp2_with fail
          refine ⟨⟨⟨#[110]⟩ ++ y, rfl, ?_⟩, ?_⟩
          · simp [ByteArray.size_append]; show 1 + y.size ≤ 301; omega
          · simp [ByteArray.size_append]; show 302 - (1 + y.size) < 302 - y.size; omega
        · have hy3 : decide ((y.size : Int) ≤ 300) = false := by simp; omega
          go_wp2_with fail
          go_ret
          exact ⟨y, q + 1 + 1, rfl, by omega, by omega, unhide D3, x13⟩
    have e2 : ((v : Int) == 2) = false := by simp; omega
    clear h0 h1 h2
    go_wp2_with fail
    go_ret
    exact ⟨_, q + 1 + 1, rfl, by simp [ByteArray.size_append]; omega, by omega, unhide D3, x13⟩
#print axioms l20SecretOr_any
end Go.Proofs.Ytjijfcollmjljaa
/-
  What a reader leaves of rows; what a row leaves of a reader. No Go function in it.
-/
namespace Go.Proofs.Ytjijfcollmjljaa
open Go.RowKit

theorem row_ex {b B : Nat} {w w' : World} {e : TypeId} {size : Nat} {v : Value} {n : Nat} {xs : List Value} (h : w.ownsRow B e size v n xs) (x : Ex b w w') (hb : b < B) : w'.ownsRow B e size v n xs := by
  refine ⟨h.1, h.2.imp id ?_⟩
  rintro ⟨g, cap, cur, h1, h2, h3, h4⟩
  exact ⟨g, cap, cur, h1, h2, (x.block g (Array.getElem?_eq_some_iff.1 h3).1 (by omega)).trans h3, h4⟩
theorem Own.ex {b B : Nat} {w w' : World} {v : Value} {xs : List ByteArray} (h : Own B w v xs) (x : Ex b w w') (hb : b < B) : Own B w' v xs := row_ex h x hb
theorem DrC.grown {b : Nat} {C : Code} {p : Nat} {w w' : World} {r : Option Nat} (h : DrC b C p w) (hg : w.grownBy w' r) (hr : ∀ k, r = some k → b < k) : DrC b C p w' := by
  have hblk : ∀ k, k ≤ b → k < w.heap.size → w'.heap[k]? = w.heap[k]? := fun k hk hl => hg.block k hl (fun e => by have := hr k e.symm; omega)
  obtain ⟨c0, c1, f1, lt, le, row⟩ := h
  have hb := hblk b (Nat.le_refl _) lt
  refine ⟨(World.cell?_of_block (a := ⟨b, 0, none⟩) hb).trans c0, (World.cell?_of_block (a := ⟨b, 1, none⟩) hb).trans c1, (World.frozen?_of_block (a := ⟨b, 1, none⟩) hb).trans f1, Nat.lt_of_lt_of_le lt hg.size, le, ?_⟩
  rcases row with h0 | ⟨x, hx, hxb, hrw⟩
  · exact .inl h0
  · refine .inr ⟨x, hx, hxb, fun i hi => ⟨?_, (hrw i hi).2⟩⟩
    have : (x.add i).block < b := by rw [add_block]; exact hxb
    exact (World.cell?_of_block (a := x.add i) (hblk _ (by omega) (by omega))).trans (hrw i hi).1
theorem Ex.grown {b : Nat} {w0 w w' : World} {r : Option Nat} (h : Ex b w0 w) (hg : w.grownBy w' r) (hr : ∀ k, r = some k → w0.heap.size ≤ k) : Ex b w0 w' :=
  ⟨hg.os.trans h.os, hg.tape.trans h.tape, hg.output.trans h.output, Nat.le_trans h.size hg.size, fun k hk hn => (hg.block k (Nat.lt_of_lt_of_le hk h.size) (fun e => by have := hr k e.symm; omega)).trans (h.block k hk hn)⟩
end Go.Proofs.Ytjijfcollmjljaa
