/-
  The program's SecMade: what it answers, as a plain function of the text.
-/
import Derived.Test.YtkcopldlobomhaaSec
import Derived.Test.YtkcopldlobomhaaClone
import Derived.Deep.RegionWith
namespace Go.Proofs.Ytkcopldlobomhaa
open Go.RowKit

theorem bcell {W w1 : World} (hb : Below W.heap.size W w1) : (∀ b o, b < W.heap.size → w1.cell? ⟨b, o, none⟩ = W.cell? ⟨b, o, none⟩) ∧ (∀ b o, b < W.heap.size → w1.frozen? ⟨b, o, none⟩ = W.frozen? ⟨b, o, none⟩) :=
  ⟨fun b o h => hb.cell (p := ⟨b, o, none⟩) h, fun b o h => hb.frozen (p := ⟨b, o, none⟩) h⟩

/-- A struct that tells how a secret was made. -/
def howV (op who n : Int) (a b : ByteArray) : Value := .agg #[.int .i64 op, .int .i64 who, .int .i64 n, .string a, .string b]

theorem ta_new (x : Value) (w : World) : (Instr.typeAssert (.iface 114 x) 70 114 true).run Try.prog w = .ok (.tuple #[x, .bool true]) w := by kernel_rfl
theorem ta_next (x : Value) (w : World) : (Instr.typeAssert (.iface 92 x) 70 92 true).run Try.prog w = .ok (.tuple #[x, .bool true]) w := by kernel_rfl
theorem ta_key (x : Value) (w : World) : (Instr.typeAssert (.iface 61 x) 70 61 true).run Try.prog w = .ok (.tuple #[x, .bool true]) w := by kernel_rfl
theorem ta_epoch (x : Value) (w : World) : (Instr.typeAssert (.iface 105 x) 70 105 true).run Try.prog w = .ok (.tuple #[x, .bool true]) w := by kernel_rfl
theorem ta_say (x : Value) (w : World) : (Instr.typeAssert (.iface 109 x) 70 109 true).run Try.prog w = .ok (.tuple #[x, .bool true]) w := by kernel_rfl
theorem ta_room (x : Value) (w : World) : (Instr.typeAssert (.iface 112 x) 70 112 true).run Try.prog w = .ok (.tuple #[x, .bool true]) w := by kernel_rfl
theorem ta_next_new (x : Value) (w : World) : (Instr.typeAssert (.iface 92 x) 70 114 true).run Try.prog w = .ok (.tuple #[.agg #[.int .i64 0, .int .i64 0], .bool false]) w := by kernel_rfl
theorem ta_key_new (x : Value) (w : World) : (Instr.typeAssert (.iface 61 x) 70 114 true).run Try.prog w = .ok (.tuple #[.agg #[.int .i64 0, .int .i64 0], .bool false]) w := by kernel_rfl
theorem ta_key_next (x : Value) (w : World) : (Instr.typeAssert (.iface 61 x) 70 92 true).run Try.prog w = .ok (.tuple #[.agg #[.string ⟨#[]⟩], .bool false]) w := by kernel_rfl
theorem ta_epoch_new (x : Value) (w : World) : (Instr.typeAssert (.iface 105 x) 70 114 true).run Try.prog w = .ok (.tuple #[.agg #[.int .i64 0, .int .i64 0], .bool false]) w := by kernel_rfl
theorem ta_epoch_next (x : Value) (w : World) : (Instr.typeAssert (.iface 105 x) 70 92 true).run Try.prog w = .ok (.tuple #[.agg #[.string ⟨#[]⟩], .bool false]) w := by kernel_rfl
theorem ta_epoch_key (x : Value) (w : World) : (Instr.typeAssert (.iface 105 x) 70 61 true).run Try.prog w = .ok (.tuple #[.agg #[.string ⟨#[]⟩], .bool false]) w := by kernel_rfl
theorem ta_say_new (x : Value) (w : World) : (Instr.typeAssert (.iface 109 x) 70 114 true).run Try.prog w = .ok (.tuple #[.agg #[.int .i64 0, .int .i64 0], .bool false]) w := by kernel_rfl
theorem ta_say_next (x : Value) (w : World) : (Instr.typeAssert (.iface 109 x) 70 92 true).run Try.prog w = .ok (.tuple #[.agg #[.string ⟨#[]⟩], .bool false]) w := by kernel_rfl
theorem ta_say_key (x : Value) (w : World) : (Instr.typeAssert (.iface 109 x) 70 61 true).run Try.prog w = .ok (.tuple #[.agg #[.string ⟨#[]⟩], .bool false]) w := by kernel_rfl
theorem ta_say_epoch (x : Value) (w : World) : (Instr.typeAssert (.iface 109 x) 70 105 true).run Try.prog w = .ok (.tuple #[.agg #[.string ⟨#[]⟩, .string ⟨#[]⟩], .bool false]) w := by kernel_rfl
theorem ta_room_new (x : Value) (w : World) : (Instr.typeAssert (.iface 112 x) 70 114 true).run Try.prog w = .ok (.tuple #[.agg #[.int .i64 0, .int .i64 0], .bool false]) w := by kernel_rfl
theorem ta_room_next (x : Value) (w : World) : (Instr.typeAssert (.iface 112 x) 70 92 true).run Try.prog w = .ok (.tuple #[.agg #[.string ⟨#[]⟩], .bool false]) w := by kernel_rfl
theorem ta_room_key (x : Value) (w : World) : (Instr.typeAssert (.iface 112 x) 70 61 true).run Try.prog w = .ok (.tuple #[.agg #[.string ⟨#[]⟩], .bool false]) w := by kernel_rfl
theorem ta_room_epoch (x : Value) (w : World) : (Instr.typeAssert (.iface 112 x) 70 105 true).run Try.prog w = .ok (.tuple #[.agg #[.string ⟨#[]⟩, .string ⟨#[]⟩], .bool false]) w := by kernel_rfl
theorem ta_room_say (x : Value) (w : World) : (Instr.typeAssert (.iface 112 x) 70 109 true).run Try.prog w = .ok (.tuple #[.agg #[.string ⟨#[]⟩, .int .i64 0], .bool false]) w := by kernel_rfl

/-- A block of the call's own that holds a struct as it begins. -/
structure Res5 (b : Nat) (w : World) : Prop where
  c0 : w.cell? ⟨b, 0, none⟩ = some (.int .i64 0)
  c1 : w.cell? ⟨b, 1, none⟩ = some (.int .i64 0)
  c2 : w.cell? ⟨b, 2, none⟩ = some (.int .i64 0)
  c3 : w.cell? ⟨b, 3, none⟩ = some (.string ⟨#[]⟩)
  c4 : w.cell? ⟨b, 4, none⟩ = some (.string ⟨#[]⟩)
  z0 : w.frozen? ⟨b, 0, none⟩ = false
  z1 : w.frozen? ⟨b, 1, none⟩ = false
  z2 : w.frozen? ⟨b, 2, none⟩ = false
  z3 : w.frozen? ⟨b, 3, none⟩ = false
  z4 : w.frozen? ⟨b, 4, none⟩ = false
theorem Res5.keep {b : Nat} {W w1 : World} (h : Res5 b W) (hb : Below W.heap.size W w1) (hlt : b < W.heap.size) : Res5 b w1 :=
  ⟨(hb.cell (p := ⟨b, 0, none⟩) hlt).trans h.c0, (hb.cell (p := ⟨b, 1, none⟩) hlt).trans h.c1, (hb.cell (p := ⟨b, 2, none⟩) hlt).trans h.c2, (hb.cell (p := ⟨b, 3, none⟩) hlt).trans h.c3, (hb.cell (p := ⟨b, 4, none⟩) hlt).trans h.c4,
   (hb.frozen (p := ⟨b, 0, none⟩) hlt).trans h.z0, (hb.frozen (p := ⟨b, 1, none⟩) hlt).trans h.z1, (hb.frozen (p := ⟨b, 2, none⟩) hlt).trans h.z2, (hb.frozen (p := ⟨b, 3, none⟩) hlt).trans h.z3, (hb.frozen (p := ⟨b, 4, none⟩) hlt).trans h.z4⟩
theorem keep1 {W w1 : World} {b o : Nat} {v : Value} (hb : Below W.heap.size W w1) (h : W.cell? ⟨b, o, none⟩ = some v) (hlt : b < W.heap.size) : w1.cell? ⟨b, o, none⟩ = some v := (hb.cell (p := ⟨b, o, none⟩) hlt).trans h

theorem below5 {B : Nat} {w w1 : World} (h : Below B w w1) {b : Nat} (hb : B ≤ b) (v0 v1 v2 v3 v4 : Value) :
    Below B w (((((w1.setCell ⟨b, 0, none⟩ v0).setCell ⟨b, 1, none⟩ v1).setCell ⟨b, 2, none⟩ v2).setCell ⟨b, 3, none⟩ v3).setCell ⟨b, 4, none⟩ v4) :=
  ((((h.setCell (p := ⟨b, 0, none⟩) hb v0).setCell (p := ⟨b, 1, none⟩) hb v1).setCell (p := ⟨b, 2, none⟩) hb v2).setCell (p := ⟨b, 3, none⟩) hb v3).setCell (p := ⟨b, 4, none⟩) hb v4

set_option maxRecDepth 100000 in
set_option maxHeartbeats 400000 in
theorem howOf_new (who n : Int) (w : World) :
    Calls Try.prog 85 #[.iface 114 (.agg #[.int .i64 who, .int .i64 n])] w fun e w' => e = .returned (howV 1 who n ⟨#[]⟩ ⟨#[]⟩) ∧ Below w.heap.size w w' := by
  have fy := ta_new
  go_enter Try.func85, Try.ntmps85
  go_wp2_with fail
  refine bodyPost_ret (v := howV 1 who n ⟨#[]⟩ ⟨#[]⟩) (by simp [results, Try.results85, go_sem, howV]) rfl ⟨rfl, ?_⟩
  exact ((Below.refl _ _).alloc (Nat.le_refl _) _).alloc (by simp) _

set_option maxRecDepth 100000 in
set_option maxHeartbeats 400000 in
theorem howOf_next (x : ByteArray) (hx : x.size ≤ 300) (w : World) :
    Calls Try.prog 85 #[.iface 92 (.agg #[.string x])] w fun e w' => e = .returned (howV 2 0 0 x ⟨#[]⟩) ∧ Below w.heap.size w w' := by
  have f0 := ta_next_new
  have fy := ta_next
  go_enter Try.func85, Try.ntmps85
  go_wp2_with fail
  refine (clone_any x _ (by omega)).mono ?_
  rintro e w1 ⟨rfl, hb1⟩
  obtain ⟨c0, c1, c2, c3, c4, z0, z1, z2, z3, z4⟩ := Res5.keep (b := w.heap.size) (by constructor <;> simp [go_sem]) hb1 (by simp; omega)
  have hbb : Below w.heap.size w w1 := (((Below.refl w.heap.size w).alloc (Nat.le_refl _) _).alloc (by simp) _).trans (hb1.mono (by simp; omega))
  clear hb1
  go_wp2_with fail
  refine bodyPost_ret (v := howV 2 0 0 x ⟨#[]⟩) (by simp [results, Try.results85, go_sem, howV, c0, c1, c2, c3, c4]) rfl ⟨rfl, ?_⟩
  exact below5 hbb (Nat.le_refl _) _ _ _ _ _

set_option maxRecDepth 100000 in
set_option maxHeartbeats 400000 in
theorem howOf_key (x : ByteArray) (hx : x.size ≤ 300) (w : World) :
    Calls Try.prog 85 #[.iface 61 (.agg #[.string x])] w fun e w' => e = .returned (howV 3 0 0 x ⟨#[]⟩) ∧ Below w.heap.size w w' := by
  have f0 := ta_key_new
  have f1 := ta_key_next
  have fy := ta_key
  go_enter Try.func85, Try.ntmps85
  go_wp2_with fail
  refine (clone_any x _ (by omega)).mono ?_
  rintro e w1 ⟨rfl, hb1⟩
  obtain ⟨c0, c1, c2, c3, c4, z0, z1, z2, z3, z4⟩ := Res5.keep (b := w.heap.size) (by constructor <;> simp [go_sem]) hb1 (by simp; omega)
  have hbb : Below w.heap.size w w1 := (((Below.refl w.heap.size w).alloc (Nat.le_refl _) _).alloc (by simp) _).trans (hb1.mono (by simp; omega))
  clear hb1
  go_wp2_with fail
  refine bodyPost_ret (v := howV 3 0 0 x ⟨#[]⟩) (by simp [results, Try.results85, go_sem, howV, c0, c1, c2, c3, c4]) rfl ⟨rfl, ?_⟩
  exact below5 hbb (Nat.le_refl _) _ _ _ _ _

set_option maxRecDepth 100000 in
set_option maxHeartbeats 1000000 in
theorem howOf_say (x : ByteArray) (n : Int) (hx : x.size ≤ 300) (w : World) :
    Calls Try.prog 85 #[.iface 109 (.agg #[.string x, .int .i64 n])] w fun e w' => e = .returned (howV 5 n 0 x ⟨#[]⟩) ∧ Below w.heap.size w w' := by
  have f0 := ta_say_new
  have f1 := ta_say_next
  have f2 := ta_say_key
  have f3 := ta_say_epoch
  have fy := ta_say
  have hx2 : x.size ≤ 1000000 := by omega
  go_enter Try.func85, Try.ntmps85
  go_wp2_with fail
  go_region_with (go_at_call 28; refine (clone_any x _ hx2).mono ?_; rintro e w1 ⟨rfl, hb1⟩; obtain ⟨c0, c1, c2, c3, c4, z0, z1, z2, z3, z4⟩ := Res5.keep (b := w.heap.size) (by constructor <;> simp [go_sem]) hb1 (by simp; omega); have d1 := keep1 (b := w.heap.size + 1) (o := 1) (v := .int .i64 n) hb1 (by simp [go_sem]) (by simp); have hbb : Below w.heap.size w w1 := (((Below.refl w.heap.size w).alloc (Nat.le_refl _) _).alloc (by simp) _).drew.trans (hb1.mono (by simp; omega)); clear hb1)
  all_goals go_wp2_with fail
  all_goals exact bodyPost_ret (v := howV 5 n 0 x ⟨#[]⟩) (by simp [results, Try.results85, go_sem, howV, c0, c1, c2, c3, c4]) rfl ⟨rfl, below5 hbb (Nat.le_refl _) _ _ _ _ _⟩

set_option maxRecDepth 100000 in
set_option maxHeartbeats 1000000 in
theorem howOf_room (x : ByteArray) (n : Int) (hx : x.size ≤ 300) (w : World) :
    Calls Try.prog 85 #[.iface 112 (.agg #[.string x, .int .i64 n])] w fun e w' => e = .returned (howV 6 0 n x ⟨#[]⟩) ∧ Below w.heap.size w w' := by
  have f0 := ta_room_new
  have f1 := ta_room_next
  have f2 := ta_room_key
  have f3 := ta_room_epoch
  have f4 := ta_room_say
  have fy := ta_room
  have hx2 : x.size ≤ 1000000 := by omega
  go_enter Try.func85, Try.ntmps85
  go_wp2_with fail
  go_region_with (go_at_call 28; refine (clone_any x _ hx2).mono ?_; rintro e w1 ⟨rfl, hb1⟩; obtain ⟨c0, c1, c2, c3, c4, z0, z1, z2, z3, z4⟩ := Res5.keep (b := w.heap.size) (by constructor <;> simp [go_sem]) hb1 (by simp; omega); have d1 := keep1 (b := w.heap.size + 1) (o := 1) (v := .int .i64 n) hb1 (by simp [go_sem]) (by simp); have hbb : Below w.heap.size w w1 := (((Below.refl w.heap.size w).alloc (Nat.le_refl _) _).alloc (by simp) _).drew.trans (hb1.mono (by simp; omega)); clear hb1)
  all_goals go_wp2_with fail
  all_goals exact bodyPost_ret (v := howV 6 0 n x ⟨#[]⟩) (by simp [results, Try.results85, go_sem, howV, c0, c1, c2, c3, c4]) rfl ⟨rfl, below5 hbb (Nat.le_refl _) _ _ _ _ _⟩

set_option maxRecDepth 100000 in
set_option maxHeartbeats 2000000 in
theorem howOf_epoch (x y : ByteArray) (hx : x.size ≤ 300) (hy : y.size ≤ 300) (w : World) :
    Calls Try.prog 85 #[.iface 105 (.agg #[.string x, .string y])] w fun e w' => e = .returned (howV 4 0 0 x y) ∧ Below w.heap.size w w' := by
  have f0 := ta_epoch_new
  have f1 := ta_epoch_next
  have f2 := ta_epoch_key
  have fy := ta_epoch
  have hx2 : x.size ≤ 1000000 := by omega
  have hy2 : y.size ≤ 1000000 := by omega
  go_enter Try.func85, Try.ntmps85
  go_wp2_with fail
  go_region_with (first
    | (go_at_call_of 28 (Value.string x); refine (clone_any x _ hx2).mono ?_; rintro e w1 ⟨rfl, hb1⟩; obtain ⟨c0, c1, c2, c3, c4, z0, z1, z2, z3, z4⟩ := Res5.keep (b := w.heap.size) (by constructor <;> simp [go_sem]) hb1 (by simp; omega); have d1 := keep1 (b := w.heap.size + 1) (o := 1) (v := .string y) hb1 (by simp [go_sem]) (by simp); have hsz : w.heap.size < w1.heap.size := (by have := hb1.size; simp at this; omega); have hbb : Below w.heap.size w w1 := (((Below.refl w.heap.size w).alloc (Nat.le_refl _) _).alloc (by simp) _).drew.trans (hb1.mono (by simp; omega)); clear hb1)
    | (go_at_call_of 28 (Value.string y); refine (clone_any y _ hy2).mono ?_; rintro e w2 ⟨rfl, hb2⟩; obtain ⟨k0, k1, k2, k3, k4, y0, y1, y2, y3, y4⟩ := Res5.keep (b := w.heap.size) ⟨c0, c1, c2, c3, c4, z0, z1, z2, z3, z4⟩ hb2 hsz; have hbc : Below w.heap.size w w2 := hbb.trans (hb2.mono (Nat.le_of_lt hsz)); clear hb2))
  all_goals go_wp2_with fail
  all_goals exact bodyPost_ret (v := howV 4 0 0 x y) (by simp [results, Try.results85, go_sem, howV, k0, k1, k2, k3, k4]) rfl ⟨rfl, below5 hbc (Nat.le_refl _) _ _ _ _ _⟩

end Go.Proofs.Ytkcopldlobomhaa
