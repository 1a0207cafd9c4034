/-
  Drawn trees: DrawTreClear, DrawTreSet, DrawTreCover.
-/
import Derived.Test.YticmbajfdpchnaaDrTree
import Derived.Test.YticmbajfdpchnaaDrOpen
import Derived.Test.YticmbajfdpchnaaDrTre
import Derived.Test.YticmbajfdpchnaaRowB
namespace Go.Proofs.Yticmbajfdpchnaa
open Go.RowKit Kw

/-- A tree's row, and what is sure of it. -/
structure TGot (B : Nat) (w : World) (v : Value) (xs : List ByteArray) : Prop where
  row : TRow B w v xs
  small : ∀ x ∈ xs, x.size ≤ 700
  len : xs.length ≤ 16
theorem TGot.below {B : Nat} {w w' : World} {v : Value} {xs : List ByteArray} (h : TGot B w v xs) (hb : Below w.heap.size w w') : TGot B w' v xs := ⟨h.row.below hb, h.small, h.len⟩
theorem TGot.max {B : Nat} {w : World} {v : Value} {xs : List ByteArray} (h : TGot B w v xs) : ∀ x ∈ xs, x.size ≤ maxLen := fun x hx => Nat.le_trans (h.small x hx) (by unfold maxLen; omega)
theorem below_new (w : World) (o : Obj) : Below w.heap.size w (w.alloc o) := (Below.refl _ _).alloc (Nat.le_refl _) o

set_option maxRecDepth 100000 in
set_option maxHeartbeats 4000000 in
theorem DrawTreCover_any (a : Option Addr) (len cap : Nat) (zs : List Int) (w : World) (h : IsRow .u8 w a len cap zs) :
    Calls Try.prog 13 #[.slice a len cap] w fun e w' => ∃ (v : Value) (xs : List ByteArray) (n : Int), e = .returned (.tuple #[.agg #[v], .int .i64 n]) ∧ TGot w.heap.size w' v xs ∧ -1 ≤ n ∧ n ≤ 15 ∧ Below w.heap.size w w' := by
  have hR := hide h
  clear h
  go_enter Try.func13, Try.ntmps13
  go_wp2_with fail
  refine (l20Open_any a len cap zs _ (IsRow.belowR (unhide hR) (below_new w _))).mono ?_
  rintro e w1 ⟨C, rfl, d1, hb1⟩
  rw [World.size_alloc] at d1 hb1
  have hs1 := d1.lt
  have HB1 := hide ((below_new w _).trans (hb1.mono (Nat.le_succ _)))
  have R1 := hide (box_below (Boxed.new w 25 (.slice none 0 0)) (by rw [World.size_alloc]; exact hb1))
  have D1 := hide d1
  clear d1 hb1
  go_wp2_with fail
  refine (l20Tree_any (w.heap.size + 1) C 0 9 _ rfl _ (unhide D1) (by omega) (by omega) (by omega)).mono ?_
  rintro e w2 ⟨u, xs, q, rfl, hrow, hsm, hlen, hq, d2, x2⟩
  obtain ⟨ao, kp, rfl, _, _, _⟩ := hrow.1.form
  have HB2 := hide (HB1.out.trans (x2.below (by omega) HB1.out.size))
  have R2 := hide (box_ex (unhide R1) x2 (by omega))
  have T2 := hide hrow
  have D2 := hide d2
  have SM := hide hsm
  clear d2 x2 D1 R1 HB1 hrow hsm
  go_wp2_with fail
  refine (l20Node_any (w.heap.size + 1) C q _ (unhide D2) (by omega)).mono ?_
  rintro e w3 ⟨n, rfl, hn1, hn2, d3, x3⟩
  have HB3 := hide (HB2.out.trans (x3.below (by omega) HB2.out.size))
  have r3 := box_ex (unhide R2) x3 (by omega)
  have T3 := hide ((unhide T2).ex x3 (by have := (unhide D2).lt; omega))
  have l1 := r3.cell
  have l2 := r3.frozen
  have l3 := (r3.set (.slice ao xs.length kp)).cell
  have Z := hide (TGot.mk (B := w.heap.size) ⟨((unhide T3).box (c := w.heap.size) (fun a l k e => by have := (unhide T3).2 a l k e; omega) (.slice ao xs.length kp)).1, fun a l k e => by have := (unhide T3).2 a l k e; omega⟩ (unhide SM) hlen)
  have HB4 := hide (below_box HB3.out (Nat.le_refl _) (.slice ao xs.length kp))
  clear d3 x3 D2 R2 r3 HB2 HB3 T2
  go_wp2_with fail
  exact bodyPost_ret (v := .tuple #[.agg #[.slice ao xs.length kp], .int .i64 n]) (by simp [results, Try.results13, go_sem, l3]) rfl ⟨_, xs, _, rfl, unhide Z, by omega, by omega, HB4.out⟩
set_option maxRecDepth 100000 in
set_option maxHeartbeats 4000000 in
theorem DrawTreSet_any (a : Option Addr) (len cap : Nat) (zs : List Int) (w : World) (h : IsRow .u8 w a len cap zs) :
    Calls Try.prog 5 #[.slice a len cap] w fun e w' => ∃ (v : Value) (xs : List ByteArray) (n : Int) (s : ByteArray), e = .returned (.tuple #[.agg #[v], .int .i64 n, .string s]) ∧ TGot w.heap.size w' v xs ∧ -1 ≤ n ∧ n ≤ 8 ∧ s.size ≤ 700 ∧ Below w.heap.size w w' := by
  have hR := hide h
  clear h
  go_enter Try.func5, Try.ntmps5
  go_wp2_with fail
  refine (l20Open_any a len cap zs _ (IsRow.belowR (unhide hR) (below_new w _))).mono ?_
  rintro e w1 ⟨C, rfl, d1, hb1⟩
  rw [World.size_alloc] at d1 hb1
  have hs1 := d1.lt
  have HB1 := hide ((below_new w _).trans (hb1.mono (Nat.le_succ _)))
  have R1 := hide (box_below (Boxed.new w 25 (.slice none 0 0)) (by rw [World.size_alloc]; exact hb1))
  have D1 := hide d1
  clear d1 hb1
  go_wp2_with fail
  refine (l20Tree_any (w.heap.size + 1) C 0 9 _ rfl _ (unhide D1) (by omega) (by omega) (by omega)).mono ?_
  rintro e w2 ⟨u, xs, q, rfl, hrow, hsm, hlen, hq, d2, x2⟩
  obtain ⟨ao, kp, rfl, _, _, _⟩ := hrow.1.form
  have HB2 := hide (HB1.out.trans (x2.below (by omega) HB1.out.size))
  have R2 := hide (box_ex (unhide R1) x2 (by omega))
  have T2 := hide hrow
  have D2 := hide d2
  have SM := hide hsm
  clear d2 x2 D1 R1 HB1 hrow hsm
  go_wp2_with fail
  refine (pick_any (w.heap.size + 1) C q 10 _ rfl _ (unhide D2) (by omega) (by omega) (by omega)).mono ?_
  rintro e w3 ⟨n, rfl, hn, d3, x3⟩
  have HB3 := hide (HB2.out.trans (x3.below (by omega) HB2.out.size))
  have R3 := hide (box_ex (unhide R2) x3 (by omega))
  have T3 := hide ((unhide T2).ex x3 (by have := (unhide D2).lt; omega))
  have i3 : IntKind.i64.wrap ((n : Int) - 1) = (n : Int) - 1 := by simp [IntKind.wrap, IntKind.bits, IntKind.signed]; omega
  have D3 := hide d3
  clear d3 x3 D2 R2 HB2 T2
  go_wp2_with fail
  refine (l20SecretOr_any (w.heap.size + 1) C (q + 1) 9 _ rfl _ (unhide D3) (by omega) (by omega) (by omega)).mono ?_
  rintro e w4 ⟨s, q4, rfl, hs, hq4, d4, x4⟩
  have HB5 := hide (HB3.out.trans (x4.below (by omega) HB3.out.size))
  have r3 := box_ex (unhide R3) x4 (by omega)
  have T4 := hide ((unhide T3).ex x4 (by have := (unhide D3).lt; omega))
  have l1 := r3.cell
  have l2 := r3.frozen
  have l3 := (r3.set (.slice ao xs.length kp)).cell
  have Z := hide (TGot.mk (B := w.heap.size) ⟨((unhide T4).box (c := w.heap.size) (fun a l k e => by have := (unhide T4).2 a l k e; omega) (.slice ao xs.length kp)).1, fun a l k e => by have := (unhide T4).2 a l k e; omega⟩ (unhide SM) hlen)
  have HB4 := hide (below_box HB5.out (Nat.le_refl _) (.slice ao xs.length kp))
  clear d4 x4 D3 R3 r3 HB3 HB5 T3
  go_wp2_with fail
  exact bodyPost_ret (v := .tuple #[.agg #[.slice ao xs.length kp], .int .i64 ((n : Int) - 1), .string s]) (by simp [results, Try.results5, go_sem, l3]) rfl ⟨_, xs, _, s, rfl, unhide Z, by omega, by omega, hs, HB4.out⟩
#print axioms DrawTreCover_any
#print axioms DrawTreSet_any
end Go.Proofs.Yticmbajfdpchnaa
