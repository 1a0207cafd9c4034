/-
  Contracts of the functions that draw texts, right and wrong ones, from a code.
-/
import Derived.Test.YticmbajfdpchnaaDraw2
import Derived.Test.YticmbajfdpchnaaDrOpen
import Derived.Test.YticmbajfdpchnaaDrawO
namespace Go.Proofs.Yticmbajfdpchnaa
open Go.RowKit

set_option maxHeartbeats 2000000 in
theorem l20Bent_any (b : Nat) (C : Code) (p : Nat) (s : ByteArray) (hs : s.size ≤ 300) (w : World) (h : DrC b C p w) (hp : p + 4 ≤ 1000000) :
    Calls Try.prog 48 #[.pointer (some ⟨b, 0, none⟩), .string s] w (StrPost b C p 4 700 w) := by
  have hD := hide h
  have hcv := conv1
  clear h
  go_enter Try.func48, Try.ntmps48
  go_wp2_with fail
  refine (pick_any b C p (s.size + 1) _ (by simp) _ (unhide hD) (by omega) (by omega) (by omega)).mono ?_
  rintro e w1 ⟨k, rfl, hk, d1, x1⟩
  have D1 := hide d1
  clear d1
  go_wp2_with fail
  refine (pick_any b C (p + 1) 256 _ rfl _ (unhide D1) (by omega) (by omega) (by omega)).mono ?_
  rintro e w2 ⟨v2, rfl, hv2, d2, x2⟩
  have D2 := hide d2
  have x12 := x1.trans x2
  have hlt2 := d2.lt
  clear d2 x1 x2 D1
  go_wp2_with fail
  refine (pick_any b C (p + 1 + 1) 10 _ rfl _ ((unhide D2).alloc _) (by omega) (by omega) (by omega)).mono ?_
  rintro e w3 ⟨v3, rfl, hv3, d3, x3⟩
  have hu : ∃ u : Int, w3.cell? ⟨w2.heap.size, v3, none⟩ = some (.int .i64 u) ∧ 0 ≤ u ∧ u ≤ 255 := by
    rw [x3.cell (p := ⟨w2.heap.size, v3, none⟩) (by simp) (by show w2.heap.size ≠ b; omega)]
    match v3, hv3 with
    | 0, _ => exact ⟨32, by simp [go_sem], by omega, by omega⟩
    | 1, _ => exact ⟨48, by simp [go_sem], by omega, by omega⟩
    | 2, _ => exact ⟨49, by simp [go_sem], by omega, by omega⟩
    | 3, _ => exact ⟨57, by simp [go_sem], by omega, by omega⟩
    | 4, _ => exact ⟨59, by simp [go_sem], by omega, by omega⟩
    | 5, _ => exact ⟨110, by simp [go_sem], by omega, by omega⟩
    | 6, _ => exact ⟨101, by simp [go_sem], by omega, by omega⟩
    | 7, _ => exact ⟨65, by simp [go_sem], by omega, by omega⟩
    | 8, _ => exact ⟨73, by simp [go_sem], by omega, by omega⟩
    | 9, _ => exact ⟨(v2 : Int), by simp [go_sem], by omega, by omega⟩
    | v + 10, hv => omega
  obtain ⟨u, hu1, hu2, hu3⟩ := hu
  have x13 := (x12.alloc _).trans x3
  have D3 := hide d3
  have hlt3 := d3.lt
  have hv3' : (v3 : Int) < 10 := by omega
  clear d3 x3 x12 D2 hv3
  go_wp2_with fail
  refine (pick_any b C (p + 1 + 1 + 1) 3 _ rfl _ ((unhide D3).alloc _) (by omega) (by omega) (by omega)).mono ?_
  rintro e w4 ⟨v4, rfl, hv4, d4, x4⟩
  have x14 := (x13.alloc _).trans x4
  have D4 := hide d4
  clear d4 x4 x13 D3 hu1
  generalize hcc : by1 u.toNat = c
  have hcs : c.size = 1 := by rw [← hcc]; rfl
  clear hcc
  by_cases h0 : v4 = 0
  · subst h0
    have i1 : (k : Int) ≤ (s.size : Int) := by omega
    go_wp2_with fail
    go_quiet (fail)
    go_wp2_with fail
    go_ret
    exact ⟨_, p + 1 + 1 + 1 + 1, rfl, by simp [ByteArray.size_append, ByteArray.size_extract]; omega, by omega, (unhide D4).drewN _, x14.drewN _⟩
  have e0 : ((v4 : Int) == 0) = false := by simp; omega
  by_cases h1 : v4 = 1
  · subst h1
    by_cases hks : k < s.size
    · have i1 : (k : Int) < (s.size : Int) := by omega
      have i2 : (k : Int) ≤ (s.size : Int) := by omega
      have i3 : (k : Int) + 1 ≤ (s.size : Int) := by omega
      go_wp2_with fail
      go_quiet (fail)
      go_wp2_with fail
      go_ret
      exact ⟨_, p + 1 + 1 + 1 + 1, rfl, by simp [ByteArray.size_append, ByteArray.size_extract]; omega, by omega, (unhide D4).drewN _, x14.drewN _⟩
    · have i1 : decide ((k : Int) < (s.size : Int)) = false := by simp; omega
      go_wp2_with fail
      go_ret
      exact ⟨_, p + 1 + 1 + 1 + 1, rfl, by omega, by omega, unhide D4, x14⟩
  have e1 : ((v4 : Int) == 1) = false := by simp; omega
  clear h0 h1
  by_cases hks : k < s.size
  · have i1 : (k : Int) < (s.size : Int) := by omega
    have i2 : (k : Int) ≤ (s.size : Int) := by omega
    have i3 : (k : Int) + 1 ≤ (s.size : Int) := by omega
    go_wp2_with fail
    go_quiet (fail)
    go_wp2_with fail
    go_ret
    exact ⟨_, p + 1 + 1 + 1 + 1, rfl, by simp [ByteArray.size_append, ByteArray.size_extract]; omega, by omega, (unhide D4).drewN _, x14.drewN _⟩
  · have i1 : decide ((k : Int) < (s.size : Int)) = false := by simp; omega
    go_wp2_with fail
    go_ret
    exact ⟨_, p + 1 + 1 + 1 + 1, rfl, by omega, by omega, unhide D4, x14⟩

set_option maxRecDepth 100000 in
set_option maxHeartbeats 2000000 in
theorem l20SecretOr_any (b : Nat) (C : Code) (p n : Nat) (m : Int) (hm : m = (n : Int)) (w : World) (h : DrC b C p w) (hn : 1 ≤ n) (hn2 : n ≤ 1000) (hp : p + 100 ≤ 1000000) :
    Calls Try.prog 23 #[.pointer (some ⟨b, 0, none⟩), .int .i64 m] w (StrPost b C p 100 700 w) := by
  subst hm
  have hD := hide h
  have hk4 : Kd 4 = 77 := rfl
  have H4 := l20Secret_any b C 4 (by omega)
  clear h
  go_enter Try.func23, Try.ntmps23
  go_wp2_with fail
  refine (H4 _ p _ rfl (unhide hD) (by omega)).mono ?_
  rintro e w1 ⟨s, q, rfl, hs, hq, d1, x1⟩
  have D1 := hide d1
  clear d1 H4
  rw [hk4] at hq
  clear hk4
  go_wp2_with fail
  refine (odd_any b C q n _ rfl _ (unhide D1) hn hn2 (by omega)).mono ?_
  rintro e w2 ⟨c, rfl, d2, x2⟩
  have D2 := hide d2
  have x12 := x1.trans x2
  clear d2 x1 x2 D1
  cases c with
  | false =>
    go_wp2_with fail
    go_ret
    exact ⟨s, q + 1, rfl, by omega, by omega, unhide D2, x12⟩
  | true =>
    go_wp2_with fail
    refine (pick_any b C (q + 1) 4 _ rfl _ (unhide D2) (by omega) (by omega) (by omega)).mono ?_
    rintro e w3 ⟨v, rfl, hv, d3, x3⟩
    have D3 := hide d3
    have hlt3 := d3.lt
    have x13 := x12.trans x3
    clear d3 x3 x12 D2
    by_cases h0 : v = 0
    · subst h0
      go_wp2_with fail
      refine (l20Bent_any b C (q + 1 + 1) s hs _ (unhide D3) (by omega)).mono ?_
      rintro e w4 ⟨s4, q4, rfl, hs4, hq4, d4, x4⟩
      go_wp2_with fail
      go_ret
      exact ⟨s4, q4, rfl, hs4, by omega, d4, x13.trans x4⟩
    have e0 : ((v : Int) == 0) = false := by simp; omega
    by_cases h1 : v = 1
    · subst h1
      go_wp2_with fail
      refine (pick_any b C (q + 1 + 1) 13 _ rfl _ ((unhide D3).alloc _) (by omega) (by omega) (by omega)).mono ?_
      rintro e w4 ⟨k, rfl, hk, d4, x4⟩
      have hu : ∃ u : ByteArray, w4.cell? ⟨w3.heap.size, k, none⟩ = some (.string u) ∧ u.size ≤ 300 := by
        rw [x4.cell (p := ⟨w3.heap.size, k, none⟩) (by simp) (by show w3.heap.size ≠ b; omega)]
        match k, hk with
        | 0, _ => exact ⟨_, by simp [go_sem]; rfl, by decide⟩
        | 1, _ => exact ⟨_, by simp [go_sem]; rfl, by decide⟩
        | 2, _ => exact ⟨_, by simp [go_sem]; rfl, by decide⟩
        | 3, _ => exact ⟨_, by simp [go_sem]; rfl, by decide⟩
        | 4, _ => exact ⟨_, by simp [go_sem]; rfl, by decide⟩
        | 5, _ => exact ⟨_, by simp [go_sem]; rfl, by decide⟩
        | 6, _ => exact ⟨_, by simp [go_sem]; rfl, by decide⟩
        | 7, _ => exact ⟨_, by simp [go_sem]; rfl, by decide⟩
        | 8, _ => exact ⟨_, by simp [go_sem]; rfl, by decide⟩
        | 9, _ => exact ⟨_, by simp [go_sem]; rfl, by decide⟩
        | 10, _ => exact ⟨_, by simp [go_sem]; rfl, by decide⟩
        | 11, _ => exact ⟨_, by simp [go_sem]; rfl, by decide⟩
        | 12, _ => exact ⟨_, by simp [go_sem]; rfl, by decide⟩
        | k + 13, hk => omega
      obtain ⟨u, hu1, hu2⟩ := hu
      have x14 := (x13.alloc _).trans x4
      have D4 := hide d4
      have hk' : (k : Int) < 13 := by omega
      clear d4 x4 x13 D3 hk
      go_wp2_with fail
      go_ret
      exact ⟨u, q + 1 + 1 + 1, rfl, by omega, by omega, unhide D4, x14⟩
    have e1 : ((v : Int) == 1) = false := by simp; omega
    by_cases h2 : v = 2
    · subst h2
      clear h0 h1
      go_wp2_with fail
      go_loop [5] (fun t => ∃ y : ByteArray, t = .string y ∧ y.size ≤ 301) (fun t => match t with | .string y => 302 - y.size | _ => 0)
      case atStart => exact ⟨s, rfl, by omega⟩
      case round =>
        obtain ⟨y, rfl, hy⟩ := hrel
        by_cases hy2 : y.size ≤ 300
        · have hy3 : (y.size : Int) ≤ 300 := by omega
          go_wp2_with fail
          refine ⟨⟨⟨#[110]⟩ ++ y, rfl, ?_⟩, ?_⟩
          · simp [ByteArray.size_append]; show 1 + y.size ≤ 301; omega
          · simp [ByteArray.size_append]; show 302 - (1 + y.size) < 302 - y.size; omega
        · have hy3 : decide ((y.size : Int) ≤ 300) = false := by simp; omega
          go_wp2_with fail
          go_ret
          exact ⟨y, q + 1 + 1, rfl, by omega, by omega, unhide D3, x13⟩
    have e2 : ((v : Int) == 2) = false := by simp; omega
    clear h0 h1 h2
    go_wp2_with fail
    go_ret
    exact ⟨_, q + 1 + 1, rfl, by simp [ByteArray.size_append]; omega, by omega, unhide D3, x13⟩
#print axioms l20SecretOr_any
end Go.Proofs.Yticmbajfdpchnaa
