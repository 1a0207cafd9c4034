/-
  The spec's places: TreLeaf, TreSide, TreMeet, TreUp.
-/
import Derived.Test.YtkcopldlobomhaaTreP
import Derived.Test.YtkcopldlobomhaaIn
import Derived.Test.YtkcopldlobomhaaIntR
import Derived.Deep.RegionHeld3
namespace Go.Proofs.Ytkcopldlobomhaa
open Go.RowKit

set_option maxHeartbeats 400000 in
theorem sTreLeaf_any (who : Int) (w : World) :
    Calls Try.prog 35 #[.int .i64 who] w fun e w' => e = .returned (.int .i64 (leafOf who)) ∧ w' = w := by
  by_cases h : 0 ≤ who ∧ who ≤ 7
  · obtain ⟨h1, h2⟩ := h
    have hl : leafOf who = 7 + who := by unfold leafOf; rw [if_pos ⟨h1, h2⟩]
    rw [hl]
    have HH := hide hl
    clear hl
    have i3 : IntKind.i64.wrap (7 + who) = 7 + who := by simp [IntKind.wrap, IntKind.bits, IntKind.signed]; omega
    go_enter Try.func35, Try.ntmps35
    go_wp2_with fail
    refine (l1In_yes _ _ _ _ (by omega) (by omega)).mono ?_
    rintro e w1 ⟨rfl, rfl⟩
    go_wp2_with fail
    go_ret
    exact ⟨rfl, rfl⟩
  · have hl : leafOf who = -1 := by unfold leafOf; rw [if_neg h]
    rw [hl]
    have HH := hide h
    clear hl h
    go_enter Try.func35, Try.ntmps35
    go_wp2_with fail
    refine (l1In_no _ _ _ _ (by have := HH.out; omega)).mono ?_
    rintro e w1 ⟨rfl, rfl⟩
    go_wp2_with fail
    go_ret
    exact ⟨rfl, rfl⟩

theorem half_wrap (x : Nat) (h0 : 0 < x) (h : x < 15) : IntKind.i64.wrap ((x : Int) - 1) = (x : Int) - 1 ∧ IntKind.i64.wrap (((x : Int) - 1).tdiv 2) = (((x - 1) / 2 : Nat) : Int) := by
  constructor
  · simp [IntKind.wrap, IntKind.bits, IntKind.signed]; omega
  · rw [show ((x : Int) - 1) = ((x - 1 : Nat) : Int) by omega, Int.tdiv_eq_ediv_of_nonneg (by omega)]
    have : ((x - 1 : Nat) : Int) / 2 = (((x - 1) / 2 : Nat) : Int) := by omega
    rw [this]
    simp [IntKind.wrap, IntKind.bits, IntKind.signed]
    omega

set_option maxRecDepth 100000 in
set_option maxHeartbeats 4000000 in
theorem sTreUp_any (n : Int) (w : World) :
    Calls Try.prog 56 #[.int .i64 n] w fun e w' => ∃ v, e = .returned v ∧ OwnI w.heap.size w' v (upOf n) ∧ Below w.heap.size w w' := by
  obtain ⟨i0, hi, hz0, hz1, hz2⟩ := info_parts info_int2
  have hI := hide (And.intro hi (And.intro hz0 (And.intro hz1 hz2)))
  clear hi hz0 hz1 hz2
  have hO0 : Hid (OwnI w.heap.size (w.alloc (Obj.cells #[] 3)) (.slice (some ⟨w.heap.size, 0, none⟩) 0 0) []) := by
    have h := World.ownsRow_lit (base := w.heap.size) (e := 3) (size := 1) w #[] 0 (Nat.le_refl _) (by unfold maxLen; omega) rfl
    exact h
  have hL0 := hide ((Below.refl w.heap.size w).alloc (Nat.le_refl _) (Obj.cells #[] 3))
  by_cases h : 0 ≤ n ∧ n ≤ 14
  · obtain ⟨x, rfl⟩ : ∃ k : Nat, n = (k : Int) := ⟨n.toNat, by omega⟩
    have hx : x < 15 := by omega
    have hl : Hid (upOf (x : Int) = (ups x).map (fun (k : Nat) => (k : Int))) := by show upOf (x : Int) = _; unfold upOf; rw [if_pos h]; rfl
    clear h
    go_enter Try.func56, Try.ntmps56
    go_wp2_with fail
    refine (l1In_yes _ _ _ _ (by omega) (by omega)).mono ?_
    rintro e w1 ⟨rfl, rfl⟩
    go_wp2_with fail
    go_loopw [3, 4] (fun o i wr => ∃ (k : Nat) (out : List Int), k < 15 ∧ i = .int .i64 (k : Int) ∧ Hid (OwnI w.heap.size wr o out) ∧ Hid (Below w.heap.size w wr) ∧ Hid (out ++ (ups k).map (fun (k : Nat) => (k : Int)) = (ups x).map (fun (k : Nat) => (k : Int)))) (fun _ i _ => (intOf i).toNat)
    case atStart => exact ⟨x, [], hx, rfl, hO0, hL0, rfl⟩
    case round =>
      clear hO0 hL0
      obtain ⟨k, out, hk, rfl, hO, hL, hU⟩ := hrel
      have hle := hL.out.size
      have hol : out.length ≤ 3 := by
        have q := congrArg List.length hU.out
        rw [List.length_append, List.length_map, List.length_map] at q
        have := ups_len x hx
        omega
      by_cases h0 : 0 < k
      · have h02 : (0 : Int) < (k : Int) := by omega
        obtain ⟨i1, i2⟩ := half_wrap k h0 hk
        have hs := hide (ups_step k hk h0)
        have hp : (k - 1) / 2 < 15 := by omega
        have hpk : (k - 1) / 2 < k := by omega
        generalize (k - 1) / 2 = p at i2 hs hp hpk
        go_wp2_with (at_builtin; refine wpList_append_own _ rfl _ _ 36 rfl w.heap.size 3 i0 (.int .i64 0) 1 8 Try.underlying36 (unhide hI).1 (unhide hI).2.1 (unhide hI).2.2.1 (unhide hI).2.2.2 rfl (by decide) _ _ _ rfl ((unhide hO).alloc _) ⟨wr.heap.size, 0, none⟩ 1 1 [.int .i64 (p : Int)] rfl rfl ?c1 ?c2 ?c3 ?c4 ?c5 ?_)
        case c1 =>
          intro j u hj
          match j, hj with
          | 0, hj => simp at hj; subst hj; simp [Addr.add]
        case c2 => intro u hu; simp at hu; subst hu; rfl
        case c3 => unfold maxLen; omega
        case c4 => omega
        case c5 => simp; omega
        intro v' w7 hown' hgrow _
        have R := OwnI.grow (unhide hO) (unhide hL) (Nat.le_refl _) hown' hgrow
        have R1 := hide R.1
        have R2 := hide R.2
        have R3 : Hid ((out ++ [(p : Int)]) ++ (ups p).map (fun (k : Nat) => (k : Int)) = (ups x).map (fun (k : Nat) => (k : Int))) := by
          show (out ++ [(p : Int)]) ++ _ = _
          rw [← hU.out, hs.out, List.map_cons, List.append_assoc]
          rfl
        clear R hown' hgrow hO hL hU
        go_wp2_with fail
        go_roundw
        case rel => exact ⟨p, out ++ [(p : Int)], hp, rfl, R1, R2, R3⟩
        case measure => simp [intOf]; omega
      · have h02 : decide ((0 : Int) < (k : Int)) = false := by simp; omega
        have hk0 : k = 0 := by omega
        subst hk0
        have hU2 : Hid (out = upOf (x : Int)) := by
          show out = _
          have q := hU.out
          rw [ups_zero, List.map_nil, List.append_nil] at q
          rw [hl.out]
          exact q
        clear hU h0 hk
        go_wp2_with fail
        go_ret
        exact ⟨_, rfl, by rw [← hU2.out]; exact unhide hO, unhide hL⟩
  · have hl : Hid (upOf n = []) := by show upOf n = []; unfold upOf; rw [if_neg h]
    have HH := hide h
    clear h
    go_enter Try.func56, Try.ntmps56
    go_wp2_with fail
    refine (l1In_no _ _ _ _ (by have := HH.out; omega)).mono ?_
    rintro e w1 ⟨rfl, rfl⟩
    go_wp2_with fail
    go_ret
    exact ⟨_, rfl, by rw [hl.out]; exact unhide hO0, unhide hL0⟩
#print axioms sTreUp_any
end Go.Proofs.Ytkcopldlobomhaa
