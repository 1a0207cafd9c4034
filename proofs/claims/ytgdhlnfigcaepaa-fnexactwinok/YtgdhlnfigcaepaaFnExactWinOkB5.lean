/-
  Contracts of the specification's functions on names: they answer as the plain function on names does.
-/
import Derived.Test.YtgdhlnfigcaepaaFnExactWinOkB4
import Derived.Deep.RegionHeld3
import Derived.Test.YtgdhlnfigcaepaaFnExactWinOkB3
import Derived.BigRegion
import Derived.Test.YtgdhlnfigcaepaaFnExactWinOkB1
import Derived.OrdersHeld
namespace Go.Proofs.Ytgdhlnfigcaepaa
open Go.RowKit

set_option maxHeartbeats 400000 in
theorem l1More_any (n m : Nat) (x y : Int) (hx : x = (n : Int)) (hy : y = (m : Int)) (hn : n ≤ 1000) (hm : m ≤ 1000) (w : World) :
    Calls Try.prog 75 #[.int .i64 x, .int .i64 y] w fun e w' => e = .returned (.int .i64 (Kw.more n m : Int)) ∧ w' = w := by
  subst hx hy
  by_cases h : m = 0
  · subst h
    rw [Kw.more_zero rfl]
    go_enter Try.func75, Try.ntmps75
    go_wp2
    go_ret
    exact ⟨rfl, rfl⟩
  · rw [Kw.more_pos h]
    have e : ((m : Int) == 0) = false := by simp; omega
    clear h
    go_enter Try.func75, Try.ntmps75
    go_wp2
    go_ret
    exact ⟨rfl, rfl⟩

theorem ret_i64 {a b : Int} (h : a = b) : Ending.returned (.int .i64 a) = .returned (.int .i64 b) := by rw [h]

theorem list_ne {x y : ByteArray} (h : (!x.toList == y.toList) = true) : x ≠ y := by
  intro e; subst e; simp at h
theorem list_eq {x y : ByteArray} (h : (!x.toList == y.toList) = false) : x = y := by
  have h1 : x.toList = y.toList := by simpa using h
  have h2 := congrArg (fun l => (⟨l.toArray⟩ : ByteArray)) h1
  exact ByteArray.ext (by simpa [ByteArray.toList_eq] using h2)

theorem fr_round {s : ByteArray} {a j d m : Nat} (hj : Hid (j = a + 1 + d)) (hlt : j < s.size) (hm : Hid (m = dv s (a + 1) d)) (hall : Hid (∀ i, i < d → 48 ≤ Kw.g s (a + 1 + i) ∧ Kw.g s (a + 1 + i) ≤ 57)) (hg : Hid (Kw.g s j = s[j].toNat)) (hb : Hid (m < 10 ^ d))
    (h48 : (48 : Int) ≤ (s[j].toNat : Int)) (h57 : (s[j].toNat : Int) ≤ 57) (hd : (j : Int) < (a : Int) + 4) :
    (∃ m' j' d' : Nat, j' = a + 1 + d' ∧ d' ≤ 3 ∧ Value.int IntKind.i64 ((j : Int) + 1) = .int .i64 (j' : Int) ∧ Value.int IntKind.i64 ((m : Int) * 10 + ((s[j].toNat : Int) - 48)) = .int .i64 (m' : Int) ∧ j' ≤ s.size ∧ m' < 10 ^ d' ∧ Hid (m' = dv s (a + 1) d') ∧ Hid (∀ i, i < d' → 48 ≤ Kw.g s (a + 1 + i) ∧ Kw.g s (a + 1 + i) ≤ 57)) ∧
    ((a : Int) + 4 - intOf (Value.int IntKind.i64 ((j : Int) + 1))).toNat < ((a : Int) + 4 - intOf (Value.int IntKind.i64 (j : Int))).toNat := by
  have e1 := hj.out
  have e2 := hm.out
  have e3 := hall.out
  have e4 := hg.out
  have e5 := hb.out
  refine ⟨⟨m * 10 + (s[j].toNat - 48), j + 1, d + 1, by omega, by omega, by simp, ?_, by omega, ?_, ?_, ?_⟩, by simp [intOf]; omega⟩
  · congr 1; omega
  · rw [Nat.pow_succ]; omega
  · show _ = dv s (a + 1) d * 10 + (Kw.g s (a + 1 + d) - 48)
    rw [← e1, e4, ← e2]
  · intro i hi
    by_cases hid : i < d
    · exact e3 i hid
    · have : i = d := by omega
      subst this
      rw [← e1, e4]; omega

set_option maxHeartbeats 1000000 in
theorem l1Fresh_any (s : ByteArray) (a : Nat) (x : Int) (hx : x = (a : Int)) (hs : s.size ≤ 300) (ha : a < s.size) (w : World) :
    Calls Try.prog 76 #[.string s, .int .i64 x] w fun e w' => e = .returned (.int .i64 (Kw.fresh s a : Int)) ∧ Below w.heap.size w w' := by
  subst hx
  have ha2 : (a : Int) < (s.size : Int) := by omega
  have hga : Hid (Kw.g s a = s[a].toNat) := Kw.g_in ha
  by_cases h65 : (s[a].toNat : Int) < 65
  · have hf : Hid (Kw.fresh s a = 0) := by unfold Kw.fresh; exact if_neg (by rw [hga.out]; omega)
    go_enter Try.func76, Try.ntmps76
    go_wp2_with fail
    go_ret
    exact ⟨ret_i64 (by rw [hf.out]; rfl), Below.refl _ _⟩
  · have d65 : decide ((s[a].toNat : Int) < 65) = false := by simp; omega
    by_cases h72 : (72 : Int) < (s[a].toNat : Int)
    · have hf : Hid (Kw.fresh s a = 0) := by unfold Kw.fresh; exact if_neg (by rw [hga.out]; omega)
      go_enter Try.func76, Try.ntmps76
      go_wp2_with fail
      go_ret
      exact ⟨ret_i64 (by rw [hf.out]; rfl), Below.refl _ _⟩
    · have d72 : decide ((72 : Int) < (s[a].toNat : Int)) = false := by simp; omega
      go_enter Try.func76, Try.ntmps76
      go_wp2_with fail
      go_loop [5, 6] (fun n k => ∃ m j d : Nat, j = a + 1 + d ∧ d ≤ 3 ∧ k = .int .i64 (j : Int) ∧ n = .int .i64 (m : Int) ∧ j ≤ s.size ∧ m < 10 ^ d ∧ Hid (m = dv s (a + 1) d) ∧ Hid (∀ i, i < d → 48 ≤ Kw.g s (a + 1 + i) ∧ Kw.g s (a + 1 + i) ≤ 57)) (fun _ k => ((a : Int) + 4 - intOf k).toNat)
      case atStart => exact ⟨0, a + 1, 0, by omega, by omega, by simp, rfl, by omega, by simp, rfl, fun i hi => by omega⟩
      case round =>
        obtain ⟨m, j, d, hj0, hd, rfl, rfl, hle, hb0, hm, hall⟩ := hrel
        have hj := hide hj0
        have hj1 : a < j := by omega
        have hj3 : j ≤ a + 4 := by omega
        have hb : m ≤ 999 := by
          match d, hd, hb0 with
          | 0, _, h => omega
          | 1, _, h => omega
          | 2, _, h => omega
          | 3, _, h => omega
        have hb1 := hide hb0
        clear hj0 hb0
        by_cases hlt : j < s.size
        · have hlt2 : (j : Int) < (s.size : Int) := by omega
          have hgj : Hid (Kw.g s j = s[j].toNat) := Kw.g_in hlt
          have hnd : decide ((s.size : Int) ≤ (j : Int)) = false := by simp; omega
          have hnd2 : decide (s.size ≤ j) = false := by simp; omega
          by_cases h59 : (s[j].toNat : Int) = 59
          · have hne : ((s[j].toNat : Int) != 59) = false := by simp; omega
            have h57 : decide ((s[j].toNat : Int) ≤ 57) = false := by simp; omega
            have h48 : (48 : Int) ≤ (s[j].toNat : Int) := by omega
            have h65' : (65 : Int) ≤ (s[a].toNat : Int) := by omega
            have h72' : (s[a].toNat : Int) ≤ 72 := by omega
            have i1 : (a : Int) ≤ (j : Int) + 1 := by omega
            have i2 : (j : Int) + 1 ≤ (s.size : Int) := by omega
            have i3 : IntKind.i64.wrap ((j : Int) + 1) = (j : Int) + 1 := by simp [IntKind.wrap, IntKind.bits, IntKind.signed]; omega
            have i4 : (0 : Int) ≤ (a : Int) := by omega
            have i5 : (0 : Int) ≤ (j : Int) + 1 := by omega
            have v1 : IntKind.u8.wrap ((s[a].toNat : Int) - 65) = (s[a].toNat : Int) - 65 := by simp [IntKind.wrap, IntKind.bits, IntKind.signed]; omega
            have v2 : IntKind.i64.wrap ((s[a].toNat : Int) - 65) = (s[a].toNat : Int) - 65 := by simp [IntKind.wrap, IntKind.bits, IntKind.signed]; omega
            have H59 : Hid (Kw.g s j = 59) := by show Kw.g s j = 59; rw [hgj.out]; omega
            clear h59
            go_wp2_with fail
            go_region_held3 (fun _ => True) (trivial) ((go_at_call 74; refine (sMakNew_any _ _ _).mono ?_; rintro e w' ⟨rfl, hb⟩))
            go_wp2_with fail
            · go_ret
              rename_i hx
              rw [← hga.out] at hx
              exact ⟨ret_i64 (by rw [fr_ne hj.out hlt hm.out hall.out H59.out (by rw [hga.out]; omega) (by rw [hga.out]; omega) (list_ne hx)]; rfl), (Below.drew (Below.refl w.heap.size w)).trans hb⟩
            · go_ret
              rename_i hx
              rw [← hga.out] at hx
              refine ⟨ret_i64 (by rw [fr_eq hj.out hd hlt hm.out hall.out H59.out (by rw [hga.out]; omega) (by rw [hga.out]; omega) (list_eq hx)]; omega), (Below.drew (Below.refl w.heap.size w)).trans hb⟩
          · have hne : ((s[j].toNat : Int) != 59) = true := by simp; omega
            have H59 : Hid (Kw.g s j ≠ 59) := by show Kw.g s j ≠ 59; rw [hgj.out]; omega
            clear h59
            go_wp2_with fail
            case roundEnd =>
              have q48 : (48 : Int) ≤ (s[j].toNat : Int) := by assumption
              have q57 : (s[j].toNat : Int) ≤ 57 := by assumption
              have qd : (j : Int) < (a : Int) + 4 := by assumption
              exact fr_round hj hlt hm hall hgj hb1 q48 q57 qd
            all_goals
              go_quiet (fail)
              go_wp2_with fail
              go_ret
              exact ⟨ret_i64 (by rw [fr_no hj.out hd hall.out H59.out (by rw [hgj.out]; have := hj.out; omega)]; rfl), below_drewN (Below.refl _ _) _⟩
        · have H59 : Hid (Kw.g s j = 256) := Kw.g_out (by omega)
          have hge : decide ((s.size : Int) ≤ (j : Int)) = true := by simp; omega
          have hge2 : decide (s.size ≤ j) = true := by simp; omega
          have hge3 : s.size ≤ j := by omega
          go_wp2_with fail
          go_quiet (fail)
          go_wp2_with fail
          go_ret
          exact ⟨ret_i64 (by rw [fr_no hj.out hd hall.out (by rw [H59.out]; omega) (by rw [H59.out]; omega)]; rfl), below_drewN (Below.refl _ _) _⟩


/-- The specification's reading of the name at place a is done as it must be. -/
def SizeAt (s : ByteArray) (a : Nat) : Prop := ∀ (x : Int) (w : World), x = (a : Int) →
    Calls Try.prog 61 #[.string s, .int .i64 x] w fun e w' => e = .returned (.int .i64 (Kw.len s a : Int)) ∧ Below w.heap.size w w'

theorem ret_len {a b : Nat} (h : a = b) : Ending.returned (.int .i64 (a : Int)) = .returned (.int .i64 (b : Int)) := by rw [h]

set_option maxHeartbeats 400000 in
theorem l1Size_out (s : ByteArray) (a : Nat) (ha : s.size ≤ a) : SizeAt s a := by
  intro x w hx
  subst hx
  have hl : Hid (Kw.len s a = 0) := Kw.len_out ha
  go_enter Try.func61, Try.ntmps61
  go_wp2_with fail
  go_ret
  exact ⟨ret_i64 (by rw [hl.out]; rfl), Below.refl _ _⟩

theorem len_300 {s : ByteArray} (hs : s.size ≤ 300) (a : Nat) : Kw.len s a ≤ 300 := by
  by_cases h : Kw.len s a = 0
  · omega
  · have := Kw.len_le h; omega

set_option maxHeartbeats 1000000 in
theorem l1Size_step (s : ByteArray) (hs : s.size ≤ 300) (a : Nat) (ha : a < s.size) (ih : ∀ m, a < m → SizeAt s m) : SizeAt s a := by
  intro x w hx
  subst hx
  have ha2 : (a : Int) < (s.size : Int) := by omega
  have hga : Hid (Kw.g s a = s[a].toNat) := Kw.g_in ha
  have hl1 := len_300 hs (a + 1)
  have hl2 := len_300 hs (a + 2)
  have I1 := ih (a + 1) (by omega)
  have I2 := ih (a + 2) (by omega)
  have IH := hide ih
  clear ih
  by_cases c1 : s[a].toNat = 110
  · have e1 : ((s[a].toNat : Int) == 110) = true := by simp; omega
    have hl : Hid (Kw.len s a = Kw.more 1 (Kw.len s (a + 1))) := Kw.len_nk (.inl (by rw [hga.out]; exact c1))
    clear c1
    go_enter Try.func61, Try.ntmps61
    go_wp2_with fail
    refine (I1 _ _ (by omega)).mono ?_
    rintro e w1 ⟨rfl, hb1⟩
    go_wp2_with fail
    refine (l1More_any 1 (Kw.len s (a + 1)) _ _ rfl rfl (by omega) (by omega) _).mono ?_
    rintro e w2 ⟨rfl, rfl⟩
    go_wp2_with fail
    go_ret
    exact ⟨ret_len hl.out.symm, hb1⟩
  have e1 : ((s[a].toNat : Int) == 110) = false := by simp; omega
  by_cases c2 : s[a].toNat = 107
  · have e2 : ((s[a].toNat : Int) == 107) = true := by simp; omega
    have hl : Hid (Kw.len s a = Kw.more 1 (Kw.len s (a + 1))) := Kw.len_nk (.inr (by rw [hga.out]; exact c2))
    clear c1 c2
    go_enter Try.func61, Try.ntmps61
    go_wp2_with fail
    refine (I1 _ _ (by omega)).mono ?_
    rintro e w1 ⟨rfl, hb1⟩
    go_wp2_with fail
    refine (l1More_any 1 (Kw.len s (a + 1)) _ _ rfl rfl (by omega) (by omega) _).mono ?_
    rintro e w2 ⟨rfl, rfl⟩
    go_wp2_with fail
    go_ret
    exact ⟨ret_len hl.out.symm, hb1⟩
  have e2 : ((s[a].toNat : Int) == 107) = false := by simp; omega
  by_cases c3 : s[a].toNat = 109
  · have e3 : ((s[a].toNat : Int) == 109) = true := by simp; omega
    have hu := Kw.len_unfold s a
    rw [hga.out, if_neg (by omega), if_pos c3] at hu
    clear c1 c2 c3
    by_cases d1 : a + 1 < s.size
    · have d2 : decide ((s.size : Int) ≤ (a : Int) + 1) = false := by simp; omega
      have hg1 := Kw.g_in d1
      by_cases d3 : 65 ≤ s[a + 1].toNat ∧ s[a + 1].toNat ≤ 72
      · have hl : Hid (Kw.len s a = Kw.more 2 (Kw.len s (a + 2))) := by show Kw.len s a = _; rw [hu, hg1, if_pos d3]
        have d4 : decide ((s[a + 1].toNat : Int) < 65) = false := by simp; omega
        have d5 : decide ((72 : Int) < (s[a + 1].toNat : Int)) = false := by simp; omega
        clear hu hg1 d3
        go_enter Try.func61, Try.ntmps61
        go_wp2_with fail
        refine (I2 _ _ (by omega)).mono ?_
        rintro e w1 ⟨rfl, hb1⟩
        go_wp2_with fail
        refine (l1More_any 2 (Kw.len s (a + 2)) _ _ rfl rfl (by omega) (by omega) _).mono ?_
        rintro e w2 ⟨rfl, rfl⟩
        go_wp2_with fail
        go_ret
        exact ⟨ret_len hl.out.symm, hb1⟩
      · have hl : Hid (Kw.len s a = 0) := by show Kw.len s a = _; rw [hu, hg1, if_neg d3]
        clear hu hg1
        by_cases d4 : (s[a + 1].toNat : Int) < 65
        · clear d3
          go_enter Try.func61, Try.ntmps61
          go_wp2_with fail
          go_ret
          exact ⟨ret_i64 (by rw [hl.out]; rfl), Below.refl _ _⟩
        · have d5 : decide ((s[a + 1].toNat : Int) < 65) = false := by simp; omega
          have d6 : (72 : Int) < (s[a + 1].toNat : Int) := by omega
          clear d3
          go_enter Try.func61, Try.ntmps61
          go_wp2_with fail
          go_ret
          exact ⟨ret_i64 (by rw [hl.out]; rfl), Below.refl _ _⟩
    · have d2 : (s.size : Int) ≤ (a : Int) + 1 := by omega
      have hl : Hid (Kw.len s a = 0) := by show Kw.len s a = _; rw [hu, Kw.g_out (by omega), if_neg (by omega)]
      clear hu
      go_enter Try.func61, Try.ntmps61
      go_wp2_with fail
      go_ret
      exact ⟨ret_i64 (by rw [hl.out]; rfl), Below.refl _ _⟩
  have e3 : ((s[a].toNat : Int) == 109) = false := by simp; omega
  by_cases c4 : s[a].toNat = 114
  · have e4 : ((s[a].toNat : Int) == 114) = true := by simp; omega
    have hu := Kw.len_unfold s a
    rw [hga.out, if_neg (by omega), if_neg c3, if_pos c4] at hu
    clear c1 c2 c3 c4
    by_cases d1 : a + 1 < s.size
    · have d2 : decide ((s.size : Int) ≤ (a : Int) + 1) = false := by simp; omega
      have hg1 := Kw.g_in d1
      by_cases d3 : 49 ≤ s[a + 1].toNat ∧ s[a + 1].toNat ≤ 57
      · have hl : Hid (Kw.len s a = Kw.more 2 (Kw.len s (a + 2))) := by show Kw.len s a = _; rw [hu, hg1, if_pos d3]
        have d4 : decide ((s[a + 1].toNat : Int) < 49) = false := by simp; omega
        have d5 : decide ((57 : Int) < (s[a + 1].toNat : Int)) = false := by simp; omega
        clear hu hg1 d3
        go_enter Try.func61, Try.ntmps61
        go_wp2_with fail
        refine (I2 _ _ (by omega)).mono ?_
        rintro e w1 ⟨rfl, hb1⟩
        go_wp2_with fail
        refine (l1More_any 2 (Kw.len s (a + 2)) _ _ rfl rfl (by omega) (by omega) _).mono ?_
        rintro e w2 ⟨rfl, rfl⟩
        go_wp2_with fail
        go_ret
        exact ⟨ret_len hl.out.symm, hb1⟩
      · have hl : Hid (Kw.len s a = 0) := by show Kw.len s a = _; rw [hu, hg1, if_neg d3]
        clear hu hg1
        by_cases d4 : (s[a + 1].toNat : Int) < 49
        · clear d3
          go_enter Try.func61, Try.ntmps61
          go_wp2_with fail
          go_ret
          exact ⟨ret_i64 (by rw [hl.out]; rfl), Below.refl _ _⟩
        · have d5 : decide ((s[a + 1].toNat : Int) < 49) = false := by simp; omega
          have d6 : (57 : Int) < (s[a + 1].toNat : Int) := by omega
          clear d3
          go_enter Try.func61, Try.ntmps61
          go_wp2_with fail
          go_ret
          exact ⟨ret_i64 (by rw [hl.out]; rfl), Below.refl _ _⟩
    · have d2 : (s.size : Int) ≤ (a : Int) + 1 := by omega
      have hl : Hid (Kw.len s a = 0) := by show Kw.len s a = _; rw [hu, Kw.g_out (by omega), if_neg (by omega)]
      clear hu
      go_enter Try.func61, Try.ntmps61
      go_wp2_with fail
      go_ret
      exact ⟨ret_i64 (by rw [hl.out]; rfl), Below.refl _ _⟩
  have e4 : ((s[a].toNat : Int) == 114) = false := by simp; omega
  by_cases c5 : s[a].toNat = 101
  · have e5 : ((s[a].toNat : Int) == 101) = true := by simp; omega
    have hu := Kw.len_unfold s a
    rw [hga.out, if_neg (by omega), if_neg c3, if_neg c4, if_pos c5] at hu
    clear c1 c2 c3 c4 c5
    by_cases d1 : Kw.len s (a + 1) = 0
    · have hl : Hid (Kw.len s a = 0) := by show Kw.len s a = _; rw [hu, if_pos d1]
      have d2 : ((Kw.len s (a + 1) : Int) == 0) = true := by simp; omega
      clear hu d1
      go_enter Try.func61, Try.ntmps61
      go_wp2_with fail
      refine (I1 _ _ (by omega)).mono ?_
      rintro e w1 ⟨rfl, hb1⟩
      go_wp2_with fail
      go_ret
      exact ⟨ret_i64 (by rw [hl.out]; rfl), hb1⟩
    · have hl : Hid (Kw.len s a = Kw.more (1 + Kw.len s (a + 1)) (Kw.len s (a + 1 + Kw.len s (a + 1)))) := by show Kw.len s a = _; rw [hu, if_neg d1]
      have d2 : ((Kw.len s (a + 1) : Int) == 0) = false := by simp; omega
      have I3 := IH.out (a + 1 + Kw.len s (a + 1)) (by omega)
      have hl3 := len_300 hs (a + 1 + Kw.len s (a + 1))
      clear hu d1
      go_enter Try.func61, Try.ntmps61
      go_wp2_with fail
      refine (I1 _ _ (by omega)).mono ?_
      rintro e w1 ⟨rfl, hb1⟩
      go_wp2_with fail
      refine (I3 _ _ (by omega)).mono ?_
      rintro e w2 ⟨rfl, hb2⟩
      go_wp2_with fail
      refine (l1More_any (1 + Kw.len s (a + 1)) (Kw.len s (a + 1 + Kw.len s (a + 1))) _ _ (by omega) rfl (by omega) (by omega) _).mono ?_
      rintro e w3 ⟨rfl, rfl⟩
      go_wp2_with fail
      go_ret
      exact ⟨ret_len hl.out.symm, hb1.trans (hb2.mono hb1.size)⟩
  have e5 : ((s[a].toNat : Int) == 101) = false := by simp; omega
  have hl : Hid (Kw.len s a = Kw.fresh s a) := Kw.len_else (by rw [hga.out]; exact c1) (by rw [hga.out]; exact c2) (by rw [hga.out]; exact c3) (by rw [hga.out]; exact c4) (by rw [hga.out]; exact c5)
  clear c1 c2 c3 c4 c5
  go_enter Try.func61, Try.ntmps61
  go_wp2_with fail
  refine (l1Fresh_any s a _ rfl hs ha _).mono ?_
  rintro e w1 ⟨rfl, hb1⟩
  go_wp2_with fail
  go_ret
  exact ⟨ret_len hl.out.symm, hb1⟩

theorem l1Size_all (s : ByteArray) (hs : s.size ≤ 300) : ∀ f a, s.size - a ≤ f → SizeAt s a := by
  intro f
  induction f with
  | zero => intro a h; exact l1Size_out s a (by omega)
  | succ f ih =>
    intro a h
    by_cases ha : a < s.size
    · exact l1Size_step s hs a ha (fun m h1 => ih m (by omega))
    · exact l1Size_out s a (by omega)

theorem ret_bool {a b : Bool} (h : a = b) : Ending.returned (.bool a) = .returned (.bool b) := by rw [h]
theorem isEmpty_no {s : ByteArray} (h : s.size ≠ 0) : s.toList.isEmpty = false := by
  rw [List.isEmpty_eq_false_iff]
  intro e
  apply h
  have := congrArg List.length e
  simpa [ByteArray.toList_eq] using this
set_option maxHeartbeats 400000 in
theorem sSecOk_any (s : ByteArray) (w : World) (hm : s.size ≤ maxLen) :
    Calls Try.prog 37 #[.string s] w fun e w' => e = .returned (.bool (Kw.ok s)) ∧ Below w.heap.size w w' := by
  unfold maxLen at hm
  by_cases h0 : s.size = 0
  · obtain rfl := empty_of h0
    rw [ok_empty]
    clear hm h0
    go_enter Try.func37, Try.ntmps37
    go_wp2_with fail
    go_ret
    exact ⟨rfl, Below.refl _ _⟩
  have he := isEmpty_no h0
  by_cases hs : s.size ≤ 300
  · have H := l1Size_all s hs s.size 0 (by omega)
    have hk : Hid (Kw.ok s = ((Kw.len s 0 : Int) == (s.size : Int))) := ok_eq hs h0
    clear h0
    go_enter Try.func37, Try.ntmps37
    go_wp2_with fail
    refine (H _ _ rfl).mono ?_
    rintro e w1 ⟨rfl, hb1⟩
    go_wp2_with fail
    go_ret
    exact ⟨ret_bool hk.out.symm, hb1⟩
  · have hk : Hid (Kw.ok s = false) := ok_long (by omega)
    have hd : decide ((s.size : Int) ≤ 300) = false := by simp; omega
    clear h0 hs
    go_enter Try.func37, Try.ntmps37
    go_wp2_with fail
    go_ret
    exact ⟨ret_bool hk.out.symm, Below.refl _ _⟩

set_option maxHeartbeats 400000 in
theorem l1Ok_any (s : ByteArray) (w : World) (hm : s.size ≤ maxLen) :
    Calls Try.prog 77 #[.string s] w fun e w' => e = .returned (.string (only s)) ∧ Below w.heap.size w w' := by
  have M := hide hm
  clear hm
  cases hk : Kw.ok s with
  | true =>
    rw [show only s = s by unfold only; rw [if_pos hk]]
    have K := hide hk
    clear hk
    go_enter Try.func77, Try.ntmps77
    go_wp2_with fail
    refine (sSecOk_any s _ M.out).mono ?_
    rw [K.out]
    rintro e w1 ⟨rfl, hb1⟩
    go_wp2_with fail
    go_ret
    exact ⟨rfl, hb1⟩
  | false =>
    rw [show only s = ⟨#[]⟩ by unfold only; rw [if_neg (by rw [hk]; simp)]]
    have K := hide hk
    clear hk
    go_enter Try.func77, Try.ntmps77
    go_wp2_with fail
    refine (sSecOk_any s _ M.out).mono ?_
    rw [K.out]
    rintro e w1 ⟨rfl, hb1⟩
    go_wp2_with fail
    go_ret
    exact ⟨rfl, hb1⟩
#print axioms l1Ok_any
end Go.Proofs.Ytgdhlnfigcaepaa
/-
  What the specification tells of how a secret was made.
-/
namespace Go.Proofs.Ytgdhlnfigcaepaa
open Go.RowKit
open Kw (g len nv ok)

/-- A whole text that names a new secret: its letter, its digits, its number. -/
theorem new_parts {s : ByteArray} (hf : Kw.fresh s 0 = s.size) (h0 : s.size ≠ 0) : 65 ≤ g s 0 ∧ g s 0 ≤ 72 ∧ (∀ i, 1 ≤ i → i < s.size - 1 → 48 ≤ g s i ∧ g s i ≤ 57) ∧ (3 ≤ s.size ∧ s.size ≤ 4) ∧ nv s 0 = dv s 1 (s.size - 2) := by
  by_cases h1 : 65 ≤ g s 0 ∧ g s 0 ≤ 72 ∧ 49 ≤ g s (0 + 1) ∧ g s (0 + 1) ≤ 57
  · obtain ⟨p1, p2, p3, p4⟩ := h1
    rw [Nat.zero_add] at p3 p4
    by_cases h2 : g s (0 + 2) = 59
    · have e : Kw.fresh s 0 = 3 := by unfold Kw.fresh; rw [if_pos ⟨p1, p2, p3, p4⟩, if_pos h2]
      have e2 : nv s 0 = g s (0 + 1) - 48 := by unfold nv; rw [if_pos h2]
      have e3 : s.size = 3 := by omega
      refine ⟨p1, p2, ?_, by omega, ?_⟩
      · intro i h1 h2
        have : i = 1 := by omega
        subst this; omega
      · rw [e2, e3]
        show g s 1 - 48 = 0 * 10 + (g s (1 + 0) - 48)
        simp
    · by_cases h3 : 48 ≤ g s (0 + 2) ∧ g s (0 + 2) ≤ 57 ∧ g s (0 + 3) = 59
      · have e : Kw.fresh s 0 = 4 := by unfold Kw.fresh; rw [if_pos ⟨p1, p2, p3, p4⟩, if_neg h2, if_pos h3]
        have e2 : nv s 0 = (g s (0 + 1) - 48) * 10 + (g s (0 + 2) - 48) := by unfold nv; rw [if_neg h2]
        have e3 : s.size = 4 := by omega
        obtain ⟨r1, r2, _⟩ := h3
        rw [Nat.zero_add] at r1 r2
        refine ⟨p1, p2, ?_, by omega, ?_⟩
        · intro i h1 h2
          have : i = 1 ∨ i = 2 := by omega
          rcases this with rfl | rfl <;> omega
        · rw [e2, e3]
          show (g s 1 - 48) * 10 + (g s 2 - 48) = (0 * 10 + (g s (1 + 0) - 48)) * 10 + (g s (1 + 1) - 48)
          simp
      · exfalso; apply h0; rw [← hf]; unfold Kw.fresh; rw [if_pos ⟨p1, p2, p3, p4⟩, if_neg h2, if_neg h3]
  · exfalso; apply h0; rw [← hf]; unfold Kw.fresh; rw [if_neg h1]

set_option maxRecDepth 100000 in
set_option maxHeartbeats 1000000 in
theorem l1How_any (s : ByteArray) (w : World) (hk : ok s = true) :
    Calls Try.prog 38 #[.string s] w fun e w' => e = .returned (howV (mOp s) (mWho s) (mN s) (mA s) (mB s)) ∧ Below w.heap.size w w' := by
  obtain ⟨h1, h2, h3⟩ := ok_facts hk
  have p0 : 0 < s.size := by omega
  have p0' : (0 : Int) < (s.size : Int) := by omega
  have g0 := Kw.g_in p0
  unfold mOp mWho mN mA mB
  simp only [if_pos hk]
  by_cases c1 : g s 0 = 110
  · simp only [if_pos c1]
    have e1 : ((s[0].toNat : Int) == 110) = true := by simp; omega
    clear h2 h3 g0 c1
    have hk' := hide hk
    clear hk
    go_enter Try.func38, Try.ntmps38
    go_wp2_with fail
    refine bodyPost_ret (v := howV 2 0 0 (s.extract 1 s.size) ⟨#[]⟩) (by simp [results, Try.results38, go_sem, howV]) rfl ⟨rfl, ?_⟩
    exact (Below.refl _ _).alloc (Nat.le_refl _) _
  simp only [if_neg c1]
  have e1 : ((s[0].toNat : Int) == 110) = false := by simp; omega
  by_cases c2 : g s 0 = 107
  · simp only [if_pos c2]
    have e2 : ((s[0].toNat : Int) == 107) = true := by simp; omega
    clear h2 h3 g0 c1 c2
    have hk' := hide hk
    clear hk
    go_enter Try.func38, Try.ntmps38
    go_wp2_with fail
    refine bodyPost_ret (v := howV 3 0 0 (s.extract 1 s.size) ⟨#[]⟩) (by simp [results, Try.results38, go_sem, howV]) rfl ⟨rfl, ?_⟩
    exact (Below.refl _ _).alloc (Nat.le_refl _) _
  simp only [if_neg c2]
  have e2 : ((s[0].toNat : Int) == 107) = false := by simp; omega
  by_cases c3 : g s 0 = 101
  · simp only [if_pos c3]
    have e3 : ((s[0].toNat : Int) == 101) = true := by simp; omega
    have e4 : ((s[0].toNat : Int) == 109) = false := by simp; omega
    have e5 : ((s[0].toNat : Int) == 114) = false := by simp; omega
    obtain ⟨q1, q2, q3⟩ := parts_e hk c3
    have H := l1Size_all s h1 s.size 1 (by omega)
    have p1' : (1 : Int) + (len s 1 : Int) ≤ (s.size : Int) := by omega
    have p2' : (1 : Int) ≤ (s.size : Int) := by omega
    have p3' : (1 : Int) ≤ 1 + (len s 1 : Int) := by omega
    have i3 : IntKind.i64.wrap (1 + (len s 1 : Int)) = 1 + (len s 1 : Int) := by simp [IntKind.wrap, IntKind.bits, IntKind.signed]; omega
    have i5 : (0 : Int) ≤ 1 + (len s 1 : Int) := by omega
    clear h2 h3 g0 c1 c2 c3 q1 q2 q3
    have hk' := hide hk
    clear hk
    go_enter Try.func38, Try.ntmps38
    go_wp2_with fail
    refine (H _ _ rfl).mono ?_
    rintro e w1 ⟨rfl, hb1⟩
    obtain ⟨k0, k1, k2, k3, k4, z0, z1, z2, z3, z4⟩ := Res5.keep (b := w.heap.size) (by constructor <;> simp [go_sem]) hb1 (by simp)
    have hbb : Below w.heap.size w w1 := ((Below.refl w.heap.size w).alloc (Nat.le_refl _) _).trans (hb1.mono (by simp))
    clear hb1
    go_wp2_with fail
    go_region
    all_goals go_wp2_with fail
    all_goals refine bodyPost_ret (v := howV 4 0 0 (s.extract 1 (1 + len s 1)) (s.extract (1 + len s 1) s.size)) (by simp [results, Try.results38, go_sem, howV, k0, k1, k2, k3, k4]) rfl ⟨rfl, ?_⟩
    all_goals exact (below5 hbb (Nat.le_refl _) _ _ _ _ _).drew
  simp only [if_neg c3]
  have e3 : ((s[0].toNat : Int) == 101) = false := by simp; omega
  by_cases c4 : g s 0 = 109
  · simp only [if_pos c4]
    have e4 : ((s[0].toNat : Int) == 109) = true := by simp; omega
    obtain ⟨q1, q2, q3, q4⟩ := parts_m hk c4
    have p1 : 1 < s.size := by omega
    have p1' : (1 : Int) < (s.size : Int) := by omega
    have p2' : (2 : Int) ≤ (s.size : Int) := by omega
    rw [Kw.g_in p1] at q1 q2 ⊢
    have b1 : (65 : Int) ≤ (s[1].toNat : Int) := by omega
    have b2 : (s[1].toNat : Int) ≤ 72 := by omega
    clear h2 h3 g0 c1 c2 c3 c4 q1 q2 q3 q4
    have hk' := hide hk
    clear hk
    go_enter Try.func38, Try.ntmps38
    go_wp2_with fail
    go_region
    all_goals go_wp2_with fail
    all_goals refine bodyPost_ret (v := howV 5 ((s[1].toNat : Int) - 65) 0 (s.extract 2 s.size) ⟨#[]⟩) (by simp [results, Try.results38, go_sem, howV]) rfl ⟨rfl, ?_⟩
    all_goals exact ((Below.refl _ _).alloc (Nat.le_refl _) _).drew
  simp only [if_neg c4]
  have e4 : ((s[0].toNat : Int) == 109) = false := by simp; omega
  by_cases c5 : g s 0 = 114
  · simp only [if_pos c5]
    have e5 : ((s[0].toNat : Int) == 114) = true := by simp; omega
    obtain ⟨q1, q2, q3, q4⟩ := parts_r hk c5
    have p1 : 1 < s.size := by omega
    have p1' : (1 : Int) < (s.size : Int) := by omega
    have p2' : (2 : Int) ≤ (s.size : Int) := by omega
    rw [Kw.g_in p1] at q1 q2 ⊢
    have b1 : (48 : Int) ≤ (s[1].toNat : Int) := by omega
    have b2 : (s[1].toNat : Int) ≤ 57 := by omega
    have b3 : ((s[1].toNat - 48 : Nat) : Int) = (s[1].toNat : Int) - 48 := by omega
    rw [b3]
    clear h2 h3 g0 c1 c2 c3 c4 c5 q1 q2 q3 q4 b3
    have hk' := hide hk
    clear hk
    go_enter Try.func38, Try.ntmps38
    go_wp2_with fail
    go_region
    all_goals go_wp2_with fail
    all_goals refine bodyPost_ret (v := howV 6 0 ((s[1].toNat : Int) - 48) (s.extract 2 s.size) ⟨#[]⟩) (by simp [results, Try.results38, go_sem, howV]) rfl ⟨rfl, ?_⟩
    all_goals exact ((Below.refl _ _).alloc (Nat.le_refl _) _).drew
  simp only [if_neg c5]
  have e5 : ((s[0].toNat : Int) == 114) = false := by simp; omega
  have hfr := parts_new hk c1 c2 c3 c4 c5
  obtain ⟨q1, q2, q3, q4⟩ := new_parts hfr h2
  rw [g0] at q1 q2 ⊢
  have b1 : (65 : Int) ≤ (s[0].toNat : Int) := by omega
  have b2 : (s[0].toNat : Int) ≤ 72 := by omega
  have q3' := hide q3
  have q4' := hide q4.2
  have hsz3 : 3 ≤ s.size := by omega
  have hsz4 : s.size ≤ 4 := by omega
  clear h2 h3 g0 c1 c2 c3 c4 c5 q1 q2 q3 q4 hfr
  have hk' := hide hk
  clear hk
  go_enter Try.func38, Try.ntmps38
  go_wp2_with fail
  go_loop [4, 5] (fun n k => ∃ m j : Nat, k = .int .i64 (j : Int) ∧ n = .int .i64 (m : Int) ∧ 1 ≤ j ∧ j + 1 ≤ s.size ∧ m < 10 ^ (j - 1) ∧ Hid (m = dv s 1 (j - 1))) (fun _ k => s.size - (intOf k).toNat)
  case atStart => exact ⟨0, 1, rfl, rfl, by omega, by omega, by simp, rfl⟩
  case round =>
    obtain ⟨m, j, rfl, rfl, hj1, hj2, hm0, hm⟩ := hrel
    have hm1 : m ≤ 999 := by
      match j, hj1, hj2, hm0 with
      | 1, _, _, h => omega
      | 2, _, _, h => simp at h; omega
      | 3, _, _, h => simp at h; omega
      | j + 4, _, h4, _ => omega
    have hmm := hide hm0
    clear hm0
    by_cases hlt : j < s.size - 1
    · have hlt2 : (j : Int) < (s.size : Int) - 1 := by omega
      have hlt3 : j < s.size := by omega
      have hlt4 : (j : Int) < (s.size : Int) := by omega
      have hd := q3'.out j hj1 hlt
      rw [Kw.g_in hlt3] at hd
      have b3 : (48 : Int) ≤ (s[j].toNat : Int) := by omega
      have b4 : (s[j].toNat : Int) ≤ 57 := by omega
      have hG : Hid (g s j = s[j].toNat) := Kw.g_in hlt3
      clear hd
      go_wp2_with fail
      refine ⟨⟨m * 10 + (s[j].toNat - 48), j + 1, by simp, ?_, by omega, by omega, ?_, ?_⟩, by simp [intOf]; omega⟩
      · congr 1; omega
      · have := hmm.out
        rw [show j + 1 - 1 = (j - 1) + 1 by omega, Nat.pow_succ]; omega
      · show _ = dv s 1 (j + 1 - 1)
        rw [show j + 1 - 1 = (j - 1) + 1 by omega]
        show _ = dv s 1 (j - 1) * 10 + (g s (1 + (j - 1)) - 48)
        rw [show 1 + (j - 1) = j by omega, hG.out, ← hm.out]
    · have hge : decide ((j : Int) < (s.size : Int) - 1) = false := by simp; omega
      have hjj : Hid (j = s.size - 1) := by show j = s.size - 1; omega
      clear hlt
      go_wp2_with fail
      have hN : (nv s 0 : Int) = (m : Int) := by rw [q4'.out, hm.out, hjj.out, show s.size - 1 - 1 = s.size - 2 by omega]
      rw [hN]
      refine bodyPost_ret (v := howV 1 ((s[0].toNat : Int) - 65) (m : Int) ⟨#[]⟩ ⟨#[]⟩) (by simp [results, Try.results38, go_sem, howV]) rfl ⟨rfl, ?_⟩
      exact (Below.refl _ _).alloc (Nat.le_refl _) _

#print axioms l1How_any
end Go.Proofs.Ytgdhlnfigcaepaa
/-
  A region that draws its order: whatever yields its value in every later world may be taken first; so what makes or writes memory alone comes up, one by one; what waits for all others may write what it likes.
-/
namespace Go.Proofs.Ytgdhlnfigcaepaa
open Go.RowKit

/-- An order of worlds. -/
structure Pre (R : World → World → Prop) : Prop where
  refl : ∀ w, R w w
  trans : ∀ u v w, R u v → R v w → R u w

section
variable {P : Program} {ops : Array Oper} {Q : Exit → Act → World → Prop} {md : Region.Mode} {R : World → World → Prop}

/-- Operation j waits for all others. -/
def waitsB (md : Region.Mode) (ops : Array Oper) (j : Nat) : Bool :=
  (List.range ops.size).all fun k => k == j || ((ops[j]?).map (fun o => o.after.any fun e => Region.binds md e && e.on == k)).getD false

/-- Whatever order is picked from here on, and each operation leads from a world to a later one, but one that waits for all others. -/
def wpAnyR (P : Program) (md : Region.Mode) (ops : Array Oper) (Q : Exit → Act → World → Prop) (R : World → World → Prop) : Nat → Array Bool → Act → World → Prop
  | 0, listed, a, w => Region.ready md ops listed = [] ∧ Q .normal a w
  | fuel + 1, listed, a, w =>
    (Region.ready md ops listed = [] → Q .normal a w) ∧
    ∀ i ∈ Region.ready md ops listed, wpOp P ops Q i (fun a' w' => (waitsB md ops i = true ∧ Region.ready md ops (listed.setIfInBounds i true) = [] ∧ Q .normal a' w') ∨ (R w w' ∧ wpAnyR P md ops Q R fuel (listed.setIfInBounds i true) a' w')) a w

theorem wpAny_of_R : ∀ (fuel : Nat) (listed : Array Bool) (a : Act) (w : World), wpAnyR P md ops Q R fuel listed a w → wpAny P md ops Q fuel listed a w
  | 0, _, _, _, h => h
  | fuel + 1, _, _, _, h => ⟨h.1, fun i hi => wpOp_mono (fun a' w' h' => by
      rcases h' with ⟨_, h1, h2⟩ | h'
      · cases fuel with
        | zero => exact ⟨h1, h2⟩
        | succ f => exact ⟨fun _ => h2, by rw [h1]; simp⟩
      · exact wpAny_of_R fuel _ a' w' h'.2) (h.2 i hi)⟩

theorem YieldsIf.later {S S' : World → Prop} {o : Oper} {v : Value} {a : Act} (h : YieldsIf P ops S o v a) (hs : ∀ w, S' w → S w) : YieldsIf P ops S' o v a :=
  h.imp (fun ⟨hw, hv⟩ => ⟨hw, fun w hS => hv w (hs w hS)⟩) id

theorem waits_spec {j i : Nat} {oj : Oper} (hj : ops[j]? = some oj) (h : waitsB md ops j = true) (hi : i < ops.size) (hne : i ≠ j) : ∃ e ∈ oj.after, Region.binds md e = true ∧ e.on = i := by
  unfold waitsB at h
  rw [List.all_eq_true] at h
  have h1 := h i (by rw [List.mem_range]; exact hi)
  rw [hj] at h1
  simp only [Option.map_some, Option.getD_some, Bool.or_eq_true, beq_iff_eq, hne, false_or, Array.any_eq_true', Bool.and_eq_true] at h1
  exact h1

theorem wpAnyR_first (hP : Pre R) {i : Nat} {oi : Oper} {v : Value} (hi : ops[i]? = some oi) (hsel : ∀ (j : Nat) (o : Oper) cs b, ops[j]? = some o → o.op ≠ .select cs b)
    (hQ : ∀ c a w, Q (.panic c) (a.put oi.dst v) w → Q (.panic c) a w) :
    ∀ (fuel : Nat) (listed : Array Bool) (a : Act) (w : World),
      (∀ j oj, ops[j]? = some oj → j ≠ i → listed.getD j true = false → (∀ e ∈ oj.after, Region.binds md e = true → e.on ≠ i) → oi.apart ops oj = true) →
      i ∈ Region.ready md ops listed → YieldsIf P ops (R w) oi v a →
      wpAnyR P md ops Q R fuel (listed.setIfInBounds i true) (a.put oi.dst v) w → wpAnyR P md ops Q R (fuel + 1) listed a w := by
  intro fuel
  induction fuel with
  | zero =>
    intro listed a w _ hr hy H
    refine ⟨fun h => (by rw [h] at hr; cases hr), fun j hj => ?_⟩
    by_cases hji : j = i
    · subst hji; exact hy.wpOp hi (hP.refl w) (.inr ⟨hP.refl w, H⟩)
    · have := ready_mono hj hji
      rw [H.1] at this
      cases this
  | succ fuel ih =>
    intro listed a w hfree hr hy H
    refine ⟨fun h => (by rw [h] at hr; cases hr), fun j hj => ?_⟩
    by_cases hji : j = i
    · subst hji; exact hy.wpOp hi (hP.refl w) (.inr ⟨hP.refl w, H⟩)
    · have h1 := H.2 j (ready_mono hj hji)
      obtain ⟨hjun, oj, hoj, hall⟩ := mem_ready.1 hj
      have hnot : ∀ e ∈ oj.after, Region.binds md e = true → e.on ≠ i := fun e he hb heq => by
        have h1 := hall e he hb
        have h0 := (mem_ready.1 hr).1
        rw [heq] at h1
        rcases Nat.lt_or_ge i listed.size with h' | h'
        · simp [h'] at h0 h1; rw [h0] at h1; cases h1
        · simp [Array.getElem?_eq_none h'] at h1
      have hnw : ¬ waitsB md ops j = true := fun q => by
        obtain ⟨e, he, hb, heq⟩ := waits_spec hoj q (Array.getElem?_eq_some_iff.1 hi).1 (Ne.symm hji)
        exact hnot e he hb heq
      have h2 := wpOp_putIf hoj (hfree j oj hoj hji hjun hnot) (fun cs b => hsel i oi cs b hi) (fun cs b => hsel j oj cs b hoj) hQ hy h1
      have hfree' : ∀ k ok, ops[k]? = some ok → k ≠ i → (listed.setIfInBounds j true).getD k true = false →
          (∀ e ∈ ok.after, Region.binds md e = true → e.on ≠ i) → oi.apart ops ok = true := fun k ok hk hki hun hno => by
        refine hfree k ok hk hki ?_ hno
        by_cases hjk : j = k
        · subst hjk; exact hjun
        · rw [getD_set_ne true hjk] at hun; exact hun
      refine wpOp_mono (fun a' w' h3 => ?_) h2
      rcases h3.2 with ⟨q, _⟩ | ⟨h4, h5⟩
      · exact absurd q hnw
      refine .inr ⟨h4, ih (listed.setIfInBounds j true) a' w' hfree' (ready_mono hr (Ne.symm hji)) (YieldsIf.later h3.1 (fun u hu => hP.trans _ _ _ h4 hu)) ?_⟩
      rw [Array.setIfInBounds_comm _ _ hji]
      exact h5

/-- Take number i first: it yields v in every later world. -/
theorem ord_take (hP : Pre R) {i d : Nat} {v : Value} {fuel : Nat} {listed : Array Bool} {a : Act} {w : World}
    (hs : Region.noSelect ops = true) (hf : Region.free md ops listed i = true) (hr : (Region.ready md ops listed).contains i = true) (hd : (ops[i]?).bind (·.dst) = some d)
    (hQ : ∀ c a w, Q (.panic c) (a.put (some d) v) w → Q (.panic c) a w)
    (hy : ∀ oi, ops[i]? = some oi → Region.wanted oi (yielded ops a.tmps) = true ∧ ∀ w', R w w' → (execOp a.eval oi).run P w' = .ok (.value v) w')
    (h : wpAnyR P md ops Q R fuel (listed.setIfInBounds i true) (a.put (some d) v) w) : wpAnyR P md ops Q R (fuel + 1) listed a w := by
  cases hi : ops[i]? with
  | none => rw [hi] at hd; cases hd
  | some oi =>
    rw [hi] at hd
    have hd' : oi.dst = some d := hd
    rw [← hd'] at h hQ
    exact wpAnyR_first hP hi (Region.noSelect_spec hs) hQ fuel listed a w (Region.free_spec hi hf) (by simpa using hr) (.inl (hy oi hi)) h
/-- Take number i first: it is not wanted. -/
theorem ord_skip (hP : Pre R) {i d : Nat} {fuel : Nat} {listed : Array Bool} {a : Act} {w : World}
    (hs : Region.noSelect ops = true) (hf : Region.free md ops listed i = true) (hr : (Region.ready md ops listed).contains i = true) (hd : (ops[i]?).bind (·.dst) = some d)
    (hQ : ∀ c a w, Q (.panic c) (a.put (some d) undef) w → Q (.panic c) a w)
    (hy : ((ops[i]?).map fun oi => Region.wanted oi (yielded ops a.tmps)) = some false)
    (h : wpAnyR P md ops Q R fuel (listed.setIfInBounds i true) (a.put (some d) undef) w) : wpAnyR P md ops Q R (fuel + 1) listed a w := by
  cases hi : ops[i]? with
  | none => rw [hi] at hd; cases hd
  | some oi =>
    rw [hi] at hd hy
    have hd' : oi.dst = some d := hd
    rw [← hd'] at h hQ
    exact wpAnyR_first hP hi (Region.noSelect_spec hs) hQ fuel listed a w (Region.free_spec hi hf) (by simpa using hr) (.inr ⟨by simpa using hy, rfl⟩) h
/-- Number i alone comes up. -/
theorem ord_one {i : Nat} {fuel : Nat} {listed : Array Bool} {a : Act} {w : World} (hr : Region.ready md ops listed = [i])
    (h : ∀ oi K, ops[i]? = some oi → Shut (∀ a' w', R w w' → wpAnyR P md ops Q R fuel (listed.setIfInBounds i true) a' w' → K a' w') → Region.wanted oi (yielded ops a.tmps) = true ∧ oi.wp P a w K Q) : wpAnyR P md ops Q R (fuel + 1) listed a w := by
  refine ⟨fun h0 => (by rw [hr] at h0; cases h0), fun j hj => ?_⟩
  rw [hr] at hj
  obtain rfl : j = i := by simpa using hj
  unfold wpOp
  cases hi : ops[j]? with
  | none =>
    have : j ∈ Region.ready md ops listed := by rw [hr]; simp
    obtain ⟨_, o, ho, _⟩ := mem_ready.1 this
    rw [hi] at ho
    cases ho
  | some oi =>
    obtain ⟨hw, hwp⟩ := h oi (fun a' w' => (waitsB md ops j = true ∧ Region.ready md ops (listed.setIfInBounds j true) = [] ∧ Q .normal a' w') ∨ (R w w' ∧ wpAnyR P md ops Q R fuel (listed.setIfInBounds j true) a' w')) hi (fun a' w' hl hk => .inr (And.intro hl hk))
    simp only [hw, if_true]
    exact .inl hwp
/-- Number i comes up last: it waits for all others. -/
theorem ord_last {i : Nat} {fuel : Nat} {listed : Array Bool} {a : Act} {w : World} (hr : Region.ready md ops listed = [i]) (hwt : waitsB md ops i = true) (he : Region.ready md ops (listed.setIfInBounds i true) = [])
    (h : ∀ oi K, ops[i]? = some oi → Shut (∀ a' w', Q .normal a' w' → K a' w') → Region.wanted oi (yielded ops a.tmps) = true ∧ oi.wp P a w K Q) : wpAnyR P md ops Q R (fuel + 1) listed a w := by
  refine ⟨fun h0 => (by rw [hr] at h0; cases h0), fun j hj => ?_⟩
  rw [hr] at hj
  obtain rfl : j = i := by simpa using hj
  unfold wpOp
  cases hi : ops[j]? with
  | none =>
    have : j ∈ Region.ready md ops listed := by rw [hr]; simp
    obtain ⟨_, o, ho, _⟩ := mem_ready.1 this
    rw [hi] at ho
    cases ho
  | some oi =>
    obtain ⟨hw, hwp⟩ := h oi (fun a' w' => (waitsB md ops j = true ∧ Region.ready md ops (listed.setIfInBounds j true) = [] ∧ Q .normal a' w') ∨ (R w w' ∧ wpAnyR P md ops Q R fuel (listed.setIfInBounds j true) a' w')) hi (fun a' w' hl => .inl ⟨hwt, he, hl⟩)
    simp only [hw, if_true]
    exact .inl hwp
/-- All have come up. -/
theorem later_done {listed : Array Bool} {a : Act} {w : World} (hr : Region.ready md ops listed = []) (h : Q .normal a w) : ∀ fuel, wpAnyR P md ops Q R fuel listed a w
  | 0 => ⟨hr, h⟩
  | _ + 1 => ⟨fun _ => h, by rw [hr]; simp⟩
/-- The beginning. -/
theorem wp_region_ord (R : World → World → Prop) {id : Nat} {a : Act} {w : World} (hm : P.follows .mixedOrders = true)
    (h : wpAnyR P .any ops Q R ops.size (Array.replicate ops.size false) a w.drew) : (Code.region id ops true).wp P Q a w :=
  wp_region_any hm (wpAny_of_R _ _ _ _ h)
end

/-- Later worlds: what was there is as it was. -/
def Later (w w' : World) : Prop := Below w.heap.size w w'
theorem laterPre : Pre Later := ⟨fun _ => Below.refl _ _, fun _ _ _ h k => Below.trans h (Below.mono k h.size)⟩
/-- Worlds in which what lay below B is as it was. -/
theorem belowPre (B : Nat) : Pre (Below B) := ⟨fun _ => Below.refl _ _, fun _ _ _ h k => Below.trans h k⟩

section
variable {P : Program} {ops : Array Oper} {Q : Exit → Act → World → Prop} {md : Region.Mode}
theorem later_take {i d : Nat} {v : Value} {fuel : Nat} {listed : Array Bool} {a : Act} {w : World}
    (hs : Region.noSelect ops = true) (hf : Region.free md ops listed i = true) (hr : (Region.ready md ops listed).contains i = true) (hd : (ops[i]?).bind (·.dst) = some d)
    (hQ : ∀ c a w, Q (.panic c) (a.put (some d) v) w → Q (.panic c) a w)
    (hy : ∀ oi, ops[i]? = some oi → Region.wanted oi (yielded ops a.tmps) = true ∧ ∀ w', Later w w' → (execOp a.eval oi).run P w' = .ok (.value v) w')
    (h : wpAnyR P md ops Q Later fuel (listed.setIfInBounds i true) (a.put (some d) v) w) : wpAnyR P md ops Q Later (fuel + 1) listed a w := ord_take laterPre hs hf hr hd hQ hy h
theorem later_skip {i d : Nat} {fuel : Nat} {listed : Array Bool} {a : Act} {w : World}
    (hs : Region.noSelect ops = true) (hf : Region.free md ops listed i = true) (hr : (Region.ready md ops listed).contains i = true) (hd : (ops[i]?).bind (·.dst) = some d)
    (hQ : ∀ c a w, Q (.panic c) (a.put (some d) undef) w → Q (.panic c) a w)
    (hy : ((ops[i]?).map fun oi => Region.wanted oi (yielded ops a.tmps)) = some false)
    (h : wpAnyR P md ops Q Later fuel (listed.setIfInBounds i true) (a.put (some d) undef) w) : wpAnyR P md ops Q Later (fuel + 1) listed a w := ord_skip laterPre hs hf hr hd hQ hy h
theorem later_one {i : Nat} {fuel : Nat} {listed : Array Bool} {a : Act} {w : World} (hr : Region.ready md ops listed = [i])
    (h : ∀ oi K, ops[i]? = some oi → Shut (∀ a' w', Later w w' → wpAnyR P md ops Q Later fuel (listed.setIfInBounds i true) a' w' → K a' w') → Region.wanted oi (yielded ops a.tmps) = true ∧ oi.wp P a w K Q) : wpAnyR P md ops Q Later (fuel + 1) listed a w := ord_one hr h
theorem wp_region_later {id : Nat} {a : Act} {w : World} (hm : P.follows .mixedOrders = true)
    (h : wpAnyR P .any ops Q Later ops.size (Array.replicate ops.size false) a w.drew) : (Code.region id ops true).wp P Q a w := wp_region_ord Later hm h
end
#print axioms wp_region_later
end Go.Proofs.Ytgdhlnfigcaepaa
/-
  A region that draws its order: two that make memory may come up, one ahead of the other.
-/
namespace Go.Proofs.Ytgdhlnfigcaepaa
open Go.RowKit
section
variable {P : Program} {ops : Array Oper} {Q : Exit → Act → World → Prop} {md : Region.Mode} {R : World → World → Prop}
theorem ord_two {i j : Nat} {fuel : Nat} {listed : Array Bool} {a : Act} {w : World} (hr : Region.ready md ops listed = [i, j])
    (h : ∀ oi K, ops[i]? = some oi → Shut (∀ a' w', R w w' → wpAnyR P md ops Q R fuel (listed.setIfInBounds i true) a' w' → K a' w') → Region.wanted oi (yielded ops a.tmps) = true ∧ oi.wp P a w K Q)
    (k : ∀ oi K, ops[j]? = some oi → Shut (∀ a' w', R w w' → wpAnyR P md ops Q R fuel (listed.setIfInBounds j true) a' w' → K a' w') → Region.wanted oi (yielded ops a.tmps) = true ∧ oi.wp P a w K Q) : wpAnyR P md ops Q R (fuel + 1) listed a w := by
  refine ⟨fun h0 => (by rw [hr] at h0; cases h0), fun z hz => ?_⟩
  have step : ∀ z, z ∈ Region.ready md ops listed → (∀ oi K, ops[z]? = some oi → Shut (∀ a' w', R w w' → wpAnyR P md ops Q R fuel (listed.setIfInBounds z true) a' w' → K a' w') → Region.wanted oi (yielded ops a.tmps) = true ∧ oi.wp P a w K Q) →
      wpOp P ops Q z (fun a' w' => (waitsB md ops z = true ∧ Region.ready md ops (listed.setIfInBounds z true) = [] ∧ Q .normal a' w') ∨ (R w w' ∧ wpAnyR P md ops Q R fuel (listed.setIfInBounds z true) a' w')) a w := by
    intro z hm hh
    unfold wpOp
    cases hi : ops[z]? with
    | none =>
      obtain ⟨_, o, ho, _⟩ := mem_ready.1 hm
      rw [hi] at ho
      cases ho
    | some oi =>
      obtain ⟨hw, hwp⟩ := hh oi (fun a' w' => (waitsB md ops z = true ∧ Region.ready md ops (listed.setIfInBounds z true) = [] ∧ Q .normal a' w') ∨ (R w w' ∧ wpAnyR P md ops Q R fuel (listed.setIfInBounds z true) a' w')) hi (fun a' w' hl hk => .inr (And.intro hl hk))
      simp only [hw, if_true]
      exact .inl hwp
  rw [hr] at hz
  rcases (by simpa using hz : z = i ∨ z = j) with rfl | rfl
  · exact step z (by rw [hr]; simp) h
  · exact step z (by rw [hr]; simp) k
theorem later_two {i j : Nat} {fuel : Nat} {listed : Array Bool} {a : Act} {w : World} (hr : Region.ready md ops listed = [i, j])
    (h : ∀ oi K, ops[i]? = some oi → Shut (∀ a' w', Later w w' → wpAnyR P md ops Q Later fuel (listed.setIfInBounds i true) a' w' → K a' w') → Region.wanted oi (yielded ops a.tmps) = true ∧ oi.wp P a w K Q)
    (k : ∀ oi K, ops[j]? = some oi → Shut (∀ a' w', Later w w' → wpAnyR P md ops Q Later fuel (listed.setIfInBounds j true) a' w' → K a' w') → Region.wanted oi (yielded ops a.tmps) = true ∧ oi.wp P a w K Q) : wpAnyR P md ops Q Later (fuel + 1) listed a w := ord_two hr h k
end
end Go.Proofs.Ytgdhlnfigcaepaa
