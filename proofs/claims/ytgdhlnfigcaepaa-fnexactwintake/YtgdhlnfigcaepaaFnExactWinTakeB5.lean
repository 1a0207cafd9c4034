/-
  Contracts of the specification's functions on names: they answer as the plain function on names does.
-/
import Derived.Test.YtgdhlnfigcaepaaFnExactWinTakeB4
import Derived.Deep.RegionHeld3
import Derived.Test.YtgdhlnfigcaepaaFnExactWinTakeB3
import Derived.BigRegion
import Derived.Test.YtgdhlnfigcaepaaFnExactWinTakeB2
import Derived.Test.YtgdhlnfigcaepaaFnExactWinTakeB1
namespace Go.Proofs.Ytgdhlnfigcaepaa
open Go.RowKit

set_option maxHeartbeats 400000 in
theorem l1More_any (n m : Nat) (x y : Int) (hx : x = (n : Int)) (hy : y = (m : Int)) (hn : n ≤ 1000) (hm : m ≤ 1000) (w : World) :
    Calls Try.prog 75 #[.int .i64 x, .int .i64 y] w fun e w' => e = .returned (.int .i64 (Kw.more n m : Int)) ∧ w' = w := by
  subst hx hy
  by_cases h : m = 0
  · subst h
    rw [Kw.more_zero rfl]
    go_enter Try.func75, Try.ntmps75
    go_wp2
    go_ret
    exact ⟨rfl, rfl⟩
  · rw [Kw.more_pos h]
    have e : ((m : Int) == 0) = false := by simp; omega
    clear h
    go_enter Try.func75, Try.ntmps75
    go_wp2
    go_ret
    exact ⟨rfl, rfl⟩

theorem ret_i64 {a b : Int} (h : a = b) : Ending.returned (.int .i64 a) = .returned (.int .i64 b) := by rw [h]

theorem list_ne {x y : ByteArray} (h : (!x.toList == y.toList) = true) : x ≠ y := by
  intro e; subst e; simp at h
theorem list_eq {x y : ByteArray} (h : (!x.toList == y.toList) = false) : x = y := by
  have h1 : x.toList = y.toList := by simpa using h
  have h2 := congrArg (fun l => (⟨l.toArray⟩ : ByteArray)) h1
  exact ByteArray.ext (by simpa [ByteArray.toList_eq] using h2)

theorem fr_round {s : ByteArray} {a j d m : Nat} (hj : Hid (j = a + 1 + d)) (hlt : j < s.size) (hm : Hid (m = dv s (a + 1) d)) (hall : Hid (∀ i, i < d → 48 ≤ Kw.g s (a + 1 + i) ∧ Kw.g s (a + 1 + i) ≤ 57)) (hg : Hid (Kw.g s j = s[j].toNat)) (hb : Hid (m < 10 ^ d))
    (h48 : (48 : Int) ≤ (s[j].toNat : Int)) (h57 : (s[j].toNat : Int) ≤ 57) (hd : (j : Int) < (a : Int) + 4) :
    (∃ m' j' d' : Nat, j' = a + 1 + d' ∧ d' ≤ 3 ∧ Value.int IntKind.i64 ((j : Int) + 1) = .int .i64 (j' : Int) ∧ Value.int IntKind.i64 ((m : Int) * 10 + ((s[j].toNat : Int) - 48)) = .int .i64 (m' : Int) ∧ j' ≤ s.size ∧ m' < 10 ^ d' ∧ Hid (m' = dv s (a + 1) d') ∧ Hid (∀ i, i < d' → 48 ≤ Kw.g s (a + 1 + i) ∧ Kw.g s (a + 1 + i) ≤ 57)) ∧
    ((a : Int) + 4 - intOf (Value.int IntKind.i64 ((j : Int) + 1))).toNat < ((a : Int) + 4 - intOf (Value.int IntKind.i64 (j : Int))).toNat := by
  have e1 := hj.out
  have e2 := hm.out
  have e3 := hall.out
  have e4 := hg.out
  have e5 := hb.out
  refine ⟨⟨m * 10 + (s[j].toNat - 48), j + 1, d + 1, by omega, by omega, by simp, ?_, by omega, ?_, ?_, ?_⟩, by simp [intOf]; omega⟩
  · congr 1; omega
  · rw [Nat.pow_succ]; omega
  · show _ = dv s (a + 1) d * 10 + (Kw.g s (a + 1 + d) - 48)
    rw [← e1, e4, ← e2]
  · intro i hi
    by_cases hid : i < d
    · exact e3 i hid
    · have : i = d := by omega
      subst this
      rw [← e1, e4]; omega

set_option maxHeartbeats 1000000 in
theorem l1Fresh_any (s : ByteArray) (a : Nat) (x : Int) (hx : x = (a : Int)) (hs : s.size ≤ 300) (ha : a < s.size) (w : World) :
    Calls Try.prog 76 #[.string s, .int .i64 x] w fun e w' => e = .returned (.int .i64 (Kw.fresh s a : Int)) ∧ Below w.heap.size w w' := by
  subst hx
  have ha2 : (a : Int) < (s.size : Int) := by omega
  have hga : Hid (Kw.g s a = s[a].toNat) := Kw.g_in ha
  by_cases h65 : (s[a].toNat : Int) < 65
  · have hf : Hid (Kw.fresh s a = 0) := by unfold Kw.fresh; exact if_neg (by rw [hga.out]; omega)
    go_enter Try.func76, Try.ntmps76
    go_wp2_with fail
    go_ret
    exact ⟨ret_i64 (by rw [hf.out]; rfl), Below.refl _ _⟩
  · have d65 : decide ((s[a].toNat : Int) < 65) = false := by simp; omega
    by_cases h72 : (72 : Int) < (s[a].toNat : Int)
    · have hf : Hid (Kw.fresh s a = 0) := by unfold Kw.fresh; exact if_neg (by rw [hga.out]; omega)
      go_enter Try.func76, Try.ntmps76
      go_wp2_with fail
      go_ret
      exact ⟨ret_i64 (by rw [hf.out]; rfl), Below.refl _ _⟩
    · have d72 : decide ((72 : Int) < (s[a].toNat : Int)) = false := by simp; omega
      go_enter Try.func76, Try.ntmps76
      go_wp2_with fail
      go_loop [5, 6] (fun n k => ∃ m j d : Nat, j = a + 1 + d ∧ d ≤ 3 ∧ k = .int .i64 (j : Int) ∧ n = .int .i64 (m : Int) ∧ j ≤ s.size ∧ m < 10 ^ d ∧ Hid (m = dv s (a + 1) d) ∧ Hid (∀ i, i < d → 48 ≤ Kw.g s (a + 1 + i) ∧ Kw.g s (a + 1 + i) ≤ 57)) (fun _ k => ((a : Int) + 4 - intOf k).toNat)
      case atStart => exact ⟨0, a + 1, 0, by omega, by omega, by simp, rfl, by omega, by simp, rfl, fun i hi => by omega⟩
      case round =>
        obtain ⟨m, j, d, hj0, hd, rfl, rfl, hle, hb0, hm, hall⟩ := hrel
        have hj := hide hj0
        have hj1 : a < j := by omega
        have hj3 : j ≤ a + 4 := by omega
        have hb : m ≤ 999 := by
          match d, hd, hb0 with
          | 0, _, h => omega
          | 1, _, h => omega
          | 2, _, h => omega
          | 3, _, h => omega
        have hb1 := hide hb0
        clear hj0 hb0
        by_cases hlt : j < s.size
        · have hlt2 : (j : Int) < (s.size : Int) := by omega
          have hgj : Hid (Kw.g s j = s[j].toNat) := Kw.g_in hlt
          have hnd : decide ((s.size : Int) ≤ (j : Int)) = false := by simp; omega
          have hnd2 : decide (s.size ≤ j) = false := by simp; omega
          by_cases h59 : (s[j].toNat : Int) = 59
          · have hne : ((s[j].toNat : Int) != 59) = false := by simp; omega
            have h57 : decide ((s[j].toNat : Int) ≤ 57) = false := by simp; omega
            have h48 : (48 : Int) ≤ (s[j].toNat : Int) := by omega
            have h65' : (65 : Int) ≤ (s[a].toNat : Int) := by omega
            have h72' : (s[a].toNat : Int) ≤ 72 := by omega
            have i1 : (a : Int) ≤ (j : Int) + 1 := by omega
            have i2 : (j : Int) + 1 ≤ (s.size : Int) := by omega
            have i3 : IntKind.i64.wrap ((j : Int) + 1) = (j : Int) + 1 := by simp [IntKind.wrap, IntKind.bits, IntKind.signed]; omega
            have i4 : (0 : Int) ≤ (a : Int) := by omega
            have i5 : (0 : Int) ≤ (j : Int) + 1 := by omega
            have v1 : IntKind.u8.wrap ((s[a].toNat : Int) - 65) = (s[a].toNat : Int) - 65 := by simp [IntKind.wrap, IntKind.bits, IntKind.signed]; omega
            have v2 : IntKind.i64.wrap ((s[a].toNat : Int) - 65) = (s[a].toNat : Int) - 65 := by simp [IntKind.wrap, IntKind.bits, IntKind.signed]; omega
            have H59 : Hid (Kw.g s j = 59) := by show Kw.g s j = 59; rw [hgj.out]; omega
            clear h59
            go_wp2_with fail
            go_region_held3 (fun _ => True) (trivial) ((go_at_call 74; refine (sMakNew_any _ _ _).mono ?_; rintro e w' ⟨rfl, hb⟩))
            go_wp2_with fail
            · go_ret
              rename_i hx
              rw [← hga.out] at hx
              exact ⟨ret_i64 (by rw [fr_ne hj.out hlt hm.out hall.out H59.out (by rw [hga.out]; omega) (by rw [hga.out]; omega) (list_ne hx)]; rfl), (Below.drew (Below.refl w.heap.size w)).trans hb⟩
            · go_ret
              rename_i hx
              rw [← hga.out] at hx
              refine ⟨ret_i64 (by rw [fr_eq hj.out hd hlt hm.out hall.out H59.out (by rw [hga.out]; omega) (by rw [hga.out]; omega) (list_eq hx)]; omega), (Below.drew (Below.refl w.heap.size w)).trans hb⟩
          · have hne : ((s[j].toNat : Int) != 59) = true := by simp; omega
            have H59 : Hid (Kw.g s j ≠ 59) := by show Kw.g s j ≠ 59; rw [hgj.out]; omega
            clear h59
            go_wp2_with fail
            case roundEnd =>
              have q48 : (48 : Int) ≤ (s[j].toNat : Int) := by assumption
              have q57 : (s[j].toNat : Int) ≤ 57 := by assumption
              have qd : (j : Int) < (a : Int) + 4 := by assumption
              exact fr_round hj hlt hm hall hgj hb1 q48 q57 qd
            all_goals
              go_quiet (fail)
              go_wp2_with fail
              go_ret
              exact ⟨ret_i64 (by rw [fr_no hj.out hd hall.out H59.out (by rw [hgj.out]; have := hj.out; omega)]; rfl), below_drewN (Below.refl _ _) _⟩
        · have H59 : Hid (Kw.g s j = 256) := Kw.g_out (by omega)
          have hge : decide ((s.size : Int) ≤ (j : Int)) = true := by simp; omega
          have hge2 : decide (s.size ≤ j) = true := by simp; omega
          have hge3 : s.size ≤ j := by omega
          go_wp2_with fail
          go_quiet (fail)
          go_wp2_with fail
          go_ret
          exact ⟨ret_i64 (by rw [fr_no hj.out hd hall.out (by rw [H59.out]; omega) (by rw [H59.out]; omega)]; rfl), below_drewN (Below.refl _ _) _⟩


/-- The specification's reading of the name at place a is done as it must be. -/
def SizeAt (s : ByteArray) (a : Nat) : Prop := ∀ (x : Int) (w : World), x = (a : Int) →
    Calls Try.prog 61 #[.string s, .int .i64 x] w fun e w' => e = .returned (.int .i64 (Kw.len s a : Int)) ∧ Below w.heap.size w w'

theorem ret_len {a b : Nat} (h : a = b) : Ending.returned (.int .i64 (a : Int)) = .returned (.int .i64 (b : Int)) := by rw [h]

set_option maxHeartbeats 400000 in
theorem l1Size_out (s : ByteArray) (a : Nat) (ha : s.size ≤ a) : SizeAt s a := by
  intro x w hx
  subst hx
  have hl : Hid (Kw.len s a = 0) := Kw.len_out ha
  go_enter Try.func61, Try.ntmps61
  go_wp2_with fail
  go_ret
  exact ⟨ret_i64 (by rw [hl.out]; rfl), Below.refl _ _⟩

theorem len_300 {s : ByteArray} (hs : s.size ≤ 300) (a : Nat) : Kw.len s a ≤ 300 := by
  by_cases h : Kw.len s a = 0
  · omega
  · have := Kw.len_le h; omega

set_option maxHeartbeats 1000000 in
theorem l1Size_step (s : ByteArray) (hs : s.size ≤ 300) (a : Nat) (ha : a < s.size) (ih : ∀ m, a < m → SizeAt s m) : SizeAt s a := by
  intro x w hx
  subst hx
  have ha2 : (a : Int) < (s.size : Int) := by omega
  have hga : Hid (Kw.g s a = s[a].toNat) := Kw.g_in ha
  have hl1 := len_300 hs (a + 1)
  have hl2 := len_300 hs (a + 2)
  have I1 := ih (a + 1) (by omega)
  have I2 := ih (a + 2) (by omega)
  have IH := hide ih
  clear ih
  by_cases c1 : s[a].toNat = 110
  · have e1 : ((s[a].toNat : Int) == 110) = true := by simp; omega
    have hl : Hid (Kw.len s a = Kw.more 1 (Kw.len s (a + 1))) := Kw.len_nk (.inl (by rw [hga.out]; exact c1))
    clear c1
    go_enter Try.func61, Try.ntmps61
    go_wp2_with fail
    refine (I1 _ _ (by omega)).mono ?_
    rintro e w1 ⟨rfl, hb1⟩
    go_wp2_with fail
    refine (l1More_any 1 (Kw.len s (a + 1)) _ _ rfl rfl (by omega) (by omega) _).mono ?_
    rintro e w2 ⟨rfl, rfl⟩
    go_wp2_with fail
    go_ret
    exact ⟨ret_len hl.out.symm, hb1⟩
  have e1 : ((s[a].toNat : Int) == 110) = false := by simp; omega
  by_cases c2 : s[a].toNat = 107
  · have e2 : ((s[a].toNat : Int) == 107) = true := by simp; omega
    have hl : Hid (Kw.len s a = Kw.more 1 (Kw.len s (a + 1))) := Kw.len_nk (.inr (by rw [hga.out]; exact c2))
    clear c1 c2
    go_enter Try.func61, Try.ntmps61
    go_wp2_with fail
    refine (I1 _ _ (by omega)).mono ?_
    rintro e w1 ⟨rfl, hb1⟩
    go_wp2_with fail
    refine (l1More_any 1 (Kw.len s (a + 1)) _ _ rfl rfl (by omega) (by omega) _).mono ?_
    rintro e w2 ⟨rfl, rfl⟩
    go_wp2_with fail
    go_ret
    exact ⟨ret_len hl.out.symm, hb1⟩
  have e2 : ((s[a].toNat : Int) == 107) = false := by simp; omega
  by_cases c3 : s[a].toNat = 109
  · have e3 : ((s[a].toNat : Int) == 109) = true := by simp; omega
    have hu := Kw.len_unfold s a
    rw [hga.out, if_neg (by omega), if_pos c3] at hu
    clear c1 c2 c3
    by_cases d1 : a + 1 < s.size
    · have d2 : decide ((s.size : Int) ≤ (a : Int) + 1) = false := by simp; omega
      have hg1 := Kw.g_in d1
      by_cases d3 : 65 ≤ s[a + 1].toNat ∧ s[a + 1].toNat ≤ 72
      · have hl : Hid (Kw.len s a = Kw.more 2 (Kw.len s (a + 2))) := by show Kw.len s a = _; rw [hu, hg1, if_pos d3]
        have d4 : decide ((s[a + 1].toNat : Int) < 65) = false := by simp; omega
        have d5 : decide ((72 : Int) < (s[a + 1].toNat : Int)) = false := by simp; omega
        clear hu hg1 d3
        go_enter Try.func61, Try.ntmps61
        go_wp2_with fail
        refine (I2 _ _ (by omega)).mono ?_
        rintro e w1 ⟨rfl, hb1⟩
        go_wp2_with fail
        refine (l1More_any 2 (Kw.len s (a + 2)) _ _ rfl rfl (by omega) (by omega) _).mono ?_
        rintro e w2 ⟨rfl, rfl⟩
        go_wp2_with fail
        go_ret
        exact ⟨ret_len hl.out.symm, hb1⟩
      · have hl : Hid (Kw.len s a = 0) := by show Kw.len s a = _; rw [hu, hg1, if_neg d3]
        clear hu hg1
        by_cases d4 : (s[a + 1].toNat : Int) < 65
        · clear d3
          go_enter Try.func61, Try.ntmps61
          go_wp2_with fail
          go_ret
          exact ⟨ret_i64 (by rw [hl.out]; rfl), Below.refl _ _⟩
        · have d5 : decide ((s[a + 1].toNat : Int) < 65) = false := by simp; omega
          have d6 : (72 : Int) < (s[a + 1].toNat : Int) := by omega
          clear d3
          go_enter Try.func61, Try.ntmps61
          go_wp2_with fail
          go_ret
          exact ⟨ret_i64 (by rw [hl.out]; rfl), Below.refl _ _⟩
    · have d2 : (s.size : Int) ≤ (a : Int) + 1 := by omega
      have hl : Hid (Kw.len s a = 0) := by show Kw.len s a = _; rw [hu, Kw.g_out (by omega), if_neg (by omega)]
      clear hu
      go_enter Try.func61, Try.ntmps61
      go_wp2_with fail
      go_ret
      exact ⟨ret_i64 (by rw [hl.out]; rfl), Below.refl _ _⟩
  have e3 : ((s[a].toNat : Int) == 109) = false := by simp; omega
  by_cases c4 : s[a].toNat = 114
  · have e4 : ((s[a].toNat : Int) == 114) = true := by simp; omega
    have hu := Kw.len_unfold s a
    rw [hga.out, if_neg (by omega), if_neg c3, if_pos c4] at hu
    clear c1 c2 c3 c4
    by_cases d1 : a + 1 < s.size
    · have d2 : decide ((s.size : Int) ≤ (a : Int) + 1) = false := by simp; omega
      have hg1 := Kw.g_in d1
      by_cases d3 : 49 ≤ s[a + 1].toNat ∧ s[a + 1].toNat ≤ 57
      · have hl : Hid (Kw.len s a = Kw.more 2 (Kw.len s (a + 2))) := by show Kw.len s a = _; rw [hu, hg1, if_pos d3]
        have d4 : decide ((s[a + 1].toNat : Int) < 49) = false := by simp; omega
        have d5 : decide ((57 : Int) < (s[a + 1].toNat : Int)) = false := by simp; omega
        clear hu hg1 d3
        go_enter Try.func61, Try.ntmps61
        go_wp2_with fail
        refine (I2 _ _ (by omega)).mono ?_
        rintro e w1 ⟨rfl, hb1⟩
        go_wp2_with fail
        refine (l1More_any 2 (Kw.len s (a + 2)) _ _ rfl rfl (by omega) (by omega) _).mono ?_
        rintro e w2 ⟨rfl, rfl⟩
        go_wp2_with fail
        go_ret
        exact ⟨ret_len hl.out.symm, hb1⟩
      · have hl : Hid (Kw.len s a = 0) := by show Kw.len s a = _; rw [hu, hg1, if_neg d3]
        clear hu hg1
        by_cases d4 : (s[a + 1].toNat : Int) < 49
        · clear d3
          go_enter Try.func61, Try.ntmps61
          go_wp2_with fail
          go_ret
          exact ⟨ret_i64 (by rw [hl.out]; rfl), Below.refl _ _⟩
        · have d5 : decide ((s[a + 1].toNat : Int) < 49) = false := by simp; omega
          have d6 : (57 : Int) < (s[a + 1].toNat : Int) := by omega
          clear d3
          go_enter Try.func61, Try.ntmps61
          go_wp2_with fail
          go_ret
          exact ⟨ret_i64 (by rw [hl.out]; rfl), Below.refl _ _⟩
    · have d2 : (s.size : Int) ≤ (a : Int) + 1 := by omega
      have hl : Hid (Kw.len s a = 0) := by show Kw.len s a = _; rw [hu, Kw.g_out (by omega), if_neg (by omega)]
      clear hu
      go_enter Try.func61, Try.ntmps61
      go_wp2_with fail
      go_ret
      exact ⟨ret_i64 (by rw [hl.out]; rfl), Below.refl _ _⟩
  have e4 : ((s[a].toNat : Int) == 114) = false := by simp; omega
  by_cases c5 : s[a].toNat = 101
  · have e5 : ((s[a].toNat : Int) == 101) = true := by simp; omega
    have hu := Kw.len_unfold s a
    rw [hga.out, if_neg (by omega), if_neg c3, if_neg c4, if_pos c5] at hu
    clear c1 c2 c3 c4 c5
    by_cases d1 : Kw.len s (a + 1) = 0
    · have hl : Hid (Kw.len s a = 0) := by show Kw.len s a = _; rw [hu, if_pos d1]
      have d2 : ((Kw.len s (a + 1) : Int) == 0) = true := by simp; omega
      clear hu d1
      go_enter Try.func61, Try.ntmps61
      go_wp2_with fail
      refine (I1 _ _ (by omega)).mono ?_
      rintro e w1 ⟨rfl, hb1⟩
      go_wp2_with fail
      go_ret
      exact ⟨ret_i64 (by rw [hl.out]; rfl), hb1⟩
    · have hl : Hid (Kw.len s a = Kw.more (1 + Kw.len s (a + 1)) (Kw.len s (a + 1 + Kw.len s (a + 1)))) := by show Kw.len s a = _; rw [hu, if_neg d1]
      have d2 : ((Kw.len s (a + 1) : Int) == 0) = false := by simp; omega
      have I3 := IH.out (a + 1 + Kw.len s (a + 1)) (by omega)
      have hl3 := len_300 hs (a + 1 + Kw.len s (a + 1))
      clear hu d1
      go_enter Try.func61, Try.ntmps61
      go_wp2_with fail
      refine (I1 _ _ (by omega)).mono ?_
      rintro e w1 ⟨rfl, hb1⟩
      go_wp2_with fail
      refine (I3 _ _ (by omega)).mono ?_
      rintro e w2 ⟨rfl, hb2⟩
      go_wp2_with fail
      refine (l1More_any (1 + Kw.len s (a + 1)) (Kw.len s (a + 1 + Kw.len s (a + 1))) _ _ (by omega) rfl (by omega) (by omega) _).mono ?_
      rintro e w3 ⟨rfl, rfl⟩
      go_wp2_with fail
      go_ret
      exact ⟨ret_len hl.out.symm, hb1.trans (hb2.mono hb1.size)⟩
  have e5 : ((s[a].toNat : Int) == 101) = false := by simp; omega
  have hl : Hid (Kw.len s a = Kw.fresh s a) := Kw.len_else (by rw [hga.out]; exact c1) (by rw [hga.out]; exact c2) (by rw [hga.out]; exact c3) (by rw [hga.out]; exact c4) (by rw [hga.out]; exact c5)
  clear c1 c2 c3 c4 c5
  go_enter Try.func61, Try.ntmps61
  go_wp2_with fail
  refine (l1Fresh_any s a _ rfl hs ha _).mono ?_
  rintro e w1 ⟨rfl, hb1⟩
  go_wp2_with fail
  go_ret
  exact ⟨ret_len hl.out.symm, hb1⟩

theorem l1Size_all (s : ByteArray) (hs : s.size ≤ 300) : ∀ f a, s.size - a ≤ f → SizeAt s a := by
  intro f
  induction f with
  | zero => intro a h; exact l1Size_out s a (by omega)
  | succ f ih =>
    intro a h
    by_cases ha : a < s.size
    · exact l1Size_step s hs a ha (fun m h1 => ih m (by omega))
    · exact l1Size_out s a (by omega)

theorem ret_bool {a b : Bool} (h : a = b) : Ending.returned (.bool a) = .returned (.bool b) := by rw [h]
theorem isEmpty_no {s : ByteArray} (h : s.size ≠ 0) : s.toList.isEmpty = false := by
  rw [List.isEmpty_eq_false_iff]
  intro e
  apply h
  have := congrArg List.length e
  simpa [ByteArray.toList_eq] using this
set_option maxHeartbeats 400000 in
theorem sSecOk_any (s : ByteArray) (w : World) (hm : s.size ≤ maxLen) :
    Calls Try.prog 37 #[.string s] w fun e w' => e = .returned (.bool (Kw.ok s)) ∧ Below w.heap.size w w' := by
  unfold maxLen at hm
  by_cases h0 : s.size = 0
  · obtain rfl := empty_of h0
    rw [ok_empty]
    clear hm h0
    go_enter Try.func37, Try.ntmps37
    go_wp2_with fail
    go_ret
    exact ⟨rfl, Below.refl _ _⟩
  have he := isEmpty_no h0
  by_cases hs : s.size ≤ 300
  · have H := l1Size_all s hs s.size 0 (by omega)
    have hk : Hid (Kw.ok s = ((Kw.len s 0 : Int) == (s.size : Int))) := ok_eq hs h0
    clear h0
    go_enter Try.func37, Try.ntmps37
    go_wp2_with fail
    refine (H _ _ rfl).mono ?_
    rintro e w1 ⟨rfl, hb1⟩
    go_wp2_with fail
    go_ret
    exact ⟨ret_bool hk.out.symm, hb1⟩
  · have hk : Hid (Kw.ok s = false) := ok_long (by omega)
    have hd : decide ((s.size : Int) ≤ 300) = false := by simp; omega
    clear h0 hs
    go_enter Try.func37, Try.ntmps37
    go_wp2_with fail
    go_ret
    exact ⟨ret_bool hk.out.symm, Below.refl _ _⟩

set_option maxHeartbeats 400000 in
theorem l1Ok_any (s : ByteArray) (w : World) (hm : s.size ≤ maxLen) :
    Calls Try.prog 77 #[.string s] w fun e w' => e = .returned (.string (only s)) ∧ Below w.heap.size w w' := by
  have M := hide hm
  clear hm
  cases hk : Kw.ok s with
  | true =>
    rw [show only s = s by unfold only; rw [if_pos hk]]
    have K := hide hk
    clear hk
    go_enter Try.func77, Try.ntmps77
    go_wp2_with fail
    refine (sSecOk_any s _ M.out).mono ?_
    rw [K.out]
    rintro e w1 ⟨rfl, hb1⟩
    go_wp2_with fail
    go_ret
    exact ⟨rfl, hb1⟩
  | false =>
    rw [show only s = ⟨#[]⟩ by unfold only; rw [if_neg (by rw [hk]; simp)]]
    have K := hide hk
    clear hk
    go_enter Try.func77, Try.ntmps77
    go_wp2_with fail
    refine (sSecOk_any s _ M.out).mono ?_
    rw [K.out]
    rintro e w1 ⟨rfl, hb1⟩
    go_wp2_with fail
    go_ret
    exact ⟨rfl, hb1⟩
#print axioms l1Ok_any
end Go.Proofs.Ytgdhlnfigcaepaa
/-
  What the specification tells of how a secret was made.
-/
namespace Go.Proofs.Ytgdhlnfigcaepaa
open Go.RowKit
open Kw (g len nv ok)

/-- A whole text that names a new secret: its letter, its digits, its number. -/
theorem new_parts {s : ByteArray} (hf : Kw.fresh s 0 = s.size) (h0 : s.size ≠ 0) : 65 ≤ g s 0 ∧ g s 0 ≤ 72 ∧ (∀ i, 1 ≤ i → i < s.size - 1 → 48 ≤ g s i ∧ g s i ≤ 57) ∧ (3 ≤ s.size ∧ s.size ≤ 4) ∧ nv s 0 = dv s 1 (s.size - 2) := by
  by_cases h1 : 65 ≤ g s 0 ∧ g s 0 ≤ 72 ∧ 49 ≤ g s (0 + 1) ∧ g s (0 + 1) ≤ 57
  · obtain ⟨p1, p2, p3, p4⟩ := h1
    rw [Nat.zero_add] at p3 p4
    by_cases h2 : g s (0 + 2) = 59
    · have e : Kw.fresh s 0 = 3 := by unfold Kw.fresh; rw [if_pos ⟨p1, p2, p3, p4⟩, if_pos h2]
      have e2 : nv s 0 = g s (0 + 1) - 48 := by unfold nv; rw [if_pos h2]
      have e3 : s.size = 3 := by omega
      refine ⟨p1, p2, ?_, by omega, ?_⟩
      · intro i h1 h2
        have : i = 1 := by omega
        subst this; omega
      · rw [e2, e3]
        show g s 1 - 48 = 0 * 10 + (g s (1 + 0) - 48)
        simp
    · by_cases h3 : 48 ≤ g s (0 + 2) ∧ g s (0 + 2) ≤ 57 ∧ g s (0 + 3) = 59
      · have e : Kw.fresh s 0 = 4 := by unfold Kw.fresh; rw [if_pos ⟨p1, p2, p3, p4⟩, if_neg h2, if_pos h3]
        have e2 : nv s 0 = (g s (0 + 1) - 48) * 10 + (g s (0 + 2) - 48) := by unfold nv; rw [if_neg h2]
        have e3 : s.size = 4 := by omega
        obtain ⟨r1, r2, _⟩ := h3
        rw [Nat.zero_add] at r1 r2
        refine ⟨p1, p2, ?_, by omega, ?_⟩
        · intro i h1 h2
          have : i = 1 ∨ i = 2 := by omega
          rcases this with rfl | rfl <;> omega
        · rw [e2, e3]
          show (g s 1 - 48) * 10 + (g s 2 - 48) = (0 * 10 + (g s (1 + 0) - 48)) * 10 + (g s (1 + 1) - 48)
          simp
      · exfalso; apply h0; rw [← hf]; unfold Kw.fresh; rw [if_pos ⟨p1, p2, p3, p4⟩, if_neg h2, if_neg h3]
  · exfalso; apply h0; rw [← hf]; unfold Kw.fresh; rw [if_neg h1]

set_option maxRecDepth 100000 in
set_option maxHeartbeats 1000000 in
theorem l1How_any (s : ByteArray) (w : World) (hk : ok s = true) :
    Calls Try.prog 38 #[.string s] w fun e w' => e = .returned (howV (mOp s) (mWho s) (mN s) (mA s) (mB s)) ∧ Below w.heap.size w w' := by
  obtain ⟨h1, h2, h3⟩ := ok_facts hk
  have p0 : 0 < s.size := by omega
  have p0' : (0 : Int) < (s.size : Int) := by omega
  have g0 := Kw.g_in p0
  unfold mOp mWho mN mA mB
  simp only [if_pos hk]
  by_cases c1 : g s 0 = 110
  · simp only [if_pos c1]
    have e1 : ((s[0].toNat : Int) == 110) = true := by simp; omega
    clear h2 h3 g0 c1
    have hk' := hide hk
    clear hk
    go_enter Try.func38, Try.ntmps38
    go_wp2_with fail
    refine bodyPost_ret (v := howV 2 0 0 (s.extract 1 s.size) ⟨#[]⟩) (by simp [results, Try.results38, go_sem, howV]) rfl ⟨rfl, ?_⟩
    exact (Below.refl _ _).alloc (Nat.le_refl _) _
  simp only [if_neg c1]
  have e1 : ((s[0].toNat : Int) == 110) = false := by simp; omega
  by_cases c2 : g s 0 = 107
  · simp only [if_pos c2]
    have e2 : ((s[0].toNat : Int) == 107) = true := by simp; omega
    clear h2 h3 g0 c1 c2
    have hk' := hide hk
    clear hk
    go_enter Try.func38, Try.ntmps38
    go_wp2_with fail
    refine bodyPost_ret (v := howV 3 0 0 (s.extract 1 s.size) ⟨#[]⟩) (by simp [results, Try.results38, go_sem, howV]) rfl ⟨rfl, ?_⟩
    exact (Below.refl _ _).alloc (Nat.le_refl _) _
  simp only [if_neg c2]
  have e2 : ((s[0].toNat : Int) == 107) = false := by simp; omega
  by_cases c3 : g s 0 = 101
  · simp only [if_pos c3]
    have e3 : ((s[0].toNat : Int) == 101) = true := by simp; omega
    have e4 : ((s[0].toNat : Int) == 109) = false := by simp; omega
    have e5 : ((s[0].toNat : Int) == 114) = false := by simp; omega
    obtain ⟨q1, q2, q3⟩ := parts_e hk c3
    have H := l1Size_all s h1 s.size 1 (by omega)
    have p1' : (1 : Int) + (len s 1 : Int) ≤ (s.size : Int) := by omega
    have p2' : (1 : Int) ≤ (s.size : Int) := by omega
    have p3' : (1 : Int) ≤ 1 + (len s 1 : Int) := by omega
    have i3 : IntKind.i64.wrap (1 + (len s 1 : Int)) = 1 + (len s 1 : Int) := by simp [IntKind.wrap, IntKind.bits, IntKind.signed]; omega
    have i5 : (0 : Int) ≤ 1 + (len s 1 : Int) := by omega
    clear h2 h3 g0 c1 c2 c3 q1 q2 q3
    have hk' := hide hk
    clear hk
    go_enter Try.func38, Try.ntmps38
    go_wp2_with fail
    refine (H _ _ rfl).mono ?_
    rintro e w1 ⟨rfl, hb1⟩
    obtain ⟨k0, k1, k2, k3, k4, z0, z1, z2, z3, z4⟩ := Res5.keep (b := w.heap.size) (by constructor <;> simp [go_sem]) hb1 (by simp)
    have hbb : Below w.heap.size w w1 := ((Below.refl w.heap.size w).alloc (Nat.le_refl _) _).trans (hb1.mono (by simp))
    clear hb1
    go_wp2_with fail
    go_region
    all_goals go_wp2_with fail
    all_goals refine bodyPost_ret (v := howV 4 0 0 (s.extract 1 (1 + len s 1)) (s.extract (1 + len s 1) s.size)) (by simp [results, Try.results38, go_sem, howV, k0, k1, k2, k3, k4]) rfl ⟨rfl, ?_⟩
    all_goals exact (below5 hbb (Nat.le_refl _) _ _ _ _ _).drew
  simp only [if_neg c3]
  have e3 : ((s[0].toNat : Int) == 101) = false := by simp; omega
  by_cases c4 : g s 0 = 109
  · simp only [if_pos c4]
    have e4 : ((s[0].toNat : Int) == 109) = true := by simp; omega
    obtain ⟨q1, q2, q3, q4⟩ := parts_m hk c4
    have p1 : 1 < s.size := by omega
    have p1' : (1 : Int) < (s.size : Int) := by omega
    have p2' : (2 : Int) ≤ (s.size : Int) := by omega
    rw [Kw.g_in p1] at q1 q2 ⊢
    have b1 : (65 : Int) ≤ (s[1].toNat : Int) := by omega
    have b2 : (s[1].toNat : Int) ≤ 72 := by omega
    clear h2 h3 g0 c1 c2 c3 c4 q1 q2 q3 q4
    have hk' := hide hk
    clear hk
    go_enter Try.func38, Try.ntmps38
    go_wp2_with fail
    go_region
    all_goals go_wp2_with fail
    all_goals refine bodyPost_ret (v := howV 5 ((s[1].toNat : Int) - 65) 0 (s.extract 2 s.size) ⟨#[]⟩) (by simp [results, Try.results38, go_sem, howV]) rfl ⟨rfl, ?_⟩
    all_goals exact ((Below.refl _ _).alloc (Nat.le_refl _) _).drew
  simp only [if_neg c4]
  have e4 : ((s[0].toNat : Int) == 109) = false := by simp; omega
  by_cases c5 : g s 0 = 114
  · simp only [if_pos c5]
    have e5 : ((s[0].toNat : Int) == 114) = true := by simp; omega
    obtain ⟨q1, q2, q3, q4⟩ := parts_r hk c5
    have p1 : 1 < s.size := by omega
    have p1' : (1 : Int) < (s.size : Int) := by omega
    have p2' : (2 : Int) ≤ (s.size : Int) := by omega
    rw [Kw.g_in p1] at q1 q2 ⊢
    have b1 : (48 : Int) ≤ (s[1].toNat : Int) := by omega
    have b2 : (s[1].toNat : Int) ≤ 57 := by omega
    have b3 : ((s[1].toNat - 48 : Nat) : Int) = (s[1].toNat : Int) - 48 := by omega
    rw [b3]
    clear h2 h3 g0 c1 c2 c3 c4 c5 q1 q2 q3 q4 b3
    have hk' := hide hk
    clear hk
    go_enter Try.func38, Try.ntmps38
    go_wp2_with fail
    go_region
    all_goals go_wp2_with fail
    all_goals refine bodyPost_ret (v := howV 6 0 ((s[1].toNat : Int) - 48) (s.extract 2 s.size) ⟨#[]⟩) (by simp [results, Try.results38, go_sem, howV]) rfl ⟨rfl, ?_⟩
    all_goals exact ((Below.refl _ _).alloc (Nat.le_refl _) _).drew
  simp only [if_neg c5]
  have e5 : ((s[0].toNat : Int) == 114) = false := by simp; omega
  have hfr := parts_new hk c1 c2 c3 c4 c5
  obtain ⟨q1, q2, q3, q4⟩ := new_parts hfr h2
  rw [g0] at q1 q2 ⊢
  have b1 : (65 : Int) ≤ (s[0].toNat : Int) := by omega
  have b2 : (s[0].toNat : Int) ≤ 72 := by omega
  have q3' := hide q3
  have q4' := hide q4.2
  have hsz3 : 3 ≤ s.size := by omega
  have hsz4 : s.size ≤ 4 := by omega
  clear h2 h3 g0 c1 c2 c3 c4 c5 q1 q2 q3 q4 hfr
  have hk' := hide hk
  clear hk
  go_enter Try.func38, Try.ntmps38
  go_wp2_with fail
  go_loop [4, 5] (fun n k => ∃ m j : Nat, k = .int .i64 (j : Int) ∧ n = .int .i64 (m : Int) ∧ 1 ≤ j ∧ j + 1 ≤ s.size ∧ m < 10 ^ (j - 1) ∧ Hid (m = dv s 1 (j - 1))) (fun _ k => s.size - (intOf k).toNat)
  case atStart => exact ⟨0, 1, rfl, rfl, by omega, by omega, by simp, rfl⟩
  case round =>
    obtain ⟨m, j, rfl, rfl, hj1, hj2, hm0, hm⟩ := hrel
    have hm1 : m ≤ 999 := by
      match j, hj1, hj2, hm0 with
      | 1, _, _, h => omega
      | 2, _, _, h => simp at h; omega
      | 3, _, _, h => simp at h; omega
      | j + 4, _, h4, _ => omega
    have hmm := hide hm0
    clear hm0
    by_cases hlt : j < s.size - 1
    · have hlt2 : (j : Int) < (s.size : Int) - 1 := by omega
      have hlt3 : j < s.size := by omega
      have hlt4 : (j : Int) < (s.size : Int) := by omega
      have hd := q3'.out j hj1 hlt
      rw [Kw.g_in hlt3] at hd
      have b3 : (48 : Int) ≤ (s[j].toNat : Int) := by omega
      have b4 : (s[j].toNat : Int) ≤ 57 := by omega
      have hG : Hid (g s j = s[j].toNat) := Kw.g_in hlt3
      clear hd
      go_wp2_with fail
      refine ⟨⟨m * 10 + (s[j].toNat - 48), j + 1, by simp, ?_, by omega, by omega, ?_, ?_⟩, by simp [intOf]; omega⟩
      · congr 1; omega
      · have := hmm.out
        rw [show j + 1 - 1 = (j - 1) + 1 by omega, Nat.pow_succ]; omega
      · show _ = dv s 1 (j + 1 - 1)
        rw [show j + 1 - 1 = (j - 1) + 1 by omega]
        show _ = dv s 1 (j - 1) * 10 + (g s (1 + (j - 1)) - 48)
        rw [show 1 + (j - 1) = j by omega, hG.out, ← hm.out]
    · have hge : decide ((j : Int) < (s.size : Int) - 1) = false := by simp; omega
      have hjj : Hid (j = s.size - 1) := by show j = s.size - 1; omega
      clear hlt
      go_wp2_with fail
      have hN : (nv s 0 : Int) = (m : Int) := by rw [q4'.out, hm.out, hjj.out, show s.size - 1 - 1 = s.size - 2 by omega]
      rw [hN]
      refine bodyPost_ret (v := howV 1 ((s[0].toNat : Int) - 65) (m : Int) ⟨#[]⟩ ⟨#[]⟩) (by simp [results, Try.results38, go_sem, howV]) rfl ⟨rfl, ?_⟩
      exact (Below.refl _ _).alloc (Nat.le_refl _) _

#print axioms l1How_any
end Go.Proofs.Ytgdhlnfigcaepaa
/-
  The tree, plain: what covers, who is in, what is cleared. No Go function in it.
-/
namespace Go.Proofs.Ytgdhlnfigcaepaa

/-- The places with keys that cover all from one down. -/
def covF (xs : List ByteArray) : Nat → Nat → List Nat
  | 0, _ => []
  | f + 1, n => if xs.getD n ByteArray.empty ≠ ByteArray.empty then [n] else if 7 ≤ n then [] else covF xs f (2 * n + 1) ++ covF xs f (2 * n + 2)
def cover (xs : List ByteArray) (n : Nat) : List Nat := covF xs 4 n
theorem covF_step (xs : List ByteArray) (f n : Nat) : covF xs (f + 1) n = if xs.getD n ByteArray.empty ≠ ByteArray.empty then [n] else if 7 ≤ n then [] else covF xs f (2 * n + 1) ++ covF xs f (2 * n + 2) := rfl
theorem covF_more (xs : List ByteArray) : ∀ f n, 1 ≤ f → 8 ≤ (n + 1) * 2 ^ (f - 1) → covF xs (f + 1) n = covF xs f n := by
  intro f
  induction f with
  | zero => intro n h; omega
  | succ f ih =>
    intro n _ h
    rw [covF_step xs (f + 1) n, covF_step xs f n]
    split
    · rfl
    · split
      · rfl
      · next hn =>
        cases f with
        | zero => simp at h; omega
        | succ g =>
          have e : (n + 1) * 2 ^ (g + 1 + 1 - 1) = (2 * n + 2) * 2 ^ g := by
            rw [show g + 1 + 1 - 1 = g + 1 from rfl, Nat.pow_succ, Nat.mul_comm (2 ^ g) 2, ← Nat.mul_assoc]
            congr 1
            omega
          rw [e] at h
          have h2 : (2 * n + 2) * 2 ^ g ≤ (2 * n + 2 + 1) * 2 ^ g := Nat.mul_le_mul_right _ (by omega)
          rw [ih (2 * n + 1) (by omega) (by simpa using h), ih (2 * n + 2) (by omega) (by simp; omega)]
theorem cover_three (xs : List ByteArray) (n : Nat) (h : 1 ≤ n) : covF xs 3 n = cover xs n := (covF_more xs 3 n (by omega) (by simp; omega)).symm
/-- A place without a key that is nobody's: what covers both under it. -/
theorem cover_two (xs : List ByteArray) (n : Nat) (h : xs.getD n ByteArray.empty = ByteArray.empty) (hn : n < 7) : cover xs n = cover xs (2 * n + 1) ++ cover xs (2 * n + 2) := by
  unfold cover
  rw [covF_step, if_neg (by simpa using h), if_neg (by omega), cover_three xs _ (by omega), cover_three xs _ (by omega)]
  rfl
theorem cover_one (xs : List ByteArray) (n : Nat) (h : xs.getD n ByteArray.empty ≠ ByteArray.empty) : cover xs n = [n] := by
  unfold cover
  rw [covF_step, if_pos h]
theorem cover_none (xs : List ByteArray) (n : Nat) (h : xs.getD n ByteArray.empty = ByteArray.empty) (hn : 7 ≤ n) : cover xs n = [] := by
  unfold cover
  rw [covF_step, if_neg (by simpa using h), if_pos hn]
/-- Who is in. -/
def inOf (xs : List ByteArray) : List Nat := (List.range 8).filter fun k => decide (xs.getD (7 + k) ByteArray.empty ≠ ByteArray.empty)
/-- A tree without the keys of some places. -/
def wipe (xs : List ByteArray) (ps : List Nat) : List ByteArray := ps.foldl (fun ys p => ys.set p ByteArray.empty) xs
def clearOf (xs : List ByteArray) (who : Nat) : List ByteArray := wipe xs ((7 + who) :: ups (7 + who))
end Go.Proofs.Ytgdhlnfigcaepaa
/-
  The tree, plain: places, what is above them, beside them, where two meet; keys that are ok, who is in, what covers, what is cleared and set. No Go function in it.
-/
namespace Go.Proofs.Ytgdhlnfigcaepaa

/-- A key that is ok: none, or one. -/
def keyOk (x : ByteArray) : Bool := decide (x = ByteArray.empty) || (Kw.ok x && decide (mOp x = 3))
def treOk (xs : List ByteArray) : Bool := decide (xs.length = 15) && xs.all keyOk
/-- A tree with keys of some places, each made from the next secret. -/
def fill : List ByteArray → ByteArray → List Nat → List ByteArray
  | xs, _, [] => xs
  | xs, s, p :: ps => fill (xs.set p (mkKey s)) (mkNext s) ps
def setKeys (xs : List ByteArray) (who : Nat) (s : ByteArray) : List ByteArray := fill xs s ((7 + who) :: ups (7 + who))
end Go.Proofs.Ytgdhlnfigcaepaa
/-
  The tree, plain: from the last places up. No Go function in it.
-/
namespace Go.Proofs.Ytgdhlnfigcaepaa

/-- Whether a place has a key. -/
def keyed (xs : List ByteArray) (n : Nat) : Bool := decide (xs.getD n ByteArray.empty ≠ ByteArray.empty)
theorem cover_keyed (xs : List ByteArray) (n : Nat) (h : keyed xs n = true) : cover xs n = [n] := cover_one xs n (by simpa [keyed] using h)
theorem cover_bare (xs : List ByteArray) (n : Nat) (h : keyed xs n = false) (hn : 7 ≤ n) : cover xs n = [] := cover_none xs n (by simpa [keyed] using h) hn
theorem cover_both (xs : List ByteArray) (n : Nat) (h : keyed xs n = false) (hn : n < 7) : cover xs n = cover xs (2 * n + 1) ++ cover xs (2 * n + 2) := cover_two xs n (by simpa [keyed] using h) hn

/-- From the last places up. -/
theorem down {P : Nat → Prop} (h1 : ∀ n, 7 ≤ n → n < 15 → P n) (h2 : ∀ n, n < 7 → P (2 * n + 1) → P (2 * n + 2) → P n) : ∀ n, n < 15 → P n := by
  have a : ∀ n, 3 ≤ n → n < 15 → P n := fun n h h' => if q : 7 ≤ n then h1 n q h' else h2 n (by omega) (h1 _ (by omega) (by omega)) (h1 _ (by omega) (by omega))
  have b : ∀ n, 1 ≤ n → n < 15 → P n := fun n h h' => if q : 3 ≤ n then a n q h' else h2 n (by omega) (a _ (by omega) (by omega)) (a _ (by omega) (by omega))
  exact fun n h' => if q : 1 ≤ n then b n q h' else h2 n (by omega) (b _ (by omega) (by omega)) (b _ (by omega) (by omega))
end Go.Proofs.Ytgdhlnfigcaepaa
/-
  Plain mathematics: what tells how a name was made makes just that name. Nothing of the program is in it.
-/
namespace Go.Proofs.Ytgdhlnfigcaepaa
open Kw

theorem split_at (s : ByteArray) (a : Nat) (h : a ≤ s.size) : s.extract 0 a ++ s.extract a s.size = s := by
  have zz : (s.extract 0 a ++ s.extract a s.size).size = s.size := by simp
  refine ext_g zz ?_
  intro i hi
  have hi' : i < s.size := by rw [zz] at hi; exact hi
  have z : (s.extract 0 a).size = a := by simp [ByteArray.size_extract]; omega
  rw [g_append, z]
  by_cases hia : i < a
  · rw [if_pos hia, g_extract s 0 a i h (by omega), Nat.zero_add]
  · rw [if_neg hia, g_extract s a s.size (i - a) (Nat.le_refl _) (by omega)]; congr 1; omega

theorem split_three (s : ByteArray) (a b : Nat) (hab : a ≤ b) (h : b ≤ s.size) : s.extract 0 a ++ s.extract a b ++ s.extract b s.size = s := by
  have z1 : (s.extract 0 a).size = a := by simp [ByteArray.size_extract]; omega
  have z2 : (s.extract a b).size = b - a := by simp [ByteArray.size_extract]; omega
  have z3 : (s.extract 0 a ++ s.extract a b).size = b := by rw [ByteArray.size_append, z1, z2]; omega
  refine ext_g (by rw [ByteArray.size_append, z3]; simp [ByteArray.size_extract]; omega) ?_
  intro i hi
  have hi' : i < s.size := by rw [ByteArray.size_append, z3] at hi; simp [ByteArray.size_extract] at hi; omega
  rw [g_append, z3]
  by_cases hib : i < b
  · rw [if_pos hib, g_append, z1]
    by_cases hia : i < a
    · rw [if_pos hia, g_extract s 0 a i (by omega) (by omega), Nat.zero_add]
    · rw [if_neg hia, g_extract s a b (i - a) h (by omega)]; congr 1; omega
  · rw [if_neg hib, g_extract s b s.size (i - b) (Nat.le_refl _) (by omega)]; congr 1; omega

theorem len_rest (s : ByteArray) (a : Nat) (h : a ≤ s.size) : len (s.extract a s.size) 0 = len s a := by
  have e := len_shift (s.extract 0 a) (s.extract a s.size) 0
  rw [split_at s a h] at e
  have z : (s.extract 0 a).size = a := by simp [ByteArray.size_extract]; omega
  rw [z, Nat.add_zero] at e
  exact e.symm

theorem one_byte {s : ByteArray} {a n : Nat} (h : a < s.size) (hn : n < 256) (hg : g s a = n) : s.extract a (a + 1) = by1 n := by
  refine ext_g (by simp [ByteArray.size_extract, by1_size]; omega) ?_
  intro i hi
  have hi0 : i = 0 := by simp [ByteArray.size_extract] at hi; omega
  subst hi0
  rw [g_extract s a (a + 1) 0 (by omega) (by omega), Nat.add_zero, hg, g_by1 n hn]

theorem rest_ok {s : ByteArray} (hk : ok s = true) (a : Nat) (ha : a ≤ s.size) (h0 : len s a ≠ 0) (h : a + len s a = s.size) : ok (s.extract a s.size) = true := by
  obtain ⟨h1, _, _⟩ := ok_facts hk
  have z : (s.extract a s.size).size = s.size - a := by simp [ByteArray.size_extract]
  refine ok_yes (by rw [z]; omega) (by rw [len_rest s a ha]; exact h0) (by rw [len_rest s a ha, z]; omega)

theorem g_back {s t : ByteArray} {i : Nat} (h : i < s.size) : g s i = g (s ++ t) i := (g_front t h).symm

theorem fresh_back {s t : ByteArray} {a : Nat} (h : fresh (s ++ t) a ≠ 0) (hl : a + fresh (s ++ t) a ≤ s.size) : fresh s a = fresh (s ++ t) a := by
  obtain ⟨h1, h2, _, _, h5⟩ := fresh_yes h
  unfold fresh at h hl ⊢
  by_cases c : 65 ≤ g (s ++ t) a ∧ g (s ++ t) a ≤ 72 ∧ 49 ≤ g (s ++ t) (a + 1) ∧ g (s ++ t) (a + 1) ≤ 57
  · rw [if_pos c] at h hl
    rw [if_pos c]
    by_cases c2 : g (s ++ t) (a + 2) = 59
    · rw [if_pos c2] at hl
      rw [if_pos c2, g_back (s := s) (t := t) (i := a) (by omega), g_back (s := s) (t := t) (i := a + 1) (by omega), g_back (s := s) (t := t) (i := a + 2) (by omega), if_pos c, if_pos c2]
    · rw [if_neg c2] at h hl
      by_cases c3 : 48 ≤ g (s ++ t) (a + 2) ∧ g (s ++ t) (a + 2) ≤ 57 ∧ g (s ++ t) (a + 3) = 59
      · rw [if_pos c3] at hl
        rw [if_neg c2, if_pos c3, g_back (s := s) (t := t) (i := a) (by omega), g_back (s := s) (t := t) (i := a + 1) (by omega), g_back (s := s) (t := t) (i := a + 2) (by omega), g_back (s := s) (t := t) (i := a + 3) (by omega), if_pos c, if_neg c2, if_pos c3]
      · rw [if_neg c3] at h; exact absurd rfl h
  · rw [if_neg c] at h; exact absurd rfl h

theorem sz_back (s t : ByteArray) (f : Nat) : ∀ a, sz (s ++ t) f a ≠ 0 → a + sz (s ++ t) f a ≤ s.size → sz s f a = sz (s ++ t) f a := by
  induction f with
  | zero => intro a h; exact absurd rfl h
  | succ f ih =>
    intro a h hl
    have ha : a < s.size := by omega
    rw [sz_succ] at h hl
    rw [sz_succ, sz_succ, g_back (s := s) (t := t) ha]
    by_cases c1 : g (s ++ t) a = 110 ∨ g (s ++ t) a = 107
    · rw [if_pos c1] at h hl; rw [if_pos c1, if_pos c1]
      obtain ⟨n1, n2⟩ := more_ne h
      rw [ih _ n1 (by omega)]
    rw [if_neg c1] at h hl; rw [if_neg c1, if_neg c1]
    by_cases c2 : g (s ++ t) a = 109
    · rw [if_pos c2] at h hl; rw [if_pos c2, if_pos c2]
      by_cases d : 65 ≤ g (s ++ t) (a + 1) ∧ g (s ++ t) (a + 1) ≤ 72
      · rw [if_pos d] at h hl
        obtain ⟨n1, n2⟩ := more_ne h
        rw [if_pos d, g_back (s := s) (t := t) (i := a + 1) (by omega), if_pos d, ih _ n1 (by omega)]
      · rw [if_neg d] at h; exact absurd rfl h
    rw [if_neg c2] at h hl; rw [if_neg c2, if_neg c2]
    by_cases c3 : g (s ++ t) a = 114
    · rw [if_pos c3] at h hl; rw [if_pos c3, if_pos c3]
      by_cases d : 49 ≤ g (s ++ t) (a + 1) ∧ g (s ++ t) (a + 1) ≤ 57
      · rw [if_pos d] at h hl
        obtain ⟨n1, n2⟩ := more_ne h
        rw [if_pos d, g_back (s := s) (t := t) (i := a + 1) (by omega), if_pos d, ih _ n1 (by omega)]
      · rw [if_neg d] at h; exact absurd rfl h
    rw [if_neg c3] at h hl; rw [if_neg c3, if_neg c3]
    by_cases c4 : g (s ++ t) a = 101
    · rw [if_pos c4] at h hl; rw [if_pos c4, if_pos c4]
      by_cases d : sz (s ++ t) f (a + 1) = 0
      · rw [if_pos d] at h; exact absurd rfl h
      · rw [if_neg d] at h hl
        obtain ⟨n1, n2⟩ := more_ne h
        have e1 := ih (a + 1) d (by omega)
        rw [e1, if_neg d, if_neg d, ih _ n1 (by omega)]
    rw [if_neg c4] at h hl; rw [if_neg c4, if_neg c4, fresh_back h hl]

theorem len_back {s t : ByteArray} {a : Nat} (h : len (s ++ t) a ≠ 0) (hl : a + len (s ++ t) a ≤ s.size) : len s a = len (s ++ t) a := by
  have e : sz s ((s ++ t).size - a) a = len s a := len_eq (by simp [ByteArray.size_append]; omega)
  rw [← e]
  exact sz_back s t _ a h hl

/-- A name at the beginning of a name's rest is a name. -/
theorem mid_ok {s : ByteArray} (hk : ok s = true) (a : Nat) (h0 : len s a ≠ 0) : ok (s.extract a (a + len s a)) = true := by
  obtain ⟨h1, _, _⟩ := ok_facts hk
  have hle := len_le h0
  have z : (s.extract a (a + len s a)).size = len s a := by simp [ByteArray.size_extract]; omega
  have e := len_rest s a (by omega)
  have e2 : s.extract a s.size = s.extract a (a + len s a) ++ s.extract (a + len s a) s.size := by
    refine ext_g (by simp [ByteArray.size_extract]; omega) ?_
    intro i hi
    have hi' : a + i < s.size := by simp [ByteArray.size_extract] at hi; omega
    rw [g_extract s a s.size i (Nat.le_refl _) hi', g_append, z]
    by_cases hj : i < len s a
    · rw [if_pos hj, g_extract s a (a + len s a) i hle (by omega)]
    · rw [if_neg hj, g_extract s (a + len s a) s.size (i - len s a) (Nat.le_refl _) (by omega)]; congr 1; omega
  rw [e2] at e
  have e3 : len (s.extract a (a + len s a)) 0 = len s a := by
    rw [len_back (t := s.extract (a + len s a) s.size) (by rw [e]; exact h0) (by rw [e, z]; omega), e]
  exact ok_yes (by rw [z]; omega) (by rw [e3]; exact h0) (by rw [e3, z])

theorem cap_self {x : ByteArray} (h : ok x = true) : cap x = x := by unfold cap; rw [if_pos (ok_facts h).1]

theorem re_next {s : ByteArray} (hk : ok s = true) (c : g s 0 = 110) : mkNext (s.extract 1 s.size) = s := by
  obtain ⟨h0, h1⟩ := parts_nk hk (.inl c)
  have e : nextT (s.extract 1 s.size) = s := by
    have := split_at s 1 (by omega)
    rw [one_byte (a := 0) (n := 110) (by omega) (by omega) c] at this
    exact this
  unfold mkNext
  rw [if_pos (rest_ok hk 1 (by omega) h0 h1), e, cap_self hk]
theorem re_key {s : ByteArray} (hk : ok s = true) (c : g s 0 = 107) : mkKey (s.extract 1 s.size) = s := by
  obtain ⟨h0, h1⟩ := parts_nk hk (.inr c)
  have e : keyT (s.extract 1 s.size) = s := by
    have := split_at s 1 (by omega)
    rw [one_byte (a := 0) (n := 107) (by omega) (by omega) c] at this
    exact this
  unfold mkKey
  rw [if_pos (rest_ok hk 1 (by omega) h0 h1), e, cap_self hk]
theorem re_epoch {s : ByteArray} (hk : ok s = true) (c : g s 0 = 101) : mkEpoch (s.extract 1 (1 + len s 1)) (s.extract (1 + len s 1) s.size) = s := by
  obtain ⟨h0, h1, h2⟩ := parts_e hk c
  have e : epochT (s.extract 1 (1 + len s 1)) (s.extract (1 + len s 1) s.size) = s := by
    have := split_three s 1 (1 + len s 1) (by omega) (by omega)
    rw [one_byte (a := 0) (n := 101) (by omega) (by omega) c] at this
    exact this
  unfold mkEpoch
  rw [if_pos ⟨mid_ok hk 1 h0, rest_ok hk _ (by omega) h1 h2⟩, e, cap_self hk]
theorem re_say {s : ByteArray} (hk : ok s = true) (c : g s 0 = 109) : mkSay (s.extract 2 s.size) ((g s 1 : Int) - 65) = s := by
  obtain ⟨q1, q2, h0, h1⟩ := parts_m hk c
  have e : sayT (s.extract 2 s.size) (g s 1 - 65) = s := by
    have := split_three s 1 2 (by omega) (by omega)
    rw [one_byte (a := 0) (n := 109) (by omega) (by omega) c, one_byte (a := 1) (n := 65 + (g s 1 - 65)) (by omega) (by omega) (by omega)] at this
    exact this
  unfold mkSay
  rw [if_pos ⟨rest_ok hk 2 (by omega) h0 h1, by omega, by omega⟩, show ((g s 1 : Int) - 65).toNat = g s 1 - 65 by omega, e, cap_self hk]
theorem re_room {s : ByteArray} (hk : ok s = true) (c : g s 0 = 114) : mkRoom (s.extract 2 s.size) ((g s 1 - 48 : Nat) : Int) = s := by
  obtain ⟨q1, q2, h0, h1⟩ := parts_r hk c
  have e : roomT (s.extract 2 s.size) (g s 1 - 48) = s := by
    have := split_three s 1 2 (by omega) (by omega)
    unfold roomT
    rw [dec_one _ (by omega)]
    rw [one_byte (a := 0) (n := 114) (by omega) (by omega) c, one_byte (a := 1) (n := 48 + (g s 1 - 48)) (by omega) (by omega) (by omega)] at this
    exact this
  unfold mkRoom
  rw [if_pos ⟨rest_ok hk 2 (by omega) h0 h1, by omega, by omega⟩, Int.toNat_natCast, e, cap_self hk]
theorem re_new {s : ByteArray} (hk : ok s = true) (hf : fresh s 0 = s.size) : mkNew ((g s 0 : Int) - 65) (nv s 0 : Int) = s := by
  obtain ⟨_, h0, _⟩ := ok_facts hk
  obtain ⟨p1, p2, p3, p4, p5⟩ := fresh_yes (by rw [hf]; exact h0)
  have hall : s.extract 0 s.size = s := by
    refine ext_g (by simp) ?_
    intro i hi
    rw [g_extract s 0 s.size i (Nat.le_refl _) (by simp at hi; omega), Nat.zero_add]
  unfold mkNew
  by_cases c : 49 ≤ g s (0 + 1) ∧ g s (0 + 1) ≤ 57
  · by_cases c2 : g s (0 + 2) = 59
    · have e : fresh s 0 = 3 := by unfold fresh; rw [if_pos ⟨p1, p2, c⟩, if_pos c2]
      have e2 : nv s 0 = g s (0 + 1) - 48 := by unfold nv; rw [if_pos c2]
      have e3 : s.size = 3 := by omega
      rw [if_pos (by omega)]
      have := ext_three (s := s) (a := 0) (who := ((g s 0 : Int) - 65).toNat) (n := ((nv s 0 : Nat) : Int).toNat) (by omega) (by omega) (by omega) (by omega) (by omega) c2
      rw [this]
      rw [show 0 + 3 = s.size by omega]; exact hall
    · have hne : fresh s 0 ≠ 0 := by rw [hf]; exact h0
      by_cases c3 : 48 ≤ g s (0 + 2) ∧ g s (0 + 2) ≤ 57 ∧ g s (0 + 3) = 59
      · have e : fresh s 0 = 4 := by unfold fresh; rw [if_pos ⟨p1, p2, c⟩, if_neg c2, if_pos c3]
        have e2 : nv s 0 = (g s (0 + 1) - 48) * 10 + (g s (0 + 2) - 48) := by unfold nv; rw [if_neg c2]
        obtain ⟨r1, r2, r3⟩ := c3
        rw [if_pos (by omega)]
        have := ext_four (s := s) (a := 0) (who := ((g s 0 : Int) - 65).toNat) (n := ((nv s 0 : Nat) : Int).toNat) (by omega) (by omega) (by omega) (by omega) (by omega) (by omega) (by omega) r3
        rw [this]
        rw [show 0 + 4 = s.size by omega]; exact hall
      · exfalso; apply hne; unfold fresh; rw [if_pos ⟨p1, p2, c⟩, if_neg c2, if_neg c3]
  · exfalso; apply h0; rw [← hf]; unfold fresh; rw [if_neg (by omega)]

#print axioms re_new
#print axioms re_epoch
end Go.Proofs.Ytgdhlnfigcaepaa
/-
  Plain mathematics: what is made from names tells how it was made.
-/
namespace Go.Proofs.Ytgdhlnfigcaepaa
open Kw

theorem ext_back (x y : ByteArray) : (x ++ y).extract x.size (x ++ y).size = y := by
  refine ext_g (by simp [ByteArray.size_extract, ByteArray.size_append]) ?_
  intro i hi
  have hi' : i < y.size := by simp [ByteArray.size_extract, ByteArray.size_append] at hi; omega
  rw [g_extract _ _ _ i (Nat.le_refl _) (by rw [ByteArray.size_append]; omega), g_shift]

theorem ext_front (x y : ByteArray) (a b : Nat) (hb : b ≤ x.size) : (x ++ y).extract a b = x.extract a b := by
  refine ext_g (by simp [ByteArray.size_extract, ByteArray.size_append]; omega) ?_
  intro i hi
  have hi' : a + i < b := by simp [ByteArray.size_extract, ByteArray.size_append] at hi; omega
  rw [g_extract _ _ _ i (by rw [ByteArray.size_append]; omega) hi', g_extract _ _ _ i hb hi', g_front y (by omega)]

/-- All that tells how a secret was made. -/
def Tells (s : ByteArray) (op who n : Int) (a b : ByteArray) : Prop := ok s = true ∧ mOp s = op ∧ mWho s = who ∧ mN s = n ∧ mA s = a ∧ mB s = b

theorem g0_next (s : ByteArray) : g (nextT s) 0 = 110 := by unfold nextT; rw [g_append]; rfl
theorem g0_key (s : ByteArray) : g (keyT s) 0 = 107 := by unfold keyT; rw [g_append]; rfl

theorem made_next {s : ByteArray} (h : ok s = true) (hs : s.size < 300) : Tells (nextT s) 2 0 0 s ⟨#[]⟩ := by
  have z := next_size s
  have hk : ok (nextT s) = true := ok_yes (by omega) (by rw [len_next h]; omega) (len_next h)
  have c := g0_next s
  have e : (nextT s).extract 1 (nextT s).size = s := ext_back ⟨#[110]⟩ s
  unfold Tells mOp mWho mN mA mB
  simp only [if_pos hk, if_pos c, e]
  exact ⟨hk, trivial, trivial, trivial, trivial, trivial⟩
theorem made_key {s : ByteArray} (h : ok s = true) (hs : s.size < 300) : Tells (keyT s) 3 0 0 s ⟨#[]⟩ := by
  have z := key_size s
  have hk : ok (keyT s) = true := ok_yes (by omega) (by rw [len_key h]; omega) (len_key h)
  have c := g0_key s
  have c1 : g (keyT s) 0 ≠ 110 := by omega
  have e : (keyT s).extract 1 (keyT s).size = s := ext_back ⟨#[107]⟩ s
  unfold Tells mOp mWho mN mA mB
  simp only [if_pos hk, if_neg c1, if_pos c, e]
  exact ⟨hk, trivial, trivial, trivial, trivial, trivial⟩
theorem made_epoch {a b : ByteArray} (ha : ok a = true) (hb : ok b = true) (hs : a.size + b.size < 300) : Tells (epochT a b) 4 0 0 a b := by
  obtain ⟨p1, p2, p3, c⟩ := epoch_parts ha hb
  obtain ⟨_, a2, _⟩ := ok_facts ha
  have hk : ok (epochT a b) = true := ok_yes (by omega) (by rw [len_epoch ha hb]; omega) (len_epoch ha hb)
  have c1 : g (epochT a b) 0 ≠ 110 := by omega
  have c2 : g (epochT a b) 0 ≠ 107 := by omega
  have z : (⟨#[101]⟩ ++ a : ByteArray).size = 1 + a.size := by simp [ByteArray.size_append]; rfl
  have e1 : (epochT a b).extract 1 (1 + a.size) = a := by
    have e := ext_front (⟨#[101]⟩ ++ a) b 1 (1 + a.size) (by omega)
    have e' := ext_back ⟨#[101]⟩ a
    rw [z] at e'
    exact e.trans e'
  have e2 : (epochT a b).extract (1 + a.size) (epochT a b).size = b := by
    have e := ext_back (⟨#[101]⟩ ++ a) b
    rw [z] at e
    exact e
  unfold Tells mOp mWho mN mA mB
  simp only [if_pos hk, if_neg c1, if_neg c2, if_pos c, p1, e1, e2]
  exact ⟨hk, trivial, trivial, trivial, trivial, trivial⟩
theorem made_say {s : ByteArray} {who : Nat} (h : ok s = true) (hw : who < 8) (hs : 2 + s.size ≤ 300) : Tells (sayT s who) 5 (who : Int) 0 s ⟨#[]⟩ := by
  obtain ⟨p1, p2, c, p4⟩ := say_parts h hw
  have hk : ok (sayT s who) = true := ok_yes (by omega) (by rw [len_say h hw]; omega) (len_say h hw)
  have c1 : g (sayT s who) 0 ≠ 110 := by omega
  have c2 : g (sayT s who) 0 ≠ 107 := by omega
  have c3 : g (sayT s who) 0 ≠ 101 := by omega
  have z : (⟨#[109]⟩ ++ by1 (65 + who) : ByteArray).size = 2 := by simp [ByteArray.size_append, by1_size]; rfl
  have e : (sayT s who).extract 2 (sayT s who).size = s := by
    have e := ext_back (⟨#[109]⟩ ++ by1 (65 + who)) s
    rw [z] at e
    exact e
  unfold Tells mOp mWho mN mA mB
  simp only [if_pos hk, if_neg c1, if_neg c2, if_neg c3, if_pos c, p4, e]
  exact ⟨hk, trivial, by omega, trivial, trivial, trivial⟩
theorem made_room {s : ByteArray} {room : Nat} (h : ok s = true) (h1 : 1 ≤ room) (hw : room < 10) (hs : 2 + s.size ≤ 300) : Tells (roomT s room) 6 0 (room : Int) s ⟨#[]⟩ := by
  obtain ⟨p1, p2, c, p4⟩ := room_parts h hw
  have hk : ok (roomT s room) = true := ok_yes (by omega) (by rw [len_room h h1 hw]; omega) (len_room h h1 hw)
  have c1 : g (roomT s room) 0 ≠ 110 := by omega
  have c2 : g (roomT s room) 0 ≠ 107 := by omega
  have c3 : g (roomT s room) 0 ≠ 101 := by omega
  have c4 : g (roomT s room) 0 ≠ 109 := by omega
  have z : (⟨#[114]⟩ ++ dec room : ByteArray).size = 2 := by rw [ByteArray.size_append, dec_size, if_pos hw]; rfl
  have e : (roomT s room).extract 2 (roomT s room).size = s := by
    have e := ext_back (⟨#[114]⟩ ++ dec room) s
    rw [z] at e
    exact e
  unfold Tells mOp mWho mN mA mB
  simp only [if_pos hk, if_neg c1, if_neg c2, if_neg c3, if_neg c4, if_pos c, p4, e]
  exact ⟨hk, trivial, trivial, by omega, trivial, trivial⟩

theorem next_inj {s t : ByteArray} (h : nextT s = nextT t) : s = t := by
  have e := ext_back ⟨#[110]⟩ s
  have e' := ext_back ⟨#[110]⟩ t
  have h' : (⟨#[110]⟩ ++ s : ByteArray) = ⟨#[110]⟩ ++ t := h
  rw [h'] at e
  exact e.symm.trans e'
theorem next_key (s : ByteArray) (t : ByteArray) : nextT s ≠ keyT t := by
  intro h
  have h1 := g0_next s
  rw [h, g0_key t] at h1
  omega

theorem epoch_bad {a b : ByteArray} (h : ok a = false ∨ ok b = false ∨ 300 ≤ a.size + b.size) : mkEpoch a b = ⟨#[]⟩ := by
  unfold mkEpoch
  by_cases hc : ok a = true ∧ ok b = true
  · rw [if_pos hc]
    unfold cap
    have := epoch_size a b
    rw [if_neg]
    rcases h with h | h | h
    · rw [hc.1] at h; cases h
    · rw [hc.2] at h; cases h
    · omega
  · rw [if_neg hc]
theorem epoch_good {a b : ByteArray} (ha : ok a = true) (hb : ok b = true) (hs : a.size + b.size < 300) : mkEpoch a b = epochT a b := by
  unfold mkEpoch
  have := epoch_size a b
  rw [if_pos ⟨ha, hb⟩, cap_self (made_epoch ha hb hs).1]
theorem epoch_swap {a b : ByteArray} (ha : ok a = true) (hb : ok b = true) (hs : a.size + b.size < 300) : (mkEpoch b a = epochT a b) ↔ a = b := by
  rw [epoch_good hb ha (by omega)]
  constructor
  · intro h
    have h1 := (made_epoch ha hb hs).2.2.2.2.1
    rw [← h, (made_epoch hb ha (by omega)).2.2.2.2.1] at h1
    exact h1.symm
  · intro h; subst h; rfl

theorem beq_list {x y : ByteArray} : (x.toList == y.toList) = true ↔ x = y := by
  constructor
  · intro h
    have h1 : x.toList = y.toList := by simpa using h
    have h2 := congrArg (fun l => (⟨l.toArray⟩ : ByteArray)) h1
    exact ByteArray.ext (by simpa [ByteArray.toList_eq] using h2)
  · intro h; subst h; simp
theorem beq_beq {x y u v : ByteArray} (h : x = y ↔ u = v) : ((x.toList == y.toList) == (u.toList == v.toList)) = true := by
  have : (x.toList == y.toList) = (u.toList == v.toList) := by
    rw [Bool.eq_iff_iff, beq_list, beq_list]; exact h
  rw [this]; simp

#print axioms made_epoch
#print axioms epoch_swap
end Go.Proofs.Ytgdhlnfigcaepaa
