/-
  Contracts of the specification's functions on names: they answer as the plain function on names does.
-/
import Derived.Test.YtgdhlnfigcaepaaFnWinTakeB2
import Derived.Deep.RegionHeld3
import Derived.Test.YtgdhlnfigcaepaaFnWinTakeB1
namespace Go.Proofs.Ytgdhlnfigcaepaa
open Go.RowKit

set_option maxHeartbeats 400000 in
theorem l1More_any (n m : Nat) (x y : Int) (hx : x = (n : Int)) (hy : y = (m : Int)) (hn : n ≤ 1000) (hm : m ≤ 1000) (w : World) :
    Calls Try.prog 75 #[.int .i64 x, .int .i64 y] w fun e w' => e = .returned (.int .i64 (Kw.more n m : Int)) ∧ w' = w := by
  subst hx hy
  by_cases h : m = 0
  · subst h
    rw [Kw.more_zero rfl]
    go_enter Try.func75, Try.ntmps75
    go_wp2
    go_ret
    exact ⟨rfl, rfl⟩
  · rw [Kw.more_pos h]
    have e : ((m : Int) == 0) = false := by simp; omega
    clear h
    go_enter Try.func75, Try.ntmps75
    go_wp2
    go_ret
    exact ⟨rfl, rfl⟩

theorem ret_i64 {a b : Int} (h : a = b) : Ending.returned (.int .i64 a) = .returned (.int .i64 b) := by rw [h]

theorem list_ne {x y : ByteArray} (h : (!x.toList == y.toList) = true) : x ≠ y := by
  intro e; subst e; simp at h
theorem list_eq {x y : ByteArray} (h : (!x.toList == y.toList) = false) : x = y := by
  have h1 : x.toList = y.toList := by simpa using h
  have h2 := congrArg (fun l => (⟨l.toArray⟩ : ByteArray)) h1
  exact ByteArray.ext (by simpa [ByteArray.toList_eq] using h2)

theorem fr_round {s : ByteArray} {a j d m : Nat} (hj : Hid (j = a + 1 + d)) (hlt : j < s.size) (hm : Hid (m = dv s (a + 1) d)) (hall : Hid (∀ i, i < d → 48 ≤ Kw.g s (a + 1 + i) ∧ Kw.g s (a + 1 + i) ≤ 57)) (hg : Hid (Kw.g s j = s[j].toNat)) (hb : Hid (m < 10 ^ d))
    (h48 : (48 : Int) ≤ (s[j].toNat : Int)) (h57 : (s[j].toNat : Int) ≤ 57) (hd : (j : Int) < (a : Int) + 4) :
    (∃ m' j' d' : Nat, j' = a + 1 + d' ∧ d' ≤ 3 ∧ Value.int IntKind.i64 ((j : Int) + 1) = .int .i64 (j' : Int) ∧ Value.int IntKind.i64 ((m : Int) * 10 + ((s[j].toNat : Int) - 48)) = .int .i64 (m' : Int) ∧ j' ≤ s.size ∧ m' < 10 ^ d' ∧ Hid (m' = dv s (a + 1) d') ∧ Hid (∀ i, i < d' → 48 ≤ Kw.g s (a + 1 + i) ∧ Kw.g s (a + 1 + i) ≤ 57)) ∧
    ((a : Int) + 4 - intOf (Value.int IntKind.i64 ((j : Int) + 1))).toNat < ((a : Int) + 4 - intOf (Value.int IntKind.i64 (j : Int))).toNat := by
  have e1 := hj.out
  have e2 := hm.out
  have e3 := hall.out
  have e4 := hg.out
  have e5 := hb.out
  refine ⟨⟨m * 10 + (s[j].toNat - 48), j + 1, d + 1, by omega, by omega, by simp, ?_, by omega, ?_, ?_, ?_⟩, by simp [intOf]; omega⟩
  · congr 1; omega
  · rw [Nat.pow_succ]; omega
  · show _ = dv s (a + 1) d * 10 + (Kw.g s (a + 1 + d) - 48)
    rw [← e1, e4, ← e2]
  · intro i hi
    by_cases hid : i < d
    · exact e3 i hid
    · have : i = d := by omega
      subst this
      rw [← e1, e4]; omega

set_option maxHeartbeats 1000000 in
theorem l1Fresh_any (s : ByteArray) (a : Nat) (x : Int) (hx : x = (a : Int)) (hs : s.size ≤ 300) (ha : a < s.size) (w : World) :
    Calls Try.prog 76 #[.string s, .int .i64 x] w fun e w' => e = .returned (.int .i64 (Kw.fresh s a : Int)) ∧ Below w.heap.size w w' := by
  subst hx
  have ha2 : (a : Int) < (s.size : Int) := by omega
  have hga : Hid (Kw.g s a = s[a].toNat) := Kw.g_in ha
  by_cases h65 : (s[a].toNat : Int) < 65
  · have hf : Hid (Kw.fresh s a = 0) := by unfold Kw.fresh; exact if_neg (by rw [hga.out]; omega)
    go_enter Try.func76, Try.ntmps76
    go_wp2_with fail
    go_ret
    exact ⟨ret_i64 (by rw [hf.out]; rfl), Below.refl _ _⟩
  · have d65 : decide ((s[a].toNat : Int) < 65) = false := by simp; omega
    by_cases h72 : (72 : Int) < (s[a].toNat : Int)
    · have hf : Hid (Kw.fresh s a = 0) := by unfold Kw.fresh; exact if_neg (by rw [hga.out]; omega)
      go_enter Try.func76, Try.ntmps76
      go_wp2_with fail
      go_ret
      exact ⟨ret_i64 (by rw [hf.out]; rfl), Below.refl _ _⟩
    · have d72 : decide ((72 : Int) < (s[a].toNat : Int)) = false := by simp; omega
      go_enter Try.func76, Try.ntmps76
      go_wp2_with fail
      go_loop [5, 6] (fun n k => ∃ m j d : Nat, j = a + 1 + d ∧ d ≤ 3 ∧ k = .int .i64 (j : Int) ∧ n = .int .i64 (m : Int) ∧ j ≤ s.size ∧ m < 10 ^ d ∧ Hid (m = dv s (a + 1) d) ∧ Hid (∀ i, i < d → 48 ≤ Kw.g s (a + 1 + i) ∧ Kw.g s (a + 1 + i) ≤ 57)) (fun _ k => ((a : Int) + 4 - intOf k).toNat)
      case atStart => exact ⟨0, a + 1, 0, by omega, by omega, by simp, rfl, by omega, by simp, rfl, fun i hi => by omega⟩
      case round =>
        obtain ⟨m, j, d, hj0, hd, rfl, rfl, hle, hb0, hm, hall⟩ := hrel
        have hj := hide hj0
        have hj1 : a < j := by omega
        have hj3 : j ≤ a + 4 := by omega
        have hb : m ≤ 999 := by
          match d, hd, hb0 with
          | 0, _, h => omega
          | 1, _, h => omega
          | 2, _, h => omega
          | 3, _, h => omega
        have hb1 := hide hb0
        clear hj0 hb0
        by_cases hlt : j < s.size
        · have hlt2 : (j : Int) < (s.size : Int) := by omega
          have hgj : Hid (Kw.g s j = s[j].toNat) := Kw.g_in hlt
          have hnd : decide ((s.size : Int) ≤ (j : Int)) = false := by simp; omega
          have hnd2 : decide (s.size ≤ j) = false := by simp; omega
          by_cases h59 : (s[j].toNat : Int) = 59
          · have hne : ((s[j].toNat : Int) != 59) = false := by simp; omega
            have h57 : decide ((s[j].toNat : Int) ≤ 57) = false := by simp; omega
            have h48 : (48 : Int) ≤ (s[j].toNat : Int) := by omega
            have h65' : (65 : Int) ≤ (s[a].toNat : Int) := by omega
            have h72' : (s[a].toNat : Int) ≤ 72 := by omega
            have i1 : (a : Int) ≤ (j : Int) + 1 := by omega
            have i2 : (j : Int) + 1 ≤ (s.size : Int) := by omega
            have i3 : IntKind.i64.wrap ((j : Int) + 1) = (j : Int) + 1 := by simp [IntKind.wrap, IntKind.bits, IntKind.signed]; omega
            have i4 : (0 : Int) ≤ (a : Int) := by omega
            have i5 : (0 : Int) ≤ (j : Int) + 1 := by omega
            have v1 : IntKind.u8.wrap ((s[a].toNat : Int) - 65) = (s[a].toNat : Int) - 65 := by simp [IntKind.wrap, IntKind.bits, IntKind.signed]; omega
            have v2 : IntKind.i64.wrap ((s[a].toNat : Int) - 65) = (s[a].toNat : Int) - 65 := by simp [IntKind.wrap, IntKind.bits, IntKind.signed]; omega
            have H59 : Hid (Kw.g s j = 59) := by show Kw.g s j = 59; rw [hgj.out]; omega
            clear h59
            go_wp2_with fail
            go_region_held3 (fun _ => True) (trivial) ((go_at_call 74; refine (sMakNew_any _ _ _).mono ?_; rintro e w' ⟨rfl, hb⟩))
            go_wp2_with fail
            · go_ret
              rename_i hx
              rw [← hga.out] at hx
              exact ⟨ret_i64 (by rw [fr_ne hj.out hlt hm.out hall.out H59.out (by rw [hga.out]; omega) (by rw [hga.out]; omega) (list_ne hx)]; rfl), (Below.drew (Below.refl w.heap.size w)).trans hb⟩
            · go_ret
              rename_i hx
              rw [← hga.out] at hx
              refine ⟨ret_i64 (by rw [fr_eq hj.out hd hlt hm.out hall.out H59.out (by rw [hga.out]; omega) (by rw [hga.out]; omega) (list_eq hx)]; omega), (Below.drew (Below.refl w.heap.size w)).trans hb⟩
          · have hne : ((s[j].toNat : Int) != 59) = true := by simp; omega
            have H59 : Hid (Kw.g s j ≠ 59) := by show Kw.g s j ≠ 59; rw [hgj.out]; omega
            clear h59
            go_wp2_with fail
            case roundEnd =>
              have q48 : (48 : Int) ≤ (s[j].toNat : Int) := by assumption
              have q57 : (s[j].toNat : Int) ≤ 57 := by assumption
              have qd : (j : Int) < (a : Int) + 4 := by assumption
              exact fr_round hj hlt hm hall hgj hb1 q48 q57 qd
            all_goals
              go_quiet (fail)
              go_wp2_with fail
              go_ret
              exact ⟨ret_i64 (by rw [fr_no hj.out hd hall.out H59.out (by rw [hgj.out]; have := hj.out; omega)]; rfl), below_drewN (Below.refl _ _) _⟩
        · have H59 : Hid (Kw.g s j = 256) := Kw.g_out (by omega)
          have hge : decide ((s.size : Int) ≤ (j : Int)) = true := by simp; omega
          have hge2 : decide (s.size ≤ j) = true := by simp; omega
          have hge3 : s.size ≤ j := by omega
          go_wp2_with fail
          go_quiet (fail)
          go_wp2_with fail
          go_ret
          exact ⟨ret_i64 (by rw [fr_no hj.out hd hall.out (by rw [H59.out]; omega) (by rw [H59.out]; omega)]; rfl), below_drewN (Below.refl _ _) _⟩


/-- The specification's reading of the name at place a is done as it must be. -/
def SizeAt (s : ByteArray) (a : Nat) : Prop := ∀ (x : Int) (w : World), x = (a : Int) →
    Calls Try.prog 61 #[.string s, .int .i64 x] w fun e w' => e = .returned (.int .i64 (Kw.len s a : Int)) ∧ Below w.heap.size w w'

theorem ret_len {a b : Nat} (h : a = b) : Ending.returned (.int .i64 (a : Int)) = .returned (.int .i64 (b : Int)) := by rw [h]

set_option maxHeartbeats 400000 in
theorem l1Size_out (s : ByteArray) (a : Nat) (ha : s.size ≤ a) : SizeAt s a := by
  intro x w hx
  subst hx
  have hl : Hid (Kw.len s a = 0) := Kw.len_out ha
  go_enter Try.func61, Try.ntmps61
  go_wp2_with fail
  go_ret
  exact ⟨ret_i64 (by rw [hl.out]; rfl), Below.refl _ _⟩

theorem len_300 {s : ByteArray} (hs : s.size ≤ 300) (a : Nat) : Kw.len s a ≤ 300 := by
  by_cases h : Kw.len s a = 0
  · omega
  · have := Kw.len_le h; omega

set_option maxHeartbeats 1000000 in
theorem l1Size_step (s : ByteArray) (hs : s.size ≤ 300) (a : Nat) (ha : a < s.size) (ih : ∀ m, a < m → SizeAt s m) : SizeAt s a := by
  intro x w hx
  subst hx
  have ha2 : (a : Int) < (s.size : Int) := by omega
  have hga : Hid (Kw.g s a = s[a].toNat) := Kw.g_in ha
  have hl1 := len_300 hs (a + 1)
  have hl2 := len_300 hs (a + 2)
  have I1 := ih (a + 1) (by omega)
  have I2 := ih (a + 2) (by omega)
  have IH := hide ih
  clear ih
  by_cases c1 : s[a].toNat = 110
  · have e1 : ((s[a].toNat : Int) == 110) = true := by simp; omega
    have hl : Hid (Kw.len s a = Kw.more 1 (Kw.len s (a + 1))) := Kw.len_nk (.inl (by rw [hga.out]; exact c1))
    clear c1
    go_enter Try.func61, Try.ntmps61
    go_wp2_with fail
    refine (I1 _ _ (by omega)).mono ?_
    rintro e w1 ⟨rfl, hb1⟩
    go_wp2_with fail
    refine (l1More_any 1 (Kw.len s (a + 1)) _ _ rfl rfl (by omega) (by omega) _).mono ?_
    rintro e w2 ⟨rfl, rfl⟩
    go_wp2_with fail
    go_ret
    exact ⟨ret_len hl.out.symm, hb1⟩
  have e1 : ((s[a].toNat : Int) == 110) = false := by simp; omega
  by_cases c2 : s[a].toNat = 107
  · have e2 : ((s[a].toNat : Int) == 107) = true := by simp; omega
    have hl : Hid (Kw.len s a = Kw.more 1 (Kw.len s (a + 1))) := Kw.len_nk (.inr (by rw [hga.out]; exact c2))
    clear c1 c2
    go_enter Try.func61, Try.ntmps61
    go_wp2_with fail
    refine (I1 _ _ (by omega)).mono ?_
    rintro e w1 ⟨rfl, hb1⟩
    go_wp2_with fail
    refine (l1More_any 1 (Kw.len s (a + 1)) _ _ rfl rfl (by omega) (by omega) _).mono ?_
    rintro e w2 ⟨rfl, rfl⟩
    go_wp2_with fail
    go_ret
    exact ⟨ret_len hl.out.symm, hb1⟩
  have e2 : ((s[a].toNat : Int) == 107) = false := by simp; omega
  by_cases c3 : s[a].toNat = 109
  · have e3 : ((s[a].toNat : Int) == 109) = true := by simp; omega
    have hu := Kw.len_unfold s a
    rw [hga.out, if_neg (by omega), if_pos c3] at hu
    clear c1 c2 c3
    by_cases d1 : a + 1 < s.size
    · have d2 : decide ((s.size : Int) ≤ (a : Int) + 1) = false := by simp; omega
      have hg1 := Kw.g_in d1
      by_cases d3 : 65 ≤ s[a + 1].toNat ∧ s[a + 1].toNat ≤ 72
      · have hl : Hid (Kw.len s a = Kw.more 2 (Kw.len s (a + 2))) := by show Kw.len s a = _; rw [hu, hg1, if_pos d3]
        have d4 : decide ((s[a + 1].toNat : Int) < 65) = false := by simp; omega
        have d5 : decide ((72 : Int) < (s[a + 1].toNat : Int)) = false := by simp; omega
        clear hu hg1 d3
        go_enter Try.func61, Try.ntmps61
        go_wp2_with fail
        refine (I2 _ _ (by omega)).mono ?_
        rintro e w1 ⟨rfl, hb1⟩
        go_wp2_with fail
        refine (l1More_any 2 (Kw.len s (a + 2)) _ _ rfl rfl (by omega) (by omega) _).mono ?_
        rintro e w2 ⟨rfl, rfl⟩
        go_wp2_with fail
        go_ret
        exact ⟨ret_len hl.out.symm, hb1⟩
      · have hl : Hid (Kw.len s a = 0) := by show Kw.len s a = _; rw [hu, hg1, if_neg d3]
        clear hu hg1
        by_cases d4 : (s[a + 1].toNat : Int) < 65
        · clear d3
          go_enter Try.func61, Try.ntmps61
          go_wp2_with fail
          go_ret
          exact ⟨ret_i64 (by rw [hl.out]; rfl), Below.refl _ _⟩
        · have d5 : decide ((s[a + 1].toNat : Int) < 65) = false := by simp; omega
          have d6 : (72 : Int) < (s[a + 1].toNat : Int) := by omega
          clear d3
          go_enter Try.func61, Try.ntmps61
          go_wp2_with fail
          go_ret
          exact ⟨ret_i64 (by rw [hl.out]; rfl), Below.refl _ _⟩
    · have d2 : (s.size : Int) ≤ (a : Int) + 1 := by omega
      have hl : Hid (Kw.len s a = 0) := by show Kw.len s a = _; rw [hu, Kw.g_out (by omega), if_neg (by omega)]
      clear hu
      go_enter Try.func61, Try.ntmps61
      go_wp2_with fail
      go_ret
      exact ⟨ret_i64 (by rw [hl.out]; rfl), Below.refl _ _⟩
  have e3 : ((s[a].toNat : Int) == 109) = false := by simp; omega
  by_cases c4 : s[a].toNat = 114
  · have e4 : ((s[a].toNat : Int) == 114) = true := by simp; omega
    have hu := Kw.len_unfold s a
    rw [hga.out, if_neg (by omega), if_neg c3, if_pos c4] at hu
    clear c1 c2 c3 c4
    by_cases d1 : a + 1 < s.size
    · have d2 : decide ((s.size : Int) ≤ (a : Int) + 1) = false := by simp; omega
      have hg1 := Kw.g_in d1
      by_cases d3 : 49 ≤ s[a + 1].toNat ∧ s[a + 1].toNat ≤ 57
      · have hl : Hid (Kw.len s a = Kw.more 2 (Kw.len s (a + 2))) := by show Kw.len s a = _; rw [hu, hg1, if_pos d3]
        have d4 : decide ((s[a + 1].toNat : Int) < 49) = false := by simp; omega
        have d5 : decide ((57 : Int) < (s[a + 1].toNat : Int)) = false := by simp; omega
        clear hu hg1 d3
        go_enter Try.func61, Try.ntmps61
        go_wp2_with fail
        refine (I2 _ _ (by omega)).mono ?_
        rintro e w1 ⟨rfl, hb1⟩
        go_wp2_with fail
        refine (l1More_any 2 (Kw.len s (a + 2)) _ _ rfl rfl (by omega) (by omega) _).mono ?_
        rintro e w2 ⟨rfl, rfl⟩
        go_wp2_with fail
        go_ret
        exact ⟨ret_len hl.out.symm, hb1⟩
      · have hl : Hid (Kw.len s a = 0) := by show Kw.len s a = _; rw [hu, hg1, if_neg d3]
        clear hu hg1
        by_cases d4 : (s[a + 1].toNat : Int) < 49
        · clear d3
          go_enter Try.func61, Try.ntmps61
          go_wp2_with fail
          go_ret
          exact ⟨ret_i64 (by rw [hl.out]; rfl), Below.refl _ _⟩
        · have d5 : decide ((s[a + 1].toNat : Int) < 49) = false := by simp; omega
          have d6 : (57 : Int) < (s[a + 1].toNat : Int) := by omega
          clear d3
          go_enter Try.func61, Try.ntmps61
          go_wp2_with fail
          go_ret
          exact ⟨ret_i64 (by rw [hl.out]; rfl), Below.refl _ _⟩
    · have d2 : (s.size : Int) ≤ (a : Int) + 1 := by omega
      have hl : Hid (Kw.len s a = 0) := by show Kw.len s a = _; rw [hu, Kw.g_out (by omega), if_neg (by omega)]
      clear hu
      go_enter Try.func61, Try.ntmps61
      go_wp2_with fail
      go_ret
      exact ⟨ret_i64 (by rw [hl.out]; rfl), Below.refl _ _⟩
  have e4 : ((s[a].toNat : Int) == 114) = false := by simp; omega
  by_cases c5 : s[a].toNat = 101
  · have e5 : ((s[a].toNat : Int) == 101) = true := by simp; omega
    have hu := Kw.len_unfold s a
    rw [hga.out, if_neg (by omega), if_neg c3, if_neg c4, if_pos c5] at hu
    clear c1 c2 c3 c4 c5
    by_cases d1 : Kw.len s (a + 1) = 0
    · have hl : Hid (Kw.len s a = 0) := by show Kw.len s a = _; rw [hu, if_pos d1]
      have d2 : ((Kw.len s (a + 1) : Int) == 0) = true := by simp; omega
      clear hu d1
      go_enter Try.func61, Try.ntmps61
      go_wp2_with fail
      refine (I1 _ _ (by omega)).mono ?_
      rintro e w1 ⟨rfl, hb1⟩
      go_wp2_with fail
      go_ret
      exact ⟨ret_i64 (by rw [hl.out]; rfl), hb1⟩
    · have hl : Hid (Kw.len s a = Kw.more (1 + Kw.len s (a + 1)) (Kw.len s (a + 1 + Kw.len s (a + 1)))) := by show Kw.len s a = _; rw [hu, if_neg d1]
      have d2 : ((Kw.len s (a + 1) : Int) == 0) = false := by simp; omega
      have I3 := IH.out (a + 1 + Kw.len s (a + 1)) (by omega)
      have hl3 := len_300 hs (a + 1 + Kw.len s (a + 1))
      clear hu d1
      go_enter Try.func61, Try.ntmps61
      go_wp2_with fail
      refine (I1 _ _ (by omega)).mono ?_
      rintro e w1 ⟨rfl, hb1⟩
      go_wp2_with fail
      refine (I3 _ _ (by omega)).mono ?_
      rintro e w2 ⟨rfl, hb2⟩
      go_wp2_with fail
      refine (l1More_any (1 + Kw.len s (a + 1)) (Kw.len s (a + 1 + Kw.len s (a + 1))) _ _ (by omega) rfl (by omega) (by omega) _).mono ?_
      rintro e w3 ⟨rfl, rfl⟩
      go_wp2_with fail
      go_ret
      exact ⟨ret_len hl.out.symm, hb1.trans (hb2.mono hb1.size)⟩
  have e5 : ((s[a].toNat : Int) == 101) = false := by simp; omega
  have hl : Hid (Kw.len s a = Kw.fresh s a) := Kw.len_else (by rw [hga.out]; exact c1) (by rw [hga.out]; exact c2) (by rw [hga.out]; exact c3) (by rw [hga.out]; exact c4) (by rw [hga.out]; exact c5)
  clear c1 c2 c3 c4 c5
  go_enter Try.func61, Try.ntmps61
  go_wp2_with fail
  refine (l1Fresh_any s a _ rfl hs ha _).mono ?_
  rintro e w1 ⟨rfl, hb1⟩
  go_wp2_with fail
  go_ret
  exact ⟨ret_len hl.out.symm, hb1⟩

theorem l1Size_all (s : ByteArray) (hs : s.size ≤ 300) : ∀ f a, s.size - a ≤ f → SizeAt s a := by
  intro f
  induction f with
  | zero => intro a h; exact l1Size_out s a (by omega)
  | succ f ih =>
    intro a h
    by_cases ha : a < s.size
    · exact l1Size_step s hs a ha (fun m h1 => ih m (by omega))
    · exact l1Size_out s a (by omega)

theorem ret_bool {a b : Bool} (h : a = b) : Ending.returned (.bool a) = .returned (.bool b) := by rw [h]
theorem isEmpty_no {s : ByteArray} (h : s.size ≠ 0) : s.toList.isEmpty = false := by
  rw [List.isEmpty_eq_false_iff]
  intro e
  apply h
  have := congrArg List.length e
  simpa [ByteArray.toList_eq] using this
set_option maxHeartbeats 400000 in
theorem sSecOk_any (s : ByteArray) (w : World) (hm : s.size ≤ maxLen) :
    Calls Try.prog 37 #[.string s] w fun e w' => e = .returned (.bool (Kw.ok s)) ∧ Below w.heap.size w w' := by
  unfold maxLen at hm
  by_cases h0 : s.size = 0
  · obtain rfl := empty_of h0
    rw [ok_empty]
    clear hm h0
    go_enter Try.func37, Try.ntmps37
    go_wp2_with fail
    go_ret
    exact ⟨rfl, Below.refl _ _⟩
  have he := isEmpty_no h0
  by_cases hs : s.size ≤ 300
  · have H := l1Size_all s hs s.size 0 (by omega)
    have hk : Hid (Kw.ok s = ((Kw.len s 0 : Int) == (s.size : Int))) := ok_eq hs h0
    clear h0
    go_enter Try.func37, Try.ntmps37
    go_wp2_with fail
    refine (H _ _ rfl).mono ?_
    rintro e w1 ⟨rfl, hb1⟩
    go_wp2_with fail
    go_ret
    exact ⟨ret_bool hk.out.symm, hb1⟩
  · have hk : Hid (Kw.ok s = false) := ok_long (by omega)
    have hd : decide ((s.size : Int) ≤ 300) = false := by simp; omega
    clear h0 hs
    go_enter Try.func37, Try.ntmps37
    go_wp2_with fail
    go_ret
    exact ⟨ret_bool hk.out.symm, Below.refl _ _⟩

set_option maxHeartbeats 400000 in
theorem l1Ok_any (s : ByteArray) (w : World) (hm : s.size ≤ maxLen) :
    Calls Try.prog 77 #[.string s] w fun e w' => e = .returned (.string (only s)) ∧ Below w.heap.size w w' := by
  have M := hide hm
  clear hm
  cases hk : Kw.ok s with
  | true =>
    rw [show only s = s by unfold only; rw [if_pos hk]]
    have K := hide hk
    clear hk
    go_enter Try.func77, Try.ntmps77
    go_wp2_with fail
    refine (sSecOk_any s _ M.out).mono ?_
    rw [K.out]
    rintro e w1 ⟨rfl, hb1⟩
    go_wp2_with fail
    go_ret
    exact ⟨rfl, hb1⟩
  | false =>
    rw [show only s = ⟨#[]⟩ by unfold only; rw [if_neg (by rw [hk]; simp)]]
    have K := hide hk
    clear hk
    go_enter Try.func77, Try.ntmps77
    go_wp2_with fail
    refine (sSecOk_any s _ M.out).mono ?_
    rw [K.out]
    rintro e w1 ⟨rfl, hb1⟩
    go_wp2_with fail
    go_ret
    exact ⟨rfl, hb1⟩
#print axioms l1Ok_any
end Go.Proofs.Ytgdhlnfigcaepaa
/-
  Contracts of MakNext, MakKey and MakEpoch, the program's and the specification's.
-/
namespace Go.Proofs.Ytgdhlnfigcaepaa
open Go.RowKit

theorem cap_yes {x : ByteArray} (h : x.size ≤ 300) : cap x = x := by unfold cap; rw [if_pos h]
theorem cap_no {x : ByteArray} (h : 300 < x.size) : cap x = ⟨#[]⟩ := by unfold cap; rw [if_neg (by omega)]

theorem method_next (x : Value) (w : World) : (method 249 99 x "loop.example/keyward/impl.name").run Try.prog w = .ok (125, x) w := by kernel_rfl
theorem method_key (x : Value) (w : World) : (method 249 100 x "loop.example/keyward/impl.name").run Try.prog w = .ok (126, x) w := by kernel_rfl
theorem method_epoch (x : Value) (w : World) : (method 249 102 x "loop.example/keyward/impl.name").run Try.prog w = .ok (127, x) w := by kernel_rfl

set_option maxHeartbeats 400000 in
theorem nextName_any (s : ByteArray) (w : World) (hs : s.size ≤ 300) :
    Calls Try.prog 125 #[.agg #[.string s]] w fun e w' => e = .returned (.string (nextT s)) ∧ Below w.heap.size w w' := by
  go_enter Try.func125, Try.ntmps125
  go_wp2
  go_ret
  exact ⟨ret_str rfl, (Below.refl _ _).alloc (Nat.le_refl _) _⟩

set_option maxHeartbeats 400000 in
theorem keyName_any (s : ByteArray) (w : World) (hs : s.size ≤ 300) :
    Calls Try.prog 126 #[.agg #[.string s]] w fun e w' => e = .returned (.string (keyT s)) ∧ Below w.heap.size w w' := by
  go_enter Try.func126, Try.ntmps126
  go_wp2
  go_ret
  exact ⟨ret_str rfl, (Below.refl _ _).alloc (Nat.le_refl _) _⟩

set_option maxHeartbeats 400000 in
theorem epochName_any (a b : ByteArray) (w : World) (ha : a.size ≤ 300) (hb : b.size ≤ 300) :
    Calls Try.prog 127 #[.agg #[.string a, .string b]] w fun e w' => e = .returned (.string (epochT a b)) ∧ Below w.heap.size w w' := by
  go_enter Try.func127, Try.ntmps127
  go_wp2
  go_ret
  exact ⟨ret_str rfl, (Below.refl _ _).alloc (Nat.le_refl _) _⟩

set_option maxRecDepth 100000 in
set_option maxHeartbeats 400000 in
theorem nameOf_next (s : ByteArray) (w : World) (hs : s.size ≤ 300) :
    Calls Try.prog 60 #[.iface 99 (.agg #[.string s])] w fun e w' => e = .returned (.string (cap (nextT s))) ∧ Below w.heap.size w w' := by
  have hm := method_next
  have hz := next_size s
  by_cases hc : (nextT s).size ≤ 300
  · rw [cap_yes hc]
    have hd : decide ((300 : Int) < ((nextT s).size : Int)) = false := by simp; omega
    clear hz hc
    go_enter Try.func60, Try.ntmps60
    go_wp2_with (go_at_call 125; refine (nextName_any _ _ hs).mono ?_; rintro e w' ⟨rfl, hb⟩)
    go_ret
    exact ⟨rfl, hb⟩
  · rw [cap_no (by omega)]
    have hd : (300 : Int) < ((nextT s).size : Int) := by omega
    clear hz hc
    go_enter Try.func60, Try.ntmps60
    go_wp2_with (go_at_call 125; refine (nextName_any _ _ hs).mono ?_; rintro e w' ⟨rfl, hb⟩)
    go_ret
    exact ⟨rfl, hb⟩

set_option maxHeartbeats 400000 in
theorem sMakNext_any (s : ByteArray) (w : World) (hm : s.size ≤ maxLen) :
    Calls Try.prog 79 #[.string s] w fun e w' => e = .returned (.string (mkNext s)) ∧ Below w.heap.size w w' := by
  have M := hide hm
  clear hm
  cases hk : Kw.ok s with
  | false =>
    rw [show mkNext s = ⟨#[]⟩ by unfold mkNext; rw [if_neg (by rw [hk]; simp)]]
    have K := hide hk
    clear hk
    go_enter Try.func79, Try.ntmps79
    go_wp2_with fail
    refine (sSecOk_any s _ M.out).mono ?_
    rw [K.out]
    rintro e w1 ⟨rfl, hb1⟩
    go_wp2_with fail
    go_ret
    exact ⟨rfl, hb1⟩
  | true =>
    have hz := next_size s
    have hs := (ok_facts hk).1
    rw [show mkNext s = only (nextT s) by unfold mkNext; rw [if_pos hk, only_cap (by omega) (len_next hk)]]
    have M2 : Hid ((nextT s).size ≤ maxLen) := by show _ ≤ maxLen; unfold maxLen; omega
    have K := hide hk
    clear hk hz
    go_enter Try.func79, Try.ntmps79
    go_wp2_with fail
    refine (sSecOk_any s _ M.out).mono ?_
    rw [K.out]
    rintro e w1 ⟨rfl, hb1⟩
    go_wp2_with fail
    refine (l1Ok_any (nextT s) _ M2.out).mono ?_
    rintro e w2 ⟨rfl, hb2⟩
    go_wp2_with fail
    go_ret
    exact ⟨rfl, hb1.trans (hb2.mono hb1.size)⟩
set_option maxRecDepth 100000 in
set_option maxHeartbeats 400000 in
theorem nameOf_key (s : ByteArray) (w : World) (hs : s.size ≤ 300) :
    Calls Try.prog 60 #[.iface 100 (.agg #[.string s])] w fun e w' => e = .returned (.string (cap (keyT s))) ∧ Below w.heap.size w w' := by
  have hm := method_key
  have hz := key_size s
  by_cases hc : (keyT s).size ≤ 300
  · rw [cap_yes hc]
    have hd : decide ((300 : Int) < ((keyT s).size : Int)) = false := by simp; omega
    clear hz hc
    go_enter Try.func60, Try.ntmps60
    go_wp2_with (go_at_call 126; refine (keyName_any _ _ hs).mono ?_; rintro e w' ⟨rfl, hb⟩)
    go_ret
    exact ⟨rfl, hb⟩
  · rw [cap_no (by omega)]
    have hd : (300 : Int) < ((keyT s).size : Int) := by omega
    clear hz hc
    go_enter Try.func60, Try.ntmps60
    go_wp2_with (go_at_call 126; refine (keyName_any _ _ hs).mono ?_; rintro e w' ⟨rfl, hb⟩)
    go_ret
    exact ⟨rfl, hb⟩

set_option maxHeartbeats 400000 in
theorem sMakKey_any (s : ByteArray) (w : World) (hm : s.size ≤ maxLen) :
    Calls Try.prog 80 #[.string s] w fun e w' => e = .returned (.string (mkKey s)) ∧ Below w.heap.size w w' := by
  have M := hide hm
  clear hm
  cases hk : Kw.ok s with
  | false =>
    rw [show mkKey s = ⟨#[]⟩ by unfold mkKey; rw [if_neg (by rw [hk]; simp)]]
    have K := hide hk
    clear hk
    go_enter Try.func80, Try.ntmps80
    go_wp2_with fail
    refine (sSecOk_any s _ M.out).mono ?_
    rw [K.out]
    rintro e w1 ⟨rfl, hb1⟩
    go_wp2_with fail
    go_ret
    exact ⟨rfl, hb1⟩
  | true =>
    have hz := key_size s
    have hs := (ok_facts hk).1
    rw [show mkKey s = only (keyT s) by unfold mkKey; rw [if_pos hk, only_cap (by omega) (len_key hk)]]
    have M2 : Hid ((keyT s).size ≤ maxLen) := by show _ ≤ maxLen; unfold maxLen; omega
    have K := hide hk
    clear hk hz
    go_enter Try.func80, Try.ntmps80
    go_wp2_with fail
    refine (sSecOk_any s _ M.out).mono ?_
    rw [K.out]
    rintro e w1 ⟨rfl, hb1⟩
    go_wp2_with fail
    refine (l1Ok_any (keyT s) _ M2.out).mono ?_
    rintro e w2 ⟨rfl, hb2⟩
    go_wp2_with fail
    go_ret
    exact ⟨rfl, hb1.trans (hb2.mono hb1.size)⟩
set_option maxRecDepth 100000 in
set_option maxHeartbeats 400000 in
theorem nameOf_epoch (a b : ByteArray) (w : World) (ha : a.size ≤ 300) (hb : b.size ≤ 300) :
    Calls Try.prog 60 #[.iface 102 (.agg #[.string a, .string b])] w fun e w' => e = .returned (.string (cap (epochT a b))) ∧ Below w.heap.size w w' := by
  have hm := method_epoch
  have hz := epoch_size a b
  by_cases hc : (epochT a b).size ≤ 300
  · rw [cap_yes hc]
    have hd : decide ((300 : Int) < ((epochT a b).size : Int)) = false := by simp; omega
    clear hz hc
    go_enter Try.func60, Try.ntmps60
    go_wp2_with (go_at_call 127; refine (epochName_any _ _ _ ha hb).mono ?_; rintro e w' ⟨rfl, hb⟩)
    go_ret
    exact ⟨rfl, hb⟩
  · rw [cap_no (by omega)]
    have hd : (300 : Int) < ((epochT a b).size : Int) := by omega
    have hd2 : ((epochT a b).size : Int) ≤ 1000 := by omega
    clear hz hc
    go_enter Try.func60, Try.ntmps60
    go_wp2_with (go_at_call 127; refine (epochName_any _ _ _ ha hb).mono ?_; rintro e w' ⟨rfl, hb⟩)
    go_ret
    exact ⟨rfl, hb⟩

set_option maxHeartbeats 400000 in
theorem sMakEpoch_any (a b : ByteArray) (w : World) (hm : a.size ≤ maxLen) (hn : b.size ≤ maxLen) :
    Calls Try.prog 81 #[.string a, .string b] w fun e w' => e = .returned (.string (mkEpoch a b)) ∧ Below w.heap.size w w' := by
  have M := hide hm
  have N := hide hn
  clear hm hn
  cases hk : Kw.ok a with
  | false =>
    rw [show mkEpoch a b = ⟨#[]⟩ by unfold mkEpoch; rw [if_neg (by rw [hk]; simp)]]
    have K := hide hk
    clear hk
    go_enter Try.func81, Try.ntmps81
    go_wp2_with fail
    refine (sSecOk_any a _ M.out).mono ?_
    rw [K.out]
    rintro e w1 ⟨rfl, hb1⟩
    go_wp2_with fail
    go_ret
    exact ⟨rfl, hb1⟩
  | true =>
    cases hj : Kw.ok b with
    | false =>
      rw [show mkEpoch a b = ⟨#[]⟩ by unfold mkEpoch; rw [if_neg (by rw [hj]; simp)]]
      have K := hide hk
      have J := hide hj
      clear hk hj
      go_enter Try.func81, Try.ntmps81
      go_wp2_with fail
      refine (sSecOk_any a _ M.out).mono ?_
      rw [K.out]
      rintro e w1 ⟨rfl, hb1⟩
      go_wp2_with fail
      refine (sSecOk_any b _ N.out).mono ?_
      rw [J.out]
      rintro e w2 ⟨rfl, hb2⟩
      go_wp2_with fail
      go_ret
      exact ⟨rfl, hb1.trans (hb2.mono hb1.size)⟩
    | true =>
      have ha := (ok_facts hk).1
      have hb := (ok_facts hj).1
      have hz := epoch_size a b
      rw [show mkEpoch a b = only (epochT a b) by unfold mkEpoch; rw [if_pos ⟨hk, hj⟩, only_cap (by omega) (len_epoch hk hj)]]
      have M2 : Hid ((epochT a b).size ≤ maxLen) := by show _ ≤ maxLen; unfold maxLen; omega
      have K := hide hk
      have J := hide hj
      clear hk hj hz
      go_enter Try.func81, Try.ntmps81
      go_wp2_with fail
      refine (sSecOk_any a _ M.out).mono ?_
      rw [K.out]
      rintro e w1 ⟨rfl, hb1⟩
      go_wp2_with fail
      refine (sSecOk_any b _ N.out).mono ?_
      rw [J.out]
      rintro e w2 ⟨rfl, hb2⟩
      go_wp2_with fail
      refine (l1Ok_any (epochT a b) _ M2.out).mono ?_
      rintro e w3 ⟨rfl, hb3⟩
      go_wp2_with fail
      go_ret
      have hb12 := hb1.trans (hb2.mono hb1.size)
      exact ⟨rfl, hb12.trans (hb3.mono hb12.size)⟩

#print axioms sMakNext_any
#print axioms sMakKey_any
#print axioms sMakEpoch_any
end Go.Proofs.Ytgdhlnfigcaepaa
/-
  Contracts of MakSay and MakRoom, the program's and the specification's.
-/
namespace Go.Proofs.Ytgdhlnfigcaepaa
open Go.RowKit

theorem cap_yes2 {x : ByteArray} (h : x.size ≤ 300) : cap x = x := by unfold cap; rw [if_pos h]
theorem cap_no2 {x : ByteArray} (h : 300 < x.size) : cap x = ⟨#[]⟩ := by unfold cap; rw [if_neg (by omega)]

theorem method_say (x : Value) (w : World) : (method 249 83 x "loop.example/keyward/impl.name").run Try.prog w = .ok (108, x) w := by kernel_rfl
theorem method_room (x : Value) (w : World) : (method 249 104 x "loop.example/keyward/impl.name").run Try.prog w = .ok (128, x) w := by kernel_rfl

set_option maxHeartbeats 400000 in
theorem sayName_any (s : ByteArray) (who : Int) (w : World) (hs : s.size ≤ 300) (h0 : 0 ≤ who) (h1 : who < 8) :
    Calls Try.prog 108 #[.agg #[.string s, .int .i64 who]] w fun e w' => e = .returned (.string (sayT s who.toNat)) ∧ Below w.heap.size w w' := by
  have s1 : (by1 (65 + who.toNat)).size = 1 := rfl
  have s2 : ¬ (9223372036854775807 < 2 + s.size) := by omega
  go_enter Try.func108, Try.ntmps108
  go_wp2_with fail
  go_quiet ((go_at_call 109; exact Calls.quiet_of_same (letterOf_any _ _ h0 h1)))
  go_wp2
  go_ret
  exact ⟨ret_str rfl, below_drewN ((Below.refl _ _).alloc (Nat.le_refl _) _) _⟩

set_option maxHeartbeats 400000 in
theorem roomName_any (s : ByteArray) (room : Int) (w : World) (hs : s.size ≤ 300) (h0 : 1 ≤ room) (h1 : room < 10) :
    Calls Try.prog 128 #[.agg #[.string s, .int .i64 room]] w fun e w' => e = .returned (.string (roomT s room.toNat)) ∧ Below w.heap.size w w' := by
  have s1 : (dec room.toNat).size = 1 := by rw [dec_size, if_pos (by omega)]
  have s2 : ¬ (9223372036854775807 < 2 + s.size) := by omega
  have g0 : 0 ≤ room := by omega
  have g1 : room < 100 := by omega
  go_enter Try.func128, Try.ntmps128
  go_wp2_with fail
  go_quiet ((go_at_call 111; exact Calls.quiet_of_same (itoa_any _ _ g0 g1)))
  go_wp2
  go_ret
  exact ⟨ret_str rfl, below_drewN ((Below.refl _ _).alloc (Nat.le_refl _) _) _⟩

set_option maxRecDepth 100000 in
set_option maxHeartbeats 400000 in
theorem nameOf_say (s : ByteArray) (who : Int) (w : World) (hs : s.size ≤ 300) (h0 : 0 ≤ who) (h1 : who < 8) :
    Calls Try.prog 60 #[.iface 83 (.agg #[.string s, .int .i64 who])] w fun e w' => e = .returned (.string (cap (sayT s who.toNat))) ∧ Below w.heap.size w w' := by
  have hm := method_say
  have hz := say_size s who.toNat
  by_cases hc : (sayT s who.toNat).size ≤ 300
  · rw [cap_yes2 hc]
    have hd : decide ((300 : Int) < ((sayT s who.toNat).size : Int)) = false := by simp; omega
    clear hz hc
    go_enter Try.func60, Try.ntmps60
    go_wp2_with (go_at_call 108; refine (sayName_any _ _ _ hs h0 h1).mono ?_; rintro e w' ⟨rfl, hb⟩)
    go_ret
    exact ⟨rfl, hb⟩
  · rw [cap_no2 (by omega)]
    have hd : (300 : Int) < ((sayT s who.toNat).size : Int) := by omega
    have hd2 : ((sayT s who.toNat).size : Int) ≤ 1000 := by omega
    clear hz hc
    go_enter Try.func60, Try.ntmps60
    go_wp2_with (go_at_call 108; refine (sayName_any _ _ _ hs h0 h1).mono ?_; rintro e w' ⟨rfl, hb⟩)
    go_ret
    exact ⟨rfl, hb⟩

set_option maxRecDepth 100000 in
set_option maxHeartbeats 400000 in
theorem nameOf_room (s : ByteArray) (room : Int) (w : World) (hs : s.size ≤ 300) (h0 : 1 ≤ room) (h1 : room < 10) :
    Calls Try.prog 60 #[.iface 104 (.agg #[.string s, .int .i64 room])] w fun e w' => e = .returned (.string (cap (roomT s room.toNat))) ∧ Below w.heap.size w w' := by
  have hm := method_room
  have hz := room_size s room.toNat
  have hy : (dec room.toNat).size = 1 := by rw [dec_size, if_pos (by omega)]
  by_cases hc : (roomT s room.toNat).size ≤ 300
  · rw [cap_yes2 hc]
    have hd : decide ((300 : Int) < ((roomT s room.toNat).size : Int)) = false := by simp; omega
    clear hz hc hy
    go_enter Try.func60, Try.ntmps60
    go_wp2_with (go_at_call 128; refine (roomName_any _ _ _ hs h0 h1).mono ?_; rintro e w' ⟨rfl, hb⟩)
    go_ret
    exact ⟨rfl, hb⟩
  · rw [cap_no2 (by omega)]
    have hd : (300 : Int) < ((roomT s room.toNat).size : Int) := by omega
    have hd2 : ((roomT s room.toNat).size : Int) ≤ 1000 := by omega
    clear hz hc hy
    go_enter Try.func60, Try.ntmps60
    go_wp2_with (go_at_call 128; refine (roomName_any _ _ _ hs h0 h1).mono ?_; rintro e w' ⟨rfl, hb⟩)
    go_ret
    exact ⟨rfl, hb⟩

set_option maxHeartbeats 400000 in
theorem sMakSay_any (s : ByteArray) (who : Int) (w : World) (hm : s.size ≤ maxLen) :
    Calls Try.prog 69 #[.string s, .int .i64 who] w fun e w' => e = .returned (.string (mkSay s who)) ∧ Below w.heap.size w w' := by
  have M := hide hm
  clear hm
  cases hk : Kw.ok s with
  | false =>
    rw [show mkSay s who = ⟨#[]⟩ by unfold mkSay; rw [if_neg (by rw [hk]; simp)]]
    have K := hide hk
    clear hk
    go_enter Try.func69, Try.ntmps69
    go_wp2_with fail
    refine (sSecOk_any s _ M.out).mono ?_
    rw [K.out]
    rintro e w1 ⟨rfl, hb1⟩
    go_wp2_with fail
    go_ret
    exact ⟨rfl, hb1⟩
  | true =>
    have hs := (ok_facts hk).1
    by_cases hbad : who < 0 ∨ 8 ≤ who
    · rw [show mkSay s who = ⟨#[]⟩ by unfold mkSay; rw [if_neg (by omega)]]
      have K := hide hk
      clear hk
      go_enter Try.func69, Try.ntmps69
      go_wp2_with fail
      refine (sSecOk_any s _ M.out).mono ?_
      rw [K.out]
      rintro e w1 ⟨rfl, hb1⟩
      go_wp2_with fail
      refine (l1In_no _ _ _ _ (by omega)).mono ?_
      rintro e w2 ⟨rfl, rfl⟩
      go_wp2_with fail
      go_ret
      exact ⟨rfl, hb1⟩
    · have g0 : 0 ≤ who := by omega
      have g1 : who < 8 := by omega
      have hz := say_size s who.toNat
      rw [show mkSay s who = only (sayT s who.toNat) by unfold mkSay; rw [if_pos ⟨hk, g0, g1⟩, only_cap (by omega) (len_say hk (by omega))]]
      have M2 : Hid ((sayT s who.toNat).size ≤ maxLen) := by show _ ≤ maxLen; unfold maxLen; omega
      have K := hide hk
      clear hk hz hbad
      have s1 : (by1 (65 + who.toNat)).size = 1 := rfl
      have g2 : who ≤ 7 := by omega
      go_enter Try.func69, Try.ntmps69
      go_wp2_with fail
      refine (sSecOk_any s _ M.out).mono ?_
      rw [K.out]
      rintro e w1 ⟨rfl, hb1⟩
      go_wp2_with fail
      refine (l1In_yes _ _ _ _ (by omega) (by omega)).mono ?_
      rintro e w2 ⟨rfl, rfl⟩
      go_wp2_with fail
      refine (l1Who_any _ _ g0 g1).mono ?_
      rintro e w3 ⟨rfl, hb3⟩
      go_wp2_with fail
      refine (l1Ok_any (sayT s who.toNat) _ M2.out).mono ?_
      rintro e w4 ⟨rfl, hb4⟩
      go_wp2_with fail
      go_ret
      have hb13 := hb1.trans (hb3.mono hb1.size)
      exact ⟨rfl, hb13.trans (hb4.mono hb13.size)⟩

set_option maxHeartbeats 400000 in
theorem sMakRoom_any (s : ByteArray) (room : Int) (w : World) (hm : s.size ≤ maxLen) :
    Calls Try.prog 82 #[.string s, .int .i64 room] w fun e w' => e = .returned (.string (mkRoom s room)) ∧ Below w.heap.size w w' := by
  have M := hide hm
  clear hm
  cases hk : Kw.ok s with
  | false =>
    rw [show mkRoom s room = ⟨#[]⟩ by unfold mkRoom; rw [if_neg (by rw [hk]; simp)]]
    have K := hide hk
    clear hk
    go_enter Try.func82, Try.ntmps82
    go_wp2_with fail
    refine (sSecOk_any s _ M.out).mono ?_
    rw [K.out]
    rintro e w1 ⟨rfl, hb1⟩
    go_wp2_with fail
    go_ret
    exact ⟨rfl, hb1⟩
  | true =>
    have hs := (ok_facts hk).1
    by_cases hbad : room < 1 ∨ 9 < room
    · rw [show mkRoom s room = ⟨#[]⟩ by unfold mkRoom; rw [if_neg (by omega)]]
      have K := hide hk
      clear hk
      go_enter Try.func82, Try.ntmps82
      go_wp2_with fail
      refine (sSecOk_any s _ M.out).mono ?_
      rw [K.out]
      rintro e w1 ⟨rfl, hb1⟩
      go_wp2_with fail
      refine (l1In_no _ _ _ _ (by omega)).mono ?_
      rintro e w2 ⟨rfl, rfl⟩
      go_wp2_with fail
      go_ret
      exact ⟨rfl, hb1⟩
    · have g0 : 1 ≤ room := by omega
      have g1 : room ≤ 9 := by omega
      have g3 : room < 10 := by omega
      have hy : (dec room.toNat).size = 1 := by rw [dec_size, if_pos (by omega)]
      have hz := room_size s room.toNat
      rw [show mkRoom s room = only (roomT s room.toNat) by unfold mkRoom; rw [if_pos ⟨hk, g0, g1⟩, only_cap (by omega) (len_room hk (by omega) (by omega))]]
      have M2 : Hid ((roomT s room.toNat).size ≤ maxLen) := by show _ ≤ maxLen; unfold maxLen; omega
      have K := hide hk
      clear hk hz hbad
      have g4 : 0 ≤ room := by omega
      have g5 : room < 100 := by omega
      go_enter Try.func82, Try.ntmps82
      go_wp2_with fail
      refine (sSecOk_any s _ M.out).mono ?_
      rw [K.out]
      rintro e w1 ⟨rfl, hb1⟩
      go_wp2_with fail
      refine (l1In_yes _ _ _ _ (by omega) (by omega)).mono ?_
      rintro e w2 ⟨rfl, rfl⟩
      go_wp2_with fail
      refine (l1Plain_any _ _ g4 g5).mono ?_
      rintro e w3 ⟨rfl, hb3⟩
      go_wp2_with fail
      refine (l1Ok_any (roomT s room.toNat) _ M2.out).mono ?_
      rintro e w4 ⟨rfl, hb4⟩
      go_wp2_with fail
      go_ret
      have hb13 := hb1.trans (hb3.mono hb1.size)
      exact ⟨rfl, hb13.trans (hb4.mono hb13.size)⟩

#print axioms sMakSay_any
#print axioms sMakRoom_any
end Go.Proofs.Ytgdhlnfigcaepaa
/-
  Contracts of the functions that draw secrets' names and texts: each returns a text, not too long, and leaves the reader further on.
-/
namespace Go.Proofs.Ytgdhlnfigcaepaa
open Go.RowKit

/-- What drawing a text comes to. -/
def StrPost (b : Nat) (C : Code) (p K M : Nat) (w : World) (e : Ending) (w' : World) : Prop :=
  ∃ (s : ByteArray) (q : Nat), e = .returned (.string s) ∧ s.size ≤ M ∧ q ≤ p + K ∧ DrC b C q w' ∧ Ex b w w'

theorem cap_300 (x : ByteArray) : (cap x).size ≤ 300 := by
  unfold cap; split
  · assumption
  · show 0 ≤ 300; omega
theorem mkNew_300 (who n : Int) : (mkNew who n).size ≤ 300 := by
  unfold mkNew; split
  · rcases newName_sizes who.toNat n.toNat with h | h <;> omega
  · show 0 ≤ 300; omega
theorem mkNext_300 (s : ByteArray) : (mkNext s).size ≤ 300 := by unfold mkNext; split; exact cap_300 _; show 0 ≤ 300; omega
theorem mkKey_300 (s : ByteArray) : (mkKey s).size ≤ 300 := by unfold mkKey; split; exact cap_300 _; show 0 ≤ 300; omega
theorem mkEpoch_300 (s t : ByteArray) : (mkEpoch s t).size ≤ 300 := by unfold mkEpoch; split; exact cap_300 _; show 0 ≤ 300; omega
theorem mkSay_300 (s : ByteArray) (n : Int) : (mkSay s n).size ≤ 300 := by unfold mkSay; split; exact cap_300 _; show 0 ≤ 300; omega
theorem mkRoom_300 (s : ByteArray) (n : Int) : (mkRoom s n).size ≤ 300 := by unfold mkRoom; split; exact cap_300 _; show 0 ≤ 300; omega

def Kd : Nat → Nat
  | 0 => 2
  | d + 1 => 3 + 2 * Kd d

/-- The secret's name that is drawn at a depth is drawn as it must be. -/
def DrawAt (b : Nat) (C : Code) (d : Nat) : Prop := ∀ (x : Int) (p : Nat) (w : World), x = (d : Int) → DrC b C p w → p + Kd d ≤ 1000000 →
    Calls Try.prog 70 #[.pointer (some ⟨b, 0, none⟩), .int .i64 x] w (StrPost b C p (Kd d) 300 w)

set_option maxHeartbeats 1000000 in
theorem l20Secret_zero (b : Nat) (C : Code) : DrawAt b C 0 := by
  intro x p w hx h hp
  subst hx
  have hD := hide h
  have hp1 : p ≤ 1000000 := by omega
  have hp2 : p + 1 ≤ 1000000 := by unfold Kd at hp; omega
  clear h
  go_enter Try.func70, Try.ntmps70
  go_wp2_with fail
  refine (pick_any b C p 3 _ rfl _ (unhide hD) (by omega) (by omega) hp1).mono ?_
  rintro e w1 ⟨v1, rfl, hv1, d1, x1⟩
  have D1 := hide d1
  clear d1
  go_wp2_with fail
  refine (pick_any b C (p + 1) 4 _ rfl _ (unhide D1) (by omega) (by omega) hp2).mono ?_
  rintro e w2 ⟨v2, rfl, hv2, d2, x2⟩
  have D2 := hide d2
  clear d2
  go_wp2_with fail
  refine (sMakNew_any _ _ _).mono ?_
  rintro e w3 ⟨rfl, hb3⟩
  go_wp2_with fail
  go_ret
  exact ⟨_, p + 1 + 1, rfl, mkNew_300 _ _, by unfold Kd; omega, (unhide D2).below hb3, (x1.trans x2).trans (Ex.of_below b hb3)⟩

set_option maxHeartbeats 4000000 in
theorem l20Secret_succ (b : Nat) (C : Code) (d : Nat) (hd : d ≤ 10) (ih : DrawAt b C d) : DrawAt b C (d + 1) := by
  intro x p w hx h hp
  subst hx
  have hD := hide h
  have hk : Kd (d + 1) = 3 + 2 * Kd d := rfl
  have hK := hide hk
  have hp1 : p ≤ 1000000 := by omega
  have hp2 : p + 1 ≤ 1000000 := by omega
  have hp3 : p + 2 ≤ 1000000 := by omega
  have hp4 : p + 2 + Kd d ≤ 1000000 := by omega
  have hp5 : p + 2 + Kd d + Kd d ≤ 1000000 := by omega
  clear h hk hp
  go_enter Try.func70, Try.ntmps70
  go_wp2_with fail
  refine (pick_any b C p 3 _ rfl _ (unhide hD) (by omega) (by omega) hp1).mono ?_
  rintro e w1 ⟨v1, rfl, hv1, d1, x1⟩
  have D1 := hide d1
  clear d1
  by_cases hv0 : v1 = 0
  · subst hv0
    go_wp2_with fail
    refine (pick_any b C (p + 1) 3 _ rfl _ (unhide D1) (by omega) (by omega) hp2).mono ?_
    rintro e w2 ⟨v2, rfl, hv2, d2, x2⟩
    have D2 := hide d2
    clear d2
    go_wp2_with fail
    refine (pick_any b C (p + 1 + 1) 4 _ rfl _ (unhide D2) (by omega) (by omega) hp3).mono ?_
    rintro e w3 ⟨v3, rfl, hv3, d3, x3⟩
    have D3 := hide d3
    clear d3
    go_wp2_with fail
    refine (sMakNew_any _ _ _).mono ?_
    rintro e w4 ⟨rfl, hb4⟩
    go_wp2_with fail
    go_ret
    exact ⟨_, p + 1 + 1 + 1, rfl, mkNew_300 _ _, by rw [hK.out]; omega, (unhide D3).below hb4, ((x1.trans x2).trans x3).trans (Ex.of_below b hb4)⟩
  have hv0' : ((v1 : Int) == 0) = false := by simp; omega
  clear hv0
  go_wp2_with fail
  refine (pick_any b C (p + 1) 6 _ rfl _ (unhide D1) (by omega) (by omega) hp2).mono ?_
  rintro e w2 ⟨v2, rfl, hv2, d2, x2⟩
  have D2 := hide d2
  have x12 := x1.trans x2
  clear d2 D1 x1 x2
  by_cases hc0 : v2 = 0
  · subst hc0
    go_wp2_with fail
    refine (ih _ (p + 1 + 1) _ (by omega) (unhide D2) hp4).mono ?_
    rintro e w3 ⟨s3, q3, rfl, hs3, hq3, d3, x3⟩
    have D3 := hide d3
    have x13 := x12.trans x3
    clear d3 x3
    go_wp2_with fail
    refine (sMakNext_any s3 _ (le_maxLen (by omega))).mono ?_
    rintro e w4 ⟨rfl, hb4⟩
    go_wp2_with fail
    go_ret
    exact ⟨_, q3, rfl, mkNext_300 _, by rw [hK.out]; omega, (unhide D3).below hb4, x13.trans (Ex.of_below b hb4)⟩
  have he0 : ((v2 : Int) == 0) = false := by simp; omega
  by_cases hc1 : v2 = 1
  · subst hc1
    go_wp2_with fail
    refine (ih _ (p + 1 + 1) _ (by omega) (unhide D2) hp4).mono ?_
    rintro e w3 ⟨s3, q3, rfl, hs3, hq3, d3, x3⟩
    have D3 := hide d3
    have x13 := x12.trans x3
    clear d3 x3
    go_wp2_with fail
    refine (sMakNext_any s3 _ (le_maxLen (by omega))).mono ?_
    rintro e w4 ⟨rfl, hb4⟩
    go_wp2_with fail
    go_ret
    exact ⟨_, q3, rfl, mkNext_300 _, by rw [hK.out]; omega, (unhide D3).below hb4, x13.trans (Ex.of_below b hb4)⟩
  have he1 : ((v2 : Int) == 1) = false := by simp; omega
  by_cases hc2 : v2 = 2
  · subst hc2
    go_wp2_with fail
    refine (ih _ (p + 1 + 1) _ (by omega) (unhide D2) hp4).mono ?_
    rintro e w3 ⟨s3, q3, rfl, hs3, hq3, d3, x3⟩
    have D3 := hide d3
    have x13 := x12.trans x3
    clear d3 x3
    go_wp2_with fail
    refine (sMakKey_any s3 _ (le_maxLen (by omega))).mono ?_
    rintro e w4 ⟨rfl, hb4⟩
    go_wp2_with fail
    go_ret
    exact ⟨_, q3, rfl, mkKey_300 _, by rw [hK.out]; omega, (unhide D3).below hb4, x13.trans (Ex.of_below b hb4)⟩
  have he2 : ((v2 : Int) == 2) = false := by simp; omega
  by_cases hc3 : v2 = 3
  · subst hc3
    go_wp2_with fail
    refine (ih _ (p + 1 + 1) _ (by omega) (unhide D2) hp4).mono ?_
    rintro e w3 ⟨s3, q3, rfl, hs3, hq3, d3, x3⟩
    have D3 := hide d3
    have x13 := x12.trans x3
    clear d3 x3
    go_wp2_with fail
    refine (ih _ q3 _ (by omega) (unhide D3) (by omega)).mono ?_
    rintro e w4 ⟨s4, q4, rfl, hs4, hq4, d4, x4⟩
    have D4 := hide d4
    have x14 := x13.trans x4
    clear d4 x4
    go_wp2_with fail
    refine (sMakEpoch_any s3 s4 _ (le_maxLen (by omega)) (le_maxLen (by omega))).mono ?_
    rintro e w5 ⟨rfl, hb5⟩
    go_wp2_with fail
    go_ret
    exact ⟨_, q4, rfl, mkEpoch_300 _ _, by rw [hK.out]; omega, (unhide D4).below hb5, x14.trans (Ex.of_below b hb5)⟩
  have he3 : ((v2 : Int) == 3) = false := by simp; omega
  by_cases hc4 : v2 = 4
  · subst hc4
    go_wp2_with fail
    refine (ih _ (p + 1 + 1) _ (by omega) (unhide D2) hp4).mono ?_
    rintro e w3 ⟨s3, q3, rfl, hs3, hq3, d3, x3⟩
    have D3 := hide d3
    have x13 := x12.trans x3
    clear d3 x3
    go_wp2_with fail
    refine (pick_any b C q3 8 _ rfl _ (unhide D3) (by omega) (by omega) (by omega)).mono ?_
    rintro e w4 ⟨v4, rfl, hv4, d4, x4⟩
    have D4 := hide d4
    have x14 := x13.trans x4
    clear d4 x4
    go_wp2_with fail
    refine (sMakSay_any s3 _ _ (le_maxLen (by omega))).mono ?_
    rintro e w5 ⟨rfl, hb5⟩
    go_wp2_with fail
    go_ret
    exact ⟨_, q3 + 1, rfl, mkSay_300 _ _, by rw [hK.out]; omega, (unhide D4).below hb5, x14.trans (Ex.of_below b hb5)⟩
  have he4 : ((v2 : Int) == 4) = false := by simp; omega
  clear hc0 hc1 hc2 hc3 hc4
  go_wp2_with fail
  refine (ih _ (p + 1 + 1) _ (by omega) (unhide D2) hp4).mono ?_
  rintro e w3 ⟨s3, q3, rfl, hs3, hq3, d3, x3⟩
  have D3 := hide d3
  have x13 := x12.trans x3
  clear d3 x3
  go_wp2_with fail
  refine (pick_any b C q3 9 _ rfl _ (unhide D3) (by omega) (by omega) (by omega)).mono ?_
  rintro e w4 ⟨v4, rfl, hv4, d4, x4⟩
  have D4 := hide d4
  have x14 := x13.trans x4
  clear d4 x4
  go_wp2_with fail
  refine (sMakRoom_any s3 _ _ (le_maxLen (by omega))).mono ?_
  rintro e w5 ⟨rfl, hb5⟩
  go_wp2_with fail
  go_ret
  exact ⟨_, q3 + 1, rfl, mkRoom_300 _ _, by rw [hK.out]; omega, (unhide D4).below hb5, x14.trans (Ex.of_below b hb5)⟩

theorem l20Secret_any (b : Nat) (C : Code) : ∀ d, d ≤ 4 → DrawAt b C d := by
  intro d
  induction d with
  | zero => intro _; exact l20Secret_zero b C
  | succ d ih => intro h; exact l20Secret_succ b C d (by omega) (ih (by omega))
#print axioms l20Secret_any
end Go.Proofs.Ytgdhlnfigcaepaa
/-
  What a reader is opened with: l20Open.
-/
namespace Go.Proofs.Ytgdhlnfigcaepaa
open Go.RowKit

theorem below_lt {w : World} {p : Addr} {v : Value} (h : w.cell? p = some v) : p.block < w.heap.size := by
  apply Classical.byContradiction
  intro hn
  have : w.heap[p.block]? = none := Array.getElem?_eq_none (by omega)
  simp [World.cell?, this] at h

set_option maxHeartbeats 1000000 in
theorem l20Open_any (a : Option Addr) (len cap : Nat) (zs : List Int) (w : World) (h : IsRow .u8 w a len cap zs) :
    Calls Try.prog 52 #[.slice a len cap] w fun e w' => ∃ C, e = .returned (.pointer (some ⟨w.heap.size, 0, none⟩)) ∧ DrC w.heap.size C 0 w' ∧ Below w.heap.size w w' := by
  rcases h with ⟨rfl, rfl, rfl, rfl⟩ | ⟨x, rfl, hl, hm, hz, hc, hw⟩
  · go_enter Try.func52, Try.ntmps52
    go_wp2_with fail
    go_ret
    refine ⟨⟨none, 0, 0, fun _ => 0⟩, rfl, ⟨by simp [go_sem], by simp [go_sem], by simp [go_sem], by simp, by simp, .inl rfl⟩, (Below.refl _ _).alloc (Nat.le_refl _) _⟩
  · have row : ∀ (n : Nat) (o : Obj), n ≤ len → n = 0 ∨ ∃ y : Addr, some x = some y ∧ y.block < w.heap.size ∧ ∀ i, i < n → (w.alloc o).cell? (y.add i) = some (.int .u8 (zs.getD i 0)) ∧ 0 ≤ zs.getD i 0 ∧ zs.getD i 0 ≤ 255 := by
      intro n o hn
      by_cases h0 : n = 0
      · exact .inl h0
      · refine .inr ⟨x, rfl, ?_, fun i hi => ?_⟩
        · have := below_lt (hc 0 (by omega))
          rwa [add_block] at this
        · have hci := hc i (by omega)
          have hlt := below_lt hci
          refine ⟨?_, ?_⟩
          · rw [World.cell?_of_block (w := w) (Below.heap_alloc w o _ hlt)]; exact hci
          · have hwi := hw (zs.getD i 0) (by rw [List.getD_eq_getElem?_getD, List.getElem?_eq_getElem (by omega)]; simp)
            exact bounds_u8 hwi
    unfold maxLen at hm
    by_cases hbig : len ≤ 2000
    · have hd : decide ((2000 : Int) < (len : Int)) = false := by simp; omega
      have R := hide (row len)
      clear row hc hw
      go_enter Try.func52, Try.ntmps52
      go_wp2_with fail
      go_ret
      exact ⟨⟨some x, len, cap, fun i => zs.getD i 0⟩, rfl, ⟨by simp [go_sem], by simp [go_sem], by simp [go_sem], by simp, hbig, unhide R _ (Nat.le_refl _)⟩, (Below.refl _ _).alloc (Nat.le_refl _) _⟩
    · have hd : (2000 : Int) < (len : Int) := by omega
      have hd2 : (2000 : Int) ≤ (cap : Int) := by omega
      have R := hide (row 2000)
      clear row hc hw
      go_enter Try.func52, Try.ntmps52
      go_wp2_with fail
      go_ret
      exact ⟨⟨some x, 2000, cap, fun i => zs.getD i 0⟩, rfl, ⟨by simp [go_sem], by simp [go_sem], by simp [go_sem], by simp, by simp, unhide R _ (by omega)⟩, (Below.refl _ _).alloc (Nat.le_refl _) _⟩

end Go.Proofs.Ytgdhlnfigcaepaa
/-
  One in so many: odd.
-/
namespace Go.Proofs.Ytgdhlnfigcaepaa
open Go.RowKit

set_option maxHeartbeats 400000 in
theorem odd_any (b : Nat) (C : Code) (p n : Nat) (m : Int) (hm : m = (n : Int)) (w : World) (h : DrC b C p w) (hn : 1 ≤ n) (hn2 : n ≤ 1000) (hp : p ≤ 1000000) :
    Calls Try.prog 71 #[.pointer (some ⟨b, 0, none⟩), .int .i64 m] w fun e w' => ∃ c : Bool, e = .returned (.bool c) ∧ DrC b C (p + 1) w' ∧ Ex b w w' := by
  subst hm
  have hD := hide h
  clear h
  go_enter Try.func71, Try.ntmps71
  go_wp2_with fail
  refine (pick_any b C p n _ rfl _ (unhide hD) hn hn2 hp).mono ?_
  rintro e w1 ⟨v, rfl, hv, d1, x1⟩
  have D1 := hide d1
  clear d1
  go_wp2_with fail
  go_ret
  exact ⟨_, rfl, unhide D1, x1⟩
#print axioms pick_any
#print axioms odd_any
end Go.Proofs.Ytgdhlnfigcaepaa
