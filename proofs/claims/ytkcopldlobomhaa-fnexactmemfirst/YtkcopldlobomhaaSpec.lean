/-
  Contracts of the specification's functions on names: they answer as the plain function on names does.
-/
import Derived.Test.YtkcopldlobomhaaNew
import Derived.Deep.RegionHeld3
namespace Go.Proofs.Ytkcopldlobomhaa
open Go.RowKit

set_option maxHeartbeats 400000 in
theorem l1More_any (n m : Nat) (x y : Int) (hx : x = (n : Int)) (hy : y = (m : Int)) (hn : n ≤ 1000) (hm : m ≤ 1000) (w : World) :
    Calls Try.prog 73 #[.int .i64 x, .int .i64 y] w fun e w' => e = .returned (.int .i64 (Kw.more n m : Int)) ∧ w' = w := by
  subst hx hy
  by_cases h : m = 0
  · subst h
    rw [Kw.more_zero rfl]
    go_enter Try.func73, Try.ntmps73
    go_wp2
    go_ret
    exact ⟨rfl, rfl⟩
  · rw [Kw.more_pos h]
    have e : ((m : Int) == 0) = false := by simp; omega
    clear h
    go_enter Try.func73, Try.ntmps73
    go_wp2
    go_ret
    exact ⟨rfl, rfl⟩

theorem ret_i64 {a b : Int} (h : a = b) : Ending.returned (.int .i64 a) = .returned (.int .i64 b) := by rw [h]

theorem list_ne {x y : ByteArray} (h : (!x.toList == y.toList) = true) : x ≠ y := by
  intro e; subst e; simp at h
theorem list_eq {x y : ByteArray} (h : (!x.toList == y.toList) = false) : x = y := by
  have h1 : x.toList = y.toList := by simpa using h
  have h2 := congrArg (fun l => (⟨l.toArray⟩ : ByteArray)) h1
  exact ByteArray.ext (by simpa [ByteArray.toList_eq] using h2)

theorem fr_round {s : ByteArray} {a j d m : Nat} (hj : Hid (j = a + 1 + d)) (hlt : j < s.size) (hm : Hid (m = dv s (a + 1) d)) (hall : Hid (∀ i, i < d → 48 ≤ Kw.g s (a + 1 + i) ∧ Kw.g s (a + 1 + i) ≤ 57)) (hg : Hid (Kw.g s j = s[j].toNat)) (hb : Hid (m < 10 ^ d))
    (h48 : (48 : Int) ≤ (s[j].toNat : Int)) (h57 : (s[j].toNat : Int) ≤ 57) (hd : (j : Int) < (a : Int) + 4) :
    (∃ m' j' d' : Nat, j' = a + 1 + d' ∧ d' ≤ 3 ∧ Value.int IntKind.i64 ((j : Int) + 1) = .int .i64 (j' : Int) ∧ Value.int IntKind.i64 ((m : Int) * 10 + ((s[j].toNat : Int) - 48)) = .int .i64 (m' : Int) ∧ j' ≤ s.size ∧ m' < 10 ^ d' ∧ Hid (m' = dv s (a + 1) d') ∧ Hid (∀ i, i < d' → 48 ≤ Kw.g s (a + 1 + i) ∧ Kw.g s (a + 1 + i) ≤ 57)) ∧
    ((a : Int) + 4 - intOf (Value.int IntKind.i64 ((j : Int) + 1))).toNat < ((a : Int) + 4 - intOf (Value.int IntKind.i64 (j : Int))).toNat := by
  have e1 := hj.out
  have e2 := hm.out
  have e3 := hall.out
  have e4 := hg.out
  have e5 := hb.out
  refine ⟨⟨m * 10 + (s[j].toNat - 48), j + 1, d + 1, by omega, by omega, by simp, ?_, by omega, ?_, ?_, ?_⟩, by simp [intOf]; omega⟩
  · congr 1; omega
  · rw [Nat.pow_succ]; omega
  · show _ = dv s (a + 1) d * 10 + (Kw.g s (a + 1 + d) - 48)
    rw [← e1, e4, ← e2]
  · intro i hi
    by_cases hid : i < d
    · exact e3 i hid
    · have : i = d := by omega
      subst this
      rw [← e1, e4]; omega

set_option maxHeartbeats 1000000 in
theorem l1Fresh_any (s : ByteArray) (a : Nat) (x : Int) (hx : x = (a : Int)) (hs : s.size ≤ 300) (ha : a < s.size) (w : World) :
    Calls Try.prog 74 #[.string s, .int .i64 x] w fun e w' => e = .returned (.int .i64 (Kw.fresh s a : Int)) ∧ Below w.heap.size w w' := by
  subst hx
  have ha2 : (a : Int) < (s.size : Int) := by omega
  have hga : Hid (Kw.g s a = s[a].toNat) := Kw.g_in ha
  by_cases h65 : (s[a].toNat : Int) < 65
  · have hf : Hid (Kw.fresh s a = 0) := by unfold Kw.fresh; exact if_neg (by rw [hga.out]; omega)
    go_enter Try.func74, Try.ntmps74
    go_wp2_with fail
    go_ret
    exact ⟨ret_i64 (by rw [hf.out]; rfl), Below.refl _ _⟩
  · have d65 : decide ((s[a].toNat : Int) < 65) = false := by simp; omega
    by_cases h72 : (72 : Int) < (s[a].toNat : Int)
    · have hf : Hid (Kw.fresh s a = 0) := by unfold Kw.fresh; exact if_neg (by rw [hga.out]; omega)
      go_enter Try.func74, Try.ntmps74
      go_wp2_with fail
      go_ret
      exact ⟨ret_i64 (by rw [hf.out]; rfl), Below.refl _ _⟩
    · have d72 : decide ((72 : Int) < (s[a].toNat : Int)) = false := by simp; omega
      go_enter Try.func74, Try.ntmps74
      go_wp2_with fail
      go_loop [5, 6] (fun n k => ∃ m j d : Nat, j = a + 1 + d ∧ d ≤ 3 ∧ k = .int .i64 (j : Int) ∧ n = .int .i64 (m : Int) ∧ j ≤ s.size ∧ m < 10 ^ d ∧ Hid (m = dv s (a + 1) d) ∧ Hid (∀ i, i < d → 48 ≤ Kw.g s (a + 1 + i) ∧ Kw.g s (a + 1 + i) ≤ 57)) (fun _ k => ((a : Int) + 4 - intOf k).toNat)
      case atStart => exact ⟨0, a + 1, 0, by omega, by omega, by simp, rfl, by omega, by simp, rfl, fun i hi => by omega⟩
      case round =>
        obtain ⟨m, j, d, hj0, hd, rfl, rfl, hle, hb0, hm, hall⟩ := hrel
        have hj := hide hj0
        have hj1 : a < j := by omega
        have hj3 : j ≤ a + 4 := by omega
        have hb : m ≤ 999 := by
          match d, hd, hb0 with
          | 0, _, h => omega
          | 1, _, h => omega
          | 2, _, h => omega
          | 3, _, h => omega
        have hb1 := hide hb0
        clear hj0 hb0
        by_cases hlt : j < s.size
        · have hlt2 : (j : Int) < (s.size : Int) := by omega
          have hgj : Hid (Kw.g s j = s[j].toNat) := Kw.g_in hlt
          have hnd : decide ((s.size : Int) ≤ (j : Int)) = false := by simp; omega
          have hnd2 : decide (s.size ≤ j) = false := by simp; omega
          by_cases h59 : (s[j].toNat : Int) = 59
          · have hne : ((s[j].toNat : Int) != 59) = false := by simp; omega
            have h57 : decide ((s[j].toNat : Int) ≤ 57) = false := by simp; omega
            have h48 : (48 : Int) ≤ (s[j].toNat : Int) := by omega
            have h65' : (65 : Int) ≤ (s[a].toNat : Int) := by omega
            have h72' : (s[a].toNat : Int) ≤ 72 := by omega
            have i1 : (a : Int) ≤ (j : Int) + 1 := by omega
            have i2 : (j : Int) + 1 ≤ (s.size : Int) := by omega
            have i3 : IntKind.i64.wrap ((j : Int) + 1) = (j : Int) + 1 := by simp [IntKind.wrap, IntKind.bits, IntKind.signed]; omega
            have i4 : (0 : Int) ≤ (a : Int) := by omega
            have i5 : (0 : Int) ≤ (j : Int) + 1 := by omega
            have v1 : IntKind.u8.wrap ((s[a].toNat : Int) - 65) = (s[a].toNat : Int) - 65 := by simp [IntKind.wrap, IntKind.bits, IntKind.signed]; omega
            have v2 : IntKind.i64.wrap ((s[a].toNat : Int) - 65) = (s[a].toNat : Int) - 65 := by simp [IntKind.wrap, IntKind.bits, IntKind.signed]; omega
            have H59 : Hid (Kw.g s j = 59) := by show Kw.g s j = 59; rw [hgj.out]; omega
            clear h59
            go_wp2_with fail
            go_region_held3 (fun _ => True) (trivial) ((go_at_call 65; refine (sMakNew_any _ _ _).mono ?_; rintro e w' ⟨rfl, hb⟩))
            go_wp2_with fail
            · go_ret
              rename_i hx
              rw [← hga.out] at hx
              exact ⟨ret_i64 (by rw [fr_ne hj.out hlt hm.out hall.out H59.out (by rw [hga.out]; omega) (by rw [hga.out]; omega) (list_ne hx)]; rfl), (Below.drew (Below.refl w.heap.size w)).trans hb⟩
            · go_ret
              rename_i hx
              rw [← hga.out] at hx
              refine ⟨ret_i64 (by rw [fr_eq hj.out hd hlt hm.out hall.out H59.out (by rw [hga.out]; omega) (by rw [hga.out]; omega) (list_eq hx)]; omega), (Below.drew (Below.refl w.heap.size w)).trans hb⟩
          · have hne : ((s[j].toNat : Int) != 59) = true := by simp; omega
            have H59 : Hid (Kw.g s j ≠ 59) := by show Kw.g s j ≠ 59; rw [hgj.out]; omega
            clear h59
            go_wp2_with fail
            case roundEnd =>
              have q48 : (48 : Int) ≤ (s[j].toNat : Int) := by assumption
              have q57 : (s[j].toNat : Int) ≤ 57 := by assumption
              have qd : (j : Int) < (a : Int) + 4 := by assumption
              exact fr_round hj hlt hm hall hgj hb1 q48 q57 qd
            all_goals
              go_quiet (fail)
              go_wp2_with fail
              go_ret
              exact ⟨ret_i64 (by rw [fr_no hj.out hd hall.out H59.out (by rw [hgj.out]; have := hj.out; omega)]; rfl), below_drewN (Below.refl _ _) _⟩
        · have H59 : Hid (Kw.g s j = 256) := Kw.g_out (by omega)
          have hge : decide ((s.size : Int) ≤ (j : Int)) = true := by simp; omega
          have hge2 : decide (s.size ≤ j) = true := by simp; omega
          have hge3 : s.size ≤ j := by omega
          go_wp2_with fail
          go_quiet (fail)
          go_wp2_with fail
          go_ret
          exact ⟨ret_i64 (by rw [fr_no hj.out hd hall.out (by rw [H59.out]; omega) (by rw [H59.out]; omega)]; rfl), below_drewN (Below.refl _ _) _⟩


/-- The specification's reading of the name at place a is done as it must be. -/
def SizeAt (s : ByteArray) (a : Nat) : Prop := ∀ (x : Int) (w : World), x = (a : Int) →
    Calls Try.prog 54 #[.string s, .int .i64 x] w fun e w' => e = .returned (.int .i64 (Kw.len s a : Int)) ∧ Below w.heap.size w w'

theorem ret_len {a b : Nat} (h : a = b) : Ending.returned (.int .i64 (a : Int)) = .returned (.int .i64 (b : Int)) := by rw [h]

set_option maxHeartbeats 400000 in
theorem l1Size_out (s : ByteArray) (a : Nat) (ha : s.size ≤ a) : SizeAt s a := by
  intro x w hx
  subst hx
  have hl : Hid (Kw.len s a = 0) := Kw.len_out ha
  go_enter Try.func54, Try.ntmps54
  go_wp2_with fail
  go_ret
  exact ⟨ret_i64 (by rw [hl.out]; rfl), Below.refl _ _⟩

theorem len_300 {s : ByteArray} (hs : s.size ≤ 300) (a : Nat) : Kw.len s a ≤ 300 := by
  by_cases h : Kw.len s a = 0
  · omega
  · have := Kw.len_le h; omega

set_option maxHeartbeats 1000000 in
theorem l1Size_step (s : ByteArray) (hs : s.size ≤ 300) (a : Nat) (ha : a < s.size) (ih : ∀ m, a < m → SizeAt s m) : SizeAt s a := by
  intro x w hx
  subst hx
  have ha2 : (a : Int) < (s.size : Int) := by omega
  have hga : Hid (Kw.g s a = s[a].toNat) := Kw.g_in ha
  have hl1 := len_300 hs (a + 1)
  have hl2 := len_300 hs (a + 2)
  have I1 := ih (a + 1) (by omega)
  have I2 := ih (a + 2) (by omega)
  have IH := hide ih
  clear ih
  by_cases c1 : s[a].toNat = 110
  · have e1 : ((s[a].toNat : Int) == 110) = true := by simp; omega
    have hl : Hid (Kw.len s a = Kw.more 1 (Kw.len s (a + 1))) := Kw.len_nk (.inl (by rw [hga.out]; exact c1))
    clear c1
    go_enter Try.func54, Try.ntmps54
    go_wp2_with fail
    refine (I1 _ _ (by omega)).mono ?_
    rintro e w1 ⟨rfl, hb1⟩
    go_wp2_with fail
    refine (l1More_any 1 (Kw.len s (a + 1)) _ _ rfl rfl (by omega) (by omega) _).mono ?_
    rintro e w2 ⟨rfl, rfl⟩
    go_wp2_with fail
    go_ret
    exact ⟨ret_len hl.out.symm, hb1⟩
  have e1 : ((s[a].toNat : Int) == 110) = false := by simp; omega
  by_cases c2 : s[a].toNat = 107
  · have e2 : ((s[a].toNat : Int) == 107) = true := by simp; omega
    have hl : Hid (Kw.len s a = Kw.more 1 (Kw.len s (a + 1))) := Kw.len_nk (.inr (by rw [hga.out]; exact c2))
    clear c1 c2
    go_enter Try.func54, Try.ntmps54
    go_wp2_with fail
    refine (I1 _ _ (by omega)).mono ?_
    rintro e w1 ⟨rfl, hb1⟩
    go_wp2_with fail
    refine (l1More_any 1 (Kw.len s (a + 1)) _ _ rfl rfl (by omega) (by omega) _).mono ?_
    rintro e w2 ⟨rfl, rfl⟩
    go_wp2_with fail
    go_ret
    exact ⟨ret_len hl.out.symm, hb1⟩
  have e2 : ((s[a].toNat : Int) == 107) = false := by simp; omega
  by_cases c3 : s[a].toNat = 109
  · have e3 : ((s[a].toNat : Int) == 109) = true := by simp; omega
    have hu := Kw.len_unfold s a
    rw [hga.out, if_neg (by omega), if_pos c3] at hu
    clear c1 c2 c3
    by_cases d1 : a + 1 < s.size
    · have d2 : decide ((s.size : Int) ≤ (a : Int) + 1) = false := by simp; omega
      have hg1 := Kw.g_in d1
      by_cases d3 : 65 ≤ s[a + 1].toNat ∧ s[a + 1].toNat ≤ 72
      · have hl : Hid (Kw.len s a = Kw.more 2 (Kw.len s (a + 2))) := by show Kw.len s a = _; rw [hu, hg1, if_pos d3]
        have d4 : decide ((s[a + 1].toNat : Int) < 65) = false := by simp; omega
        have d5 : decide ((72 : Int) < (s[a + 1].toNat : Int)) = false := by simp; omega
        clear hu hg1 d3
        go_enter Try.func54, Try.ntmps54
        go_wp2_with fail
        refine (I2 _ _ (by omega)).mono ?_
        rintro e w1 ⟨rfl, hb1⟩
        go_wp2_with fail
        refine (l1More_any 2 (Kw.len s (a + 2)) _ _ rfl rfl (by omega) (by omega) _).mono ?_
        rintro e w2 ⟨rfl, rfl⟩
        go_wp2_with fail
        go_ret
        exact ⟨ret_len hl.out.symm, hb1⟩
      · have hl : Hid (Kw.len s a = 0) := by show Kw.len s a = _; rw [hu, hg1, if_neg d3]
        clear hu hg1
        by_cases d4 : (s[a + 1].toNat : Int) < 65
        · clear d3
          go_enter Try.func54, Try.ntmps54
          go_wp2_with fail
          go_ret
          exact ⟨ret_i64 (by rw [hl.out]; rfl), Below.refl _ _⟩
        · have d5 : decide ((s[a + 1].toNat : Int) < 65) = false := by simp; omega
          have d6 : (72 : Int) < (s[a + 1].toNat : Int) := by omega
          clear d3
          go_enter Try.func54, Try.ntmps54
          go_wp2_with fail
          go_ret
          exact ⟨ret_i64 (by rw [hl.out]; rfl), Below.refl _ _⟩
    · have d2 : (s.size : Int) ≤ (a : Int) + 1 := by omega
      have hl : Hid (Kw.len s a = 0) := by show Kw.len s a = _; rw [hu, Kw.g_out (by omega), if_neg (by omega)]
      clear hu
      go_enter Try.func54, Try.ntmps54
      go_wp2_with fail
      go_ret
      exact ⟨ret_i64 (by rw [hl.out]; rfl), Below.refl _ _⟩
  have e3 : ((s[a].toNat : Int) == 109) = false := by simp; omega
  by_cases c4 : s[a].toNat = 114
  · have e4 : ((s[a].toNat : Int) == 114) = true := by simp; omega
    have hu := Kw.len_unfold s a
    rw [hga.out, if_neg (by omega), if_neg c3, if_pos c4] at hu
    clear c1 c2 c3 c4
    by_cases d1 : a + 1 < s.size
    · have d2 : decide ((s.size : Int) ≤ (a : Int) + 1) = false := by simp; omega
      have hg1 := Kw.g_in d1
      by_cases d3 : 49 ≤ s[a + 1].toNat ∧ s[a + 1].toNat ≤ 57
      · have hl : Hid (Kw.len s a = Kw.more 2 (Kw.len s (a + 2))) := by show Kw.len s a = _; rw [hu, hg1, if_pos d3]
        have d4 : decide ((s[a + 1].toNat : Int) < 49) = false := by simp; omega
        have d5 : decide ((57 : Int) < (s[a + 1].toNat : Int)) = false := by simp; omega
        clear hu hg1 d3
        go_enter Try.func54, Try.ntmps54
        go_wp2_with fail
        refine (I2 _ _ (by omega)).mono ?_
        rintro e w1 ⟨rfl, hb1⟩
        go_wp2_with fail
        refine (l1More_any 2 (Kw.len s (a + 2)) _ _ rfl rfl (by omega) (by omega) _).mono ?_
        rintro e w2 ⟨rfl, rfl⟩
        go_wp2_with fail
        go_ret
        exact ⟨ret_len hl.out.symm, hb1⟩
      · have hl : Hid (Kw.len s a = 0) := by show Kw.len s a = _; rw [hu, hg1, if_neg d3]
        clear hu hg1
        by_cases d4 : (s[a + 1].toNat : Int) < 49
        · clear d3
          go_enter Try.func54, Try.ntmps54
          go_wp2_with fail
          go_ret
          exact ⟨ret_i64 (by rw [hl.out]; rfl), Below.refl _ _⟩
        · have d5 : decide ((s[a + 1].toNat : Int) < 49) = false := by simp; omega
          have d6 : (57 : Int) < (s[a + 1].toNat : Int) := by omega
          clear d3
          go_enter Try.func54, Try.ntmps54
          go_wp2_with fail
          go_ret
          exact ⟨ret_i64 (by rw [hl.out]; rfl), Below.refl _ _⟩
    · have d2 : (s.size : Int) ≤ (a : Int) + 1 := by omega
      have hl : Hid (Kw.len s a = 0) := by show Kw.len s a = _; rw [hu, Kw.g_out (by omega), if_neg (by omega)]
      clear hu
      go_enter Try.func54, Try.ntmps54
      go_wp2_with fail
      go_ret
      exact ⟨ret_i64 (by rw [hl.out]; rfl), Below.refl _ _⟩
  have e4 : ((s[a].toNat : Int) == 114) = false := by simp; omega
  by_cases c5 : s[a].toNat = 101
  · have e5 : ((s[a].toNat : Int) == 101) = true := by simp; omega
    have hu := Kw.len_unfold s a
    rw [hga.out, if_neg (by omega), if_neg c3, if_neg c4, if_pos c5] at hu
    clear c1 c2 c3 c4 c5
    by_cases d1 : Kw.len s (a + 1) = 0
    · have hl : Hid (Kw.len s a = 0) := by show Kw.len s a = _; rw [hu, if_pos d1]
      have d2 : ((Kw.len s (a + 1) : Int) == 0) = true := by simp; omega
      clear hu d1
      go_enter Try.func54, Try.ntmps54
      go_wp2_with fail
      refine (I1 _ _ (by omega)).mono ?_
      rintro e w1 ⟨rfl, hb1⟩
      go_wp2_with fail
      go_ret
      exact ⟨ret_i64 (by rw [hl.out]; rfl), hb1⟩
    · have hl : Hid (Kw.len s a = Kw.more (1 + Kw.len s (a + 1)) (Kw.len s (a + 1 + Kw.len s (a + 1)))) := by show Kw.len s a = _; rw [hu, if_neg d1]
      have d2 : ((Kw.len s (a + 1) : Int) == 0) = false := by simp; omega
      have I3 := IH.out (a + 1 + Kw.len s (a + 1)) (by omega)
      have hl3 := len_300 hs (a + 1 + Kw.len s (a + 1))
      clear hu d1
      go_enter Try.func54, Try.ntmps54
      go_wp2_with fail
      refine (I1 _ _ (by omega)).mono ?_
      rintro e w1 ⟨rfl, hb1⟩
      go_wp2_with fail
      refine (I3 _ _ (by omega)).mono ?_
      rintro e w2 ⟨rfl, hb2⟩
      go_wp2_with fail
      refine (l1More_any (1 + Kw.len s (a + 1)) (Kw.len s (a + 1 + Kw.len s (a + 1))) _ _ (by omega) rfl (by omega) (by omega) _).mono ?_
      rintro e w3 ⟨rfl, rfl⟩
      go_wp2_with fail
      go_ret
      exact ⟨ret_len hl.out.symm, hb1.trans (hb2.mono hb1.size)⟩
  have e5 : ((s[a].toNat : Int) == 101) = false := by simp; omega
  have hl : Hid (Kw.len s a = Kw.fresh s a) := Kw.len_else (by rw [hga.out]; exact c1) (by rw [hga.out]; exact c2) (by rw [hga.out]; exact c3) (by rw [hga.out]; exact c4) (by rw [hga.out]; exact c5)
  clear c1 c2 c3 c4 c5
  go_enter Try.func54, Try.ntmps54
  go_wp2_with fail
  refine (l1Fresh_any s a _ rfl hs ha _).mono ?_
  rintro e w1 ⟨rfl, hb1⟩
  go_wp2_with fail
  go_ret
  exact ⟨ret_len hl.out.symm, hb1⟩

theorem l1Size_all (s : ByteArray) (hs : s.size ≤ 300) : ∀ f a, s.size - a ≤ f → SizeAt s a := by
  intro f
  induction f with
  | zero => intro a h; exact l1Size_out s a (by omega)
  | succ f ih =>
    intro a h
    by_cases ha : a < s.size
    · exact l1Size_step s hs a ha (fun m h1 => ih m (by omega))
    · exact l1Size_out s a (by omega)

theorem ret_bool {a b : Bool} (h : a = b) : Ending.returned (.bool a) = .returned (.bool b) := by rw [h]
theorem isEmpty_no {s : ByteArray} (h : s.size ≠ 0) : s.toList.isEmpty = false := by
  rw [List.isEmpty_eq_false_iff]
  intro e
  apply h
  have := congrArg List.length e
  simpa [ByteArray.toList_eq] using this
set_option maxHeartbeats 400000 in
theorem sSecOk_any (s : ByteArray) (w : World) (hm : s.size ≤ maxLen) :
    Calls Try.prog 31 #[.string s] w fun e w' => e = .returned (.bool (Kw.ok s)) ∧ Below w.heap.size w w' := by
  unfold maxLen at hm
  by_cases h0 : s.size = 0
  · obtain rfl := empty_of h0
    rw [ok_empty]
    clear hm h0
    go_enter Try.func31, Try.ntmps31
    go_wp2_with fail
    go_ret
    exact ⟨rfl, Below.refl _ _⟩
  have he := isEmpty_no h0
  by_cases hs : s.size ≤ 300
  · have H := l1Size_all s hs s.size 0 (by omega)
    have hk : Hid (Kw.ok s = ((Kw.len s 0 : Int) == (s.size : Int))) := ok_eq hs h0
    clear h0
    go_enter Try.func31, Try.ntmps31
    go_wp2_with fail
    refine (H _ _ rfl).mono ?_
    rintro e w1 ⟨rfl, hb1⟩
    go_wp2_with fail
    go_ret
    exact ⟨ret_bool hk.out.symm, hb1⟩
  · have hk : Hid (Kw.ok s = false) := ok_long (by omega)
    have hd : decide ((s.size : Int) ≤ 300) = false := by simp; omega
    clear h0 hs
    go_enter Try.func31, Try.ntmps31
    go_wp2_with fail
    go_ret
    exact ⟨ret_bool hk.out.symm, Below.refl _ _⟩

set_option maxHeartbeats 400000 in
theorem l1Ok_any (s : ByteArray) (w : World) (hm : s.size ≤ maxLen) :
    Calls Try.prog 75 #[.string s] w fun e w' => e = .returned (.string (only s)) ∧ Below w.heap.size w w' := by
  have M := hide hm
  clear hm
  cases hk : Kw.ok s with
  | true =>
    rw [show only s = s by unfold only; rw [if_pos hk]]
    have K := hide hk
    clear hk
    go_enter Try.func75, Try.ntmps75
    go_wp2_with fail
    refine (sSecOk_any s _ M.out).mono ?_
    rw [K.out]
    rintro e w1 ⟨rfl, hb1⟩
    go_wp2_with fail
    go_ret
    exact ⟨rfl, hb1⟩
  | false =>
    rw [show only s = ⟨#[]⟩ by unfold only; rw [if_neg (by rw [hk]; simp)]]
    have K := hide hk
    clear hk
    go_enter Try.func75, Try.ntmps75
    go_wp2_with fail
    refine (sSecOk_any s _ M.out).mono ?_
    rw [K.out]
    rintro e w1 ⟨rfl, hb1⟩
    go_wp2_with fail
    go_ret
    exact ⟨rfl, hb1⟩
#print axioms l1Ok_any
end Go.Proofs.Ytkcopldlobomhaa
