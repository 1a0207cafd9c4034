/-
  Contracts of the functions that draw secrets' names and texts: each returns a text, not too long, and leaves the reader further on.
-/
import Derived.Test.YticmbajfdpchnaaDraw
import Derived.Test.YticmbajfdpchnaaMak
import Derived.Test.YticmbajfdpchnaaMak2
namespace Go.Proofs.Yticmbajfdpchnaa
open Go.RowKit

/-- What drawing a text comes to. -/
def StrPost (b : Nat) (C : Code) (p K M : Nat) (w : World) (e : Ending) (w' : World) : Prop :=
  ∃ (s : ByteArray) (q : Nat), e = .returned (.string s) ∧ s.size ≤ M ∧ q ≤ p + K ∧ DrC b C q w' ∧ Ex b w w'

theorem cap_300 (x : ByteArray) : (cap x).size ≤ 300 := by
  unfold cap; split
  · assumption
  · show 0 ≤ 300; omega
theorem mkNew_300 (who n : Int) : (mkNew who n).size ≤ 300 := by
  unfold mkNew; split
  · rcases newName_sizes who.toNat n.toNat with h | h <;> omega
  · show 0 ≤ 300; omega
theorem mkNext_300 (s : ByteArray) : (mkNext s).size ≤ 300 := by unfold mkNext; split; exact cap_300 _; show 0 ≤ 300; omega
theorem mkKey_300 (s : ByteArray) : (mkKey s).size ≤ 300 := by unfold mkKey; split; exact cap_300 _; show 0 ≤ 300; omega
theorem mkEpoch_300 (s t : ByteArray) : (mkEpoch s t).size ≤ 300 := by unfold mkEpoch; split; exact cap_300 _; show 0 ≤ 300; omega
theorem mkSay_300 (s : ByteArray) (n : Int) : (mkSay s n).size ≤ 300 := by unfold mkSay; split; exact cap_300 _; show 0 ≤ 300; omega
theorem mkRoom_300 (s : ByteArray) (n : Int) : (mkRoom s n).size ≤ 300 := by unfold mkRoom; split; exact cap_300 _; show 0 ≤ 300; omega

def Kd : Nat → Nat
  | 0 => 2
  | d + 1 => 3 + 2 * Kd d

/-- The secret's name that is drawn at a depth is drawn as it must be. -/
def DrawAt (b : Nat) (C : Code) (d : Nat) : Prop := ∀ (x : Int) (p : Nat) (w : World), x = (d : Int) → DrC b C p w → p + Kd d ≤ 1000000 →
    Calls Try.prog 47 #[.pointer (some ⟨b, 0, none⟩), .int .i64 x] w (StrPost b C p (Kd d) 300 w)

set_option maxHeartbeats 1000000 in
theorem l20Secret_zero (b : Nat) (C : Code) : DrawAt b C 0 := by
  intro x p w hx h hp
  subst hx
  have hD := hide h
  have hp1 : p ≤ 1000000 := by omega
  have hp2 : p + 1 ≤ 1000000 := by unfold Kd at hp; omega
  clear h
  go_enter Try.func47, Try.ntmps47
  go_wp2_with fail
  refine (pick_any b C p 3 _ rfl _ (unhide hD) (by omega) (by omega) hp1).mono ?_
  rintro e w1 ⟨v1, rfl, hv1, d1, x1⟩
  have D1 := hide d1
  clear d1
  go_wp2_with fail
  refine (pick_any b C (p + 1) 4 _ rfl _ (unhide D1) (by omega) (by omega) hp2).mono ?_
  rintro e w2 ⟨v2, rfl, hv2, d2, x2⟩
  have D2 := hide d2
  clear d2
  go_wp2_with fail
  refine (sMakNew_any _ _ _).mono ?_
  rintro e w3 ⟨rfl, hb3⟩
  go_wp2_with fail
  go_ret
  exact ⟨_, p + 1 + 1, rfl, mkNew_300 _ _, by unfold Kd; omega, (unhide D2).below hb3, (x1.trans x2).trans (Ex.of_below b hb3)⟩

set_option maxHeartbeats 4000000 in
theorem l20Secret_succ (b : Nat) (C : Code) (d : Nat) (hd : d ≤ 10) (ih : DrawAt b C d) : DrawAt b C (d + 1) := by
  intro x p w hx h hp
  subst hx
  have hD := hide h
  have hk : Kd (d + 1) = 3 + 2 * Kd d := rfl
  have hK := hide hk
  have hp1 : p ≤ 1000000 := by omega
  have hp2 : p + 1 ≤ 1000000 := by omega
  have hp3 : p + 2 ≤ 1000000 := by omega
  have hp4 : p + 2 + Kd d ≤ 1000000 := by omega
  have hp5 : p + 2 + Kd d + Kd d ≤ 1000000 := by omega
  clear h hk hp
  go_enter Try.func47, Try.ntmps47
  go_wp2_with fail
  refine (pick_any b C p 3 _ rfl _ (unhide hD) (by omega) (by omega) hp1).mono ?_
  rintro e w1 ⟨v1, rfl, hv1, d1, x1⟩
  have D1 := hide d1
  clear d1
  by_cases hv0 : v1 = 0
  · subst hv0
    go_wp2_with fail
    refine (pick_any b C (p + 1) 3 _ rfl _ (unhide D1) (by omega) (by omega) hp2).mono ?_
    rintro e w2 ⟨v2, rfl, hv2, d2, x2⟩
    have D2 := hide d2
    clear d2
    go_wp2_with fail
    refine (pick_any b C (p + 1 + 1) 4 _ rfl _ (unhide D2) (by omega) (by omega) hp3).mono ?_
    rintro e w3 ⟨v3, rfl, hv3, d3, x3⟩
    have D3 := hide d3
    clear d3
    go_wp2_with fail
    refine (sMakNew_any _ _ _).mono ?_
    rintro e w4 ⟨rfl, hb4⟩
    go_wp2_with fail
    go_ret
    exact ⟨_, p + 1 + 1 + 1, rfl, mkNew_300 _ _, by rw [hK.out]; omega, (unhide D3).below hb4, ((x1.trans x2).trans x3).trans (Ex.of_below b hb4)⟩
  have hv0' : ((v1 : Int) == 0) = false := by simp; omega
  clear hv0
  go_wp2_with fail
  refine (pick_any b C (p + 1) 6 _ rfl _ (unhide D1) (by omega) (by omega) hp2).mono ?_
  rintro e w2 ⟨v2, rfl, hv2, d2, x2⟩
  have D2 := hide d2
  have x12 := x1.trans x2
  clear d2 D1 x1 x2
  by_cases hc0 : v2 = 0
  · subst hc0
    go_wp2_with fail
    refine (ih _ (p + 1 + 1) _ (by omega) (unhide D2) hp4).mono ?_
    rintro e w3 ⟨s3, q3, rfl, hs3, hq3, d3, x3⟩
    have D3 := hide d3
    have x13 := x12.trans x3
    clear d3 x3
    go_wp2_with fail
    refine (sMakNext_any s3 _ (le_maxLen (by omega))).mono ?_
    rintro e w4 ⟨rfl, hb4⟩
    go_wp2_with fail
    go_ret
    exact ⟨_, q3, rfl, mkNext_300 _, by rw [hK.out]; omega, (unhide D3).below hb4, x13.trans (Ex.of_below b hb4)⟩
  have he0 : ((v2 : Int) == 0) = false := by simp; omega
  by_cases hc1 : v2 = 1
  · subst hc1
    go_wp2_with fail
    refine (ih _ (p + 1 + 1) _ (by omega) (unhide D2) hp4).mono ?_
    rintro e w3 ⟨s3, q3, rfl, hs3, hq3, d3, x3⟩
    have D3 := hide d3
    have x13 := x12.trans x3
    clear d3 x3
    go_wp2_with fail
    refine (sMakNext_any s3 _ (le_maxLen (by omega))).mono ?_
    rintro e w4 ⟨rfl, hb4⟩
    go_wp2_with fail
    go_ret
    exact ⟨_, q3, rfl, mkNext_300 _, by rw [hK.out]; omega, (unhide D3).below hb4, x13.trans (Ex.of_below b hb4)⟩
  have he1 : ((v2 : Int) == 1) = false := by simp; omega
  by_cases hc2 : v2 = 2
  · subst hc2
    go_wp2_with fail
    refine (ih _ (p + 1 + 1) _ (by omega) (unhide D2) hp4).mono ?_
    rintro e w3 ⟨s3, q3, rfl, hs3, hq3, d3, x3⟩
    have D3 := hide d3
    have x13 := x12.trans x3
    clear d3 x3
    go_wp2_with fail
    refine (sMakKey_any s3 _ (le_maxLen (by omega))).mono ?_
    rintro e w4 ⟨rfl, hb4⟩
    go_wp2_with fail
    go_ret
    exact ⟨_, q3, rfl, mkKey_300 _, by rw [hK.out]; omega, (unhide D3).below hb4, x13.trans (Ex.of_below b hb4)⟩
  have he2 : ((v2 : Int) == 2) = false := by simp; omega
  by_cases hc3 : v2 = 3
  · subst hc3
    go_wp2_with fail
    refine (ih _ (p + 1 + 1) _ (by omega) (unhide D2) hp4).mono ?_
    rintro e w3 ⟨s3, q3, rfl, hs3, hq3, d3, x3⟩
    have D3 := hide d3
    have x13 := x12.trans x3
    clear d3 x3
    go_wp2_with fail
    refine (ih _ q3 _ (by omega) (unhide D3) (by omega)).mono ?_
    rintro e w4 ⟨s4, q4, rfl, hs4, hq4, d4, x4⟩
    have D4 := hide d4
    have x14 := x13.trans x4
    clear d4 x4
    go_wp2_with fail
    refine (sMakEpoch_any s3 s4 _ (le_maxLen (by omega)) (le_maxLen (by omega))).mono ?_
    rintro e w5 ⟨rfl, hb5⟩
    go_wp2_with fail
    go_ret
    exact ⟨_, q4, rfl, mkEpoch_300 _ _, by rw [hK.out]; omega, (unhide D4).below hb5, x14.trans (Ex.of_below b hb5)⟩
  have he3 : ((v2 : Int) == 3) = false := by simp; omega
  by_cases hc4 : v2 = 4
  · subst hc4
    go_wp2_with fail
    refine (ih _ (p + 1 + 1) _ (by omega) (unhide D2) hp4).mono ?_
    rintro e w3 ⟨s3, q3, rfl, hs3, hq3, d3, x3⟩
    have D3 := hide d3
    have x13 := x12.trans x3
    clear d3 x3
    go_wp2_with fail
    refine (pick_any b C q3 8 _ rfl _ (unhide D3) (by omega) (by omega) (by omega)).mono ?_
    rintro e w4 ⟨v4, rfl, hv4, d4, x4⟩
    have D4 := hide d4
    have x14 := x13.trans x4
    clear d4 x4
    go_wp2_with fail
    refine (sMakSay_any s3 _ _ (le_maxLen (by omega))).mono ?_
    rintro e w5 ⟨rfl, hb5⟩
    go_wp2_with fail
    go_ret
    exact ⟨_, q3 + 1, rfl, mkSay_300 _ _, by rw [hK.out]; omega, (unhide D4).below hb5, x14.trans (Ex.of_below b hb5)⟩
  have he4 : ((v2 : Int) == 4) = false := by simp; omega
  clear hc0 hc1 hc2 hc3 hc4
  go_wp2_with fail
  refine (ih _ (p + 1 + 1) _ (by omega) (unhide D2) hp4).mono ?_
  rintro e w3 ⟨s3, q3, rfl, hs3, hq3, d3, x3⟩
  have D3 := hide d3
  have x13 := x12.trans x3
  clear d3 x3
  go_wp2_with fail
  refine (pick_any b C q3 9 _ rfl _ (unhide D3) (by omega) (by omega) (by omega)).mono ?_
  rintro e w4 ⟨v4, rfl, hv4, d4, x4⟩
  have D4 := hide d4
  have x14 := x13.trans x4
  clear d4 x4
  go_wp2_with fail
  refine (sMakRoom_any s3 _ _ (le_maxLen (by omega))).mono ?_
  rintro e w5 ⟨rfl, hb5⟩
  go_wp2_with fail
  go_ret
  exact ⟨_, q3 + 1, rfl, mkRoom_300 _ _, by rw [hK.out]; omega, (unhide D4).below hb5, x14.trans (Ex.of_below b hb5)⟩

theorem l20Secret_any (b : Nat) (C : Code) : ∀ d, d ≤ 4 → DrawAt b C d := by
  intro d
  induction d with
  | zero => intro _; exact l20Secret_zero b C
  | succ d ih => intro h; exact l20Secret_succ b C d (by omega) (ih (by omega))
#print axioms l20Secret_any
end Go.Proofs.Yticmbajfdpchnaa
