/-
  The program's SecMade: its contract.
-/
import Derived.Test.YtkcopldlobomhaaMade
namespace Go.Proofs.Ytkcopldlobomhaa
open Go.RowKit
open Kw (g len nv ok)

/-- How a secret was made: which way; by whom; which number; from which one; and from which other one. -/
def mOp (s : ByteArray) : Int := if ok s = true then (if g s 0 = 110 then 2 else if g s 0 = 107 then 3 else if g s 0 = 101 then 4 else if g s 0 = 109 then 5 else if g s 0 = 114 then 6 else 1) else 0
def mWho (s : ByteArray) : Int := if ok s = true then (if g s 0 = 110 then 0 else if g s 0 = 107 then 0 else if g s 0 = 101 then 0 else if g s 0 = 109 then (g s 1 : Int) - 65 else if g s 0 = 114 then 0 else (g s 0 : Int) - 65) else 0
def mN (s : ByteArray) : Int := if ok s = true then (if g s 0 = 110 then 0 else if g s 0 = 107 then 0 else if g s 0 = 101 then 0 else if g s 0 = 109 then 0 else if g s 0 = 114 then ((g s 1 - 48 : Nat) : Int) else (nv s 0 : Int)) else 0
def mA (s : ByteArray) : ByteArray := if ok s = true then (if g s 0 = 110 then s.extract 1 s.size else if g s 0 = 107 then s.extract 1 s.size else if g s 0 = 101 then s.extract 1 (1 + len s 1) else if g s 0 = 109 then s.extract 2 s.size else if g s 0 = 114 then s.extract 2 s.size else ⟨#[]⟩) else ⟨#[]⟩
def mB (s : ByteArray) : ByteArray := if ok s = true then (if g s 0 = 110 then ⟨#[]⟩ else if g s 0 = 107 then ⟨#[]⟩ else if g s 0 = 101 then s.extract (1 + len s 1) s.size else ⟨#[]⟩) else ⟨#[]⟩

theorem ext_le (s : ByteArray) (a b : Nat) (hs : s.size ≤ 300) : (s.extract a b).size ≤ 300 := by simp [ByteArray.size_extract]; omega

theorem howOf_sec (s : ByteArray) (w : World) (hk : ok s = true) :
    Calls Try.prog 85 #[secV s 0] w fun e w' => e = .returned (howV (mOp s) (mWho s) (mN s) (mA s) (mB s)) ∧ Below w.heap.size w w' := by
  obtain ⟨h1, _, _⟩ := ok_facts hk
  unfold mOp mWho mN mA mB secV
  simp only [if_pos hk, Nat.zero_add]
  by_cases c1 : g s 0 = 110
  · simp only [if_pos c1]
    rw [(parts_nk hk (.inl c1)).2]
    exact howOf_next _ (ext_le _ _ _ h1) w
  simp only [if_neg c1]
  by_cases c2 : g s 0 = 107
  · simp only [if_pos c2]
    rw [(parts_nk hk (.inr c2)).2]
    exact howOf_key _ (ext_le _ _ _ h1) w
  simp only [if_neg c2]
  by_cases c3 : g s 0 = 101
  · simp only [if_pos c3]
    rw [(parts_e hk c3).2.2]
    exact howOf_epoch _ _ (ext_le _ _ _ h1) (ext_le _ _ _ h1) w
  simp only [if_neg c3]
  by_cases c4 : g s 0 = 109
  · simp only [if_pos c4]
    rw [(parts_m hk c4).2.2.2]
    exact howOf_say _ _ (ext_le _ _ _ h1) w
  simp only [if_neg c4]
  by_cases c5 : g s 0 = 114
  · simp only [if_pos c5]
    rw [(parts_r hk c5).2.2.2]
    exact howOf_room _ _ (ext_le _ _ _ h1) w
  simp only [if_neg c5]
  exact howOf_new _ _ w

theorem made_not {s : ByteArray} (hk : ok s = false) : mOp s = 0 ∧ mWho s = 0 ∧ mN s = 0 ∧ mA s = ⟨#[]⟩ ∧ mB s = ⟨#[]⟩ := by
  unfold mOp mWho mN mA mB; simp [hk]

set_option maxRecDepth 100000 in
set_option maxHeartbeats 1000000 in
theorem iSecMade_any (s : ByteArray) (w : World) (hm : s.size ≤ maxLen) :
    Calls Try.prog 76 #[.string s] w fun e w' => e = .returned (howV (mOp s) (mWho s) (mN s) (mA s) (mB s)) ∧ Below w.heap.size w w' := by
  have M := hide hm
  clear hm
  cases hk : ok s with
  | false =>
    obtain ⟨e1, e2, e3, e4, e5⟩ := made_not hk
    rw [e1, e2, e3, e4, e5]
    have K := hide hk
    clear hk e1 e2 e3 e4 e5
    go_enter Try.func76, Try.ntmps76
    go_wp2_with fail
    refine (readSecret_any s _ M.out).mono ?_
    rintro e w1 ⟨hb1, ⟨h1, h2⟩ | ⟨h1, rfl⟩⟩
    · rw [K.out] at h1; cases h1
    clear h1
    obtain ⟨c0, c1, c2, c3, c4, z0, z1, z2, z3, z4⟩ := Res5.keep (b := w.heap.size) (by constructor <;> simp [go_sem]) hb1 (by simp)
    have hbb : Below w.heap.size w w1 := ((Below.refl w.heap.size w).alloc (Nat.le_refl _) _).trans (hb1.mono (by simp))
    clear hb1
    go_wp2_with fail
    exact bodyPost_ret (v := howV 0 0 0 ⟨#[]⟩ ⟨#[]⟩) (by simp [results, Try.results76, go_sem, howV, c0, c1, c2, c3, c4]) rfl ⟨rfl, below5 hbb (Nat.le_refl _) _ _ _ _ _⟩
  | true =>
    have K := hide hk
    clear hk
    go_enter Try.func76, Try.ntmps76
    go_wp2_with fail
    refine (readSecret_any s _ M.out).mono ?_
    rintro e w1 ⟨hb1, ⟨h1, rfl⟩ | ⟨h1, h2⟩⟩
    · clear h1
      have R1 := Res5.keep (b := w.heap.size) (by constructor <;> simp [go_sem]) hb1 (by simp)
      have hsz : w.heap.size < w1.heap.size := by have := hb1.size; simp at this; omega
      have hbb : Below w.heap.size w w1 := ((Below.refl w.heap.size w).alloc (Nat.le_refl _) _).trans (hb1.mono (by simp))
      clear hb1
      have HB := hide hbb
      have HR := hide R1
      clear hbb R1
      generalize hv : secV s 0 = v
      go_wp2_with fail
      rw [← hv]
      refine (howOf_sec s _ K.out).mono ?_
      rintro e w2 ⟨rfl, hb2⟩
      obtain ⟨c0, c1, c2, c3, c4, z0, z1, z2, z3, z4⟩ := Res5.keep (unhide HR) hb2 hsz
      have hbc : Below w.heap.size w w2 := (unhide HB).trans (hb2.mono (Nat.le_of_lt hsz))
      clear hb2 hv
      unfold howV
      go_wp2_with fail
      exact bodyPost_ret (v := howV (mOp s) (mWho s) (mN s) (mA s) (mB s)) (by simp [results, Try.results76, go_sem, howV, c0, c1, c2, c3, c4]) rfl ⟨rfl, below5 hbc (Nat.le_refl _) _ _ _ _ _⟩
    · rw [K.out] at h1; cases h1
#print axioms iSecMade_any
end Go.Proofs.Ytkcopldlobomhaa
