/-
  DrawMakRoom, whatever order its region draws. Written by gendraw.py.
-/
import Derived.Test.YtkhjolfofcnhiaaDraw6
namespace Go.Proofs.Ytkhjolfofcnhiaa
open Go.RowKit

/-- What the slots of DrawMakRoom's region hold. -/
def TRoom (b : Nat) (d : Nat) (v : Value) (w : World) : Prop :=
  match d with
  | 7 => PPtr b v
  | 8 => PStr v
  | 9 => PPtr b v
  | 10 => PInt 0 8 v
  | 11 => PInt 1 9 v
  | 12 => PRow b 3 (0) 10 v w
  | 13 => PRow b 5 (0) 2 v w
  | 14 => PPtr b v
  | 15 => PInt 0 4 v
  | 16 => PAt b (0) 2 v w
  | 17 => PInt 0 2 v
  | 18 => PAt b (0) 10 v w
  | 19 => PInt 0 10 v
  | 2 => PStr v
  | 3 => PInt 0 10 v
  | _ => True

theorem TRoom.keep (b : Nat) : ∀ d v w w', TRoom b d v w → Ex b w w' → TRoom b d v w' := by
  intro d v w w' h x
  unfold TRoom at *
  split at h
  all_goals first
    | exact PRow.keep h x
    | exact PAt.keep h x
    | exact h

set_option maxRecDepth 100000 in
set_option maxHeartbeats 4000000 in
theorem DrawMakRoom_any (a : Option Addr) (len cap : Nat) (zs : List Int) (w : World) (h : IsRow .u8 w a len cap zs) :
    Calls Try.prog 29 #[.slice a len cap] w fun e w' => ∃ (s : ByteArray) (n : Int), e = .returned (.tuple #[.string s, .int .i64 n]) ∧ s.size ≤ 700 ∧ 0 ≤ n ∧ n ≤ 10 ∧ Below w.heap.size w w' := by
  have hR := hide h
  clear h
  go_enter Try.func29, Try.ntmps29
  go_wp2_with fail
  refine (l20Open_any a len cap zs _ (unhide hR)).mono ?_
  rintro e w1 ⟨C, rfl, d1, hb1⟩
  have D1 := hide d1
  have HB1 := hide hb1
  clear d1 hb1
  go_wp2_with fail
  generalize hbb : w.heap.size = b at *
  refine wp_region_reader (by kernel_rfl) (TRoom b) (Ex b) (JJ b C) 4 20 (.pointer (some ⟨b, 0, none⟩)) (by kernel_rfl) (by kernel_rfl) (by kernel_rfl) (TRoom.keep b) ((Ex.refl _ _).drew) (fun _ _ _ h k => h.trans k) ⟨0, by omega, (unhide D1).drew⟩ ⟨rfl, rfl, rfl⟩ ?hops ?hend
  case hops =>
    intro i o a w k hi hB hJ hk hdep
    have hkn : k < 15 := hk
    clear hk
    obtain ⟨b1, b2, b3⟩ := hB
    match i, hi with
    | 0, hi =>
      simp at hi
      subst hi
      clear hdep
      go_simp
      exact ⟨_, rfl, rfl, Ex.refl _ _, hJ.stay⟩
    | 1, hi =>
      simp at hi
      subst hi
      have t7 : a.tmps.getD 7 undef = .pointer (some ⟨b, 0, none⟩) := hdep { on := 0, ground := .data } (by simp) rfl _ 7 rfl rfl
      clear hdep
      go_simp
      obtain ⟨p, hp, hd⟩ := hJ
      refine (l20SecretOr_any b C p 5 _ rfl _ hd (by omega) (by omega) (by omega)).mono ?_
      rintro e w' ⟨s, q, rfl, hs, hq, hd', hx⟩
      go_simp
      exact ⟨_, rfl, ⟨s, rfl, hs⟩, q, by omega, hd'⟩
    | 2, hi =>
      simp at hi
      subst hi
      clear hdep
      go_simp
      exact ⟨_, rfl, rfl, Ex.refl _ _, hJ.stay⟩
    | 3, hi =>
      simp at hi
      subst hi
      have t9 : a.tmps.getD 9 undef = .pointer (some ⟨b, 0, none⟩) := hdep { on := 2, ground := .data } (by simp) rfl _ 9 rfl rfl
      clear hdep
      go_simp
      obtain ⟨p, hp, hd⟩ := hJ
      refine (pick_any b C p 9 _ rfl _ hd (by omega) (by omega) (by omega)).mono ?_
      rintro e w' ⟨v, rfl, hv, hd', hx⟩
      go_simp
      exact ⟨_, rfl, ⟨v, rfl, by omega, by omega⟩, p + 1, by omega, hd'⟩
    | 4, hi =>
      simp at hi
      subst hi
      obtain ⟨x, t10, hx1, hx2⟩ : PInt 0 8 (a.tmps.getD 10 undef) := hdep { on := 3, ground := .data } (by simp) rfl _ 10 rfl rfl
      clear hdep
      go_simp
      refine ⟨_, rfl, ⟨1 + x, ?_, by omega, by omega⟩, Ex.refl _ _, hJ.stay⟩
      simp [IntKind.wrap, IntKind.bits, IntKind.signed]
      omega
    | 5, hi =>
      simp at hi
      subst hi
      obtain ⟨x, t11, hx1, hx2⟩ : PInt 1 9 (a.tmps.getD 11 undef) := hdep { on := 4, ground := .data } (by simp) rfl _ 11 rfl rfl
      clear hdep
      have t11' := getE t11
      go_simp
      refine ⟨_, rfl, ⟨w.heap.size, rfl, by simp, Nat.ne_of_gt hJ.lt, ?_⟩, (Ex.refl _ _).alloc _, hJ.alloc _⟩
      intro j hj
      match j, hj with
      | 0, _ => exact ⟨x, by simp [go_sem], by omega, by omega⟩
      | 1, _ => exact ⟨0, by simp [go_sem], by omega, by omega⟩
      | 2, _ => exact ⟨10, by simp [go_sem], by omega, by omega⟩
      | j + 3, hj => omega
    | 6, hi =>
      simp at hi
      subst hi
      clear hdep
      go_simp
      refine ⟨_, rfl, ⟨w.heap.size, rfl, by simp, Nat.ne_of_gt hJ.lt, ?_⟩, (Ex.refl _ _).alloc _, hJ.alloc _⟩
      intro j hj
      match j, hj with
      | 0, _ => exact ⟨0, by simp [go_sem], by omega, by omega⟩
      | 1, _ => exact ⟨0, by simp [go_sem], by omega, by omega⟩
      | 2, _ => exact ⟨0, by simp [go_sem], by omega, by omega⟩
      | 3, _ => exact ⟨1, by simp [go_sem], by omega, by omega⟩
      | 4, _ => exact ⟨2, by simp [go_sem], by omega, by omega⟩
      | j + 5, hj => omega
    | 7, hi =>
      simp at hi
      subst hi
      clear hdep
      go_simp
      exact ⟨_, rfl, rfl, Ex.refl _ _, hJ.stay⟩
    | 8, hi =>
      simp at hi
      subst hi
      have t14 : a.tmps.getD 14 undef = .pointer (some ⟨b, 0, none⟩) := hdep { on := 7, ground := .data } (by simp) rfl _ 14 rfl rfl
      clear hdep
      go_simp
      obtain ⟨p, hp, hd⟩ := hJ
      refine (pick_any b C p 5 _ rfl _ hd (by omega) (by omega) (by omega)).mono ?_
      rintro e w' ⟨v, rfl, hv, hd', hx⟩
      go_simp
      exact ⟨_, rfl, ⟨v, rfl, by omega, by omega⟩, p + 1, by omega, hd'⟩
    | 9, hi =>
      simp at hi
      subst hi
      obtain ⟨blk, t13, h1, h2, h3⟩ : PRow b 5 (0) 2 (a.tmps.getD 13 undef) w := hdep { on := 6, ground := .data } (by simp) rfl _ 13 rfl rfl
      obtain ⟨x, t15, hx1, hx2⟩ : PInt 0 4 (a.tmps.getD 15 undef) := hdep { on := 8, ground := .data } (by simp) rfl _ 15 rfl rfl
      clear hdep
      have hx3 : x < 5 := by omega
      go_simp
      exact ⟨_, rfl, PAt.at h1 h2 h3 hx1 hx3, Ex.refl _ _, hJ.stay⟩
    | 10, hi =>
      simp at hi
      subst hi
      obtain ⟨blk, j, x, t16, h1, h2, h3, h4, h5⟩ : PAt b (0) 2 (a.tmps.getD 16 undef) w := hdep { on := 9, ground := .data } (by simp) rfl _ 16 rfl rfl
      clear hdep
      go_simp
      exact ⟨_, rfl, ⟨x, rfl, h4, h5⟩, Ex.refl _ _, hJ.stay⟩
    | 11, hi =>
      simp at hi
      subst hi
      obtain ⟨blk, t12, h1, h2, h3⟩ : PRow b 3 (0) 10 (a.tmps.getD 12 undef) w := hdep { on := 5, ground := .data } (by simp) rfl _ 12 rfl rfl
      obtain ⟨x, t17, hx1, hx2⟩ : PInt 0 2 (a.tmps.getD 17 undef) := hdep { on := 10, ground := .data } (by simp) rfl _ 17 rfl rfl
      clear hdep
      have hx3 : x < 3 := by omega
      go_simp
      exact ⟨_, rfl, PAt.at h1 h2 h3 hx1 hx3, Ex.refl _ _, hJ.stay⟩
    | 12, hi =>
      simp at hi
      subst hi
      obtain ⟨blk, j, x, t18, h1, h2, h3, h4, h5⟩ : PAt b (0) 10 (a.tmps.getD 18 undef) w := hdep { on := 11, ground := .data } (by simp) rfl _ 18 rfl rfl
      clear hdep
      go_simp
      exact ⟨_, rfl, ⟨x, rfl, h4, h5⟩, Ex.refl _ _, hJ.stay⟩
    | 13, hi =>
      simp at hi
      subst hi
      obtain ⟨s, t8, hs⟩ : PStr (a.tmps.getD 8 undef) := hdep { on := 1, ground := .data } (by simp) rfl _ 8 rfl rfl
      clear hdep
      go_simp
      exact ⟨_, rfl, ⟨s, rfl, hs⟩, Ex.refl _ _, hJ.stay⟩
    | 14, hi =>
      simp at hi
      subst hi
      obtain ⟨x, t19, hx1, hx2⟩ : PInt 0 10 (a.tmps.getD 19 undef) := hdep { on := 12, ground := .data } (by simp) rfl _ 19 rfl rfl
      clear hdep
      go_simp
      exact ⟨_, rfl, ⟨x, rfl, hx1, hx2⟩, Ex.refl _ _, hJ.stay⟩
    | n + 15, hi => simp at hi
  case hend =>
    rintro a w' ⟨b1, b2, b3⟩ hx hJ hall
    obtain ⟨s, t2, hs⟩ : PStr (a.tmps.getD 2 undef) := hall 13 _ 2 rfl rfl
    obtain ⟨x, t3, hx1, hx2⟩ : PInt 0 10 (a.tmps.getD 3 undef) := hall 14 _ 3 rfl rfl
    clear hall
    have hall2 : Below b w w' := (unhide HB1).trans (hx.below (Nat.le_refl _) (by subst hbb; exact (unhide HB1).size))
    clear hJ hx
    go_wp2_with fail
    refine bodyPost_ret (v := .tuple #[.string s, .int .i64 x]) (by simp [results, Try.results29, go_sem, b1, getE t2, getE t3]) b3 ⟨s, x, rfl, hs, hx1, hx2, ?_⟩
    subst hbb
    exact hall2
#print axioms DrawMakRoom_any
end Go.Proofs.Ytkhjolfofcnhiaa
