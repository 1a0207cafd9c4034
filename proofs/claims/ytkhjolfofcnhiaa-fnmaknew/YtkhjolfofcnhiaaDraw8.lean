/-
  DrawMakNew, whatever order its region draws. Written by gendraw.py.
-/
import Derived.Test.YtkhjolfofcnhiaaDraw6
namespace Go.Proofs.Ytkhjolfofcnhiaa
open Go.RowKit

/-- What the slots of DrawMakNew's region hold. -/
def TNew (b : Nat) (d : Nat) (v : Value) (w : World) : Prop :=
  match d with
  | 7 => PPtr b v
  | 8 => PInt 0 7 v
  | 9 => PRow b 3 (-1) 8 v w
  | 10 => PRow b 5 (0) 2 v w
  | 11 => PPtr b v
  | 12 => PInt 0 4 v
  | 13 => PAt b (0) 2 v w
  | 14 => PInt 0 2 v
  | 15 => PAt b (-1) 8 v w
  | 16 => PInt (-1) 8 v
  | 17 => PPtr b v
  | 18 => PInt 0 98 v
  | 19 => PInt 1 99 v
  | 20 => PRow b 5 (-1) 100 v w
  | 21 => PPtr b v
  | 22 => PInt 0 4 v
  | 23 => PAt b (-1) 100 v w
  | 24 => PInt (-1) 100 v
  | 2 => PInt (-1) 8 v
  | 3 => PInt (-1) 100 v
  | _ => True

theorem TNew.keep (b : Nat) : ∀ d v w w', TNew b d v w → Ex b w w' → TNew b d v w' := by
  intro d v w w' h x
  unfold TNew at *
  split at h
  all_goals first
    | exact PRow.keep h x
    | exact PAt.keep h x
    | exact h

set_option maxRecDepth 100000 in
set_option maxHeartbeats 4000000 in
theorem DrawMakNew_any (a : Option Addr) (len cap : Nat) (zs : List Int) (w : World) (h : IsRow .u8 w a len cap zs) :
    Calls Try.prog 8 #[.slice a len cap] w fun e w' => ∃ (n m : Int), e = .returned (.tuple #[.int .i64 n, .int .i64 m]) ∧ (-1) ≤ n ∧ n ≤ 8 ∧ (-1) ≤ m ∧ m ≤ 100 ∧ Below w.heap.size w w' := by
  have hR := hide h
  clear h
  go_enter Try.func8, Try.ntmps8
  go_wp2_with fail
  refine (l20Open_any a len cap zs _ (unhide hR)).mono ?_
  rintro e w1 ⟨C, rfl, d1, hb1⟩
  have D1 := hide d1
  have HB1 := hide hb1
  clear d1 hb1
  go_wp2_with fail
  generalize hbb : w.heap.size = b at *
  refine wp_region_reader (by kernel_rfl) (TNew b) (Ex b) (JJ b C) 4 25 (.pointer (some ⟨b, 0, none⟩)) (by kernel_rfl) (by kernel_rfl) (by kernel_rfl) (TNew.keep b) ((Ex.refl _ _).drew) (fun _ _ _ h k => h.trans k) ⟨0, by omega, (unhide D1).drew⟩ ⟨rfl, rfl, rfl⟩ ?hops ?hend
  case hops =>
    intro i o a w k hi hB hJ hk hdep
    have hkn : k < 20 := hk
    clear hk
    obtain ⟨b1, b2, b3⟩ := hB
    match i, hi with
    | 0, hi =>
      simp at hi
      subst hi
      clear hdep
      go_simp
      exact ⟨_, rfl, rfl, Ex.refl _ _, hJ.stay⟩
    | 1, hi =>
      simp at hi
      subst hi
      have t7 : a.tmps.getD 7 undef = .pointer (some ⟨b, 0, none⟩) := hdep { on := 0, ground := .data } (by simp) rfl _ 7 rfl rfl
      clear hdep
      go_simp
      obtain ⟨p, hp, hd⟩ := hJ
      refine (pick_any b C p 8 _ rfl _ hd (by omega) (by omega) (by omega)).mono ?_
      rintro e w' ⟨v, rfl, hv, hd', hx⟩
      go_simp
      exact ⟨_, rfl, ⟨v, rfl, by omega, by omega⟩, p + 1, by omega, hd'⟩
    | 2, hi =>
      simp at hi
      subst hi
      obtain ⟨x, t8, hx1, hx2⟩ : PInt 0 7 (a.tmps.getD 8 undef) := hdep { on := 1, ground := .data } (by simp) rfl _ 8 rfl rfl
      clear hdep
      have t8' := getE t8
      go_simp
      refine ⟨_, rfl, ⟨w.heap.size, rfl, by simp, Nat.ne_of_gt hJ.lt, ?_⟩, (Ex.refl _ _).alloc _, hJ.alloc _⟩
      intro j hj
      match j, hj with
      | 0, _ => exact ⟨x, by simp [go_sem], by omega, by omega⟩
      | 1, _ => exact ⟨-1, by simp [go_sem], by omega, by omega⟩
      | 2, _ => exact ⟨8, by simp [go_sem], by omega, by omega⟩
      | j + 3, hj => omega
    | 3, hi =>
      simp at hi
      subst hi
      clear hdep
      go_simp
      refine ⟨_, rfl, ⟨w.heap.size, rfl, by simp, Nat.ne_of_gt hJ.lt, ?_⟩, (Ex.refl _ _).alloc _, hJ.alloc _⟩
      intro j hj
      match j, hj with
      | 0, _ => exact ⟨0, by simp [go_sem], by omega, by omega⟩
      | 1, _ => exact ⟨0, by simp [go_sem], by omega, by omega⟩
      | 2, _ => exact ⟨0, by simp [go_sem], by omega, by omega⟩
      | 3, _ => exact ⟨1, by simp [go_sem], by omega, by omega⟩
      | 4, _ => exact ⟨2, by simp [go_sem], by omega, by omega⟩
      | j + 5, hj => omega
    | 4, hi =>
      simp at hi
      subst hi
      clear hdep
      go_simp
      exact ⟨_, rfl, rfl, Ex.refl _ _, hJ.stay⟩
    | 5, hi =>
      simp at hi
      subst hi
      have t11 : a.tmps.getD 11 undef = .pointer (some ⟨b, 0, none⟩) := hdep { on := 4, ground := .data } (by simp) rfl _ 11 rfl rfl
      clear hdep
      go_simp
      obtain ⟨p, hp, hd⟩ := hJ
      refine (pick_any b C p 5 _ rfl _ hd (by omega) (by omega) (by omega)).mono ?_
      rintro e w' ⟨v, rfl, hv, hd', hx⟩
      go_simp
      exact ⟨_, rfl, ⟨v, rfl, by omega, by omega⟩, p + 1, by omega, hd'⟩
    | 6, hi =>
      simp at hi
      subst hi
      obtain ⟨blk, t10, h1, h2, h3⟩ : PRow b 5 (0) 2 (a.tmps.getD 10 undef) w := hdep { on := 3, ground := .data } (by simp) rfl _ 10 rfl rfl
      obtain ⟨x, t12, hx1, hx2⟩ : PInt 0 4 (a.tmps.getD 12 undef) := hdep { on := 5, ground := .data } (by simp) rfl _ 12 rfl rfl
      clear hdep
      have hx3 : x < 5 := by omega
      go_simp
      exact ⟨_, rfl, PAt.at h1 h2 h3 hx1 hx3, Ex.refl _ _, hJ.stay⟩
    | 7, hi =>
      simp at hi
      subst hi
      obtain ⟨blk, j, x, t13, h1, h2, h3, h4, h5⟩ : PAt b (0) 2 (a.tmps.getD 13 undef) w := hdep { on := 6, ground := .data } (by simp) rfl _ 13 rfl rfl
      clear hdep
      go_simp
      exact ⟨_, rfl, ⟨x, rfl, h4, h5⟩, Ex.refl _ _, hJ.stay⟩
    | 8, hi =>
      simp at hi
      subst hi
      obtain ⟨blk, t9, h1, h2, h3⟩ : PRow b 3 (-1) 8 (a.tmps.getD 9 undef) w := hdep { on := 2, ground := .data } (by simp) rfl _ 9 rfl rfl
      obtain ⟨x, t14, hx1, hx2⟩ : PInt 0 2 (a.tmps.getD 14 undef) := hdep { on := 7, ground := .data } (by simp) rfl _ 14 rfl rfl
      clear hdep
      have hx3 : x < 3 := by omega
      go_simp
      exact ⟨_, rfl, PAt.at h1 h2 h3 hx1 hx3, Ex.refl _ _, hJ.stay⟩
    | 9, hi =>
      simp at hi
      subst hi
      obtain ⟨blk, j, x, t15, h1, h2, h3, h4, h5⟩ : PAt b (-1) 8 (a.tmps.getD 15 undef) w := hdep { on := 8, ground := .data } (by simp) rfl _ 15 rfl rfl
      clear hdep
      go_simp
      exact ⟨_, rfl, ⟨x, rfl, h4, h5⟩, Ex.refl _ _, hJ.stay⟩
    | 10, hi =>
      simp at hi
      subst hi
      clear hdep
      go_simp
      exact ⟨_, rfl, rfl, Ex.refl _ _, hJ.stay⟩
    | 11, hi =>
      simp at hi
      subst hi
      have t17 : a.tmps.getD 17 undef = .pointer (some ⟨b, 0, none⟩) := hdep { on := 10, ground := .data } (by simp) rfl _ 17 rfl rfl
      clear hdep
      go_simp
      obtain ⟨p, hp, hd⟩ := hJ
      refine (pick_any b C p 99 _ rfl _ hd (by omega) (by omega) (by omega)).mono ?_
      rintro e w' ⟨v, rfl, hv, hd', hx⟩
      go_simp
      exact ⟨_, rfl, ⟨v, rfl, by omega, by omega⟩, p + 1, by omega, hd'⟩
    | 12, hi =>
      simp at hi
      subst hi
      obtain ⟨x, t18, hx1, hx2⟩ : PInt 0 98 (a.tmps.getD 18 undef) := hdep { on := 11, ground := .data } (by simp) rfl _ 18 rfl rfl
      clear hdep
      go_simp
      refine ⟨_, rfl, ⟨1 + x, ?_, by omega, by omega⟩, Ex.refl _ _, hJ.stay⟩
      simp [IntKind.wrap, IntKind.bits, IntKind.signed]
      omega
    | 13, hi =>
      simp at hi
      subst hi
      obtain ⟨x, t19, hx1, hx2⟩ : PInt 1 99 (a.tmps.getD 19 undef) := hdep { on := 12, ground := .data } (by simp) rfl _ 19 rfl rfl
      clear hdep
      have t19' := getE t19
      go_simp
      refine ⟨_, rfl, ⟨w.heap.size, rfl, by simp, Nat.ne_of_gt hJ.lt, ?_⟩, (Ex.refl _ _).alloc _, hJ.alloc _⟩
      intro j hj
      match j, hj with
      | 0, _ => exact ⟨x, by simp [go_sem], by omega, by omega⟩
      | 1, _ => exact ⟨0, by simp [go_sem], by omega, by omega⟩
      | 2, _ => exact ⟨100, by simp [go_sem], by omega, by omega⟩
      | 3, _ => exact ⟨99, by simp [go_sem], by omega, by omega⟩
      | 4, _ => exact ⟨-1, by simp [go_sem], by omega, by omega⟩
      | j + 5, hj => omega
    | 14, hi =>
      simp at hi
      subst hi
      clear hdep
      go_simp
      exact ⟨_, rfl, rfl, Ex.refl _ _, hJ.stay⟩
    | 15, hi =>
      simp at hi
      subst hi
      have t21 : a.tmps.getD 21 undef = .pointer (some ⟨b, 0, none⟩) := hdep { on := 14, ground := .data } (by simp) rfl _ 21 rfl rfl
      clear hdep
      go_simp
      obtain ⟨p, hp, hd⟩ := hJ
      refine (pick_any b C p 5 _ rfl _ hd (by omega) (by omega) (by omega)).mono ?_
      rintro e w' ⟨v, rfl, hv, hd', hx⟩
      go_simp
      exact ⟨_, rfl, ⟨v, rfl, by omega, by omega⟩, p + 1, by omega, hd'⟩
    | 16, hi =>
      simp at hi
      subst hi
      obtain ⟨blk, t20, h1, h2, h3⟩ : PRow b 5 (-1) 100 (a.tmps.getD 20 undef) w := hdep { on := 13, ground := .data } (by simp) rfl _ 20 rfl rfl
      obtain ⟨x, t22, hx1, hx2⟩ : PInt 0 4 (a.tmps.getD 22 undef) := hdep { on := 15, ground := .data } (by simp) rfl _ 22 rfl rfl
      clear hdep
      have hx3 : x < 5 := by omega
      go_simp
      exact ⟨_, rfl, PAt.at h1 h2 h3 hx1 hx3, Ex.refl _ _, hJ.stay⟩
    | 17, hi =>
      simp at hi
      subst hi
      obtain ⟨blk, j, x, t23, h1, h2, h3, h4, h5⟩ : PAt b (-1) 100 (a.tmps.getD 23 undef) w := hdep { on := 16, ground := .data } (by simp) rfl _ 23 rfl rfl
      clear hdep
      go_simp
      exact ⟨_, rfl, ⟨x, rfl, h4, h5⟩, Ex.refl _ _, hJ.stay⟩
    | 18, hi =>
      simp at hi
      subst hi
      obtain ⟨x, t16, hx1, hx2⟩ : PInt (-1) 8 (a.tmps.getD 16 undef) := hdep { on := 9, ground := .data } (by simp) rfl _ 16 rfl rfl
      clear hdep
      go_simp
      exact ⟨_, rfl, ⟨x, rfl, hx1, hx2⟩, Ex.refl _ _, hJ.stay⟩
    | 19, hi =>
      simp at hi
      subst hi
      obtain ⟨x, t24, hx1, hx2⟩ : PInt (-1) 100 (a.tmps.getD 24 undef) := hdep { on := 17, ground := .data } (by simp) rfl _ 24 rfl rfl
      clear hdep
      go_simp
      exact ⟨_, rfl, ⟨x, rfl, hx1, hx2⟩, Ex.refl _ _, hJ.stay⟩
    | n + 20, hi => simp at hi
  case hend =>
    rintro a w' ⟨b1, b2, b3⟩ hx hJ hall
    obtain ⟨y, t2, hy1, hy2⟩ : PInt (-1) 8 (a.tmps.getD 2 undef) := hall 18 _ 2 rfl rfl
    obtain ⟨x, t3, hx1, hx2⟩ : PInt (-1) 100 (a.tmps.getD 3 undef) := hall 19 _ 3 rfl rfl
    clear hall
    have hall2 : Below b w w' := (unhide HB1).trans (hx.below (Nat.le_refl _) (by subst hbb; exact (unhide HB1).size))
    clear hJ hx
    go_wp2_with fail
    refine bodyPost_ret (v := .tuple #[.int .i64 y, .int .i64 x]) (by simp [results, Try.results8, go_sem, b1, getE t2, getE t3]) b3 ⟨y, x, rfl, hy1, hy2, hx1, hx2, ?_⟩
    subst hbb
    exact hall2
#print axioms DrawMakNew_any
end Go.Proofs.Ytkhjolfofcnhiaa
