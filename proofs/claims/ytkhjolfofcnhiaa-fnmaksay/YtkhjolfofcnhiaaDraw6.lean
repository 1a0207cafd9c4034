/-
  Drawn numbers: regions whose order is drawn, by an invariant of their slots.
-/
import Derived.Test.YtkhjolfofcnhiaaDraw3
import Derived.Test.YtkhjolfofcnhiaaInv
namespace Go.Proofs.Ytkhjolfofcnhiaa
open Go.RowKit

/-- A value is this reader. -/
def PPtr (b : Nat) (v : Value) : Prop := v = .pointer (some ⟨b, 0, none⟩)
def PStr (v : Value) : Prop := ∃ s : ByteArray, v = .string s ∧ s.size ≤ 700
def PInt (lo hi : Int) (v : Value) : Prop := ∃ x : Int, v = .int .i64 x ∧ lo ≤ x ∧ x ≤ hi
def PRow (b n : Nat) (lo hi : Int) (v : Value) (w : World) : Prop :=
  ∃ blk, v = .slice (some ⟨blk, 0, none⟩) n n ∧ blk < w.heap.size ∧ blk ≠ b ∧ ∀ j, j < n → ∃ x, w.cell? ⟨blk, j, none⟩ = some (.int .i64 x) ∧ lo ≤ x ∧ x ≤ hi
def PAt (b : Nat) (lo hi : Int) (v : Value) (w : World) : Prop :=
  ∃ blk j x, v = .pointer (some ⟨blk, j, none⟩) ∧ blk < w.heap.size ∧ blk ≠ b ∧ w.cell? ⟨blk, j, none⟩ = some (.int .i64 x) ∧ lo ≤ x ∧ x ≤ hi

theorem PRow.keep {b n : Nat} {lo hi : Int} {v : Value} {w w' : World} (h : PRow b n lo hi v w) (x : Ex b w w') : PRow b n lo hi v w' := by
  obtain ⟨blk, h1, h2, h3, h4⟩ := h
  exact ⟨blk, h1, Nat.lt_of_lt_of_le h2 x.size, h3, fun j hj => by rw [x.cell (p := ⟨blk, j, none⟩) h2 h3]; exact h4 j hj⟩
theorem PAt.keep {b : Nat} {lo hi : Int} {v : Value} {w w' : World} (h : PAt b lo hi v w) (x : Ex b w w') : PAt b lo hi v w' := by
  obtain ⟨blk, j, y, h1, h2, h3, h4, h5⟩ := h
  exact ⟨blk, j, y, h1, Nat.lt_of_lt_of_le h2 x.size, h3, by rw [x.cell (p := ⟨blk, j, none⟩) h2 h3]; exact h4, h5⟩

/-- How many draws there were at most, behind so many operations. -/
def JJ (b : Nat) (C : Code) (k : Nat) (w : World) : Prop := ∃ p, p ≤ 101 * k ∧ DrC b C p w

/-- What the slots of DrawMakSay's region hold. -/
def TSay (b : Nat) (d : Nat) (v : Value) (w : World) : Prop :=
  match d with
  | 7 => PPtr b v
  | 8 => PStr v
  | 9 => PPtr b v
  | 10 => PInt 0 7 v
  | 11 => PRow b 3 (-1) 8 v w
  | 12 => PRow b 5 0 2 v w
  | 13 => PPtr b v
  | 14 => PInt 0 4 v
  | 15 => PAt b 0 2 v w
  | 16 => PInt 0 2 v
  | 17 => PAt b (-1) 8 v w
  | 18 => PInt (-1) 8 v
  | 2 => PStr v
  | 3 => PInt (-1) 8 v
  | _ => True

theorem TSay.keep (b : Nat) : ∀ d v w w', TSay b d v w → Ex b w w' → TSay b d v w' := by
  intro d v w w' h x
  unfold TSay at *
  split at h
  all_goals first
    | exact PRow.keep h x
    | exact PAt.keep h x
    | exact h

theorem JJ.up {b : Nat} {C : Code} {k : Nat} {w w' : World} (h : JJ b C k w) (hb : Below w.heap.size w w') : JJ b C (k + 1) w' := by
  obtain ⟨p, h1, h2⟩ := h
  exact ⟨p, by omega, h2.below hb⟩

theorem JJ.lt {b : Nat} {C : Code} {k : Nat} {w : World} (h : JJ b C k w) : b < w.heap.size := by
  obtain ⟨p, h1, h2⟩ := h
  exact h2.lt
theorem JJ.alloc {b : Nat} {C : Code} {k : Nat} {w : World} (h : JJ b C k w) (o : Obj) : JJ b C (k + 1) (w.alloc o) := h.up ((Below.refl _ _).alloc (Nat.le_refl _) _)
theorem JJ.stay {b : Nat} {C : Code} {k : Nat} {w : World} (h : JJ b C k w) : JJ b C (k + 1) w := h.up (Below.refl _ _)

theorem getE {a : Act} {d : Nat} {v : Value} (h : a.tmps.getD d undef = v) : ∀ h', a.tmps[d]'h' = v := by
  intro h'
  rw [← h]
  simp [Array.getD_eq_getD_getElem?, h']

theorem PAt.at {b n : Nat} {lo hi : Int} {w : World} {blk : Nat} {x : Int} (h2 : blk < w.heap.size) (h3 : blk ≠ b) (h4 : ∀ j, j < n → ∃ y, w.cell? ⟨blk, j, none⟩ = some (.int .i64 y) ∧ lo ≤ y ∧ y ≤ hi) (h0 : 0 ≤ x) (h1 : x < (n : Int)) :
    PAt b lo hi (.pointer (some ⟨blk, x.toNat, none⟩)) w := by
  obtain ⟨y, h5, h6, h7⟩ := h4 x.toNat (by omega)
  exact ⟨blk, x.toNat, y, rfl, h2, h3, h5, h6, h7⟩

set_option maxRecDepth 100000 in
set_option maxHeartbeats 4000000 in
theorem DrawMakSay_any (a : Option Addr) (len cap : Nat) (zs : List Int) (w : World) (h : IsRow .u8 w a len cap zs) :
    Calls Try.prog 28 #[.slice a len cap] w fun e w' => ∃ (s : ByteArray) (who : Int), e = .returned (.tuple #[.string s, .int .i64 who]) ∧ s.size ≤ 700 ∧ -1 ≤ who ∧ who ≤ 8 ∧ Below w.heap.size w w' := by
  have hR := hide h
  clear h
  go_enter Try.func28, Try.ntmps28
  go_wp2_with fail
  refine (l20Open_any a len cap zs _ (unhide hR)).mono ?_
  rintro e w1 ⟨C, rfl, d1, hb1⟩
  have D1 := hide d1
  have HB1 := hide hb1
  clear d1 hb1
  go_wp2_with fail
  generalize hbb : w.heap.size = b at *
  refine wp_region_reader (by kernel_rfl) (TSay b) (Ex b) (JJ b C) 4 19 (.pointer (some ⟨b, 0, none⟩)) (by kernel_rfl) (by kernel_rfl) (by kernel_rfl) (TSay.keep b) ((Ex.refl _ _).drew) (fun _ _ _ h k => h.trans k) ⟨0, by omega, (unhide D1).drew⟩ ⟨rfl, rfl, rfl⟩ ?hops ?hend
  case hops =>
    intro i o a w k hi hB hJ hk hdep
    have hk14 : k < 14 := hk
    clear hk
    obtain ⟨b1, b2, b3⟩ := hB
    match i, hi with
    | 0, hi =>
      simp at hi
      subst hi
      go_simp
      exact ⟨_, rfl, rfl, Ex.refl _ _, hJ.stay⟩
    | 1, hi =>
      simp at hi
      subst hi
      have t7 : a.tmps.getD 7 undef = .pointer (some ⟨b, 0, none⟩) := hdep { on := 0, ground := .data } (by simp) rfl _ 7 rfl rfl
      clear hdep
      go_simp
      obtain ⟨p, hp, hd⟩ := hJ
      refine (l20SecretOr_any b C p 5 _ rfl _ hd (by omega) (by omega) (by omega)).mono ?_
      rintro e w' ⟨s, q, rfl, hs, hq, hd', hx⟩
      go_simp
      exact ⟨_, rfl, ⟨s, rfl, hs⟩, q, by omega, hd'⟩
    | 2, hi =>
      simp at hi
      subst hi
      go_simp
      exact ⟨_, rfl, rfl, Ex.refl _ _, hJ.stay⟩
    | 3, hi =>
      simp at hi
      subst hi
      have t9 : a.tmps.getD 9 undef = .pointer (some ⟨b, 0, none⟩) := hdep { on := 2, ground := .data } (by simp) rfl _ 9 rfl rfl
      clear hdep
      go_simp
      obtain ⟨p, hp, hd⟩ := hJ
      refine (pick_any b C p 8 _ rfl _ hd (by omega) (by omega) (by omega)).mono ?_
      rintro e w' ⟨v, rfl, hv, hd', hx⟩
      go_simp
      exact ⟨_, rfl, ⟨v, rfl, by omega, by omega⟩, p + 1, by omega, hd'⟩
    | 4, hi =>
      simp at hi
      subst hi
      obtain ⟨x, t10, hx1, hx2⟩ : PInt 0 7 (a.tmps.getD 10 undef) := hdep { on := 3, ground := .data } (by simp) rfl _ 10 rfl rfl
      clear hdep
      have t10' := getE t10
      go_simp
      refine ⟨_, rfl, ⟨w.heap.size, rfl, by simp, Nat.ne_of_gt hJ.lt, ?_⟩, (Ex.refl _ _).alloc _, hJ.alloc _⟩
      intro j hj
      match j, hj with
      | 0, _ => exact ⟨x, by simp [go_sem], by omega, by omega⟩
      | 1, _ => exact ⟨-1, by simp [go_sem], by omega, by omega⟩
      | 2, _ => exact ⟨8, by simp [go_sem], by omega, by omega⟩
      | j + 3, hj => omega
    | 5, hi =>
      simp at hi
      subst hi
      clear hdep
      go_simp
      refine ⟨_, rfl, ⟨w.heap.size, rfl, by simp, Nat.ne_of_gt hJ.lt, ?_⟩, (Ex.refl _ _).alloc _, hJ.alloc _⟩
      intro j hj
      match j, hj with
      | 0, _ => exact ⟨0, by simp [go_sem], by omega, by omega⟩
      | 1, _ => exact ⟨0, by simp [go_sem], by omega, by omega⟩
      | 2, _ => exact ⟨0, by simp [go_sem], by omega, by omega⟩
      | 3, _ => exact ⟨1, by simp [go_sem], by omega, by omega⟩
      | 4, _ => exact ⟨2, by simp [go_sem], by omega, by omega⟩
      | j + 5, hj => omega
    | 6, hi =>
      simp at hi
      subst hi
      go_simp
      exact ⟨_, rfl, rfl, Ex.refl _ _, hJ.stay⟩
    | 7, hi =>
      simp at hi
      subst hi
      have t13 : a.tmps.getD 13 undef = .pointer (some ⟨b, 0, none⟩) := hdep { on := 6, ground := .data } (by simp) rfl _ 13 rfl rfl
      clear hdep
      go_simp
      obtain ⟨p, hp, hd⟩ := hJ
      refine (pick_any b C p 5 _ rfl _ hd (by omega) (by omega) (by omega)).mono ?_
      rintro e w' ⟨v, rfl, hv, hd', hx⟩
      go_simp
      exact ⟨_, rfl, ⟨v, rfl, by omega, by omega⟩, p + 1, by omega, hd'⟩
    | 8, hi =>
      simp at hi
      subst hi
      obtain ⟨blk, t12, h1, h2, h3⟩ : PRow b 5 0 2 (a.tmps.getD 12 undef) w := hdep { on := 5, ground := .data } (by simp) rfl _ 12 rfl rfl
      obtain ⟨x, t14, hx1, hx2⟩ : PInt 0 4 (a.tmps.getD 14 undef) := hdep { on := 7, ground := .data } (by simp) rfl _ 14 rfl rfl
      clear hdep
      have hx3 : x < 5 := by omega
      go_simp
      exact ⟨_, rfl, PAt.at h1 h2 h3 hx1 hx3, Ex.refl _ _, hJ.stay⟩
    | 9, hi =>
      simp at hi
      subst hi
      obtain ⟨blk, j, x, t15, h1, h2, h3, h4, h5⟩ : PAt b 0 2 (a.tmps.getD 15 undef) w := hdep { on := 8, ground := .data } (by simp) rfl _ 15 rfl rfl
      clear hdep
      go_simp
      exact ⟨_, rfl, ⟨x, rfl, h4, h5⟩, Ex.refl _ _, hJ.stay⟩
    | 10, hi =>
      simp at hi
      subst hi
      obtain ⟨blk, t11, h1, h2, h3⟩ : PRow b 3 (-1) 8 (a.tmps.getD 11 undef) w := hdep { on := 4, ground := .data } (by simp) rfl _ 11 rfl rfl
      obtain ⟨x, t16, hx1, hx2⟩ : PInt 0 2 (a.tmps.getD 16 undef) := hdep { on := 9, ground := .data } (by simp) rfl _ 16 rfl rfl
      clear hdep
      have hx3 : x < 3 := by omega
      go_simp
      exact ⟨_, rfl, PAt.at h1 h2 h3 hx1 hx3, Ex.refl _ _, hJ.stay⟩
    | 11, hi =>
      simp at hi
      subst hi
      obtain ⟨blk, j, x, t17, h1, h2, h3, h4, h5⟩ : PAt b (-1) 8 (a.tmps.getD 17 undef) w := hdep { on := 10, ground := .data } (by simp) rfl _ 17 rfl rfl
      clear hdep
      go_simp
      exact ⟨_, rfl, ⟨x, rfl, h4, h5⟩, Ex.refl _ _, hJ.stay⟩
    | 12, hi =>
      simp at hi
      subst hi
      obtain ⟨s, t8, hs⟩ : PStr (a.tmps.getD 8 undef) := hdep { on := 1, ground := .data } (by simp) rfl _ 8 rfl rfl
      clear hdep
      go_simp
      exact ⟨_, rfl, ⟨s, rfl, hs⟩, Ex.refl _ _, hJ.stay⟩
    | 13, hi =>
      simp at hi
      subst hi
      obtain ⟨x, t18, hx1, hx2⟩ : PInt (-1) 8 (a.tmps.getD 18 undef) := hdep { on := 11, ground := .data } (by simp) rfl _ 18 rfl rfl
      clear hdep
      go_simp
      exact ⟨_, rfl, ⟨x, rfl, hx1, hx2⟩, Ex.refl _ _, hJ.stay⟩
    | n + 14, hi => simp at hi
  case hend =>
    rintro a w' ⟨b1, b2, b3⟩ hx hJ hall
    obtain ⟨s, t2, hs⟩ : PStr (a.tmps.getD 2 undef) := hall 12 _ 2 rfl rfl
    obtain ⟨x, t3, hx1, hx2⟩ : PInt (-1) 8 (a.tmps.getD 3 undef) := hall 13 _ 3 rfl rfl
    clear hall
    have hall2 : Below b w w' := (unhide HB1).trans (hx.below (Nat.le_refl _) (by subst hbb; exact (unhide HB1).size))
    clear hJ hx
    go_wp2_with fail
    refine bodyPost_ret (v := .tuple #[.string s, .int .i64 x]) (by simp [results, Try.results28, go_sem, b1, getE t2, getE t3]) b3 ⟨s, x, rfl, hs, hx1, hx2, ?_⟩
    subst hbb
    exact hall2
#print axioms DrawMakSay_any
end Go.Proofs.Ytkhjolfofcnhiaa
