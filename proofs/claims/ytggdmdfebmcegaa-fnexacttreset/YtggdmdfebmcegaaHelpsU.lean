/-
  The laws' own helpers over trees that come in: how great one is; a copy of one.
-/
import Derived.Test.YtggdmdfebmcegaaHelps
import Derived.Test.YtggdmdfebmcegaaHelpsT
import Derived.Test.YtggdmdfebmcegaaBxd
namespace Go.Proofs.Ytggdmdfebmcegaa
open Go.RowKit

set_option maxHeartbeats 1000000 in
theorem szTreTree_any (v : Value) (xs : List ByteArray) (left : Int) (w : World) (h : SRow w v xs) (hx : ∀ x ∈ xs, x.size ≤ maxLen) (hl : 0 ≤ left) (hl2 : left ≤ 1048576) :
    Calls Try.prog 29 #[.agg #[v], .int .i64 left] w fun e w' => ∃ r : Int, e = .returned (.int .i64 r) ∧ r ≤ left ∧ (0 ≤ r → (xs.length : Int) ≤ left ∧ ∀ x ∈ xs, (x.size : Int) ≤ left) ∧ Below w.heap.size w w' := by
  have hR := hide h
  have HX := hide hx
  obtain ⟨ao, cap, rfl, _, _, _⟩ := h.form
  clear h hx
  go_enter Try.func29, Try.ntmps29
  go_wp2_with fail
  refine (szStringS_any _ xs left _ ((unhide hR).alloc _) (unhide HX) hl hl2).mono ?_
  rintro e w1 ⟨r, rfl, h1, h2, hb1⟩
  have H2 := hide h2
  have HB1 : Hid (Below w.heap.size w w1) := ((Below.refl _ _).alloc (Nat.le_refl _) _).trans (hb1.mono (by simp))
  clear hb1 h2
  by_cases hn : r < 0
  · go_wp2_with fail
    go_ret
    exact ⟨-1, rfl, by omega, fun q => by omega, unhide HB1⟩
  · have hn2 : decide (r < 0) = false := by simpa using hn
    go_wp2_with fail
    go_ret
    exact ⟨r, rfl, h1, unhide H2, unhide HB1⟩

set_option maxRecDepth 100000 in
set_option maxHeartbeats 1000000 in
theorem toTreTree_any (v : Value) (xs : List ByteArray) (w : World) (h : SRow w v xs) (hl : xs.length ≤ 1048576) :
    Calls Try.prog 30 #[.agg #[v]] w fun e w' => ∃ v' : Value, e = .returned (.agg #[v']) ∧ Own w.heap.size w' v' xs ∧ Below w.heap.size w w' := by
  have hR := hide h
  obtain ⟨ao, cap, rfl, _, _, _⟩ := h.form
  clear h
  go_enter Try.func30, Try.ntmps30
  go_wp2_with fail
  refine (toStringS_any _ xs _ ((((unhide hR).alloc _).alloc _).alloc _) hl).mono ?_
  rintro e w1 ⟨v', rfl, ho, hb⟩
  have b1 := box_below ((Boxed.new (w.alloc (.cells #[.slice ao xs.length cap] 45)) 25 (.slice none 0 0)).alloc (.cells #[.slice none 0 0] 25)) hb
  have b2 := box_below (Boxed.new ((w.alloc (.cells #[.slice ao xs.length cap] 45)).alloc (.cells #[.slice none 0 0] 25)) 25 (.slice none 0 0)) hb
  simp only [World.size_alloc] at b1 b2 ho
  have HB : Hid (Below w.heap.size w w1) := ((((Below.refl _ _).alloc (Nat.le_refl _) _).alloc (by simp) _).alloc (by simp; omega) _).trans (hb.mono (by simp; omega))
  obtain ⟨oa, ca, hv⟩ := row_form' ho
  subst hv
  have R1 := row_box ho b2 (by decide) (.slice oa xs.length ca)
  have b3 := b2.set (.slice oa xs.length ca)
  have b4 := b1.other (B' := w.heap.size + 1 + 1) (by omega) (.slice oa xs.length ca)
  have R2 := row_box R1 b4 (by decide) (.slice oa xs.length ca)
  have b5 := b4.set (.slice oa xs.length ca)
  have H1 : Hid (Own w.heap.size ((w1.setCell ⟨w.heap.size + 1 + 1, 0, none⟩ (.slice oa xs.length ca)).setCell ⟨w.heap.size + 1, 0, none⟩ (.slice oa xs.length ca)) (.slice oa xs.length ca) xs) := row_lowB R2 (by omega)
  have HB2 := hide (below_box (below_box (unhide HB) (b := w.heap.size + 1 + 1) (by omega) (.slice oa xs.length ca)) (b := w.heap.size + 1) (by omega) (.slice oa xs.length ca))
  have l1 := b2.cell
  have l2 := b2.frozen
  have l3 := b3.cell
  have l4 := b4.cell
  have l5 := b4.frozen
  have l6 := b5.cell
  clear ho hb R1 R2 b1 b2 b3 b4 b5 HB hR
  go_wp2_with fail
  refine bodyPost_ret (v := .agg #[.slice oa xs.length ca]) (by simp [results, Try.results30, go_sem, l6]) rfl ⟨_, rfl, unhide H1, unhide HB2⟩
#print axioms toTreTree_any
end Go.Proofs.Ytggdmdfebmcegaa
