/-
  The program's TreUp, its answer written out where there is a place above.
-/
import Derived.Test.YtenjkhabcpfnaaaPlcU
namespace Go.Proofs.Ytenjkhabcpfnaaa
open Go.RowKit

theorem up_cons (p : Int) (h : 1 ≤ p ∧ p ≤ 14) : upOf p = overOf p :: upOf (overOf p) := by
  have e : 0 ≤ overOf p ∧ overOf p ≤ 14 := by unfold overOf; rw [if_pos h]; omega
  rw [upOf_chain, chain_cons _ e, ← upOf_chain]
theorem up_last : ∀ k, k < 15 → 0 < k → (ups k).getD ((ups k).length - 1) 7 = 0 := by decide
theorem up_lastI (p : Int) (h : 1 ≤ p ∧ p ≤ 14) (m : Nat) (hm : (upOf p).length = m + 1) : (upOf p).getD m 0 = 0 := by
  obtain ⟨k, rfl⟩ : ∃ k : Nat, p = (k : Int) := ⟨p.toNat, by omega⟩
  rw [upOf_nat k (by omega)] at hm ⊢
  rw [List.length_map] at hm
  have q := up_last k (by omega) (by omega)
  rw [hm, Nat.add_sub_cancel] at q
  rw [List.getD_eq_getElem?_getD, List.getElem?_map]
  rw [List.getD_eq_getElem?_getD, List.getElem?_eq_getElem (by omega)] at q
  rw [List.getElem?_eq_getElem (by omega)]
  simp at q ⊢
  exact q

theorem iTreUp_some (p : Int) (h : 1 ≤ p ∧ p ≤ 14) (w : World) :
    Calls Try.prog 13 #[.int .i64 p] w fun e w' => ∃ (g m cap : Nat), e = .returned (.slice (some ⟨g, 0, none⟩) (m + 1) cap) ∧ g < w'.heap.size ∧ (0 : Int) < ((m + 1 : Nat) : Int) ∧ m ≤ 3 ∧ m + 1 ≤ cap ∧ cap ≤ maxLen ∧ (upOf p).length = m + 1 ∧ (∀ i, i < m + 1 → w'.cell? ⟨g, i, none⟩ = some (.int .i64 ((upOf p).getD i 0))) ∧ w'.cell? ⟨g, 0, none⟩ = some (.int .i64 (overOf p)) ∧ Below w.heap.size w w' := by
  refine (iTreUp_any p w).mono ?_
  rintro e w' ⟨v, rfl, ho, hb⟩
  have hc := up_cons p h
  obtain ⟨m, hm⟩ : ∃ m, (upOf p).length = m + 1 := ⟨(upOf (overOf p)).length, by rw [hc]; simp⟩
  have hl : (upOf p).length ≤ 4 := by rw [upOf_chain]; exact chain_len _
  unfold OwnI at ho
  rw [hm] at ho
  rcases ho.2 with ⟨_, q⟩ | ⟨g, cap, cur, rfl, h1, h2, h3, h4, h5, h6⟩
  · omega
  have hcell : ∀ i, i < m + 1 → w'.cell? ⟨g, i, none⟩ = some (.int .i64 ((upOf p).getD i 0)) := by
    intro i hi
    rw [ho.cellAt i (by omega), List.getElem?_map, List.getElem?_eq_getElem (by omega), List.getD_eq_getElem?_getD, List.getElem?_eq_getElem (by omega)]
    rfl
  refine ⟨g, m, cap, rfl, (ho.lt g rfl).2, by omega, by omega, h3, h4, hm, hcell, ?_, hb⟩
  rw [hcell 0 (by omega), hc]
  rfl
#print axioms iTreUp_some
end Go.Proofs.Ytenjkhabcpfnaaa
