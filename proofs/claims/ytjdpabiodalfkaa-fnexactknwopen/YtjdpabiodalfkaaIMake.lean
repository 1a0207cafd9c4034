/-
  The program's KnwMake: its contract.
-/
import Derived.Test.YtjdpabiodalfkaaNames
import Derived.Test.YtjdpabiodalfkaaCan
namespace Go.Proofs.Ytjdpabiodalfkaa
open Go.RowKit

theorem mem_addNew {out : List ByteArray} {x s : ByteArray} : s ∈ addNew out x ↔ s ∈ out ∨ s = x := by
  unfold addNew
  split
  · rename_i h
    have := has_iff.1 h
    constructor
    · exact .inl
    · rintro (h | rfl)
      · exact h
      · exact this
  · simp
theorem mem_fold : ∀ (xs acc : List ByteArray) (s : ByteArray), s ∈ xs.foldl addNew acc ↔ s ∈ acc ∨ s ∈ xs
  | [], acc, s => by simp
  | x :: xs, acc, s => by
    rw [List.foldl_cons, mem_fold xs, mem_addNew]
    simp [or_assoc]
theorem has_dedup {xs : List ByteArray} {s : ByteArray} : s ∈ dedup xs ↔ s ∈ xs := by
  unfold dedup
  rw [mem_fold]
  simp
theorem can_dedup (xs : List ByteArray) (s : ByteArray) : can (dedup xs) s = can xs s := by
  rw [Bool.eq_iff_iff, can_iff, can_iff]
  exact ⟨Can.more fun x hx => has_dedup.1 hx, Can.more fun x hx => has_dedup.2 hx⟩

set_option maxRecDepth 100000 in
set_option maxHeartbeats 1000000 in
theorem iKnwMake_any (v : Value) (xs : List ByteArray) (s : ByteArray) (w : World) (h : SRow w v xs) (hx : ∀ x ∈ xs, x.size ≤ maxLen) (hs : s.size ≤ maxLen) :
    Calls Try.prog 15 #[v, .string s] w fun e w' => e = .returned (.bool (okAll xs && Kw.ok s && can xs s)) ∧ Below w.heap.size w w' := by
  have HR := hide h
  have HX := hide hx
  have M := hide hs
  clear h hx hs
  go_enter Try.func15, Try.ntmps15
  go_wp2_with fail
  refine (areNames_any v xs _ (unhide HR) (unhide HX)).mono ?_
  cases ho : okAll xs with
  | false =>
    rintro e w1 ⟨rfl, hb1⟩
    have HO := hide ho
    clear ho
    go_wp2_with fail
    go_ret
    exact ⟨ret_bool' (by rw [HO.out]; rfl), hb1⟩
  | true =>
    rintro e w1 ⟨rfl, hb1⟩
    have HB1 := hide hb1
    have hle1 := hb1.size
    have HO := hide ho
    clear hb1 ho
    go_wp2_with fail
    refine (iSecOk_any s _ M.out).mono ?_
    cases hk : Kw.ok s with
    | false =>
      rintro e w2 ⟨rfl, hb2⟩
      have HB2 := hide ((unhide HB1).trans (hb2.mono hle1))
      have HK := hide hk
      clear hb2 hk
      go_wp2_with fail
      go_ret
      exact ⟨ret_bool' (by rw [HO.out, HK.out]; rfl), unhide HB2⟩
    | true =>
      rintro e w2 ⟨rfl, hb2⟩
      have HK := hide hk
      have HB2 := hide ((unhide HB1).trans (hb2.mono hle1))
      have hle2 := HB2.out.size
      clear hb2 hk
      go_wp2_with fail
      refine (setOf_any v xs _ (SRow.below (unhide HR) (unhide HB2)) (unhide HX) (okAll_iff.1 HO.out).1).mono ?_
      rintro e w3 ⟨bm, u, rfl, hV, hb3⟩
      obtain ⟨uo, uc, hu⟩ := hV.own.form
      have hle3 := hb3.size
      have hba : Below w3.heap.size w3 (w3.alloc (.cells #[.map (some bm), u] 66)) := (Below.refl _ _).alloc (Nat.le_refl _) _
      have HB3 := hide (((unhide HB2).trans (hb3.mono hle2)).trans (hba.mono (by omega)))
      have HA : Hid (SetAt w2.heap.size (w3.alloc (.cells #[.map (some bm), u] 66)) w3.heap.size bm u (dedup xs)) := ⟨heap_alloc_new _ _, hV.below hba⟩
      subst hu
      clear hV hb3 hba
      go_wp2_with fail
      refine (makingOf_any s.size s (Nat.le_refl _) HK.out _).mono ?_
      rintro e w4 ⟨f, rfl, hf, hb4⟩
      have HF := hide hf
      obtain ⟨fo, fn, fc, hff⟩ := hf.form
      have hle4 := hb4.size
      have HB4 := hide ((unhide HB3).trans (hb4.mono (by simp; omega)))
      have HA4 := hide ((unhide HA).below hb4)
      subst hff
      clear hf hb4
      go_wp2_with fail
      refine (canBeFrom_any s.size s (Nat.le_refl _) HK.out _ _ _ _ (unhide HA4) (unhide HF) (Nat.le_refl _)).mono ?_
      rw [can_dedup]
      rintro e w5 ⟨rfl, hb5⟩
      have HB5 := hide ((unhide HB4).trans (hb5.mono (by simp at hle4; omega)))
      clear hb5
      go_wp2_with fail
      go_ret
      exact ⟨ret_bool' (by rw [HO.out, HK.out]; rfl), unhide HB5⟩
#print axioms iKnwMake_any
end Go.Proofs.Ytjdpabiodalfkaa
