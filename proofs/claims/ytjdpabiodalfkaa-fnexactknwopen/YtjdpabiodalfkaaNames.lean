/-
  The program: whether all are secrets' names; the set of some.
-/
import Derived.Test.YtjdpabiodalfkaaMkg2
import Derived.Test.YtjdpabiodalfkaaKnow
import Derived.Test.YtjdpabiodalfkaaOpen
namespace Go.Proofs.Ytjdpabiodalfkaa
open Go.RowKit

set_option maxHeartbeats 1000000 in
theorem areNames_any (v : Value) (xs : List ByteArray) (w : World) (h : SRow w v xs) (hx : ∀ x ∈ xs, x.size ≤ maxLen) :
    Calls Try.prog 48 #[v] w fun e w' => e = .returned (.bool (okAll xs)) ∧ Below w.heap.size w w' := by
  obtain ⟨ao, cap, rfl, h1, h2, hc⟩ := h.form
  have hR := hide h
  have hX := hide hx
  unfold maxLen at h2
  clear h hc hx
  by_cases hmost : 400 < xs.length
  · have h1 : (400 : Int) < (xs.length : Int) := by omega
    have he : okAll xs = false := by
      cases q : okAll xs with
      | false => rfl
      | true => have := (okAll_iff.1 q).1; omega
    go_enter Try.func48, Try.ntmps48
    go_wp2_with fail
    go_ret
    exact ⟨ret_bool' he.symm, Below.refl _ _⟩
  have h1 : decide ((400 : Int) < (xs.length : Int)) = false := by simp; omega
  go_enter Try.func48, Try.ntmps48
  go_wp2_with fail
  go_loopw [10] (fun i wr => ∃ k : Nat, k ≤ xs.length ∧ i = .int .i64 (k : Int) ∧ Hid (∀ j, j < k → Kw.ok (xs.getD j ByteArray.empty) = true) ∧ Hid (Below w.heap.size w wr)) (fun i _ => xs.length - (intOf i).toNat)
  case atStart => exact ⟨0, by omega, rfl, fun j hj => by omega, Below.refl _ _⟩
  case round =>
    obtain ⟨k, hk, rfl, hN, hL⟩ := hrel
    by_cases hlt : k < xs.length
    · have hlt2 : (k : Int) < (xs.length : Int) := by omega
      obtain ⟨ao', c1, q1, _, _, q2⟩ := (SRow.below (unhide hR) (unhide hL)).form
      simp only [Value.slice.injEq] at q1
      obtain ⟨rfl, _, rfl⟩ := q1
      obtain ⟨a, rfl, hck⟩ := q2 k hlt
      clear q2
      have hmem := getD_mem hlt
      have M : Hid ((xs.getD k ByteArray.empty).size ≤ maxLen) := hX.out _ hmem
      have hle := hL.out.size
      have i3 : IntKind.i64.wrap ((k : Int) + 1) = (k : Int) + 1 := by simp [IntKind.wrap, IntKind.bits, IntKind.signed]; omega
      have hNo : Hid (Kw.ok (xs.getD k ByteArray.empty) = false → okAll xs = false) := by
        intro hf
        cases q : okAll xs with
        | false => rfl
        | true => have := (okAll_iff.1 q).2 _ hmem; rw [hf] at this; cases this
      have hYes : Hid (Kw.ok (xs.getD k ByteArray.empty) = true → ∀ j, j < k + 1 → Kw.ok (xs.getD j ByteArray.empty) = true) := by
        intro ht j hj
        by_cases hjk : j = k
        · subst hjk; exact ht
        · exact hN j (by omega)
      clear hmem
      generalize xs.getD k ByteArray.empty = y at hck M hNo hYes
      go_wp2_with fail
      refine (iSecOk_any y _ M.out).mono ?_
      cases hy : Kw.ok y with
      | false =>
        have he := hNo.out hy
        rintro e w1 ⟨rfl, hb1⟩
        have hL1 := hide ((unhide hL).trans (hb1.mono hle))
        clear hb1 hy
        go_wp2_with fail
        go_ret
        exact ⟨ret_bool' he.symm, unhide hL1⟩
      | true =>
        have hN1 := hide (hYes.out hy)
        rintro e w1 ⟨rfl, hb1⟩
        have hL1 := hide ((unhide hL).trans (hb1.mono hle))
        clear hb1 hy
        go_wp2_with fail
        go_roundw
        case rel => exact ⟨k + 1, by omega, by simp, hN1, hL1⟩
        case measure => simp [intOf]; omega
    · have hlt2 : decide ((k : Int) < (xs.length : Int)) = false := by simp; omega
      have he : okAll xs = true := okAll_iff.2 ⟨by omega, fun x hx => by
        obtain ⟨j, hj, e⟩ := mem_getD hx
        rw [← e]; exact hN.out j (by omega)⟩
      go_wp2_with fail
      go_ret
      exact ⟨ret_bool' he.symm, unhide hL⟩

theorem dedup_plus {xs : List ByteArray} {k : Nat} (h : k < xs.length) : dedup (xs.take (k + 1)) = plus (dedup (xs.take k)) (xs.getD k ByteArray.empty) := by
  rw [dedup_succ xs k h]
  rfl

theorem SetV.mono {B B' : Nat} {w : World} {bm : Nat} {v : Value} {L : List ByteArray} (h : SetV B w bm v L) (hB : B' ≤ B) : SetV B' w bm v L := by
  refine ⟨⟨h.own.1, h.own.2.imp id ?_⟩, h.map, Nat.le_trans hB h.base⟩
  rintro ⟨g, cap, cur, q1, q2, q3⟩
  exact ⟨g, cap, cur, q1, Nat.le_trans hB q2, q3⟩

/-- What setOf leaves: the set of these, each once, in order; in memory of its own. -/
def SetOf (xs : List ByteArray) (w : World) (e : Ending) (w' : World) : Prop := ∃ bm v, e = .returned (.agg #[.map (some bm), v]) ∧ SetV w.heap.size w' bm v (dedup xs) ∧ Below w.heap.size w w'

set_option maxRecDepth 100000 in
set_option maxHeartbeats 2000000 in
theorem setOf_any (v : Value) (xs : List ByteArray) (w : World) (h : SRow w v xs) (hx : ∀ x ∈ xs, x.size ≤ maxLen) (hl : xs.length ≤ 400) : Calls Try.prog 49 #[v] w (SetOf xs w) := by
  obtain ⟨ao, cap, rfl, h1, h2, hc⟩ := h.form
  have hR := hide h
  have hX := hide hx
  unfold maxLen at h2
  clear h hc hx
  have hmm := @run_makeMap Try.prog
  go_enter Try.func49, Try.ntmps49
  go_wp2_with fail
  go_loopw [10] (fun i wr => ∃ (k : Nat) (v : Value), k ≤ xs.length ∧ i = .int .i64 (k : Int) ∧ Hid (SetAt (w.heap.size + 1) wr (w.heap.size + 2) (w.heap.size + 1) v (dedup (xs.take k)) ∧ wr.heap[w.heap.size]? = some (.cells #[.map none, .slice none 0 0] 66 (0, 0)) ∧ Below w.heap.size w wr)) (fun i _ => xs.length - (intOf i).toNat)
  case atStart =>
    refine ⟨0, .slice none 0 0, by omega, rfl, ?_⟩
    show _ ∧ _ ∧ _
    refine ⟨⟨?_, ?_, ?_, Nat.le_refl _⟩, ?_, ?_⟩
    · have := (two_new ((w.alloc (.cells #[.map none, .slice none 0 0] 66))) (.map #[] 0) (.cells #[.map (some (w.heap.size + 1)), .slice none 0 0] 66)).1
      simpa using this
    · exact World.ownsRow_nil _ _ _ _
    · refine MapOf.keep (w := (w.alloc (.cells #[.map none, .slice none 0 0] 66)).alloc (.map #[] 0)) ⟨0, .map [], by simp, ?_, Maps.isMap_empty, fun s => rfl⟩ (heap_alloc_old' _ _ (by simp))
      have := World.ownsMap_made (H := Unit) (w.alloc (.cells #[.map none, .slice none 0 0] 66)) Try.prog 9 (plainElem Try.prog 3)
      simpa using this
    · rw [heap_alloc_old' _ _ (by simp; omega)]
      exact (two_new _ _ _).2
    · exact (((Below.refl w.heap.size w).alloc (Nat.le_refl _) _).alloc (by simp) _).alloc (by simp; omega) _
  case round =>
    obtain ⟨k, v, hk, rfl, H⟩ := hrel
    obtain ⟨hS, hr, hb⟩ := H.out
    by_cases hlt : k < xs.length
    · have hlt2 : (k : Int) < (xs.length : Int) := by omega
      obtain ⟨ao', c1, q1, _, _, q2⟩ := (SRow.below (unhide hR) hb).form
      simp only [Value.slice.injEq] at q1
      obtain ⟨rfl, _, rfl⟩ := q1
      obtain ⟨a, rfl, hck⟩ := q2 k hlt
      clear q2
      have M : Hid ((xs.getD k ByteArray.empty).size ≤ maxLen) := hX.out _ (getD_mem hlt)
      have hd := hide (dedup_plus hlt)
      have hdl := hide (dedup_len xs k hk)
      have i3 : IntKind.i64.wrap ((k : Int) + 1) = (k : Int) + 1 := by simp [IntKind.wrap, IntKind.bits, IntKind.signed]; omega
      have HS := hide hS
      have HR := hide hr
      have HB := hide hb
      clear hS hr hb H
      generalize xs.getD k ByteArray.empty = y at hck M hd
      go_wp2_with fail
      refine (set_add_any y (unhide HS) (by omega) M.out (by have := hdl.out; omega)).mono ?_
      rintro e w1 ⟨v', rfl, r1, r2, r3⟩
      have hF : Hid (SetAt (w.heap.size + 1) w1 (w.heap.size + 2) (w.heap.size + 1) v' (dedup (xs.take (k + 1))) ∧ w1.heap[w.heap.size]? = some (.cells #[.map none, .slice none 0 0] 66 (0, 0)) ∧ Below w.heap.size w w1) := by
        refine ⟨by rw [hd.out]; exact r1, (r2.block _ (by omega)).trans HR.out, (unhide HB).trans (r2.mono (by omega))⟩
      clear r1 r2 r3
      go_wp2_with fail
      go_roundw
      case rel => exact ⟨k + 1, v', by omega, by simp, hF⟩
      case measure => simp [intOf]; omega
    · have hlt2 : decide ((k : Int) < (xs.length : Int)) = false := by simp; omega
      have hkn : k = xs.length := by omega
      subst hkn
      rw [List.take_length] at hS
      obtain ⟨vo, vc, hv⟩ := hS.2.own.form
      subst hv
      have c0 := hS.c0
      have c1 := hS.c1
      have r0 : wr.cell? ⟨w.heap.size, 0, none⟩ = some (.map none) := by rw [cell_of_row _ _ _ _ _ _ hr]; rfl
      have r1 : wr.cell? ⟨w.heap.size, 1, none⟩ = some (.slice none 0 0) := by rw [cell_of_row _ _ _ _ _ _ hr]; rfl
      have z0 := frozen_of_row wr w.heap.size 0 _ _ hr
      have z1 := frozen_of_row wr w.heap.size 1 _ _ hr
      have HS := hide hS
      have HB := hide hb
      clear hS hr hb H
      go_wp2_with fail
      refine bodyPost_ret (v := .agg #[.map (some (w.heap.size + 1)), .slice vo (dedup xs).length vc]) (by simp [results, Try.results49, go_sem, r0, r1]) rfl ⟨_, _, rfl, ?_, ?_⟩
      · refine SetV.mono (B := w.heap.size + 1) ?_ (by omega)
        have hsame : ∀ (j : Nat), w.heap.size + 1 ≤ j → ((wr.setCell ⟨w.heap.size, 0, none⟩ (.map (some (w.heap.size + 1)))).setCell ⟨w.heap.size, 1, none⟩ (.slice vo (dedup xs).length vc)).heap[j]? = wr.heap[j]? := by
          intro j hj
          rw [Below.heap_setCell _ _ _ _ (by show j ≠ w.heap.size; omega), Below.heap_setCell _ _ _ _ (by show j ≠ w.heap.size; omega)]
        refine ⟨row_same (unhide HS).2.own (Nat.le_refl _) (fun j cur _ hj hc => (hsame j hj).trans hc), (unhide HS).2.map.keep (hsame _ (Nat.le_refl _)), Nat.le_refl _⟩
      · exact ((unhide HB).setCell (p := ⟨w.heap.size, 0, none⟩) (Nat.le_refl _) _).setCell (p := ⟨w.heap.size, 1, none⟩) (Nat.le_refl _) _
#print axioms setOf_any
end Go.Proofs.Ytjdpabiodalfkaa
