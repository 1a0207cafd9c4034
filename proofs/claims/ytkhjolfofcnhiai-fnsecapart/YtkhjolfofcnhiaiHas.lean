/-
  The laws' own search in a row of texts; and what is made from one secret, as a row, no two of it the same.
-/
import Derived.Test.YtkhjolfofcnhiaiMade3
import Derived.Test.YtkhjolfofcnhiaiDraw4
namespace Go.Proofs.Ytkhjolfofcnhiai
open Go.RowKit

/-- What is made from one secret: itself, the next, the key, both twice, one's for each, and a room's for each. -/
def item (s : ByteArray) (j : Nat) : ByteArray :=
  if j = 0 then s else if j = 1 then nextT s else if j = 2 then keyT s else if j = 3 then epochT s s else if j < 12 then sayT s (j - 4) else roomT s (j - 11)

theorem item_tells {s : ByteArray} (hk : Kw.ok s = true) (hs : s.size ≤ 140) {j : Nat} (h0 : j ≠ 0) (h : j < 21) :
    Kw.ok (item s j) = true ∧ s.size < (item s j).size ∧ mOp (item s j) = (if j < 4 then (j : Int) + 1 else if j < 12 then 5 else 6) ∧ mWho (item s j) = (if j < 4 then 0 else if j < 12 then (j : Int) - 4 else 0) ∧ mN (item s j) = (if j < 12 then 0 else (j : Int) - 11) := by
  unfold item
  rw [if_neg h0]
  by_cases h1 : j = 1
  · subst h1
    rw [if_pos rfl]
    obtain ⟨t0, t1, t2, t3, _⟩ := made_next hk (by omega)
    have z := next_size s
    exact ⟨t0, by omega, t1, t2, t3⟩
  rw [if_neg h1]
  by_cases h2 : j = 2
  · subst h2
    rw [if_pos rfl]
    obtain ⟨t0, t1, t2, t3, _⟩ := made_key hk (by omega)
    have z := key_size s
    exact ⟨t0, by omega, t1, t2, t3⟩
  rw [if_neg h2]
  by_cases h3 : j = 3
  · subst h3
    rw [if_pos rfl]
    obtain ⟨t0, t1, t2, t3, _⟩ := made_epoch hk hk (by omega)
    have z := epoch_size s s
    exact ⟨t0, by omega, t1, t2, t3⟩
  rw [if_neg h3]
  have h4 : ¬ j < 4 := by omega
  simp only [if_neg h4]
  by_cases h5 : j < 12
  · simp only [if_pos h5]
    obtain ⟨t0, t1, t2, t3, _⟩ := made_say (who := j - 4) hk (by omega) (by omega)
    have z := say_size s (j - 4)
    exact ⟨t0, by omega, t1, by rw [t2]; omega, t3⟩
  · simp only [if_neg h5]
    obtain ⟨t0, t1, t2, t3, _⟩ := made_room (room := j - 11) hk (by omega) (by omega) (by omega)
    obtain ⟨_, z, _⟩ := room_parts (room := j - 11) hk (by omega)
    exact ⟨t0, by omega, t1, t2, by rw [t3]; omega⟩

theorem item_ok {s : ByteArray} (hk : Kw.ok s = true) (hs : s.size ≤ 140) {j : Nat} (h : j < 21) : Kw.ok (item s j) = true := by
  by_cases h0 : j = 0
  · subst h0; exact hk
  · exact (item_tells hk hs h0 h).1

theorem item_ne {s : ByteArray} (hk : Kw.ok s = true) (hs : s.size ≤ 140) {i j : Nat} (hij : i < j) (h : j < 21) : item s i ≠ item s j := by
  intro e
  obtain ⟨_, t1, t2, t3, t4⟩ := item_tells hk hs (j := j) (by omega) h
  by_cases h0 : i = 0
  · subst h0
    rw [← e] at t1
    exact Nat.lt_irrefl _ t1
  · obtain ⟨_, u1, u2, u3, u4⟩ := item_tells hk hs h0 (by omega)
    rw [← e, u2] at t2
    rw [← e, u3] at t3
    rw [← e, u4] at t4
    clear u2 u3 u4 u1 t1 e
    omega

set_option maxHeartbeats 400000 in
theorem keHas_no (g n cap : Nat) (f : Nat → ByteArray) (y : ByteArray) (w : World) (hn : n ≤ 1000) (hc : ∀ j, j < n → w.cell? ⟨g, j, none⟩ = some (.string (f j))) (hne : ∀ j, j < n → f j ≠ y) :
    Calls Try.prog 18 #[.slice (some ⟨g, 0, none⟩) n cap, .string y] w fun e w' => e = .returned (.bool false) ∧ Below w.heap.size w w' := by
  have hC := hide hc
  have hN := hide hne
  clear hc hne
  go_enter Try.func18, Try.ntmps18
  go_wp2_with fail
  go_loop [5] (fun i => ∃ k : Nat, k ≤ n ∧ i = .int .i64 (k : Int)) (fun i => n - (intOf i).toNat)
  case atStart => exact ⟨0, by omega, rfl⟩
  case round =>
    obtain ⟨k, hk, rfl⟩ := hrel
    by_cases hlt : k < n
    · have hlt2 : (k : Int) < (n : Int) := by omega
      have hck := hC.out k hlt
      have hnk : ((f k).toList == y.toList) = false := by
        cases q : ((f k).toList == y.toList) with
        | false => rfl
        | true => exact absurd (beq_list.1 q) (hN.out k hlt)
      have i3 : IntKind.i64.wrap ((k : Int) + 1) = (k : Int) + 1 := by simp [IntKind.wrap, IntKind.bits, IntKind.signed]; omega
      go_wp2_with fail
      exact ⟨⟨k + 1, by omega, by simp⟩, by simp [intOf]; omega⟩
    · have hlt2 : decide ((k : Int) < (n : Int)) = false := by simp; omega
      go_wp2_with fail
      go_ret
      exact ⟨rfl, Below.refl _ _⟩#print axioms keHas_no
end Go.Proofs.Ytkhjolfofcnhiai
