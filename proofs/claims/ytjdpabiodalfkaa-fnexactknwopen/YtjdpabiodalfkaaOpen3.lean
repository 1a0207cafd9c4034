/-
  The spec's KnwOpen and KnwHas.
-/
import Derived.Test.YtjdpabiodalfkaaOpen2
namespace Go.Proofs.Ytjdpabiodalfkaa
open Go.RowKit

/-- What is known in the end. -/
def Opened (xs : List ByteArray) (bs : List Bx) (out : List ByteArray) : Prop := (∃ N, out = Nat.repeat (bfold bs) N (dedup xs)) ∧ bfold bs out = out
theorem rep_stays {f : List ByteArray → List ByteArray} {a : List ByteArray} {N : Nat} (h : f (Nat.repeat f N a) = Nat.repeat f N a) : ∀ m, Nat.repeat f (N + m) a = Nat.repeat f N a := by
  intro m
  induction m with
  | zero => rfl
  | succ m ih =>
    show f (Nat.repeat f (N + m) a) = _
    rw [ih, h]
theorem Opened.uniq {xs : List ByteArray} {bs : List Bx} {o p : List ByteArray} (h : Opened xs bs o) (k : Opened xs bs p) : o = p := by
  obtain ⟨⟨N, rfl⟩, h2⟩ := h
  obtain ⟨⟨M, rfl⟩, k2⟩ := k
  rcases Nat.le_total N M with q | q
  · obtain ⟨d, rfl⟩ := Nat.exists_eq_add_of_le q
    exact (rep_stays h2 d).symm
  · obtain ⟨d, rfl⟩ := Nat.exists_eq_add_of_le q
    exact rep_stays k2 d
noncomputable def openOf (xs : List ByteArray) (bs : List Bx) : List ByteArray := @dite _ (∃ out, Opened xs bs out) (Classical.propDecidable _) (fun h => Classical.choose h) (fun _ => [])
theorem openOf_eq {xs : List ByteArray} {bs : List Bx} {out : List ByteArray} (h : Opened xs bs out) : openOf xs bs = out := by
  unfold openOf
  rw [dif_pos ⟨out, h⟩]
  exact Opened.uniq (Classical.choose_spec (⟨out, h⟩ : ∃ out, Opened xs bs out)) h

noncomputable def knwOpen (xs : List ByteArray) (bs : List Bx) : List ByteArray := if (okAll xs && okBoxes bs) = true then openOf xs bs else []
noncomputable def knwHas (xs : List ByteArray) (bs : List Bx) (s : ByteArray) : Bool := okAll xs && okBoxes bs && Kw.ok s && can (openOf xs bs) s

theorem own_none (B : Nat) (w : World) (h : B ≤ w.heap.size) : Own B (w.alloc (Obj.cells #[] 9)) (.slice (some ⟨w.heap.size, 0, none⟩) 0 0) [] :=
  World.ownsRow_lit (base := B) (e := 9) (size := 1) w #[] 0 h (by unfold maxLen; omega) rfl

set_option maxRecDepth 100000 in
set_option maxHeartbeats 2000000 in
theorem sKnwOpen_any (v u : Value) (xs : List ByteArray) (bs : List Bx) (w : World) (h : SRow w v xs) (k : BRow w u bs) (hx : ∀ x ∈ xs, x.size ≤ maxLen) (hy : ∀ b ∈ bs, b.1.size ≤ maxLen ∧ b.2.size ≤ maxLen) :
    Calls Try.prog 29 #[v, u] w fun e w' => ∃ v', e = .returned v' ∧ Own w.heap.size w' v' (knwOpen xs bs) ∧ Below w.heap.size w w' := by
  have hR := hide h
  have hS := hide k
  have HX := hide hx
  have HY := hide hy
  clear h k hx hy
  go_enter Try.func29, Try.ntmps29
  go_wp2_with fail
  refine (l2Ok_any v xs _ (unhide hR) (unhide HX)).mono ?_
  cases ho : okAll xs with
  | false =>
    have he : Hid (knwOpen xs bs = []) := by show _ = _; unfold knwOpen; rw [ho]; rfl
    rintro e w1 ⟨rfl, hb1⟩
    have HB1 := hide hb1
    have hle1 := hb1.size
    clear hb1 ho
    go_wp2_with fail
    go_ret
    exact ⟨_, rfl, by rw [he.out]; exact own_none _ _ hle1, (unhide HB1).alloc hle1 _⟩
  | true =>
    rintro e w1 ⟨rfl, hb1⟩
    have HO := hide ho
    have HB1 := hide hb1
    have hle1 := hb1.size
    clear hb1 ho
    go_wp2_with fail
    refine (l2Boxes_any u bs _ (BRow.below (unhide hS) (unhide HB1)) (unhide HY)).mono ?_
    cases hb : okBoxes bs with
    | false =>
      have he : Hid (knwOpen xs bs = []) := by show _ = _; unfold knwOpen; rw [hb, HO.out]; rfl
      rintro e w2 ⟨rfl, hb2⟩
      have HB2 := hide ((unhide HB1).trans (hb2.mono hle1))
      have hle2 := HB2.out.size
      clear hb2 hb
      go_wp2_with fail
      go_ret
      exact ⟨_, rfl, by rw [he.out]; exact own_none _ _ hle2, (unhide HB2).alloc hle2 _⟩
    | true =>
      rintro e w2 ⟨rfl, hb2⟩
      have HOB := hide hb
      have HB2 := hide ((unhide HB1).trans (hb2.mono hle1))
      have hle2 := HB2.out.size
      clear hb2 hb
      go_wp2_with fail
      refine (l2Open_any v u xs bs _ (SRow.below (unhide hR) (unhide HB2)) (BRow.below (unhide hS) (unhide HB2)) HOB.out (okAll_iff.1 HO.out).1).mono ?_
      rintro e w3 ⟨v', out, N, rfl, hown, h1, h2, hb3⟩
      have he : knwOpen xs bs = out := by unfold knwOpen; rw [HO.out, HOB.out]; exact openOf_eq ⟨⟨N, h1⟩, h2⟩
      have hown2 : Hid (Own w.heap.size w3 v' (knwOpen xs bs)) := by
        rw [he]
        refine ⟨hown.1, hown.2.imp id ?_⟩
        rintro ⟨g, cap, cur, q1, q2, q3⟩
        exact ⟨g, cap, cur, q1, by omega, q3⟩
      have HB3 := hide ((unhide HB2).trans (hb3.mono hle2))
      clear hb3 hown h1 h2 he
      go_wp2_with fail
      go_ret
      exact ⟨_, rfl, unhide hown2, unhide HB3⟩

set_option maxRecDepth 100000 in
set_option maxHeartbeats 2000000 in
theorem sKnwHas_any (v u : Value) (xs : List ByteArray) (bs : List Bx) (s : ByteArray) (w : World) (h : SRow w v xs) (k : BRow w u bs) (hx : ∀ x ∈ xs, x.size ≤ maxLen) (hy : ∀ b ∈ bs, b.1.size ≤ maxLen ∧ b.2.size ≤ maxLen) (hs : s.size ≤ maxLen) :
    Calls Try.prog 33 #[v, u, .string s] w fun e w' => e = .returned (.bool (knwHas xs bs s)) ∧ Below w.heap.size w w' := by
  have hR := hide h
  have hS := hide k
  have HX := hide hx
  have HY := hide hy
  have M := hide hs
  clear h k hx hy hs
  go_enter Try.func33, Try.ntmps33
  go_wp2_with fail
  refine (l2Ok_any v xs _ (unhide hR) (unhide HX)).mono ?_
  cases ho : okAll xs with
  | false =>
    have he : Hid (knwHas xs bs s = false) := by show _ = _; unfold knwHas; rw [ho]; rfl
    rintro e w1 ⟨rfl, hb1⟩
    clear ho
    go_wp2_with fail
    go_ret
    exact ⟨ret_bool' he.out.symm, hb1⟩
  | true =>
    rintro e w1 ⟨rfl, hb1⟩
    have HO := hide ho
    have HB1 := hide hb1
    have hle1 := hb1.size
    clear hb1 ho
    go_wp2_with fail
    refine (l2Boxes_any u bs _ (BRow.below (unhide hS) (unhide HB1)) (unhide HY)).mono ?_
    cases hb : okBoxes bs with
    | false =>
      have he : Hid (knwHas xs bs s = false) := by show _ = _; unfold knwHas; rw [hb, HO.out]; rfl
      rintro e w2 ⟨rfl, hb2⟩
      have HB2 := hide ((unhide HB1).trans (hb2.mono hle1))
      clear hb2 hb
      go_wp2_with fail
      go_ret
      exact ⟨ret_bool' he.out.symm, unhide HB2⟩
    | true =>
      rintro e w2 ⟨rfl, hb2⟩
      have HOB := hide hb
      have HB2 := hide ((unhide HB1).trans (hb2.mono hle1))
      have hle2 := HB2.out.size
      clear hb2 hb
      go_wp2_with fail
      refine (sSecOk_any s _ M.out).mono ?_
      cases hk : Kw.ok s with
      | false =>
        have he : Hid (knwHas xs bs s = false) := by show _ = _; unfold knwHas; rw [hk, HOB.out, HO.out]; rfl
        rintro e w3 ⟨rfl, hb3⟩
        have HB3 := hide ((unhide HB2).trans (hb3.mono hle2))
        clear hb3 hk
        go_wp2_with fail
        go_ret
        exact ⟨ret_bool' he.out.symm, unhide HB3⟩
      | true =>
        rintro e w3 ⟨rfl, hb3⟩
        have HK := hide hk
        have HB3 := hide ((unhide HB2).trans (hb3.mono hle2))
        have hle3 := HB3.out.size
        clear hb3 hk
        go_wp2_with fail
        refine (l2Open_any v u xs bs _ (SRow.below (unhide hR) (unhide HB3)) (BRow.below (unhide hS) (unhide HB3)) HOB.out (okAll_iff.1 HO.out).1).mono ?_
        rintro e w4 ⟨v', out, N, rfl, hown, h1, h2, hb4⟩
        have he : Hid (knwHas xs bs s = can out s) := by show _ = _; unfold knwHas; rw [HO.out, HOB.out, HK.out, openOf_eq ⟨⟨N, h1⟩, h2⟩]; rfl
        have hrow := hide (Own.srow hown)
        have HB4 := hide ((unhide HB3).trans (hb4.mono hle3))
        have hle4 := HB4.out.size
        clear hb4 hown h1 h2
        go_wp2_with fail
        refine (l2Make_any out s.size s (Nat.le_refl _) HK.out _ _ (unhide hrow)).mono ?_
        rw [← he.out]
        rintro e w5 ⟨rfl, hb5⟩
        have HB5 := hide ((unhide HB4).trans (hb5.mono hle4))
        clear hb5
        go_wp2_with fail
        go_ret
        exact ⟨rfl, unhide HB5⟩
#print axioms sKnwOpen_any
#print axioms sKnwHas_any
end Go.Proofs.Ytjdpabiodalfkaa
