/-
  Drawn boxes: the draw returns, in memory of its own, and nothing that was there is written but the reader.
-/
import Derived.Test.YtjdpabiodalfkaaDrawK
import Derived.Test.YtjdpabiodalfkaaBox
namespace Go.Proofs.Ytjdpabiodalfkaa
open Go.RowKit

theorem info_bx : (Try.prog.info? 42).map (fun i => (i.zero, i.size, i.bytes)) = some (some (.agg #[.string ⟨#[]⟩, .string ⟨#[]⟩]), 2, 32) := by kernel_rfl
theorem underBx : Try.prog.underlying 36 = some (.slice 42) := by kernel_rfl

/-- Boxes, cell by cell. -/
def bcells (bs : List Bx) : List Value := bs.flatMap fun b => [.string b.1, .string b.2]
theorem bcells_snoc (bs : List Bx) (b : Bx) : bcells (bs ++ [b]) = bcells bs ++ [.string b.1, .string b.2] := by simp [bcells]
theorem bcells_get : ∀ (bs : List Bx) (i : Nat), i < bs.length → (bcells bs)[i * 2]? = some (.string (bs.getD i noBx).1) ∧ (bcells bs)[i * 2 + 1]? = some (.string (bs.getD i noBx).2)
  | [], i, h => absurd h (Nat.not_lt_zero _)
  | b :: bs, 0, _ => by simp [bcells]
  | b :: bs, i + 1, h => by
    have := bcells_get bs i (by simpa using h)
    rw [show (i + 1) * 2 = i * 2 + 1 + 1 by omega]
    simpa [bcells] using this

/-- A slice of the call's own holds these boxes. -/
def OwnB (B : Nat) (w : World) (v : Value) (bs : List Bx) : Prop := w.ownsRow B 42 2 v bs.length (bcells bs)
theorem OwnB.brow {B : Nat} {w : World} {v : Value} {bs : List Bx} (h : OwnB B w v bs) : BRow w v bs := by
  rcases h.2 with ⟨h1, h2⟩ | ⟨g, cap, cur, h1, h2, h3, h4, h5, _⟩
  · exact ⟨none, 0, by rw [h1, h2], by omega, by omega, fun i hi => by omega⟩
  · refine ⟨some ⟨g, 0, none⟩, cap, h1, h4, h5, fun i hi => ?_⟩
    have hc := World.ownsRow.cells h (g := g) (by rw [h1]; rfl)
    obtain ⟨p1, p2⟩ := bcells_get bs i hi
    refine ⟨_, rfl, hc _ _ p1, ?_⟩
    rw [Addr.add_lit, Addr.add_lit, Nat.zero_add]
    have := hc _ _ p2
    rw [Addr.add_lit, Nat.zero_add] at this
    exact this

def smallB (M : Nat) (bs : List Bx) : Prop := ∀ b ∈ bs, b.1.size ≤ M ∧ b.2.size ≤ M
theorem smallB_snoc {M : Nat} {bs : List Bx} {b : Bx} (h : smallB M bs) (h1 : b.1.size ≤ M) (h2 : b.2.size ≤ M) : smallB M (bs ++ [b]) := by
  intro x hx
  rcases List.mem_append.1 hx with hx | hx
  · exact h x hx
  · simp at hx; subst hx; exact ⟨h1, h2⟩
theorem smallB_max {bs : List Bx} (h : smallB 700 bs) : ∀ b ∈ bs, b.1.size ≤ maxLen ∧ b.2.size ≤ maxLen := fun b hb => by
  have := h b hb
  unfold maxLen; omega

/-- What drawing some boxes leaves. -/
def BoxesPost (b : Nat) (C : Code) (p : Nat) (w : World) (e : Ending) (w' : World) : Prop :=
  ∃ (v : Value) (bs : List Bx) (q : Nat), e = .returned v ∧ NN v ∧ OwnB w.heap.size w' v bs ∧ bs.length ≤ 8 ∧ smallB 700 bs ∧ q ≤ p + 2000 ∧ DrC b C q w' ∧ Ex b w w'

/-- One drawn box more. -/
theorem boxes_step {b : Nat} {C : Code} {q : Nat} {w w1 w2 w3 : World} {o : Obj} {v v' : Value} {bs : List Bx} {s t : ByteArray} (hb : b < w.heap.size) (hx : Ex b w w1) (hO : OwnB w.heap.size w1 v bs)
    (hd : DrC b C q w2) (hx2 : Ex b w1 w2) (hown' : w3.ownsRow w.heap.size 42 2 v' (bs.length + 1) (bcells bs ++ [.string s, .string t])) (hg : (w2.alloc o).grownBy w3 v.ownBlock) :
    OwnB w.heap.size w3 v' (bs ++ [(s, t)]) ∧ DrC b C q w3 ∧ Ex b w w3 := by
  have hO2 := row_ex hO hx2 hb
  have hr : ∀ k, v.ownBlock = some k → w.heap.size ≤ k := fun k hk => (World.ownsRow.lt hO2 k hk).1
  refine ⟨?_, (hd.alloc o).grown hg (fun k hk => Nat.lt_of_lt_of_le hb (hr k hk)), ((hx.trans hx2).alloc o).grown hg hr⟩
  unfold OwnB
  rw [List.length_append, bcells_snoc]
  exact hown'

set_option maxRecDepth 100000 in
set_option maxHeartbeats 2000000 in
theorem l20Boxes_any (b : Nat) (C : Code) (p n : Nat) (m : Int) (hm : m = (n : Int)) (w : World) (h : DrC b C p w) (hn : 1 ≤ n) (hn2 : n ≤ 1000) (hp : p + 2000 ≤ 1000000) :
    Calls Try.prog 58 #[.pointer (some ⟨b, 0, none⟩), .int .i64 m] w (BoxesPost b C p w) := by
  subst hm
  have hlt := h.lt
  have hD := hide h
  clear h
  obtain ⟨i0, hi, hz0, hz1, hz2⟩ := info_parts info_bx
  have hI := hide (And.intro hi (And.intro hz0 (And.intro hz1 hz2)))
  clear hi hz0 hz1 hz2
  go_enter Try.func58, Try.ntmps58
  go_wp2_with fail
  have hO0 : Hid (OwnB w.heap.size (w.alloc (.cells #[] 42)) (.slice (some ⟨w.heap.size, 0, none⟩) 0 0) []) := World.ownsRow_made w #[] 0 (Nat.le_refl _) (by omega) rfl
  have hX0 : Hid (Ex b w (w.alloc (.cells #[] 42))) := (Ex.refl b w).alloc _
  refine (pick_any b C p 8 _ rfl _ ((unhide hD).alloc _) (by omega) (by omega) (by omega)).mono ?_
  rintro e w1 ⟨c, rfl, hc, d1, x1⟩
  have hO1 : Hid (OwnB w.heap.size w1 (.slice (some ⟨w.heap.size, 0, none⟩) 0 0) []) := row_ex (unhide hO0) x1 hlt
  have hX1 := hide ((unhide hX0).trans x1)
  have hD1 := hide d1
  clear d1 x1 hO0 hX0
  go_wp2_with fail
  go_loopw [5, 6] (fun o i wr => ∃ (k : Nat) (xs : List Bx) (q : Nat), k + xs.length ≤ 7 ∧ i = .int .i64 (k : Int) ∧ q + 100 * k ≤ p + 800 ∧ Hid (OwnB w.heap.size wr o xs) ∧ Hid (NN o) ∧ Hid (smallB 700 xs) ∧ Hid (DrC b C q wr) ∧ Hid (Ex b w wr)) (fun _ i _ => (intOf i).toNat)
  case atStart => exact ⟨c, [], p + 1, by simp; omega, rfl, by omega, hO1, ⟨_, _, _, rfl⟩, (fun x hx => by cases hx), hD1, hX1⟩
  case round =>
    clear hO1 hX1 hD1
    obtain ⟨k, xs, q, hk, rfl, hq, hO, hNN, hsm, hD2, hX⟩ := hrel
    by_cases hpos : 0 < k
    · have hpos2 : (0 : Int) < (k : Int) := by omega
      have i3 : IntKind.i64.wrap ((k : Int) - 1) = (k : Int) - 1 := by simp [IntKind.wrap, IntKind.bits, IntKind.signed]; omega
      go_wp2_with fail
      refine (l20Secret_any b C 2 (by omega) 2 q _ rfl (unhide hD2) (by simp [Kd]; omega)).mono ?_
      rintro e w2 ⟨s, q2, rfl, hs, hq2, d2, x2⟩
      have hD3 := hide d2
      have hX2 := hide x2
      have hKd : q2 ≤ q + 17 := by have := hq2; simp [Kd] at this; omega
      clear d2 x2 hq2
      go_wp2_with fail
      refine (l20Secret_any b C 2 (by omega) 2 q2 _ rfl (unhide hD3) (by simp [Kd]; omega)).mono ?_
      rintro e w4 ⟨t, q4, rfl, ht, hq4, d4, x4⟩
      have hX4 := hide ((unhide hX2).trans x4)
      have hO2 : Hid (w4.ownsRow w.heap.size 42 2 _ xs.length (bcells xs)) := row_ex (unhide hO) (unhide hX4) hlt
      have hD4 := hide d4
      have hle2 := hX4.out.size
      have hle := hX.out.size
      have hKd4 : q4 ≤ q2 + 17 := by have := hq4; simp [Kd] at this; omega
      clear d4 x4 hq4 hX2 hD3
      go_wp2_with (at_builtin; refine wpList_append_own _ rfl _ _ 36 rfl w.heap.size 42 i0 (.agg #[.string ⟨#[]⟩, .string ⟨#[]⟩]) 2 32 underBx (unhide hI).1 (unhide hI).2.1 (unhide hI).2.2.1 (unhide hI).2.2.2 rfl (by decide) _ _ _ rfl (World.ownsRow.alloc (unhide hO2) _) ⟨w4.heap.size, 0, none⟩ 1 1 [.string s, .string t] rfl rfl ?c1 ?c2 ?c3 ?c4 ?c5 ?_)
      case c1 =>
        intro j u hj
        match j, hj with
        | 0, hj => simp at hj; subst hj; simp [Addr.add]
        | 1, hj => simp at hj; subst hj; simp [Addr.add]
      case c2 => intro u hu; simp at hu; rcases hu with rfl | rfl <;> rfl
      case c3 => unfold maxLen; omega
      case c4 => omega
      case c5 => simp; omega
      intro v' w3 hown' hgrow _
      have R := boxes_step hlt (unhide hX) (unhide hO) (unhide hD4) (unhide hX4) hown' hgrow
      have RN := hide (NN.of hown')
      have R1 := hide R.1
      have R2 := hide R.2.1
      have R3 := hide R.2.2
      have R4 := hide (smallB_snoc (b := (s, t)) hsm.out (show s.size ≤ 700 by omega) (show t.size ≤ 700 by omega))
      clear R hown' hgrow hO hO2 hD2 hD4 hX hX4 hsm
      go_wp2_with fail
      go_roundw
      case rel => exact ⟨k - 1, xs ++ [(s, t)], q4, by simp; omega, by rw [show ((k - 1 : Nat) : Int) = (k : Int) - 1 by omega], by omega, R1, RN, R4, R2, R3⟩
      case measure => simp [intOf]; omega
    · have hpos2 : decide ((0 : Int) < (k : Int)) = false := by simp; omega
      go_wp2_with fail
      refine (odd_any b C q n _ rfl _ (unhide hD2) hn hn2 (by omega)).mono ?_
      rintro e w2 ⟨c2, rfl, d2, x2⟩
      have hO2 : Hid (OwnB w.heap.size w2 _ xs) := row_ex (unhide hO) x2 hlt
      have hD3 := hide d2
      have hX2 := hide ((unhide hX).trans x2)
      have hle2 := hX2.out.size
      clear d2 x2 hO hD2 hX
      cases c2 with
      | false =>
        go_wp2_with fail
        go_ret
        exact ⟨_, xs, q + 1, rfl, hNN.out, unhide hO2, by omega, hsm.out, by omega, unhide hD3, unhide hX2⟩
      | true =>
        go_wp2_with fail
        refine (l20SecretOr_any b C (q + 1) 2 _ rfl _ (unhide hD3) (by omega) (by omega) (by omega)).mono ?_
        rintro e w4 ⟨s, q2, rfl, hs, hq2, d4, x4⟩
        have hD4 := hide d4
        have hX4 := hide x4
        clear d4 x4
        go_wp2_with fail
        refine (l20SecretOr_any b C q2 2 _ rfl _ (unhide hD4) (by omega) (by omega) (by omega)).mono ?_
        rintro e w5 ⟨t, q5, rfl, ht, hq5, d5, x5⟩
        have hX5 := hide ((unhide hX4).trans x5)
        have hO5 : Hid (w5.ownsRow w.heap.size 42 2 _ xs.length (bcells xs)) := row_ex (unhide hO2) (unhide hX5) hlt
        have hD5 := hide d5
        have hle4 := hX5.out.size
        clear d5 x5 hX4 hD4
        go_wp2_with (at_builtin; refine wpList_append_own _ rfl _ _ 36 rfl w.heap.size 42 i0 (.agg #[.string ⟨#[]⟩, .string ⟨#[]⟩]) 2 32 underBx (unhide hI).1 (unhide hI).2.1 (unhide hI).2.2.1 (unhide hI).2.2.2 rfl (by decide) _ _ _ rfl (World.ownsRow.alloc (unhide hO5) _) ⟨w5.heap.size, 0, none⟩ 1 1 [.string s, .string t] rfl rfl ?c1 ?c2 ?c3 ?c4 ?c5 ?_)
        case c1 =>
          intro j u hj
          match j, hj with
          | 0, hj => simp at hj; subst hj; simp [Addr.add]
          | 1, hj => simp at hj; subst hj; simp [Addr.add]
        case c2 => intro u hu; simp at hu; rcases hu with rfl | rfl <;> rfl
        case c3 => unfold maxLen; omega
        case c4 => omega
        case c5 => simp; omega
        intro v' w3 hown' hgrow _
        have RN := hide (NN.of hown')
        have R1 := hide (boxes_step hlt (unhide hX2) (unhide hO2) (unhide hD5) (unhide hX5) hown' hgrow)
        have R4 := hide (smallB_snoc (b := (s, t)) hsm.out hs ht)
        obtain ⟨vo, vc, hv⟩ := (row_form' hown')
        subst hv
        clear hown' hgrow hO2 hO5 hD3 hD5 hX2 hX5 hsm
        go_wp2_with fail
        go_ret
        exact ⟨_, xs ++ [(s, t)], q5, rfl, RN.out, R1.out.1, by simp; omega, R4.out, by omega, R1.out.2.1, R1.out.2.2⟩

theorem row_low {B B' : Nat} {w : World} {e : TypeId} {size : Nat} {v : Value} {n : Nat} {xs : List Value} (h : w.ownsRow B e size v n xs) (hB : B' ≤ B) : w.ownsRow B' e size v n xs := by
  refine ⟨h.1, h.2.imp id ?_⟩
  rintro ⟨g, cap, cur, q1, q2, q3⟩
  exact ⟨g, cap, cur, q1, Nat.le_trans hB q2, q3⟩

/-- What drawing secrets and boxes leaves. -/
def KB2 (w : World) (v u : Value) (xs : List ByteArray) (bs : List Bx) (w' : World) : Prop :=
  NN v ∧ NN u ∧ Own w.heap.size w' v xs ∧ OwnB w.heap.size w' u bs ∧ xs.length ≤ 5 ∧ bs.length ≤ 8 ∧ small 700 xs ∧ smallB 700 bs ∧ Below w.heap.size w w'

set_option maxHeartbeats 400000 in
theorem DrawKnwOpen_any (a : Option Addr) (len cap : Nat) (zs : List Int) (w : World) (h : IsRow .u8 w a len cap zs) :
    Calls Try.prog 26 #[.slice a len cap] w fun e w' => ∃ (v u : Value) (xs : List ByteArray) (bs : List Bx), e = .returned (.tuple #[v, u]) ∧ KB2 w v u xs bs w' := by
  have hR := hide h
  clear h
  go_enter Try.func26, Try.ntmps26
  go_wp2_with fail
  refine (l20Open_any a len cap zs _ (unhide hR)).mono ?_
  rintro e w1 ⟨C, rfl, d1, hb1⟩
  have D1 := hide d1
  have hlt1 := d1.lt
  clear d1
  go_wp2_with fail
  refine (l20Known_any w.heap.size C 0 9 _ rfl _ (unhide D1) (by omega) (by omega) (by omega)).mono ?_
  rintro e w2 ⟨v, xs, q, rfl, hnn, hO, hl, hsm, hq, d2, x2⟩
  have D2 := hide d2
  obtain ⟨ao, vc, hv⟩ := row_form' hO
  subst hv
  have hle2 := x2.size
  clear d2
  go_wp2_with fail
  refine (l20Boxes_any w.heap.size C q 9 _ rfl _ (unhide D2) (by omega) (by omega) (by omega)).mono ?_
  rintro e w3 ⟨u, bs, q3, rfl, hnn3, hO3, hl3, hsm3, hq3, d3, x3⟩
  obtain ⟨ao3, vc3, hv3⟩ := row_form' hO3
  subst hv3
  go_wp2_with fail
  go_ret2
  exact ⟨_, _, xs, bs, rfl, hnn, hnn3, row_low (hO.ex x3 hlt1) (by omega), row_low hO3 (by omega), hl, hl3, hsm, hsm3, hb1.trans ((x2.trans x3).below (Nat.le_refl _) hb1.size)⟩

set_option maxHeartbeats 400000 in
theorem DrawKnwHas_any (a : Option Addr) (len cap : Nat) (zs : List Int) (w : World) (h : IsRow .u8 w a len cap zs) :
    Calls Try.prog 31 #[.slice a len cap] w fun e w' => ∃ (v u : Value) (xs : List ByteArray) (bs : List Bx) (s : ByteArray), e = .returned (.tuple #[v, u, .string s]) ∧ s.size ≤ 700 ∧ KB2 w v u xs bs w' := by
  have hR := hide h
  clear h
  go_enter Try.func31, Try.ntmps31
  go_wp2_with fail
  refine (l20Open_any a len cap zs _ (unhide hR)).mono ?_
  rintro e w1 ⟨C, rfl, d1, hb1⟩
  have D1 := hide d1
  have hlt1 := d1.lt
  clear d1
  go_wp2_with fail
  refine (l20Known_any w.heap.size C 0 12 _ rfl _ (unhide D1) (by omega) (by omega) (by omega)).mono ?_
  rintro e w2 ⟨v, xs, q, rfl, hnn, hO, hl, hsm, hq, d2, x2⟩
  have D2 := hide d2
  obtain ⟨ao, vc, hv⟩ := row_form' hO
  subst hv
  have hle2 := x2.size
  clear d2
  go_wp2_with fail
  refine (l20Boxes_any w.heap.size C q 12 _ rfl _ (unhide D2) (by omega) (by omega) (by omega)).mono ?_
  rintro e w3 ⟨u, bs, q3, rfl, hnn3, hO3, hl3, hsm3, hq3, d3, x3⟩
  have D3 := hide d3
  obtain ⟨ao3, vc3, hv3⟩ := row_form' hO3
  subst hv3
  clear d3
  go_wp2_with fail
  refine (l20SecretOr_any w.heap.size C q3 12 _ rfl _ (unhide D3) (by omega) (by omega) (by omega)).mono ?_
  rintro e w4 ⟨t, q4, rfl, ht, hq4, d4, x4⟩
  go_wp2_with fail
  refine bodyPost_ret (v := .tuple #[.slice ao xs.length vc, .slice ao3 bs.length vc3, .string t]) (by simp [results, Try.results31, go_sem]) rfl ?_
  exact ⟨_, _, xs, bs, t, rfl, ht, hnn, hnn3, row_low ((hO.ex x3 hlt1).ex x4 hlt1) (by omega), row_low (row_ex hO3 x4 (by omega)) (by omega), hl, hl3, hsm, hsm3, hb1.trans (((x2.trans x3).trans x4).below (Nat.le_refl _) hb1.size)⟩
#print axioms DrawKnwOpen_any
#print axioms DrawKnwHas_any
end Go.Proofs.Ytjdpabiodalfkaa
