/-
  Drawn secrets, some of them: the draw returns, in memory of its own, and nothing that was there is written but the reader.
-/
import Derived.Test.YtjdpabiodalfkaaKeOk
import Derived.Test.YtjdpabiodalfkaaStr0
namespace Go.Proofs.Ytjdpabiodalfkaa
open Go.RowKit

theorem row_ex {b B : Nat} {w w' : World} {e : TypeId} {size : Nat} {v : Value} {n : Nat} {xs : List Value} (h : w.ownsRow B e size v n xs) (x : Ex b w w') (hb : b < B) : w'.ownsRow B e size v n xs := by
  refine ⟨h.1, h.2.imp id ?_⟩
  rintro ⟨g, cap, cur, h1, h2, h3, h4⟩
  exact ⟨g, cap, cur, h1, h2, (x.block g (Array.getElem?_eq_some_iff.1 h3).1 (by omega)).trans h3, h4⟩
theorem Own.ex {b B : Nat} {w w' : World} {v : Value} {xs : List ByteArray} (h : Own B w v xs) (x : Ex b w w') (hb : b < B) : Own B w' v xs := row_ex h x hb
theorem DrC.grown {b : Nat} {C : Code} {p : Nat} {w w' : World} {r : Option Nat} (h : DrC b C p w) (hg : w.grownBy w' r) (hr : ∀ k, r = some k → b < k) : DrC b C p w' := by
  have hblk : ∀ k, k ≤ b → k < w.heap.size → w'.heap[k]? = w.heap[k]? := fun k hk hl => hg.block k hl (fun e => by have := hr k e.symm; omega)
  obtain ⟨c0, c1, f1, lt, le, row⟩ := h
  have hb := hblk b (Nat.le_refl _) lt
  refine ⟨(World.cell?_of_block (a := ⟨b, 0, none⟩) hb).trans c0, (World.cell?_of_block (a := ⟨b, 1, none⟩) hb).trans c1, (World.frozen?_of_block (a := ⟨b, 1, none⟩) hb).trans f1, Nat.lt_of_lt_of_le lt hg.size, le, ?_⟩
  rcases row with h0 | ⟨x, hx, hxb, hrw⟩
  · exact .inl h0
  · refine .inr ⟨x, hx, hxb, fun i hi => ⟨?_, (hrw i hi).2⟩⟩
    have : (x.add i).block < b := by rw [add_block]; exact hxb
    exact (World.cell?_of_block (a := x.add i) (hblk _ (by omega) (by omega))).trans (hrw i hi).1
theorem Ex.grown {b : Nat} {w0 w w' : World} {r : Option Nat} (h : Ex b w0 w) (hg : w.grownBy w' r) (hr : ∀ k, r = some k → w0.heap.size ≤ k) : Ex b w0 w' :=
  ⟨hg.os.trans h.os, hg.tape.trans h.tape, hg.output.trans h.output, Nat.le_trans h.size hg.size, fun k hk hn => (hg.block k (Nat.lt_of_lt_of_le hk h.size) (fun e => by have := hr k e.symm; omega)).trans (h.block k hk hn)⟩

theorem row_form' {w : World} {B : Nat} {e : TypeId} {size : Nat} {v : Value} {n : Nat} {xs : List Value} (h : w.ownsRow B e size v n xs) : ∃ ao cap, v = .slice ao n cap := by
  rcases h.2 with ⟨h1, h2⟩ | ⟨g, cap, cur, h1, _⟩
  · exact ⟨none, 0, by rw [h1, h2]⟩
  · exact ⟨_, cap, h1⟩

/-- Texts of at most so many bytes. -/
def small (M : Nat) (xs : List ByteArray) : Prop := ∀ x ∈ xs, x.size ≤ M
theorem small_snoc {M : Nat} {xs : List ByteArray} {s : ByteArray} (h : small M xs) (hs : s.size ≤ M) : small M (xs ++ [s]) := by
  intro x hx
  rcases List.mem_append.1 hx with hx | hx
  · exact h x hx
  · simp at hx; subst hx; exact hs

/-- A slice that is not nil, and begins with its row. -/
def NN (v : Value) : Prop := ∃ g n c, v = .slice (some ⟨g, 0, none⟩) n c
theorem NN.of {w : World} {B : Nat} {e : TypeId} {size : Nat} {v : Value} {n : Nat} {xs : List Value} (h : w.ownsRow B e size v (n + 1) xs) : NN v := by
  rcases h.2 with ⟨_, h2⟩ | ⟨g, cap, cur, h1, _⟩
  · omega
  · exact ⟨g, n + 1, cap, h1⟩

/-- What drawing some secrets leaves. -/
def KnownPost (b : Nat) (C : Code) (p : Nat) (w : World) (e : Ending) (w' : World) : Prop :=
  ∃ (v : Value) (xs : List ByteArray) (q : Nat), e = .returned v ∧ NN v ∧ Own w.heap.size w' v xs ∧ xs.length ≤ 5 ∧ small 700 xs ∧ q ≤ p + 1000 ∧ DrC b C q w' ∧ Ex b w w'

/-- One drawn text more. -/
theorem known_step {b : Nat} {C : Code} {q : Nat} {w w1 w2 w3 : World} {o : Obj} {v v' : Value} {xs : List ByteArray} {s : ByteArray} (hb : b < w.heap.size) (hx : Ex b w w1) (hO : Own w.heap.size w1 v xs)
    (hd : DrC b C q w2) (hx2 : Ex b w1 w2) (hown' : w3.ownsRow w.heap.size 9 1 v' (xs.length + 1) (xs.map Value.string ++ [.string s])) (hg : (w2.alloc o).grownBy w3 v.ownBlock) :
    Own w.heap.size w3 v' (xs ++ [s]) ∧ DrC b C q w3 ∧ Ex b w w3 := by
  have hO2 := hO.ex hx2 hb
  have hr : ∀ k, v.ownBlock = some k → w.heap.size ≤ k := fun k hk => (World.ownsRow.lt hO2 k hk).1
  refine ⟨?_, (hd.alloc o).grown hg (fun k hk => Nat.lt_of_lt_of_le hb (hr k hk)), ((hx.trans hx2).alloc o).grown hg hr⟩
  unfold Own
  rw [List.length_append, List.map_append]
  exact hown'

set_option maxRecDepth 100000 in
set_option maxHeartbeats 2000000 in
theorem l20Known_any (b : Nat) (C : Code) (p n : Nat) (m : Int) (hm : m = (n : Int)) (w : World) (h : DrC b C p w) (hn : 1 ≤ n) (hn2 : n ≤ 1000) (hp : p + 1000 ≤ 1000000) :
    Calls Try.prog 46 #[.pointer (some ⟨b, 0, none⟩), .int .i64 m] w (KnownPost b C p w) := by
  subst hm
  have hlt := h.lt
  have hD := hide h
  clear h
  obtain ⟨i0, hi, hz0, hz1, hz2⟩ := info_parts info_str2
  have hI := hide (And.intro hi (And.intro hz0 (And.intro hz1 hz2)))
  clear hi hz0 hz1 hz2
  go_enter Try.func46, Try.ntmps46
  go_wp2_with fail
  have hO0 : Hid (Own w.heap.size (w.alloc (.cells #[] 9)) (.slice (some ⟨w.heap.size, 0, none⟩) 0 0) []) := World.ownsRow_made w #[] 0 (Nat.le_refl _) (by omega) rfl
  have hX0 : Hid (Ex b w (w.alloc (.cells #[] 9))) := (Ex.refl b w).alloc _
  refine (pick_any b C p 5 _ rfl _ ((unhide hD).alloc _) (by omega) (by omega) (by omega)).mono ?_
  rintro e w1 ⟨c, rfl, hc, d1, x1⟩
  have hO1 := hide ((unhide hO0).ex x1 hlt)
  have hX1 := hide ((unhide hX0).trans x1)
  have hD1 := hide d1
  clear d1 x1 hO0 hX0
  go_wp2_with fail
  go_loopw [5, 6] (fun o i wr => ∃ (k : Nat) (xs : List ByteArray) (q : Nat), k + xs.length ≤ 4 ∧ i = .int .i64 (k : Int) ∧ q + 100 * k ≤ p + 500 ∧ Hid (Own w.heap.size wr o xs) ∧ Hid (NN o) ∧ Hid (small 700 xs) ∧ Hid (DrC b C q wr) ∧ Hid (Ex b w wr)) (fun _ i _ => (intOf i).toNat)
  case atStart => exact ⟨c, [], p + 1, by simp; omega, rfl, by omega, hO1, ⟨_, _, _, rfl⟩, (fun x hx => by cases hx), hD1, hX1⟩
  case round =>
    clear hO1 hX1 hD1
    obtain ⟨k, xs, q, hk, rfl, hq, hO, hNN, hsm, hD2, hX⟩ := hrel
    by_cases hpos : 0 < k
    · have hpos2 : (0 : Int) < (k : Int) := by omega
      have i3 : IntKind.i64.wrap ((k : Int) - 1) = (k : Int) - 1 := by simp [IntKind.wrap, IntKind.bits, IntKind.signed]; omega
      go_wp2_with fail
      refine (l20Secret_any b C 2 (by omega) 2 q _ rfl (unhide hD2) (by simp [Kd]; omega)).mono ?_
      rintro e w2 ⟨s, q2, rfl, hs, hq2, d2, x2⟩
      have hO2 := hide ((unhide hO).ex x2 hlt)
      have hD3 := hide d2
      have hX2 := hide x2
      have hle2 := x2.size
      have hle := hX.out.size
      have hKd : q2 ≤ q + 17 := by have := hq2; simp [Kd] at this; omega
      clear d2 x2 hq2
      go_wp2_with (at_builtin; refine wpList_append_own _ rfl _ _ 23 rfl w.heap.size 9 i0 (.string ⟨#[]⟩) 1 16 Try.underlying23 (unhide hI).1 (unhide hI).2.1 (unhide hI).2.2.1 (unhide hI).2.2.2 rfl (by decide) _ _ _ rfl (World.ownsRow.alloc (unhide hO2) _) ⟨w2.heap.size, 0, none⟩ 1 1 [.string s] rfl rfl ?c1 ?c2 ?c3 ?c4 ?c5 ?_)
      case c1 =>
        intro j u hj
        match j, hj with
        | 0, hj => simp at hj; subst hj; simp [Addr.add]
      case c2 => intro u hu; simp at hu; subst hu; rfl
      case c3 => unfold maxLen; omega
      case c4 => omega
      case c5 => simp; omega
      intro v' w3 hown' hgrow _
      have R := known_step hlt (unhide hX) (unhide hO) (unhide hD3) (unhide hX2) hown' hgrow
      have RN := hide (NN.of hown')
      have R1 := hide R.1
      have R2 := hide R.2.1
      have R3 := hide R.2.2
      have R4 := hide (small_snoc hsm.out (show s.size ≤ 700 by omega))
      clear R hown' hgrow hO hO2 hD2 hD3 hX hX2 hsm
      go_wp2_with fail
      go_roundw
      case rel => exact ⟨k - 1, xs ++ [s], q2, by simp; omega, by rw [show ((k - 1 : Nat) : Int) = (k : Int) - 1 by omega], by omega, R1, RN, R4, R2, R3⟩
      case measure => simp [intOf]; omega
    · have hpos2 : decide ((0 : Int) < (k : Int)) = false := by simp; omega
      go_wp2_with fail
      refine (odd_any b C q n _ rfl _ (unhide hD2) hn hn2 (by omega)).mono ?_
      rintro e w2 ⟨c2, rfl, d2, x2⟩
      have hO2 := hide ((unhide hO).ex x2 hlt)
      have hD3 := hide d2
      have hX2 := hide ((unhide hX).trans x2)
      have hle2 := hX2.out.size
      clear d2 x2 hO hD2 hX
      cases c2 with
      | false =>
        go_wp2_with fail
        go_ret
        exact ⟨_, xs, q + 1, rfl, hNN.out, unhide hO2, by omega, hsm.out, by omega, unhide hD3, unhide hX2⟩
      | true =>
        go_wp2_with fail
        refine (l20SecretOr_any b C (q + 1) 1 _ rfl _ (unhide hD3) (by omega) (by omega) (by omega)).mono ?_
        rintro e w4 ⟨s, q2, rfl, hs, hq2, d4, x4⟩
        have hO4 := hide ((unhide hO2).ex x4 hlt)
        have hD4 := hide d4
        have hX4 := hide x4
        have hle4 := x4.size
        clear d4 x4
        go_wp2_with (at_builtin; refine wpList_append_own _ rfl _ _ 23 rfl w.heap.size 9 i0 (.string ⟨#[]⟩) 1 16 Try.underlying23 (unhide hI).1 (unhide hI).2.1 (unhide hI).2.2.1 (unhide hI).2.2.2 rfl (by decide) _ _ _ rfl (World.ownsRow.alloc (unhide hO4) _) ⟨w4.heap.size, 0, none⟩ 1 1 [.string s] rfl rfl ?c1 ?c2 ?c3 ?c4 ?c5 ?_)
        case c1 =>
          intro j u hj
          match j, hj with
          | 0, hj => simp at hj; subst hj; simp [Addr.add]
        case c2 => intro u hu; simp at hu; subst hu; rfl
        case c3 => unfold maxLen; omega
        case c4 => omega
        case c5 => simp; omega
        intro v' w3 hown' hgrow _
        have R := known_step hlt (unhide hX2) (unhide hO2) (unhide hD4) (unhide hX4) hown' hgrow
        have RN := hide (NN.of hown')
        have R1 := hide R
        have R4 := hide (small_snoc hsm.out hs)
        obtain ⟨vo, vc, hv⟩ := (row_form' hown')
        subst hv
        clear R hown' hgrow hO2 hO4 hD3 hD4 hX2 hX4 hsm
        go_wp2_with fail
        go_ret
        exact ⟨_, xs ++ [s], q2, rfl, RN.out, R1.out.1, by simp; omega, R4.out, by omega, R1.out.2.1, R1.out.2.2⟩

set_option maxHeartbeats 400000 in
theorem DrawKnwMake_any (a : Option Addr) (len cap : Nat) (zs : List Int) (w : World) (h : IsRow .u8 w a len cap zs) :
    Calls Try.prog 14 #[.slice a len cap] w fun e w' => ∃ (v : Value) (xs : List ByteArray) (s : ByteArray), e = .returned (.tuple #[v, .string s]) ∧ NN v ∧ Own w.heap.size w' v xs ∧ xs.length ≤ 5 ∧ small 700 xs ∧ s.size ≤ 700 ∧ Below w.heap.size w w' := by
  have hR := hide h
  clear h
  go_enter Try.func14, Try.ntmps14
  go_wp2_with fail
  refine (l20Open_any a len cap zs _ (unhide hR)).mono ?_
  rintro e w1 ⟨C, rfl, d1, hb1⟩
  have D1 := hide d1
  have hlt1 := d1.lt
  clear d1
  go_wp2_with fail
  refine (l20Known_any w.heap.size C 0 9 _ rfl _ (unhide D1) (by omega) (by omega) (by omega)).mono ?_
  rintro e w2 ⟨v, xs, q, rfl, hnn, hO, hl, hsm, hq, d2, x2⟩
  have D2 := hide d2
  obtain ⟨ao, vc, hv⟩ := row_form' hO
  subst hv
  clear d2
  go_wp2_with fail
  refine (l20SecretOr_any w.heap.size C q 9 _ rfl _ (unhide D2) (by omega) (by omega) (by omega)).mono ?_
  rintro e w3 ⟨t, q3, rfl, ht, hq3, d3, x3⟩
  go_wp2_with fail
  go_ret2
  refine ⟨_, xs, t, rfl, hnn, ?_, hl, hsm, ht, hb1.trans ((x2.trans x3).below (Nat.le_refl _) hb1.size)⟩
  have hO3 := hO.ex x3 hlt1
  refine ⟨hO3.1, hO3.2.imp id ?_⟩
  rintro ⟨g, cap', cur, q1, q2, q4⟩
  exact ⟨g, cap', cur, q1, by omega, q4⟩
#print axioms DrawKnwMake_any
end Go.Proofs.Ytjdpabiodalfkaa
