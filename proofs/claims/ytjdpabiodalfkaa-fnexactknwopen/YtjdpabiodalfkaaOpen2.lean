/-
  The spec's opening of boxes.
-/
import Derived.Test.YtjdpabiodalfkaaOpen
import Derived.Deep.RegionHeld3
namespace Go.Proofs.Ytjdpabiodalfkaa
open Go.RowKit

set_option maxRecDepth 100000 in
set_option maxHeartbeats 8000000 in
theorem l2Open_any (v u : Value) (xs : List ByteArray) (bs : List Bx) (w : World) (h : SRow w v xs) (k : BRow w u bs) (hk : okBoxes bs = true) (hx : xs.length ≤ 400) :
    Calls Try.prog 63 #[v, u] w fun e w' => ∃ v' out N, e = .returned v' ∧ Own w.heap.size w' v' out ∧ out = Nat.repeat (bfold bs) N (dedup xs) ∧ bfold bs out = out ∧ Below w.heap.size w w' := by
  have hR := hide h
  have hS := hide k
  have hOK := hide (okBoxes_iff.1 hk)
  obtain ⟨ao, cap, rfl, h1, h2, _⟩ := h.form
  obtain ⟨bo, cap2, rfl, h3, h4, _⟩ := k
  unfold maxLen at h2 h4
  clear h hk
  obtain ⟨i0, hi, hz0, hz1, hz2⟩ := info_parts info_str2
  have hI := hide (And.intro hi (And.intro hz0 (And.intro hz1 hz2)))
  clear hi hz0 hz1 hz2
  have hO0 : Hid (Own w.heap.size (w.alloc (Obj.cells #[] 9)) (.slice (some ⟨w.heap.size, 0, none⟩) 0 0) (dedup (xs.take 0))) := by
    have h := World.ownsRow_lit (base := w.heap.size) (e := 9) (size := 1) w #[] 0 (Nat.le_refl _) (by unfold maxLen; omega) rfl
    exact h
  have hL0 := hide ((Below.refl w.heap.size w).alloc (Nat.le_refl _) (Obj.cells #[] 9))
  go_enter Try.func63, Try.ntmps63
  go_wp2_with fail
  go_loopw [5, 6] (fun o i wr => ∃ k : Nat, k ≤ xs.length ∧ i = .int .i64 (k : Int) ∧ Hid (Own w.heap.size wr o (dedup (xs.take k))) ∧ Hid (Below w.heap.size w wr)) (fun _ i _ => xs.length - (intOf i).toNat)
  case atStart => exact ⟨0, by omega, rfl, hO0, hL0⟩
  case round =>
    clear hO0 hL0
    obtain ⟨k, hk, rfl, hO, hL⟩ := hrel
    have hle := hL.out.size
    by_cases hlt : k < xs.length
    · have hlt2 : (k : Int) < (xs.length : Int) := by omega
      obtain ⟨ao', c1, q1, _, _, q2⟩ := (SRow.below (unhide hR) (unhide hL)).form
      simp only [Value.slice.injEq] at q1
      obtain ⟨rfl, z1, rfl⟩ := q1
      clear z1
      obtain ⟨a, rfl, hck⟩ := q2 k hlt
      clear q2
      have i3 : IntKind.i64.wrap ((k : Int) + 1) = (k : Int) + 1 := by simp [IntKind.wrap, IntKind.bits, IntKind.signed]; omega
      have hd := hide (dedup_succ xs k hlt)
      have hdl := dedup_len xs k (by omega)
      generalize xs.getD k ByteArray.empty = y at hck hd
      go_wp2_with fail
      refine (l2Has_any _ _ y _ (Own.srow (unhide hO))).mono ?_
      cases hh : has (dedup (xs.take k)) y with
      | true =>
        rintro e w1 ⟨rfl, hb1⟩
        have hO1 : Hid (Own w.heap.size w1 u5 (dedup (xs.take (k + 1)))) := by
          rw [hd.out]
          unfold addNew
          rw [if_pos hh]
          exact Own.below (unhide hO) hb1
        have hL1 := hide ((unhide hL).trans (hb1.mono hle))
        clear hb1 hh hO hL
        go_wp2_with fail
        go_roundw
        case rel => exact ⟨k + 1, by omega, by simp, hO1, hL1⟩
        case measure => simp [intOf]; omega
      | false =>
        rintro e w1 ⟨rfl, hb1⟩
        have hO1 := hide (Own.below (unhide hO) hb1)
        have hL1 := hide ((unhide hL).trans (hb1.mono hle))
        have hle1 := hL1.out.size
        have hck1 := (hb1.cell (cell_lt hck)).trans hck
        have HH := hide hh
        clear hb1 hh hO hL hck
        go_wp2_with (at_builtin; refine wpList_append_own _ rfl _ _ 23 rfl w.heap.size 9 i0 (.string ⟨#[]⟩) 1 16 Try.underlying23 (unhide hI).1 (unhide hI).2.1 (unhide hI).2.2.1 (unhide hI).2.2.2 rfl (by decide) _ _ _ rfl ((unhide hO1).alloc _) ⟨w1.heap.size, 0, none⟩ 1 1 [.string y] rfl rfl ?c1 ?c2 ?c3 ?c4 ?c5 ?_)
        case c1 =>
          intro j u hj
          match j, hj with
          | 0, hj => simp at hj; subst hj; simp [Addr.add]
        case c2 => intro u hu; simp at hu; subst hu; rfl
        case c3 => unfold maxLen; omega
        case c4 => omega
        case c5 => simp; omega
        intro v' w7 hown' hgrow _
        have R := Own.grow (unhide hO1) (unhide hL1) (Nat.le_refl _) hown' hgrow
        have R1 : Hid (Own w.heap.size w7 v' (dedup (xs.take (k + 1)))) := by
          rw [hd.out]
          unfold addNew
          rw [if_neg (by rw [HH.out]; simp)]
          exact R.1
        have R2 := hide R.2
        clear R hown' hgrow hO1 hL1
        go_wp2_with fail
        go_roundw
        case rel => exact ⟨k + 1, by omega, by simp, R1, R2⟩
        case measure => simp [intOf]; omega
    · have hlt2 : decide ((k : Int) < (xs.length : Int)) = false := by simp; omega
      have hkn : k = xs.length := by omega
      subst hkn
      rw [List.take_length] at hO
      have hbd0 : (dedup xs).length + missing bs (dedup xs) ≤ 800 := by
        have q1 := dedup_len xs xs.length (Nat.le_refl _)
        rw [List.take_length] at q1
        have q2 := missing_most bs (dedup xs)
        have q3 := hOK.out.1
        omega
      go_wp2_with fail
      go_loopw [5, 7] (fun o m wr => ∃ (out : List ByteArray) (N : Nat) (b : Bool), m = .bool b ∧ Hid (Own w.heap.size wr o out) ∧ Hid (Below w.heap.size w wr) ∧ Hid (out = Nat.repeat (bfold bs) N (dedup xs)) ∧ Hid (b = false → bfold bs out = out) ∧ Hid (out.length + missing bs out ≤ 800)) (fun o m _ => 2 * (801 - lenOf o) + (match m with | .bool true => 1 | _ => 0))
      case atStart => exact ⟨dedup xs, 0, true, rfl, hO, hL, rfl, fun h => Bool.noConfusion h, hbd0⟩
      case round =>
        clear hO hL hbd0
        obtain ⟨out, N, b, rfl, hO, hL, hrep, hfix, hbd⟩ := hrel
        cases b with
        | false =>
          have hf := hide (hfix.out rfl)
          go_wp2_with fail
          go_ret
          exact ⟨_, rfl, out, unhide hO, ⟨N, hrep.out⟩, hf.out, unhide hL⟩
        | true =>
          have hlen0 := hide (Own.len (unhide hO))
          go_wp2_with fail
          go_loopw [5, 7, 8] (fun o m i wr => ∃ (k : Nat) (b2 : Bool), k ≤ bs.length ∧ i = .int .i64 (k : Int) ∧ m = .bool b2 ∧ Hid (b2 = decide (out.length < (bfold (bs.take k) out).length)) ∧ Hid (Own w.heap.size wr o (bfold (bs.take k) out)) ∧ Hid (Below w.heap.size w wr)) (fun _ _ i _ => bs.length - (intOf i).toNat)
          case atStart => exact ⟨0, false, by omega, rfl, rfl, by show false = _; simp [bfold], hO, hL⟩
          case round =>
            clear hO hL
            obtain ⟨k, b2, hk, rfl, rfl, hb2, hO, hL⟩ := hrel
            have hle := hL.out.size
            by_cases hlt : k < bs.length
            · have hlt2 : (k : Int) < (bs.length : Int) := by omega
              obtain ⟨bo', c1, q1, _, _, q2⟩ := BRow.below (unhide hS) (unhide hL)
              simp only [Value.slice.injEq] at q1
              obtain ⟨rfl, z1, rfl⟩ := q1
              clear z1
              obtain ⟨a, rfl, hca, hcb⟩ := q2 k hlt
              rw [add_one] at hcb
              clear q2
              have i3 : IntKind.i64.wrap ((k : Int) + 1) = (k : Int) + 1 := by simp [IntKind.wrap, IntKind.bits, IntKind.signed]; omega
              have hstep := hide (bfold_succ bs out k hlt)
              have hok : Hid (Kw.ok (bs.getD k noBx).1 = true) := (hOK.out.2 _ (getB_mem hlt)).1
              have hbk : Hid ((bfold (bs.take k) out).length ≤ 800) := by
                have q1 := bfold_bound (bs := bs) (bs.take k) out (fun c hc => List.mem_of_mem_take hc)
                have q2 := hbd.out
                show _ ≤ _
                omega
              have hpre := hide (bfold_len (bs.take k) out)
              generalize bs.getD k noBx = y at hca hcb hstep hok
              generalize bfold (bs.take k) out = X at hstep hbk hO hb2 hpre
              go_wp2_with fail
              refine (l2Has_any _ _ y.2 _ (Own.srow (unhide hO))).mono ?_
              cases hh : has X y.2 with
              | true =>
                rintro e w1 ⟨rfl, hb1⟩
                have hX : bfold (bs.take (k + 1)) out = X := by
                  rw [hstep.out]; unfold bstep; rw [if_neg (by rw [hh]; simp)]
                have hO1 : Hid (Own w.heap.size w1 u5 (bfold (bs.take (k + 1)) out)) := by rw [hX]; exact Own.below (unhide hO) hb1
                have hb3 : Hid (b2 = decide (out.length < (bfold (bs.take (k + 1)) out).length)) := by rw [hX]; exact hb2
                have hL1 := hide ((unhide hL).trans (hb1.mono hle))
                clear hb1 hh hO hL hX
                go_wp2_with fail
                go_roundw
                case rel => exact ⟨k + 1, b2, by omega, by simp, rfl, hb3, hO1, hL1⟩
                case measure => simp [intOf]; omega
              | false =>
                rintro e w1 ⟨rfl, hb1⟩
                have hO1 := hide (Own.below (unhide hO) hb1)
                have hL1 := hide ((unhide hL).trans (hb1.mono hle))
                have hle1 := hL1.out.size
                have hca1 := (hb1.cell (cell_lt hca)).trans hca
                have hcb1 := (hb1.cell (cell_lt hcb)).trans hcb
                have HH := hide hh
                clear hb1 hh hO hL hca hcb
                go_wp2_with fail
                refine (l2Make_any X y.1.size y.1 (Nat.le_refl _) hok.out _ _ (Own.srow (unhide hO1))).mono ?_
                cases hc : can X y.1 with
                | false =>
                  rintro e w2 ⟨rfl, hb2'⟩
                  have hX : bfold (bs.take (k + 1)) out = X := by
                    rw [hstep.out]; unfold bstep; rw [if_neg (by rw [hc]; simp)]
                  have hO2 : Hid (Own w.heap.size w2 u5 (bfold (bs.take (k + 1)) out)) := by rw [hX]; exact Own.below (unhide hO1) hb2'
                  have hb3 : Hid (b2 = decide (out.length < (bfold (bs.take (k + 1)) out).length)) := by rw [hX]; exact hb2
                  have hL2 := hide ((unhide hL1).trans (hb2'.mono hle1))
                  clear hb2' hc hO1 hL1 hX
                  go_wp2_with fail
                  go_roundw
                  case rel => exact ⟨k + 1, b2, by omega, by simp, rfl, hb3, hO2, hL2⟩
                  case measure => simp [intOf]; omega
                | true =>
                  rintro e w2 ⟨rfl, hb2'⟩
                  have hX : Hid (bfold (bs.take (k + 1)) out = X ++ [y.2]) := by
                    show _ = _
                    rw [hstep.out]; unfold bstep; rw [if_pos ⟨HH.out, hc⟩]
                  have hO2 := hide (Own.below (unhide hO1) hb2')
                  have hL2 := hide ((unhide hL1).trans (hb2'.mono hle1))
                  have hle2 := hL2.out.size
                  have hcb2 := (hb2'.cell (cell_lt hcb1)).trans hcb1
                  have hXl := hbk.out
                  clear hb2' hc hO1 hL1 hca1 hcb1
                  go_wp2_with (at_builtin; refine wpList_append_own _ rfl _ _ 23 rfl w.heap.size 9 i0 (.string ⟨#[]⟩) 1 16 Try.underlying23 (unhide hI).1 (unhide hI).2.1 (unhide hI).2.2.1 (unhide hI).2.2.2 rfl (by decide) _ _ _ rfl ((unhide hO2).alloc _) ⟨w2.heap.size, 0, none⟩ 1 1 [.string y.2] rfl rfl ?c1 ?c2 ?c3 ?c4 ?c5 ?_)
                  case c1 =>
                    intro j u hj
                    match j, hj with
                    | 0, hj => simp at hj; subst hj; simp [Addr.add]
                  case c2 => intro u hu; simp at hu; subst hu; rfl
                  case c3 => unfold maxLen; omega
                  case c4 => omega
                  case c5 => simp; omega
                  intro v' w7 hown' hgrow _
                  have R := Own.grow (unhide hO2) (unhide hL2) (Nat.le_refl _) hown' hgrow
                  have R1 : Hid (Own w.heap.size w7 v' (bfold (bs.take (k + 1)) out)) := by rw [hX.out]; exact R.1
                  have R2 := hide R.2
                  have hb3 : Hid (true = decide (out.length < (bfold (bs.take (k + 1)) out).length)) := by
                    show true = _
                    rw [hX.out]
                    have := hpre.out
                    simp
                    omega
                  clear R hown' hgrow hO2 hL2
                  go_wp2_with fail
                  go_roundw
                  case rel => exact ⟨k + 1, true, by omega, by simp, rfl, hb3, R1, R2⟩
                  case measure => simp [intOf]; omega
            · have hlt2 : decide ((k : Int) < (bs.length : Int)) = false := by simp; omega
              have hkn : k = bs.length := by omega
              subst hkn
              rw [List.take_length] at hO hb2
              go_wp2_with fail
              go_roundw
              case rel =>
                refine ⟨bfold bs out, N + 1, b2, rfl, hO, hL, ?_, ?_, ?_⟩
                · show bfold bs out = bfold bs (Nat.repeat (bfold bs) N (dedup xs))
                  rw [← hrep.out]
                · intro hf
                  have q := hb2.out
                  rw [hf] at q
                  have q2 : ¬ out.length < (bfold bs out).length := by simpa using q.symm
                  have q3 := bfold_same (bs := bs) (out := out) (by omega)
                  rw [q3, q3]
                · have q := bfold_bound (bs := bs) bs out (fun c hc => hc)
                  have q2 := hbd.out
                  show _ ≤ _
                  omega
              case measure =>
                have q1 := Own.len (unhide hO)
                have q0 := hlen0.out
                have q := bfold_bound (bs := bs) bs out (fun c hc => hc)
                have q2 := hbd.out
                have q3 := hb2.out
                have q4 := bfold_len bs out
                rw [q1, q0]
                cases b2 with
                | true => have : out.length < (bfold bs out).length := by simpa using q3.symm
                          simp only []
                          omega
                | false => simp only []; omega
#print axioms l2Open_any
end Go.Proofs.Ytjdpabiodalfkaa
