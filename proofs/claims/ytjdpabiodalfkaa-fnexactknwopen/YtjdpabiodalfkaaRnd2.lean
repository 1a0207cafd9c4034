/-
  A round of the program over the boxes that wait: the contract.
-/
import Derived.Test.YtjdpabiodalfkaaRnd
namespace Go.Proofs.Ytjdpabiodalfkaa
open Go.RowKit

/-- What a round leaves. -/
def Round (B ab bm qb : Nat) (xs : List Item) (L : List ByteArray) (w : World) (e : Ending) (w' : World) : Prop :=
  ∃ u' v', e = .returned (.bool (decide (L.length < (bfold (xs.map bx) L).length))) ∧ SetAt B w' ab bm u' (bfold (xs.map bx) L) ∧ QAt B w' qb v' (kept xs L) ∧ Below B w w'

/-- What holds behind k boxes of a round. -/
def Mid (B ab bm qb : Nat) (xs : List Item) (L : List ByteArray) (w : World) (k : Nat) (wr : World) : Prop :=
  ∃ u v, SetAt B wr ab bm u (bfold ((xs.take k).map bx) L) ∧ QAt B wr qb v (xs.drop k ++ kept (xs.take k) L) ∧ Below B w wr ∧ B ≤ wr.heap.size

theorem mid_len (xs : List Item) (L : List ByteArray) (k : Nat) : (bfold ((xs.take k).map bx) L).length ≤ L.length + xs.length := by
  have h := bfold_bound (bs := (xs.take k).map bx) ((xs.take k).map bx) L (fun c hc => hc)
  have h2 := missing_most ((xs.take k).map bx) L
  rw [List.length_map, List.length_take] at h2
  omega

set_option maxRecDepth 100000 in
set_option maxHeartbeats 4000000 in
theorem openRound_any {B : Nat} {w : World} {ab bm qb : Nat} {u v : Value} {xs : List Item} {L : List ByteArray} (hS : SetAt B w ab bm u L) (hQ : QAt B w qb v xs) (hab : B ≤ ab) (hqb : B ≤ qb)
    (hok : ∀ x ∈ xs, Kw.ok x.key = true ∧ x.secret.size ≤ maxLen) (hL : L.length ≤ 800) (hxs : xs.length ≤ 400) :
    Calls Try.prog 81 #[.pointer (some ⟨ab, 0, none⟩), .pointer (some ⟨qb, 0, none⟩)] w (Round B ab bm qb xs L w) := by
  have HOK := hide hok
  have HS := hide hS
  have HQ := hide hQ
  have hBw : B ≤ w.heap.size := by have := hS.lt; omega
  clear hok hS hQ
  go_enter Try.func81, Try.ntmps81
  go_wp2_with fail
  refine (qsize_any (unhide HQ)).mono ?_
  rintro e w0 ⟨rfl, hb0⟩
  have hM0 : Hid (Mid B ab bm qb xs L w 0 w0) := ⟨u, v, (unhide HS).below hb0, by simpa [kept] using (unhide HQ).below hb0, hb0.mono hBw, by have := hb0.size; omega⟩
  clear hb0
  go_wp2_with fail
  go_loopw [5, 9] (fun o i wr => ∃ k : Nat, k ≤ xs.length ∧ i = .int .i64 (k : Int) ∧ o = .bool (decide (L.length < (bfold ((xs.take k).map bx) L).length)) ∧ Hid (Mid B ab bm qb xs L w k wr)) (fun _ i _ => xs.length - (intOf i).toNat)
  case atStart => exact ⟨0, by omega, rfl, by simp [bfold], hM0⟩
  case round =>
    clear hM0
    obtain ⟨k, hk, rfl, rfl, hM⟩ := hrel
    by_cases hlt : k < xs.length
    · have hlt2 : (k : Int) < (xs.length : Int) := by omega
      have i3 : IntKind.i64.wrap ((k : Int) + 1) = (k : Int) + 1 := by simp [IntKind.wrap, IntKind.bits, IntKind.signed]; omega
      obtain ⟨u1, v1, hS1, hQ1, hB1, hBr⟩ := hM.out
      have hdrop : xs.drop k = xs[k] :: xs.drop (k + 1) := List.drop_eq_getElem_cons hlt
      rw [hdrop, List.cons_append] at hQ1
      have hkl := kept_len (xs.take k) L
      simp at hkl
      have hql : (xs.drop (k + 1) ++ kept (xs.take k) L).length ≤ 1000 := by simp; omega
      have hml := mid_len xs L k
      have hsucc := kept_succ xs L hlt
      have HSC := hide hsucc
      have hxo : Hid ((xs[k]).ok wr) := hQ1.ok _ (by simp)
      have hxk : Hid (Kw.ok (xs[k]).key = true ∧ (xs[k]).secret.size ≤ maxLen) := HOK.out _ (List.getElem_mem hlt)
      have HS1 := hide hS1
      have HQ1 := hide hQ1
      have HB1 := hide hB1
      clear hS1 hQ1 hB1 hM hsucc hdrop
      generalize xs[k] = x at *
      generalize hlk : bfold ((xs.take k).map bx) L = Lk at *
      generalize hck : kept (xs.take k) L = ck at *
      have hlk' := hide hlk
      have hck' := hide hck
      clear hlk hck
      obtain ⟨xo, xn, xc, hxf⟩ := hxo.out.form
      obtain ⟨xk, xf, xs'⟩ := x
      simp only at hxf
      subst hxf
      go_wp2_with fail
      refine (take_any (unhide HQ1) hqb hql).mono ?_
      rintro e w1 ⟨v2, rfl, hQ2, hb2, hk2⟩
      unfold Item.val
      simp only
      have hs2 := hb2.size
      have hS2 : SetAt B w1 ab bm u1 Lk := (unhide HS1).keep hk2 noQ_set noQ_str (fun _ _ => trivial)
      have hx2 := hxo.out.keep hk2 noQ_mk hs2
      have hba : Below w1.heap.size w1 (w1.alloc (.cells #[.string xk, .slice xo xn xc, .string xs'] 117)) := (Below.refl _ _).alloc (Nat.le_refl _) _
      have H2 : Hid (SetAt B (w1.alloc (.cells #[.string xk, .slice xo xn xc, .string xs'] 117)) ab bm u1 Lk ∧ QAt B (w1.alloc (.cells #[.string xk, .slice xo xn xc, .string xs'] 117)) qb v2 (xs.drop (k + 1) ++ ck) ∧ Item.ok (w1.alloc (.cells #[.string xk, .slice xo xn xc, .string xs'] 117)) ⟨xk, .slice xo xn xc, xs'⟩ ∧ Below B w (w1.alloc (.cells #[.string xk, .slice xo xn xc, .string xs'] 117))) :=
        ⟨hS2.below hba, hQ2.below hba, hx2.below hba, ((unhide HB1).trans hb2).trans (hba.mono (by omega))⟩
      have HBA := hide hba
      have hBw1 : B ≤ w1.heap.size := by omega
      clear hS2 hx2 hba hQ2 hb2 hk2 HS1 HQ1 hxo HB1
      go_wp2_with fail
      refine (set_has_any xs' H2.out.1 hxk.out.2).mono ?_
      cases hh : has Lk xs' with
      | true =>
        rintro e w3 ⟨rfl, hb3⟩
        have hF : Hid (Mid B ab bm qb xs L w (k + 1) w3) := by
          refine ⟨u1, v2, ?_, ?_, H2.out.2.2.2.trans (hb3.mono (by simp; omega)), by have := hb3.size; simp at this; omega⟩
          · rw [HSC.out.2, bstep_has (b := bx ⟨xk, .slice xo xn xc, xs'⟩) hh]; exact H2.out.1.below hb3
          · rw [HSC.out.1]
            simp only [kept, hh, if_true, List.append_nil]
            exact H2.out.2.1.below hb3
        have hbk : Hid ((bfold ((xs.take (k + 1)).map bx) L) = Lk) := by show _ = _; rw [HSC.out.2, bstep_has (b := bx ⟨xk, .slice xo xn xc, xs'⟩) hh]
        clear hb3 hh H2
        go_wp2_with fail
        go_roundw
        case rel => exact ⟨k + 1, by omega, by simp, by rw [hbk.out], hF⟩
        case measure => simp [intOf]; omega
      | false =>
        rintro e w3 ⟨rfl, hb3⟩
        have d0 := keep1 (b := w1.heap.size) (o := 0) (v := .string xk) hb3 (by simp [go_sem]) (by simp)
        have d1 := keep1 (b := w1.heap.size) (o := 1) (v := .slice xo xn xc) hb3 (by simp [go_sem]) (by simp)
        have d2 := keep1 (b := w1.heap.size) (o := 2) (v := .string xs') hb3 (by simp [go_sem]) (by simp)
        have hle3 : w1.heap.size + 1 ≤ w3.heap.size := by have := hb3.size; simp at this; omega
        have H3 : Hid (SetAt B w3 ab bm u1 Lk ∧ QAt B w3 qb v2 (xs.drop (k + 1) ++ ck) ∧ Item.ok w3 ⟨xk, .slice xo xn xc, xs'⟩ ∧ Below B w w3) :=
          ⟨H2.out.1.below hb3, H2.out.2.1.below hb3, H2.out.2.2.1.below hb3, H2.out.2.2.2.trans (hb3.mono (by simp; omega))⟩
        have HH := hide hh
        clear hb3 hh H2 HBA
        go_wp2_with fail
        obtain ⟨lo, hi, hmt, hhi⟩ := H3.out.2.2.1
        refine (canBeFrom_any xk.size xk (Nat.le_refl _) hxk.out.1 _ lo hi _ H3.out.1 hmt hhi).mono ?_
        clear hmt hhi
        cases hc : can Lk xk with
        | true =>
          rintro e w4 ⟨rfl, hb4⟩
          have d2' := keep1 (b := w1.heap.size) (o := 2) (v := .string xs') hb4 d2 (by omega)
          have hle4 := hb4.size
          have H4 : Hid (SetAt B w4 ab bm u1 Lk ∧ QAt B w4 qb v2 (xs.drop (k + 1) ++ ck) ∧ Below B w w4) :=
            ⟨H3.out.1.below hb4, H3.out.2.1.below hb4, H3.out.2.2.2.trans (hb4.mono (by omega))⟩
          have HC := hide hc
          clear hb4 hc H3 d0 d1 d2
          go_wp2_with fail
          refine (set_add_any xs' H4.out.1 hab hxk.out.2 (by omega)).mono ?_
          rw [plus_new HH.out]
          rintro e w5 ⟨u5, rfl, r1, r2, r3⟩
          have hle5 := r2.size
          have hbs : Hid (bfold ((xs.take (k + 1)).map bx) L = Lk ++ [xs']) := by show _ = _; rw [HSC.out.2, bstep_can (b := bx ⟨xk, .slice xo xn xc, xs'⟩) HH.out HC.out]; rfl
          have hF : Hid (Mid B ab bm qb xs L w (k + 1) w5) := by
            refine ⟨u5, v2, by rw [hbs.out]; exact r1, ?_, H4.out.2.2.trans r2, by omega⟩
            rw [HSC.out.1]
            simp only [kept, HH.out, HC.out, if_true]
            simp
            exact H4.out.2.1.keep r3 noSet_mk noSet_q noSet_sb hle5
          have hfl : Hid (true = decide (L.length < (bfold ((xs.take (k + 1)).map bx) L).length)) := by
            show _ = _
            rw [hbs.out]
            have hle : L.length ≤ Lk.length := by rw [← hlk'.out]; exact bfold_len _ _
            simp
            omega
          clear r1 r2 r3 H4
          go_wp2_with fail
          go_roundw
          case rel => exact ⟨k + 1, by omega, by simp, by rw [← hfl.out], hF⟩
          case measure => simp [intOf]; omega
        | false =>
          rintro e w4 ⟨rfl, hb4⟩
          have d0' := keep1 (b := w1.heap.size) (o := 0) (v := .string xk) hb4 d0 (by omega)
          have d1' := keep1 (b := w1.heap.size) (o := 1) (v := .slice xo xn xc) hb4 d1 (by omega)
          have d2' := keep1 (b := w1.heap.size) (o := 2) (v := .string xs') hb4 d2 (by omega)
          have hle4 := hb4.size
          have H4 : Hid (SetAt B w4 ab bm u1 Lk ∧ QAt B w4 qb v2 (xs.drop (k + 1) ++ ck) ∧ Item.ok w4 ⟨xk, .slice xo xn xc, xs'⟩ ∧ Below B w w4) :=
            ⟨H3.out.1.below hb4, H3.out.2.1.below hb4, H3.out.2.2.1.below hb4, H3.out.2.2.2.trans (hb4.mono (by omega))⟩
          have HC := hide hc
          clear hb4 hc H3 d0 d1 d2
          go_wp2_with fail
          refine (put_any ⟨xk, .slice xo xn xc, xs'⟩ H4.out.2.1 hqb H4.out.2.2.1 hql).mono ?_
          rintro e w5 ⟨v5, rfl, r1, r2, r3⟩
          have hle5 := r2.size
          have hbs : Hid (bfold ((xs.take (k + 1)).map bx) L = Lk) := by show _ = _; rw [HSC.out.2, bstep_not (b := bx ⟨xk, .slice xo xn xc, xs'⟩) HC.out]
          have hF : Hid (Mid B ab bm qb xs L w (k + 1) w5) := by
            refine ⟨u1, v5, by rw [hbs.out]; exact H4.out.1.keep r3 noQ_set noQ_str (fun _ _ => trivial), ?_, H4.out.2.2.2.trans r2, by omega⟩
            rw [HSC.out.1]
            simp only [kept, HH.out, HC.out]
            simpa using r1
          clear r1 r2 r3 H4
          go_wp2_with fail
          go_roundw
          case rel => exact ⟨k + 1, by omega, by simp, by rw [hbs.out], hF⟩
          case measure => simp [intOf]; omega
    · have hlt2 : decide ((k : Int) < (xs.length : Int)) = false := by simp; omega
      have hkn : k = xs.length := by omega
      subst hkn
      obtain ⟨u1, v1, hS1, hQ1, hB1, hBr⟩ := hM.out
      rw [List.take_length] at hS1 hQ1 ⊢
      rw [List.drop_length, List.nil_append] at hQ1
      have HS1 := hide hS1
      have HQ1 := hide hQ1
      have HB1 := hide hB1
      clear hS1 hQ1 hB1 hM
      go_wp2_with fail
      go_ret
      exact ⟨u1, v1, rfl, unhide HS1, unhide HQ1, unhide HB1⟩
#print axioms openRound_any
end Go.Proofs.Ytjdpabiodalfkaa
