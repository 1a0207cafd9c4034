/-
 TreIn of both sides.
-/
import Derived.Test.YtabpaaahobakpaaGreatFnGrpNewB2
import Derived.Test.YtabpaaahobakpaaGreatFnGrpNewB4
import Derived.Test.YtabpaaahobakpaaGreatFnGrpNewB5
import Derived.Test.YtabpaaahobakpaaGreatFnGrpNewB1
import Derived.Test.YtabpaaahobakpaaGreatFnGrpNewB6
import Derived.Test.YtabpaaahobakpaaGreatFnGrpNewB7
import Derived.Test.YtabpaaahobakpaaGreatFnGrpNewB3
import Derived.Test.YtabpaaahobakpaaGreatRows
import Derived.WalkKit
import Derived.Orders
import Derived.ArgAppend
namespace Go.Proofs.YtabpaaahobakpaaGreat
open Go.RowKit
/-- Who of the first k is in. -/
def inUp (xs : List ByteArray) (k : Nat) : List Int := ints ((List.range k).filter fun k => keyed xs (7 + k))
theorem inUp_yes {xs : List ByteArray} {k : Nat} (h : keyed xs (7 + k) = true) : inUp xs (k + 1) = inUp xs k ++ [(k : Int)] := by
 unfold inUp ints
 rw [List.range_succ, List.filter_append, List.map_append]
 simp [h]
theorem inUp_no {xs : List ByteArray} {k : Nat} (h : keyed xs (7 + k) = false) : inUp xs (k + 1) = inUp xs k := by
 unfold inUp ints
 rw [List.range_succ, List.filter_append, List.map_append]
 simp [h]
theorem inUp_len (xs : List ByteArray) (k : Nat) : (inUp xs k).length ≤ k := by
 unfold inUp ints
 rw [List.length_map]
 exact Nat.le_trans (List.length_filter_le _ _) (by simp)
/-- Who is in. -/
def inRes (xs : List ByteArray) : List Int := if treOk xs = true then inUp xs 8 else []
set_option maxRecDepth 100000 in
set_option maxHeartbeats 4000000 in
theorem iTreIn_any (v : Value) (xs : List ByteArray) (w : World) (h : SRow w v xs) (hx : ∀ x ∈ xs, x.size ≤ maxLen) :
 Calls Tryz.prog 12 #[.agg #[v]] w fun e w' => ∃ u, e = .returned u ∧ OwnI w.heap.size w' u (inRes xs) ∧ Below w.heap.size w w' := by
 obtain ⟨i0, hi, hz0, hz1, hz2⟩ := info_parts info_int2
 have hI := hide (And.intro hi (And.intro hz0 (And.intro hz1 hz2)))
 clear hi hz0 hz1 hz2
 obtain ⟨ao, cap, rfl, h1, h2, _⟩ := h.form
 have HX := hide hx
 have hR := hide h
 clear h hx
 go_enter Tryz.func12, Tryz.ntmps12
 go_wp2_with fail
 refine (iTreOk_any _ xs _ ((unhide hR).below ((Below.refl _ _).alloc (Nat.le_refl _) _)) (unhide HX)).mono ?_
 rintro e w1 ⟨rfl, hb1⟩
 have A1 := hide (box_below (Boxed.new w 39 (.slice ao xs.length cap)) hb1)
 have HB1 : Hid (Below w.heap.size w w1) := ((Below.refl _ _).alloc (Nat.le_refl _) _).trans (hb1.mono (by simp))
 have hs1 := hb1.size
 rw [World.size_alloc] at hs1
 have O1 : Hid (OwnI (w.heap.size + 1) w1 (.slice none 0 0) []) := World.ownsRow_nil _ _ _ _
 clear hb1
 cases hk : treOk xs with
 | false =>
  have HE : Hid (inRes xs = []) := by show _ = _; unfold inRes; rw [hk]; rfl
  clear hk
  go_wp2_with fail
  go_ret
  exact ⟨_, rfl, by rw [HE.out]; exact World.ownsRow_nil _ _ _ _, unhide HB1⟩
 | true =>
  have HE : Hid (inRes xs = inUp xs 8) := by show _ = _; unfold inRes; rw [hk]; rfl
  have HL : Hid (xs.length = 15) := (treOk_iff.1 hk).1
  clear hk
  go_wp2_with fail
  go_loopw [3, 8] (fun o i wr => ∃ k : Nat, k ≤ 8 ∧ i = .int .i64 (k : Int) ∧ Hid (OwnI (w.heap.size + 1) wr o (inUp xs k)) ∧ Hid (Boxed wr w.heap.size 39 (.slice ao xs.length cap)) ∧ Hid (Below w.heap.size w wr)) (fun _ i _ => 8 - (intOf i).toNat)
  case atStart => exact ⟨0, by omega, rfl, O1, A1, HB1⟩
  case round =>
   clear O1 A1 HB1 hs1
   obtain ⟨k, hk, rfl, hO, hA, hB⟩ := hrel
   have hle := hB.out.size
   have hlA := (unhide hA).lt
   by_cases hlt : k < 8
   · have hlt2 : (k : Int) < 8 := by omega
     have i3 : IntKind.i64.wrap ((k : Int) + 1) = (k : Int) + 1 := by simp [IntKind.wrap, IntKind.bits, IntKind.signed]; omega
     obtain ⟨ao', c1, q1, _, _, q2⟩ := (SRow.below (unhide hR) (unhide hB)).form
     simp only [Value.slice.injEq] at q1
     obtain ⟨rfl, _, rfl⟩ := q1
     obtain ⟨a, rfl, hck⟩ := q2 (7 + k) (by rw [HL.out]; omega)
     clear q2
     have hLf : Hid (leafOf (k : Int) = ((7 + k : Nat) : Int)) := by show _ = _; unfold leafOf; rw [if_pos (by omega)]; omega
     have hll := inUp_len xs k
     have HLL : Hid (xs.length = 15) := HL
     rw [HL.out] at hA h1 ⊢
     obtain ⟨n7, hn7⟩ : ∃ n : Nat, n = 7 + k := ⟨_, rfl⟩
     rw [← hn7] at hck hLf
     have j1 : (n7 : Int) < 15 := by omega
     have HK : Hid (keyed xs n7 = decide (xs.getD n7 ByteArray.empty ≠ ByteArray.empty)) := rfl
     have HY1 : Hid (keyed xs n7 = true → inUp xs (k + 1) = inUp xs k ++ [(k : Int)]) := by rw [hn7]; exact inUp_yes
     have HN1 : Hid (keyed xs n7 = false → inUp xs (k + 1) = inUp xs k) := by rw [hn7]; exact inUp_no
     clear hn7
     generalize xs.getD n7 ByteArray.empty = y at hck HK
     by_cases hy : y = ByteArray.empty
     · have hN := hide (HN1.out (by rw [HK.out]; simp [hy]))
       have hne : y.toList = [] := by rw [hy]; exact nil_text
       have hne2 : y.toList.isEmpty = true := by rw [hne]; rfl
       clear hy HY1 HN1 HK
       go_wp2_with fail
       refine r_i Later ?_
       refine r_q 0 ?_
       refine r_q 1 ?_ (h := by intro w' hw'; have hx := (box_below (w := wr.drew) (unhide hA) hw').cell; go_simp; all_goals rfl)
       refine r_q 2 ?_
       refine r_1 3 (fun K hK => ?_)
       go_simp
       refine (placeOf_any _ _).mono ?_
       rw [hLf.out]
       rintro e wq ⟨rfl, rfl⟩
       go_simp
       refine hK.out _ _ (laterPre.refl _) ?_
       clear hK
       try simp only [Act.put, List.setIfInBounds_toArray, List.set_cons_zero, List.set_cons_succ]
       refine r_q 4 ?_
       refine r_q 5 ?_ (h := by intro w' hw'; have hx := (Below.cell hw' (cell_lt (w := wr.drew) hck)).trans hck; go_simp; all_goals rfl)
       refine r_q 6 ?_
       refine r_e ?_
       go_wp2_with fail
       go_roundw
       case rel => exact ⟨k + 1, by omega, by simp, by rw [hN.out]; exact OwnI.below (unhide hO) (Below.refl _ _).drew, hA, (unhide hB).drew⟩
       case measure => simp [intOf]; omega
     · have hY := hide (HY1.out (by rw [HK.out]; simpa using hy))
       have hne : ¬ y.toList = [] := no_text hy
       have hne2 : y.toList.isEmpty = false := by simpa using hne
       clear hy HY1 HN1 HK
       go_wp2_with fail
       refine r_i Later ?_
       refine r_q 0 ?_
       refine r_q 1 ?_ (h := by intro w' hw'; have hx := (box_below (w := wr.drew) (unhide hA) hw').cell; go_simp; all_goals rfl)
       refine r_q 2 ?_
       refine r_1 3 (fun K hK => ?_)
       go_simp
       refine (placeOf_any _ _).mono ?_
       rw [hLf.out]
       rintro e wq ⟨rfl, rfl⟩
       go_simp
       refine hK.out _ _ (laterPre.refl _) ?_
       clear hK
       try simp only [Act.put, List.setIfInBounds_toArray, List.set_cons_zero, List.set_cons_succ]
       refine r_q 4 ?_
       refine r_q 5 ?_ (h := by intro w' hw'; have hx := (Below.cell hw' (cell_lt (w := wr.drew) hck)).trans hck; go_simp; all_goals rfl)
       refine r_q 6 ?_
       refine r_e ?_
       have hO2 := hide (OwnI.below (unhide hO) (Below.refl _ _).drew)
       go_wp2_with (at_builtin; refine wpList_append_own _ rfl _ _ 27 rfl (w.heap.size + 1) 3 i0 (.int .i64 0) 1 8 Tryz.underlying27 (unhide hI).1 (unhide hI).2.1 (unhide hI).2.2.1 (unhide hI).2.2.2 rfl (by decide) _ _ _ rfl ((unhide hO2).alloc _) ⟨wr.heap.size, 0, none⟩ 1 1 [.int .i64 (k : Int)] rfl rfl ?c1 ?c2 ?c3 ?c4 ?c5 ?_)
       case c1 =>
        intro j u hj
        match j, hj with
        | 0, hj => simp at hj; subst hj; simp [Addr.add]
       case c2 => intro u hu; simp at hu; subst hu; rfl
       case c3 => unfold maxLen; omega
       case c4 => omega
       case c5 => simp; omega
       intro v' w7 hown' hgrow _
       have R := OwnI.grow (unhide hO2) (Below.refl (w.heap.size + 1) wr.drew) (by show _ ≤ wr.heap.size; omega) hown' hgrow
       have R1 := hide R.1
       have hA7 : Hid (Boxed w7 w.heap.size 39 (.slice (some a) 15 cap)) := box_below0 (w := wr.drew) (unhide hA) R.2 (by omega)
       have R2 : Hid (Below w.heap.size w w7) := (unhide hB).drew.trans (R.2.mono (by omega))
       clear R hown' hgrow hO hO2 hA hB
       go_wp2_with fail
       go_roundw
       case rel => exact ⟨k + 1, by omega, by simp, by rw [hY.out]; exact unhide R1, hA7, R2⟩
       case measure => simp [intOf]; omega
   · have hlt2 : decide ((k : Int) < 8) = false := by simp; omega
     obtain rfl : k = 8 := by omega
     go_wp2_with fail
     go_ret
     exact ⟨_, rfl, by rw [HE.out]; exact row_lowB (unhide hO) (by omega), unhide hB⟩
end Go.Proofs.YtabpaaahobakpaaGreat
/-
  Who begins is ok, and alone: plain. No Go function in it.
-/
namespace Go.Proofs.YtabpaaahobakpaaGreat
open Go.RowKit Kw

theorem key_ne {s : ByteArray} (hs : Kw.ok s = true) (h : s.size < 300) : mkKey s ≠ ByteArray.empty := by
  intro q
  have h1 : (mkKey s).size = s.size + 1 := by
    unfold mkKey
    rw [if_pos hs]
    unfold cap
    have e : (keyT s).size = 1 + s.size := by unfold keyT; rw [ByteArray.size_append]; rfl
    rw [if_pos (by omega), e]
    omega
  rw [q] at h1
  have : ByteArray.empty.size = 0 := rfl
  omega
theorem four_keys {s : ByteArray} (hs : maySet s = true) : mkKey s ≠ ByteArray.empty ∧ mkKey (mkNext s) ≠ ByteArray.empty ∧ mkKey (mkNext (mkNext s)) ≠ ByteArray.empty ∧ mkKey (mkNext (mkNext (mkNext s))) ≠ ByteArray.empty := by
  unfold maySet at hs
  simp at hs
  obtain ⟨h0, h1⟩ := hs
  obtain ⟨a0, a1⟩ := next_ok h0 (by omega)
  obtain ⟨b0, b1⟩ := next_ok a0 (by omega)
  obtain ⟨c0, c1⟩ := next_ok b0 (by omega)
  exact ⟨key_ne h0 (by omega), key_ne a0 (by omega), key_ne b0 (by omega), key_ne c0 (by omega)⟩
theorem fst_owns (k : Nat) (hk : k < 8) (s : ByteArray) (hs : maySet s = true) : ownsOf (setKeys bare k s) (pathOf (chainOf (7 + (k : Int))) s) k = true := by
  obtain ⟨h0, h1, h2, h3⟩ := four_keys hs
  rcases (by omega : k = 0 ∨ k = 1 ∨ k = 2 ∨ k = 3 ∨ k = 4 ∨ k = 5 ∨ k = 6 ∨ k = 7) with rfl | rfl | rfl | rfl | rfl | rfl | rfl | rfl
  all_goals simp [ownsOf, fitsAt, keyedIn, setKeys, fill, ups, upF, bare, pathOf, chainOf, upOf, secAt, h0, h1, h2, h3]
theorem fst_in (k : Nat) (hk : k < 8) (s : ByteArray) (hs : maySet s = true) : inRes (setKeys bare k s) = [(k : Int)] := by
  have ht : treOk (setKeys bare k s) = true := treOk_set (by decide) hk hs
  obtain ⟨h0, h1, h2, h3⟩ := four_keys hs
  unfold inRes
  rw [if_pos ht]
  clear ht
  rcases (by omega : k = 0 ∨ k = 1 ∨ k = 2 ∨ k = 3 ∨ k = 4 ∨ k = 5 ∨ k = 6 ∨ k = 7) with rfl | rfl | rfl | rfl | rfl | rfl | rfl | rfl
  all_goals simp [inUp, ints, keyed, setKeys, fill, ups, upF, bare, List.range, List.range.loop, h0]
theorem fst_ok (k : Nat) (hk : k < 8) (s t : ByteArray) (hs : maySet s = true) (ht : Kw.ok t = true) : memOkI ⟨true, (k : Int), setKeys bare k s, pathOf (chainOf (7 + (k : Int))) s, 0, t, ⟨#[]⟩⟩ = true := by
  have h1 : treOk (setKeys bare k s) = true := treOk_set (by decide) hk hs
  have h2 := fst_owns k hk s hs
  unfold memOkI
  simp only [if_true]
  rw [h1, show ((k : Int)).toNat = k from rfl, h2, ht, decide_eq_true (show 0 ≤ (k : Int) ∧ (k : Int) ≤ 7 by omega)]
  rfl
end Go.Proofs.YtabpaaahobakpaaGreat
/-
  The program's GrpOk of one who is alone.
-/
namespace Go.Proofs.YtabpaaahobakpaaGreat
open Go.RowKit

/-- What a seat is asked for: of its own one, ok, and no text too great for any machine. -/
def SeatK (k : Nat) (m : Mem) : Prop := memOkI m = true ∧ (m.inn = true → m.who = (k : Int)) ∧ (∀ x ∈ m.keys, x.size ≤ maxLen) ∧ (∀ o ∈ m.own, o.2.size ≤ maxLen) ∧ m.init.size ≤ maxLen ∧ m.tag.size ≤ maxLen
set_option maxRecDepth 100000 in
set_option maxHeartbeats 4000000 in
theorem isSeatOf_any (k : Nat) (m : Mem) (h : SeatK k m) (a1 a2 : Option Addr) (l1 l2 c1 c2 : Nat) (w : World) (hK : SRow w (.slice a1 l1 c1) m.keys) (hO : MRow w (.slice a2 l2 c2) m.own) :
    Calls Tryz.prog 34 #[.int .i64 (k : Int), .agg (m.cells (.slice a1 l1 c1) (.slice a2 l2 c2))] w fun e w' => e = .returned (.bool true) ∧ Below w.heap.size w w' := by
  have HH := hide h
  have HK := hide hK
  have HO := hide hO
  clear hK hO
  obtain ⟨inn, who, keys, own, ep, init, tag⟩ := m
  have HB : Hid (Below w.heap.size w (w.alloc (.cells (memC inn who (.slice a1 l1 c1) (.slice a2 l2 c2) ep init tag) 42))) := (Below.refl _ _).alloc (Nat.le_refl _) _
  have A := hide (Blk.new w 42 (memC inn who (.slice a1 l1 c1) (.slice a2 l2 c2) ep init tag))
  have hw := h.2.1
  simp only at hw
  clear h
  have lw := load_mm (unhide A) rfl
  go_enter Tryz.func34, Tryz.ntmps34
  go_wp2_with (refine wpList_load_whole rfl 42 _ rfl ⟨w.heap.size, 0, none⟩ rfl _ lw ?_)
  refine (iMemOk_any ⟨inn, who, keys, own, ep, init, tag⟩ _ _ _ ((unhide HK).below HB.out) ((unhide HO).below HB.out) HH.out.2.2.1 HH.out.2.2.2.1 HH.out.2.2.2.2.1 HH.out.2.2.2.2.2).mono ?_
  rw [HH.out.1]
  rintro e wc ⟨rfl, hb⟩
  have A2 := hide ((unhide A).below hb)
  have HB2 := hide (HB.out.trans (hb.mono HB.out.size))
  have x0 := (unhide A2).cell 0
  have x1 := (unhide A2).cell 1
  simp only [List.getElem?_toArray, List.getElem?_cons_succ, List.getElem?_cons_zero] at x0 x1
  clear hb A HB lw HK HO HH
  cases inn with
  | false =>
    go_wp2_with fail
    go_ret
    exact ⟨rfl, unhide HB2⟩
  | true =>
    obtain rfl := hw rfl
    go_wp2_with fail
    go_ret
    exact ⟨rfl, unhide HB2⟩

set_option maxRecDepth 100000 in
set_option maxHeartbeats 8000000 in
theorem allSeats_any (v : Value) (ms : List Mem) (w : World) (hl : ms.length = 8) (h : SeatP w v ms) (hs : ∀ (k : Nat) (m : Mem), ms[k]? = some m → SeatK k m) :
    Calls Tryz.prog 33 #[v, .func (.func 34) #[] #[]] w fun e w' => e = .returned (.bool true) ∧ Below w.heap.size w w' := by
  obtain ⟨g, c, rfl, h1⟩ := h
  rw [hl]
  have H1 := hide h1
  have HS := hide hs
  have HL := hide hl
  clear h1 hs hl
  go_enter Tryz.func33, Tryz.ntmps33
  go_wp2_with fail
  go_loopw [5, 6, 12] (fun _ _ i wr => ∃ j : Nat, j ≤ 8 ∧ i = .int .i64 (j : Int) ∧ Hid (Below w.heap.size w wr)) (fun _ _ i _ => 8 - (intOf i).toNat)
  case atStart => exact ⟨0, by omega, rfl, Below.refl _ _⟩
  case round =>
    obtain ⟨j, hj, rfl, hL⟩ := hrel
    have hle := hL.out.size
    by_cases hlt : j < 8
    · have hlt2 : (j : Int) < 8 := by omega
      have i3 : IntKind.i64.wrap ((j : Int) + 1) = (j : Int) + 1 := by simp [IntKind.wrap, IntKind.bits, IntKind.signed]; omega
      obtain ⟨m, hm⟩ : ∃ m, ms[j]? = some m := ⟨_, List.getElem?_eq_getElem (by have := HL.out; omega)⟩
      have HK := hide (HS.out j m hm)
      obtain ⟨ks, os, q1, q2, q3⟩ := H1.out j m hm
      have hb := hL.out
      have C1 := hide (fun n u hu => (hb.cell (cell_lt (q1 n u hu))).trans (q1 n u hu))
      have C2 := hide (q2.below hb)
      have C3 := hide (q3.below hb)
      obtain ⟨b1, d1, rfl, _, _, _⟩ := q2.form
      obtain ⟨b2, d2, rfl, _, _, _⟩ := id q3
      clear q1 q2 q3 hb hm
      have x0 : wr.cell? ⟨g, j * 7, none⟩ = some (.bool m.inn) := C1.out 0 _ rfl
      have x1 : wr.cell? ⟨g, j * 7 + 1, none⟩ = some (.int .i64 m.who) := C1.out 1 _ rfl
      have x2 := C1.out 2 _ rfl
      have x3 := C1.out 3 _ rfl
      have x4 : wr.cell? ⟨g, j * 7 + 4, none⟩ = some (.int .i64 m.ep) := C1.out 4 _ rfl
      have x5 : wr.cell? ⟨g, j * 7 + 5, none⟩ = some (.string m.init) := C1.out 5 _ rfl
      have x6 : wr.cell? ⟨g, j * 7 + 6, none⟩ = some (.string m.tag) := C1.out 6 _ rfl
      clear C1
      have A := hide (Blk.new wr 42 (m.cells (.slice b1 m.keys.length d1) (.slice b2 m.own.length d2)))
      have lw := load_mm (unhide A) rfl
      go_wp2_with (refine wpList_load_whole rfl 42 _ rfl ⟨wr.heap.size, 0, none⟩ rfl _ lw ?_)
      refine (isSeatOf_any j m HK.out b1 b2 _ _ d1 d2 _ ((unhide C2).alloc _) (MRow.below (unhide C3) ((Below.refl _ _).alloc (Nat.le_refl _) _))).mono ?_
      rintro e w2 ⟨rfl, hb⟩
      have L2 : Hid (Below w.heap.size w w2) := (hL.out.alloc hle _).trans (hb.mono (by rw [World.size_alloc]; omega))
      clear hb x0 x1 x2 x3 x4 x5 x6 A lw C2 C3
      go_wp2_with fail
      go_roundw
      case rel => exact ⟨j + 1, by omega, by simp, L2⟩
      case measure => simp [intOf]; omega
    · have hlt2 : decide ((j : Int) < 8) = false := by simp; omega
      have hjn : j = 8 := by omega
      subst hjn
      go_wp2_with fail
      go_ret
      exact ⟨rfl, unhide hL⟩

set_option maxHeartbeats 400000 in
theorem countS_any (k n : Int) (w : World) (h0 : 0 ≤ n) (h1 : n ≤ 99) : Calls Tryz.prog 36 #[.int .i64 k, .int .i64 n] w fun e w' => e = .returned (.bool true) ∧ w' = w := by
  go_enter Tryz.func36, Tryz.ntmps36
  go_wp2_with fail
  go_ret
  exact ⟨rfl, rfl⟩
set_option maxHeartbeats 400000 in
theorem countF_any (k n : Int) (w : World) (h0 : 0 ≤ n) (h1 : n ≤ 999) : Calls Tryz.prog 37 #[.int .i64 k, .int .i64 n] w fun e w' => e = .returned (.bool true) ∧ w' = w := by
  go_enter Tryz.func37, Tryz.ntmps37
  go_wp2_with fail
  go_ret
  exact ⟨rfl, rfl⟩
set_option maxRecDepth 100000 in
set_option maxHeartbeats 4000000 in
theorem allIntsS_any (v : Value) (xs : List Int) (w : World) (hl : xs.length = 8) (h : IRow w v xs) (hs : ∀ x ∈ xs, 0 ≤ x ∧ x ≤ 99) :
    Calls Tryz.prog 35 #[v, .func (.func 36) #[] #[]] w fun e w' => e = .returned (.bool true) ∧ w' = w := by
  have H := hide h
  obtain ⟨ao, cap, rfl, _, _, _⟩ := h.form
  rw [hl] at H ⊢
  have HS := hide hs
  have HL := hide hl
  clear h hs hl
  go_enter Tryz.func35, Tryz.ntmps35
  go_wp2_with fail
  go_loop [5, 6, 12] (fun _ _ i => ∃ j : Nat, j ≤ 8 ∧ i = .int .i64 (j : Int)) (fun _ _ i => 8 - (intOf i).toNat)
  case atStart => exact ⟨0, by omega, rfl⟩
  case round =>
    obtain ⟨j, hj, rfl⟩ := hrel
    by_cases hlt : j < 8
    · have hlt2 : (j : Int) < 8 := by omega
      have i3 : IntKind.i64.wrap ((j : Int) + 1) = (j : Int) + 1 := by simp [IntKind.wrap, IntKind.bits, IntKind.signed]; omega
      obtain ⟨ao', c1, q1, _, _, q2⟩ := (unhide H).form
      rw [HL.out] at q1 q2
      simp only [Value.slice.injEq] at q1
      obtain ⟨rfl, _, rfl⟩ := q1
      obtain ⟨ad, rfl, hck⟩ := q2 j hlt
      have hb := HS.out (xs.getD j 0) (getI_mem (by rw [HL.out]; exact hlt))
      generalize xs.getD j 0 = y at hck hb
      clear q2
      go_wp2_with fail
      refine (countS_any (j : Int) y _ hb.1 hb.2).mono ?_
      rintro e wz ⟨rfl, hz⟩
      replace hz := hz.symm
      subst hz
      go_wp2_with fail
      go_round
      case rel => exact ⟨j + 1, by omega, by simp⟩
      case measure => simp [intOf]; omega
    · have hlt2 : decide ((j : Int) < 8) = false := by simp; omega
      have hjn : j = 8 := by omega
      subst hjn
      go_wp2_with fail
      go_ret
      exact ⟨rfl, rfl⟩
set_option maxRecDepth 100000 in
set_option maxHeartbeats 4000000 in
theorem allIntsF_any (v : Value) (xs : List Int) (w : World) (hl : xs.length = 8) (h : IRow w v xs) (hs : ∀ x ∈ xs, 0 ≤ x ∧ x ≤ 999) :
    Calls Tryz.prog 35 #[v, .func (.func 37) #[] #[]] w fun e w' => e = .returned (.bool true) ∧ w' = w := by
  have H := hide h
  obtain ⟨ao, cap, rfl, _, _, _⟩ := h.form
  rw [hl] at H ⊢
  have HS := hide hs
  have HL := hide hl
  clear h hs hl
  go_enter Tryz.func35, Tryz.ntmps35
  go_wp2_with fail
  go_loop [5, 6, 12] (fun _ _ i => ∃ j : Nat, j ≤ 8 ∧ i = .int .i64 (j : Int)) (fun _ _ i => 8 - (intOf i).toNat)
  case atStart => exact ⟨0, by omega, rfl⟩
  case round =>
    obtain ⟨j, hj, rfl⟩ := hrel
    by_cases hlt : j < 8
    · have hlt2 : (j : Int) < 8 := by omega
      have i3 : IntKind.i64.wrap ((j : Int) + 1) = (j : Int) + 1 := by simp [IntKind.wrap, IntKind.bits, IntKind.signed]; omega
      obtain ⟨ao', c1, q1, _, _, q2⟩ := (unhide H).form
      rw [HL.out] at q1 q2
      simp only [Value.slice.injEq] at q1
      obtain ⟨rfl, _, rfl⟩ := q1
      obtain ⟨ad, rfl, hck⟩ := q2 j hlt
      have hb := HS.out (xs.getD j 0) (getI_mem (by rw [HL.out]; exact hlt))
      generalize xs.getD j 0 = y at hck hb
      clear q2
      go_wp2_with fail
      refine (countF_any (j : Int) y _ hb.1 hb.2).mono ?_
      rintro e wz ⟨rfl, hz⟩
      replace hz := hz.symm
      subst hz
      go_wp2_with fail
      go_round
      case rel => exact ⟨j + 1, by omega, by simp⟩
      case measure => simp [intOf]; omega
    · have hlt2 : decide ((j : Int) < 8) = false := by simp; omega
      have hjn : j = 8 := by omega
      subst hjn
      go_wp2_with fail
      go_ret
      exact ⟨rfl, rfl⟩
set_option maxRecDepth 100000 in
set_option maxHeartbeats 4000000 in
theorem setOfE (w : World) : Calls Tryz.prog 144 #[.slice none 0 0] w fun e w' => ∃ bm, e = .returned (.agg #[.map (some bm), .slice none 0 0]) ∧ Below w.heap.size w w' := by
  have hmm := @run_makeMap Tryz.prog
  go_enter Tryz.func144, Tryz.ntmps144
  go_wp2_with fail
  go_loop [10] (fun i => i = .int .i64 0) (fun _ => 0)
  case atStart => rfl
  case round =>
    subst hrel
    go_wp2_with fail
    refine bodyPost_ret (v := .agg #[.map (some (w.heap.size + 1)), .slice none 0 0]) (by simp [results, Tryz.results144, go_sem]) rfl ?_
    exact ⟨⟨_, rfl⟩, ((Below.refl _ _).alloc (Nat.le_refl _) _ |>.alloc (by simp) _).alloc (by simp; omega) _⟩
set_option maxRecDepth 100000 in
set_option maxHeartbeats 4000000 in
theorem winsOf_any (k : Int) (a : Option Addr) (c : Nat) (w : World) : Calls Tryz.prog 39 #[.int .i64 k, .slice a 0 c] w fun e w' => e = .returned (.bool true) ∧ Below w.heap.size w w' := by
  have key : ∀ u : World, Calls Tryz.prog 98 #[.slice a 0 c] u fun e w' => e = .returned (.bool true) ∧ Below u.heap.size u w' := by
    intro u
    go_enter Tryz.func98, Tryz.ntmps98
    go_wp2_with fail
    refine (setOfE _).mono ?_
    rintro e w1 ⟨bm, rfl, hb⟩
    have HB := hide hb
    clear hb
    go_wp2_with fail
    go_loop [9] (fun i => i = .int .i64 0) (fun _ => 0)
    case atStart => rfl
    case round =>
      subst hrel
      go_wp2_with fail
      go_ret
      exact ⟨rfl, HB.out.alloc HB.out.size _⟩
  go_enter Tryz.func39, Tryz.ntmps39
  go_wp2_with fail
  refine (key _).mono ?_
  rintro e w1 ⟨rfl, hb⟩
  have HB := hide hb
  clear hb
  go_wp2_with fail
  go_ret
  exact ⟨rfl, unhide HB⟩
set_option maxRecDepth 100000 in
set_option maxHeartbeats 4000000 in
theorem allWins_any (v : Value) (w : World) (h : WinE w v 8) :
    Calls Tryz.prog 38 #[v, .func (.func 39) #[] #[]] w fun e w' => e = .returned (.bool true) ∧ Below w.heap.size w w' := by
  obtain ⟨g, c, rfl, h1⟩ := h
  have H1 := hide h1
  clear h1
  go_enter Tryz.func38, Tryz.ntmps38
  go_wp2_with fail
  go_loopw [5, 6, 12] (fun _ _ i wr => ∃ j : Nat, j ≤ 8 ∧ i = .int .i64 (j : Int) ∧ Hid (Below w.heap.size w wr)) (fun _ _ i _ => 8 - (intOf i).toNat)
  case atStart => exact ⟨0, by omega, rfl, Below.refl _ _⟩
  case round =>
    obtain ⟨j, hj, rfl, hL⟩ := hrel
    have hle := hL.out.size
    by_cases hlt : j < 8
    · have hlt2 : (j : Int) < 8 := by omega
      have i3 : IntKind.i64.wrap ((j : Int) + 1) = (j : Int) + 1 := by simp [IntKind.wrap, IntKind.bits, IntKind.signed]; omega
      obtain ⟨a, d, q⟩ := H1.out j hlt
      have x0 := (hL.out.cell (cell_lt q)).trans q
      clear q
      go_wp2_with fail
      refine (winsOf_any (j : Int) a d _).mono ?_
      rintro e w2 ⟨rfl, hb⟩
      have L2 : Hid (Below w.heap.size w w2) := hL.out.trans (hb.mono hle)
      clear hb x0
      go_wp2_with fail
      go_roundw
      case rel => exact ⟨j + 1, by omega, by simp, L2⟩
      case measure => simp [intOf]; omega
    · have hlt2 : decide ((j : Int) < 8) = false := by simp; omega
      have hjn : j = 8 := by omega
      subst hjn
      go_wp2_with fail
      go_ret
      exact ⟨rfl, unhide hL⟩

set_option maxRecDepth 100000 in
set_option maxHeartbeats 8000000 in
theorem iGrpOk_new (v : Value) (ms : List Mem) (fr sd : List Int) (w : World) (hl : ms.length = 8) (hfl : fr.length = 8) (hdl : sd.length = 8) (h : NewP w v ms fr sd 8) (hs : ∀ (k : Nat) (m : Mem), ms[k]? = some m → SeatK k m) (hf : ∀ x ∈ fr, 0 ≤ x ∧ x ≤ 99) (hd : ∀ x ∈ sd, 0 ≤ x ∧ x ≤ 999) :
    Calls Tryz.prog 10 #[v] w fun e w' => e = .returned (.bool true) ∧ Below w.heap.size w w' := by
  obtain ⟨s0, s3, s7, s8, a1, a2, a4, a5, a6, a9, p1, p2, p4, p5, p6, p9, rfl, h0, h3, h7, h8⟩ := h
  have H0 := hide h0
  have H3 := hide h3
  have H7 := hide h7
  have H8 := hide h8
  have HS := hide hs
  have HF := hide hf
  have HD := hide hd
  clear h0 h3 h7 h8 hs hf hd
  have HB : Hid (Below w.heap.size w (w.alloc (.cells (wldC s0 (.slice a1 0 p1) (.slice a2 0 p2) s3 (.slice a4 0 p4) (.slice a5 0 p5) (.slice a6 0 p6) s7 s8 (.slice a9 0 p9)) 34))) := (Below.refl _ _).alloc (Nat.le_refl _) _
  have A := hide (Blk.new w 34 (wldC s0 (.slice a1 0 p1) (.slice a2 0 p2) s3 (.slice a4 0 p4) (.slice a5 0 p5) (.slice a6 0 p6) s7 s8 (.slice a9 0 p9)))
  go_enter Tryz.func10, Tryz.ntmps10
  go_wp2_with fail
  refine (allSeats_any _ ms _ hl ((unhide H0).below HB.out) HS.out).mono ?_
  rintro e wc ⟨rfl, hb⟩
  replace A := hide ((unhide A).below hb)
  replace HB := hide (HB.out.trans (hb.mono HB.out.size))
  clear hb
  have ca := (unhide A).cell 3
  simp only [List.getElem?_toArray, List.getElem?_cons_succ, List.getElem?_cons_zero] at ca
  go_wp2_with fail
  refine (allIntsS_any _ fr _ hfl ((unhide H3).below HB.out) HF.out).mono ?_
  rintro e wz ⟨rfl, hz⟩
  replace hz := hz.symm
  subst hz
  clear ca
  have ca := (unhide A).cell 7
  simp only [List.getElem?_toArray, List.getElem?_cons_succ, List.getElem?_cons_zero] at ca
  go_wp2_with fail
  refine (allIntsF_any _ sd _ hdl ((unhide H7).below HB.out) HD.out).mono ?_
  rintro e wz ⟨rfl, hz⟩
  replace hz := hz.symm
  subst hz
  clear ca
  have ca := (unhide A).cell 8
  simp only [List.getElem?_toArray, List.getElem?_cons_succ, List.getElem?_cons_zero] at ca
  go_wp2_with fail
  refine (allWins_any _ _ ((unhide H8).below HB.out)).mono ?_
  rintro e wc ⟨rfl, hb⟩
  replace A := hide ((unhide A).below hb)
  replace HB := hide (HB.out.trans (hb.mono HB.out.size))
  clear hb
  clear ca
  have ca := (unhide A).cell 1
  simp only [List.getElem?_toArray, List.getElem?_cons_succ, List.getElem?_cons_zero] at ca
  go_wp2_with fail
  refine (mostE_GrpWait 16 (by omega) _ _ _ _ _ _).mono ?_
  rintro e wc ⟨rfl, hb⟩
  replace A := hide ((unhide A).below hb)
  replace HB := hide (HB.out.trans (hb.mono HB.out.size))
  clear hb
  clear ca
  have ca := (unhide A).cell 2
  simp only [List.getElem?_toArray, List.getElem?_cons_succ, List.getElem?_cons_zero] at ca
  go_wp2_with fail
  refine (mostE_CmtCommit 16 (by omega) _ _ _ _ _ _).mono ?_
  rintro e wc ⟨rfl, hb⟩
  replace A := hide ((unhide A).below hb)
  replace HB := hide (HB.out.trans (hb.mono HB.out.size))
  clear hb
  clear ca
  have ca := (unhide A).cell 4
  simp only [List.getElem?_toArray, List.getElem?_cons_succ, List.getElem?_cons_zero] at ca
  go_wp2_with fail
  refine (mostE_string 72 (by omega) _ _ _ _ _ _).mono ?_
  rintro e wc ⟨rfl, hb⟩
  replace A := hide ((unhide A).below hb)
  replace HB := hide (HB.out.trans (hb.mono HB.out.size))
  clear hb
  clear ca
  have ca := (unhide A).cell 5
  simp only [List.getElem?_toArray, List.getElem?_cons_succ, List.getElem?_cons_zero] at ca
  go_wp2_with fail
  refine (mostE_GrpSteal 12 (by omega) _ _ _ _ _ _).mono ?_
  rintro e wc ⟨rfl, hb⟩
  replace A := hide ((unhide A).below hb)
  replace HB := hide (HB.out.trans (hb.mono HB.out.size))
  clear hb
  clear ca
  have ca := (unhide A).cell 6
  simp only [List.getElem?_toArray, List.getElem?_cons_succ, List.getElem?_cons_zero] at ca
  go_wp2_with fail
  refine (mostE_FraFrame 40 (by omega) _ _ _ _ _ _).mono ?_
  rintro e wc ⟨rfl, hb⟩
  replace A := hide ((unhide A).below hb)
  replace HB := hide (HB.out.trans (hb.mono HB.out.size))
  clear hb
  clear ca
  have ca := (unhide A).cell 9
  simp only [List.getElem?_toArray, List.getElem?_cons_succ, List.getElem?_cons_zero] at ca
  go_wp2_with fail
  refine (mostE_GrpTold 320 (by omega) _ _ _ _ _ _).mono ?_
  rintro e wc ⟨rfl, hb⟩
  replace A := hide ((unhide A).below hb)
  replace HB := hide (HB.out.trans (hb.mono HB.out.size))
  clear hb
  clear ca
  go_wp2_with fail
  go_ret
  exact ⟨rfl, unhide HB⟩
end Go.Proofs.YtabpaaahobakpaaGreat
/-
  Seats in a row, as plain words: their cells, and marks in them. No Go function in it.
-/
namespace Go.Proofs.YtabpaaahobakpaaGreat
open Go.RowKit

/-- A seat's cells: whether it is in, who, its rows, epoch, what the group has, commits. -/
abbrev Sx := Bool × Int × Value × Value × Int × ByteArray × ByteArray
def scell (x : Sx) : List Value := [.bool x.1, .int .i64 x.2.1, x.2.2.1, x.2.2.2.1, .int .i64 x.2.2.2.2.1, .string x.2.2.2.2.2.1, .string x.2.2.2.2.2.2]
theorem scell_len (x : Sx) : (scell x).length = 7 := rfl
def scells : List Sx → List Value
  | [] => []
  | x :: r => scell x ++ scells r
theorem scells_len : ∀ xs : List Sx, (scells xs).length = xs.length * 7
  | [] => rfl
  | x :: r => by rw [scells, List.length_append, scell_len, scells_len r, List.length_cons]; omega
theorem scells_at : ∀ (xs : List Sx) (j n : Nat) (x : Sx), xs[j]? = some x → n < 7 → (scells xs)[j * 7 + n]? = (scell x)[n]?
  | [], j, n, x, h, _ => by simp at h
  | y :: r, 0, n, x, h, hn => by
    simp at h
    subst h
    rw [scells, Nat.zero_mul, Nat.zero_add, List.getElem?_append_left (by rw [scell_len]; exact hn)]
  | y :: r, j + 1, n, x, h, hn => by
    rw [scells, List.getElem?_append_right (by rw [scell_len]; omega), scell_len, show (j + 1) * 7 + n - 7 = j * 7 + n by omega]
    exact scells_at r j n x (by simpa using h) hn
/-- One seat anew, cut out and laid in. -/
theorem scells_cut : ∀ (xs : List Sx) (j : Nat) (x : Sx), j < xs.length → (scells xs).take (j * 7) ++ scell x ++ (scells xs).drop (j * 7 + 7) = scells (xs.set j x)
  | [], j, x, h => absurd h (Nat.not_lt_zero _)
  | y :: r, 0, x, _ => by
    rw [scells, Nat.zero_mul, List.take_zero, List.nil_append, Nat.zero_add, List.drop_append_of_le_length (by rw [scell_len]; omega), List.drop_of_length_le (by rw [scell_len]; omega)]
    rfl
  | y :: r, j + 1, x, h => by
    have q := scells_cut r j x (by simpa using h)
    rw [scells, show (j + 1) * 7 = 7 + j * 7 by omega, show 7 + j * 7 + 7 = 7 + (j * 7 + 7) by omega, List.take_append, List.drop_append, scell_len, List.take_of_length_le (by rw [scell_len]; omega), List.drop_of_length_le (by rw [scell_len]; omega)]
    rw [show 7 + j * 7 - 7 = j * 7 by omega, show 7 + (j * 7 + 7) - 7 = j * 7 + 7 by omega, List.nil_append, List.append_assoc, List.append_assoc, ← List.append_assoc _ (scell x), q]
    rfl
/-- A number divides by three. -/
def b3 (z : Nat) : Bool := (z : Int) % 3 == 0
def sx0 : Sx := (false, 0, .slice none 0 0, .slice none 0 0, 0, ⟨#[]⟩, ⟨#[]⟩)
/-- All seats of one who is alone. -/
def sorig (who : Nat) (x : Sx) (j : Nat) : Sx := if j = who then x else sx0
/-- Which mark the seat j begins with, where the rows of who is in have q. -/
def kz (who q j : Nat) : Nat := 1 + 5 * j + if who < j then q else 0
def kq (who q j : Nat) : Nat := if j = who then q else 0
def smark (who q : Nat) (x : Sx) (j : Nat) : Sx :=
  (b3 (kz who q j), ((kz who q j + 1 : Nat) : Int), (sorig who x j).2.2.1, (sorig who x j).2.2.2.1, ((kz who q j + 2 + kq who q j : Nat) : Int), mt (kz who q j + 3 + kq who q j), mt (kz who q j + 4 + kq who q j))
/-- The first j seats marked. -/
def srow (who q : Nat) (x : Sx) (j : Nat) : List Sx := (List.range 8).map fun i => if i < j then smark who q x i else sorig who x i
theorem srow_at {who q : Nat} {x : Sx} {j i : Nat} (h : i < 8) : (srow who q x j)[i]? = some (if i < j then smark who q x i else sorig who x i) := by
  unfold srow
  rw [List.getElem?_map, List.getElem?_range h]
  rfl
end Go.Proofs.YtabpaaahobakpaaGreat
/-
 The specification's FraOk.
-/
namespace Go.Proofs.YtabpaaahobakpaaGreat
open Go.RowKit
end Go.Proofs.YtabpaaahobakpaaGreat
/-
  Contracts of MakSay and MakRoom, the program's and the specification's.
-/
namespace Go.Proofs.YtabpaaahobakpaaGreat
open Go.RowKit

end Go.Proofs.YtabpaaahobakpaaGreat
/-
 The specification's FraMake.
-/
namespace Go.Proofs.YtabpaaahobakpaaGreat
open Go.RowKit
def Fra.none : Fra := ⟨0, ⟨#[]⟩, 0, ⟨#[]⟩⟩
end Go.Proofs.YtabpaaahobakpaaGreat
/-
  What is said in a world, as plain words; reads of a world's rows.
-/
namespace Go.Proofs.YtabpaaahobakpaaGreat
open Go.RowKit

/-- The values that are a world's are slices. -/
theorem Rows.forms {X L : List Nat} {B : Nat} {w : World} {a b c d e f g h i j : Value} {W : Wld} (q : Rows X L B w (rowsOf a b c d e f g h i j W)) :
    (∃ z y, a = .slice z W.seats.length y) ∧ (∃ z y, b = .slice z W.waits.length y) ∧ (∃ z y, c = .slice z W.log.length y) ∧ (∃ z y, d = .slice z W.fresh.length y) ∧ (∃ z y, e = .slice z W.spy.length y) ∧ (∃ z y, f = .slice z W.stolen.length y) ∧ (∃ z y, g = .slice z W.frames.length y) ∧ (∃ z y, h = .slice z W.said.length y) ∧ (∃ z y, i = .slice z W.wins.length y) ∧ (∃ z y, j = .slice z W.told.length y) := by
  have key : ∀ (k : Nat) r, (rowsOf a b c d e f g h i j W)[k]? = some r → ∃ z y, r.v = .slice z r.n y := fun k r hr => by
    obtain ⟨cs, h1, _⟩ := q.own r (List.mem_of_getElem? hr)
    exact row_form' h1
  exact ⟨key 0 _ rfl, key 1 _ rfl, key 2 _ rfl, key 3 _ rfl, key 4 _ rfl, key 5 _ rfl, key 6 _ rfl, key 7 _ rfl, key 8 _ rfl, key 9 _ rfl⟩
theorem one_wld {a b c d e f g h i j : Value} {W : Wld} {X L : List Nat} {B : Nat} {w : World} (q : Rows X L B w (rowsOf a b c d e f g h i j W)) : (wldC a b c d e f g h i j).all (·.oneCell') = true := by
  obtain ⟨⟨_, _, rfl⟩, ⟨_, _, rfl⟩, ⟨_, _, rfl⟩, ⟨_, _, rfl⟩, ⟨_, _, rfl⟩, ⟨_, _, rfl⟩, ⟨_, _, rfl⟩, ⟨_, _, rfl⟩, ⟨_, _, rfl⟩, ⟨_, _, rfl⟩⟩ := q.forms
  simp [Value.oneCell']
abbrev noWld : Array Value := wldC (.slice Option.none 0 0) (.slice Option.none 0 0) (.slice Option.none 0 0) (.slice Option.none 0 0) (.slice Option.none 0 0) (.slice Option.none 0 0) (.slice Option.none 0 0) (.slice Option.none 0 0) (.slice Option.none 0 0) (.slice Option.none 0 0)
end Go.Proofs.YtabpaaahobakpaaGreat
/-
  Seats and commits of a world: read, and seats written.
-/
namespace Go.Proofs.YtabpaaahobakpaaGreat
open Go.RowKit

/-- These values, from a place on, in others' stead. -/
def setMany : List Value → Nat → List Value → List Value
  | xs, _, [] => xs
  | xs, o, v :: r => setMany (xs.set o v) (o + 1) r
theorem setMany_eq : ∀ (d xs : List Value) (o : Nat), o + d.length ≤ xs.length → setMany xs o d = xs.take o ++ d ++ xs.drop (o + d.length)
  | [], xs, o, _ => by simp [setMany]
  | v :: r, xs, o, h => by
    rw [List.length_cons] at h
    rw [setMany, setMany_eq r (xs.set o v) (o + 1) (by rw [List.length_set]; omega), List.length_cons]
    rw [List.drop_set_of_lt (by omega), List.take_succ_eq_append_getElem (by rw [List.length_set]; omega), List.getElem_set_self, List.take_set_of_le (Nat.le_refl _), show o + 1 + r.length = o + (r.length + 1) by omega]
    simp
theorem row_setMany {B : Nat} {e : TypeId} {size g n c : Nat} : ∀ (d : List Value) (o : Nat) {w : World} {xs : List Value}, w.ownsRow B e size (.slice (some ⟨g, 0, Option.none⟩) n c) n xs → (w.setCells g o d).ownsRow B e size (.slice (some ⟨g, 0, Option.none⟩) n c) n (setMany xs o d)
  | [], _, _, _, h => h
  | v :: r, o, _, _, h => row_setMany r (o + 1) (h.stored o v).1
theorem row_there {B : Nat} {e : TypeId} {size g n c : Nat} {w : World} {xs : List Value} (h : w.ownsRow B e size (.slice (some ⟨g, 0, Option.none⟩) n c) n xs) (o m : Nat) (hm : o + m ≤ n * size) : w.there g o m := fun j hj => by
  refine ⟨?_, h.frozenAt (o + j)⟩
  rw [h.cellAt (o + j) (by omega), List.getElem?_eq_getElem (by rw [h.1]; omega)]
  rfl
end Go.Proofs.YtabpaaahobakpaaGreat
/-
  A world in which one hears a commit, as plain words.
-/
namespace Go.Proofs.YtabpaaahobakpaaGreat
open Go.RowKit

theorem rowR_of {w : World} {B n : Nat} {v : Value} {bs : List Mo} (h : w.ownsRow B 134 2 v n (mcells bs)) (hl : bs.length = n) : RowR w v bs.length (mcells bs) := by subst hl; exact RowR.own h
end Go.Proofs.YtabpaaahobakpaaGreat
/-
  The specification's MemKnows.
-/
namespace Go.Proofs.YtabpaaahobakpaaGreat
open Go.RowKit

end Go.Proofs.YtabpaaahobakpaaGreat
/-
  A world in which something is stolen of one, as plain words.
-/
namespace Go.Proofs.YtabpaaahobakpaaGreat
open Go.RowKit

end Go.Proofs.YtabpaaahobakpaaGreat
/-
  More of a world's rows: how many secrets each has made, who waits, frames.
-/
namespace Go.Proofs.YtabpaaahobakpaaGreat
open Go.RowKit

end Go.Proofs.YtabpaaahobakpaaGreat
/-
 The specification's l4Commit.
-/
namespace Go.Proofs.YtabpaaahobakpaaGreat
open Go.RowKit
end Go.Proofs.YtabpaaahobakpaaGreat
/-
 The specification's MemCommit.
-/
namespace Go.Proofs.YtabpaaahobakpaaGreat
open Go.RowKit
end Go.Proofs.YtabpaaahobakpaaGreat
/-
  A world in which one goes on, as plain words.
-/
namespace Go.Proofs.YtabpaaahobakpaaGreat
open Go.RowKit

theorem mkNew_max (a b : Int) : (mkNew a b).size ≤ maxLen := by
  unfold mkNew maxLen
  split
  · rcases newName_sizes a.toNat b.toNat with h | h <;> omega
  · show 0 ≤ _; omega
end Go.Proofs.YtabpaaahobakpaaGreat
/-
  Rows of windows, made anew.
-/
namespace Go.Proofs.YtabpaaahobakpaaGreat
open Go.RowKit

/-- A window's cells, its numbers the call's own. -/
def winF (B : Nat) (w : World) (x : Win) (c : List Value) : Prop := ∃ s, c = (x.cells s).toList ∧ OwnI B w s x.seen
/-- Windows of the call's own. -/
def OutW (B : Nat) (w : World) (v : Value) (l : List Win) : Prop := ∃ cs, w.ownsRow B 137 3 v l.length cs ∧ ListR (winF B w) l cs
/-- Windows, as they are read. -/
def InW (w : World) (v : Value) (l : List Win) : Prop := ∃ cs, RowR w v l.length cs ∧ ListR (winR [] w) l cs
theorem winF.below {B : Nat} {w w' : World} (hb : Below w.heap.size w w') (x : Win) (c : List Value) (h : winF B w x c) : winF B w' x c := by
  obtain ⟨s, e, h1⟩ := h
  exact ⟨s, e, own_below' h1 hb⟩
theorem OutW.below {B : Nat} {w w' : World} {v : Value} {l : List Win} (h : OutW B w v l) (hb : Below w.heap.size w w') : OutW B w' v l := by
  obtain ⟨cs, h1, h2⟩ := h
  exact ⟨cs, own_below' h1 hb, h2.mono (winF.below hb)⟩
theorem InW.below {w w' : World} {v : Value} {l : List Win} (h : InW w v l) (hb : Below w.heap.size w w') : InW w' v l := by
  obtain ⟨cs, h1, h2⟩ := h
  exact ⟨cs, h1.below hb, h2.mono (winR.keep (KeepX.below hb) (MoreX.refl _ _))⟩
theorem OutW.form {B : Nat} {w : World} {v : Value} {l : List Win} (h : OutW B w v l) : ∃ a c, v = .slice a l.length c := by
  obtain ⟨cs, h1, _⟩ := h
  exact row_form' h1
/-- One of them, read. -/
theorem InW.at {w : World} {v : Value} {l : List Win} (h : InW w v l) (i : Nat) (hi : i < l.length) : ∃ ad c s, v = .slice (some ad) l.length c ∧ w.cell? (ad.add (i * 3)) = some (.string l[i].key) ∧ w.cell? ⟨(ad.add (i * 3)).block, (ad.add (i * 3)).off + 1, Option.none⟩ = some (.int .i64 l[i].top) ∧ w.cell? ⟨(ad.add (i * 3)).block, (ad.add (i * 3)).off + 2, Option.none⟩ = some s ∧ IRow w s l[i].seen := by
  obtain ⟨cs, h1, h2⟩ := h
  rcases h1 with ⟨_, h3, _⟩ | ⟨ad, c, rfl, _, _, h5⟩
  · omega
  obtain ⟨d, ⟨s, rfl, h6, _⟩, h7⟩ := ListR.get winR.len i hi h2
  refine ⟨ad, c, s, rfl, h5 _ _ (h7 0 _ rfl), ?_, ?_, h6⟩
  · have q := h5 _ _ (h7 1 _ rfl)
    rw [Addr.add_succ' ad (i * 3)] at q
    rw [addr_block, add_off, Nat.add_assoc]
    exact q
  · have q := h5 _ _ (h7 2 _ rfl)
    rw [Addr.add_succ' ad (i * 3 + 1)] at q
    rw [addr_block, add_off, Nat.add_assoc]
    exact q
end Go.Proofs.YtabpaaahobakpaaGreat
/-
 The specification's l6Take.
-/
namespace Go.Proofs.YtabpaaahobakpaaGreat
open Go.RowKit
end Go.Proofs.YtabpaaahobakpaaGreat
/-
 The specification's l6Hears.
-/
namespace Go.Proofs.YtabpaaahobakpaaGreat
open Go.RowKit
end Go.Proofs.YtabpaaahobakpaaGreat
/-
  Windows behind a frame, as plain words; rows of windows with their numbers' slices.
-/
namespace Go.Proofs.YtabpaaahobakpaaGreat
open Go.RowKit

/-- Windows, as they are read, none of it in some blocks. -/
def WinsX (X : List Nat) (w : World) (v : Value) (l : List Win) : Prop := InX X w v ∧ ∃ cs, RowR w v l.length cs ∧ ListR (winR X w) l cs
theorem WinsX.below {X : List Nat} {w w' : World} {v : Value} {l : List Win} (h : WinsX X w v l) (hb : Below w.heap.size w w') : WinsX X w' v l := by
  obtain ⟨h0, cs, h1, h2⟩ := h
  exact ⟨h0.keep (KeepX.below hb) (MoreX.refl _ _), cs, h1.below hb, h2.mono (winR.keep (KeepX.below hb) (MoreX.refl _ _))⟩
theorem WinsX.form {X : List Nat} {w : World} {v : Value} {l : List Win} (h : WinsX X w v l) : ∃ a c, v = .slice a l.length c := by
  obtain ⟨_, cs, h1, _⟩ := h
  exact h1.form
/-- The windows and their numbers' slices. -/
theorem ListR.wins {X : List Nat} {w : World} : ∀ {l : List Win} {cs : List Value}, ListR (winR X w) l cs → ∃ ws : List (Win × Value), ws.map Prod.fst = l ∧ (∀ p ∈ ws, IRow w p.2 p.1.seen ∧ InX X w p.2) ∧ cs = ws.flatMap (fun p => (p.1.cells p.2).toList)
  | [], cs, h => ⟨[], rfl, by simp, by rw [show cs = [] from h]; rfl⟩
  | x :: l, cs, ⟨c, cs', e, ⟨s, e2, h1, h2⟩, h3⟩ => by
    obtain ⟨ws, p1, p2, p3⟩ := ListR.wins h3
    refine ⟨(x, s) :: ws, by simp [p1], fun p hp => ?_, by rw [e, e2, p3]; simp⟩
    rcases List.mem_cons.1 hp with rfl | hp
    · exact ⟨h1, h2⟩
    · exact p2 p hp
/-- One of them, read. -/
theorem WinsX.at {X : List Nat} {w : World} {v : Value} {l : List Win} (h : WinsX X w v l) (i : Nat) (hi : i < l.length) : ∃ ad c s, v = .slice (some ad) l.length c ∧ w.cell? (ad.add (i * 3)) = some (.string l[i].key) ∧ w.cell? ⟨(ad.add (i * 3)).block, (ad.add (i * 3)).off + 1, Option.none⟩ = some (.int .i64 l[i].top) ∧ w.cell? ⟨(ad.add (i * 3)).block, (ad.add (i * 3)).off + 2, Option.none⟩ = some s ∧ IRow w s l[i].seen ∧ InX X w s := by
  obtain ⟨_, cs, h1, h2⟩ := h
  rcases h1 with ⟨_, h3, _⟩ | ⟨ad, c, rfl, _, _, h5⟩
  · omega
  obtain ⟨d, ⟨s, rfl, h6, h8⟩, h7⟩ := ListR.get winR.len i hi h2
  refine ⟨ad, c, s, rfl, h5 _ _ (h7 0 _ rfl), ?_, ?_, h6, h8⟩
  · have q := h5 _ _ (h7 1 _ rfl)
    rw [Addr.add_succ' ad (i * 3)] at q
    rw [addr_block, add_off, Nat.add_assoc]
    exact q
  · have q := h5 _ _ (h7 2 _ rfl)
    rw [Addr.add_succ' ad (i * 3 + 1)] at q
    rw [addr_block, add_off, Nat.add_assoc]
    exact q
end Go.Proofs.YtabpaaahobakpaaGreat
/-
  A world in which one hears a frame, as plain words.
-/
namespace Go.Proofs.YtabpaaahobakpaaGreat
open Go.RowKit

end Go.Proofs.YtabpaaahobakpaaGreat
/-
  A region that draws its order: if each operation that may come up keeps an invariant, the region leaves it, whatever order is drawn.
-/
namespace Go.Proofs.YtabpaaahobakpaaGreat

end Go.Proofs.YtabpaaahobakpaaGreat
/-
  A region that draws its order and whose last operation waits for all others: those ahead of it keep an invariant, whatever order is drawn, and the last one ends it.
-/
namespace Go.Proofs.YtabpaaahobakpaaGreat

end Go.Proofs.YtabpaaahobakpaaGreat
/-
  A region that draws its order, whose operations make memory but write none that was there, but for the last one, which waits for all: whatever order is drawn, what each yields is told by a relation that every later world keeps; behind it the slots are laid open.
-/
namespace Go.Proofs.YtabpaaahobakpaaGreat
open Go.RowKit

end Go.Proofs.YtabpaaahobakpaaGreat
/-
  A region that draws its order, whose operations make memory but write none that was there, but for the last one: two of its new rows lie apart.
-/
namespace Go.Proofs.YtabpaaahobakpaaGreat
open Go.RowKit

end Go.Proofs.YtabpaaahobakpaaGreat
/-
 The specification's l7Cmt: a commit in new memory.
-/
namespace Go.Proofs.YtabpaaahobakpaaGreat
open Go.RowKit
end Go.Proofs.YtabpaaahobakpaaGreat
/-
 The specification's l6Wins: windows in new memory.
-/
namespace Go.Proofs.YtabpaaahobakpaaGreat
open Go.RowKit
end Go.Proofs.YtabpaaahobakpaaGreat
/-
  Worlds in new memory: rows that grow, and what is asked of sizes.
-/
namespace Go.Proofs.YtabpaaahobakpaaGreat
open Go.RowKit

/-- One seat more. -/
theorem Rows.appSeats {X L : List Nat} {B : Nat} {w : World} {a b c d e f g h i j : Value} {W : Wld} (q : Rows X L B w (rowsOf a b c d e f g h i j W)) :
    ∃ cs, w.ownsRow B 42 7 a W.seats.length cs ∧ ∀ (x : Mem) (ks os v : Value) (w' : World), SRow w ks x.keys → RowR w os x.own.length (mcells x.own) → InX X w ks → InX X w os →
      w'.ownsRow B 42 7 v (W.seats.length + 1) (cs ++ (x.cells ks os).toList) → w.grownBy w' a.ownBlock → (v.ownBlock = a.ownBlock ∨ v.ownBlock = some w.heap.size) →
      ∃ X', Rows X' L B w' (rowsOf v b c d e f g h i j { W with seats := W.seats ++ [x] }) ∧ MoreX X X' w := by
  obtain ⟨cs, h1, h2⟩ := q.own _ (List.mem_of_getElem? (i := 0) rfl)
  refine ⟨cs, h1, fun x ks os v w' p1 p2 p3 p4 ho hg hat => ?_⟩
  have hkx : KeepX X w w' := KeepX.grown hg (fun z hz => q.inx _ (List.mem_of_getElem? (i := 0) rfl) z hz)
  exact q.upd 0 (Nat.le_of_ble_eq_true rfl) ⟨42, 7, v, (W.seats ++ [x]).length, fun X w => ListR (seatR X w) (W.seats ++ [x])⟩ hg (by show World.ownsRow _ _ _ _ _ (W.seats ++ [x]).length _; rw [List.length_append]; exact ho) (stays_seat _) hat
    (fun X' hm => ListR.app (ListR.mono (seatR.keep hkx hm) h2) (ListR.one ⟨ks, os, rfl, p1.keepX p3 hkx, p2.keepX p4 hkx, p3.keep hkx hm, p4.keep hkx hm⟩))
/-- One's windows more. -/
theorem Rows.appWins {X L : List Nat} {B : Nat} {w : World} {a b c d e f g h i j : Value} {W : Wld} (q : Rows X L B w (rowsOf a b c d e f g h i j W)) :
    ∃ cs, w.ownsRow B 58 1 i W.wins.length cs ∧ ∀ (l : List Win) (y v : Value) (w' : World), WinsX X w y l →
      w'.ownsRow B 58 1 v (W.wins.length + 1) (cs ++ [y]) → w.grownBy w' i.ownBlock → (v.ownBlock = i.ownBlock ∨ v.ownBlock = some w.heap.size) →
      ∃ X', Rows X' L B w' (rowsOf a b c d e f g h v j { W with wins := W.wins ++ [l] }) ∧ MoreX X X' w := by
  obtain ⟨cs, h1, h2⟩ := q.own _ (List.mem_of_getElem? (i := 8) rfl)
  refine ⟨cs, h1, fun l y v w' p1 ho hg hat => ?_⟩
  obtain ⟨p2, ds, p3, p4⟩ := p1
  have hkx : KeepX X w w' := KeepX.grown hg (fun z hz => q.inx _ (List.mem_of_getElem? (i := 8) rfl) z hz)
  exact q.upd 8 (Nat.le_of_ble_eq_true rfl) ⟨58, 1, v, (W.wins ++ [l]).length, fun X w => ListR (winsR X w) (W.wins ++ [l])⟩ hg (by show World.ownsRow _ _ _ _ _ (W.wins ++ [l]).length _; rw [List.length_append]; exact ho) (stays_wins _) hat
    (fun X' hm => ListR.app (ListR.mono (winsR.keep hkx hm) h2) (ListR.one ⟨y, ds, rfl, p3.keepX p2 hkx, p4.mono (winR.keep hkx hm), p2.keep hkx hm⟩))
theorem rowT_mm : RowT Tryz.prog 24 42 7 104 := rowT_of (show Tryz.prog.underlying 24 = some (.slice 42) by kernel_rfl) (show (Tryz.prog.info? 42).map (fun i => (i.zero, i.size, i.bytes)) = some (some (.agg noMem), 7, 104) by kernel_rfl) rfl (by decide)
theorem rowT_ww : RowT Tryz.prog 31 58 1 24 := rowT_of (show Tryz.prog.underlying 31 = some (.slice 58) by kernel_rfl) (show (Tryz.prog.info? 58).map (fun i => (i.zero, i.size, i.bytes)) = some (some (.slice Option.none 0 0), 1, 24) by kernel_rfl) rfl (by decide)
theorem Rows.flat {B : Nat} {w : World} {rs : List RowD} {L : List Nat} (hst : ∀ r ∈ rs, Stays r.P) (hown : ∀ r ∈ rs, ∃ cs, w.ownsRow B r.e r.size r.v r.n cs ∧ ∀ X, r.P X w cs) (hap : rs.Pairwise fun r r' => r.v.ownBlock = Option.none ∨ r.v.ownBlock ≠ r'.v.ownBlock) (hL : ∀ b ∈ L, b < w.heap.size ∧ ∀ r ∈ rs, r.v.ownBlock ≠ some b) : Rows (L ++ rs.filterMap fun r => r.v.ownBlock) L B w rs :=
  ⟨fun b hb => ⟨List.mem_append_left _ hb, (hL b hb).2⟩, fun b hb => by
    rcases List.mem_append.1 hb with h | h
    · exact (hL b h).1
    · obtain ⟨r, hr, e⟩ := List.mem_filterMap.1 h
      obtain ⟨cs, h1, _⟩ := hown r hr
      exact (h1.lt b e).2, fun r hr b hb => List.mem_append_right _ (List.mem_filterMap.2 ⟨r, hr, hb⟩), hst, fun r hr => by
    obtain ⟨cs, h1, h2⟩ := hown r hr
    exact ⟨cs, h1, h2 _⟩, hap⟩
end Go.Proofs.YtabpaaahobakpaaGreat
/-
  A group that begins, as plain words.
-/
namespace Go.Proofs.YtabpaaahobakpaaGreat
open Go.RowKit

/-- The first j seats of who begins, and its numbers. -/
def newN (who j : Nat) : Wld :=
  { Wld.none with seats := (List.range j).map (fun k => if k = who then fstOf (who : Int) (mkNew (who : Int) 1) (mkNew (who : Int) 2) else Mem.none), fresh := (List.range j).map (fun k => if k = who then 2 else 0), said := (List.range j).map (fun _ => 0), wins := (List.range j).map (fun _ => []) }
def newW (who : Nat) : Wld := newN who 8
theorem newN_len (who j : Nat) : (newN who j).seats.length = j ∧ (newN who j).fresh.length = j ∧ (newN who j).said.length = j ∧ (newN who j).wins.length = j := by unfold newN; simp
theorem newN_next (who j : Nat) : ({ newN who j with seats := (newN who j).seats ++ [if j = who then fstOf (who : Int) (mkNew (who : Int) 1) (mkNew (who : Int) 2) else Mem.none], fresh := (newN who j).fresh ++ [if j = who then 2 else 0], said := (newN who j).said ++ [0], wins := (newN who j).wins ++ [[]] } : Wld) = newN who (j + 1) := by
  unfold newN
  simp only [List.range_succ, List.map_append, List.map_cons, List.map_nil]
theorem Rows.appFresh {X L : List Nat} {B : Nat} {w : World} {a b c d e f g h i j : Value} {W : Wld} (q : Rows X L B w (rowsOf a b c d e f g h i j W)) :
    ∃ cs, w.ownsRow B 3 1 d W.fresh.length cs ∧ ∀ (x : Int) (v : Value) (w' : World), w'.ownsRow B 3 1 v (W.fresh.length + 1) (cs ++ [.int .i64 x]) → w.grownBy w' d.ownBlock → (v.ownBlock = d.ownBlock ∨ v.ownBlock = some w.heap.size) →
      ∃ X', Rows X' L B w' (rowsOf a b c v e f g h i j { W with fresh := W.fresh ++ [x] }) ∧ MoreX X X' w := by
  obtain ⟨cs, h1, h2⟩ := q.own _ (List.mem_of_getElem? (i := 3) rfl)
  refine ⟨cs, h1, fun x v w' ho hg hat => ?_⟩
  exact q.upd 3 (Nat.le_of_ble_eq_true rfl) ⟨3, 1, v, (W.fresh ++ [x]).length, fun _ _ => ListR intR (W.fresh ++ [x])⟩ hg (by show World.ownsRow _ _ _ _ _ (W.fresh ++ [x]).length _; rw [List.length_append]; exact ho) (stays_flat _ _) hat (fun _ _ => ListR.app h2 (ListR.one rfl))
theorem Rows.appSaid {X L : List Nat} {B : Nat} {w : World} {a b c d e f g h i j : Value} {W : Wld} (q : Rows X L B w (rowsOf a b c d e f g h i j W)) :
    ∃ cs, w.ownsRow B 3 1 h W.said.length cs ∧ ∀ (x : Int) (v : Value) (w' : World), w'.ownsRow B 3 1 v (W.said.length + 1) (cs ++ [.int .i64 x]) → w.grownBy w' h.ownBlock → (v.ownBlock = h.ownBlock ∨ v.ownBlock = some w.heap.size) →
      ∃ X', Rows X' L B w' (rowsOf a b c d e f g v i j { W with said := W.said ++ [x] }) ∧ MoreX X X' w := by
  obtain ⟨cs, h1, h2⟩ := q.own _ (List.mem_of_getElem? (i := 7) rfl)
  refine ⟨cs, h1, fun x v w' ho hg hat => ?_⟩
  exact q.upd 7 (Nat.le_of_ble_eq_true rfl) ⟨3, 1, v, (W.said ++ [x]).length, fun _ _ => ListR intR (W.said ++ [x])⟩ hg (by show World.ownsRow _ _ _ _ _ (W.said ++ [x]).length _; rw [List.length_append]; exact ho) (stays_flat _ _) hat (fun _ _ => ListR.app h2 (ListR.one rfl))
/-- A world of nothing. -/
theorem rows_none {B : Nat} {w : World} (L : List Nat) (hL : ∀ b ∈ L, b < w.heap.size) : ∃ X, Rows X L B w (rowsOf (.slice Option.none 0 0) (.slice Option.none 0 0) (.slice Option.none 0 0) (.slice Option.none 0 0) (.slice Option.none 0 0) (.slice Option.none 0 0) (.slice Option.none 0 0) (.slice Option.none 0 0) (.slice Option.none 0 0) (.slice Option.none 0 0) Wld.none) := by
  have key : ∀ r ∈ rowsOf (.slice Option.none 0 0) (.slice Option.none 0 0) (.slice Option.none 0 0) (.slice Option.none 0 0) (.slice Option.none 0 0) (.slice Option.none 0 0) (.slice Option.none 0 0) (.slice Option.none 0 0) (.slice Option.none 0 0) (.slice Option.none 0 0) Wld.none, r.v.ownBlock = Option.none ∧ Stays r.P ∧ ∃ cs, w.ownsRow B r.e r.size r.v r.n cs ∧ ∀ X, r.P X w cs := by
    intro r hr
    simp only [rowsOf, List.mem_cons, List.not_mem_nil, or_false] at hr
    have nil : ∀ (e : TypeId) (s : Nat), w.ownsRow B e s (.slice Option.none 0 0) 0 [] := fun e s => ⟨by simp, .inl ⟨rfl, rfl⟩⟩
    rcases hr with rfl | rfl | rfl | rfl | rfl | rfl | rfl | rfl | rfl | rfl
    · exact ⟨rfl, stays_seat _, [], nil _ _, fun _ => rfl⟩
    · exact ⟨rfl, stays_flat _ _, [], nil _ _, fun _ => rfl⟩
    · exact ⟨rfl, stays_cmt _, [], nil _ _, fun _ => rfl⟩
    · exact ⟨rfl, stays_flat _ _, [], nil _ _, fun _ => rfl⟩
    · exact ⟨rfl, stays_flat _ _, [], nil _ _, fun _ => rfl⟩
    · exact ⟨rfl, stays_flat _ _, [], nil _ _, fun _ => rfl⟩
    · exact ⟨rfl, stays_flat _ _, [], nil _ _, fun _ => rfl⟩
    · exact ⟨rfl, stays_flat _ _, [], nil _ _, fun _ => rfl⟩
    · exact ⟨rfl, stays_wins _, [], nil _ _, fun _ => rfl⟩
    · exact ⟨rfl, stays_flat _ _, [], nil _ _, fun _ => rfl⟩
  refine ⟨_, Rows.flat (fun r hr => (key r hr).2.1) (fun r hr => (key r hr).2.2) ?_ (fun b hb => ⟨hL b hb, fun r hr e => by rw [(key r hr).1] at e; cases e⟩)⟩
  rw [List.pairwise_iff_getElem]
  intro i j hi hj hij
  exact .inl (key _ (List.getElem_mem hi)).1
end Go.Proofs.YtabpaaahobakpaaGreat
