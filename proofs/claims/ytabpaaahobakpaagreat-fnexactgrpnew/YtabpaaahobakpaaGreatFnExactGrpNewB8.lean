/-
  Marks in the seats of one who is alone.
-/
import Derived.Test.YtabpaaahobakpaaGreatFnExactGrpNewB7
import Derived.Test.YtabpaaahobakpaaGreatFnExactGrpNewB4
import Derived.Test.YtabpaaahobakpaaGreatFnExactGrpNewB5
import Derived.Test.YtabpaaahobakpaaGreatFnExactGrpNewB3
import Derived.Test.YtabpaaahobakpaaGreatFnExactGrpNewB2
import Derived.Test.YtabpaaahobakpaaGreatFnExactGrpNewB6
namespace Go.Proofs.YtabpaaahobakpaaGreat
open Go.RowKit

set_option maxRecDepth 100000 in
set_option maxHeartbeats 8000000 in
theorem markSeats_any (B : Nat) (g cap who : Nat) (x : Sx) (KS : List ByteArray) (OS : List Mo) (w : World) (F : World → Prop) (hF0 : F w)
    (hF1 : ∀ u v r, u.grownBy v r → (r = none ∨ r = some g ∨ r = x.2.2.1.ownBlock ∨ r = x.2.2.2.1.ownBlock) → F u → F v) (hF2 : ∀ u v, Below u.heap.size u v → F u → F v)
    (hw : who < 8) (hkl : KS.length ≤ 1000) (hol : OS.length ≤ 1000)
    (h : w.ownsRow B 42 7 (.slice (some ⟨g, 0, none⟩) 8 cap) 8 (scells (srow who (KS.length + 2 * OS.length) x 0))) (hk : Own B w x.2.2.1 KS) (ho : OwnM B w x.2.2.2.1 OS) :
    Calls Tryz.prog 64 #[.slice (some ⟨g, 0, none⟩) 8 cap, .int .i64 1] w fun e w' => e = .returned (.int .i64 ((41 + (KS.length + 2 * OS.length) : Nat) : Int)) ∧
      w'.ownsRow B 42 7 (.slice (some ⟨g, 0, none⟩) 8 cap) 8 (scells (srow who (KS.length + 2 * OS.length) x 8)) ∧ Own B w' x.2.2.1 (marks (3 + 5 * who) KS.length) ∧ OwnM B w' x.2.2.2.1 (mmarks (3 + 5 * who + KS.length) OS.length) ∧ F w' := by
  obtain ⟨q, hq⟩ : ∃ q, KS.length + 2 * OS.length = q := ⟨_, rfl⟩
  rw [hq] at h ⊢
  have HQ := hide hq
  have hO := hide h
  have hK := hide hk
  have hM := hide ho
  have HF := hide hF0
  have HF1 := hide hF1
  have HF2 := hide hF2
  clear h hk ho hF0 hF1 hF2 hq
  go_enter Tryz.func64, Tryz.ntmps64
  go_wp2_with fail
  go_loopw [1, 5] (fun c i wr => ∃ (j z : Nat), j ≤ 8 ∧ i = .int .i64 (j : Int) ∧ c = .int .i64 (z : Int) ∧ z = kz who q j ∧ Hid (wr.ownsRow B 42 7 (.slice (some ⟨g, 0, none⟩) 8 cap) 8 (scells (srow who q x j))) ∧
    Hid (Own B wr x.2.2.1 (if who < j then marks (3 + 5 * who) KS.length else KS)) ∧ Hid (OwnM B wr x.2.2.2.1 (if who < j then mmarks (3 + 5 * who + KS.length) OS.length else OS)) ∧ Hid (F wr)) (fun _ i _ => 8 - (intOf i).toNat)
  case atStart => exact ⟨0, 1, by omega, rfl, rfl, by unfold kz; simp, hO, by rw [if_neg (by omega)]; exact hK, by rw [if_neg (by omega)]; exact hM, HF⟩
  case round =>
    clear hO hK hM HF
    obtain ⟨j, z, hj, rfl, rfl, hz, hO, hK, hM, HF⟩ := hrel
    by_cases hlt : j < 8
    · have hlt2 : (j : Int) < 8 := by omega
      have hzb := kz_le who q j hj
      rw [← hz] at hzb
      have hq3 : q ≤ 3000 := by have := HQ.out; omega
      -- the seat as it is
      have HX := hide (srow_at (who := who) (q := q) (x := x) (j := j) hlt)
      have HN := hide (srow_next (who := who) (q := q) (x := x) (j := j))
      have HZN := hide (kz_next who q j)
      rw [if_neg (by omega)] at HX
      have HSM : Hid (smark who q x j = (b3 z, ((z + 1 : Nat) : Int), (sorig who x j).2.2.1, (sorig who x j).2.2.2.1, ((z + 2 + kq who q j : Nat) : Int), mt (z + 3 + kq who q j), mt (z + 4 + kq who q j))) := by
        refine hide ?_
        unfold smark
        rw [hz]
      have HROW : Hid (∃ KL OL, Own B wr (sorig who x j).2.2.1 KL ∧ OwnM B wr (sorig who x j).2.2.2.1 OL ∧ KL.length + 2 * OL.length = kq who q j ∧ KL.length ≤ 1000 ∧ OL.length ≤ 1000 ∧ (j = who → KL = KS ∧ OL = OS)) := by
        refine hide ?_
        unfold sorig kq
        by_cases e : j = who
        · rw [if_pos e, if_pos e]
          have k1 := unhide hK
          have k2 := unhide hM
          rw [if_neg (by omega)] at k1 k2
          exact ⟨_, _, k1, k2, HQ.out, hkl, hol, fun _ => ⟨rfl, rfl⟩⟩
        · rw [if_neg e, if_neg e]
          exact ⟨[], [], ⟨by simp, .inl ⟨rfl, rfl⟩⟩, ⟨by simp [mcells], .inl ⟨rfl, rfl⟩⟩, rfl, by simp, by simp, fun h => absurd h e⟩
      obtain ⟨y, hy⟩ : ∃ y, sorig who x j = y := ⟨_, rfl⟩
      rw [hy] at HX HSM HROW
      have HY := hide hy
      clear hy
      obtain ⟨y0, y1, y2, y3, y4, y5, y6⟩ := y
      have HZ := hide hz
      clear hz
      obtain ⟨KL, OL, r1, r2, r3⟩ := HROW.out
      have R1 := hide r1
      have R2 := hide r2
      have R3 := hide r3
      clear r1 r2 r3 HROW
      simp only at R1 R2
      have HLX := hide (srow_len who q x j)
      generalize srow who q x j = xs at *
      have i3 : IntKind.i64.wrap ((j : Int) + 1) = (j : Int) + 1 := by simp [IntKind.wrap, IntKind.bits, IntKind.signed]; omega
      have i4 : IntKind.i64.wrap ((z : Int) + 1) = (z : Int) + 1 := by simp [IntKind.wrap, IntKind.bits, IntKind.signed]; omega
      have i5 : IntKind.i64.wrap ((z : Int) + 1 + 1) = (z : Int) + 1 + 1 := by simp [IntKind.wrap, IntKind.bits, IntKind.signed]; omega
      have HC : Hid (∀ n v, n < 7 → (scell (y0, y1, y2, y3, y4, y5, y6))[n]? = some v → wr.cell? ⟨g, j * 7 + n, none⟩ = some v) := fun n v hn hv => by
        rw [(unhide hO).cellAt (j * 7 + n) (by omega), scells_at xs j n _ HX.out hn, hv]
      have e0 : wr.cell? ⟨g, j * 7, none⟩ = some (.bool y0) := HC.out 0 _ (by omega) rfl
      have e1 := HC.out 1 _ (by omega) rfl
      have e2 := HC.out 2 _ (by omega) rfl
      have f0 : wr.frozen? ⟨g, j * 7, none⟩ = false := (unhide hO).frozenAt (j * 7)
      have f1 := (unhide hO).frozenAt (j * 7 + 1)
      -- in, who
      obtain ⟨s1, g1⟩ := (unhide hO).stored (j * 7) (.bool ((z : Int) % 3 == 0))
      rw [show j * 7 = j * 7 + 0 by rfl, scells_set xs j 0 _ _ ((z : Int) % 3 == 0, y1, y2, y3, y4, y5, y6) HX.out (by omega) rfl] at s1
      have q1 : (xs.set j ((z : Int) % 3 == 0, y1, y2, y3, y4, y5, y6))[j]? = some ((z : Int) % 3 == 0, y1, y2, y3, y4, y5, y6) := by rw [List.getElem?_set_self (by have := HLX.out; omega)]
      obtain ⟨s2, g2⟩ := s1.stored (j * 7 + 1) (.int .i64 ((z : Int) + 1))
      rw [scells_set _ j 1 _ _ ((z : Int) % 3 == 0, (z : Int) + 1, y2, y3, y4, y5, y6) q1 (by omega) rfl, List.set_set] at s2
      have S2 := hide s2
      have G2 := hide (g1.trans g2)
      have q2 : (xs.set j ((z : Int) % 3 == 0, (z : Int) + 1, y2, y3, y4, y5, y6))[j]? = some ((z : Int) % 3 == 0, (z : Int) + 1, y2, y3, y4, y5, y6) := by rw [List.getElem?_set_self (by have := HLX.out; omega)]
      have HX2 := hide q2
      have HS2 : Hid ((xs.set j ((z : Int) % 3 == 0, (z : Int) + 1, y2, y3, y4, y5, y6)).set j = xs.set j) := hide (by funext v; rw [List.set_set])
      have HLX2 : Hid ((xs.set j ((z : Int) % 3 == 0, (z : Int) + 1, y2, y3, y4, y5, y6)).length = 8) := hide (by rw [List.length_set]; exact HLX.out)
      generalize xs.set j ((z : Int) % 3 == 0, (z : Int) + 1, y2, y3, y4, y5, y6) = xs2 at *
      have HB2 : Hid ((y2.ownBlock = none ∨ y2.ownBlock = x.2.2.1.ownBlock) ∧ (y3.ownBlock = none ∨ y3.ownBlock = x.2.2.2.1.ownBlock) ∧ (j ≠ who → y2.ownBlock = none ∧ y3.ownBlock = none) ∧ (j = who → y2 = x.2.2.1 ∧ y3 = x.2.2.2.1)) := by
        refine hide ?_
        have e := HY.out
        unfold sorig at e
        by_cases h : j = who
        · rw [if_pos h] at e
          subst e
          exact ⟨.inr rfl, .inr rfl, fun k => absurd h k, fun _ => ⟨rfl, rfl⟩⟩
        · rw [if_neg h] at e
          unfold sx0 at e
          simp only [Prod.mk.injEq] at e
          obtain ⟨_, _, rfl, rfl, _⟩ := e
          exact ⟨.inl rfl, .inl rfl, fun _ => ⟨rfl, rfl⟩, fun k => absurd k h⟩
      clear s1 s2 g1 g2 q1 q2 HX
      have A1 := hide (World.ownsRow.kept (unhide R1) G2.out (row_apart (unhide R1) (unhide hO) (by decide)))
      have A2 := hide (World.ownsRow.kept (unhide R2) G2.out (row_apart (unhide R2) (unhide hO) (by decide)))
      have K2 := hide (World.ownsRow.kept (unhide hK) G2.out (row_apart (unhide hK) (unhide hO) (by decide)))
      have M2 := hide (World.ownsRow.kept (unhide hM) G2.out (row_apart (unhide hM) (unhide hO) (by decide)))
      have F2 := hide (HF1.out _ _ _ G2.out (.inr (.inl rfl)) HF.out)
      clear R1 R2 hK hM HF hO G2 HC
      go_wp2_with fail
      have hcast : (z : Int) + 1 + 1 = ((z + 2 : Nat) : Int) := by omega
      rw [hcast]
      refine (markStringS_any B y2 KL (z + 2) _ (unhide A1) (by omega) (by have := HQ.out; omega) (by have := R3.out.2.1; omega)).mono ?_
      clear hcast e0 e1 e2 f0 f1
      rintro e w3 ⟨rfl, ho, hg⟩
      have S3 := hide (World.ownsRow.kept (unhide S2) hg (row_apart (unhide S2) (unhide A1) (by decide)))
      have B2 := hide (World.ownsRow.kept (unhide A2) hg (row_apart (unhide A2) (unhide A1) (by decide)))
      have B1 := hide ho
      have K3 : Hid (j ≠ who → Own B w3 x.2.2.1 (if who < j then marks (3 + 5 * who) KS.length else KS)) := fun h => World.ownsRow.kept (unhide K2) hg (by rw [(HB2.out.2.2.1 h).1]; exact Classical.em _)
      have M3 := hide (World.ownsRow.kept (unhide M2) hg (row_apart (unhide M2) (unhide A1) (by decide)))
      have F3 := hide (HF1.out _ _ _ hg (by rcases HB2.out.1 with q | q; exact .inl q; exact .inr (.inr (.inl q))) F2.out)
      clear ho hg A1 A2 S2 K2 M2 F2
      have e3 : w3.cell? ⟨g, j * 7 + 3, none⟩ = some y3 := ((unhide S3).cellAt (j * 7 + 3) (by omega)).trans ((scells_at xs2 j 3 _ HX2.out (by omega)).trans rfl)
      obtain ⟨p, hp⟩ : ∃ p, z + 2 + KL.length = p := ⟨_, rfl⟩
      rw [hp]
      have hpb : 0 < p ∧ p ≤ 6000 := by have := R3.out.2.1; omega
      have HP := hide hp
      clear hp
      go_wp2_with fail
      refine (markMemOwnS_any B y3 OL p _ (unhide B2) (by omega) (by omega) (by have := R3.out.2.2.1; omega)).mono ?_
      clear e3
      rintro e w4 ⟨rfl, ho, hg⟩
      have S4 := hide (World.ownsRow.kept (unhide S3) hg (row_apart (unhide S3) (unhide B2) (by decide)))
      have C1 := hide (World.ownsRow.kept (unhide B1) hg (row_apart (unhide B1) (unhide B2) (by decide)))
      have C2 := hide ho
      have K4 : Hid (j ≠ who → Own B w4 x.2.2.1 (if who < j then marks (3 + 5 * who) KS.length else KS)) := fun h => World.ownsRow.kept (unhide K3 h) hg (by rw [(HB2.out.2.2.1 h).2]; exact Classical.em _)
      have M4 : Hid (j ≠ who → OwnM B w4 x.2.2.2.1 (if who < j then mmarks (3 + 5 * who + KS.length) OS.length else OS)) := fun h => World.ownsRow.kept (unhide M3) hg (by rw [(HB2.out.2.2.1 h).2]; exact Classical.em _)
      have F4 := hide (HF1.out _ _ _ hg (by rcases HB2.out.2.1 with q | q; exact .inl q; exact .inr (.inr (.inr q))) F3.out)
      clear ho hg S3 B1 B2 K3 M3 F3
      obtain ⟨p2, hp⟩ : ∃ p2, p + 2 * OL.length = p2 := ⟨_, rfl⟩
      rw [hp]
      have hpb2 : 0 < p2 ∧ p2 ≤ 9000 := by have := R3.out.2.2.1; omega
      have HP2 := hide hp
      clear hp
      have i6 : IntKind.i64.wrap ((p2 : Int) + 1) = (p2 : Int) + 1 := by simp [IntKind.wrap, IntKind.bits, IntKind.signed]; omega
      have i7 : IntKind.i64.wrap ((p2 : Int) + 1 + 1) = (p2 : Int) + 1 + 1 := by simp [IntKind.wrap, IntKind.bits, IntKind.signed]; omega
      have i8 : IntKind.i64.wrap ((p2 : Int) + 1 + 1 + 1) = (p2 : Int) + 1 + 1 + 1 := by simp [IntKind.wrap, IntKind.bits, IntKind.signed]; omega
      have e4 : w4.cell? ⟨g, j * 7 + 4, none⟩ = some (.int .i64 y4) := ((unhide S4).cellAt (j * 7 + 4) (by omega)).trans ((scells_at xs2 j 4 _ HX2.out (by omega)).trans rfl)
      have f4 := (unhide S4).frozenAt (j * 7 + 4)
      obtain ⟨s1, g1⟩ := (unhide S4).stored (j * 7 + 4) (.int .i64 (p2 : Int))
      rw [scells_set _ j 4 _ _ ((z : Int) % 3 == 0, (z : Int) + 1, y2, y3, (p2 : Int), y5, y6) HX2.out (by omega) rfl, HS2.out] at s1
      have q1 : (xs.set j ((z : Int) % 3 == 0, (z : Int) + 1, y2, y3, (p2 : Int), y5, y6))[j]? = some ((z : Int) % 3 == 0, (z : Int) + 1, y2, y3, (p2 : Int), y5, y6) := by rw [List.getElem?_set_self (by have := HLX.out; omega)]
      have HX5 := hide q1
      have S5 := hide s1
      have D1 := hide (World.ownsRow.kept (unhide C1) g1 (row_apart (unhide C1) (unhide S4) (by decide)))
      have D2 := hide (World.ownsRow.kept (unhide C2) g1 (row_apart (unhide C2) (unhide S4) (by decide)))
      have K5 : Hid (j ≠ who → Own B _ x.2.2.1 (if who < j then marks (3 + 5 * who) KS.length else KS)) := fun h => World.ownsRow.kept (unhide K4 h) g1 (row_apart (unhide K4 h) (unhide S4) (by decide))
      have M5 : Hid (j ≠ who → OwnM B _ x.2.2.2.1 (if who < j then mmarks (3 + 5 * who + KS.length) OS.length else OS)) := fun h => World.ownsRow.kept (unhide M4 h) g1 (row_apart (unhide M4 h) (unhide S4) (by decide))
      have F5 := hide (HF1.out _ _ _ g1 (.inr (.inl rfl)) F4.out)
      have HM : Hid (∀ (zz : Nat) (u : World), 0 < zz → zz ≤ 10000000 → Calls Tryz.prog 126 #[.int .i64 (zz : Int)] u fun e w' => e = .returned (.string (mt zz)) ∧ Below u.heap.size u w') := fun zz u q1 q2 => markText_any zz u q1 q2
      clear s1 g1 q1 S4 C1 C2 K4 M4 F4
      go_wp2_with fail
      have hcast : (p2 : Int) + 1 = ((p2 + 1 : Nat) : Int) := by omega
      rw [hcast]
      refine (HM.out (p2 + 1) _ (by omega) (by omega)).mono ?_
      rw [← hcast]
      clear hcast e4 f4
      rintro e w6 ⟨rfl, hb⟩
      have S6 := hide (own_below' (unhide S5) hb)
      have E1 := hide (own_below' (unhide D1) hb)
      have E2 := hide (own_below' (unhide D2) hb)
      have K6 : Hid (j ≠ who → Own B w6 x.2.2.1 (if who < j then marks (3 + 5 * who) KS.length else KS)) := fun h => own_below' (unhide K5 h) hb
      have M6 : Hid (j ≠ who → OwnM B w6 x.2.2.2.1 (if who < j then mmarks (3 + 5 * who + KS.length) OS.length else OS)) := fun h => own_below' (unhide M5 h) hb
      have F6 := hide (HF2.out _ _ hb F5.out)
      clear hb S5 D1 D2 K5 M5 F5
      generalize ht : mt (p2 + 1) = t5 at *
      have HT5 := hide ht
      clear ht
      have e5 : w6.cell? ⟨g, j * 7 + 5, none⟩ = some (.string y5) := ((unhide S6).cellAt (j * 7 + 5) (by omega)).trans ((scells_at _ j 5 _ HX5.out (by omega)).trans rfl)
      have f5 := (unhide S6).frozenAt (j * 7 + 5)
      obtain ⟨s1, g1⟩ := (unhide S6).stored (j * 7 + 5) (.string t5)
      rw [scells_set _ j 5 _ _ ((z : Int) % 3 == 0, (z : Int) + 1, y2, y3, (p2 : Int), t5, y6) HX5.out (by omega) rfl, List.set_set] at s1
      have q1 : (xs.set j ((z : Int) % 3 == 0, (z : Int) + 1, y2, y3, (p2 : Int), t5, y6))[j]? = some ((z : Int) % 3 == 0, (z : Int) + 1, y2, y3, (p2 : Int), t5, y6) := by rw [List.getElem?_set_self (by have := HLX.out; omega)]
      have HX7 := hide q1
      have S7 := hide s1
      have D1 := hide (World.ownsRow.kept (unhide E1) g1 (row_apart (unhide E1) (unhide S6) (by decide)))
      have D2 := hide (World.ownsRow.kept (unhide E2) g1 (row_apart (unhide E2) (unhide S6) (by decide)))
      have K7 : Hid (j ≠ who → Own B _ x.2.2.1 (if who < j then marks (3 + 5 * who) KS.length else KS)) := fun h => World.ownsRow.kept (unhide K6 h) g1 (row_apart (unhide K6 h) (unhide S6) (by decide))
      have M7 : Hid (j ≠ who → OwnM B _ x.2.2.2.1 (if who < j then mmarks (3 + 5 * who + KS.length) OS.length else OS)) := fun h => World.ownsRow.kept (unhide M6 h) g1 (row_apart (unhide M6 h) (unhide S6) (by decide))
      have F7 := hide (HF1.out _ _ _ g1 (.inr (.inl rfl)) F6.out)
      clear s1 g1 q1 S6 E1 E2 K6 M6 F6 HX5
      go_wp2_with fail
      have hcast : (p2 : Int) + 1 + 1 = ((p2 + 2 : Nat) : Int) := by omega
      rw [hcast]
      refine (HM.out (p2 + 2) _ (by omega) (by omega)).mono ?_
      rw [← hcast]
      clear hcast e5 f5
      rintro e w8 ⟨rfl, hb⟩
      have S8 := hide (own_below' (unhide S7) hb)
      have E1 := hide (own_below' (unhide D1) hb)
      have E2 := hide (own_below' (unhide D2) hb)
      have K8 : Hid (j ≠ who → Own B w8 x.2.2.1 (if who < j then marks (3 + 5 * who) KS.length else KS)) := fun h => own_below' (unhide K7 h) hb
      have M8 : Hid (j ≠ who → OwnM B w8 x.2.2.2.1 (if who < j then mmarks (3 + 5 * who + KS.length) OS.length else OS)) := fun h => own_below' (unhide M7 h) hb
      have F8 := hide (HF2.out _ _ hb F7.out)
      clear hb S7 D1 D2 K7 M7 F7
      generalize ht : mt (p2 + 2) = t6 at *
      have HT6 := hide ht
      clear ht
      have e6 : w8.cell? ⟨g, j * 7 + 6, none⟩ = some (.string y6) := ((unhide S8).cellAt (j * 7 + 6) (by omega)).trans ((scells_at _ j 6 _ HX7.out (by omega)).trans rfl)
      have f6 := (unhide S8).frozenAt (j * 7 + 6)
      obtain ⟨s1, g1⟩ := (unhide S8).stored (j * 7 + 6) (.string t6)
      rw [scells_set _ j 6 _ _ ((z : Int) % 3 == 0, (z : Int) + 1, y2, y3, (p2 : Int), t5, t6) HX7.out (by omega) rfl, List.set_set] at s1
      have HE : Hid ((((z : Int) % 3 == 0, (z : Int) + 1, y2, y3, (p2 : Int), t5, t6) : Sx) = smark who q x j ∧ p2 + 3 = kz who q (j + 1)) := by
        have r := R3.out.1
        have h1 := HP.out
        have h2 := HP2.out
        have h3 := HZ.out
        have h4 := HZN.out
        refine hide ⟨?_, by omega⟩
        rw [HSM.out, ← HT5.out, ← HT6.out, show z + 2 + kq who q j = p2 by omega, show z + 3 + kq who q j = p2 + 1 by omega, show z + 4 + kq who q j = p2 + 2 by omega]
        rfl
      rw [HE.out.1, HN.out] at s1
      have S9 := hide s1
      have K9 : Hid (Own B (w8.setCell ⟨g, j * 7 + 6, none⟩ (.string t6)) x.2.2.1 (if who < j + 1 then marks (3 + 5 * who) KS.length else KS)) := by
        by_cases e : j = who
        · have r := HB2.out.2.2.2 e
          have k := R3.out.2.2.2 e
          have h3 := HZ.out
          have d := World.ownsRow.kept (unhide E1) g1 (row_apart (unhide E1) (unhide S8) (by decide))
          rw [if_pos (by omega), ← r.1, ← k.1, show 3 + 5 * who = z + 2 by rw [h3, e]; unfold kz; rw [if_neg (by omega)]; omega]
          exact d
        · have d := World.ownsRow.kept (unhide K8 e) g1 (row_apart (unhide K8 e) (unhide S8) (by decide))
          by_cases c : who < j
          · rw [if_pos c] at d; rw [if_pos (by omega)]; exact d
          · rw [if_neg c] at d; rw [if_neg (by omega)]; exact d
      have M9 : Hid (OwnM B (w8.setCell ⟨g, j * 7 + 6, none⟩ (.string t6)) x.2.2.2.1 (if who < j + 1 then mmarks (3 + 5 * who + KS.length) OS.length else OS)) := by
        by_cases e : j = who
        · have r := HB2.out.2.2.2 e
          have k := R3.out.2.2.2 e
          have h3 := HZ.out
          have h1 := HP.out
          have d := World.ownsRow.kept (unhide E2) g1 (row_apart (unhide E2) (unhide S8) (by decide))
          rw [if_pos (by omega), ← r.2, ← k.2, ← k.1, show 3 + 5 * who + KL.length = p by rw [← h1, h3, e]; unfold kz; rw [if_neg (by omega)]; omega]
          exact d
        · have d := World.ownsRow.kept (unhide M8 e) g1 (row_apart (unhide M8 e) (unhide S8) (by decide))
          by_cases c : who < j
          · rw [if_pos c] at d; rw [if_pos (by omega)]; exact d
          · rw [if_neg c] at d; rw [if_neg (by omega)]; exact d
      have F9 := hide (HF1.out _ _ _ g1 (.inr (.inl rfl)) F8.out)
      clear s1 g1 S8 E1 E2 K8 M8 F8 HX7
      go_wp2_with fail
      go_roundw
      case rel => exact ⟨j + 1, p2 + 3, by omega, by simp, by rw [show ((p2 + 3 : Nat) : Int) = (p2 : Int) + 1 + 1 + 1 by omega], HE.out.2, S9, K9, M9, F9⟩
      case measure => simp [intOf]; omega
    · have hlt2 : decide ((j : Int) < 8) = false := by simp; omega
      obtain rfl : j = 8 := by omega
      have hz8 : z = 41 + q := by rw [hz]; unfold kz; rw [if_pos hw]
      have HZ := hide hz8
      clear hz hz8
      rw [if_pos hw] at hK hM
      go_wp2_with fail
      go_ret
      exact ⟨congrArg (fun (t : Nat) => Ending.returned (.int .i64 (t : Int))) HZ.out, unhide hO, unhide hK, unhide hM, unhide HF⟩
end Go.Proofs.YtabpaaahobakpaaGreat
/-
  Marks in the seats of one who is alone, looked up again.
-/
namespace Go.Proofs.YtabpaaahobakpaaGreat
open Go.RowKit

/-- Where the seats' cells are marked. -/
def SeatM (w : World) (g who q : Nat) (x : Sx) : Prop := ∀ (j n : Nat) (v : Value), j < 8 → n < 7 → (scell (smark who q x j))[n]? = some v → w.cell? ⟨g, j * 7 + n, none⟩ = some v
theorem SeatM.below {w w' : World} {g who q : Nat} {x : Sx} (h : SeatM w g who q x) (hb : Below w.heap.size w w') : SeatM w' g who q x := fun j n v h1 h2 h3 => (hb.cell (cell_lt (h j n v h1 h2 h3))).trans (h j n v h1 h2 h3)
theorem SeatM.of {w : World} {B g cap who q : Nat} {x : Sx} (h : w.ownsRow B 42 7 (.slice (some ⟨g, 0, none⟩) 8 cap) 8 (scells (srow who q x 8))) : SeatM w g who q x := fun j n v h1 h2 h3 => by
  rw [h.cellAt (j * 7 + n) (by omega), scells_at _ j n _ (srow_at h1) h2, if_pos h1, h3]

set_option maxRecDepth 100000 in
set_option maxHeartbeats 8000000 in
theorem heldSeats_any (g cap who kl ol : Nat) (x : Sx) (w : World) (hw : who < 8) (hkl : kl ≤ 1000) (hol : ol ≤ 1000) (h : SeatM w g who (kl + 2 * ol) x) (hk : SRow w x.2.2.1 (marks (3 + 5 * who) kl)) (ho : MRow w x.2.2.2.1 (mmarks (3 + 5 * who + kl) ol)) :
    Calls Tryz.prog 73 #[.slice (some ⟨g, 0, none⟩) 8 cap, .int .i64 1] w fun e w' => e = .returned (.int .i64 ((41 + (kl + 2 * ol) : Nat) : Int)) ∧ Below w.heap.size w w' := by
  obtain ⟨q, hq⟩ : ∃ q, kl + 2 * ol = q := ⟨_, rfl⟩
  rw [hq] at h ⊢
  have HQ := hide hq
  have hO := hide h
  have hK := hide hk
  have hM := hide ho
  clear h hk ho hq
  go_enter Tryz.func73, Tryz.ntmps73
  go_wp2_with fail
  go_loopw [1, 5] (fun c i wr => ∃ (j z : Nat), j ≤ 8 ∧ i = .int .i64 (j : Int) ∧ c = .int .i64 (z : Int) ∧ z = kz who q j ∧ Hid (Below w.heap.size w wr)) (fun _ i _ => 8 - (intOf i).toNat)
  case atStart => exact ⟨0, 1, by omega, rfl, rfl, by unfold kz; simp, Below.refl _ _⟩
  case round =>
    obtain ⟨j, z, hj, rfl, rfl, hz, hL⟩ := hrel
    have hle := hL.out.size
    by_cases hlt : j < 8
    · have hlt2 : (j : Int) < 8 := by omega
      have hzb := kz_le who q j hj
      rw [← hz] at hzb
      have hq3 : q ≤ 3000 := by have := HQ.out; omega
      have HZN := hide (kz_next who q j)
      have HC := hide (fun n v (h2 : n < 7) h3 => ((unhide hO).below hL.out) j n v hlt h2 h3)
      have HROW : Hid (∃ kl' ol', SRow w (sorig who x j).2.2.1 (marks (z + 2) kl') ∧ MRow w (sorig who x j).2.2.2.1 (mmarks (z + 2 + kl') ol') ∧ kl' + 2 * ol' = kq who q j ∧ kl' ≤ 1000 ∧ ol' ≤ 1000) := by
        refine hide ?_
        unfold sorig kq
        by_cases e : j = who
        · rw [if_pos e, if_pos e]
          have e2 : 3 + 5 * who = z + 2 := by rw [hz, e]; unfold kz; rw [if_neg (by omega)]; omega
          have k1 := unhide hK
          have k2 := unhide hM
          rw [e2] at k1 k2
          exact ⟨_, _, k1, k2, HQ.out, hkl, hol⟩
        · rw [if_neg e, if_neg e]
          exact ⟨0, 0, .inl ⟨rfl, rfl⟩, by unfold sx0; exact ⟨none, 0, rfl, by simp [mmarks], by unfold maxLen; omega, fun i hi => by simp [mmarks] at hi⟩, rfl, by omega, by omega⟩
      unfold smark at HC
      rw [← hz] at HC
      obtain ⟨y, hy⟩ : ∃ y, sorig who x j = y := ⟨_, rfl⟩
      rw [hy] at HC HROW
      clear hy
      obtain ⟨y0, y1, y2, y3, y4, y5, y6⟩ := y
      obtain ⟨kl', ol', r1, r2, r3, r4, r5⟩ := HROW.out
      have R1 := hide (SRow.below r1 hL.out)
      have R2 := hide (MRow.below r2 hL.out)
      have R3 := hide r3
      clear r1 r2 r3 HROW
      simp only at R1 R2
      have HZ := hide hz
      clear hz
      have i3 : IntKind.i64.wrap ((j : Int) + 1) = (j : Int) + 1 := by simp [IntKind.wrap, IntKind.bits, IntKind.signed]; omega
      have i4 : IntKind.i64.wrap ((z : Int) + 1) = (z : Int) + 1 := by simp [IntKind.wrap, IntKind.bits, IntKind.signed]; omega
      have i5 : IntKind.i64.wrap ((z : Int) + 1 + 1) = (z : Int) + 1 + 1 := by simp [IntKind.wrap, IntKind.bits, IntKind.signed]; omega
      have e0 : wr.cell? ⟨g, j * 7, none⟩ = some (.bool ((z : Int) % 3 == 0)) := HC.out 0 _ (by omega) rfl
      have e1 : wr.cell? ⟨g, j * 7 + 1, none⟩ = some (.int .i64 ((z : Int) + 1)) := HC.out 1 _ (by omega) rfl
      have e2 : wr.cell? ⟨g, j * 7 + 2, none⟩ = some y2 := HC.out 2 _ (by omega) rfl
      go_wp2_with fail
      have hcast : (z : Int) + 1 + 1 = ((z + 2 : Nat) : Int) := by omega
      rw [hcast]
      refine (heldStringS_any y2 kl' (z + 2) _ (unhide R1) (by omega) (by omega) (by omega)).mono ?_
      clear hcast e0 e1 e2
      rintro e w2 ⟨rfl, hb⟩
      have HC2 := hide (fun n v h2 h3 => (hb.cell (cell_lt (HC.out n v h2 h3))).trans (HC.out n v h2 h3))
      have Q2 := hide ((unhide R2).below hb)
      have L2 := hide ((unhide hL).trans (hb.mono hle))
      have hle2 := L2.out.size
      clear hb R1 R2 hL hle HC
      obtain ⟨p, hp⟩ : ∃ p, z + 2 + kl' = p := ⟨_, rfl⟩
      rw [hp] at Q2 ⊢
      have hpb : 0 < p ∧ p ≤ 6000 := by omega
      have hpn : decide ((p : Int) < 0) = false := by simp
      have HP := hide hp
      clear hp
      have e3 : w2.cell? ⟨g, j * 7 + 3, none⟩ = some y3 := HC2.out 3 _ (by omega) rfl
      go_wp2_with fail
      refine (heldMemOwnS_any y3 ol' p _ (unhide Q2) (by omega) (by omega) (by omega)).mono ?_
      clear e3
      rintro e w3 ⟨rfl, hb⟩
      have HC3 := hide (fun n v h2 h3 => (hb.cell (cell_lt (HC2.out n v h2 h3))).trans (HC2.out n v h2 h3))
      have L3 := hide ((unhide L2).trans (hb.mono hle2))
      have hle3 := L3.out.size
      clear hb Q2 L2 hle2 HC2
      obtain ⟨p2, hp⟩ : ∃ p2, p + 2 * ol' = p2 := ⟨_, rfl⟩
      rw [hp]
      have hpb2 : 0 < p2 ∧ p2 ≤ 9000 := by omega
      have hpn2 : decide ((p2 : Int) < 0) = false := by simp
      have HE : Hid (z + 2 + kq who q j = p2 ∧ p2 + 3 = kz who q (j + 1)) := by
        have h1 := HP.out
        have h2 := R3.out
        have h3 := HZ.out
        have h4 := HZN.out
        exact hide ⟨by omega, by omega⟩
      clear hp
      rw [show z + 3 + kq who q j = p2 + 1 by have := HE.out.1; omega, show z + 4 + kq who q j = p2 + 2 by have := HE.out.1; omega, HE.out.1] at HC3
      have i6 : IntKind.i64.wrap ((p2 : Int) + 1) = (p2 : Int) + 1 := by simp [IntKind.wrap, IntKind.bits, IntKind.signed]; omega
      have i7 : IntKind.i64.wrap ((p2 : Int) + 1 + 1) = (p2 : Int) + 1 + 1 := by simp [IntKind.wrap, IntKind.bits, IntKind.signed]; omega
      have i8 : IntKind.i64.wrap ((p2 : Int) + 1 + 1 + 1) = (p2 : Int) + 1 + 1 + 1 := by simp [IntKind.wrap, IntKind.bits, IntKind.signed]; omega
      have HM1 : Hid (∀ u : World, Calls Tryz.prog 126 #[.int .i64 ((p2 : Int) + 1)] u fun e w' => e = .returned (.string (mt (p2 + 1))) ∧ Below u.heap.size u w') := fun u => by
        have := markText_any (p2 + 1) u (by omega) (by omega)
        rw [show ((p2 + 1 : Nat) : Int) = (p2 : Int) + 1 by omega] at this
        exact this
      have HM2 : Hid (∀ u : World, Calls Tryz.prog 126 #[.int .i64 ((p2 : Int) + 1 + 1)] u fun e w' => e = .returned (.string (mt (p2 + 2))) ∧ Below u.heap.size u w') := fun u => by
        have := markText_any (p2 + 2) u (by omega) (by omega)
        rw [show ((p2 + 2 : Nat) : Int) = (p2 : Int) + 1 + 1 by omega] at this
        exact this
      generalize mt (p2 + 1) = t5 at HC3 HM1
      generalize mt (p2 + 2) = t6 at HC3 HM2
      have e4 : w3.cell? ⟨g, j * 7 + 4, none⟩ = some (.int .i64 (p2 : Int)) := HC3.out 4 _ (by omega) rfl
      have e5 : w3.cell? ⟨g, j * 7 + 5, none⟩ = some (.string t5) := HC3.out 5 _ (by omega) rfl
      have e6 : w3.cell? ⟨g, j * 7 + 6, none⟩ = some (.string t6) := HC3.out 6 _ (by omega) rfl
      clear HC3 hpn
      go_wp2_with fail
      go_region_held3 (fun w' => w'.cell? ⟨g, j * 7 + 5, none⟩ = some (.string t5))
        ((first | exact e5 | exact pcs))
        ((go_at_call 126; refine (HM1.out w3.drew).mono ?_; rintro e w4 ⟨rfl, hb2⟩; have pcs := (hb2.cell (cell_lt e5)).trans e5; have e6' := (hb2.cell (cell_lt e6)).trans e6; have L4 : Hid (Below w.heap.size w w4) := ((unhide L3).drew).trans (hb2.mono hle3); have hle4 := L4.out.size; clear hb2))
      clear e4 e5 e6 L3 hle3
      go_wp2_with fail
      go_region_held3 (fun w' => w'.cell? ⟨g, j * 7 + 6, none⟩ = some (.string t6))
        ((first | exact e6' | exact pcs2))
        ((go_at_call 126; refine (HM2.out w4.drew).mono ?_; rintro e w6 ⟨rfl, hb2⟩; have pcs2 := (hb2.cell (cell_lt e6')).trans e6'; have L6 : Hid (Below w.heap.size w w6) := ((unhide L4).drew).trans (hb2.mono hle4); clear hb2))
      go_wp2_with fail
      go_roundw
      case rel => exact ⟨j + 1, p2 + 3, by omega, by simp, by rw [show ((p2 + 3 : Nat) : Int) = (p2 : Int) + 1 + 1 + 1 by omega], HE.out.2, L6⟩
      case measure => simp [intOf]; omega
    · have hlt2 : decide ((j : Int) < 8) = false := by simp; omega
      obtain rfl : j = 8 := by omega
      have hz8 : z = 41 + q := by rw [hz]; unfold kz; rw [if_pos hw]
      have HZ := hide hz8
      clear hz hz8
      go_wp2_with fail
      go_ret
      exact ⟨congrArg (fun (t : Nat) => Ending.returned (.int .i64 (t : Int))) HZ.out, unhide hL⟩
end Go.Proofs.YtabpaaahobakpaaGreat
/-
  The laws' own marks: numbers that are written into rows, and looked up again.
-/
namespace Go.Proofs.YtabpaaahobakpaaGreat
open Go.RowKit

theorem row_formI {w : World} {B : Nat} {e : TypeId} {size : Nat} {v : Value} {n : Nat} {xs : List Value} (h : w.ownsRow B e size v n xs) : ∃ ao cap, v = .slice ao n cap := by
  rcases h.2 with ⟨h1, h2⟩ | ⟨g, cap, cur, h1, _⟩
  · exact ⟨none, 0, by rw [h1, h2]⟩
  · exact ⟨some _, cap, h1⟩
/-- The numbers from one on. -/
def nums (k n : Nat) : List Int := (List.range n).map fun i => ((k + i : Nat) : Int)
theorem nums_len (k n : Nat) : (nums k n).length = n := by unfold nums; simp
theorem nums_get {k n i : Nat} (h : i < n) : (nums k n).getD i 0 = ((k + i : Nat) : Int) := by
  unfold nums
  rw [List.getD_eq_getElem?_getD]
  simp [h]
/-- The first j numbered, the rest as they were. -/
def numd (k : Nat) (xs : List Int) (j : Nat) : List Int := nums k j ++ xs.drop j
theorem numd_zero (k : Nat) (xs : List Int) : numd k xs 0 = xs := by unfold numd nums; simp
theorem numd_all (k : Nat) (xs : List Int) : numd k xs xs.length = nums k xs.length := by unfold numd; simp
theorem numd_len {k : Nat} {xs : List Int} {j : Nat} (h : j ≤ xs.length) : (numd k xs j).length = xs.length := by unfold numd; rw [List.length_append, nums_len, List.length_drop]; omega
theorem numd_set {k : Nat} {xs : List Int} {j : Nat} (h : j < xs.length) : (numd k xs j).set j ((k + j : Nat) : Int) = numd k xs (j + 1) := by
  unfold numd nums
  rw [List.range_succ, List.map_append, List.set_append_right _ _ (by simp)]
  have e : (xs.drop j).set 0 ((k + j : Nat) : Int) = ((k + j : Nat) : Int) :: xs.drop (j + 1) := by rw [List.drop_eq_getElem_cons h]; rfl
  simp at e
  simp [e]

set_option maxRecDepth 100000 in
set_option maxHeartbeats 1000000 in
theorem markIntS_any (B : Nat) (v : Value) (xs : List Int) (k : Nat) (w : World) (h : OwnI B w v xs) (hk : 0 < k) (hk2 : k ≤ 4000000) (hl : xs.length ≤ 1048576) :
    Calls Tryz.prog 67 #[v, .int .i64 (k : Int)] w fun e w' => e = .returned (.int .i64 ((k + xs.length : Nat) : Int)) ∧ OwnI B w' v (nums k xs.length) ∧ w.grownBy w' v.ownBlock := by
  have hO := hide h
  obtain ⟨ao, cap, hv⟩ := row_formI h
  subst hv
  clear h
  go_enter Tryz.func67, Tryz.ntmps67
  go_wp2_with fail
  go_loopw [1, 5] (fun c i wr => ∃ j : Nat, j ≤ xs.length ∧ i = .int .i64 (j : Int) ∧ c = .int .i64 ((k + j : Nat) : Int) ∧ Hid (wr.ownsRow B 3 1 (.slice ao xs.length cap) xs.length ((numd k xs j).map (Value.int .i64))) ∧ Hid (w.grownBy wr (Value.ownBlock (.slice ao xs.length cap)))) (fun _ i _ => xs.length - (intOf i).toNat)
  case atStart => exact ⟨0, by omega, rfl, by simp, by rw [numd_zero]; exact unhide hO, ⟨rfl, rfl, rfl, Nat.le_refl _, fun _ _ _ => rfl⟩⟩
  case round =>
    obtain ⟨j, hj, rfl, rfl, hOj, hG⟩ := hrel
    by_cases hlt : j < xs.length
    · have hlt2 : (j : Int) < (xs.length : Int) := by omega
      have i3 : IntKind.i64.wrap ((j : Int) + 1) = (j : Int) + 1 := by simp [IntKind.wrap, IntKind.bits, IntKind.signed]; omega
      obtain ⟨z, hz⟩ : ∃ z : Nat, z = k + j := ⟨_, rfl⟩
      rw [← hz]
      have hz1 : 0 < z := by omega
      have hz2 : z ≤ 6000000 := by omega
      have HZ := hide hz
      clear hz
      have i4 : IntKind.i64.wrap ((z : Int) + 1) = (z : Int) + 1 := by simp [IntKind.wrap, IntKind.bits, IntKind.signed]; omega
      have hOj2 := unhide hOj
      rcases hOj2.2 with ⟨q, _⟩ | ⟨g, cap', cur, hq, hBg, hcur, _⟩
      · simp at q; omega
      simp only [Value.slice.injEq] at hq
      obtain ⟨rfl, _, rfl⟩ := hq
      clear hcur
      have hml := numd_len (k := k) (xs := xs) (j := j) hj
      have hfz := hOj2.frozenAt j
      have hcell : wr.cell? ⟨g, j, none⟩ = some (.int .i64 ((numd k xs j).getD j 0)) := by
        rw [hOj2.cellAt j (by omega), List.getElem?_map, List.getElem?_eq_getElem (by omega), List.getD_eq_getElem?_getD, List.getElem?_eq_getElem (by omega)]; rfl
      obtain ⟨s1, s2⟩ := hOj2.stored j (.int .i64 (z : Int))
      rw [← List.map_set, HZ.out, numd_set hlt] at s1
      have HS1 := hide s1
      have HG3 : Hid (w.grownBy (wr.setCell ⟨g, j, none⟩ (.int .i64 (z : Int))) (some g)) := (unhide hG).trans s2
      clear s1 s2 hOj2 hOj hG hml
      generalize (numd k xs j).getD j 0 = old at hcell
      rw [← HZ.out] at HS1
      go_wp2_with fail
      go_roundw
      case rel => exact ⟨j + 1, by omega, by simp, by rw [show ((k + (j + 1) : Nat) : Int) = (z : Int) + 1 by have := HZ.out; omega], HS1, HG3⟩
      case measure => simp [intOf]; omega
    · have hlt2 : decide ((j : Int) < (xs.length : Int)) = false := by simp; omega
      have hjn : j = xs.length := by omega
      subst hjn
      rw [numd_all] at hOj
      go_wp2_with fail
      go_ret
      refine ⟨rfl, ?_, unhide hG⟩
      unfold OwnI
      rw [nums_len]
      exact unhide hOj

set_option maxRecDepth 100000 in
set_option maxHeartbeats 1000000 in
theorem heldIntS_any (v : Value) (k n : Nat) (w : World) (h : IRow w v (nums k n)) (hk : 0 < k) (hk2 : k ≤ 4000000) (hl : n ≤ 1048576) :
    Calls Tryz.prog 76 #[v, .int .i64 (k : Int)] w fun e w' => e = .returned (.int .i64 ((k + n : Nat) : Int)) ∧ w' = w := by
  obtain ⟨ao, cap, rfl, h1, h2, hc⟩ := h.form
  rw [nums_len] at h1 hc ⊢
  have hC := hide hc
  unfold maxLen at h2
  clear h hc
  go_enter Tryz.func76, Tryz.ntmps76
  go_wp2_with fail
  go_loop [1, 5] (fun c i => ∃ j : Nat, j ≤ n ∧ i = .int .i64 (j : Int) ∧ c = .int .i64 ((k + j : Nat) : Int)) (fun _ i => n - (intOf i).toNat)
  case atStart => exact ⟨0, by omega, rfl, by simp⟩
  case round =>
    obtain ⟨j, hj, rfl, rfl⟩ := hrel
    by_cases hlt : j < n
    · have hlt2 : (j : Int) < (n : Int) := by omega
      obtain ⟨a, rfl, hck⟩ := hC.out j hlt
      rw [nums_get hlt] at hck
      have i3 : IntKind.i64.wrap ((j : Int) + 1) = (j : Int) + 1 := by simp [IntKind.wrap, IntKind.bits, IntKind.signed]; omega
      obtain ⟨z, hz⟩ : ∃ z : Nat, z = k + j := ⟨_, rfl⟩
      rw [← hz] at hck ⊢
      have hz2 : z ≤ 6000000 := by omega
      have HZ := hide hz
      clear hz
      have i4 : IntKind.i64.wrap ((z : Int) + 1) = (z : Int) + 1 := by simp [IntKind.wrap, IntKind.bits, IntKind.signed]; omega
      go_wp2_with fail
      exact ⟨⟨j + 1, by omega, by simp, by rw [show ((k + (j + 1) : Nat) : Int) = (z : Int) + 1 by have := HZ.out; omega]⟩, by simp [intOf]; omega⟩
    · have hlt2 : decide ((j : Int) < (n : Int)) = false := by simp; omega
      have hjn : j = n := by omega
      subst hjn
      go_wp2_with fail
      go_ret
      exact ⟨rfl, rfl⟩
end Go.Proofs.YtabpaaahobakpaaGreat
/-
  Marks in a world of one who is alone, looked up again.
-/
namespace Go.Proofs.YtabpaaahobakpaaGreat
open Go.RowKit

abbrev wldN (g0 c0 : Nat) (s3 s7 : Value) (g8 c8 : Nat) (a1 a2 a4 a5 a6 a9 : Option Addr) (p1 p2 p4 p5 p6 p9 : Nat) : Array Value :=
  wldC (.slice (some ⟨g0, 0, none⟩) 8 c0) (.slice a1 0 p1) (.slice a2 0 p2) s3 (.slice a4 0 p4) (.slice a5 0 p5) (.slice a6 0 p6) s7 (.slice (some ⟨g8, 0, none⟩) 8 c8) (.slice a9 0 p9)
theorem winE_of {w : World} {B g c : Nat} {wcs : List Value} (h : w.ownsRow B 58 1 (.slice (some ⟨g, 0, none⟩) 8 c) 8 wcs) (hw : ∀ v ∈ wcs, ∃ (a : Option Addr) (d : Nat), v = .slice a 0 d) : WinE w (.slice (some ⟨g, 0, none⟩) 8 c) 8 := by
  refine ⟨g, c, rfl, fun k hk => ?_⟩
  have hl : k < wcs.length := by have := h.1; omega
  have e := h.cellAt k (by omega)
  rw [List.getElem?_eq_getElem hl] at e
  obtain ⟨a, d, q⟩ := hw _ (List.getElem_mem hl)
  exact ⟨a, d, by rw [e, q]⟩
theorem em_none {v : Value} : v.ownBlock = none ∨ v.ownBlock ≠ none := Classical.em _

set_option maxRecDepth 100000 in
set_option maxHeartbeats 8000000 in
theorem markWld_any (B g0 c0 who : Nat) (x : Sx) (KS : List ByteArray) (OS : List Mo) (s3 s7 : Value) (fr sd : List Int) (g8 c8 : Nat) (wcs : List Value) (a1 a2 a4 a5 a6 a9 : Option Addr) (p1 p2 p4 p5 p6 p9 : Nat) (w : World) (hB : B ≤ w.heap.size)
    (hw : who < 8) (hkl : KS.length ≤ 1000) (hol : OS.length ≤ 1000) (hfl : fr.length ≤ 100) (hdl : sd.length ≤ 100)
    (h0 : w.ownsRow B 42 7 (.slice (some ⟨g0, 0, none⟩) 8 c0) 8 (scells (srow who (KS.length + 2 * OS.length) x 0))) (hk : Own B w x.2.2.1 KS) (ho : OwnM B w x.2.2.2.1 OS)
    (h3 : OwnI B w s3 fr) (h7 : OwnI B w s7 sd) (h37 : s3.ownBlock ≠ s7.ownBlock) (h8 : w.ownsRow B 58 1 (.slice (some ⟨g8, 0, none⟩) 8 c8) 8 wcs) (hwc : ∀ v ∈ wcs, ∃ (a : Option Addr) (d : Nat), v = .slice a 0 d) (bC : Nat) (CC : Array Value) (hC : Blk w bC 34 CC) :
    Calls Tryz.prog 14 #[.agg (wldN g0 c0 s3 s7 g8 c8 a1 a2 a4 a5 a6 a9 p1 p2 p4 p5 p6 p9), .int .i64 1] w fun e w' =>
      e = .returned (.int .i64 ((41 + (KS.length + 2 * OS.length) + fr.length + sd.length : Nat) : Int)) ∧ SeatM w' g0 who (KS.length + 2 * OS.length) x ∧ SRow w' x.2.2.1 (marks (3 + 5 * who) KS.length) ∧ MRow w' x.2.2.2.1 (mmarks (3 + 5 * who + KS.length) OS.length) ∧
      IRow w' s3 (nums (41 + (KS.length + 2 * OS.length)) fr.length) ∧ IRow w' s7 (nums (41 + (KS.length + 2 * OS.length) + fr.length) sd.length) ∧ WinE w' (.slice (some ⟨g8, 0, none⟩) 8 c8) 8 ∧ Blk w' bC 34 CC ∧ Below B w w' := by
  have S0 := hide h0
  have K0 := hide hk
  have M0 := hide ho
  have I30 := hide h3
  have I70 := hide h7
  have W0 := hide h8
  have H37 := hide h37
  have HWC := hide hwc
  have C0 := hide hC
  have hne : ∀ (e : TypeId) (sz nn : Nat) (v : Value) (xs : List Value), w.ownsRow B e sz v nn xs → 42 ≠ e → 9 ≠ e → 134 ≠ e → ∀ r, (r = none ∨ r = some g0 ∨ r = x.2.2.1.ownBlock ∨ r = x.2.2.2.1.ownBlock) → (v.ownBlock = none ∨ v.ownBlock ≠ r) := by
    intro e sz nn v xs h q1 q2 q3 r hr
    rcases hr with rfl | rfl | rfl | rfl
    · exact em_none
    · exact row_apart h h0 (Ne.symm q1)
    · exact row_apart h hk (Ne.symm q2)
    · exact row_apart h ho (Ne.symm q3)
  have NE3 := hide (hne _ _ _ _ _ h3 (by decide) (by decide) (by decide))
  have NE7 := hide (hne _ _ _ _ _ h7 (by decide) (by decide) (by decide))
  have NE8 := hide (hne _ _ _ _ _ h8 (by decide) (by decide) (by decide))
  have NEC : Hid (∀ r, (r = none ∨ r = some g0 ∨ r = x.2.2.1.ownBlock ∨ r = x.2.2.2.1.ownBlock) → some bC ≠ r) := by
    refine hide ?_
    intro r hr
    rcases hr with rfl | rfl | rfl | rfl
    · simp
    · exact Blk.not_row hC (by decide) h0
    · exact Blk.not_row hC (by decide) hk
    · exact Blk.not_row hC (by decide) ho
  have LT : Hid (∀ r, (r = none ∨ r = some g0 ∨ r = x.2.2.1.ownBlock ∨ r = x.2.2.2.1.ownBlock) → ∀ k, r = some k → B ≤ k ∧ k < w.heap.size) := by
    refine hide ?_
    intro r hr k hk'
    rcases hr with rfl | rfl | rfl | rfl
    · cases hk'
    · exact h0.lt k hk'
    · exact World.ownsRow.lt hk k hk'
    · exact World.ownsRow.lt ho k hk'
  clear hne h0 hk ho h3 h7 h8 h37 hwc hC
  obtain ⟨CA, hca⟩ : ∃ c, wldN g0 c0 s3 s7 g8 c8 a1 a2 a4 a5 a6 a9 p1 p2 p4 p5 p6 p9 = c := ⟨_, rfl⟩
  have hb0 : Below w.heap.size w (w.alloc (.cells CA 34)) := (Below.refl _ _).alloc (Nat.le_refl _) _
  have S1 := hide (own_below' (unhide S0) hb0)
  have K1 := hide (own_below' (unhide K0) hb0)
  have M1 := hide (own_below' (unhide M0) hb0)
  have FF : Hid (∃ F : World → Prop, F (w.alloc (.cells CA 34)) ∧ (∀ u v r, u.grownBy v r → (r = none ∨ r = some g0 ∨ r = x.2.2.1.ownBlock ∨ r = x.2.2.2.1.ownBlock) → F u → F v) ∧ (∀ u v, Below u.heap.size u v → F u → F v) ∧
      ∀ u, F u → OwnI B u s3 fr ∧ OwnI B u s7 sd ∧ u.ownsRow B 58 1 (.slice (some ⟨g8, 0, none⟩) 8 c8) 8 wcs ∧ Blk u w.heap.size 34 CA ∧ Below B w u ∧ w.heap.size ≤ u.heap.size ∧ Blk u bC 34 CC) := by
    refine hide ⟨fun u => OwnI B u s3 fr ∧ OwnI B u s7 sd ∧ u.ownsRow B 58 1 (.slice (some ⟨g8, 0, none⟩) 8 c8) 8 wcs ∧ Blk u w.heap.size 34 CA ∧ Below B w u ∧ w.heap.size ≤ u.heap.size ∧ Blk u bC 34 CC, ?_, ?_, ?_, fun u h => h⟩
    · exact ⟨own_below' (unhide I30) hb0, own_below' (unhide I70) hb0, own_below' (unhide W0) hb0, Blk.new w _ CA, hb0.mono hB, by simp, (unhide C0).below hb0⟩
    · rintro u v r hg hr ⟨q1, q2, q3, q4, q5, q6, q7⟩
      exact ⟨World.ownsRow.kept q1 hg (NE3.out r hr), World.ownsRow.kept q2 hg (NE7.out r hr), q3.kept hg (NE8.out r hr), q4.kept hg (fun e => by have := LT.out r hr _ e.symm; omega), q5.grown hg (by omega) (fun k hk => (LT.out r hr k hk).1), Nat.le_trans q6 hg.size, q7.kept hg (NEC.out r hr)⟩
    · rintro u v hb ⟨q1, q2, q3, q4, q5, q6, q7⟩
      exact ⟨own_below' q1 hb, own_below' q2 hb, own_below' q3 hb, q4.below hb, q5.trans (hb.mono (by omega)), Nat.le_trans q6 hb.size, q7.below hb⟩
  clear S0 K0 M0 I30 I70 W0 hb0 LT NE3 NE7 NE8 NEC C0
  obtain ⟨F, f1, f2, f3, f4⟩ := FF.out
  clear FF
  have HF1 := hide f1
  have HF2 := hide f2
  have HF3 := hide f3
  have HF4 := hide f4
  clear f1 f2 f3 f4
  subst hca
  go_enter Tryz.func14, Tryz.ntmps14
  go_wp2_with fail
  refine (markSeats_any B g0 c0 who x KS OS _ F HF1.out HF2.out HF3.out hw hkl hol (unhide S1) (unhide K1) (unhide M1)).mono ?_
  rintro e wc ⟨rfl, s1, k1, m1, f1⟩
  obtain ⟨q1, q2, q3, q4, q5, q6, q7⟩ := HF4.out _ f1
  have S := hide s1
  have K := hide k1
  have M := hide m1
  have I3 := hide q1
  have I7 := hide q2
  have W := hide q3
  have A := hide q4
  have HB := hide q5
  have hle := q6
  have C := hide q7
  clear s1 k1 m1 f1 q1 q2 q3 q4 q5 q6 q7 S1 K1 M1 HF1 HF2 HF3 HF4
  obtain ⟨z0, hz0⟩ : ∃ z, 41 + (KS.length + 2 * OS.length) = z := ⟨_, rfl⟩
  rw [hz0]
  have hzb : 0 < z0 ∧ z0 ≤ 4000 := by omega
  have Zz0 := hide hz0
  clear hz0
  have ca := (unhide A).cell 1
  simp only [List.getElem?_toArray, List.getElem?_cons_succ, List.getElem?_cons_zero] at ca
  go_wp2_with fail
  refine (markE_GrpWait _ _ (z0 : Int) _).mono ?_
  rintro e wz ⟨rfl, hz⟩
  replace hz := hz.symm
  subst hz
  clear ca
  have ca := (unhide A).cell 2
  simp only [List.getElem?_toArray, List.getElem?_cons_succ, List.getElem?_cons_zero] at ca
  go_wp2_with fail
  refine (markE_CmtCommit _ _ (z0 : Int) _).mono ?_
  rintro e wz ⟨rfl, hz⟩
  replace hz := hz.symm
  subst hz
  clear ca
  have ca := (unhide A).cell 3
  simp only [List.getElem?_toArray, List.getElem?_cons_succ, List.getElem?_cons_zero] at ca
  go_wp2_with fail
  refine (markIntS_any B s3 fr z0 _ (unhide I3) (by omega) (by omega) (by omega)).mono ?_
  rintro e wc ⟨rfl, ho, hg⟩
  replace S := hide (World.ownsRow.kept (unhide S) hg (row_apart (unhide S) (unhide I3) (by decide)))
  replace K := hide (World.ownsRow.kept (unhide K) hg (row_apart (unhide K) (unhide I3) (by decide)))
  replace M := hide (World.ownsRow.kept (unhide M) hg (row_apart (unhide M) (unhide I3) (by decide)))
  replace W := hide (World.ownsRow.kept (unhide W) hg (row_apart (unhide W) (unhide I3) (by decide)))
  replace I7 := hide (World.ownsRow.kept (unhide I7) hg (.inr (Ne.symm H37.out)))
  replace A := hide ((unhide A).kept hg (Blk.not_row (unhide A) (by decide) (unhide I3)))
  replace C := hide ((unhide C).kept hg (Blk.not_row (unhide C) (by decide) (unhide I3)))
  replace HB := hide (HB.out.grown hg (by omega) (fun k hk => (World.ownsRow.lt (unhide I3) k hk).1))
  replace hle := Nat.le_trans hle hg.size
  replace I3 := hide ho
  clear ho hg ca
  obtain ⟨z1, hz1⟩ : ∃ z, z0 + fr.length = z := ⟨_, rfl⟩
  rw [hz1]
  have hzbz1 : 0 < z1 ∧ z1 ≤ 5000 := by omega
  have Zz1 := hide hz1
  clear hz1
  have ca := (unhide A).cell 4
  simp only [List.getElem?_toArray, List.getElem?_cons_succ, List.getElem?_cons_zero] at ca
  go_wp2_with fail
  refine (markE_String _ _ (z1 : Int) _).mono ?_
  rintro e wz ⟨rfl, hz⟩
  replace hz := hz.symm
  subst hz
  clear ca
  have ca := (unhide A).cell 5
  simp only [List.getElem?_toArray, List.getElem?_cons_succ, List.getElem?_cons_zero] at ca
  go_wp2_with fail
  refine (markE_GrpSteal _ _ (z1 : Int) _).mono ?_
  rintro e wz ⟨rfl, hz⟩
  replace hz := hz.symm
  subst hz
  clear ca
  have ca := (unhide A).cell 6
  simp only [List.getElem?_toArray, List.getElem?_cons_succ, List.getElem?_cons_zero] at ca
  go_wp2_with fail
  refine (markE_FraFrame _ _ (z1 : Int) _).mono ?_
  rintro e wz ⟨rfl, hz⟩
  replace hz := hz.symm
  subst hz
  clear ca
  have ca := (unhide A).cell 7
  simp only [List.getElem?_toArray, List.getElem?_cons_succ, List.getElem?_cons_zero] at ca
  go_wp2_with fail
  refine (markIntS_any B s7 sd z1 _ (unhide I7) (by omega) (by omega) (by omega)).mono ?_
  rintro e wc ⟨rfl, ho, hg⟩
  replace S := hide (World.ownsRow.kept (unhide S) hg (row_apart (unhide S) (unhide I7) (by decide)))
  replace K := hide (World.ownsRow.kept (unhide K) hg (row_apart (unhide K) (unhide I7) (by decide)))
  replace M := hide (World.ownsRow.kept (unhide M) hg (row_apart (unhide M) (unhide I7) (by decide)))
  replace W := hide (World.ownsRow.kept (unhide W) hg (row_apart (unhide W) (unhide I7) (by decide)))
  replace I3 := hide (World.ownsRow.kept (unhide I3) hg (.inr H37.out))
  replace A := hide ((unhide A).kept hg (Blk.not_row (unhide A) (by decide) (unhide I7)))
  replace C := hide ((unhide C).kept hg (Blk.not_row (unhide C) (by decide) (unhide I7)))
  replace HB := hide (HB.out.grown hg (by omega) (fun k hk => (World.ownsRow.lt (unhide I7) k hk).1))
  replace hle := Nat.le_trans hle hg.size
  replace I7 := hide ho
  clear ho hg ca
  obtain ⟨z2, hz2⟩ : ∃ z, z1 + sd.length = z := ⟨_, rfl⟩
  rw [hz2]
  have hzbz2 : 0 < z2 ∧ z2 ≤ 6000 := by omega
  have Zz2 := hide hz2
  clear hz2
  have ca := (unhide A).cell 8
  simp only [List.getElem?_toArray, List.getElem?_cons_succ, List.getElem?_cons_zero] at ca
  go_wp2_with fail
  refine (markWinE_any _ 8 z2 _ (by omega) (winE_of (unhide W) HWC.out)).mono ?_
  rintro e wz ⟨rfl, hz⟩
  replace hz := hz.symm
  subst hz
  clear ca
  have ca := (unhide A).cell 9
  simp only [List.getElem?_toArray, List.getElem?_cons_succ, List.getElem?_cons_zero] at ca
  go_wp2_with fail
  refine (markE_GrpTold _ _ (z2 : Int) _).mono ?_
  rintro e wz ⟨rfl, hz⟩
  replace hz := hz.symm
  subst hz
  clear ca
  go_wp2_with fail
  go_ret
  refine ⟨congrArg (fun (t : Nat) => Ending.returned (.int .i64 (t : Int))) (by have := Zz0.out; have := Zz1.out; have := Zz2.out; omega), SeatM.of (unhide S), Own.srow (unhide K), OwnM.mrow (unhide M), ?_, ?_, winE_of (unhide W) HWC.out, unhide C, HB.out⟩
  · rw [Zz0.out]
    exact OwnI.irow (unhide I3)
  · rw [Zz0.out, Zz1.out]
    exact OwnI.irow (unhide I7)
set_option maxRecDepth 100000 in
set_option maxHeartbeats 8000000 in
theorem heldWld_any (g0 c0 who kl ol fl dl : Nat) (x : Sx) (s3 s7 : Value) (g8 c8 : Nat) (a1 a2 a4 a5 a6 a9 : Option Addr) (p1 p2 p4 p5 p6 p9 : Nat) (w : World)
    (hw : who < 8) (hkl : kl ≤ 1000) (hol : ol ≤ 1000) (hfl : fl ≤ 100) (hdl : dl ≤ 100)
    (h0 : SeatM w g0 who (kl + 2 * ol) x) (hk : SRow w x.2.2.1 (marks (3 + 5 * who) kl)) (ho : MRow w x.2.2.2.1 (mmarks (3 + 5 * who + kl) ol)) (h3 : IRow w s3 (nums (41 + (kl + 2 * ol)) fl)) (h7 : IRow w s7 (nums (41 + (kl + 2 * ol) + fl) dl)) (h8 : WinE w (.slice (some ⟨g8, 0, none⟩) 8 c8) 8) :
    Calls Tryz.prog 15 #[.agg (wldN g0 c0 s3 s7 g8 c8 a1 a2 a4 a5 a6 a9 p1 p2 p4 p5 p6 p9), .int .i64 1] w fun e w' =>
      e = .returned (.int .i64 ((41 + (kl + 2 * ol) + fl + dl : Nat) : Int)) ∧ Below w.heap.size w w' := by
  have S := hide h0
  have K := hide hk
  have M := hide ho
  have I3 := hide h3
  have I7 := hide h7
  have W := hide h8
  clear h0 hk ho h3 h7 h8
  obtain ⟨z0, hz0⟩ : ∃ z, 41 + (kl + 2 * ol) = z := ⟨_, rfl⟩
  rw [hz0] at I3 I7 ⊢
  have hzb : 0 < z0 ∧ z0 ≤ 4000 := by omega
  have hzn : decide ((z0 : Int) < 0) = false := by simp
  have Zz0 := hide hz0
  clear hz0
  obtain ⟨z1, hz1⟩ : ∃ z, z0 + fl = z := ⟨_, rfl⟩
  rw [hz1] at I7 ⊢
  have hzb1 : 0 < z1 ∧ z1 ≤ 5000 := by omega
  have hzn1 : decide ((z1 : Int) < 0) = false := by simp
  have Zz1 := hide hz1
  clear hz1
  obtain ⟨z2, hz2⟩ : ∃ z, z1 + dl = z := ⟨_, rfl⟩
  rw [hz2]
  have hzn2 : decide ((z2 : Int) < 0) = false := by simp
  have Zz2 := hide hz2
  clear hz2
  obtain ⟨CA, hca⟩ : ∃ c, wldN g0 c0 s3 s7 g8 c8 a1 a2 a4 a5 a6 a9 p1 p2 p4 p5 p6 p9 = c := ⟨_, rfl⟩
  have hb0 : Below w.heap.size w (w.alloc (.cells CA 34)) := (Below.refl _ _).alloc (Nat.le_refl _) _
  have A := hide (Blk.new w 34 CA)
  have HB := hide hb0
  clear hb0
  subst hca
  go_enter Tryz.func15, Tryz.ntmps15
  go_wp2_with fail
  refine (heldSeats_any g0 c0 who kl ol x _ hw hkl hol ((unhide S).below HB.out) ((unhide K).below HB.out) ((unhide M).below HB.out)).mono ?_
  rw [Zz0.out]
  rintro e wc ⟨rfl, hb⟩
  replace A := hide ((unhide A).below hb)
  replace HB := hide (HB.out.trans (hb.mono HB.out.size))
  clear hb
  have ca := (unhide A).cell 1
  simp only [List.getElem?_toArray, List.getElem?_cons_succ, List.getElem?_cons_zero] at ca
  go_wp2_with fail
  refine (heldE_GrpWait _ _ (z0 : Int) _).mono ?_
  rintro e wz ⟨rfl, hz⟩
  replace hz := hz.symm
  subst hz
  clear ca
  have ca := (unhide A).cell 2
  simp only [List.getElem?_toArray, List.getElem?_cons_succ, List.getElem?_cons_zero] at ca
  go_wp2_with fail
  refine (heldE_CmtCommit _ _ (z0 : Int) _).mono ?_
  rintro e wz ⟨rfl, hz⟩
  replace hz := hz.symm
  subst hz
  clear ca
  have ca := (unhide A).cell 3
  simp only [List.getElem?_toArray, List.getElem?_cons_succ, List.getElem?_cons_zero] at ca
  go_wp2_with fail
  refine (heldIntS_any s3 z0 fl _ ((unhide I3).below HB.out) (by omega) (by omega) (by omega)).mono ?_
  rw [Zz1.out]
  rintro e wz ⟨rfl, hz⟩
  replace hz := hz.symm
  subst hz
  clear ca
  have ca := (unhide A).cell 4
  simp only [List.getElem?_toArray, List.getElem?_cons_succ, List.getElem?_cons_zero] at ca
  go_wp2_with fail
  refine (heldE_String _ _ (z1 : Int) _).mono ?_
  rintro e wz ⟨rfl, hz⟩
  replace hz := hz.symm
  subst hz
  clear ca
  have ca := (unhide A).cell 5
  simp only [List.getElem?_toArray, List.getElem?_cons_succ, List.getElem?_cons_zero] at ca
  go_wp2_with fail
  refine (heldE_GrpSteal _ _ (z1 : Int) _).mono ?_
  rintro e wz ⟨rfl, hz⟩
  replace hz := hz.symm
  subst hz
  clear ca
  have ca := (unhide A).cell 6
  simp only [List.getElem?_toArray, List.getElem?_cons_succ, List.getElem?_cons_zero] at ca
  go_wp2_with fail
  refine (heldE_FraFrame _ _ (z1 : Int) _).mono ?_
  rintro e wz ⟨rfl, hz⟩
  replace hz := hz.symm
  subst hz
  clear ca
  have ca := (unhide A).cell 7
  simp only [List.getElem?_toArray, List.getElem?_cons_succ, List.getElem?_cons_zero] at ca
  go_wp2_with fail
  refine (heldIntS_any s7 z1 dl _ ((unhide I7).below HB.out) (by omega) (by omega) (by omega)).mono ?_
  rw [Zz2.out]
  rintro e wz ⟨rfl, hz⟩
  replace hz := hz.symm
  subst hz
  clear ca
  have ca := (unhide A).cell 8
  simp only [List.getElem?_toArray, List.getElem?_cons_succ, List.getElem?_cons_zero] at ca
  go_wp2_with fail
  refine (heldWinE_any _ 8 z2 _ (by omega) ((unhide W).below HB.out)).mono ?_
  rintro e wz ⟨rfl, hz⟩
  replace hz := hz.symm
  subst hz
  clear ca
  have ca := (unhide A).cell 9
  simp only [List.getElem?_toArray, List.getElem?_cons_succ, List.getElem?_cons_zero] at ca
  go_wp2_with fail
  refine (heldE_GrpTold _ _ (z2 : Int) _).mono ?_
  rintro e wz ⟨rfl, hz⟩
  replace hz := hz.symm
  subst hz
  clear ca
  go_wp2_with fail
  go_ret
  exact ⟨rfl, unhide HB⟩
end Go.Proofs.YtabpaaahobakpaaGreat
/-
 The specification's FraOk.
-/
namespace Go.Proofs.YtabpaaahobakpaaGreat
open Go.RowKit
end Go.Proofs.YtabpaaahobakpaaGreat
/-
  Contracts of MakSay and MakRoom, the program's and the specification's.
-/
namespace Go.Proofs.YtabpaaahobakpaaGreat
open Go.RowKit

end Go.Proofs.YtabpaaahobakpaaGreat
/-
 The specification's FraMake.
-/
namespace Go.Proofs.YtabpaaahobakpaaGreat
open Go.RowKit
def Fra.none : Fra := ⟨0, ⟨#[]⟩, 0, ⟨#[]⟩⟩
end Go.Proofs.YtabpaaahobakpaaGreat
/-
  What is said in a world, as plain words; reads of a world's rows.
-/
namespace Go.Proofs.YtabpaaahobakpaaGreat
open Go.RowKit

/-- The values that are a world's are slices. -/
theorem Rows.forms {X L : List Nat} {B : Nat} {w : World} {a b c d e f g h i j : Value} {W : Wld} (q : Rows X L B w (rowsOf a b c d e f g h i j W)) :
    (∃ z y, a = .slice z W.seats.length y) ∧ (∃ z y, b = .slice z W.waits.length y) ∧ (∃ z y, c = .slice z W.log.length y) ∧ (∃ z y, d = .slice z W.fresh.length y) ∧ (∃ z y, e = .slice z W.spy.length y) ∧ (∃ z y, f = .slice z W.stolen.length y) ∧ (∃ z y, g = .slice z W.frames.length y) ∧ (∃ z y, h = .slice z W.said.length y) ∧ (∃ z y, i = .slice z W.wins.length y) ∧ (∃ z y, j = .slice z W.told.length y) := by
  have key : ∀ (k : Nat) r, (rowsOf a b c d e f g h i j W)[k]? = some r → ∃ z y, r.v = .slice z r.n y := fun k r hr => by
    obtain ⟨cs, h1, _⟩ := q.own r (List.mem_of_getElem? hr)
    exact row_form' h1
  exact ⟨key 0 _ rfl, key 1 _ rfl, key 2 _ rfl, key 3 _ rfl, key 4 _ rfl, key 5 _ rfl, key 6 _ rfl, key 7 _ rfl, key 8 _ rfl, key 9 _ rfl⟩
theorem one_wld {a b c d e f g h i j : Value} {W : Wld} {X L : List Nat} {B : Nat} {w : World} (q : Rows X L B w (rowsOf a b c d e f g h i j W)) : (wldC a b c d e f g h i j).all (·.oneCell') = true := by
  obtain ⟨⟨_, _, rfl⟩, ⟨_, _, rfl⟩, ⟨_, _, rfl⟩, ⟨_, _, rfl⟩, ⟨_, _, rfl⟩, ⟨_, _, rfl⟩, ⟨_, _, rfl⟩, ⟨_, _, rfl⟩, ⟨_, _, rfl⟩, ⟨_, _, rfl⟩⟩ := q.forms
  simp [Value.oneCell']
abbrev noWld : Array Value := wldC (.slice Option.none 0 0) (.slice Option.none 0 0) (.slice Option.none 0 0) (.slice Option.none 0 0) (.slice Option.none 0 0) (.slice Option.none 0 0) (.slice Option.none 0 0) (.slice Option.none 0 0) (.slice Option.none 0 0) (.slice Option.none 0 0)
end Go.Proofs.YtabpaaahobakpaaGreat
/-
  Seats and commits of a world: read, and seats written.
-/
namespace Go.Proofs.YtabpaaahobakpaaGreat
open Go.RowKit

/-- These values, from a place on, in others' stead. -/
def setMany : List Value → Nat → List Value → List Value
  | xs, _, [] => xs
  | xs, o, v :: r => setMany (xs.set o v) (o + 1) r
theorem setMany_eq : ∀ (d xs : List Value) (o : Nat), o + d.length ≤ xs.length → setMany xs o d = xs.take o ++ d ++ xs.drop (o + d.length)
  | [], xs, o, _ => by simp [setMany]
  | v :: r, xs, o, h => by
    rw [List.length_cons] at h
    rw [setMany, setMany_eq r (xs.set o v) (o + 1) (by rw [List.length_set]; omega), List.length_cons]
    rw [List.drop_set_of_lt (by omega), List.take_succ_eq_append_getElem (by rw [List.length_set]; omega), List.getElem_set_self, List.take_set_of_le (Nat.le_refl _), show o + 1 + r.length = o + (r.length + 1) by omega]
    simp
theorem row_setMany {B : Nat} {e : TypeId} {size g n c : Nat} : ∀ (d : List Value) (o : Nat) {w : World} {xs : List Value}, w.ownsRow B e size (.slice (some ⟨g, 0, Option.none⟩) n c) n xs → (w.setCells g o d).ownsRow B e size (.slice (some ⟨g, 0, Option.none⟩) n c) n (setMany xs o d)
  | [], _, _, _, h => h
  | v :: r, o, _, _, h => row_setMany r (o + 1) (h.stored o v).1
theorem row_there {B : Nat} {e : TypeId} {size g n c : Nat} {w : World} {xs : List Value} (h : w.ownsRow B e size (.slice (some ⟨g, 0, Option.none⟩) n c) n xs) (o m : Nat) (hm : o + m ≤ n * size) : w.there g o m := fun j hj => by
  refine ⟨?_, h.frozenAt (o + j)⟩
  rw [h.cellAt (o + j) (by omega), List.getElem?_eq_getElem (by rw [h.1]; omega)]
  rfl
end Go.Proofs.YtabpaaahobakpaaGreat
/-
  A world in which one hears a commit, as plain words.
-/
namespace Go.Proofs.YtabpaaahobakpaaGreat
open Go.RowKit

theorem rowR_of {w : World} {B n : Nat} {v : Value} {bs : List Mo} (h : w.ownsRow B 134 2 v n (mcells bs)) (hl : bs.length = n) : RowR w v bs.length (mcells bs) := by subst hl; exact RowR.own h
end Go.Proofs.YtabpaaahobakpaaGreat
/-
  The specification's MemKnows.
-/
namespace Go.Proofs.YtabpaaahobakpaaGreat
open Go.RowKit

end Go.Proofs.YtabpaaahobakpaaGreat
/-
  A world in which something is stolen of one, as plain words.
-/
namespace Go.Proofs.YtabpaaahobakpaaGreat
open Go.RowKit

end Go.Proofs.YtabpaaahobakpaaGreat
/-
  More of a world's rows: how many secrets each has made, who waits, frames.
-/
namespace Go.Proofs.YtabpaaahobakpaaGreat
open Go.RowKit

end Go.Proofs.YtabpaaahobakpaaGreat
/-
 The specification's l4Commit.
-/
namespace Go.Proofs.YtabpaaahobakpaaGreat
open Go.RowKit
end Go.Proofs.YtabpaaahobakpaaGreat
/-
 The specification's MemCommit.
-/
namespace Go.Proofs.YtabpaaahobakpaaGreat
open Go.RowKit
end Go.Proofs.YtabpaaahobakpaaGreat
/-
  A world in which one goes on, as plain words.
-/
namespace Go.Proofs.YtabpaaahobakpaaGreat
open Go.RowKit

theorem mkNew_max (a b : Int) : (mkNew a b).size ≤ maxLen := by
  unfold mkNew maxLen
  split
  · rcases newName_sizes a.toNat b.toNat with h | h <;> omega
  · show 0 ≤ _; omega
end Go.Proofs.YtabpaaahobakpaaGreat
