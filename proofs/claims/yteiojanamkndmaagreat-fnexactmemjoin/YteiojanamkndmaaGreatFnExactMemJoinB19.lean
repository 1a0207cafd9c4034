/-
  The program's MemJoin.
-/
import Derived.Test.YteiojanamkndmaaGreatFnExactMemJoinB18
namespace Go.Proofs.YteiojanamkndmaaGreat
open Go.RowKit

set_option maxRecDepth 100000 in
set_option maxHeartbeats 4000000 in
theorem iMemJoin_any (who : Int) (leaf key : ByteArray) (c : Cmt) (ks bs : Value) (w : World) (hK : SRow w ks c.keys) (hO : BRow w bs c.boxes) (hl : leaf.size ≤ maxLen) (hk : key.size ≤ maxLen)
    (hft : (∀ x ∈ c.keys, x.size ≤ maxLen) ∧ (∀ b ∈ c.boxes, b.1.size ≤ maxLen ∧ b.2.size ≤ maxLen) ∧ c.name.size ≤ 2000000 ∧ c.tag.size ≤ 2000000 ∧ c.leaf.size ≤ maxLen ∧ c.wel.key.size ≤ maxLen ∧ c.wel.is.size ≤ maxLen ∧ c.wel.ss.size ≤ maxLen) :
    Calls Tryz.prog 7 #[.int .i64 who, .string leaf, .string key, .agg (c.cells ks bs)] w fun e w' => ∃ ks' os', e = .returned (.tuple #[.agg ((joinR who leaf key c).cells ks' os'), .bool (joinB who leaf key c)]) ∧ Own w.heap.size w' ks' (joinR who leaf key c).keys ∧ OwnM w.heap.size w' os' (joinR who leaf key c).own ∧ Below w.heap.size w w' := by
  have HC : Hid (∀ u : World, Below w.heap.size w u → Calls Tryz.prog 27 #[.int .i64 who, .string leaf, .string key, .agg (c.cells ks bs)] u fun e w' => BJPost who leaf key c u e w') :=
    fun u hu => behindJoining_any who leaf key c ks bs u (hK.below hu) (hO.below hu) hl hk hft
  have HR : Hid (joinR who leaf key c = if joinB who leaf key c = true then joinM who leaf c else Mem.none) := rfl
  obtain ⟨rb, hrb⟩ : ∃ rb, joinB who leaf key c = rb := ⟨_, rfl⟩
  rw [hrb] at HR ⊢
  have HRB := hide hrb
  clear hrb
  obtain ⟨rm, hrm⟩ : ∃ rm, joinR who leaf key c = rm := ⟨_, rfl⟩
  rw [hrm] at HR ⊢
  clear hrm
  obtain ⟨a1, p1, rfl, _, _, z1⟩ := hK.form
  obtain ⟨a2, p2, rfl, _, _, z2⟩ := id hO
  clear hK hO z1 z2 hft hl hk
  have l1 := load_cm ((Blk.new w 43 (c.cells (.slice a1 c.keys.length p1) (.slice a2 c.boxes.length p2))).alloc (.cells noMem 35)) rfl
  have r0 := Blk.new (w.alloc (.cells (c.cells (.slice a1 c.keys.length p1) (.slice a2 c.boxes.length p2)) 43)) 35 noMem
  rw [World.size_alloc] at r0
  have R := hide r0
  have HB := hide (((Below.refl w.heap.size w).alloc (Nat.le_refl _) (.cells (c.cells (.slice a1 c.keys.length p1) (.slice a2 c.boxes.length p2)) 43)).alloc (by simp) (.cells noMem 35))
  have L1 := hide l1
  clear r0 l1
  go_enter Tryz.func7, Tryz.ntmps7
  go_wp2_with (refine wpList_load_whole rfl 43 _ rfl ⟨w.heap.size, 0, none⟩ rfl _ (by exact unhide L1) ?_)
  refine (HC.out _ (unhide HB)).mono ?_
  rintro e w1 ⟨m, ks', os', ev, rfl, ho1, ho2, hfv, hm, hb⟩
  obtain ⟨k1, k2, rfl⟩ := row_form' ho1
  obtain ⟨o1, o2, rfl⟩ := row_form' ho2
  rw [HRB.out] at hfv hm
  have hsz := HB.out.size
  have K1 : Hid (Own w.heap.size w1 _ m.keys) := row_lowB ho1 hsz
  have O1 : Hid (OwnM w.heap.size w1 _ m.own) := row_lowB ho2 hsz
  replace R := hide ((unhide R).below hb)
  replace HB := hide (HB.out.trans (hb.mono hsz))
  have HM := hide hm
  have HV := hide hfv
  clear ho1 ho2 hb hm hsz L1 HC
  obtain ⟨inn, mw, mk, mo, me, mi, mt⟩ := m
  simp only at K1 O1 ⊢
  generalize hkl : mk.length = kl at *
  generalize hol : mo.length = ol at *
  have hb := (Below.refl w1.heap.size w1).alloc (Nat.le_refl _) (.cells (memC inn mw (.slice k1 kl k2) (.slice o1 ol o2) me mi mt) 35)
  have BM := hide (Blk.new w1 35 (memC inn mw (.slice k1 kl k2) (.slice o1 ol o2) me mi mt))
  have hrl := (unhide R).lt
  replace R := hide ((unhide R).below hb)
  replace K1 := hide (Own.below (unhide K1) hb)
  replace O1 := hide (own_below' (unhide O1) hb : OwnM _ _ _ _)
  replace HB := hide (HB.out.trans (hb.mono HB.out.size))
  clear hb hkl hol
  rcases hfv.1 with rfl | ⟨t, x, rfl⟩
  · have hrt : rb = true := by have := hfv.2; cases rb with | true => rfl | false => cases this
    subst hrt
    rw [if_pos rfl, ← HM.out rfl] at HR
    clear hfv HM HV
    have L9 := hide (load_mm (unhide BM) rfl)
    go_wp2_with (first | refine wpList_load_whole rfl 35 _ rfl ⟨w1.heap.size, 0, none⟩ rfl _ (by exact unhide L9) ?_ | (refine wpList_store_whole rfl 35 (.tmp 8) (.tmp 23) rfl (w.heap.size + 1) (memC inn mw (.slice k1 kl k2) (.slice o1 ol o2) me mi mt) ?hx ?hy 35 noMem ?hb ?hi ?ho ?h1 ?h))
    case hb => exact unhide R
    case hi => exact info_mm
    case ho => rfl
    case h1 => exact (one_mm _ _ _ _ _ _ _ _ _ _ _)
    go_wp2_with fail
    have l2 := load_mm ((unhide R).set (memC inn mw (.slice k1 kl k2) (.slice o1 ol o2) me mi mt)) rfl
    refine bodyPost_ret (v := .tuple #[.agg (memC inn mw (.slice k1 kl k2) (.slice o1 ol o2) me mi mt), .bool true]) (results_cs rfl rfl rfl l2) rfl ?_
    rw [HR.out]
    exact ⟨_, _, rfl, row_blk (unhide K1) (unhide R) (by decide) _, row_blk (unhide O1) (unhide R) (by decide) _, below_blk HB.out (by omega) _⟩
  · have hrt : rb = false := by have := hfv.2; cases rb with | false => rfl | true => cases this
    subst hrt
    rw [if_neg (by simp)] at HR
    clear hfv HM HV
    go_wp2_with (refine wpList_store_whole rfl 35 _ _ rfl (w.heap.size + 1) noMem rfl rfl 35 _ (by exact unhide R) info_mm rfl (one_mm _ _ _ _ _ _ _ _ _ _ _) ?_)
    have l2 := load_mm ((unhide R).set noMem) rfl
    refine bodyPost_ret (v := .tuple #[.agg noMem, .bool false]) (results_cs rfl rfl rfl l2) rfl ?_
    rw [HR.out]
    exact ⟨_, _, rfl, World.ownsRow_nil _ _ _ _, World.ownsRow_nil _ _ _ _, below_blk HB.out (by omega) _⟩
#print axioms iMemJoin_any
end Go.Proofs.YteiojanamkndmaaGreat
