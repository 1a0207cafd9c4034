/-
  The specification's MemJoin.
-/
import Derived.Test.YteiojanamkndmaaGreatFnExactMemJoinB12
import Derived.Test.YteiojanamkndmaaGreatFnExactMemJoinB13
import Derived.Test.YteiojanamkndmaaGreatFnExactMemJoinB9
import Derived.Test.YteiojanamkndmaaGreatFnExactMemJoinB17
import Derived.Test.YteiojanamkndmaaGreatFnExactMemJoinB5
namespace Go.Proofs.YteiojanamkndmaaGreat
open Go.RowKit

theorem ret_join {who : Int} {leaf key : ByteArray} {c : Cmt} {v : Value} (hF : joinB who leaf key c = false) (hv : v = .bool false) : Ending.returned (.tuple #[.agg noMem, v]) = .returned (.tuple #[.agg ((joinR who leaf key c).cells (.slice none 0 0) (.slice none 0 0)), .bool (joinB who leaf key c)]) := by
  unfold joinR
  rw [hF, hv]
  rfl
theorem own_none {who : Int} {leaf key : ByteArray} {c : Cmt} {B : Nat} {w : World} (hF : joinB who leaf key c = false) : Own B w (.slice none 0 0) (joinR who leaf key c).keys := by
  unfold joinR
  rw [hF]
  exact World.ownsRow_nil _ _ _ _
theorem ownM_none {who : Int} {leaf key : ByteArray} {c : Cmt} {B : Nat} {w : World} (hF : joinB who leaf key c = false) : OwnM B w (.slice none 0 0) (joinR who leaf key c).own := by
  unfold joinR
  rw [hF]
  exact World.ownsRow_nil _ _ _ _

theorem ret_joinY {who : Int} {leaf key : ByteArray} {c : Cmt} {ks os : Value} (hF : joinB who leaf key c = true) : Ending.returned (.tuple #[.agg ((joinM who leaf c).cells ks os), .bool true]) = .returned (.tuple #[.agg ((joinR who leaf key c).cells ks os), .bool (joinB who leaf key c)]) := by
  unfold joinR
  rw [hF]
  rfl
theorem own_joinY {who : Int} {leaf key : ByteArray} {c : Cmt} {B : Nat} {w : World} {ks : Value} (hF : joinB who leaf key c = true) (h : Own B w ks c.keys) : Own B w ks (joinR who leaf key c).keys := by
  unfold joinR
  rw [hF]
  exact h
theorem ownM_joinY {who : Int} {leaf key : ByteArray} {c : Cmt} {B : Nat} {w : World} {os : Value} (hF : joinB who leaf key c = true) (h : OwnM B w os (joinOwn who leaf c)) : OwnM B w os (joinR who leaf key c).own := by
  unfold joinR
  rw [hF]
  exact h

set_option maxRecDepth 100000 in
set_option maxHeartbeats 8000000 in
theorem sMemJoin_any (who : Int) (leaf key : ByteArray) (c : Cmt) (ks bs : Value) (w : World) (hK : SRow w ks c.keys) (hO : BRow w bs c.boxes) (hl : leaf.size ≤ maxLen) (hk : key.size ≤ maxLen)
    (hft : (∀ x ∈ c.keys, x.size ≤ maxLen) ∧ (∀ b ∈ c.boxes, b.1.size ≤ maxLen ∧ b.2.size ≤ maxLen) ∧ c.name.size ≤ 2000000 ∧ c.tag.size ≤ 2000000 ∧ c.leaf.size ≤ maxLen ∧ c.wel.key.size ≤ maxLen ∧ c.wel.is.size ≤ maxLen ∧ c.wel.ss.size ≤ maxLen) :
    Calls Tryz.prog 5 #[.int .i64 who, .string leaf, .string key, .agg (c.cells ks bs)] w fun e w' => ∃ ks' os', e = .returned (.tuple #[.agg ((joinR who leaf key c).cells ks' os'), .bool (joinB who leaf key c)]) ∧ Own w.heap.size w' ks' (joinR who leaf key c).keys ∧ OwnM w.heap.size w' os' (joinR who leaf key c).own ∧ Below w.heap.size w w' := by
  have HE : Hid (joinB who leaf key c = _) := joinB_eq who leaf key c
  have FT := hide hft
  have M : Hid (leaf.size ≤ maxLen ∧ key.size ≤ maxLen) := ⟨hl, hk⟩
  obtain ⟨se, tag, name, add, rem, lf, keys, boxes, wk, ik, is, sk, ss⟩ := c
  simp only at hK hO HE FT
  obtain ⟨a1, p1, rfl, _, _, z1⟩ := hK.form
  obtain ⟨a2, p2, rfl, _, _, z2⟩ := id hO
  clear z1 z2 hft hl hk
  have A : Hid (Blk ((w.alloc (.cells (cmtC se tag name add rem lf (.slice a1 keys.length p1) (.slice a2 boxes.length p2) wk ik is sk ss) 43)).alloc (.cells noMem 35)).drew w.heap.size 43 (cmtC se tag name add rem lf (.slice a1 keys.length p1) (.slice a2 boxes.length p2) wk ik is sk ss)) := ((Blk.new w _ _).alloc _).drew
  have r0 := Blk.new (w.alloc (.cells (cmtC se tag name add rem lf (.slice a1 keys.length p1) (.slice a2 boxes.length p2) wk ik is sk ss) 43)) 35 noMem
  rw [World.size_alloc] at r0
  have R := hide r0.drew
  have hb0 := ((((Below.refl w.heap.size w).alloc (Nat.le_refl _) (.cells (cmtC se tag name add rem lf (.slice a1 keys.length p1) (.slice a2 boxes.length p2) wk ik is sk ss) 43)).alloc (by simp) (.cells noMem 35))).drew
  have HK := hide (hK.below hb0)
  have HO := hide (hO.below hb0)
  have HB := hide hb0
  clear hK hO r0 hb0
  obtain ⟨b1, hb1⟩ : ∃ b1, cmtOk ⟨se, tag, name, add, rem, lf, keys, boxes, ⟨wk, ik, is, sk, ss⟩⟩ = b1 := ⟨_, rfl⟩
  rw [hb1] at HE
  have B1 := hide hb1
  clear hb1
  obtain ⟨b4, hb4⟩ : ∃ b4, Kw.ok leaf = b4 := ⟨_, rfl⟩
  rw [hb4] at HE
  have B4 := hide hb4
  clear hb4
  obtain ⟨b5, hb5⟩ : ∃ b5, Kw.ok key = b5 := ⟨_, rfl⟩
  rw [hb5] at HE
  have B5 := hide hb5
  clear hb5
  cases b1 with
  | false =>
    have HF : Hid (joinB who leaf key ⟨se, tag, name, add, rem, lf, keys, boxes, ⟨wk, ik, is, sk, ss⟩⟩ = false) := by show _ = _; rw [HE.out]; rfl
    go_enter Tryz.func5, Tryz.ntmps5
    go_wp2_with fail
    refine wp_region_later (by kernel_rfl) ?_
    refine later_take (i := 0) (d := 14) (v := ?_) (by kernel_rfl) (by kernel_rfl) (by kernel_rfl) (by kernel_rfl) (fun _ _ _ h => h) (fun oi hoi => ?_) ?_
    rotate_left
    · simp at hoi
      subst hoi
      refine ⟨by rfl, fun w' hw' => ?_⟩
      have hx := Blk.below (unhide A) hw'
      have x0 := hx.cell 0
      have x1 := hx.cell 1
      have x2 := hx.cell 2
      have x3 := hx.cell 3
      have x4 := hx.cell 4
      have x5 := hx.cell 5
      have x6 := hx.cell 6
      have x7 := hx.cell 7
      have x8 := hx.cell 8
      have x9 := hx.cell 9
      have x10 := hx.cell 10
      have x11 := hx.cell 11
      have x12 := hx.cell 12
      simp only [List.getElem?_toArray, List.getElem?_cons_succ, List.getElem?_cons_zero] at x0 x1 x2 x3 x4 x5 x6 x7 x8 x9 x10 x11 x12
      go_simp
      all_goals rfl
    try simp only [Act.put, List.setIfInBounds_toArray, List.set_cons_zero, List.set_cons_succ]
    refine later_one (i := 1) (by kernel_rfl) (fun oi K hoi hK => ?_)
    simp at hoi
    subst hoi
    refine ⟨by rfl, ?_⟩
    go_simp
    refine (sCmtOk_any ⟨se, tag, name, add, rem, lf, keys, boxes, ⟨wk, ik, is, sk, ss⟩⟩ _ _ _ (unhide HK) (unhide HO) FT.out.1 FT.out.2.1 FT.out.2.2.1 FT.out.2.2.2.1 FT.out.2.2.2.2.1 FT.out.2.2.2.2.2.1 FT.out.2.2.2.2.2.2.1 FT.out.2.2.2.2.2.2.2).mono ?_
    rw [B1.out]
    rintro e w1 ⟨rfl, hb⟩
    go_simp
    refine hK.out _ _ hb ?_
    clear hK
    replace A := hide ((unhide A).below hb)
    replace R := hide ((unhide R).below hb)
    replace HK := hide ((unhide HK).below hb)
    replace HO := hide ((unhide HO).below hb)
    replace HB := hide (HB.out.trans (hb.mono HB.out.size))
    clear hb
    try simp only [Act.put, List.setIfInBounds_toArray, List.set_cons_zero, List.set_cons_succ]
    refine later_take (i := 2) (d := 16) (v := ?_) (by kernel_rfl) (by kernel_rfl) (by kernel_rfl) (by kernel_rfl) (fun _ _ _ h => h) (fun oi hoi => ?_) ?_
    rotate_left
    · simp at hoi
      subst hoi
      refine ⟨by rfl, fun w' hw' => ?_⟩
      go_simp
      all_goals rfl
    try simp only [Act.put, List.setIfInBounds_toArray, List.set_cons_zero, List.set_cons_succ]
    refine later_take (i := 3) (d := 17) (v := ?_) (by kernel_rfl) (by kernel_rfl) (by kernel_rfl) (by kernel_rfl) (fun _ _ _ h => h) (fun oi hoi => ?_) ?_
    rotate_left
    · simp at hoi
      subst hoi
      refine ⟨by rfl, fun w' hw' => ?_⟩
      go_simp
      all_goals rfl
    try simp only [Act.put, List.setIfInBounds_toArray, List.set_cons_zero, List.set_cons_succ]
    refine later_skip (i := 4) (d := 18) (by kernel_rfl) (by kernel_rfl) (by kernel_rfl) (by kernel_rfl) (fun _ _ _ h => h) (by rfl) ?_
    try simp only [Act.put, List.setIfInBounds_toArray, List.set_cons_zero, List.set_cons_succ]
    refine later_skip (i := 5) (d := 19) (by kernel_rfl) (by kernel_rfl) (by kernel_rfl) (by kernel_rfl) (fun _ _ _ h => h) (by rfl) ?_
    try simp only [Act.put, List.setIfInBounds_toArray, List.set_cons_zero, List.set_cons_succ]
    refine later_skip (i := 6) (d := 20) (by kernel_rfl) (by kernel_rfl) (by kernel_rfl) (by kernel_rfl) (fun _ _ _ h => h) (by rfl) ?_
    try simp only [Act.put, List.setIfInBounds_toArray, List.set_cons_zero, List.set_cons_succ]
    refine later_take (i := 7) (d := 21) (v := ?_) (by kernel_rfl) (by kernel_rfl) (by kernel_rfl) (by kernel_rfl) (fun _ _ _ h => h) (fun oi hoi => ?_) ?_
    rotate_left
    · simp at hoi
      subst hoi
      refine ⟨by rfl, fun w' hw' => ?_⟩
      go_simp
      all_goals rfl
    try simp only [Act.put, List.setIfInBounds_toArray, List.set_cons_zero, List.set_cons_succ]
    refine later_take (i := 8) (d := 22) (v := ?_) (by kernel_rfl) (by kernel_rfl) (by kernel_rfl) (by kernel_rfl) (fun _ _ _ h => h) (fun oi hoi => ?_) ?_
    rotate_left
    · simp at hoi
      subst hoi
      refine ⟨by rfl, fun w' hw' => ?_⟩
      go_simp
      all_goals rfl
    try simp only [Act.put, List.setIfInBounds_toArray, List.set_cons_zero, List.set_cons_succ]
    refine later_skip (i := 9) (d := 23) (by kernel_rfl) (by kernel_rfl) (by kernel_rfl) (by kernel_rfl) (fun _ _ _ h => h) (by rfl) ?_
    try simp only [Act.put, List.setIfInBounds_toArray, List.set_cons_zero, List.set_cons_succ]
    refine later_skip (i := 10) (d := 24) (by kernel_rfl) (by kernel_rfl) (by kernel_rfl) (by kernel_rfl) (fun _ _ _ h => h) (by rfl) ?_
    try simp only [Act.put, List.setIfInBounds_toArray, List.set_cons_zero, List.set_cons_succ]
    refine later_skip (i := 11) (d := 25) (by kernel_rfl) (by kernel_rfl) (by kernel_rfl) (by kernel_rfl) (fun _ _ _ h => h) (by rfl) ?_
    try simp only [Act.put, List.setIfInBounds_toArray, List.set_cons_zero, List.set_cons_succ]
    refine later_skip (i := 12) (d := 26) (by kernel_rfl) (by kernel_rfl) (by kernel_rfl) (by kernel_rfl) (fun _ _ _ h => h) (by rfl) ?_
    try simp only [Act.put, List.setIfInBounds_toArray, List.set_cons_zero, List.set_cons_succ]
    refine later_take (i := 13) (d := 27) (v := ?_) (by kernel_rfl) (by kernel_rfl) (by kernel_rfl) (by kernel_rfl) (fun _ _ _ h => h) (fun oi hoi => ?_) ?_
    rotate_left
    · simp at hoi
      subst hoi
      refine ⟨by rfl, fun w' hw' => ?_⟩
      go_simp
      all_goals rfl
    try simp only [Act.put, List.setIfInBounds_toArray, List.set_cons_zero, List.set_cons_succ]
    refine later_take (i := 14) (d := 28) (v := ?_) (by kernel_rfl) (by kernel_rfl) (by kernel_rfl) (by kernel_rfl) (fun _ _ _ h => h) (fun oi hoi => ?_) ?_
    rotate_left
    · simp at hoi
      subst hoi
      refine ⟨by rfl, fun w' hw' => ?_⟩
      go_simp
      all_goals rfl
    try simp only [Act.put, List.setIfInBounds_toArray, List.set_cons_zero, List.set_cons_succ]
    refine later_skip (i := 15) (d := 29) (by kernel_rfl) (by kernel_rfl) (by kernel_rfl) (by kernel_rfl) (fun _ _ _ h => h) (by rfl) ?_
    try simp only [Act.put, List.setIfInBounds_toArray, List.set_cons_zero, List.set_cons_succ]
    refine later_skip (i := 16) (d := 30) (by kernel_rfl) (by kernel_rfl) (by kernel_rfl) (by kernel_rfl) (fun _ _ _ h => h) (by rfl) ?_
    try simp only [Act.put, List.setIfInBounds_toArray, List.set_cons_zero, List.set_cons_succ]
    refine later_skip (i := 17) (d := 31) (by kernel_rfl) (by kernel_rfl) (by kernel_rfl) (by kernel_rfl) (fun _ _ _ h => h) (by rfl) ?_
    try simp only [Act.put, List.setIfInBounds_toArray, List.set_cons_zero, List.set_cons_succ]
    refine later_take (i := 18) (d := 32) (v := ?_) (by kernel_rfl) (by kernel_rfl) (by kernel_rfl) (by kernel_rfl) (fun _ _ _ h => h) (fun oi hoi => ?_) ?_
    rotate_left
    · simp at hoi
      subst hoi
      refine ⟨by rfl, fun w' hw' => ?_⟩
      go_simp
      all_goals rfl
    try simp only [Act.put, List.setIfInBounds_toArray, List.set_cons_zero, List.set_cons_succ]
    refine later_take (i := 19) (d := 33) (v := ?_) (by kernel_rfl) (by kernel_rfl) (by kernel_rfl) (by kernel_rfl) (fun _ _ _ h => h) (fun oi hoi => ?_) ?_
    rotate_left
    · simp at hoi
      subst hoi
      refine ⟨by rfl, fun w' hw' => ?_⟩
      go_simp
      all_goals rfl
    try simp only [Act.put, List.setIfInBounds_toArray, List.set_cons_zero, List.set_cons_succ]
    refine later_skip (i := 20) (d := 34) (by kernel_rfl) (by kernel_rfl) (by kernel_rfl) (by kernel_rfl) (fun _ _ _ h => h) (by rfl) ?_
    try simp only [Act.put, List.setIfInBounds_toArray, List.set_cons_zero, List.set_cons_succ]
    refine later_skip (i := 21) (d := 35) (by kernel_rfl) (by kernel_rfl) (by kernel_rfl) (by kernel_rfl) (fun _ _ _ h => h) (by rfl) ?_
    try simp only [Act.put, List.setIfInBounds_toArray, List.set_cons_zero, List.set_cons_succ]
    refine later_skip (i := 22) (d := 36) (by kernel_rfl) (by kernel_rfl) (by kernel_rfl) (by kernel_rfl) (fun _ _ _ h => h) (by rfl) ?_
    try simp only [Act.put, List.setIfInBounds_toArray, List.set_cons_zero, List.set_cons_succ]
    refine later_take (i := 23) (d := 37) (v := ?_) (by kernel_rfl) (by kernel_rfl) (by kernel_rfl) (by kernel_rfl) (fun _ _ _ h => h) (fun oi hoi => ?_) ?_
    rotate_left
    · simp at hoi
      subst hoi
      refine ⟨by rfl, fun w' hw' => ?_⟩
      go_simp
      all_goals rfl
    try simp only [Act.put, List.setIfInBounds_toArray, List.set_cons_zero, List.set_cons_succ]
    refine later_take (i := 24) (d := 38) (v := ?_) (by kernel_rfl) (by kernel_rfl) (by kernel_rfl) (by kernel_rfl) (fun _ _ _ h => h) (fun oi hoi => ?_) ?_
    rotate_left
    · simp at hoi
      subst hoi
      refine ⟨by rfl, fun w' hw' => ?_⟩
      go_simp
      all_goals rfl
    try simp only [Act.put, List.setIfInBounds_toArray, List.set_cons_zero, List.set_cons_succ]
    refine later_skip (i := 25) (d := 39) (by kernel_rfl) (by kernel_rfl) (by kernel_rfl) (by kernel_rfl) (fun _ _ _ h => h) (by rfl) ?_
    try simp only [Act.put, List.setIfInBounds_toArray, List.set_cons_zero, List.set_cons_succ]
    refine later_skip (i := 26) (d := 40) (by kernel_rfl) (by kernel_rfl) (by kernel_rfl) (by kernel_rfl) (fun _ _ _ h => h) (by rfl) ?_
    try simp only [Act.put, List.setIfInBounds_toArray, List.set_cons_zero, List.set_cons_succ]
    refine later_skip (i := 27) (d := 41) (by kernel_rfl) (by kernel_rfl) (by kernel_rfl) (by kernel_rfl) (fun _ _ _ h => h) (by rfl) ?_
    try simp only [Act.put, List.setIfInBounds_toArray, List.set_cons_zero, List.set_cons_succ]
    refine later_skip (i := 28) (d := 42) (by kernel_rfl) (by kernel_rfl) (by kernel_rfl) (by kernel_rfl) (fun _ _ _ h => h) (by rfl) ?_
    try simp only [Act.put, List.setIfInBounds_toArray, List.set_cons_zero, List.set_cons_succ]
    refine later_skip (i := 29) (d := 43) (by kernel_rfl) (by kernel_rfl) (by kernel_rfl) (by kernel_rfl) (fun _ _ _ h => h) (by rfl) ?_
    try simp only [Act.put, List.setIfInBounds_toArray, List.set_cons_zero, List.set_cons_succ]
    refine later_take (i := 30) (d := 44) (v := ?_) (by kernel_rfl) (by kernel_rfl) (by kernel_rfl) (by kernel_rfl) (fun _ _ _ h => h) (fun oi hoi => ?_) ?_
    rotate_left
    · simp at hoi
      subst hoi
      refine ⟨by rfl, fun w' hw' => ?_⟩
      go_simp
      all_goals rfl
    try simp only [Act.put, List.setIfInBounds_toArray, List.set_cons_zero, List.set_cons_succ]
    refine later_take (i := 31) (d := 45) (v := ?_) (by kernel_rfl) (by kernel_rfl) (by kernel_rfl) (by kernel_rfl) (fun _ _ _ h => h) (fun oi hoi => ?_) ?_
    rotate_left
    · simp at hoi
      subst hoi
      refine ⟨by rfl, fun w' hw' => ?_⟩
      go_simp
      all_goals rfl
    try simp only [Act.put, List.setIfInBounds_toArray, List.set_cons_zero, List.set_cons_succ]
    refine later_skip (i := 32) (d := 46) (by kernel_rfl) (by kernel_rfl) (by kernel_rfl) (by kernel_rfl) (fun _ _ _ h => h) (by rfl) ?_
    try simp only [Act.put, List.setIfInBounds_toArray, List.set_cons_zero, List.set_cons_succ]
    refine later_skip (i := 33) (d := 47) (by kernel_rfl) (by kernel_rfl) (by kernel_rfl) (by kernel_rfl) (fun _ _ _ h => h) (by rfl) ?_
    try simp only [Act.put, List.setIfInBounds_toArray, List.set_cons_zero, List.set_cons_succ]
    refine later_skip (i := 34) (d := 48) (by kernel_rfl) (by kernel_rfl) (by kernel_rfl) (by kernel_rfl) (fun _ _ _ h => h) (by rfl) ?_
    try simp only [Act.put, List.setIfInBounds_toArray, List.set_cons_zero, List.set_cons_succ]
    refine later_skip (i := 35) (d := 49) (by kernel_rfl) (by kernel_rfl) (by kernel_rfl) (by kernel_rfl) (fun _ _ _ h => h) (by rfl) ?_
    try simp only [Act.put, List.setIfInBounds_toArray, List.set_cons_zero, List.set_cons_succ]
    refine later_skip (i := 36) (d := 50) (by kernel_rfl) (by kernel_rfl) (by kernel_rfl) (by kernel_rfl) (fun _ _ _ h => h) (by rfl) ?_
    try simp only [Act.put, List.setIfInBounds_toArray, List.set_cons_zero, List.set_cons_succ]
    refine later_skip (i := 37) (d := 51) (by kernel_rfl) (by kernel_rfl) (by kernel_rfl) (by kernel_rfl) (fun _ _ _ h => h) (by rfl) ?_
    try simp only [Act.put, List.setIfInBounds_toArray, List.set_cons_zero, List.set_cons_succ]
    refine later_take (i := 38) (d := 52) (v := ?_) (by kernel_rfl) (by kernel_rfl) (by kernel_rfl) (by kernel_rfl) (fun _ _ _ h => h) (fun oi hoi => ?_) ?_
    rotate_left
    · simp at hoi
      subst hoi
      refine ⟨by rfl, fun w' hw' => ?_⟩
      go_simp
      all_goals rfl
    try simp only [Act.put, List.setIfInBounds_toArray, List.set_cons_zero, List.set_cons_succ]
    refine later_done (by kernel_rfl) ?_ _
    go_wp2_with (refine wpList_store_whole rfl 35 _ _ rfl (w.heap.size + 1) noMem rfl rfl 35 _ (by exact unhide R) info_mm rfl (one_mm _ _ _ _ _ _ _ _ _ _ _) ?_)
    have l2 := load_mm ((unhide R).set noMem) rfl
    refine bodyPost_ret (v := .tuple #[.agg noMem, .bool false]) (results_cs rfl rfl rfl l2) rfl ?_
    exact ⟨_, _, ret_join HF.out rfl, own_none HF.out, ownM_none HF.out, below_blk HB.out (by omega) _⟩
  | true =>
    simp only [Bool.true_and] at HE
    by_cases ha : add < 0
    · rw [show decide (add < 0) = true by simpa using ha] at HE
      simp only [Bool.not_true] at HE
      have ha3 : decide (add < 0) = true := by simpa using ha
      have HF : Hid (joinB who leaf key ⟨se, tag, name, add, rem, lf, keys, boxes, ⟨wk, ik, is, sk, ss⟩⟩ = false) := by show _ = _; rw [HE.out]; rfl
      go_enter Tryz.func5, Tryz.ntmps5
      go_wp2_with fail
      refine wp_region_later (by kernel_rfl) ?_
      refine later_take (i := 0) (d := 14) (v := ?_) (by kernel_rfl) (by kernel_rfl) (by kernel_rfl) (by kernel_rfl) (fun _ _ _ h => h) (fun oi hoi => ?_) ?_
      rotate_left
      · simp at hoi
        subst hoi
        refine ⟨by rfl, fun w' hw' => ?_⟩
        have hx := Blk.below (unhide A) hw'
        have x0 := hx.cell 0
        have x1 := hx.cell 1
        have x2 := hx.cell 2
        have x3 := hx.cell 3
        have x4 := hx.cell 4
        have x5 := hx.cell 5
        have x6 := hx.cell 6
        have x7 := hx.cell 7
        have x8 := hx.cell 8
        have x9 := hx.cell 9
        have x10 := hx.cell 10
        have x11 := hx.cell 11
        have x12 := hx.cell 12
        simp only [List.getElem?_toArray, List.getElem?_cons_succ, List.getElem?_cons_zero] at x0 x1 x2 x3 x4 x5 x6 x7 x8 x9 x10 x11 x12
        go_simp
        all_goals rfl
      try simp only [Act.put, List.setIfInBounds_toArray, List.set_cons_zero, List.set_cons_succ]
      refine later_one (i := 1) (by kernel_rfl) (fun oi K hoi hK => ?_)
      simp at hoi
      subst hoi
      refine ⟨by rfl, ?_⟩
      go_simp
      refine (sCmtOk_any ⟨se, tag, name, add, rem, lf, keys, boxes, ⟨wk, ik, is, sk, ss⟩⟩ _ _ _ (unhide HK) (unhide HO) FT.out.1 FT.out.2.1 FT.out.2.2.1 FT.out.2.2.2.1 FT.out.2.2.2.2.1 FT.out.2.2.2.2.2.1 FT.out.2.2.2.2.2.2.1 FT.out.2.2.2.2.2.2.2).mono ?_
      rw [B1.out]
      rintro e w1 ⟨rfl, hb⟩
      go_simp
      refine hK.out _ _ hb ?_
      clear hK
      replace A := hide ((unhide A).below hb)
      replace R := hide ((unhide R).below hb)
      replace HK := hide ((unhide HK).below hb)
      replace HO := hide ((unhide HO).below hb)
      replace HB := hide (HB.out.trans (hb.mono HB.out.size))
      clear hb
      try simp only [Act.put, List.setIfInBounds_toArray, List.set_cons_zero, List.set_cons_succ]
      refine later_take (i := 2) (d := 16) (v := ?_) (by kernel_rfl) (by kernel_rfl) (by kernel_rfl) (by kernel_rfl) (fun _ _ _ h => h) (fun oi hoi => ?_) ?_
      rotate_left
      · simp at hoi
        subst hoi
        refine ⟨by rfl, fun w' hw' => ?_⟩
        go_simp
        all_goals rfl
      try simp only [Act.put, List.setIfInBounds_toArray, List.set_cons_zero, List.set_cons_succ]
      refine later_take (i := 3) (d := 17) (v := ?_) (by kernel_rfl) (by kernel_rfl) (by kernel_rfl) (by kernel_rfl) (fun _ _ _ h => h) (fun oi hoi => ?_) ?_
      rotate_left
      · simp at hoi
        subst hoi
        refine ⟨by rfl, fun w' hw' => ?_⟩
        go_simp
        all_goals rfl
      try simp only [Act.put, List.setIfInBounds_toArray, List.set_cons_zero, List.set_cons_succ]
      refine later_take (i := 4) (d := 18) (v := ?_) (by kernel_rfl) (by kernel_rfl) (by kernel_rfl) (by kernel_rfl) (fun _ _ _ h => h) (fun oi hoi => ?_) ?_
      rotate_left
      · simp at hoi
        subst hoi
        refine ⟨by rfl, fun w' hw' => ?_⟩
        go_simp
        all_goals rfl
      try simp only [Act.put, List.setIfInBounds_toArray, List.set_cons_zero, List.set_cons_succ]
      refine later_take (i := 5) (d := 19) (v := ?_) (by kernel_rfl) (by kernel_rfl) (by kernel_rfl) (by kernel_rfl) (fun _ _ _ h => h) (fun oi hoi => ?_) ?_
      rotate_left
      · simp at hoi
        subst hoi
        refine ⟨by rfl, fun w' hw' => ?_⟩
        have hx := Blk.below (unhide A) hw'
        have x3 := hx.cell 3
        simp only [List.getElem?_toArray, List.getElem?_cons_succ, List.getElem?_cons_zero] at x3
        go_simp
        all_goals rfl
      try simp only [Act.put, List.setIfInBounds_toArray, List.set_cons_zero, List.set_cons_succ]
      refine later_take (i := 6) (d := 20) (v := ?_) (by kernel_rfl) (by kernel_rfl) (by kernel_rfl) (by kernel_rfl) (fun _ _ _ h => h) (fun oi hoi => ?_) ?_
      rotate_left
      · simp at hoi
        subst hoi
        refine ⟨by rfl, fun w' hw' => ?_⟩
        go_simp
        all_goals rfl
      try simp only [Act.put, List.setIfInBounds_toArray, List.set_cons_zero, List.set_cons_succ]
      refine later_take (i := 7) (d := 21) (v := ?_) (by kernel_rfl) (by kernel_rfl) (by kernel_rfl) (by kernel_rfl) (fun _ _ _ h => h) (fun oi hoi => ?_) ?_
      rotate_left
      · simp at hoi
        subst hoi
        refine ⟨by rfl, fun w' hw' => ?_⟩
        go_simp
        all_goals rfl
      try simp only [Act.put, List.setIfInBounds_toArray, List.set_cons_zero, List.set_cons_succ]
      refine later_take (i := 8) (d := 22) (v := ?_) (by kernel_rfl) (by kernel_rfl) (by kernel_rfl) (by kernel_rfl) (fun _ _ _ h => h) (fun oi hoi => ?_) ?_
      rotate_left
      · simp at hoi
        subst hoi
        refine ⟨by rfl, fun w' hw' => ?_⟩
        go_simp
        all_goals rfl
      try simp only [Act.put, List.setIfInBounds_toArray, List.set_cons_zero, List.set_cons_succ]
      refine later_skip (i := 9) (d := 23) (by kernel_rfl) (by kernel_rfl) (by kernel_rfl) (by kernel_rfl) (fun _ _ _ h => h) (by rfl) ?_
      try simp only [Act.put, List.setIfInBounds_toArray, List.set_cons_zero, List.set_cons_succ]
      refine later_skip (i := 10) (d := 24) (by kernel_rfl) (by kernel_rfl) (by kernel_rfl) (by kernel_rfl) (fun _ _ _ h => h) (by rfl) ?_
      try simp only [Act.put, List.setIfInBounds_toArray, List.set_cons_zero, List.set_cons_succ]
      refine later_skip (i := 11) (d := 25) (by kernel_rfl) (by kernel_rfl) (by kernel_rfl) (by kernel_rfl) (fun _ _ _ h => h) (by rfl) ?_
      try simp only [Act.put, List.setIfInBounds_toArray, List.set_cons_zero, List.set_cons_succ]
      refine later_skip (i := 12) (d := 26) (by kernel_rfl) (by kernel_rfl) (by kernel_rfl) (by kernel_rfl) (fun _ _ _ h => h) (by rfl) ?_
      try simp only [Act.put, List.setIfInBounds_toArray, List.set_cons_zero, List.set_cons_succ]
      refine later_take (i := 13) (d := 27) (v := ?_) (by kernel_rfl) (by kernel_rfl) (by kernel_rfl) (by kernel_rfl) (fun _ _ _ h => h) (fun oi hoi => ?_) ?_
      rotate_left
      · simp at hoi
        subst hoi
        refine ⟨by rfl, fun w' hw' => ?_⟩
        go_simp
        all_goals rfl
      try simp only [Act.put, List.setIfInBounds_toArray, List.set_cons_zero, List.set_cons_succ]
      refine later_take (i := 14) (d := 28) (v := ?_) (by kernel_rfl) (by kernel_rfl) (by kernel_rfl) (by kernel_rfl) (fun _ _ _ h => h) (fun oi hoi => ?_) ?_
      rotate_left
      · simp at hoi
        subst hoi
        refine ⟨by rfl, fun w' hw' => ?_⟩
        go_simp
        all_goals rfl
      try simp only [Act.put, List.setIfInBounds_toArray, List.set_cons_zero, List.set_cons_succ]
      refine later_skip (i := 15) (d := 29) (by kernel_rfl) (by kernel_rfl) (by kernel_rfl) (by kernel_rfl) (fun _ _ _ h => h) (by rfl) ?_
      try simp only [Act.put, List.setIfInBounds_toArray, List.set_cons_zero, List.set_cons_succ]
      refine later_skip (i := 16) (d := 30) (by kernel_rfl) (by kernel_rfl) (by kernel_rfl) (by kernel_rfl) (fun _ _ _ h => h) (by rfl) ?_
      try simp only [Act.put, List.setIfInBounds_toArray, List.set_cons_zero, List.set_cons_succ]
      refine later_skip (i := 17) (d := 31) (by kernel_rfl) (by kernel_rfl) (by kernel_rfl) (by kernel_rfl) (fun _ _ _ h => h) (by rfl) ?_
      try simp only [Act.put, List.setIfInBounds_toArray, List.set_cons_zero, List.set_cons_succ]
      refine later_take (i := 18) (d := 32) (v := ?_) (by kernel_rfl) (by kernel_rfl) (by kernel_rfl) (by kernel_rfl) (fun _ _ _ h => h) (fun oi hoi => ?_) ?_
      rotate_left
      · simp at hoi
        subst hoi
        refine ⟨by rfl, fun w' hw' => ?_⟩
        go_simp
        all_goals rfl
      try simp only [Act.put, List.setIfInBounds_toArray, List.set_cons_zero, List.set_cons_succ]
      refine later_take (i := 19) (d := 33) (v := ?_) (by kernel_rfl) (by kernel_rfl) (by kernel_rfl) (by kernel_rfl) (fun _ _ _ h => h) (fun oi hoi => ?_) ?_
      rotate_left
      · simp at hoi
        subst hoi
        refine ⟨by rfl, fun w' hw' => ?_⟩
        go_simp
        all_goals rfl
      try simp only [Act.put, List.setIfInBounds_toArray, List.set_cons_zero, List.set_cons_succ]
      refine later_skip (i := 20) (d := 34) (by kernel_rfl) (by kernel_rfl) (by kernel_rfl) (by kernel_rfl) (fun _ _ _ h => h) (by rfl) ?_
      try simp only [Act.put, List.setIfInBounds_toArray, List.set_cons_zero, List.set_cons_succ]
      refine later_skip (i := 21) (d := 35) (by kernel_rfl) (by kernel_rfl) (by kernel_rfl) (by kernel_rfl) (fun _ _ _ h => h) (by rfl) ?_
      try simp only [Act.put, List.setIfInBounds_toArray, List.set_cons_zero, List.set_cons_succ]
      refine later_skip (i := 22) (d := 36) (by kernel_rfl) (by kernel_rfl) (by kernel_rfl) (by kernel_rfl) (fun _ _ _ h => h) (by rfl) ?_
      try simp only [Act.put, List.setIfInBounds_toArray, List.set_cons_zero, List.set_cons_succ]
      refine later_take (i := 23) (d := 37) (v := ?_) (by kernel_rfl) (by kernel_rfl) (by kernel_rfl) (by kernel_rfl) (fun _ _ _ h => h) (fun oi hoi => ?_) ?_
      rotate_left
      · simp at hoi
        subst hoi
        refine ⟨by rfl, fun w' hw' => ?_⟩
        go_simp
        all_goals rfl
      try simp only [Act.put, List.setIfInBounds_toArray, List.set_cons_zero, List.set_cons_succ]
      refine later_take (i := 24) (d := 38) (v := ?_) (by kernel_rfl) (by kernel_rfl) (by kernel_rfl) (by kernel_rfl) (fun _ _ _ h => h) (fun oi hoi => ?_) ?_
      rotate_left
      · simp at hoi
        subst hoi
        refine ⟨by rfl, fun w' hw' => ?_⟩
        go_simp
        all_goals rfl
      try simp only [Act.put, List.setIfInBounds_toArray, List.set_cons_zero, List.set_cons_succ]
      refine later_skip (i := 25) (d := 39) (by kernel_rfl) (by kernel_rfl) (by kernel_rfl) (by kernel_rfl) (fun _ _ _ h => h) (by rfl) ?_
      try simp only [Act.put, List.setIfInBounds_toArray, List.set_cons_zero, List.set_cons_succ]
      refine later_skip (i := 26) (d := 40) (by kernel_rfl) (by kernel_rfl) (by kernel_rfl) (by kernel_rfl) (fun _ _ _ h => h) (by rfl) ?_
      try simp only [Act.put, List.setIfInBounds_toArray, List.set_cons_zero, List.set_cons_succ]
      refine later_skip (i := 27) (d := 41) (by kernel_rfl) (by kernel_rfl) (by kernel_rfl) (by kernel_rfl) (fun _ _ _ h => h) (by rfl) ?_
      try simp only [Act.put, List.setIfInBounds_toArray, List.set_cons_zero, List.set_cons_succ]
      refine later_skip (i := 28) (d := 42) (by kernel_rfl) (by kernel_rfl) (by kernel_rfl) (by kernel_rfl) (fun _ _ _ h => h) (by rfl) ?_
      try simp only [Act.put, List.setIfInBounds_toArray, List.set_cons_zero, List.set_cons_succ]
      refine later_skip (i := 29) (d := 43) (by kernel_rfl) (by kernel_rfl) (by kernel_rfl) (by kernel_rfl) (fun _ _ _ h => h) (by rfl) ?_
      try simp only [Act.put, List.setIfInBounds_toArray, List.set_cons_zero, List.set_cons_succ]
      refine later_take (i := 30) (d := 44) (v := ?_) (by kernel_rfl) (by kernel_rfl) (by kernel_rfl) (by kernel_rfl) (fun _ _ _ h => h) (fun oi hoi => ?_) ?_
      rotate_left
      · simp at hoi
        subst hoi
        refine ⟨by rfl, fun w' hw' => ?_⟩
        go_simp
        all_goals rfl
      try simp only [Act.put, List.setIfInBounds_toArray, List.set_cons_zero, List.set_cons_succ]
      refine later_take (i := 31) (d := 45) (v := ?_) (by kernel_rfl) (by kernel_rfl) (by kernel_rfl) (by kernel_rfl) (fun _ _ _ h => h) (fun oi hoi => ?_) ?_
      rotate_left
      · simp at hoi
        subst hoi
        refine ⟨by rfl, fun w' hw' => ?_⟩
        go_simp
        all_goals rfl
      try simp only [Act.put, List.setIfInBounds_toArray, List.set_cons_zero, List.set_cons_succ]
      refine later_skip (i := 32) (d := 46) (by kernel_rfl) (by kernel_rfl) (by kernel_rfl) (by kernel_rfl) (fun _ _ _ h => h) (by rfl) ?_
      try simp only [Act.put, List.setIfInBounds_toArray, List.set_cons_zero, List.set_cons_succ]
      refine later_skip (i := 33) (d := 47) (by kernel_rfl) (by kernel_rfl) (by kernel_rfl) (by kernel_rfl) (fun _ _ _ h => h) (by rfl) ?_
      try simp only [Act.put, List.setIfInBounds_toArray, List.set_cons_zero, List.set_cons_succ]
      refine later_skip (i := 34) (d := 48) (by kernel_rfl) (by kernel_rfl) (by kernel_rfl) (by kernel_rfl) (fun _ _ _ h => h) (by rfl) ?_
      try simp only [Act.put, List.setIfInBounds_toArray, List.set_cons_zero, List.set_cons_succ]
      refine later_skip (i := 35) (d := 49) (by kernel_rfl) (by kernel_rfl) (by kernel_rfl) (by kernel_rfl) (fun _ _ _ h => h) (by rfl) ?_
      try simp only [Act.put, List.setIfInBounds_toArray, List.set_cons_zero, List.set_cons_succ]
      refine later_skip (i := 36) (d := 50) (by kernel_rfl) (by kernel_rfl) (by kernel_rfl) (by kernel_rfl) (fun _ _ _ h => h) (by rfl) ?_
      try simp only [Act.put, List.setIfInBounds_toArray, List.set_cons_zero, List.set_cons_succ]
      refine later_skip (i := 37) (d := 51) (by kernel_rfl) (by kernel_rfl) (by kernel_rfl) (by kernel_rfl) (fun _ _ _ h => h) (by rfl) ?_
      try simp only [Act.put, List.setIfInBounds_toArray, List.set_cons_zero, List.set_cons_succ]
      refine later_take (i := 38) (d := 52) (v := ?_) (by kernel_rfl) (by kernel_rfl) (by kernel_rfl) (by kernel_rfl) (fun _ _ _ h => h) (fun oi hoi => ?_) ?_
      rotate_left
      · simp at hoi
        subst hoi
        refine ⟨by rfl, fun w' hw' => ?_⟩
        go_simp
        all_goals rfl
      try simp only [Act.put, List.setIfInBounds_toArray, List.set_cons_zero, List.set_cons_succ]
      refine later_done (by kernel_rfl) ?_ _
      go_wp2_with (refine wpList_store_whole rfl 35 _ _ rfl (w.heap.size + 1) noMem rfl rfl 35 _ (by exact unhide R) info_mm rfl (one_mm _ _ _ _ _ _ _ _ _ _ _) ?_)
      have l2 := load_mm ((unhide R).set noMem) rfl
      refine bodyPost_ret (v := .tuple #[.agg noMem, .bool false]) (results_cs rfl rfl rfl l2) rfl ?_
      exact ⟨_, _, ret_join HF.out rfl, own_none HF.out, ownM_none HF.out, below_blk HB.out (by omega) _⟩
    have ha2 : decide (add < 0) = false := by simpa using ha
    rw [ha2] at HE
    simp only [Bool.not_false, Bool.true_and] at HE
    by_cases hw : add = who
    rotate_left
    · rw [show decide (add = who) = false by simpa using hw] at HE
      have hw2 : (add != who) = true := by simpa using hw
      have hw3 : (add == who) = false := by simpa using hw
      clear hw
      have HF : Hid (joinB who leaf key ⟨se, tag, name, add, rem, lf, keys, boxes, ⟨wk, ik, is, sk, ss⟩⟩ = false) := by show _ = _; rw [HE.out]; rfl
      go_enter Tryz.func5, Tryz.ntmps5
      go_wp2_with fail
      refine wp_region_later (by kernel_rfl) ?_
      refine later_take (i := 0) (d := 14) (v := ?_) (by kernel_rfl) (by kernel_rfl) (by kernel_rfl) (by kernel_rfl) (fun _ _ _ h => h) (fun oi hoi => ?_) ?_
      rotate_left
      · simp at hoi
        subst hoi
        refine ⟨by rfl, fun w' hw' => ?_⟩
        have hx := Blk.below (unhide A) hw'
        have x0 := hx.cell 0
        have x1 := hx.cell 1
        have x2 := hx.cell 2
        have x3 := hx.cell 3
        have x4 := hx.cell 4
        have x5 := hx.cell 5
        have x6 := hx.cell 6
        have x7 := hx.cell 7
        have x8 := hx.cell 8
        have x9 := hx.cell 9
        have x10 := hx.cell 10
        have x11 := hx.cell 11
        have x12 := hx.cell 12
        simp only [List.getElem?_toArray, List.getElem?_cons_succ, List.getElem?_cons_zero] at x0 x1 x2 x3 x4 x5 x6 x7 x8 x9 x10 x11 x12
        go_simp
        all_goals rfl
      try simp only [Act.put, List.setIfInBounds_toArray, List.set_cons_zero, List.set_cons_succ]
      refine later_one (i := 1) (by kernel_rfl) (fun oi K hoi hK => ?_)
      simp at hoi
      subst hoi
      refine ⟨by rfl, ?_⟩
      go_simp
      refine (sCmtOk_any ⟨se, tag, name, add, rem, lf, keys, boxes, ⟨wk, ik, is, sk, ss⟩⟩ _ _ _ (unhide HK) (unhide HO) FT.out.1 FT.out.2.1 FT.out.2.2.1 FT.out.2.2.2.1 FT.out.2.2.2.2.1 FT.out.2.2.2.2.2.1 FT.out.2.2.2.2.2.2.1 FT.out.2.2.2.2.2.2.2).mono ?_
      rw [B1.out]
      rintro e w1 ⟨rfl, hb⟩
      go_simp
      refine hK.out _ _ hb ?_
      clear hK
      replace A := hide ((unhide A).below hb)
      replace R := hide ((unhide R).below hb)
      replace HK := hide ((unhide HK).below hb)
      replace HO := hide ((unhide HO).below hb)
      replace HB := hide (HB.out.trans (hb.mono HB.out.size))
      clear hb
      try simp only [Act.put, List.setIfInBounds_toArray, List.set_cons_zero, List.set_cons_succ]
      refine later_take (i := 2) (d := 16) (v := ?_) (by kernel_rfl) (by kernel_rfl) (by kernel_rfl) (by kernel_rfl) (fun _ _ _ h => h) (fun oi hoi => ?_) ?_
      rotate_left
      · simp at hoi
        subst hoi
        refine ⟨by rfl, fun w' hw' => ?_⟩
        go_simp
        all_goals rfl
      try simp only [Act.put, List.setIfInBounds_toArray, List.set_cons_zero, List.set_cons_succ]
      refine later_take (i := 3) (d := 17) (v := ?_) (by kernel_rfl) (by kernel_rfl) (by kernel_rfl) (by kernel_rfl) (fun _ _ _ h => h) (fun oi hoi => ?_) ?_
      rotate_left
      · simp at hoi
        subst hoi
        refine ⟨by rfl, fun w' hw' => ?_⟩
        go_simp
        all_goals rfl
      try simp only [Act.put, List.setIfInBounds_toArray, List.set_cons_zero, List.set_cons_succ]
      refine later_take (i := 4) (d := 18) (v := ?_) (by kernel_rfl) (by kernel_rfl) (by kernel_rfl) (by kernel_rfl) (fun _ _ _ h => h) (fun oi hoi => ?_) ?_
      rotate_left
      · simp at hoi
        subst hoi
        refine ⟨by rfl, fun w' hw' => ?_⟩
        go_simp
        all_goals rfl
      try simp only [Act.put, List.setIfInBounds_toArray, List.set_cons_zero, List.set_cons_succ]
      refine later_take (i := 5) (d := 19) (v := ?_) (by kernel_rfl) (by kernel_rfl) (by kernel_rfl) (by kernel_rfl) (fun _ _ _ h => h) (fun oi hoi => ?_) ?_
      rotate_left
      · simp at hoi
        subst hoi
        refine ⟨by rfl, fun w' hw' => ?_⟩
        have hx := Blk.below (unhide A) hw'
        have x3 := hx.cell 3
        simp only [List.getElem?_toArray, List.getElem?_cons_succ, List.getElem?_cons_zero] at x3
        go_simp
        all_goals rfl
      try simp only [Act.put, List.setIfInBounds_toArray, List.set_cons_zero, List.set_cons_succ]
      refine later_take (i := 6) (d := 20) (v := ?_) (by kernel_rfl) (by kernel_rfl) (by kernel_rfl) (by kernel_rfl) (fun _ _ _ h => h) (fun oi hoi => ?_) ?_
      rotate_left
      · simp at hoi
        subst hoi
        refine ⟨by rfl, fun w' hw' => ?_⟩
        go_simp
        all_goals rfl
      try simp only [Act.put, List.setIfInBounds_toArray, List.set_cons_zero, List.set_cons_succ]
      refine later_take (i := 7) (d := 21) (v := ?_) (by kernel_rfl) (by kernel_rfl) (by kernel_rfl) (by kernel_rfl) (fun _ _ _ h => h) (fun oi hoi => ?_) ?_
      rotate_left
      · simp at hoi
        subst hoi
        refine ⟨by rfl, fun w' hw' => ?_⟩
        go_simp
        all_goals rfl
      try simp only [Act.put, List.setIfInBounds_toArray, List.set_cons_zero, List.set_cons_succ]
      refine later_take (i := 8) (d := 22) (v := ?_) (by kernel_rfl) (by kernel_rfl) (by kernel_rfl) (by kernel_rfl) (fun _ _ _ h => h) (fun oi hoi => ?_) ?_
      rotate_left
      · simp at hoi
        subst hoi
        refine ⟨by rfl, fun w' hw' => ?_⟩
        go_simp
        all_goals rfl
      try simp only [Act.put, List.setIfInBounds_toArray, List.set_cons_zero, List.set_cons_succ]
      refine later_take (i := 9) (d := 23) (v := ?_) (by kernel_rfl) (by kernel_rfl) (by kernel_rfl) (by kernel_rfl) (fun _ _ _ h => h) (fun oi hoi => ?_) ?_
      rotate_left
      · simp at hoi
        subst hoi
        refine ⟨by rfl, fun w' hw' => ?_⟩
        go_simp
        all_goals rfl
      try simp only [Act.put, List.setIfInBounds_toArray, List.set_cons_zero, List.set_cons_succ]
      refine later_take (i := 10) (d := 24) (v := ?_) (by kernel_rfl) (by kernel_rfl) (by kernel_rfl) (by kernel_rfl) (fun _ _ _ h => h) (fun oi hoi => ?_) ?_
      rotate_left
      · simp at hoi
        subst hoi
        refine ⟨by rfl, fun w' hw' => ?_⟩
        have hx := Blk.below (unhide A) hw'
        have x3 := hx.cell 3
        simp only [List.getElem?_toArray, List.getElem?_cons_succ, List.getElem?_cons_zero] at x3
        go_simp
        all_goals rfl
      try simp only [Act.put, List.setIfInBounds_toArray, List.set_cons_zero, List.set_cons_succ]
      refine later_take (i := 11) (d := 25) (v := ?_) (by kernel_rfl) (by kernel_rfl) (by kernel_rfl) (by kernel_rfl) (fun _ _ _ h => h) (fun oi hoi => ?_) ?_
      rotate_left
      · simp at hoi
        subst hoi
        refine ⟨by rfl, fun w' hw' => ?_⟩
        go_simp
        all_goals rfl
      try simp only [Act.put, List.setIfInBounds_toArray, List.set_cons_zero, List.set_cons_succ]
      refine later_take (i := 12) (d := 26) (v := ?_) (by kernel_rfl) (by kernel_rfl) (by kernel_rfl) (by kernel_rfl) (fun _ _ _ h => h) (fun oi hoi => ?_) ?_
      rotate_left
      · simp at hoi
        subst hoi
        refine ⟨by rfl, fun w' hw' => ?_⟩
        go_simp
        all_goals rfl
      try simp only [Act.put, List.setIfInBounds_toArray, List.set_cons_zero, List.set_cons_succ]
      refine later_take (i := 13) (d := 27) (v := ?_) (by kernel_rfl) (by kernel_rfl) (by kernel_rfl) (by kernel_rfl) (fun _ _ _ h => h) (fun oi hoi => ?_) ?_
      rotate_left
      · simp at hoi
        subst hoi
        refine ⟨by rfl, fun w' hw' => ?_⟩
        go_simp
        all_goals rfl
      try simp only [Act.put, List.setIfInBounds_toArray, List.set_cons_zero, List.set_cons_succ]
      refine later_take (i := 14) (d := 28) (v := ?_) (by kernel_rfl) (by kernel_rfl) (by kernel_rfl) (by kernel_rfl) (fun _ _ _ h => h) (fun oi hoi => ?_) ?_
      rotate_left
      · simp at hoi
        subst hoi
        refine ⟨by rfl, fun w' hw' => ?_⟩
        go_simp
        all_goals rfl
      try simp only [Act.put, List.setIfInBounds_toArray, List.set_cons_zero, List.set_cons_succ]
      refine later_skip (i := 15) (d := 29) (by kernel_rfl) (by kernel_rfl) (by kernel_rfl) (by kernel_rfl) (fun _ _ _ h => h) (by rfl) ?_
      try simp only [Act.put, List.setIfInBounds_toArray, List.set_cons_zero, List.set_cons_succ]
      refine later_skip (i := 16) (d := 30) (by kernel_rfl) (by kernel_rfl) (by kernel_rfl) (by kernel_rfl) (fun _ _ _ h => h) (by rfl) ?_
      try simp only [Act.put, List.setIfInBounds_toArray, List.set_cons_zero, List.set_cons_succ]
      refine later_skip (i := 17) (d := 31) (by kernel_rfl) (by kernel_rfl) (by kernel_rfl) (by kernel_rfl) (fun _ _ _ h => h) (by rfl) ?_
      try simp only [Act.put, List.setIfInBounds_toArray, List.set_cons_zero, List.set_cons_succ]
      refine later_take (i := 18) (d := 32) (v := ?_) (by kernel_rfl) (by kernel_rfl) (by kernel_rfl) (by kernel_rfl) (fun _ _ _ h => h) (fun oi hoi => ?_) ?_
      rotate_left
      · simp at hoi
        subst hoi
        refine ⟨by rfl, fun w' hw' => ?_⟩
        go_simp
        all_goals rfl
      try simp only [Act.put, List.setIfInBounds_toArray, List.set_cons_zero, List.set_cons_succ]
      refine later_take (i := 19) (d := 33) (v := ?_) (by kernel_rfl) (by kernel_rfl) (by kernel_rfl) (by kernel_rfl) (fun _ _ _ h => h) (fun oi hoi => ?_) ?_
      rotate_left
      · simp at hoi
        subst hoi
        refine ⟨by rfl, fun w' hw' => ?_⟩
        go_simp
        all_goals rfl
      try simp only [Act.put, List.setIfInBounds_toArray, List.set_cons_zero, List.set_cons_succ]
      refine later_skip (i := 20) (d := 34) (by kernel_rfl) (by kernel_rfl) (by kernel_rfl) (by kernel_rfl) (fun _ _ _ h => h) (by rfl) ?_
      try simp only [Act.put, List.setIfInBounds_toArray, List.set_cons_zero, List.set_cons_succ]
      refine later_skip (i := 21) (d := 35) (by kernel_rfl) (by kernel_rfl) (by kernel_rfl) (by kernel_rfl) (fun _ _ _ h => h) (by rfl) ?_
      try simp only [Act.put, List.setIfInBounds_toArray, List.set_cons_zero, List.set_cons_succ]
      refine later_skip (i := 22) (d := 36) (by kernel_rfl) (by kernel_rfl) (by kernel_rfl) (by kernel_rfl) (fun _ _ _ h => h) (by rfl) ?_
      try simp only [Act.put, List.setIfInBounds_toArray, List.set_cons_zero, List.set_cons_succ]
      refine later_take (i := 23) (d := 37) (v := ?_) (by kernel_rfl) (by kernel_rfl) (by kernel_rfl) (by kernel_rfl) (fun _ _ _ h => h) (fun oi hoi => ?_) ?_
      rotate_left
      · simp at hoi
        subst hoi
        refine ⟨by rfl, fun w' hw' => ?_⟩
        go_simp
        all_goals rfl
      try simp only [Act.put, List.setIfInBounds_toArray, List.set_cons_zero, List.set_cons_succ]
      refine later_take (i := 24) (d := 38) (v := ?_) (by kernel_rfl) (by kernel_rfl) (by kernel_rfl) (by kernel_rfl) (fun _ _ _ h => h) (fun oi hoi => ?_) ?_
      rotate_left
      · simp at hoi
        subst hoi
        refine ⟨by rfl, fun w' hw' => ?_⟩
        go_simp
        all_goals rfl
      try simp only [Act.put, List.setIfInBounds_toArray, List.set_cons_zero, List.set_cons_succ]
      refine later_skip (i := 25) (d := 39) (by kernel_rfl) (by kernel_rfl) (by kernel_rfl) (by kernel_rfl) (fun _ _ _ h => h) (by rfl) ?_
      try simp only [Act.put, List.setIfInBounds_toArray, List.set_cons_zero, List.set_cons_succ]
      refine later_skip (i := 26) (d := 40) (by kernel_rfl) (by kernel_rfl) (by kernel_rfl) (by kernel_rfl) (fun _ _ _ h => h) (by rfl) ?_
      try simp only [Act.put, List.setIfInBounds_toArray, List.set_cons_zero, List.set_cons_succ]
      refine later_skip (i := 27) (d := 41) (by kernel_rfl) (by kernel_rfl) (by kernel_rfl) (by kernel_rfl) (fun _ _ _ h => h) (by rfl) ?_
      try simp only [Act.put, List.setIfInBounds_toArray, List.set_cons_zero, List.set_cons_succ]
      refine later_skip (i := 28) (d := 42) (by kernel_rfl) (by kernel_rfl) (by kernel_rfl) (by kernel_rfl) (fun _ _ _ h => h) (by rfl) ?_
      try simp only [Act.put, List.setIfInBounds_toArray, List.set_cons_zero, List.set_cons_succ]
      refine later_skip (i := 29) (d := 43) (by kernel_rfl) (by kernel_rfl) (by kernel_rfl) (by kernel_rfl) (fun _ _ _ h => h) (by rfl) ?_
      try simp only [Act.put, List.setIfInBounds_toArray, List.set_cons_zero, List.set_cons_succ]
      refine later_take (i := 30) (d := 44) (v := ?_) (by kernel_rfl) (by kernel_rfl) (by kernel_rfl) (by kernel_rfl) (fun _ _ _ h => h) (fun oi hoi => ?_) ?_
      rotate_left
      · simp at hoi
        subst hoi
        refine ⟨by rfl, fun w' hw' => ?_⟩
        go_simp
        all_goals rfl
      try simp only [Act.put, List.setIfInBounds_toArray, List.set_cons_zero, List.set_cons_succ]
      refine later_take (i := 31) (d := 45) (v := ?_) (by kernel_rfl) (by kernel_rfl) (by kernel_rfl) (by kernel_rfl) (fun _ _ _ h => h) (fun oi hoi => ?_) ?_
      rotate_left
      · simp at hoi
        subst hoi
        refine ⟨by rfl, fun w' hw' => ?_⟩
        go_simp
        all_goals rfl
      try simp only [Act.put, List.setIfInBounds_toArray, List.set_cons_zero, List.set_cons_succ]
      refine later_skip (i := 32) (d := 46) (by kernel_rfl) (by kernel_rfl) (by kernel_rfl) (by kernel_rfl) (fun _ _ _ h => h) (by rfl) ?_
      try simp only [Act.put, List.setIfInBounds_toArray, List.set_cons_zero, List.set_cons_succ]
      refine later_skip (i := 33) (d := 47) (by kernel_rfl) (by kernel_rfl) (by kernel_rfl) (by kernel_rfl) (fun _ _ _ h => h) (by rfl) ?_
      try simp only [Act.put, List.setIfInBounds_toArray, List.set_cons_zero, List.set_cons_succ]
      refine later_skip (i := 34) (d := 48) (by kernel_rfl) (by kernel_rfl) (by kernel_rfl) (by kernel_rfl) (fun _ _ _ h => h) (by rfl) ?_
      try simp only [Act.put, List.setIfInBounds_toArray, List.set_cons_zero, List.set_cons_succ]
      refine later_skip (i := 35) (d := 49) (by kernel_rfl) (by kernel_rfl) (by kernel_rfl) (by kernel_rfl) (fun _ _ _ h => h) (by rfl) ?_
      try simp only [Act.put, List.setIfInBounds_toArray, List.set_cons_zero, List.set_cons_succ]
      refine later_skip (i := 36) (d := 50) (by kernel_rfl) (by kernel_rfl) (by kernel_rfl) (by kernel_rfl) (fun _ _ _ h => h) (by rfl) ?_
      try simp only [Act.put, List.setIfInBounds_toArray, List.set_cons_zero, List.set_cons_succ]
      refine later_skip (i := 37) (d := 51) (by kernel_rfl) (by kernel_rfl) (by kernel_rfl) (by kernel_rfl) (fun _ _ _ h => h) (by rfl) ?_
      try simp only [Act.put, List.setIfInBounds_toArray, List.set_cons_zero, List.set_cons_succ]
      refine later_take (i := 38) (d := 52) (v := ?_) (by kernel_rfl) (by kernel_rfl) (by kernel_rfl) (by kernel_rfl) (fun _ _ _ h => h) (fun oi hoi => ?_) ?_
      rotate_left
      · simp at hoi
        subst hoi
        refine ⟨by rfl, fun w' hw' => ?_⟩
        go_simp
        all_goals rfl
      try simp only [Act.put, List.setIfInBounds_toArray, List.set_cons_zero, List.set_cons_succ]
      refine later_done (by kernel_rfl) ?_ _
      go_wp2_with (refine wpList_store_whole rfl 35 _ _ rfl (w.heap.size + 1) noMem rfl rfl 35 _ (by exact unhide R) info_mm rfl (one_mm _ _ _ _ _ _ _ _ _ _ _) ?_)
      have l2 := load_mm ((unhide R).set noMem) rfl
      refine bodyPost_ret (v := .tuple #[.agg noMem, .bool false]) (results_cs rfl rfl rfl l2) rfl ?_
      exact ⟨_, _, ret_join HF.out rfl, own_none HF.out, ownM_none HF.out, below_blk HB.out (by omega) _⟩
    rw [show decide (add = who) = true by simpa using hw] at HE
    simp only [Bool.true_and] at HE
    subst hw
    have hw2 : (add != add) = false := by simp
    cases b4 with
    | false =>
      have HF : Hid (joinB add leaf key ⟨se, tag, name, add, rem, lf, keys, boxes, ⟨wk, ik, is, sk, ss⟩⟩ = false) := by show _ = _; rw [HE.out]; rfl
      go_enter Tryz.func5, Tryz.ntmps5
      go_wp2_with fail
      refine wp_region_later (by kernel_rfl) ?_
      refine later_take (i := 0) (d := 14) (v := ?_) (by kernel_rfl) (by kernel_rfl) (by kernel_rfl) (by kernel_rfl) (fun _ _ _ h => h) (fun oi hoi => ?_) ?_
      rotate_left
      · simp at hoi
        subst hoi
        refine ⟨by rfl, fun w' hw' => ?_⟩
        have hx := Blk.below (unhide A) hw'
        have x0 := hx.cell 0
        have x1 := hx.cell 1
        have x2 := hx.cell 2
        have x3 := hx.cell 3
        have x4 := hx.cell 4
        have x5 := hx.cell 5
        have x6 := hx.cell 6
        have x7 := hx.cell 7
        have x8 := hx.cell 8
        have x9 := hx.cell 9
        have x10 := hx.cell 10
        have x11 := hx.cell 11
        have x12 := hx.cell 12
        simp only [List.getElem?_toArray, List.getElem?_cons_succ, List.getElem?_cons_zero] at x0 x1 x2 x3 x4 x5 x6 x7 x8 x9 x10 x11 x12
        go_simp
        all_goals rfl
      try simp only [Act.put, List.setIfInBounds_toArray, List.set_cons_zero, List.set_cons_succ]
      refine later_one (i := 1) (by kernel_rfl) (fun oi K hoi hK => ?_)
      simp at hoi
      subst hoi
      refine ⟨by rfl, ?_⟩
      go_simp
      refine (sCmtOk_any ⟨se, tag, name, add, rem, lf, keys, boxes, ⟨wk, ik, is, sk, ss⟩⟩ _ _ _ (unhide HK) (unhide HO) FT.out.1 FT.out.2.1 FT.out.2.2.1 FT.out.2.2.2.1 FT.out.2.2.2.2.1 FT.out.2.2.2.2.2.1 FT.out.2.2.2.2.2.2.1 FT.out.2.2.2.2.2.2.2).mono ?_
      rw [B1.out]
      rintro e w1 ⟨rfl, hb⟩
      go_simp
      refine hK.out _ _ hb ?_
      clear hK
      replace A := hide ((unhide A).below hb)
      replace R := hide ((unhide R).below hb)
      replace HK := hide ((unhide HK).below hb)
      replace HO := hide ((unhide HO).below hb)
      replace HB := hide (HB.out.trans (hb.mono HB.out.size))
      clear hb
      try simp only [Act.put, List.setIfInBounds_toArray, List.set_cons_zero, List.set_cons_succ]
      refine later_take (i := 2) (d := 16) (v := ?_) (by kernel_rfl) (by kernel_rfl) (by kernel_rfl) (by kernel_rfl) (fun _ _ _ h => h) (fun oi hoi => ?_) ?_
      rotate_left
      · simp at hoi
        subst hoi
        refine ⟨by rfl, fun w' hw' => ?_⟩
        go_simp
        all_goals rfl
      try simp only [Act.put, List.setIfInBounds_toArray, List.set_cons_zero, List.set_cons_succ]
      refine later_take (i := 3) (d := 17) (v := ?_) (by kernel_rfl) (by kernel_rfl) (by kernel_rfl) (by kernel_rfl) (fun _ _ _ h => h) (fun oi hoi => ?_) ?_
      rotate_left
      · simp at hoi
        subst hoi
        refine ⟨by rfl, fun w' hw' => ?_⟩
        go_simp
        all_goals rfl
      try simp only [Act.put, List.setIfInBounds_toArray, List.set_cons_zero, List.set_cons_succ]
      refine later_take (i := 4) (d := 18) (v := ?_) (by kernel_rfl) (by kernel_rfl) (by kernel_rfl) (by kernel_rfl) (fun _ _ _ h => h) (fun oi hoi => ?_) ?_
      rotate_left
      · simp at hoi
        subst hoi
        refine ⟨by rfl, fun w' hw' => ?_⟩
        go_simp
        all_goals rfl
      try simp only [Act.put, List.setIfInBounds_toArray, List.set_cons_zero, List.set_cons_succ]
      refine later_take (i := 5) (d := 19) (v := ?_) (by kernel_rfl) (by kernel_rfl) (by kernel_rfl) (by kernel_rfl) (fun _ _ _ h => h) (fun oi hoi => ?_) ?_
      rotate_left
      · simp at hoi
        subst hoi
        refine ⟨by rfl, fun w' hw' => ?_⟩
        have hx := Blk.below (unhide A) hw'
        have x3 := hx.cell 3
        simp only [List.getElem?_toArray, List.getElem?_cons_succ, List.getElem?_cons_zero] at x3
        go_simp
        all_goals rfl
      try simp only [Act.put, List.setIfInBounds_toArray, List.set_cons_zero, List.set_cons_succ]
      refine later_take (i := 6) (d := 20) (v := ?_) (by kernel_rfl) (by kernel_rfl) (by kernel_rfl) (by kernel_rfl) (fun _ _ _ h => h) (fun oi hoi => ?_) ?_
      rotate_left
      · simp at hoi
        subst hoi
        refine ⟨by rfl, fun w' hw' => ?_⟩
        go_simp
        all_goals rfl
      try simp only [Act.put, List.setIfInBounds_toArray, List.set_cons_zero, List.set_cons_succ]
      refine later_take (i := 7) (d := 21) (v := ?_) (by kernel_rfl) (by kernel_rfl) (by kernel_rfl) (by kernel_rfl) (fun _ _ _ h => h) (fun oi hoi => ?_) ?_
      rotate_left
      · simp at hoi
        subst hoi
        refine ⟨by rfl, fun w' hw' => ?_⟩
        go_simp
        all_goals rfl
      try simp only [Act.put, List.setIfInBounds_toArray, List.set_cons_zero, List.set_cons_succ]
      refine later_take (i := 8) (d := 22) (v := ?_) (by kernel_rfl) (by kernel_rfl) (by kernel_rfl) (by kernel_rfl) (fun _ _ _ h => h) (fun oi hoi => ?_) ?_
      rotate_left
      · simp at hoi
        subst hoi
        refine ⟨by rfl, fun w' hw' => ?_⟩
        go_simp
        all_goals rfl
      try simp only [Act.put, List.setIfInBounds_toArray, List.set_cons_zero, List.set_cons_succ]
      refine later_take (i := 9) (d := 23) (v := ?_) (by kernel_rfl) (by kernel_rfl) (by kernel_rfl) (by kernel_rfl) (fun _ _ _ h => h) (fun oi hoi => ?_) ?_
      rotate_left
      · simp at hoi
        subst hoi
        refine ⟨by rfl, fun w' hw' => ?_⟩
        go_simp
        all_goals rfl
      try simp only [Act.put, List.setIfInBounds_toArray, List.set_cons_zero, List.set_cons_succ]
      refine later_take (i := 10) (d := 24) (v := ?_) (by kernel_rfl) (by kernel_rfl) (by kernel_rfl) (by kernel_rfl) (fun _ _ _ h => h) (fun oi hoi => ?_) ?_
      rotate_left
      · simp at hoi
        subst hoi
        refine ⟨by rfl, fun w' hw' => ?_⟩
        have hx := Blk.below (unhide A) hw'
        have x3 := hx.cell 3
        simp only [List.getElem?_toArray, List.getElem?_cons_succ, List.getElem?_cons_zero] at x3
        go_simp
        all_goals rfl
      try simp only [Act.put, List.setIfInBounds_toArray, List.set_cons_zero, List.set_cons_succ]
      refine later_take (i := 11) (d := 25) (v := ?_) (by kernel_rfl) (by kernel_rfl) (by kernel_rfl) (by kernel_rfl) (fun _ _ _ h => h) (fun oi hoi => ?_) ?_
      rotate_left
      · simp at hoi
        subst hoi
        refine ⟨by rfl, fun w' hw' => ?_⟩
        go_simp
        all_goals rfl
      try simp only [Act.put, List.setIfInBounds_toArray, List.set_cons_zero, List.set_cons_succ]
      refine later_take (i := 12) (d := 26) (v := ?_) (by kernel_rfl) (by kernel_rfl) (by kernel_rfl) (by kernel_rfl) (fun _ _ _ h => h) (fun oi hoi => ?_) ?_
      rotate_left
      · simp at hoi
        subst hoi
        refine ⟨by rfl, fun w' hw' => ?_⟩
        go_simp
        all_goals rfl
      try simp only [Act.put, List.setIfInBounds_toArray, List.set_cons_zero, List.set_cons_succ]
      refine later_take (i := 13) (d := 27) (v := ?_) (by kernel_rfl) (by kernel_rfl) (by kernel_rfl) (by kernel_rfl) (fun _ _ _ h => h) (fun oi hoi => ?_) ?_
      rotate_left
      · simp at hoi
        subst hoi
        refine ⟨by rfl, fun w' hw' => ?_⟩
        go_simp
        all_goals rfl
      try simp only [Act.put, List.setIfInBounds_toArray, List.set_cons_zero, List.set_cons_succ]
      refine later_take (i := 14) (d := 28) (v := ?_) (by kernel_rfl) (by kernel_rfl) (by kernel_rfl) (by kernel_rfl) (fun _ _ _ h => h) (fun oi hoi => ?_) ?_
      rotate_left
      · simp at hoi
        subst hoi
        refine ⟨by rfl, fun w' hw' => ?_⟩
        go_simp
        all_goals rfl
      try simp only [Act.put, List.setIfInBounds_toArray, List.set_cons_zero, List.set_cons_succ]
      refine later_take (i := 15) (d := 29) (v := ?_) (by kernel_rfl) (by kernel_rfl) (by kernel_rfl) (by kernel_rfl) (fun _ _ _ h => h) (fun oi hoi => ?_) ?_
      rotate_left
      · simp at hoi
        subst hoi
        refine ⟨by rfl, fun w' hw' => ?_⟩
        go_simp
        all_goals rfl
      try simp only [Act.put, List.setIfInBounds_toArray, List.set_cons_zero, List.set_cons_succ]
      refine later_one (i := 16) (by kernel_rfl) (fun oi K hoi hK => ?_)
      simp at hoi
      subst hoi
      refine ⟨by rfl, ?_⟩
      go_simp
      refine (sSecOk_any leaf _ M.out.1).mono ?_
      rw [B4.out]
      rintro e w1 ⟨rfl, hb⟩
      go_simp
      refine hK.out _ _ hb ?_
      clear hK
      replace A := hide ((unhide A).below hb)
      replace R := hide ((unhide R).below hb)
      replace HK := hide ((unhide HK).below hb)
      replace HO := hide ((unhide HO).below hb)
      replace HB := hide (HB.out.trans (hb.mono HB.out.size))
      clear hb
      try simp only [Act.put, List.setIfInBounds_toArray, List.set_cons_zero, List.set_cons_succ]
      refine later_take (i := 17) (d := 31) (v := ?_) (by kernel_rfl) (by kernel_rfl) (by kernel_rfl) (by kernel_rfl) (fun _ _ _ h => h) (fun oi hoi => ?_) ?_
      rotate_left
      · simp at hoi
        subst hoi
        refine ⟨by rfl, fun w' hw' => ?_⟩
        go_simp
        all_goals rfl
      try simp only [Act.put, List.setIfInBounds_toArray, List.set_cons_zero, List.set_cons_succ]
      refine later_take (i := 18) (d := 32) (v := ?_) (by kernel_rfl) (by kernel_rfl) (by kernel_rfl) (by kernel_rfl) (fun _ _ _ h => h) (fun oi hoi => ?_) ?_
      rotate_left
      · simp at hoi
        subst hoi
        refine ⟨by rfl, fun w' hw' => ?_⟩
        go_simp
        all_goals rfl
      try simp only [Act.put, List.setIfInBounds_toArray, List.set_cons_zero, List.set_cons_succ]
      refine later_take (i := 19) (d := 33) (v := ?_) (by kernel_rfl) (by kernel_rfl) (by kernel_rfl) (by kernel_rfl) (fun _ _ _ h => h) (fun oi hoi => ?_) ?_
      rotate_left
      · simp at hoi
        subst hoi
        refine ⟨by rfl, fun w' hw' => ?_⟩
        go_simp
        all_goals rfl
      try simp only [Act.put, List.setIfInBounds_toArray, List.set_cons_zero, List.set_cons_succ]
      refine later_skip (i := 20) (d := 34) (by kernel_rfl) (by kernel_rfl) (by kernel_rfl) (by kernel_rfl) (fun _ _ _ h => h) (by rfl) ?_
      try simp only [Act.put, List.setIfInBounds_toArray, List.set_cons_zero, List.set_cons_succ]
      refine later_skip (i := 21) (d := 35) (by kernel_rfl) (by kernel_rfl) (by kernel_rfl) (by kernel_rfl) (fun _ _ _ h => h) (by rfl) ?_
      try simp only [Act.put, List.setIfInBounds_toArray, List.set_cons_zero, List.set_cons_succ]
      refine later_skip (i := 22) (d := 36) (by kernel_rfl) (by kernel_rfl) (by kernel_rfl) (by kernel_rfl) (fun _ _ _ h => h) (by rfl) ?_
      try simp only [Act.put, List.setIfInBounds_toArray, List.set_cons_zero, List.set_cons_succ]
      refine later_take (i := 23) (d := 37) (v := ?_) (by kernel_rfl) (by kernel_rfl) (by kernel_rfl) (by kernel_rfl) (fun _ _ _ h => h) (fun oi hoi => ?_) ?_
      rotate_left
      · simp at hoi
        subst hoi
        refine ⟨by rfl, fun w' hw' => ?_⟩
        go_simp
        all_goals rfl
      try simp only [Act.put, List.setIfInBounds_toArray, List.set_cons_zero, List.set_cons_succ]
      refine later_take (i := 24) (d := 38) (v := ?_) (by kernel_rfl) (by kernel_rfl) (by kernel_rfl) (by kernel_rfl) (fun _ _ _ h => h) (fun oi hoi => ?_) ?_
      rotate_left
      · simp at hoi
        subst hoi
        refine ⟨by rfl, fun w' hw' => ?_⟩
        go_simp
        all_goals rfl
      try simp only [Act.put, List.setIfInBounds_toArray, List.set_cons_zero, List.set_cons_succ]
      refine later_skip (i := 25) (d := 39) (by kernel_rfl) (by kernel_rfl) (by kernel_rfl) (by kernel_rfl) (fun _ _ _ h => h) (by rfl) ?_
      try simp only [Act.put, List.setIfInBounds_toArray, List.set_cons_zero, List.set_cons_succ]
      refine later_skip (i := 26) (d := 40) (by kernel_rfl) (by kernel_rfl) (by kernel_rfl) (by kernel_rfl) (fun _ _ _ h => h) (by rfl) ?_
      try simp only [Act.put, List.setIfInBounds_toArray, List.set_cons_zero, List.set_cons_succ]
      refine later_skip (i := 27) (d := 41) (by kernel_rfl) (by kernel_rfl) (by kernel_rfl) (by kernel_rfl) (fun _ _ _ h => h) (by rfl) ?_
      try simp only [Act.put, List.setIfInBounds_toArray, List.set_cons_zero, List.set_cons_succ]
      refine later_skip (i := 28) (d := 42) (by kernel_rfl) (by kernel_rfl) (by kernel_rfl) (by kernel_rfl) (fun _ _ _ h => h) (by rfl) ?_
      try simp only [Act.put, List.setIfInBounds_toArray, List.set_cons_zero, List.set_cons_succ]
      refine later_skip (i := 29) (d := 43) (by kernel_rfl) (by kernel_rfl) (by kernel_rfl) (by kernel_rfl) (fun _ _ _ h => h) (by rfl) ?_
      try simp only [Act.put, List.setIfInBounds_toArray, List.set_cons_zero, List.set_cons_succ]
      refine later_take (i := 30) (d := 44) (v := ?_) (by kernel_rfl) (by kernel_rfl) (by kernel_rfl) (by kernel_rfl) (fun _ _ _ h => h) (fun oi hoi => ?_) ?_
      rotate_left
      · simp at hoi
        subst hoi
        refine ⟨by rfl, fun w' hw' => ?_⟩
        go_simp
        all_goals rfl
      try simp only [Act.put, List.setIfInBounds_toArray, List.set_cons_zero, List.set_cons_succ]
      refine later_take (i := 31) (d := 45) (v := ?_) (by kernel_rfl) (by kernel_rfl) (by kernel_rfl) (by kernel_rfl) (fun _ _ _ h => h) (fun oi hoi => ?_) ?_
      rotate_left
      · simp at hoi
        subst hoi
        refine ⟨by rfl, fun w' hw' => ?_⟩
        go_simp
        all_goals rfl
      try simp only [Act.put, List.setIfInBounds_toArray, List.set_cons_zero, List.set_cons_succ]
      refine later_skip (i := 32) (d := 46) (by kernel_rfl) (by kernel_rfl) (by kernel_rfl) (by kernel_rfl) (fun _ _ _ h => h) (by rfl) ?_
      try simp only [Act.put, List.setIfInBounds_toArray, List.set_cons_zero, List.set_cons_succ]
      refine later_skip (i := 33) (d := 47) (by kernel_rfl) (by kernel_rfl) (by kernel_rfl) (by kernel_rfl) (fun _ _ _ h => h) (by rfl) ?_
      try simp only [Act.put, List.setIfInBounds_toArray, List.set_cons_zero, List.set_cons_succ]
      refine later_skip (i := 34) (d := 48) (by kernel_rfl) (by kernel_rfl) (by kernel_rfl) (by kernel_rfl) (fun _ _ _ h => h) (by rfl) ?_
      try simp only [Act.put, List.setIfInBounds_toArray, List.set_cons_zero, List.set_cons_succ]
      refine later_skip (i := 35) (d := 49) (by kernel_rfl) (by kernel_rfl) (by kernel_rfl) (by kernel_rfl) (fun _ _ _ h => h) (by rfl) ?_
      try simp only [Act.put, List.setIfInBounds_toArray, List.set_cons_zero, List.set_cons_succ]
      refine later_skip (i := 36) (d := 50) (by kernel_rfl) (by kernel_rfl) (by kernel_rfl) (by kernel_rfl) (fun _ _ _ h => h) (by rfl) ?_
      try simp only [Act.put, List.setIfInBounds_toArray, List.set_cons_zero, List.set_cons_succ]
      refine later_skip (i := 37) (d := 51) (by kernel_rfl) (by kernel_rfl) (by kernel_rfl) (by kernel_rfl) (fun _ _ _ h => h) (by rfl) ?_
      try simp only [Act.put, List.setIfInBounds_toArray, List.set_cons_zero, List.set_cons_succ]
      refine later_take (i := 38) (d := 52) (v := ?_) (by kernel_rfl) (by kernel_rfl) (by kernel_rfl) (by kernel_rfl) (fun _ _ _ h => h) (fun oi hoi => ?_) ?_
      rotate_left
      · simp at hoi
        subst hoi
        refine ⟨by rfl, fun w' hw' => ?_⟩
        go_simp
        all_goals rfl
      try simp only [Act.put, List.setIfInBounds_toArray, List.set_cons_zero, List.set_cons_succ]
      refine later_done (by kernel_rfl) ?_ _
      go_wp2_with (refine wpList_store_whole rfl 35 _ _ rfl (w.heap.size + 1) noMem rfl rfl 35 _ (by exact unhide R) info_mm rfl (one_mm _ _ _ _ _ _ _ _ _ _ _) ?_)
      have l2 := load_mm ((unhide R).set noMem) rfl
      refine bodyPost_ret (v := .tuple #[.agg noMem, .bool false]) (results_cs rfl rfl rfl l2) rfl ?_
      exact ⟨_, _, ret_join HF.out rfl, own_none HF.out, ownM_none HF.out, below_blk HB.out (by omega) _⟩
    | true =>
      simp only [Bool.true_and] at HE
      cases b5 with
      | false =>
        have HF : Hid (joinB add leaf key ⟨se, tag, name, add, rem, lf, keys, boxes, ⟨wk, ik, is, sk, ss⟩⟩ = false) := by show _ = _; rw [HE.out]; rfl
        go_enter Tryz.func5, Tryz.ntmps5
        go_wp2_with fail
        refine wp_region_later (by kernel_rfl) ?_
        refine later_take (i := 0) (d := 14) (v := ?_) (by kernel_rfl) (by kernel_rfl) (by kernel_rfl) (by kernel_rfl) (fun _ _ _ h => h) (fun oi hoi => ?_) ?_
        rotate_left
        · simp at hoi
          subst hoi
          refine ⟨by rfl, fun w' hw' => ?_⟩
          have hx := Blk.below (unhide A) hw'
          have x0 := hx.cell 0
          have x1 := hx.cell 1
          have x2 := hx.cell 2
          have x3 := hx.cell 3
          have x4 := hx.cell 4
          have x5 := hx.cell 5
          have x6 := hx.cell 6
          have x7 := hx.cell 7
          have x8 := hx.cell 8
          have x9 := hx.cell 9
          have x10 := hx.cell 10
          have x11 := hx.cell 11
          have x12 := hx.cell 12
          simp only [List.getElem?_toArray, List.getElem?_cons_succ, List.getElem?_cons_zero] at x0 x1 x2 x3 x4 x5 x6 x7 x8 x9 x10 x11 x12
          go_simp
          all_goals rfl
        try simp only [Act.put, List.setIfInBounds_toArray, List.set_cons_zero, List.set_cons_succ]
        refine later_one (i := 1) (by kernel_rfl) (fun oi K hoi hK => ?_)
        simp at hoi
        subst hoi
        refine ⟨by rfl, ?_⟩
        go_simp
        refine (sCmtOk_any ⟨se, tag, name, add, rem, lf, keys, boxes, ⟨wk, ik, is, sk, ss⟩⟩ _ _ _ (unhide HK) (unhide HO) FT.out.1 FT.out.2.1 FT.out.2.2.1 FT.out.2.2.2.1 FT.out.2.2.2.2.1 FT.out.2.2.2.2.2.1 FT.out.2.2.2.2.2.2.1 FT.out.2.2.2.2.2.2.2).mono ?_
        rw [B1.out]
        rintro e w1 ⟨rfl, hb⟩
        go_simp
        refine hK.out _ _ hb ?_
        clear hK
        replace A := hide ((unhide A).below hb)
        replace R := hide ((unhide R).below hb)
        replace HK := hide ((unhide HK).below hb)
        replace HO := hide ((unhide HO).below hb)
        replace HB := hide (HB.out.trans (hb.mono HB.out.size))
        clear hb
        try simp only [Act.put, List.setIfInBounds_toArray, List.set_cons_zero, List.set_cons_succ]
        refine later_take (i := 2) (d := 16) (v := ?_) (by kernel_rfl) (by kernel_rfl) (by kernel_rfl) (by kernel_rfl) (fun _ _ _ h => h) (fun oi hoi => ?_) ?_
        rotate_left
        · simp at hoi
          subst hoi
          refine ⟨by rfl, fun w' hw' => ?_⟩
          go_simp
          all_goals rfl
        try simp only [Act.put, List.setIfInBounds_toArray, List.set_cons_zero, List.set_cons_succ]
        refine later_take (i := 3) (d := 17) (v := ?_) (by kernel_rfl) (by kernel_rfl) (by kernel_rfl) (by kernel_rfl) (fun _ _ _ h => h) (fun oi hoi => ?_) ?_
        rotate_left
        · simp at hoi
          subst hoi
          refine ⟨by rfl, fun w' hw' => ?_⟩
          go_simp
          all_goals rfl
        try simp only [Act.put, List.setIfInBounds_toArray, List.set_cons_zero, List.set_cons_succ]
        refine later_take (i := 4) (d := 18) (v := ?_) (by kernel_rfl) (by kernel_rfl) (by kernel_rfl) (by kernel_rfl) (fun _ _ _ h => h) (fun oi hoi => ?_) ?_
        rotate_left
        · simp at hoi
          subst hoi
          refine ⟨by rfl, fun w' hw' => ?_⟩
          go_simp
          all_goals rfl
        try simp only [Act.put, List.setIfInBounds_toArray, List.set_cons_zero, List.set_cons_succ]
        refine later_take (i := 5) (d := 19) (v := ?_) (by kernel_rfl) (by kernel_rfl) (by kernel_rfl) (by kernel_rfl) (fun _ _ _ h => h) (fun oi hoi => ?_) ?_
        rotate_left
        · simp at hoi
          subst hoi
          refine ⟨by rfl, fun w' hw' => ?_⟩
          have hx := Blk.below (unhide A) hw'
          have x3 := hx.cell 3
          simp only [List.getElem?_toArray, List.getElem?_cons_succ, List.getElem?_cons_zero] at x3
          go_simp
          all_goals rfl
        try simp only [Act.put, List.setIfInBounds_toArray, List.set_cons_zero, List.set_cons_succ]
        refine later_take (i := 6) (d := 20) (v := ?_) (by kernel_rfl) (by kernel_rfl) (by kernel_rfl) (by kernel_rfl) (fun _ _ _ h => h) (fun oi hoi => ?_) ?_
        rotate_left
        · simp at hoi
          subst hoi
          refine ⟨by rfl, fun w' hw' => ?_⟩
          go_simp
          all_goals rfl
        try simp only [Act.put, List.setIfInBounds_toArray, List.set_cons_zero, List.set_cons_succ]
        refine later_take (i := 7) (d := 21) (v := ?_) (by kernel_rfl) (by kernel_rfl) (by kernel_rfl) (by kernel_rfl) (fun _ _ _ h => h) (fun oi hoi => ?_) ?_
        rotate_left
        · simp at hoi
          subst hoi
          refine ⟨by rfl, fun w' hw' => ?_⟩
          go_simp
          all_goals rfl
        try simp only [Act.put, List.setIfInBounds_toArray, List.set_cons_zero, List.set_cons_succ]
        refine later_take (i := 8) (d := 22) (v := ?_) (by kernel_rfl) (by kernel_rfl) (by kernel_rfl) (by kernel_rfl) (fun _ _ _ h => h) (fun oi hoi => ?_) ?_
        rotate_left
        · simp at hoi
          subst hoi
          refine ⟨by rfl, fun w' hw' => ?_⟩
          go_simp
          all_goals rfl
        try simp only [Act.put, List.setIfInBounds_toArray, List.set_cons_zero, List.set_cons_succ]
        refine later_take (i := 9) (d := 23) (v := ?_) (by kernel_rfl) (by kernel_rfl) (by kernel_rfl) (by kernel_rfl) (fun _ _ _ h => h) (fun oi hoi => ?_) ?_
        rotate_left
        · simp at hoi
          subst hoi
          refine ⟨by rfl, fun w' hw' => ?_⟩
          go_simp
          all_goals rfl
        try simp only [Act.put, List.setIfInBounds_toArray, List.set_cons_zero, List.set_cons_succ]
        refine later_take (i := 10) (d := 24) (v := ?_) (by kernel_rfl) (by kernel_rfl) (by kernel_rfl) (by kernel_rfl) (fun _ _ _ h => h) (fun oi hoi => ?_) ?_
        rotate_left
        · simp at hoi
          subst hoi
          refine ⟨by rfl, fun w' hw' => ?_⟩
          have hx := Blk.below (unhide A) hw'
          have x3 := hx.cell 3
          simp only [List.getElem?_toArray, List.getElem?_cons_succ, List.getElem?_cons_zero] at x3
          go_simp
          all_goals rfl
        try simp only [Act.put, List.setIfInBounds_toArray, List.set_cons_zero, List.set_cons_succ]
        refine later_take (i := 11) (d := 25) (v := ?_) (by kernel_rfl) (by kernel_rfl) (by kernel_rfl) (by kernel_rfl) (fun _ _ _ h => h) (fun oi hoi => ?_) ?_
        rotate_left
        · simp at hoi
          subst hoi
          refine ⟨by rfl, fun w' hw' => ?_⟩
          go_simp
          all_goals rfl
        try simp only [Act.put, List.setIfInBounds_toArray, List.set_cons_zero, List.set_cons_succ]
        refine later_take (i := 12) (d := 26) (v := ?_) (by kernel_rfl) (by kernel_rfl) (by kernel_rfl) (by kernel_rfl) (fun _ _ _ h => h) (fun oi hoi => ?_) ?_
        rotate_left
        · simp at hoi
          subst hoi
          refine ⟨by rfl, fun w' hw' => ?_⟩
          go_simp
          all_goals rfl
        try simp only [Act.put, List.setIfInBounds_toArray, List.set_cons_zero, List.set_cons_succ]
        refine later_take (i := 13) (d := 27) (v := ?_) (by kernel_rfl) (by kernel_rfl) (by kernel_rfl) (by kernel_rfl) (fun _ _ _ h => h) (fun oi hoi => ?_) ?_
        rotate_left
        · simp at hoi
          subst hoi
          refine ⟨by rfl, fun w' hw' => ?_⟩
          go_simp
          all_goals rfl
        try simp only [Act.put, List.setIfInBounds_toArray, List.set_cons_zero, List.set_cons_succ]
        refine later_take (i := 14) (d := 28) (v := ?_) (by kernel_rfl) (by kernel_rfl) (by kernel_rfl) (by kernel_rfl) (fun _ _ _ h => h) (fun oi hoi => ?_) ?_
        rotate_left
        · simp at hoi
          subst hoi
          refine ⟨by rfl, fun w' hw' => ?_⟩
          go_simp
          all_goals rfl
        try simp only [Act.put, List.setIfInBounds_toArray, List.set_cons_zero, List.set_cons_succ]
        refine later_take (i := 15) (d := 29) (v := ?_) (by kernel_rfl) (by kernel_rfl) (by kernel_rfl) (by kernel_rfl) (fun _ _ _ h => h) (fun oi hoi => ?_) ?_
        rotate_left
        · simp at hoi
          subst hoi
          refine ⟨by rfl, fun w' hw' => ?_⟩
          go_simp
          all_goals rfl
        try simp only [Act.put, List.setIfInBounds_toArray, List.set_cons_zero, List.set_cons_succ]
        refine later_one (i := 16) (by kernel_rfl) (fun oi K hoi hK => ?_)
        simp at hoi
        subst hoi
        refine ⟨by rfl, ?_⟩
        go_simp
        refine (sSecOk_any leaf _ M.out.1).mono ?_
        rw [B4.out]
        rintro e w1 ⟨rfl, hb⟩
        go_simp
        refine hK.out _ _ hb ?_
        clear hK
        replace A := hide ((unhide A).below hb)
        replace R := hide ((unhide R).below hb)
        replace HK := hide ((unhide HK).below hb)
        replace HO := hide ((unhide HO).below hb)
        replace HB := hide (HB.out.trans (hb.mono HB.out.size))
        clear hb
        try simp only [Act.put, List.setIfInBounds_toArray, List.set_cons_zero, List.set_cons_succ]
        refine later_take (i := 17) (d := 31) (v := ?_) (by kernel_rfl) (by kernel_rfl) (by kernel_rfl) (by kernel_rfl) (fun _ _ _ h => h) (fun oi hoi => ?_) ?_
        rotate_left
        · simp at hoi
          subst hoi
          refine ⟨by rfl, fun w' hw' => ?_⟩
          go_simp
          all_goals rfl
        try simp only [Act.put, List.setIfInBounds_toArray, List.set_cons_zero, List.set_cons_succ]
        refine later_take (i := 18) (d := 32) (v := ?_) (by kernel_rfl) (by kernel_rfl) (by kernel_rfl) (by kernel_rfl) (fun _ _ _ h => h) (fun oi hoi => ?_) ?_
        rotate_left
        · simp at hoi
          subst hoi
          refine ⟨by rfl, fun w' hw' => ?_⟩
          go_simp
          all_goals rfl
        try simp only [Act.put, List.setIfInBounds_toArray, List.set_cons_zero, List.set_cons_succ]
        refine later_take (i := 19) (d := 33) (v := ?_) (by kernel_rfl) (by kernel_rfl) (by kernel_rfl) (by kernel_rfl) (fun _ _ _ h => h) (fun oi hoi => ?_) ?_
        rotate_left
        · simp at hoi
          subst hoi
          refine ⟨by rfl, fun w' hw' => ?_⟩
          go_simp
          all_goals rfl
        try simp only [Act.put, List.setIfInBounds_toArray, List.set_cons_zero, List.set_cons_succ]
        refine later_take (i := 20) (d := 34) (v := ?_) (by kernel_rfl) (by kernel_rfl) (by kernel_rfl) (by kernel_rfl) (fun _ _ _ h => h) (fun oi hoi => ?_) ?_
        rotate_left
        · simp at hoi
          subst hoi
          refine ⟨by rfl, fun w' hw' => ?_⟩
          go_simp
          all_goals rfl
        try simp only [Act.put, List.setIfInBounds_toArray, List.set_cons_zero, List.set_cons_succ]
        refine later_one (i := 21) (by kernel_rfl) (fun oi K hoi hK => ?_)
        simp at hoi
        subst hoi
        refine ⟨by rfl, ?_⟩
        go_simp
        refine (sSecOk_any key _ M.out.2).mono ?_
        rw [B5.out]
        rintro e w1 ⟨rfl, hb⟩
        go_simp
        refine hK.out _ _ hb ?_
        clear hK
        replace A := hide ((unhide A).below hb)
        replace R := hide ((unhide R).below hb)
        replace HK := hide ((unhide HK).below hb)
        replace HO := hide ((unhide HO).below hb)
        replace HB := hide (HB.out.trans (hb.mono HB.out.size))
        clear hb
        try simp only [Act.put, List.setIfInBounds_toArray, List.set_cons_zero, List.set_cons_succ]
        refine later_take (i := 22) (d := 36) (v := ?_) (by kernel_rfl) (by kernel_rfl) (by kernel_rfl) (by kernel_rfl) (fun _ _ _ h => h) (fun oi hoi => ?_) ?_
        rotate_left
        · simp at hoi
          subst hoi
          refine ⟨by rfl, fun w' hw' => ?_⟩
          go_simp
          all_goals rfl
        try simp only [Act.put, List.setIfInBounds_toArray, List.set_cons_zero, List.set_cons_succ]
        refine later_take (i := 23) (d := 37) (v := ?_) (by kernel_rfl) (by kernel_rfl) (by kernel_rfl) (by kernel_rfl) (fun _ _ _ h => h) (fun oi hoi => ?_) ?_
        rotate_left
        · simp at hoi
          subst hoi
          refine ⟨by rfl, fun w' hw' => ?_⟩
          go_simp
          all_goals rfl
        try simp only [Act.put, List.setIfInBounds_toArray, List.set_cons_zero, List.set_cons_succ]
        refine later_take (i := 24) (d := 38) (v := ?_) (by kernel_rfl) (by kernel_rfl) (by kernel_rfl) (by kernel_rfl) (fun _ _ _ h => h) (fun oi hoi => ?_) ?_
        rotate_left
        · simp at hoi
          subst hoi
          refine ⟨by rfl, fun w' hw' => ?_⟩
          go_simp
          all_goals rfl
        try simp only [Act.put, List.setIfInBounds_toArray, List.set_cons_zero, List.set_cons_succ]
        refine later_skip (i := 25) (d := 39) (by kernel_rfl) (by kernel_rfl) (by kernel_rfl) (by kernel_rfl) (fun _ _ _ h => h) (by rfl) ?_
        try simp only [Act.put, List.setIfInBounds_toArray, List.set_cons_zero, List.set_cons_succ]
        refine later_skip (i := 26) (d := 40) (by kernel_rfl) (by kernel_rfl) (by kernel_rfl) (by kernel_rfl) (fun _ _ _ h => h) (by rfl) ?_
        try simp only [Act.put, List.setIfInBounds_toArray, List.set_cons_zero, List.set_cons_succ]
        refine later_skip (i := 27) (d := 41) (by kernel_rfl) (by kernel_rfl) (by kernel_rfl) (by kernel_rfl) (fun _ _ _ h => h) (by rfl) ?_
        try simp only [Act.put, List.setIfInBounds_toArray, List.set_cons_zero, List.set_cons_succ]
        refine later_skip (i := 28) (d := 42) (by kernel_rfl) (by kernel_rfl) (by kernel_rfl) (by kernel_rfl) (fun _ _ _ h => h) (by rfl) ?_
        try simp only [Act.put, List.setIfInBounds_toArray, List.set_cons_zero, List.set_cons_succ]
        refine later_skip (i := 29) (d := 43) (by kernel_rfl) (by kernel_rfl) (by kernel_rfl) (by kernel_rfl) (fun _ _ _ h => h) (by rfl) ?_
        try simp only [Act.put, List.setIfInBounds_toArray, List.set_cons_zero, List.set_cons_succ]
        refine later_take (i := 30) (d := 44) (v := ?_) (by kernel_rfl) (by kernel_rfl) (by kernel_rfl) (by kernel_rfl) (fun _ _ _ h => h) (fun oi hoi => ?_) ?_
        rotate_left
        · simp at hoi
          subst hoi
          refine ⟨by rfl, fun w' hw' => ?_⟩
          go_simp
          all_goals rfl
        try simp only [Act.put, List.setIfInBounds_toArray, List.set_cons_zero, List.set_cons_succ]
        refine later_take (i := 31) (d := 45) (v := ?_) (by kernel_rfl) (by kernel_rfl) (by kernel_rfl) (by kernel_rfl) (fun _ _ _ h => h) (fun oi hoi => ?_) ?_
        rotate_left
        · simp at hoi
          subst hoi
          refine ⟨by rfl, fun w' hw' => ?_⟩
          go_simp
          all_goals rfl
        try simp only [Act.put, List.setIfInBounds_toArray, List.set_cons_zero, List.set_cons_succ]
        refine later_skip (i := 32) (d := 46) (by kernel_rfl) (by kernel_rfl) (by kernel_rfl) (by kernel_rfl) (fun _ _ _ h => h) (by rfl) ?_
        try simp only [Act.put, List.setIfInBounds_toArray, List.set_cons_zero, List.set_cons_succ]
        refine later_skip (i := 33) (d := 47) (by kernel_rfl) (by kernel_rfl) (by kernel_rfl) (by kernel_rfl) (fun _ _ _ h => h) (by rfl) ?_
        try simp only [Act.put, List.setIfInBounds_toArray, List.set_cons_zero, List.set_cons_succ]
        refine later_skip (i := 34) (d := 48) (by kernel_rfl) (by kernel_rfl) (by kernel_rfl) (by kernel_rfl) (fun _ _ _ h => h) (by rfl) ?_
        try simp only [Act.put, List.setIfInBounds_toArray, List.set_cons_zero, List.set_cons_succ]
        refine later_skip (i := 35) (d := 49) (by kernel_rfl) (by kernel_rfl) (by kernel_rfl) (by kernel_rfl) (fun _ _ _ h => h) (by rfl) ?_
        try simp only [Act.put, List.setIfInBounds_toArray, List.set_cons_zero, List.set_cons_succ]
        refine later_skip (i := 36) (d := 50) (by kernel_rfl) (by kernel_rfl) (by kernel_rfl) (by kernel_rfl) (fun _ _ _ h => h) (by rfl) ?_
        try simp only [Act.put, List.setIfInBounds_toArray, List.set_cons_zero, List.set_cons_succ]
        refine later_skip (i := 37) (d := 51) (by kernel_rfl) (by kernel_rfl) (by kernel_rfl) (by kernel_rfl) (fun _ _ _ h => h) (by rfl) ?_
        try simp only [Act.put, List.setIfInBounds_toArray, List.set_cons_zero, List.set_cons_succ]
        refine later_take (i := 38) (d := 52) (v := ?_) (by kernel_rfl) (by kernel_rfl) (by kernel_rfl) (by kernel_rfl) (fun _ _ _ h => h) (fun oi hoi => ?_) ?_
        rotate_left
        · simp at hoi
          subst hoi
          refine ⟨by rfl, fun w' hw' => ?_⟩
          go_simp
          all_goals rfl
        try simp only [Act.put, List.setIfInBounds_toArray, List.set_cons_zero, List.set_cons_succ]
        refine later_done (by kernel_rfl) ?_ _
        go_wp2_with (refine wpList_store_whole rfl 35 _ _ rfl (w.heap.size + 1) noMem rfl rfl 35 _ (by exact unhide R) info_mm rfl (one_mm _ _ _ _ _ _ _ _ _ _ _) ?_)
        have l2 := load_mm ((unhide R).set noMem) rfl
        refine bodyPost_ret (v := .tuple #[.agg noMem, .bool false]) (results_cs rfl rfl rfl l2) rfl ?_
        exact ⟨_, _, ret_join HF.out rfl, own_none HF.out, ownM_none HF.out, below_blk HB.out (by omega) _⟩
      | true =>
        simp only [Bool.true_and] at HE
        by_cases h6 : mkKey leaf = lf
        rotate_left
        · rw [show decide (mkKey leaf = lf) = false by simpa using h6] at HE
          have h62 : ((mkKey leaf).toList == lf.toList) = false := by rw [str_dec]; simpa using h6
          clear h6
          have HF : Hid (joinB add leaf key ⟨se, tag, name, add, rem, lf, keys, boxes, ⟨wk, ik, is, sk, ss⟩⟩ = false) := by show _ = _; rw [HE.out]; rfl
          go_enter Tryz.func5, Tryz.ntmps5
          go_wp2_with fail
          refine wp_region_later (by kernel_rfl) ?_
          refine later_take (i := 0) (d := 14) (v := ?_) (by kernel_rfl) (by kernel_rfl) (by kernel_rfl) (by kernel_rfl) (fun _ _ _ h => h) (fun oi hoi => ?_) ?_
          rotate_left
          · simp at hoi
            subst hoi
            refine ⟨by rfl, fun w' hw' => ?_⟩
            have hx := Blk.below (unhide A) hw'
            have x0 := hx.cell 0
            have x1 := hx.cell 1
            have x2 := hx.cell 2
            have x3 := hx.cell 3
            have x4 := hx.cell 4
            have x5 := hx.cell 5
            have x6 := hx.cell 6
            have x7 := hx.cell 7
            have x8 := hx.cell 8
            have x9 := hx.cell 9
            have x10 := hx.cell 10
            have x11 := hx.cell 11
            have x12 := hx.cell 12
            simp only [List.getElem?_toArray, List.getElem?_cons_succ, List.getElem?_cons_zero] at x0 x1 x2 x3 x4 x5 x6 x7 x8 x9 x10 x11 x12
            go_simp
            all_goals rfl
          try simp only [Act.put, List.setIfInBounds_toArray, List.set_cons_zero, List.set_cons_succ]
          refine later_one (i := 1) (by kernel_rfl) (fun oi K hoi hK => ?_)
          simp at hoi
          subst hoi
          refine ⟨by rfl, ?_⟩
          go_simp
          refine (sCmtOk_any ⟨se, tag, name, add, rem, lf, keys, boxes, ⟨wk, ik, is, sk, ss⟩⟩ _ _ _ (unhide HK) (unhide HO) FT.out.1 FT.out.2.1 FT.out.2.2.1 FT.out.2.2.2.1 FT.out.2.2.2.2.1 FT.out.2.2.2.2.2.1 FT.out.2.2.2.2.2.2.1 FT.out.2.2.2.2.2.2.2).mono ?_
          rw [B1.out]
          rintro e w1 ⟨rfl, hb⟩
          go_simp
          refine hK.out _ _ hb ?_
          clear hK
          replace A := hide ((unhide A).below hb)
          replace R := hide ((unhide R).below hb)
          replace HK := hide ((unhide HK).below hb)
          replace HO := hide ((unhide HO).below hb)
          replace HB := hide (HB.out.trans (hb.mono HB.out.size))
          clear hb
          try simp only [Act.put, List.setIfInBounds_toArray, List.set_cons_zero, List.set_cons_succ]
          refine later_take (i := 2) (d := 16) (v := ?_) (by kernel_rfl) (by kernel_rfl) (by kernel_rfl) (by kernel_rfl) (fun _ _ _ h => h) (fun oi hoi => ?_) ?_
          rotate_left
          · simp at hoi
            subst hoi
            refine ⟨by rfl, fun w' hw' => ?_⟩
            go_simp
            all_goals rfl
          try simp only [Act.put, List.setIfInBounds_toArray, List.set_cons_zero, List.set_cons_succ]
          refine later_take (i := 3) (d := 17) (v := ?_) (by kernel_rfl) (by kernel_rfl) (by kernel_rfl) (by kernel_rfl) (fun _ _ _ h => h) (fun oi hoi => ?_) ?_
          rotate_left
          · simp at hoi
            subst hoi
            refine ⟨by rfl, fun w' hw' => ?_⟩
            go_simp
            all_goals rfl
          try simp only [Act.put, List.setIfInBounds_toArray, List.set_cons_zero, List.set_cons_succ]
          refine later_take (i := 4) (d := 18) (v := ?_) (by kernel_rfl) (by kernel_rfl) (by kernel_rfl) (by kernel_rfl) (fun _ _ _ h => h) (fun oi hoi => ?_) ?_
          rotate_left
          · simp at hoi
            subst hoi
            refine ⟨by rfl, fun w' hw' => ?_⟩
            go_simp
            all_goals rfl
          try simp only [Act.put, List.setIfInBounds_toArray, List.set_cons_zero, List.set_cons_succ]
          refine later_take (i := 5) (d := 19) (v := ?_) (by kernel_rfl) (by kernel_rfl) (by kernel_rfl) (by kernel_rfl) (fun _ _ _ h => h) (fun oi hoi => ?_) ?_
          rotate_left
          · simp at hoi
            subst hoi
            refine ⟨by rfl, fun w' hw' => ?_⟩
            have hx := Blk.below (unhide A) hw'
            have x3 := hx.cell 3
            simp only [List.getElem?_toArray, List.getElem?_cons_succ, List.getElem?_cons_zero] at x3
            go_simp
            all_goals rfl
          try simp only [Act.put, List.setIfInBounds_toArray, List.set_cons_zero, List.set_cons_succ]
          refine later_take (i := 6) (d := 20) (v := ?_) (by kernel_rfl) (by kernel_rfl) (by kernel_rfl) (by kernel_rfl) (fun _ _ _ h => h) (fun oi hoi => ?_) ?_
          rotate_left
          · simp at hoi
            subst hoi
            refine ⟨by rfl, fun w' hw' => ?_⟩
            go_simp
            all_goals rfl
          try simp only [Act.put, List.setIfInBounds_toArray, List.set_cons_zero, List.set_cons_succ]
          refine later_take (i := 7) (d := 21) (v := ?_) (by kernel_rfl) (by kernel_rfl) (by kernel_rfl) (by kernel_rfl) (fun _ _ _ h => h) (fun oi hoi => ?_) ?_
          rotate_left
          · simp at hoi
            subst hoi
            refine ⟨by rfl, fun w' hw' => ?_⟩
            go_simp
            all_goals rfl
          try simp only [Act.put, List.setIfInBounds_toArray, List.set_cons_zero, List.set_cons_succ]
          refine later_take (i := 8) (d := 22) (v := ?_) (by kernel_rfl) (by kernel_rfl) (by kernel_rfl) (by kernel_rfl) (fun _ _ _ h => h) (fun oi hoi => ?_) ?_
          rotate_left
          · simp at hoi
            subst hoi
            refine ⟨by rfl, fun w' hw' => ?_⟩
            go_simp
            all_goals rfl
          try simp only [Act.put, List.setIfInBounds_toArray, List.set_cons_zero, List.set_cons_succ]
          refine later_take (i := 9) (d := 23) (v := ?_) (by kernel_rfl) (by kernel_rfl) (by kernel_rfl) (by kernel_rfl) (fun _ _ _ h => h) (fun oi hoi => ?_) ?_
          rotate_left
          · simp at hoi
            subst hoi
            refine ⟨by rfl, fun w' hw' => ?_⟩
            go_simp
            all_goals rfl
          try simp only [Act.put, List.setIfInBounds_toArray, List.set_cons_zero, List.set_cons_succ]
          refine later_take (i := 10) (d := 24) (v := ?_) (by kernel_rfl) (by kernel_rfl) (by kernel_rfl) (by kernel_rfl) (fun _ _ _ h => h) (fun oi hoi => ?_) ?_
          rotate_left
          · simp at hoi
            subst hoi
            refine ⟨by rfl, fun w' hw' => ?_⟩
            have hx := Blk.below (unhide A) hw'
            have x3 := hx.cell 3
            simp only [List.getElem?_toArray, List.getElem?_cons_succ, List.getElem?_cons_zero] at x3
            go_simp
            all_goals rfl
          try simp only [Act.put, List.setIfInBounds_toArray, List.set_cons_zero, List.set_cons_succ]
          refine later_take (i := 11) (d := 25) (v := ?_) (by kernel_rfl) (by kernel_rfl) (by kernel_rfl) (by kernel_rfl) (fun _ _ _ h => h) (fun oi hoi => ?_) ?_
          rotate_left
          · simp at hoi
            subst hoi
            refine ⟨by rfl, fun w' hw' => ?_⟩
            go_simp
            all_goals rfl
          try simp only [Act.put, List.setIfInBounds_toArray, List.set_cons_zero, List.set_cons_succ]
          refine later_take (i := 12) (d := 26) (v := ?_) (by kernel_rfl) (by kernel_rfl) (by kernel_rfl) (by kernel_rfl) (fun _ _ _ h => h) (fun oi hoi => ?_) ?_
          rotate_left
          · simp at hoi
            subst hoi
            refine ⟨by rfl, fun w' hw' => ?_⟩
            go_simp
            all_goals rfl
          try simp only [Act.put, List.setIfInBounds_toArray, List.set_cons_zero, List.set_cons_succ]
          refine later_take (i := 13) (d := 27) (v := ?_) (by kernel_rfl) (by kernel_rfl) (by kernel_rfl) (by kernel_rfl) (fun _ _ _ h => h) (fun oi hoi => ?_) ?_
          rotate_left
          · simp at hoi
            subst hoi
            refine ⟨by rfl, fun w' hw' => ?_⟩
            go_simp
            all_goals rfl
          try simp only [Act.put, List.setIfInBounds_toArray, List.set_cons_zero, List.set_cons_succ]
          refine later_take (i := 14) (d := 28) (v := ?_) (by kernel_rfl) (by kernel_rfl) (by kernel_rfl) (by kernel_rfl) (fun _ _ _ h => h) (fun oi hoi => ?_) ?_
          rotate_left
          · simp at hoi
            subst hoi
            refine ⟨by rfl, fun w' hw' => ?_⟩
            go_simp
            all_goals rfl
          try simp only [Act.put, List.setIfInBounds_toArray, List.set_cons_zero, List.set_cons_succ]
          refine later_take (i := 15) (d := 29) (v := ?_) (by kernel_rfl) (by kernel_rfl) (by kernel_rfl) (by kernel_rfl) (fun _ _ _ h => h) (fun oi hoi => ?_) ?_
          rotate_left
          · simp at hoi
            subst hoi
            refine ⟨by rfl, fun w' hw' => ?_⟩
            go_simp
            all_goals rfl
          try simp only [Act.put, List.setIfInBounds_toArray, List.set_cons_zero, List.set_cons_succ]
          refine later_one (i := 16) (by kernel_rfl) (fun oi K hoi hK => ?_)
          simp at hoi
          subst hoi
          refine ⟨by rfl, ?_⟩
          go_simp
          refine (sSecOk_any leaf _ M.out.1).mono ?_
          rw [B4.out]
          rintro e w1 ⟨rfl, hb⟩
          go_simp
          refine hK.out _ _ hb ?_
          clear hK
          replace A := hide ((unhide A).below hb)
          replace R := hide ((unhide R).below hb)
          replace HK := hide ((unhide HK).below hb)
          replace HO := hide ((unhide HO).below hb)
          replace HB := hide (HB.out.trans (hb.mono HB.out.size))
          clear hb
          try simp only [Act.put, List.setIfInBounds_toArray, List.set_cons_zero, List.set_cons_succ]
          refine later_take (i := 17) (d := 31) (v := ?_) (by kernel_rfl) (by kernel_rfl) (by kernel_rfl) (by kernel_rfl) (fun _ _ _ h => h) (fun oi hoi => ?_) ?_
          rotate_left
          · simp at hoi
            subst hoi
            refine ⟨by rfl, fun w' hw' => ?_⟩
            go_simp
            all_goals rfl
          try simp only [Act.put, List.setIfInBounds_toArray, List.set_cons_zero, List.set_cons_succ]
          refine later_take (i := 18) (d := 32) (v := ?_) (by kernel_rfl) (by kernel_rfl) (by kernel_rfl) (by kernel_rfl) (fun _ _ _ h => h) (fun oi hoi => ?_) ?_
          rotate_left
          · simp at hoi
            subst hoi
            refine ⟨by rfl, fun w' hw' => ?_⟩
            go_simp
            all_goals rfl
          try simp only [Act.put, List.setIfInBounds_toArray, List.set_cons_zero, List.set_cons_succ]
          refine later_take (i := 19) (d := 33) (v := ?_) (by kernel_rfl) (by kernel_rfl) (by kernel_rfl) (by kernel_rfl) (fun _ _ _ h => h) (fun oi hoi => ?_) ?_
          rotate_left
          · simp at hoi
            subst hoi
            refine ⟨by rfl, fun w' hw' => ?_⟩
            go_simp
            all_goals rfl
          try simp only [Act.put, List.setIfInBounds_toArray, List.set_cons_zero, List.set_cons_succ]
          refine later_take (i := 20) (d := 34) (v := ?_) (by kernel_rfl) (by kernel_rfl) (by kernel_rfl) (by kernel_rfl) (fun _ _ _ h => h) (fun oi hoi => ?_) ?_
          rotate_left
          · simp at hoi
            subst hoi
            refine ⟨by rfl, fun w' hw' => ?_⟩
            go_simp
            all_goals rfl
          try simp only [Act.put, List.setIfInBounds_toArray, List.set_cons_zero, List.set_cons_succ]
          refine later_one (i := 21) (by kernel_rfl) (fun oi K hoi hK => ?_)
          simp at hoi
          subst hoi
          refine ⟨by rfl, ?_⟩
          go_simp
          refine (sSecOk_any key _ M.out.2).mono ?_
          rw [B5.out]
          rintro e w1 ⟨rfl, hb⟩
          go_simp
          refine hK.out _ _ hb ?_
          clear hK
          replace A := hide ((unhide A).below hb)
          replace R := hide ((unhide R).below hb)
          replace HK := hide ((unhide HK).below hb)
          replace HO := hide ((unhide HO).below hb)
          replace HB := hide (HB.out.trans (hb.mono HB.out.size))
          clear hb
          try simp only [Act.put, List.setIfInBounds_toArray, List.set_cons_zero, List.set_cons_succ]
          refine later_take (i := 22) (d := 36) (v := ?_) (by kernel_rfl) (by kernel_rfl) (by kernel_rfl) (by kernel_rfl) (fun _ _ _ h => h) (fun oi hoi => ?_) ?_
          rotate_left
          · simp at hoi
            subst hoi
            refine ⟨by rfl, fun w' hw' => ?_⟩
            go_simp
            all_goals rfl
          try simp only [Act.put, List.setIfInBounds_toArray, List.set_cons_zero, List.set_cons_succ]
          refine later_take (i := 23) (d := 37) (v := ?_) (by kernel_rfl) (by kernel_rfl) (by kernel_rfl) (by kernel_rfl) (fun _ _ _ h => h) (fun oi hoi => ?_) ?_
          rotate_left
          · simp at hoi
            subst hoi
            refine ⟨by rfl, fun w' hw' => ?_⟩
            go_simp
            all_goals rfl
          try simp only [Act.put, List.setIfInBounds_toArray, List.set_cons_zero, List.set_cons_succ]
          refine later_take (i := 24) (d := 38) (v := ?_) (by kernel_rfl) (by kernel_rfl) (by kernel_rfl) (by kernel_rfl) (fun _ _ _ h => h) (fun oi hoi => ?_) ?_
          rotate_left
          · simp at hoi
            subst hoi
            refine ⟨by rfl, fun w' hw' => ?_⟩
            go_simp
            all_goals rfl
          try simp only [Act.put, List.setIfInBounds_toArray, List.set_cons_zero, List.set_cons_succ]
          refine later_take (i := 25) (d := 39) (v := ?_) (by kernel_rfl) (by kernel_rfl) (by kernel_rfl) (by kernel_rfl) (fun _ _ _ h => h) (fun oi hoi => ?_) ?_
          rotate_left
          · simp at hoi
            subst hoi
            refine ⟨by rfl, fun w' hw' => ?_⟩
            go_simp
            all_goals rfl
          try simp only [Act.put, List.setIfInBounds_toArray, List.set_cons_zero, List.set_cons_succ]
          refine later_take (i := 27) (d := 41) (v := ?_) (by kernel_rfl) (by kernel_rfl) (by kernel_rfl) (by kernel_rfl) (fun _ _ _ h => h) (fun oi hoi => ?_) ?_
          rotate_left
          · simp at hoi
            subst hoi
            refine ⟨by rfl, fun w' hw' => ?_⟩
            go_simp
            all_goals rfl
          try simp only [Act.put, List.setIfInBounds_toArray, List.set_cons_zero, List.set_cons_succ]
          refine later_take (i := 28) (d := 42) (v := ?_) (by kernel_rfl) (by kernel_rfl) (by kernel_rfl) (by kernel_rfl) (fun _ _ _ h => h) (fun oi hoi => ?_) ?_
          rotate_left
          · simp at hoi
            subst hoi
            refine ⟨by rfl, fun w' hw' => ?_⟩
            have hx := Blk.below (unhide A) hw'
            have x5 := hx.cell 5
            simp only [List.getElem?_toArray, List.getElem?_cons_succ, List.getElem?_cons_zero] at x5
            go_simp
            all_goals rfl
          try simp only [Act.put, List.setIfInBounds_toArray, List.set_cons_zero, List.set_cons_succ]
          refine later_one (i := 26) (by kernel_rfl) (fun oi K hoi hK => ?_)
          simp at hoi
          subst hoi
          refine ⟨by rfl, ?_⟩
          go_simp
          refine (sMakKey_any leaf _ M.out.1).mono ?_
          rintro e w1 ⟨rfl, hb⟩
          go_simp
          refine hK.out _ _ hb ?_
          clear hK
          replace A := hide ((unhide A).below hb)
          replace R := hide ((unhide R).below hb)
          replace HK := hide ((unhide HK).below hb)
          replace HO := hide ((unhide HO).below hb)
          replace HB := hide (HB.out.trans (hb.mono HB.out.size))
          clear hb
          try simp only [Act.put, List.setIfInBounds_toArray, List.set_cons_zero, List.set_cons_succ]
          refine later_take (i := 29) (d := 43) (v := ?_) (by kernel_rfl) (by kernel_rfl) (by kernel_rfl) (by kernel_rfl) (fun _ _ _ h => h) (fun oi hoi => ?_) ?_
          rotate_left
          · simp at hoi
            subst hoi
            refine ⟨by rfl, fun w' hw' => ?_⟩
            go_simp
            all_goals rfl
          try simp only [Act.put, List.setIfInBounds_toArray, List.set_cons_zero, List.set_cons_succ]
          refine later_take (i := 30) (d := 44) (v := ?_) (by kernel_rfl) (by kernel_rfl) (by kernel_rfl) (by kernel_rfl) (fun _ _ _ h => h) (fun oi hoi => ?_) ?_
          rotate_left
          · simp at hoi
            subst hoi
            refine ⟨by rfl, fun w' hw' => ?_⟩
            go_simp
            all_goals rfl
          try simp only [Act.put, List.setIfInBounds_toArray, List.set_cons_zero, List.set_cons_succ]
          refine later_take (i := 31) (d := 45) (v := ?_) (by kernel_rfl) (by kernel_rfl) (by kernel_rfl) (by kernel_rfl) (fun _ _ _ h => h) (fun oi hoi => ?_) ?_
          rotate_left
          · simp at hoi
            subst hoi
            refine ⟨by rfl, fun w' hw' => ?_⟩
            go_simp
            all_goals rfl
          try simp only [Act.put, List.setIfInBounds_toArray, List.set_cons_zero, List.set_cons_succ]
          refine later_skip (i := 32) (d := 46) (by kernel_rfl) (by kernel_rfl) (by kernel_rfl) (by kernel_rfl) (fun _ _ _ h => h) (by rfl) ?_
          try simp only [Act.put, List.setIfInBounds_toArray, List.set_cons_zero, List.set_cons_succ]
          refine later_skip (i := 33) (d := 47) (by kernel_rfl) (by kernel_rfl) (by kernel_rfl) (by kernel_rfl) (fun _ _ _ h => h) (by rfl) ?_
          try simp only [Act.put, List.setIfInBounds_toArray, List.set_cons_zero, List.set_cons_succ]
          refine later_skip (i := 34) (d := 48) (by kernel_rfl) (by kernel_rfl) (by kernel_rfl) (by kernel_rfl) (fun _ _ _ h => h) (by rfl) ?_
          try simp only [Act.put, List.setIfInBounds_toArray, List.set_cons_zero, List.set_cons_succ]
          refine later_skip (i := 35) (d := 49) (by kernel_rfl) (by kernel_rfl) (by kernel_rfl) (by kernel_rfl) (fun _ _ _ h => h) (by rfl) ?_
          try simp only [Act.put, List.setIfInBounds_toArray, List.set_cons_zero, List.set_cons_succ]
          refine later_skip (i := 36) (d := 50) (by kernel_rfl) (by kernel_rfl) (by kernel_rfl) (by kernel_rfl) (fun _ _ _ h => h) (by rfl) ?_
          try simp only [Act.put, List.setIfInBounds_toArray, List.set_cons_zero, List.set_cons_succ]
          refine later_skip (i := 37) (d := 51) (by kernel_rfl) (by kernel_rfl) (by kernel_rfl) (by kernel_rfl) (fun _ _ _ h => h) (by rfl) ?_
          try simp only [Act.put, List.setIfInBounds_toArray, List.set_cons_zero, List.set_cons_succ]
          refine later_take (i := 38) (d := 52) (v := ?_) (by kernel_rfl) (by kernel_rfl) (by kernel_rfl) (by kernel_rfl) (fun _ _ _ h => h) (fun oi hoi => ?_) ?_
          rotate_left
          · simp at hoi
            subst hoi
            refine ⟨by rfl, fun w' hw' => ?_⟩
            go_simp
            all_goals rfl
          try simp only [Act.put, List.setIfInBounds_toArray, List.set_cons_zero, List.set_cons_succ]
          refine later_done (by kernel_rfl) ?_ _
          go_wp2_with (refine wpList_store_whole rfl 35 _ _ rfl (w.heap.size + 1) noMem rfl rfl 35 _ (by exact unhide R) info_mm rfl (one_mm _ _ _ _ _ _ _ _ _ _ _) ?_)
          have l2 := load_mm ((unhide R).set noMem) rfl
          refine bodyPost_ret (v := .tuple #[.agg noMem, .bool false]) (results_cs rfl rfl rfl l2) rfl ?_
          exact ⟨_, _, ret_join HF.out rfl, own_none HF.out, ownM_none HF.out, below_blk HB.out (by omega) _⟩
        rw [show decide (mkKey leaf = lf) = true by simpa using h6] at HE
        simp only [Bool.true_and] at HE
        have h62 : ((mkKey leaf).toList == lf.toList) = true := toList_eq.2 h6
        have H6 := hide h6
        clear h6
        by_cases h7 : mkKey key = wk
        rotate_left
        · rw [show decide (mkKey key = wk) = false by simpa using h7] at HE
          have h72 : ((mkKey key).toList == wk.toList) = false := by rw [str_dec]; simpa using h7
          clear h7
          have HF : Hid (joinB add leaf key ⟨se, tag, name, add, rem, lf, keys, boxes, ⟨wk, ik, is, sk, ss⟩⟩ = false) := by show _ = _; rw [HE.out]; rfl
          go_enter Tryz.func5, Tryz.ntmps5
          go_wp2_with fail
          refine wp_region_later (by kernel_rfl) ?_
          refine later_take (i := 0) (d := 14) (v := ?_) (by kernel_rfl) (by kernel_rfl) (by kernel_rfl) (by kernel_rfl) (fun _ _ _ h => h) (fun oi hoi => ?_) ?_
          rotate_left
          · simp at hoi
            subst hoi
            refine ⟨by rfl, fun w' hw' => ?_⟩
            have hx := Blk.below (unhide A) hw'
            have x0 := hx.cell 0
            have x1 := hx.cell 1
            have x2 := hx.cell 2
            have x3 := hx.cell 3
            have x4 := hx.cell 4
            have x5 := hx.cell 5
            have x6 := hx.cell 6
            have x7 := hx.cell 7
            have x8 := hx.cell 8
            have x9 := hx.cell 9
            have x10 := hx.cell 10
            have x11 := hx.cell 11
            have x12 := hx.cell 12
            simp only [List.getElem?_toArray, List.getElem?_cons_succ, List.getElem?_cons_zero] at x0 x1 x2 x3 x4 x5 x6 x7 x8 x9 x10 x11 x12
            go_simp
            all_goals rfl
          try simp only [Act.put, List.setIfInBounds_toArray, List.set_cons_zero, List.set_cons_succ]
          refine later_one (i := 1) (by kernel_rfl) (fun oi K hoi hK => ?_)
          simp at hoi
          subst hoi
          refine ⟨by rfl, ?_⟩
          go_simp
          refine (sCmtOk_any ⟨se, tag, name, add, rem, lf, keys, boxes, ⟨wk, ik, is, sk, ss⟩⟩ _ _ _ (unhide HK) (unhide HO) FT.out.1 FT.out.2.1 FT.out.2.2.1 FT.out.2.2.2.1 FT.out.2.2.2.2.1 FT.out.2.2.2.2.2.1 FT.out.2.2.2.2.2.2.1 FT.out.2.2.2.2.2.2.2).mono ?_
          rw [B1.out]
          rintro e w1 ⟨rfl, hb⟩
          go_simp
          refine hK.out _ _ hb ?_
          clear hK
          replace A := hide ((unhide A).below hb)
          replace R := hide ((unhide R).below hb)
          replace HK := hide ((unhide HK).below hb)
          replace HO := hide ((unhide HO).below hb)
          replace HB := hide (HB.out.trans (hb.mono HB.out.size))
          clear hb
          try simp only [Act.put, List.setIfInBounds_toArray, List.set_cons_zero, List.set_cons_succ]
          refine later_take (i := 2) (d := 16) (v := ?_) (by kernel_rfl) (by kernel_rfl) (by kernel_rfl) (by kernel_rfl) (fun _ _ _ h => h) (fun oi hoi => ?_) ?_
          rotate_left
          · simp at hoi
            subst hoi
            refine ⟨by rfl, fun w' hw' => ?_⟩
            go_simp
            all_goals rfl
          try simp only [Act.put, List.setIfInBounds_toArray, List.set_cons_zero, List.set_cons_succ]
          refine later_take (i := 3) (d := 17) (v := ?_) (by kernel_rfl) (by kernel_rfl) (by kernel_rfl) (by kernel_rfl) (fun _ _ _ h => h) (fun oi hoi => ?_) ?_
          rotate_left
          · simp at hoi
            subst hoi
            refine ⟨by rfl, fun w' hw' => ?_⟩
            go_simp
            all_goals rfl
          try simp only [Act.put, List.setIfInBounds_toArray, List.set_cons_zero, List.set_cons_succ]
          refine later_take (i := 4) (d := 18) (v := ?_) (by kernel_rfl) (by kernel_rfl) (by kernel_rfl) (by kernel_rfl) (fun _ _ _ h => h) (fun oi hoi => ?_) ?_
          rotate_left
          · simp at hoi
            subst hoi
            refine ⟨by rfl, fun w' hw' => ?_⟩
            go_simp
            all_goals rfl
          try simp only [Act.put, List.setIfInBounds_toArray, List.set_cons_zero, List.set_cons_succ]
          refine later_take (i := 5) (d := 19) (v := ?_) (by kernel_rfl) (by kernel_rfl) (by kernel_rfl) (by kernel_rfl) (fun _ _ _ h => h) (fun oi hoi => ?_) ?_
          rotate_left
          · simp at hoi
            subst hoi
            refine ⟨by rfl, fun w' hw' => ?_⟩
            have hx := Blk.below (unhide A) hw'
            have x3 := hx.cell 3
            simp only [List.getElem?_toArray, List.getElem?_cons_succ, List.getElem?_cons_zero] at x3
            go_simp
            all_goals rfl
          try simp only [Act.put, List.setIfInBounds_toArray, List.set_cons_zero, List.set_cons_succ]
          refine later_take (i := 6) (d := 20) (v := ?_) (by kernel_rfl) (by kernel_rfl) (by kernel_rfl) (by kernel_rfl) (fun _ _ _ h => h) (fun oi hoi => ?_) ?_
          rotate_left
          · simp at hoi
            subst hoi
            refine ⟨by rfl, fun w' hw' => ?_⟩
            go_simp
            all_goals rfl
          try simp only [Act.put, List.setIfInBounds_toArray, List.set_cons_zero, List.set_cons_succ]
          refine later_take (i := 7) (d := 21) (v := ?_) (by kernel_rfl) (by kernel_rfl) (by kernel_rfl) (by kernel_rfl) (fun _ _ _ h => h) (fun oi hoi => ?_) ?_
          rotate_left
          · simp at hoi
            subst hoi
            refine ⟨by rfl, fun w' hw' => ?_⟩
            go_simp
            all_goals rfl
          try simp only [Act.put, List.setIfInBounds_toArray, List.set_cons_zero, List.set_cons_succ]
          refine later_take (i := 8) (d := 22) (v := ?_) (by kernel_rfl) (by kernel_rfl) (by kernel_rfl) (by kernel_rfl) (fun _ _ _ h => h) (fun oi hoi => ?_) ?_
          rotate_left
          · simp at hoi
            subst hoi
            refine ⟨by rfl, fun w' hw' => ?_⟩
            go_simp
            all_goals rfl
          try simp only [Act.put, List.setIfInBounds_toArray, List.set_cons_zero, List.set_cons_succ]
          refine later_take (i := 9) (d := 23) (v := ?_) (by kernel_rfl) (by kernel_rfl) (by kernel_rfl) (by kernel_rfl) (fun _ _ _ h => h) (fun oi hoi => ?_) ?_
          rotate_left
          · simp at hoi
            subst hoi
            refine ⟨by rfl, fun w' hw' => ?_⟩
            go_simp
            all_goals rfl
          try simp only [Act.put, List.setIfInBounds_toArray, List.set_cons_zero, List.set_cons_succ]
          refine later_take (i := 10) (d := 24) (v := ?_) (by kernel_rfl) (by kernel_rfl) (by kernel_rfl) (by kernel_rfl) (fun _ _ _ h => h) (fun oi hoi => ?_) ?_
          rotate_left
          · simp at hoi
            subst hoi
            refine ⟨by rfl, fun w' hw' => ?_⟩
            have hx := Blk.below (unhide A) hw'
            have x3 := hx.cell 3
            simp only [List.getElem?_toArray, List.getElem?_cons_succ, List.getElem?_cons_zero] at x3
            go_simp
            all_goals rfl
          try simp only [Act.put, List.setIfInBounds_toArray, List.set_cons_zero, List.set_cons_succ]
          refine later_take (i := 11) (d := 25) (v := ?_) (by kernel_rfl) (by kernel_rfl) (by kernel_rfl) (by kernel_rfl) (fun _ _ _ h => h) (fun oi hoi => ?_) ?_
          rotate_left
          · simp at hoi
            subst hoi
            refine ⟨by rfl, fun w' hw' => ?_⟩
            go_simp
            all_goals rfl
          try simp only [Act.put, List.setIfInBounds_toArray, List.set_cons_zero, List.set_cons_succ]
          refine later_take (i := 12) (d := 26) (v := ?_) (by kernel_rfl) (by kernel_rfl) (by kernel_rfl) (by kernel_rfl) (fun _ _ _ h => h) (fun oi hoi => ?_) ?_
          rotate_left
          · simp at hoi
            subst hoi
            refine ⟨by rfl, fun w' hw' => ?_⟩
            go_simp
            all_goals rfl
          try simp only [Act.put, List.setIfInBounds_toArray, List.set_cons_zero, List.set_cons_succ]
          refine later_take (i := 13) (d := 27) (v := ?_) (by kernel_rfl) (by kernel_rfl) (by kernel_rfl) (by kernel_rfl) (fun _ _ _ h => h) (fun oi hoi => ?_) ?_
          rotate_left
          · simp at hoi
            subst hoi
            refine ⟨by rfl, fun w' hw' => ?_⟩
            go_simp
            all_goals rfl
          try simp only [Act.put, List.setIfInBounds_toArray, List.set_cons_zero, List.set_cons_succ]
          refine later_take (i := 14) (d := 28) (v := ?_) (by kernel_rfl) (by kernel_rfl) (by kernel_rfl) (by kernel_rfl) (fun _ _ _ h => h) (fun oi hoi => ?_) ?_
          rotate_left
          · simp at hoi
            subst hoi
            refine ⟨by rfl, fun w' hw' => ?_⟩
            go_simp
            all_goals rfl
          try simp only [Act.put, List.setIfInBounds_toArray, List.set_cons_zero, List.set_cons_succ]
          refine later_take (i := 15) (d := 29) (v := ?_) (by kernel_rfl) (by kernel_rfl) (by kernel_rfl) (by kernel_rfl) (fun _ _ _ h => h) (fun oi hoi => ?_) ?_
          rotate_left
          · simp at hoi
            subst hoi
            refine ⟨by rfl, fun w' hw' => ?_⟩
            go_simp
            all_goals rfl
          try simp only [Act.put, List.setIfInBounds_toArray, List.set_cons_zero, List.set_cons_succ]
          refine later_one (i := 16) (by kernel_rfl) (fun oi K hoi hK => ?_)
          simp at hoi
          subst hoi
          refine ⟨by rfl, ?_⟩
          go_simp
          refine (sSecOk_any leaf _ M.out.1).mono ?_
          rw [B4.out]
          rintro e w1 ⟨rfl, hb⟩
          go_simp
          refine hK.out _ _ hb ?_
          clear hK
          replace A := hide ((unhide A).below hb)
          replace R := hide ((unhide R).below hb)
          replace HK := hide ((unhide HK).below hb)
          replace HO := hide ((unhide HO).below hb)
          replace HB := hide (HB.out.trans (hb.mono HB.out.size))
          clear hb
          try simp only [Act.put, List.setIfInBounds_toArray, List.set_cons_zero, List.set_cons_succ]
          refine later_take (i := 17) (d := 31) (v := ?_) (by kernel_rfl) (by kernel_rfl) (by kernel_rfl) (by kernel_rfl) (fun _ _ _ h => h) (fun oi hoi => ?_) ?_
          rotate_left
          · simp at hoi
            subst hoi
            refine ⟨by rfl, fun w' hw' => ?_⟩
            go_simp
            all_goals rfl
          try simp only [Act.put, List.setIfInBounds_toArray, List.set_cons_zero, List.set_cons_succ]
          refine later_take (i := 18) (d := 32) (v := ?_) (by kernel_rfl) (by kernel_rfl) (by kernel_rfl) (by kernel_rfl) (fun _ _ _ h => h) (fun oi hoi => ?_) ?_
          rotate_left
          · simp at hoi
            subst hoi
            refine ⟨by rfl, fun w' hw' => ?_⟩
            go_simp
            all_goals rfl
          try simp only [Act.put, List.setIfInBounds_toArray, List.set_cons_zero, List.set_cons_succ]
          refine later_take (i := 19) (d := 33) (v := ?_) (by kernel_rfl) (by kernel_rfl) (by kernel_rfl) (by kernel_rfl) (fun _ _ _ h => h) (fun oi hoi => ?_) ?_
          rotate_left
          · simp at hoi
            subst hoi
            refine ⟨by rfl, fun w' hw' => ?_⟩
            go_simp
            all_goals rfl
          try simp only [Act.put, List.setIfInBounds_toArray, List.set_cons_zero, List.set_cons_succ]
          refine later_take (i := 20) (d := 34) (v := ?_) (by kernel_rfl) (by kernel_rfl) (by kernel_rfl) (by kernel_rfl) (fun _ _ _ h => h) (fun oi hoi => ?_) ?_
          rotate_left
          · simp at hoi
            subst hoi
            refine ⟨by rfl, fun w' hw' => ?_⟩
            go_simp
            all_goals rfl
          try simp only [Act.put, List.setIfInBounds_toArray, List.set_cons_zero, List.set_cons_succ]
          refine later_one (i := 21) (by kernel_rfl) (fun oi K hoi hK => ?_)
          simp at hoi
          subst hoi
          refine ⟨by rfl, ?_⟩
          go_simp
          refine (sSecOk_any key _ M.out.2).mono ?_
          rw [B5.out]
          rintro e w1 ⟨rfl, hb⟩
          go_simp
          refine hK.out _ _ hb ?_
          clear hK
          replace A := hide ((unhide A).below hb)
          replace R := hide ((unhide R).below hb)
          replace HK := hide ((unhide HK).below hb)
          replace HO := hide ((unhide HO).below hb)
          replace HB := hide (HB.out.trans (hb.mono HB.out.size))
          clear hb
          try simp only [Act.put, List.setIfInBounds_toArray, List.set_cons_zero, List.set_cons_succ]
          refine later_take (i := 22) (d := 36) (v := ?_) (by kernel_rfl) (by kernel_rfl) (by kernel_rfl) (by kernel_rfl) (fun _ _ _ h => h) (fun oi hoi => ?_) ?_
          rotate_left
          · simp at hoi
            subst hoi
            refine ⟨by rfl, fun w' hw' => ?_⟩
            go_simp
            all_goals rfl
          try simp only [Act.put, List.setIfInBounds_toArray, List.set_cons_zero, List.set_cons_succ]
          refine later_take (i := 23) (d := 37) (v := ?_) (by kernel_rfl) (by kernel_rfl) (by kernel_rfl) (by kernel_rfl) (fun _ _ _ h => h) (fun oi hoi => ?_) ?_
          rotate_left
          · simp at hoi
            subst hoi
            refine ⟨by rfl, fun w' hw' => ?_⟩
            go_simp
            all_goals rfl
          try simp only [Act.put, List.setIfInBounds_toArray, List.set_cons_zero, List.set_cons_succ]
          refine later_take (i := 24) (d := 38) (v := ?_) (by kernel_rfl) (by kernel_rfl) (by kernel_rfl) (by kernel_rfl) (fun _ _ _ h => h) (fun oi hoi => ?_) ?_
          rotate_left
          · simp at hoi
            subst hoi
            refine ⟨by rfl, fun w' hw' => ?_⟩
            go_simp
            all_goals rfl
          try simp only [Act.put, List.setIfInBounds_toArray, List.set_cons_zero, List.set_cons_succ]
          refine later_take (i := 25) (d := 39) (v := ?_) (by kernel_rfl) (by kernel_rfl) (by kernel_rfl) (by kernel_rfl) (fun _ _ _ h => h) (fun oi hoi => ?_) ?_
          rotate_left
          · simp at hoi
            subst hoi
            refine ⟨by rfl, fun w' hw' => ?_⟩
            go_simp
            all_goals rfl
          try simp only [Act.put, List.setIfInBounds_toArray, List.set_cons_zero, List.set_cons_succ]
          refine later_take (i := 27) (d := 41) (v := ?_) (by kernel_rfl) (by kernel_rfl) (by kernel_rfl) (by kernel_rfl) (fun _ _ _ h => h) (fun oi hoi => ?_) ?_
          rotate_left
          · simp at hoi
            subst hoi
            refine ⟨by rfl, fun w' hw' => ?_⟩
            go_simp
            all_goals rfl
          try simp only [Act.put, List.setIfInBounds_toArray, List.set_cons_zero, List.set_cons_succ]
          refine later_take (i := 28) (d := 42) (v := ?_) (by kernel_rfl) (by kernel_rfl) (by kernel_rfl) (by kernel_rfl) (fun _ _ _ h => h) (fun oi hoi => ?_) ?_
          rotate_left
          · simp at hoi
            subst hoi
            refine ⟨by rfl, fun w' hw' => ?_⟩
            have hx := Blk.below (unhide A) hw'
            have x5 := hx.cell 5
            simp only [List.getElem?_toArray, List.getElem?_cons_succ, List.getElem?_cons_zero] at x5
            go_simp
            all_goals rfl
          try simp only [Act.put, List.setIfInBounds_toArray, List.set_cons_zero, List.set_cons_succ]
          refine later_one (i := 26) (by kernel_rfl) (fun oi K hoi hK => ?_)
          simp at hoi
          subst hoi
          refine ⟨by rfl, ?_⟩
          go_simp
          refine (sMakKey_any leaf _ M.out.1).mono ?_
          rintro e w1 ⟨rfl, hb⟩
          go_simp
          refine hK.out _ _ hb ?_
          clear hK
          replace A := hide ((unhide A).below hb)
          replace R := hide ((unhide R).below hb)
          replace HK := hide ((unhide HK).below hb)
          replace HO := hide ((unhide HO).below hb)
          replace HB := hide (HB.out.trans (hb.mono HB.out.size))
          clear hb
          try simp only [Act.put, List.setIfInBounds_toArray, List.set_cons_zero, List.set_cons_succ]
          refine later_take (i := 29) (d := 43) (v := ?_) (by kernel_rfl) (by kernel_rfl) (by kernel_rfl) (by kernel_rfl) (fun _ _ _ h => h) (fun oi hoi => ?_) ?_
          rotate_left
          · simp at hoi
            subst hoi
            refine ⟨by rfl, fun w' hw' => ?_⟩
            go_simp
            all_goals rfl
          try simp only [Act.put, List.setIfInBounds_toArray, List.set_cons_zero, List.set_cons_succ]
          refine later_take (i := 30) (d := 44) (v := ?_) (by kernel_rfl) (by kernel_rfl) (by kernel_rfl) (by kernel_rfl) (fun _ _ _ h => h) (fun oi hoi => ?_) ?_
          rotate_left
          · simp at hoi
            subst hoi
            refine ⟨by rfl, fun w' hw' => ?_⟩
            go_simp
            all_goals rfl
          try simp only [Act.put, List.setIfInBounds_toArray, List.set_cons_zero, List.set_cons_succ]
          refine later_take (i := 31) (d := 45) (v := ?_) (by kernel_rfl) (by kernel_rfl) (by kernel_rfl) (by kernel_rfl) (fun _ _ _ h => h) (fun oi hoi => ?_) ?_
          rotate_left
          · simp at hoi
            subst hoi
            refine ⟨by rfl, fun w' hw' => ?_⟩
            go_simp
            all_goals rfl
          try simp only [Act.put, List.setIfInBounds_toArray, List.set_cons_zero, List.set_cons_succ]
          refine later_take (i := 32) (d := 46) (v := ?_) (by kernel_rfl) (by kernel_rfl) (by kernel_rfl) (by kernel_rfl) (fun _ _ _ h => h) (fun oi hoi => ?_) ?_
          rotate_left
          · simp at hoi
            subst hoi
            refine ⟨by rfl, fun w' hw' => ?_⟩
            go_simp
            all_goals rfl
          try simp only [Act.put, List.setIfInBounds_toArray, List.set_cons_zero, List.set_cons_succ]
          refine later_take (i := 34) (d := 48) (v := ?_) (by kernel_rfl) (by kernel_rfl) (by kernel_rfl) (by kernel_rfl) (fun _ _ _ h => h) (fun oi hoi => ?_) ?_
          rotate_left
          · simp at hoi
            subst hoi
            refine ⟨by rfl, fun w' hw' => ?_⟩
            go_simp
            all_goals rfl
          try simp only [Act.put, List.setIfInBounds_toArray, List.set_cons_zero, List.set_cons_succ]
          refine later_take (i := 35) (d := 49) (v := ?_) (by kernel_rfl) (by kernel_rfl) (by kernel_rfl) (by kernel_rfl) (fun _ _ _ h => h) (fun oi hoi => ?_) ?_
          rotate_left
          · simp at hoi
            subst hoi
            refine ⟨by rfl, fun w' hw' => ?_⟩
            go_simp
            all_goals rfl
          try simp only [Act.put, List.setIfInBounds_toArray, List.set_cons_zero, List.set_cons_succ]
          refine later_take (i := 36) (d := 50) (v := ?_) (by kernel_rfl) (by kernel_rfl) (by kernel_rfl) (by kernel_rfl) (fun _ _ _ h => h) (fun oi hoi => ?_) ?_
          rotate_left
          · simp at hoi
            subst hoi
            refine ⟨by rfl, fun w' hw' => ?_⟩
            have hx := Blk.below (unhide A) hw'
            have x8 := hx.cell 8
            simp only [List.getElem?_toArray, List.getElem?_cons_succ, List.getElem?_cons_zero] at x8
            go_simp
            all_goals rfl
          try simp only [Act.put, List.setIfInBounds_toArray, List.set_cons_zero, List.set_cons_succ]
          refine later_one (i := 33) (by kernel_rfl) (fun oi K hoi hK => ?_)
          simp at hoi
          subst hoi
          refine ⟨by rfl, ?_⟩
          go_simp
          refine (sMakKey_any key _ M.out.2).mono ?_
          rintro e w1 ⟨rfl, hb⟩
          go_simp
          refine hK.out _ _ hb ?_
          clear hK
          replace A := hide ((unhide A).below hb)
          replace R := hide ((unhide R).below hb)
          replace HK := hide ((unhide HK).below hb)
          replace HO := hide ((unhide HO).below hb)
          replace HB := hide (HB.out.trans (hb.mono HB.out.size))
          clear hb
          try simp only [Act.put, List.setIfInBounds_toArray, List.set_cons_zero, List.set_cons_succ]
          refine later_take (i := 37) (d := 51) (v := ?_) (by kernel_rfl) (by kernel_rfl) (by kernel_rfl) (by kernel_rfl) (fun _ _ _ h => h) (fun oi hoi => ?_) ?_
          rotate_left
          · simp at hoi
            subst hoi
            refine ⟨by rfl, fun w' hw' => ?_⟩
            go_simp
            all_goals rfl
          try simp only [Act.put, List.setIfInBounds_toArray, List.set_cons_zero, List.set_cons_succ]
          refine later_take (i := 38) (d := 52) (v := ?_) (by kernel_rfl) (by kernel_rfl) (by kernel_rfl) (by kernel_rfl) (fun _ _ _ h => h) (fun oi hoi => ?_) ?_
          rotate_left
          · simp at hoi
            subst hoi
            refine ⟨by rfl, fun w' hw' => ?_⟩
            go_simp
            all_goals rfl
          try simp only [Act.put, List.setIfInBounds_toArray, List.set_cons_zero, List.set_cons_succ]
          refine later_done (by kernel_rfl) ?_ _
          go_wp2_with (refine wpList_store_whole rfl 35 _ _ rfl (w.heap.size + 1) noMem rfl rfl 35 _ (by exact unhide R) info_mm rfl (one_mm _ _ _ _ _ _ _ _ _ _ _) ?_)
          have l2 := load_mm ((unhide R).set noMem) rfl
          refine bodyPost_ret (v := .tuple #[.agg noMem, .bool false]) (results_cs rfl rfl rfl l2) rfl ?_
          exact ⟨_, _, ret_join HF.out rfl, own_none HF.out, ownM_none HF.out, below_blk HB.out (by omega) _⟩
        rw [show decide (mkKey key = wk) = true by simpa using h7] at HE
        simp only [Bool.true_and] at HE
        have h72 : ((mkKey key).toList == wk.toList) = true := toList_eq.2 h7
        clear h7
        go_enter Tryz.func5, Tryz.ntmps5
        go_wp2_with fail
        refine wp_region_later (by kernel_rfl) ?_
        refine later_take (i := 0) (d := 14) (v := ?_) (by kernel_rfl) (by kernel_rfl) (by kernel_rfl) (by kernel_rfl) (fun _ _ _ h => h) (fun oi hoi => ?_) ?_
        rotate_left
        · simp at hoi
          subst hoi
          refine ⟨by rfl, fun w' hw' => ?_⟩
          have hx := Blk.below (unhide A) hw'
          have x0 := hx.cell 0
          have x1 := hx.cell 1
          have x2 := hx.cell 2
          have x3 := hx.cell 3
          have x4 := hx.cell 4
          have x5 := hx.cell 5
          have x6 := hx.cell 6
          have x7 := hx.cell 7
          have x8 := hx.cell 8
          have x9 := hx.cell 9
          have x10 := hx.cell 10
          have x11 := hx.cell 11
          have x12 := hx.cell 12
          simp only [List.getElem?_toArray, List.getElem?_cons_succ, List.getElem?_cons_zero] at x0 x1 x2 x3 x4 x5 x6 x7 x8 x9 x10 x11 x12
          go_simp
          all_goals rfl
        try simp only [Act.put, List.setIfInBounds_toArray, List.set_cons_zero, List.set_cons_succ]
        refine later_one (i := 1) (by kernel_rfl) (fun oi K hoi hK => ?_)
        simp at hoi
        subst hoi
        refine ⟨by rfl, ?_⟩
        go_simp
        refine (sCmtOk_any ⟨se, tag, name, add, rem, lf, keys, boxes, ⟨wk, ik, is, sk, ss⟩⟩ _ _ _ (unhide HK) (unhide HO) FT.out.1 FT.out.2.1 FT.out.2.2.1 FT.out.2.2.2.1 FT.out.2.2.2.2.1 FT.out.2.2.2.2.2.1 FT.out.2.2.2.2.2.2.1 FT.out.2.2.2.2.2.2.2).mono ?_
        rw [B1.out]
        rintro e w1 ⟨rfl, hb⟩
        go_simp
        refine hK.out _ _ hb ?_
        clear hK
        replace A := hide ((unhide A).below hb)
        replace R := hide ((unhide R).below hb)
        replace HK := hide ((unhide HK).below hb)
        replace HO := hide ((unhide HO).below hb)
        replace HB := hide (HB.out.trans (hb.mono HB.out.size))
        clear hb
        try simp only [Act.put, List.setIfInBounds_toArray, List.set_cons_zero, List.set_cons_succ]
        refine later_take (i := 2) (d := 16) (v := ?_) (by kernel_rfl) (by kernel_rfl) (by kernel_rfl) (by kernel_rfl) (fun _ _ _ h => h) (fun oi hoi => ?_) ?_
        rotate_left
        · simp at hoi
          subst hoi
          refine ⟨by rfl, fun w' hw' => ?_⟩
          go_simp
          all_goals rfl
        try simp only [Act.put, List.setIfInBounds_toArray, List.set_cons_zero, List.set_cons_succ]
        refine later_take (i := 3) (d := 17) (v := ?_) (by kernel_rfl) (by kernel_rfl) (by kernel_rfl) (by kernel_rfl) (fun _ _ _ h => h) (fun oi hoi => ?_) ?_
        rotate_left
        · simp at hoi
          subst hoi
          refine ⟨by rfl, fun w' hw' => ?_⟩
          go_simp
          all_goals rfl
        try simp only [Act.put, List.setIfInBounds_toArray, List.set_cons_zero, List.set_cons_succ]
        refine later_take (i := 4) (d := 18) (v := ?_) (by kernel_rfl) (by kernel_rfl) (by kernel_rfl) (by kernel_rfl) (fun _ _ _ h => h) (fun oi hoi => ?_) ?_
        rotate_left
        · simp at hoi
          subst hoi
          refine ⟨by rfl, fun w' hw' => ?_⟩
          go_simp
          all_goals rfl
        try simp only [Act.put, List.setIfInBounds_toArray, List.set_cons_zero, List.set_cons_succ]
        refine later_take (i := 5) (d := 19) (v := ?_) (by kernel_rfl) (by kernel_rfl) (by kernel_rfl) (by kernel_rfl) (fun _ _ _ h => h) (fun oi hoi => ?_) ?_
        rotate_left
        · simp at hoi
          subst hoi
          refine ⟨by rfl, fun w' hw' => ?_⟩
          have hx := Blk.below (unhide A) hw'
          have x3 := hx.cell 3
          simp only [List.getElem?_toArray, List.getElem?_cons_succ, List.getElem?_cons_zero] at x3
          go_simp
          all_goals rfl
        try simp only [Act.put, List.setIfInBounds_toArray, List.set_cons_zero, List.set_cons_succ]
        refine later_take (i := 6) (d := 20) (v := ?_) (by kernel_rfl) (by kernel_rfl) (by kernel_rfl) (by kernel_rfl) (fun _ _ _ h => h) (fun oi hoi => ?_) ?_
        rotate_left
        · simp at hoi
          subst hoi
          refine ⟨by rfl, fun w' hw' => ?_⟩
          go_simp
          all_goals rfl
        try simp only [Act.put, List.setIfInBounds_toArray, List.set_cons_zero, List.set_cons_succ]
        refine later_take (i := 7) (d := 21) (v := ?_) (by kernel_rfl) (by kernel_rfl) (by kernel_rfl) (by kernel_rfl) (fun _ _ _ h => h) (fun oi hoi => ?_) ?_
        rotate_left
        · simp at hoi
          subst hoi
          refine ⟨by rfl, fun w' hw' => ?_⟩
          go_simp
          all_goals rfl
        try simp only [Act.put, List.setIfInBounds_toArray, List.set_cons_zero, List.set_cons_succ]
        refine later_take (i := 8) (d := 22) (v := ?_) (by kernel_rfl) (by kernel_rfl) (by kernel_rfl) (by kernel_rfl) (fun _ _ _ h => h) (fun oi hoi => ?_) ?_
        rotate_left
        · simp at hoi
          subst hoi
          refine ⟨by rfl, fun w' hw' => ?_⟩
          go_simp
          all_goals rfl
        try simp only [Act.put, List.setIfInBounds_toArray, List.set_cons_zero, List.set_cons_succ]
        refine later_take (i := 9) (d := 23) (v := ?_) (by kernel_rfl) (by kernel_rfl) (by kernel_rfl) (by kernel_rfl) (fun _ _ _ h => h) (fun oi hoi => ?_) ?_
        rotate_left
        · simp at hoi
          subst hoi
          refine ⟨by rfl, fun w' hw' => ?_⟩
          go_simp
          all_goals rfl
        try simp only [Act.put, List.setIfInBounds_toArray, List.set_cons_zero, List.set_cons_succ]
        refine later_take (i := 10) (d := 24) (v := ?_) (by kernel_rfl) (by kernel_rfl) (by kernel_rfl) (by kernel_rfl) (fun _ _ _ h => h) (fun oi hoi => ?_) ?_
        rotate_left
        · simp at hoi
          subst hoi
          refine ⟨by rfl, fun w' hw' => ?_⟩
          have hx := Blk.below (unhide A) hw'
          have x3 := hx.cell 3
          simp only [List.getElem?_toArray, List.getElem?_cons_succ, List.getElem?_cons_zero] at x3
          go_simp
          all_goals rfl
        try simp only [Act.put, List.setIfInBounds_toArray, List.set_cons_zero, List.set_cons_succ]
        refine later_take (i := 11) (d := 25) (v := ?_) (by kernel_rfl) (by kernel_rfl) (by kernel_rfl) (by kernel_rfl) (fun _ _ _ h => h) (fun oi hoi => ?_) ?_
        rotate_left
        · simp at hoi
          subst hoi
          refine ⟨by rfl, fun w' hw' => ?_⟩
          go_simp
          all_goals rfl
        try simp only [Act.put, List.setIfInBounds_toArray, List.set_cons_zero, List.set_cons_succ]
        refine later_take (i := 12) (d := 26) (v := ?_) (by kernel_rfl) (by kernel_rfl) (by kernel_rfl) (by kernel_rfl) (fun _ _ _ h => h) (fun oi hoi => ?_) ?_
        rotate_left
        · simp at hoi
          subst hoi
          refine ⟨by rfl, fun w' hw' => ?_⟩
          go_simp
          all_goals rfl
        try simp only [Act.put, List.setIfInBounds_toArray, List.set_cons_zero, List.set_cons_succ]
        refine later_take (i := 13) (d := 27) (v := ?_) (by kernel_rfl) (by kernel_rfl) (by kernel_rfl) (by kernel_rfl) (fun _ _ _ h => h) (fun oi hoi => ?_) ?_
        rotate_left
        · simp at hoi
          subst hoi
          refine ⟨by rfl, fun w' hw' => ?_⟩
          go_simp
          all_goals rfl
        try simp only [Act.put, List.setIfInBounds_toArray, List.set_cons_zero, List.set_cons_succ]
        refine later_take (i := 14) (d := 28) (v := ?_) (by kernel_rfl) (by kernel_rfl) (by kernel_rfl) (by kernel_rfl) (fun _ _ _ h => h) (fun oi hoi => ?_) ?_
        rotate_left
        · simp at hoi
          subst hoi
          refine ⟨by rfl, fun w' hw' => ?_⟩
          go_simp
          all_goals rfl
        try simp only [Act.put, List.setIfInBounds_toArray, List.set_cons_zero, List.set_cons_succ]
        refine later_take (i := 15) (d := 29) (v := ?_) (by kernel_rfl) (by kernel_rfl) (by kernel_rfl) (by kernel_rfl) (fun _ _ _ h => h) (fun oi hoi => ?_) ?_
        rotate_left
        · simp at hoi
          subst hoi
          refine ⟨by rfl, fun w' hw' => ?_⟩
          go_simp
          all_goals rfl
        try simp only [Act.put, List.setIfInBounds_toArray, List.set_cons_zero, List.set_cons_succ]
        refine later_one (i := 16) (by kernel_rfl) (fun oi K hoi hK => ?_)
        simp at hoi
        subst hoi
        refine ⟨by rfl, ?_⟩
        go_simp
        refine (sSecOk_any leaf _ M.out.1).mono ?_
        rw [B4.out]
        rintro e w1 ⟨rfl, hb⟩
        go_simp
        refine hK.out _ _ hb ?_
        clear hK
        replace A := hide ((unhide A).below hb)
        replace R := hide ((unhide R).below hb)
        replace HK := hide ((unhide HK).below hb)
        replace HO := hide ((unhide HO).below hb)
        replace HB := hide (HB.out.trans (hb.mono HB.out.size))
        clear hb
        try simp only [Act.put, List.setIfInBounds_toArray, List.set_cons_zero, List.set_cons_succ]
        refine later_take (i := 17) (d := 31) (v := ?_) (by kernel_rfl) (by kernel_rfl) (by kernel_rfl) (by kernel_rfl) (fun _ _ _ h => h) (fun oi hoi => ?_) ?_
        rotate_left
        · simp at hoi
          subst hoi
          refine ⟨by rfl, fun w' hw' => ?_⟩
          go_simp
          all_goals rfl
        try simp only [Act.put, List.setIfInBounds_toArray, List.set_cons_zero, List.set_cons_succ]
        refine later_take (i := 18) (d := 32) (v := ?_) (by kernel_rfl) (by kernel_rfl) (by kernel_rfl) (by kernel_rfl) (fun _ _ _ h => h) (fun oi hoi => ?_) ?_
        rotate_left
        · simp at hoi
          subst hoi
          refine ⟨by rfl, fun w' hw' => ?_⟩
          go_simp
          all_goals rfl
        try simp only [Act.put, List.setIfInBounds_toArray, List.set_cons_zero, List.set_cons_succ]
        refine later_take (i := 19) (d := 33) (v := ?_) (by kernel_rfl) (by kernel_rfl) (by kernel_rfl) (by kernel_rfl) (fun _ _ _ h => h) (fun oi hoi => ?_) ?_
        rotate_left
        · simp at hoi
          subst hoi
          refine ⟨by rfl, fun w' hw' => ?_⟩
          go_simp
          all_goals rfl
        try simp only [Act.put, List.setIfInBounds_toArray, List.set_cons_zero, List.set_cons_succ]
        refine later_take (i := 20) (d := 34) (v := ?_) (by kernel_rfl) (by kernel_rfl) (by kernel_rfl) (by kernel_rfl) (fun _ _ _ h => h) (fun oi hoi => ?_) ?_
        rotate_left
        · simp at hoi
          subst hoi
          refine ⟨by rfl, fun w' hw' => ?_⟩
          go_simp
          all_goals rfl
        try simp only [Act.put, List.setIfInBounds_toArray, List.set_cons_zero, List.set_cons_succ]
        refine later_one (i := 21) (by kernel_rfl) (fun oi K hoi hK => ?_)
        simp at hoi
        subst hoi
        refine ⟨by rfl, ?_⟩
        go_simp
        refine (sSecOk_any key _ M.out.2).mono ?_
        rw [B5.out]
        rintro e w1 ⟨rfl, hb⟩
        go_simp
        refine hK.out _ _ hb ?_
        clear hK
        replace A := hide ((unhide A).below hb)
        replace R := hide ((unhide R).below hb)
        replace HK := hide ((unhide HK).below hb)
        replace HO := hide ((unhide HO).below hb)
        replace HB := hide (HB.out.trans (hb.mono HB.out.size))
        clear hb
        try simp only [Act.put, List.setIfInBounds_toArray, List.set_cons_zero, List.set_cons_succ]
        refine later_take (i := 22) (d := 36) (v := ?_) (by kernel_rfl) (by kernel_rfl) (by kernel_rfl) (by kernel_rfl) (fun _ _ _ h => h) (fun oi hoi => ?_) ?_
        rotate_left
        · simp at hoi
          subst hoi
          refine ⟨by rfl, fun w' hw' => ?_⟩
          go_simp
          all_goals rfl
        try simp only [Act.put, List.setIfInBounds_toArray, List.set_cons_zero, List.set_cons_succ]
        refine later_take (i := 23) (d := 37) (v := ?_) (by kernel_rfl) (by kernel_rfl) (by kernel_rfl) (by kernel_rfl) (fun _ _ _ h => h) (fun oi hoi => ?_) ?_
        rotate_left
        · simp at hoi
          subst hoi
          refine ⟨by rfl, fun w' hw' => ?_⟩
          go_simp
          all_goals rfl
        try simp only [Act.put, List.setIfInBounds_toArray, List.set_cons_zero, List.set_cons_succ]
        refine later_take (i := 24) (d := 38) (v := ?_) (by kernel_rfl) (by kernel_rfl) (by kernel_rfl) (by kernel_rfl) (fun _ _ _ h => h) (fun oi hoi => ?_) ?_
        rotate_left
        · simp at hoi
          subst hoi
          refine ⟨by rfl, fun w' hw' => ?_⟩
          go_simp
          all_goals rfl
        try simp only [Act.put, List.setIfInBounds_toArray, List.set_cons_zero, List.set_cons_succ]
        refine later_take (i := 25) (d := 39) (v := ?_) (by kernel_rfl) (by kernel_rfl) (by kernel_rfl) (by kernel_rfl) (fun _ _ _ h => h) (fun oi hoi => ?_) ?_
        rotate_left
        · simp at hoi
          subst hoi
          refine ⟨by rfl, fun w' hw' => ?_⟩
          go_simp
          all_goals rfl
        try simp only [Act.put, List.setIfInBounds_toArray, List.set_cons_zero, List.set_cons_succ]
        refine later_take (i := 27) (d := 41) (v := ?_) (by kernel_rfl) (by kernel_rfl) (by kernel_rfl) (by kernel_rfl) (fun _ _ _ h => h) (fun oi hoi => ?_) ?_
        rotate_left
        · simp at hoi
          subst hoi
          refine ⟨by rfl, fun w' hw' => ?_⟩
          go_simp
          all_goals rfl
        try simp only [Act.put, List.setIfInBounds_toArray, List.set_cons_zero, List.set_cons_succ]
        refine later_take (i := 28) (d := 42) (v := ?_) (by kernel_rfl) (by kernel_rfl) (by kernel_rfl) (by kernel_rfl) (fun _ _ _ h => h) (fun oi hoi => ?_) ?_
        rotate_left
        · simp at hoi
          subst hoi
          refine ⟨by rfl, fun w' hw' => ?_⟩
          have hx := Blk.below (unhide A) hw'
          have x5 := hx.cell 5
          simp only [List.getElem?_toArray, List.getElem?_cons_succ, List.getElem?_cons_zero] at x5
          go_simp
          all_goals rfl
        try simp only [Act.put, List.setIfInBounds_toArray, List.set_cons_zero, List.set_cons_succ]
        refine later_one (i := 26) (by kernel_rfl) (fun oi K hoi hK => ?_)
        simp at hoi
        subst hoi
        refine ⟨by rfl, ?_⟩
        go_simp
        refine (sMakKey_any leaf _ M.out.1).mono ?_
        rintro e w1 ⟨rfl, hb⟩
        go_simp
        refine hK.out _ _ hb ?_
        clear hK
        replace A := hide ((unhide A).below hb)
        replace R := hide ((unhide R).below hb)
        replace HK := hide ((unhide HK).below hb)
        replace HO := hide ((unhide HO).below hb)
        replace HB := hide (HB.out.trans (hb.mono HB.out.size))
        clear hb
        try simp only [Act.put, List.setIfInBounds_toArray, List.set_cons_zero, List.set_cons_succ]
        refine later_take (i := 29) (d := 43) (v := ?_) (by kernel_rfl) (by kernel_rfl) (by kernel_rfl) (by kernel_rfl) (fun _ _ _ h => h) (fun oi hoi => ?_) ?_
        rotate_left
        · simp at hoi
          subst hoi
          refine ⟨by rfl, fun w' hw' => ?_⟩
          go_simp
          all_goals rfl
        try simp only [Act.put, List.setIfInBounds_toArray, List.set_cons_zero, List.set_cons_succ]
        refine later_take (i := 30) (d := 44) (v := ?_) (by kernel_rfl) (by kernel_rfl) (by kernel_rfl) (by kernel_rfl) (fun _ _ _ h => h) (fun oi hoi => ?_) ?_
        rotate_left
        · simp at hoi
          subst hoi
          refine ⟨by rfl, fun w' hw' => ?_⟩
          go_simp
          all_goals rfl
        try simp only [Act.put, List.setIfInBounds_toArray, List.set_cons_zero, List.set_cons_succ]
        refine later_take (i := 31) (d := 45) (v := ?_) (by kernel_rfl) (by kernel_rfl) (by kernel_rfl) (by kernel_rfl) (fun _ _ _ h => h) (fun oi hoi => ?_) ?_
        rotate_left
        · simp at hoi
          subst hoi
          refine ⟨by rfl, fun w' hw' => ?_⟩
          go_simp
          all_goals rfl
        try simp only [Act.put, List.setIfInBounds_toArray, List.set_cons_zero, List.set_cons_succ]
        refine later_take (i := 32) (d := 46) (v := ?_) (by kernel_rfl) (by kernel_rfl) (by kernel_rfl) (by kernel_rfl) (fun _ _ _ h => h) (fun oi hoi => ?_) ?_
        rotate_left
        · simp at hoi
          subst hoi
          refine ⟨by rfl, fun w' hw' => ?_⟩
          go_simp
          all_goals rfl
        try simp only [Act.put, List.setIfInBounds_toArray, List.set_cons_zero, List.set_cons_succ]
        refine later_take (i := 34) (d := 48) (v := ?_) (by kernel_rfl) (by kernel_rfl) (by kernel_rfl) (by kernel_rfl) (fun _ _ _ h => h) (fun oi hoi => ?_) ?_
        rotate_left
        · simp at hoi
          subst hoi
          refine ⟨by rfl, fun w' hw' => ?_⟩
          go_simp
          all_goals rfl
        try simp only [Act.put, List.setIfInBounds_toArray, List.set_cons_zero, List.set_cons_succ]
        refine later_take (i := 35) (d := 49) (v := ?_) (by kernel_rfl) (by kernel_rfl) (by kernel_rfl) (by kernel_rfl) (fun _ _ _ h => h) (fun oi hoi => ?_) ?_
        rotate_left
        · simp at hoi
          subst hoi
          refine ⟨by rfl, fun w' hw' => ?_⟩
          go_simp
          all_goals rfl
        try simp only [Act.put, List.setIfInBounds_toArray, List.set_cons_zero, List.set_cons_succ]
        refine later_take (i := 36) (d := 50) (v := ?_) (by kernel_rfl) (by kernel_rfl) (by kernel_rfl) (by kernel_rfl) (fun _ _ _ h => h) (fun oi hoi => ?_) ?_
        rotate_left
        · simp at hoi
          subst hoi
          refine ⟨by rfl, fun w' hw' => ?_⟩
          have hx := Blk.below (unhide A) hw'
          have x8 := hx.cell 8
          simp only [List.getElem?_toArray, List.getElem?_cons_succ, List.getElem?_cons_zero] at x8
          go_simp
          all_goals rfl
        try simp only [Act.put, List.setIfInBounds_toArray, List.set_cons_zero, List.set_cons_succ]
        refine later_one (i := 33) (by kernel_rfl) (fun oi K hoi hK => ?_)
        simp at hoi
        subst hoi
        refine ⟨by rfl, ?_⟩
        go_simp
        refine (sMakKey_any key _ M.out.2).mono ?_
        rintro e w1 ⟨rfl, hb⟩
        go_simp
        refine hK.out _ _ hb ?_
        clear hK
        replace A := hide ((unhide A).below hb)
        replace R := hide ((unhide R).below hb)
        replace HK := hide ((unhide HK).below hb)
        replace HO := hide ((unhide HO).below hb)
        replace HB := hide (HB.out.trans (hb.mono HB.out.size))
        clear hb
        try simp only [Act.put, List.setIfInBounds_toArray, List.set_cons_zero, List.set_cons_succ]
        refine later_take (i := 37) (d := 51) (v := ?_) (by kernel_rfl) (by kernel_rfl) (by kernel_rfl) (by kernel_rfl) (fun _ _ _ h => h) (fun oi hoi => ?_) ?_
        rotate_left
        · simp at hoi
          subst hoi
          refine ⟨by rfl, fun w' hw' => ?_⟩
          go_simp
          all_goals rfl
        try simp only [Act.put, List.setIfInBounds_toArray, List.set_cons_zero, List.set_cons_succ]
        refine later_take (i := 38) (d := 52) (v := ?_) (by kernel_rfl) (by kernel_rfl) (by kernel_rfl) (by kernel_rfl) (fun _ _ _ h => h) (fun oi hoi => ?_) ?_
        rotate_left
        · simp at hoi
          subst hoi
          refine ⟨by rfl, fun w' hw' => ?_⟩
          go_simp
          all_goals rfl
        try simp only [Act.put, List.setIfInBounds_toArray, List.set_cons_zero, List.set_cons_succ]
        refine later_done (by kernel_rfl) ?_ _
        clear h62 h72 hw2
        have HCM := hide B1.out
        have hkl : keys.length = 15 := (treOk_iff.1 (cmtOk_keys HCM.out)).1
        have HKL := hide hkl
        have hse := cmtOk_sender HCM.out
        have had := cmtOk_add HCM.out
        simp only at hse had
        have HSE := hide hse
        have HAD : Hid (0 ≤ add ∧ add ≤ 7) := ⟨by omega, had.2.1⟩
        have HTG := hide (cmtOk_tag HCM.out)
        simp only at HTG
        obtain ⟨np, hnp, hmp⟩ := meet_place HAD.out HSE.out
        have HMP := hide hmp
        have HNP := hide hnp
        clear hse had hnp hmp hkl
        obtain ⟨i0, hi, hz0, hz1, hz2⟩ := info_parts info_str2
        have hI := hide (And.intro hi (And.intro hz0 (And.intro hz1 hz2)))
        obtain ⟨i1, hi, hz0, hz1, hz2⟩ := info_parts info_mo
        have hJ := hide (And.intro hi (And.intro hz0 (And.intro hz1 hz2)))
        clear hi hz0 hz1 hz2
        have hs1 := HB.out.size
        have c6 := ((unhide A).alloc (.cells #[] 9)).cell 6
        simp only [List.getElem?_toArray, List.getElem?_cons_succ, List.getElem?_cons_zero] at c6
        have E0 := hide (own_empty w.heap.size w1 hs1)
        have HN := hide (SRow.news ((unhide HK).below ((Below.refl w1.heap.size w1).alloc (Nat.le_refl _) (.cells #[] 9))))
        generalize hkl : keys.length = kl at *
        have HKL2 := hide hkl
        have hkl2 : kl ≤ 15 := by have := HKL.out; omega
        clear hkl
        go_wp2_with (at_builtin; refine wpList_append_full _ rfl _ _ 22 rfl w.heap.size 9 i0 (.string ⟨#[]⟩) 1 16 Tryz.underlying22 (unhide hI).1 (unhide hI).2.1 (unhide hI).2.2.1 (unhide hI).2.2.2 rfl (by decide) w1.heap.size 0 [] rfl (unhide E0) _ kl (keys.map Value.string) rfl (unhide HN) (by unfold maxLen; omega) (by omega) (by simp; omega) ?_)
        intro g1 c1 w2 hown hlat
        have K1 : Hid (Own w.heap.size w2 (.slice (some ⟨g1, 0, none⟩) kl c1) keys) := by
          show Own _ _ _ _
          unfold Own
          rw [HKL2.out]
          simpa using hown
        have hb : Below w1.heap.size w1 w2 := ((Below.refl _ _).alloc (Nat.le_refl _) _).trans (Below.mono hlat (by simp))
        clear hown hlat E0 HN c6 hs1
        replace A := hide ((unhide A).below hb)
        replace R := hide ((unhide R).below hb)
        replace HK := hide ((unhide HK).below hb)
        replace HO := hide ((unhide HO).below hb)
        replace HB := hide (HB.out.trans (hb.mono HB.out.size))
        clear hb
        have hb := (Below.refl w2.heap.size w2).alloc (Nat.le_refl _) (.cells #[.slice (some ⟨g1, 0, none⟩) kl c1] 32)
        have TB := hide (Blk.new w2 32 #[.slice (some ⟨g1, 0, none⟩) kl c1])
        replace A := hide ((unhide A).below hb)
        replace R := hide ((unhide R).below hb)
        replace HK := hide ((unhide HK).below hb)
        replace HO := hide ((unhide HO).below hb)
        replace K1 := hide ((unhide K1).below hb)
        replace HB := hide (HB.out.trans (hb.mono HB.out.size))
        clear hb
        have c12 := (unhide A).cell 12
        simp only [List.getElem?_toArray, List.getElem?_cons_succ, List.getElem?_cons_zero] at c12
        by_cases hss : ss.size ≤ 292
        rotate_left
        · rw [show decide (ss.size ≤ 292) = false by simpa using hss] at HE
          have HF : Hid (joinB add leaf key ⟨se, tag, name, add, rem, lf, keys, boxes, ⟨wk, ik, is, sk, ss⟩⟩ = false) := by show _ = _; rw [HE.out]; rfl
          have hs2 : (292 : Int) < (ss.size : Int) := by omega
          go_wp2_with (refine wpList_store_whole rfl 35 _ _ rfl (w.heap.size + 1) noMem rfl rfl 35 _ (by exact unhide R) info_mm rfl (one_mm _ _ _ _ _ _ _ _ _ _ _) ?_)
          have l2 := load_mm ((unhide R).set noMem) rfl
          refine bodyPost_ret (v := .tuple #[.agg noMem, .bool false]) (results_cs rfl rfl rfl l2) rfl ?_
          exact ⟨_, _, ret_join HF.out rfl, own_none HF.out, ownM_none HF.out, below_blk HB.out (by omega) _⟩
        rw [show decide (ss.size ≤ 292) = true by simpa using hss] at HE
        simp only [Bool.true_and] at HE
        have hs2 : decide ((292 : Int) < (ss.size : Int)) = false := by simp; omega
        have HSS := hide hss
        have hs3 := HB.out.size
        go_wp2_with fail
        replace A : Hid (Blk (w2.alloc (.cells #[.slice (some ⟨g1, 0, none⟩) kl c1] 32)).drew w.heap.size 43 (cmtC se tag name add rem lf (.slice a1 kl p1) (.slice a2 boxes.length p2) wk ik is sk ss)) := (unhide A).drew
        replace R := hide (unhide R).drew
        replace HK := hide (SRow.drew (unhide HK))
        replace HB := hide HB.out.drew
        replace TB := hide (unhide TB).drew
        replace K1 : Hid (Own w.heap.size (w2.alloc (.cells #[.slice (some ⟨g1, 0, none⟩) kl c1] 32)).drew (.slice (some ⟨g1, 0, none⟩) kl c1) keys) := unhide K1
        clear c12 hs2 HO
        refine wp_region_later (by kernel_rfl) ?_
        refine later_take (i := 0) (d := 67) (v := ?_) (by kernel_rfl) (by kernel_rfl) (by kernel_rfl) (by kernel_rfl) (fun _ _ _ h => h) (fun oi hoi => ?_) ?_
        rotate_left
        · simp at hoi
          subst hoi
          refine ⟨by rfl, fun w' hw' => ?_⟩
          go_simp
          all_goals rfl
        try simp only [Act.put, List.setIfInBounds_toArray, List.set_cons_zero, List.set_cons_succ]
        refine later_take (i := 2) (d := 69) (v := ?_) (by kernel_rfl) (by kernel_rfl) (by kernel_rfl) (by kernel_rfl) (fun _ _ _ h => h) (fun oi hoi => ?_) ?_
        rotate_left
        · simp at hoi
          subst hoi
          refine ⟨by rfl, fun w' hw' => ?_⟩
          go_simp
          all_goals rfl
        try simp only [Act.put, List.setIfInBounds_toArray, List.set_cons_zero, List.set_cons_succ]
        refine later_take (i := 3) (d := 70) (v := ?_) (by kernel_rfl) (by kernel_rfl) (by kernel_rfl) (by kernel_rfl) (fun _ _ _ h => h) (fun oi hoi => ?_) ?_
        rotate_left
        · simp at hoi
          subst hoi
          refine ⟨by rfl, fun w' hw' => ?_⟩
          have hx := Blk.below (unhide A) hw'
          have x0 := hx.cell 0
          simp only [List.getElem?_toArray, List.getElem?_cons_zero] at x0
          go_simp
          all_goals rfl
        try simp only [Act.put, List.setIfInBounds_toArray, List.set_cons_zero, List.set_cons_succ]
        refine later_take (i := 6) (d := 73) (v := ?_) (by kernel_rfl) (by kernel_rfl) (by kernel_rfl) (by kernel_rfl) (fun _ _ _ h => h) (fun oi hoi => ?_) ?_
        rotate_left
        · simp at hoi
          subst hoi
          refine ⟨by rfl, fun w' hw' => ?_⟩
          go_simp
          all_goals rfl
        try simp only [Act.put, List.setIfInBounds_toArray, List.set_cons_zero, List.set_cons_succ]
        refine later_one (i := 1) (by kernel_rfl) (fun oi K hoi hK => ?_)
        simp at hoi
        subst hoi
        refine ⟨by rfl, ?_⟩
        go_simp
        refine (sTreLeaf_any add _).mono ?_
        rintro e wz ⟨rfl, rfl⟩
        go_simp
        refine hK.out _ _ (Below.refl _ _) ?_
        clear hK
        try simp only [Act.put, List.setIfInBounds_toArray, List.set_cons_zero, List.set_cons_succ]
        refine later_one (i := 4) (by kernel_rfl) (fun oi K hoi hK => ?_)
        simp at hoi
        subst hoi
        refine ⟨by rfl, ?_⟩
        go_simp
        refine (sTreLeaf_any se _).mono ?_
        rintro e wz ⟨rfl, rfl⟩
        go_simp
        refine hK.out _ _ (Below.refl _ _) ?_
        clear hK
        try simp only [Act.put, List.setIfInBounds_toArray, List.set_cons_zero, List.set_cons_succ]
        refine later_one (i := 5) (by kernel_rfl) (fun oi K hoi hK => ?_)
        simp at hoi
        subst hoi
        refine ⟨by rfl, ?_⟩
        go_simp
        refine (sTreMeet_any _ _ _).mono ?_
        rw [HMP.out]
        rintro e wz ⟨rfl, rfl⟩
        go_simp
        refine hK.out _ _ (Below.refl _ _) ?_
        clear hK
        try simp only [Act.put, List.setIfInBounds_toArray, List.set_cons_zero, List.set_cons_succ]
        refine later_one (i := 7) (by kernel_rfl) (fun oi K hoi hK => ?_)
        simp at hoi
        subst hoi
        refine ⟨by rfl, ?_⟩
        go_simp
        refine (l4Path_any np HNP.out ss (by have := HSS.out; omega) _).mono ?_
        rintro e w3 ⟨pv, rfl, hop, hb⟩
        have L1 := hide hop
        clear hop
        go_simp
        refine hK.out _ _ hb ?_
        clear hK
        replace A := hide ((unhide A).below hb)
        replace R := hide ((unhide R).below hb)
        replace HK := hide ((unhide HK).below hb)
        replace K1 := hide ((unhide K1).below hb)
        replace TB := hide ((unhide TB).below hb)
        replace HB := hide (HB.out.trans (hb.mono HB.out.size))
        clear hb
        try simp only [Act.put, List.setIfInBounds_toArray, List.set_cons_zero, List.set_cons_succ]
        refine later_take (i := 8) (d := 12) (v := ?_) (by kernel_rfl) (by kernel_rfl) (by kernel_rfl) (by kernel_rfl) (fun _ _ _ h => h) (fun oi hoi => ?_) ?_
        rotate_left
        · simp at hoi
          subst hoi
          refine ⟨by rfl, fun w' hw' => ?_⟩
          go_simp
          all_goals rfl
        try simp only [Act.put, List.setIfInBounds_toArray, List.set_cons_zero, List.set_cons_succ]
        refine later_done (by kernel_rfl) ?_ _
        have L2 := hide L1.out
        replace A : Hid (Blk w3.drew w.heap.size 43 (cmtC se tag name add rem lf (.slice a1 kl p1) (.slice a2 boxes.length p2) wk ik is sk ss)) := (unhide A).drew
        replace R := hide (unhide R).drew
        replace HB := hide HB.out.drew
        replace TB := hide (unhide TB).drew
        replace K1 : Hid (Own w.heap.size w3.drew (.slice (some ⟨g1, 0, none⟩) kl c1) keys) := unhide K1
        have hpl : (pathOf (chainOf (np : Int)) ss).length ≤ 4 := by rw [pathOf_len]; exact chain_len np HNP.out
        have HJO : Hid (joinOwn add leaf ⟨se, tag, name, add, rem, lf, keys, boxes, ⟨wk, ik, is, sk, ss⟩⟩ = (leafOf add, leaf) :: pathOf (chainOf (np : Int)) ss) := by show _ = _; unfold joinOwn; simp only; rw [HMP.out]
        have HPS : Hid (∀ o ∈ pathOf (chainOf (np : Int)) ss, o.2.size ≤ 300) := path_le _ _ (by have := HSS.out; omega)
        generalize pathOf (chainOf (np : Int)) ss = pt at *
        obtain ⟨po, pc, rfl⟩ := row_form' (unhide L1)
        have L3 : Hid (w3.drew.ownsRow (w2.alloc (.cells #[.slice (some ⟨g1, 0, none⟩) kl c1] 32)).drew.heap.size 60 2 (.slice po pt.length pc) pt.length (mcells pt)) := unhide L1
        obtain ⟨pl, hpq⟩ : ∃ pl, pt.length = pl := ⟨_, rfl⟩
        rw [hpq] at L3 hpl ⊢
        have HPQ := hide hpq
        clear hpq L1 L2 HK
        obtain ⟨pv, hpv⟩ : ∃ pv, Value.slice po pl pc = pv := ⟨_, rfl⟩
        rw [hpv] at L3 ⊢
        clear hpv
        have hcn := countN_le tag
        have htg := HTG.out
        have i9 : IntKind.i64.wrap ((countN tag : Int) + 1) = (countN tag : Int) + 1 := by simp [IntKind.wrap, IntKind.bits, IntKind.signed]; omega
        go_wp2_with fail
        refine wp_region_lit (by kernel_rfl) (fun d v u => match d with | 75 => v = .int .i64 add | 76 => v = .agg #[.slice (some ⟨g1, 0, none⟩) kl c1] | 77 => v = .int .i64 add | 78 => v = .int .i64 (leafOf add) | 79 => v = .string leaf | 80 => v = .agg #[.int .i64 (leafOf add), .string leaf] | 81 => ∃ g, v = .slice (some ⟨g, 0, none⟩) 1 1 ∧ u.ownsRow w.heap.size 60 2 (.slice (some ⟨g, 0, none⟩) 1 1) 1 [.int .i64 (leafOf add), .string leaf] | 82 => v = pv | 83 => ∃ g c, v = .slice (some ⟨g, 0, none⟩) (1 + pl) c ∧ u.ownsRow w.heap.size 60 2 (.slice (some ⟨g, 0, none⟩) (1 + pl) c) (1 + pl) ([.int .i64 (leafOf add), .string leaf] ++ mcells pt) | 84 => v = .pointer (some ⟨w.heap.size, 1, none⟩) | 85 => v = .string tag | 86 => v = .int .i64 (countN tag : Int) | 87 => v = .int .i64 ((countN tag : Int) + 1) | 88 => v = .pointer (some ⟨w.heap.size, 8, none⟩) | 89 => v = .pointer (some ⟨w.heap.size, 9, none⟩) | 90 => v = .pointer (some ⟨w.heap.size, 10, none⟩) | 91 => v = .string is | 92 => v = .pointer (some ⟨w.heap.size, 1, none⟩) | 93 => v = .string tag | 94 => v = .pointer (some ⟨w.heap.size, 2, none⟩) | 95 => v = .string name | 96 => v = .string (tag ++ name) | 97 => ∃ g c, v = .agg (memC true add (.slice (some ⟨g1, 0, none⟩) kl c1) (.slice (some ⟨g, 0, none⟩) (1 + pl) c) ((countN tag : Int) + 1) is (tag ++ name)) ∧ u.ownsRow w.heap.size 60 2 (.slice (some ⟨g, 0, none⟩) (1 + pl) c) (1 + pl) ([.int .i64 (leafOf add), .string leaf] ++ mcells pt) | 13 => ∃ b, v = .pointer (some ⟨b, 0, none⟩) ∧ w3.heap.size ≤ b ∧ Blk u b 35 noMem | _ => True) 103 (by kernel_rfl) (by kernel_rfl) (by kernel_rfl) (by decide) (by kernel_rfl) rfl ?hT ?hops ?hlast
        case hT =>
          intro d v u u' hl
          split
          · exact fun h => h
          · exact fun h => h
          · exact fun h => h
          · exact fun h => h
          · exact fun h => h
          · exact fun h => h
          · rintro ⟨g, h1, h2⟩; exact ⟨g, h1, own_below' h2 hl⟩
          · exact fun h => h
          · rintro ⟨g, c, h1, h2⟩; exact ⟨g, c, h1, own_below' h2 hl⟩
          · exact fun h => h
          · exact fun h => h
          · exact fun h => h
          · exact fun h => h
          · exact fun h => h
          · exact fun h => h
          · exact fun h => h
          · exact fun h => h
          · exact fun h => h
          · exact fun h => h
          · exact fun h => h
          · exact fun h => h
          · exact fun h => h
          · rintro ⟨g, c, h1, h2⟩; exact ⟨g, c, h1, own_below' h2 hl⟩
          · rintro ⟨b, h1, h2, h3⟩; exact ⟨b, h1, h2, h3.below hl⟩
          · exact fun h => h
        case hops =>
          intro i o a u hi ho hK hL hd
          match i, ho with
          | 0, ho =>
            simp at ho
            subst ho
            have k0 : a.tmps.getD 0 undef = .int .i64 add := hK.2.2 0 (by kernel_rfl)
            clear hd
            go_simp
            exact ⟨_, rfl, rfl, laterPre.refl _⟩
          | 1, ho =>
            simp at ho
            subst ho
            have k10 : a.tmps.getD 10 undef = .pointer (some ⟨w2.heap.size, 0, none⟩) := hK.2.2 10 (by kernel_rfl)
            clear hd
            have hx := Blk.below (unhide TB) hL
            have x0 := hx.cell 0
            simp only [List.getElem?_toArray, List.getElem?_cons_zero] at x0
            go_simp
            exact ⟨_, rfl, rfl, laterPre.refl _⟩
          | 2, ho =>
            simp at ho
            subst ho
            have k0 : a.tmps.getD 0 undef = .int .i64 add := hK.2.2 0 (by kernel_rfl)
            clear hd
            go_simp
            exact ⟨_, rfl, rfl, laterPre.refl _⟩
          | 3, ho =>
            simp at ho
            subst ho
            have t77 : (a.tmps.getD 77 undef) = .int .i64 add := hd { on := 2, ground := .data } (by simp) rfl _ 77 rfl rfl
            clear hd
            go_simp
            refine (sTreLeaf_any add _).mono ?_
            rintro e wz ⟨rfl, rfl⟩
            go_simp
            exact ⟨_, rfl, rfl, laterPre.refl _⟩
          | 4, ho =>
            simp at ho
            subst ho
            have k1 : a.tmps.getD 1 undef = .string leaf := hK.2.2 1 (by kernel_rfl)
            clear hd
            go_simp
            exact ⟨_, rfl, rfl, laterPre.refl _⟩
          | 5, ho =>
            simp at ho
            subst ho
            have t78 : (a.tmps.getD 78 undef) = .int .i64 (leafOf add) := hd { on := 3, ground := .data } (by simp) rfl _ 78 rfl rfl
            have e78 : a.tmps[78]?.getD undef = .int .i64 (leafOf add) := by rw [← t78]; simp
            have t79 : (a.tmps.getD 79 undef) = .string leaf := hd { on := 4, ground := .data } (by simp) rfl _ 79 rfl rfl
            have e79 : a.tmps[79]?.getD undef = .string leaf := by rw [← t79]; simp
            clear hd
            go_simp
            exact ⟨_, rfl, rfl, laterPre.refl _⟩
          | 6, ho =>
            simp at ho
            subst ho
            have t80 : (a.tmps.getD 80 undef) = .agg #[.int .i64 (leafOf add), .string leaf] := hd { on := 5, ground := .data } (by simp) rfl _ 80 rfl rfl
            have e80 : a.tmps[80]?.getD undef = .agg #[.int .i64 (leafOf add), .string leaf] := by rw [← t80]; simp
            clear hd
            have hsz : w.heap.size ≤ u.heap.size := Nat.le_trans HB.out.size hL.size
            go_simp
            exact ⟨_, rfl, ⟨_, rfl, World.ownsRow_lit (base := w.heap.size) (e := 60) (size := 2) _ #[.int .i64 (leafOf add), .string leaf] 1 hsz (by unfold maxLen; omega) rfl⟩, later_alloc _ _⟩
          | 7, ho =>
            simp at ho
            subst ho
            have k12 : a.tmps.getD 12 undef = pv := hK.2.2 12 (by kernel_rfl)
            clear hd
            go_simp
            exact ⟨_, rfl, rfl, laterPre.refl _⟩
          | 8, ho =>
            simp at ho
            subst ho
            have t81 : ∃ g, (a.tmps.getD 81 undef) = .slice (some ⟨g, 0, none⟩) 1 1 ∧ u.ownsRow w.heap.size 60 2 (.slice (some ⟨g, 0, none⟩) 1 1) 1 [.int .i64 (leafOf add), .string leaf] := hd { on := 6, ground := .data } (by simp) rfl _ 81 rfl rfl
            have t82 : (a.tmps.getD 82 undef) = pv := hd { on := 7, ground := .data } (by simp) rfl _ 82 rfl rfl
            clear hd
            have hsz : w.heap.size ≤ u.heap.size := Nat.le_trans HB.out.size hL.size
            obtain ⟨g, t81, ow⟩ := t81
            refine wp_append_full u _ _ 33 rfl w.heap.size 60 i1 (.agg #[.int .i64 0, .string ⟨#[]⟩]) 2 24 underMo (unhide hJ).1 (unhide hJ).2.1 (unhide hJ).2.2.1 (unhide hJ).2.2.2 rfl (by decide) g 1 _ t81 ow pv pl (mcells pt) t82 (own_news (own_below' (unhide L3) hL)) (by unfold maxLen; omega) (by omega) hsz ?_
            intro g' c' w' h1 h2
            exact ⟨_, rfl, fun _ h => by cases h; exact ⟨g', c', rfl, h1⟩, h2⟩
          | 9, ho =>
            simp at ho
            subst ho
            have k7 : a.tmps.getD 7 undef = .pointer (some ⟨w.heap.size, 0, none⟩) := hK.2.2 7 (by kernel_rfl)
            clear hd
            go_simp
            exact ⟨_, rfl, rfl, laterPre.refl _⟩
          | 10, ho =>
            simp at ho
            subst ho
            have t84 : (a.tmps.getD 84 undef) = .pointer (some ⟨w.heap.size, 1, none⟩) := hd { on := 9, ground := .data } (by simp) rfl _ 84 rfl rfl
            clear hd
            have hx := Blk.below (unhide A) hL
            have x1 := hx.cell 1
            simp only [List.getElem?_toArray, List.getElem?_cons_succ, List.getElem?_cons_zero] at x1
            go_simp
            exact ⟨_, rfl, rfl, laterPre.refl _⟩
          | 11, ho =>
            simp at ho
            subst ho
            have t85 : (a.tmps.getD 85 undef) = .string tag := hd { on := 10, ground := .data } (by simp) rfl _ 85 rfl rfl
            clear hd
            go_simp
            refine (l5Count_any tag _ (by omega)).mono ?_
            rintro e wz ⟨rfl, rfl⟩
            go_simp
            exact ⟨_, rfl, rfl, laterPre.refl _⟩
          | 12, ho =>
            simp at ho
            subst ho
            have t86 : (a.tmps.getD 86 undef) = .int .i64 (countN tag : Int) := hd { on := 11, ground := .data } (by simp) rfl _ 86 rfl rfl
            clear hd
            go_simp
            exact ⟨_, rfl, rfl, laterPre.refl _⟩
          | 13, ho =>
            simp at ho
            subst ho
            have k7 : a.tmps.getD 7 undef = .pointer (some ⟨w.heap.size, 0, none⟩) := hK.2.2 7 (by kernel_rfl)
            clear hd
            go_simp
            exact ⟨_, rfl, rfl, laterPre.refl _⟩
          | 14, ho =>
            simp at ho
            subst ho
            have t88 : (a.tmps.getD 88 undef) = .pointer (some ⟨w.heap.size, 8, none⟩) := hd { on := 13, ground := .data } (by simp) rfl _ 88 rfl rfl
            clear hd
            go_simp
            exact ⟨_, rfl, rfl, laterPre.refl _⟩
          | 15, ho =>
            simp at ho
            subst ho
            have t89 : (a.tmps.getD 89 undef) = .pointer (some ⟨w.heap.size, 9, none⟩) := hd { on := 14, ground := .data } (by simp) rfl _ 89 rfl rfl
            clear hd
            go_simp
            exact ⟨_, rfl, rfl, laterPre.refl _⟩
          | 16, ho =>
            simp at ho
            subst ho
            have t90 : (a.tmps.getD 90 undef) = .pointer (some ⟨w.heap.size, 10, none⟩) := hd { on := 15, ground := .data } (by simp) rfl _ 90 rfl rfl
            clear hd
            have hx := Blk.below (unhide A) hL
            have x10 := hx.cell 10
            simp only [List.getElem?_toArray, List.getElem?_cons_succ, List.getElem?_cons_zero] at x10
            go_simp
            exact ⟨_, rfl, rfl, laterPre.refl _⟩
          | 17, ho =>
            simp at ho
            subst ho
            have k7 : a.tmps.getD 7 undef = .pointer (some ⟨w.heap.size, 0, none⟩) := hK.2.2 7 (by kernel_rfl)
            clear hd
            go_simp
            exact ⟨_, rfl, rfl, laterPre.refl _⟩
          | 18, ho =>
            simp at ho
            subst ho
            have t92 : (a.tmps.getD 92 undef) = .pointer (some ⟨w.heap.size, 1, none⟩) := hd { on := 17, ground := .data } (by simp) rfl _ 92 rfl rfl
            clear hd
            have hx := Blk.below (unhide A) hL
            have x1 := hx.cell 1
            simp only [List.getElem?_toArray, List.getElem?_cons_succ, List.getElem?_cons_zero] at x1
            go_simp
            exact ⟨_, rfl, rfl, laterPre.refl _⟩
          | 19, ho =>
            simp at ho
            subst ho
            have k7 : a.tmps.getD 7 undef = .pointer (some ⟨w.heap.size, 0, none⟩) := hK.2.2 7 (by kernel_rfl)
            clear hd
            go_simp
            exact ⟨_, rfl, rfl, laterPre.refl _⟩
          | 20, ho =>
            simp at ho
            subst ho
            have t94 : (a.tmps.getD 94 undef) = .pointer (some ⟨w.heap.size, 2, none⟩) := hd { on := 19, ground := .data } (by simp) rfl _ 94 rfl rfl
            clear hd
            have hx := Blk.below (unhide A) hL
            have x2 := hx.cell 2
            simp only [List.getElem?_toArray, List.getElem?_cons_succ, List.getElem?_cons_zero] at x2
            go_simp
            exact ⟨_, rfl, rfl, laterPre.refl _⟩
          | 21, ho =>
            simp at ho
            subst ho
            have t93 : (a.tmps.getD 93 undef) = .string tag := hd { on := 18, ground := .data } (by simp) rfl _ 93 rfl rfl
            have e93 : a.tmps[93]?.getD undef = .string tag := by rw [← t93]; simp
            have t95 : (a.tmps.getD 95 undef) = .string name := hd { on := 20, ground := .data } (by simp) rfl _ 95 rfl rfl
            have e95 : a.tmps[95]?.getD undef = .string name := by rw [← t95]; simp
            clear hd
            go_simp
            rw [if_neg (by omega)]
            exact ⟨_, rfl, rfl, laterPre.refl _⟩
          | 22, ho =>
            simp at ho
            subst ho
            have t75 : (a.tmps.getD 75 undef) = .int .i64 add := hd { on := 0, ground := .data } (by simp) rfl _ 75 rfl rfl
            have e75 : a.tmps[75]?.getD undef = .int .i64 add := by rw [← t75]; simp
            have t76 : (a.tmps.getD 76 undef) = .agg #[.slice (some ⟨g1, 0, none⟩) kl c1] := hd { on := 1, ground := .data } (by simp) rfl _ 76 rfl rfl
            have e76 : a.tmps[76]?.getD undef = .agg #[.slice (some ⟨g1, 0, none⟩) kl c1] := by rw [← t76]; simp
            have t83 : ∃ g c, (a.tmps.getD 83 undef) = .slice (some ⟨g, 0, none⟩) (1 + pl) c ∧ u.ownsRow w.heap.size 60 2 (.slice (some ⟨g, 0, none⟩) (1 + pl) c) (1 + pl) ([.int .i64 (leafOf add), .string leaf] ++ mcells pt) := hd { on := 8, ground := .data } (by simp) rfl _ 83 rfl rfl
            have t87 : (a.tmps.getD 87 undef) = .int .i64 ((countN tag : Int) + 1) := hd { on := 12, ground := .data } (by simp) rfl _ 87 rfl rfl
            have e87 : a.tmps[87]?.getD undef = .int .i64 ((countN tag : Int) + 1) := by rw [← t87]; simp
            have t91 : (a.tmps.getD 91 undef) = .string is := hd { on := 16, ground := .data } (by simp) rfl _ 91 rfl rfl
            have e91 : a.tmps[91]?.getD undef = .string is := by rw [← t91]; simp
            have t96 : (a.tmps.getD 96 undef) = .string (tag ++ name) := hd { on := 21, ground := .data } (by simp) rfl _ 96 rfl rfl
            have e96 : a.tmps[96]?.getD undef = .string (tag ++ name) := by rw [← t96]; simp
            clear hd
            obtain ⟨g, c, t83, ow⟩ := t83
            have e83 : a.tmps[83]?.getD undef = .slice (some ⟨g, 0, none⟩) (1 + pl) c := by rw [← t83]; simp
            go_simp
            exact ⟨_, rfl, ⟨g, c, rfl, ow⟩, laterPre.refl _⟩
          | 23, ho =>
            simp at ho
            subst ho
            clear hd
            have hsz : w3.heap.size ≤ u.heap.size := hL.size
            go_simp
            exact ⟨_, rfl, ⟨_, rfl, hsz, Blk.new u _ _⟩, later_alloc _ _⟩
          | j + 24, ho =>
            have : j + 24 < 24 := hi
            omega
        case hlast =>
          intro o a u ho hK hL hd
          simp at ho
          subst ho
          have t75 : (a.tmps.getD 75 undef) = .int .i64 add := hd 0 _ 75 (by simp) rfl rfl
          have t76 : (a.tmps.getD 76 undef) = .agg #[.slice (some ⟨g1, 0, none⟩) kl c1] := hd 1 _ 76 (by simp) rfl rfl
          have t77 : (a.tmps.getD 77 undef) = .int .i64 add := hd 2 _ 77 (by simp) rfl rfl
          have t78 : (a.tmps.getD 78 undef) = .int .i64 (leafOf add) := hd 3 _ 78 (by simp) rfl rfl
          have t79 : (a.tmps.getD 79 undef) = .string leaf := hd 4 _ 79 (by simp) rfl rfl
          have t80 : (a.tmps.getD 80 undef) = .agg #[.int .i64 (leafOf add), .string leaf] := hd 5 _ 80 (by simp) rfl rfl
          have t81 : ∃ g, (a.tmps.getD 81 undef) = .slice (some ⟨g, 0, none⟩) 1 1 ∧ u.ownsRow w.heap.size 60 2 (.slice (some ⟨g, 0, none⟩) 1 1) 1 [.int .i64 (leafOf add), .string leaf] := hd 6 _ 81 (by simp) rfl rfl
          have t82 : (a.tmps.getD 82 undef) = pv := hd 7 _ 82 (by simp) rfl rfl
          have t83 : ∃ g c, (a.tmps.getD 83 undef) = .slice (some ⟨g, 0, none⟩) (1 + pl) c ∧ u.ownsRow w.heap.size 60 2 (.slice (some ⟨g, 0, none⟩) (1 + pl) c) (1 + pl) ([.int .i64 (leafOf add), .string leaf] ++ mcells pt) := hd 8 _ 83 (by simp) rfl rfl
          have t84 : (a.tmps.getD 84 undef) = .pointer (some ⟨w.heap.size, 1, none⟩) := hd 9 _ 84 (by simp) rfl rfl
          have t85 : (a.tmps.getD 85 undef) = .string tag := hd 10 _ 85 (by simp) rfl rfl
          have t86 : (a.tmps.getD 86 undef) = .int .i64 (countN tag : Int) := hd 11 _ 86 (by simp) rfl rfl
          have t87 : (a.tmps.getD 87 undef) = .int .i64 ((countN tag : Int) + 1) := hd 12 _ 87 (by simp) rfl rfl
          have t88 : (a.tmps.getD 88 undef) = .pointer (some ⟨w.heap.size, 8, none⟩) := hd 13 _ 88 (by simp) rfl rfl
          have t89 : (a.tmps.getD 89 undef) = .pointer (some ⟨w.heap.size, 9, none⟩) := hd 14 _ 89 (by simp) rfl rfl
          have t90 : (a.tmps.getD 90 undef) = .pointer (some ⟨w.heap.size, 10, none⟩) := hd 15 _ 90 (by simp) rfl rfl
          have t91 : (a.tmps.getD 91 undef) = .string is := hd 16 _ 91 (by simp) rfl rfl
          have t92 : (a.tmps.getD 92 undef) = .pointer (some ⟨w.heap.size, 1, none⟩) := hd 17 _ 92 (by simp) rfl rfl
          have t93 : (a.tmps.getD 93 undef) = .string tag := hd 18 _ 93 (by simp) rfl rfl
          have t94 : (a.tmps.getD 94 undef) = .pointer (some ⟨w.heap.size, 2, none⟩) := hd 19 _ 94 (by simp) rfl rfl
          have t95 : (a.tmps.getD 95 undef) = .string name := hd 20 _ 95 (by simp) rfl rfl
          have t96 : (a.tmps.getD 96 undef) = .string (tag ++ name) := hd 21 _ 96 (by simp) rfl rfl
          have t97 : ∃ g c, (a.tmps.getD 97 undef) = .agg (memC true add (.slice (some ⟨g1, 0, none⟩) kl c1) (.slice (some ⟨g, 0, none⟩) (1 + pl) c) ((countN tag : Int) + 1) is (tag ++ name)) ∧ u.ownsRow w.heap.size 60 2 (.slice (some ⟨g, 0, none⟩) (1 + pl) c) (1 + pl) ([.int .i64 (leafOf add), .string leaf] ++ mcells pt) := hd 22 _ 97 (by simp) rfl rfl
          have t13 : ∃ b, (a.tmps.getD 13 undef) = .pointer (some ⟨b, 0, none⟩) ∧ w3.heap.size ≤ b ∧ Blk u b 35 noMem := hd 23 _ 13 (by simp) rfl rfl
          clear hd
          have hop := act_open hK rfl (ds := [75, 76, 77, 78, 79, 80, 81, 82, 83, 84, 85, 86, 87, 88, 89, 90, 91, 92, 93, 94, 95, 96, 97, 13]) (by kernel_rfl)
          obtain ⟨g, c, t97, ow⟩ := t97
          obtain ⟨g8, c8, t83, _⟩ := t83
          obtain ⟨g7, t81, _⟩ := t81
          obtain ⟨b13, t13, hb13, blk⟩ := t13
          have r2 := (unhide R).below hL
          have hrl := (unhide R).lt
          have h3s : w3.drew.heap.size = w3.heap.size := rfl
          have k2 := own_below' (unhide K1) hL
          have hb2 := HB.out.trans (Below.mono hL HB.out.size)
          have hws := HB.out.size
          refine wp_store_row 35 _ _ rfl b13 (memC true add (.slice (some ⟨g1, 0, none⟩) kl c1) (.slice (some ⟨g, 0, none⟩) (1 + pl) c) ((countN tag : Int) + 1) is (tag ++ name)) t13 t97 35 noMem blk info_mm rfl (one_mm _ _ _ _ _ _ _ _ _ _ _) ?_
          have R4 := hide (r2.other (b' := b13) (by omega) (memC true add (.slice (some ⟨g1, 0, none⟩) kl c1) (.slice (some ⟨g, 0, none⟩) (1 + pl) c) ((countN tag : Int) + 1) is (tag ++ name)))
          have BM := hide (blk.set (memC true add (.slice (some ⟨g1, 0, none⟩) kl c1) (.slice (some ⟨g, 0, none⟩) (1 + pl) c) ((countN tag : Int) + 1) is (tag ++ name)))
          have K4 : Hid (Own w.heap.size _ _ keys) := row_blk k2 blk (by decide) (memC true add (.slice (some ⟨g1, 0, none⟩) kl c1) (.slice (some ⟨g, 0, none⟩) (1 + pl) c) ((countN tag : Int) + 1) is (tag ++ name))
          have O4 := hide (row_blk ow blk (by decide) (memC true add (.slice (some ⟨g1, 0, none⟩) kl c1) (.slice (some ⟨g, 0, none⟩) (1 + pl) c) ((countN tag : Int) + 1) is (tag ++ name)))
          have HB4 := hide (below_blk hb2 (b := b13) (by omega) (memC true add (.slice (some ⟨g1, 0, none⟩) kl c1) (.slice (some ⟨g, 0, none⟩) (1 + pl) c) ((countN tag : Int) + 1) is (tag ++ name)))
          have hb13' : w.heap.size ≤ b13 := by omega
          clear r2 k2 hb2 ow blk hL hrl h3s
          generalize u.setRow b13 (memC true add (.slice (some ⟨g1, 0, none⟩) kl c1) (.slice (some ⟨g, 0, none⟩) (1 + pl) c) ((countN tag : Int) + 1) is (tag ++ name)) = u2 at *
          change Exit.then _ _ Exit.normal a _
          rw [hop]
          simp only [List.map_cons, List.map_nil, t75, t76, t77, t78, t79, t80, t81, t82, t83, t84, t85, t86, t87, t88, t89, t90, t91, t92, t93, t94, t95, t96, t97, t13, putAll, Act.put, List.setIfInBounds_toArray, List.set_cons_zero, List.set_cons_succ]
          clear hop hK t75 t76 t77 t78 t79 t80 t81 t82 t83 t84 t85 t86 t87 t88 t89 t90 t91 t92 t93 t94 t95 t96 t97 t13
          have hOM : OwnM w.heap.size u2 (.slice (some ⟨g, 0, none⟩) (1 + pl) c) (joinOwn add leaf ⟨se, tag, name, add, rem, lf, keys, boxes, ⟨wk, ik, is, sk, ss⟩⟩) := by
            unfold OwnM
            rw [HJO.out, List.length_cons, show pt.length + 1 = 1 + pl by rw [HPQ.out]; omega]
            exact unhide O4
          have O5 := hide hOM
          have S5 := hide K4.out.srow
          have HSM : Hid (∀ o ∈ joinOwn add leaf ⟨se, tag, name, add, rem, lf, keys, boxes, ⟨wk, ik, is, sk, ss⟩⟩, o.2.size ≤ maxLen) := by
            intro o ho
            rw [HJO.out] at ho
            rcases List.mem_cons.1 ho with rfl | ho
            · exact M.out.1
            · exact Nat.le_trans (HPS.out o ho) (by unfold maxLen; omega)
          have HSZ : Hid ((tag ++ name).size ≤ maxLen) := by show _ ≤ _; rw [ByteArray.size_append]; exact Nat.le_trans HTG.out (by unfold maxLen; omega)
          have L9 := hide (load_mm (unhide BM) rfl)
          replace R := R4
          replace HB := HB4
          clear hOM O4 R4 HB4 A TB K1 L3
          go_wp2_with (refine wpList_load_whole rfl 35 _ rfl ⟨b13, 0, none⟩ rfl _ (by exact unhide L9) ?_)
          refine (sMemOk_any (joinM add leaf ⟨se, tag, name, add, rem, lf, keys, boxes, ⟨wk, ik, is, sk, ss⟩⟩) _ _ _ (unhide S5) (unhide O5).mrow FT.out.1 (unhide HSM) FT.out.2.2.2.2.2.2.1 (unhide HSZ)).mono ?_
          obtain ⟨b8, hb8⟩ : ∃ b8, memOkS (joinM add leaf ⟨se, tag, name, add, rem, lf, keys, boxes, ⟨wk, ik, is, sk, ss⟩⟩) = b8 := ⟨_, rfl⟩
          rw [hb8] at HE ⊢
          clear hb8
          rintro e w5 ⟨rfl, hb⟩
          replace R := hide ((unhide R).below hb)
          replace BM := hide ((unhide BM).below hb)
          replace K4 := hide (Own.below (unhide K4) hb)
          replace O5 : Hid (OwnM w.heap.size w5 _ (joinOwn add leaf ⟨se, tag, name, add, rem, lf, keys, boxes, ⟨wk, ik, is, sk, ss⟩⟩)) := own_below' (unhide O5) hb
          replace HB := hide (HB.out.trans (hb.mono HB.out.size))
          clear hb L9 S5
          cases b8 with
          | false =>
            have HF : Hid (joinB add leaf key ⟨se, tag, name, add, rem, lf, keys, boxes, ⟨wk, ik, is, sk, ss⟩⟩ = false) := HE.out
            go_wp2_with (refine wpList_store_whole rfl 35 _ _ rfl (w.heap.size + 1) noMem rfl rfl 35 _ (by exact unhide R) info_mm rfl (one_mm _ _ _ _ _ _ _ _ _ _ _) ?_)
            have l2 := load_mm ((unhide R).set noMem) rfl
            refine bodyPost_ret (v := .tuple #[.agg noMem, .bool false]) (results_cs rfl rfl rfl l2) rfl ?_
            exact ⟨_, _, ret_join HF.out rfl, own_none HF.out, ownM_none HF.out, below_blk HB.out (by omega) _⟩
          | true =>
            have HF : Hid (joinB add leaf key ⟨se, tag, name, add, rem, lf, keys, boxes, ⟨wk, ik, is, sk, ss⟩⟩ = true) := HE.out
            have L9 := hide (load_mm (unhide BM) rfl)
            go_wp2_with (first | refine wpList_load_whole rfl 35 _ rfl ⟨b13, 0, none⟩ rfl _ (by exact unhide L9) ?_ | (refine wpList_store_whole rfl 35 (.tmp 8) (.tmp 102) rfl (w.heap.size + 1) (memC true add (.slice (some ⟨g1, 0, none⟩) kl c1) (.slice (some ⟨g, 0, none⟩) (1 + pl) c) ((countN tag : Int) + 1) is (tag ++ name)) ?hx ?hy 35 noMem ?hb ?hi ?ho ?h1 ?h))
            case hb => exact unhide R
            case hi => exact info_mm
            case ho => rfl
            case h1 => exact (one_mm _ _ _ _ _ _ _ _ _ _ _)
            go_wp2_with fail
            have l2 := load_mm ((unhide R).set (memC true add (.slice (some ⟨g1, 0, none⟩) kl c1) (.slice (some ⟨g, 0, none⟩) (1 + pl) c) ((countN tag : Int) + 1) is (tag ++ name))) rfl
            refine bodyPost_ret (v := .tuple #[.agg (memC true add (.slice (some ⟨g1, 0, none⟩) kl c1) (.slice (some ⟨g, 0, none⟩) (1 + pl) c) ((countN tag : Int) + 1) is (tag ++ name)), .bool true]) (results_cs rfl rfl rfl l2) rfl ?_
            exact ⟨_, _, ret_joinY HF.out, own_joinY HF.out (row_blk (unhide K4) (unhide R) (by decide) _), ownM_joinY HF.out (row_blk (unhide O5) (unhide R) (by decide) _), below_blk HB.out (by omega) _⟩
#print axioms sMemJoin_any
end Go.Proofs.YteiojanamkndmaaGreat
