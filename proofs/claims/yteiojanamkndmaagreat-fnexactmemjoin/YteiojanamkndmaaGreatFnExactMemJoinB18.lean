/-
  The program's MemJoin.
-/
import Derived.Test.YteiojanamkndmaaGreatFnExactMemJoinB16
import Derived.Test.YteiojanamkndmaaGreatFnExactMemJoinB9
import Derived.Test.YteiojanamkndmaaGreatFnExactMemJoinB17
import Derived.Test.YteiojanamkndmaaGreatFnExactMemJoinB5
namespace Go.Proofs.YteiojanamkndmaaGreat
open Go.RowKit

theorem info_mo2 : (Tryz.prog.info? 60).map (·.size) = some 2 := by kernel_rfl
theorem one_mo (n : Int) (s : ByteArray) : (#[Value.int .i64 n, .string s]).all (·.oneCell') = true := by simp [Value.oneCell']
theorem load_mo {w : World} {b : Nat} {cs : Array Value} (h : Blk w b 60 cs) (hc : cs.size = 2) : (loadVar 60 ⟨b, 0, none⟩).run Tryz.prog w = .ok (.agg cs) w :=
  run_loadVar_row w b _ _ cs (0, 0) _ h Tryz.underlying60 rfl (by rw [hc]; exact info_mo2)

set_option maxRecDepth 100000 in
set_option maxHeartbeats 1000000 in
theorem cloneOwn_any (n : Int) (s : ByteArray) (w : World) (hs : s.size ≤ 1000000) :
    Calls Tryz.prog 58 #[.agg #[.int .i64 n, .string s]] w fun e w' => e = .returned (.agg #[.int .i64 n, .string s]) ∧ Below w.heap.size w w' := by
  have HS := hide hs
  clear hs
  have A : Hid (Blk ((w.alloc (.cells #[.int .i64 n, .string s] 60)).alloc (.cells #[.int .i64 0, .string ⟨#[]⟩] 60)).drew w.heap.size 60 #[.int .i64 n, .string s]) := ((Blk.new w _ _).alloc _).drew
  have r0 := Blk.new (w.alloc (.cells #[.int .i64 n, .string s] 60)) 60 #[.int .i64 0, .string ⟨#[]⟩]
  rw [World.size_alloc] at r0
  have R := hide r0.drew
  have HB := hide ((((Below.refl w.heap.size w).alloc (Nat.le_refl _) (.cells #[.int .i64 n, .string s] 60)).alloc (by simp) (.cells #[.int .i64 0, .string ⟨#[]⟩] 60))).drew
  clear r0
  go_enter Tryz.func58, Tryz.ntmps58
  go_wp2_with fail
  refine wp_region_later (by kernel_rfl) ?_
  refine later_take (i := 0) (d := 3) (v := ?_) (by kernel_rfl) (by kernel_rfl) (by kernel_rfl) (by kernel_rfl) (fun _ _ _ h => h) (fun oi hoi => ?_) ?_
  rotate_left
  · simp at hoi
    subst hoi
    refine ⟨by rfl, fun w' hw' => ?_⟩
    go_simp
    all_goals rfl
  try simp only [Act.put, List.setIfInBounds_toArray, List.set_cons_zero, List.set_cons_succ]
  refine later_take (i := 1) (d := 4) (v := ?_) (by kernel_rfl) (by kernel_rfl) (by kernel_rfl) (by kernel_rfl) (fun _ _ _ h => h) (fun oi hoi => ?_) ?_
  rotate_left
  · simp at hoi
    subst hoi
    refine ⟨by rfl, fun w' hw' => ?_⟩
    have hx := Blk.below (unhide A) hw'
    have x0 := hx.cell 0
    simp only [List.getElem?_toArray, List.getElem?_cons_zero] at x0
    go_simp
    all_goals rfl
  try simp only [Act.put, List.setIfInBounds_toArray, List.set_cons_zero, List.set_cons_succ]
  refine later_take (i := 2) (d := 5) (v := ?_) (by kernel_rfl) (by kernel_rfl) (by kernel_rfl) (by kernel_rfl) (fun _ _ _ h => h) (fun oi hoi => ?_) ?_
  rotate_left
  · simp at hoi
    subst hoi
    refine ⟨by rfl, fun w' hw' => ?_⟩
    go_simp
    all_goals rfl
  try simp only [Act.put, List.setIfInBounds_toArray, List.set_cons_zero, List.set_cons_succ]
  refine later_take (i := 3) (d := 6) (v := ?_) (by kernel_rfl) (by kernel_rfl) (by kernel_rfl) (by kernel_rfl) (fun _ _ _ h => h) (fun oi hoi => ?_) ?_
  rotate_left
  · simp at hoi
    subst hoi
    refine ⟨by rfl, fun w' hw' => ?_⟩
    have hx := Blk.below (unhide A) hw'
    have x1 := hx.cell 1
    simp only [List.getElem?_toArray, List.getElem?_cons_succ, List.getElem?_cons_zero] at x1
    go_simp
    all_goals rfl
  try simp only [Act.put, List.setIfInBounds_toArray, List.set_cons_zero, List.set_cons_succ]
  refine later_one (i := 4) (by kernel_rfl) (fun oi K hoi hK => ?_)
  simp at hoi
  subst hoi
  refine ⟨by rfl, ?_⟩
  go_simp
  refine (clone_any s _ HS.out).mono ?_
  rintro e w1 ⟨rfl, hb⟩
  go_simp
  refine hK.out _ _ hb ?_
  clear hK
  replace A := hide ((unhide A).below hb)
  replace R := hide ((unhide R).below hb)
  replace HB := hide (HB.out.trans (hb.mono HB.out.size))
  clear hb
  try simp only [Act.put, List.setIfInBounds_toArray, List.set_cons_zero, List.set_cons_succ]
  refine later_take (i := 5) (d := 8) (v := ?_) (by kernel_rfl) (by kernel_rfl) (by kernel_rfl) (by kernel_rfl) (fun _ _ _ h => h) (fun oi hoi => ?_) ?_
  rotate_left
  · simp at hoi
    subst hoi
    refine ⟨by rfl, fun w' hw' => ?_⟩
    go_simp
    all_goals rfl
  try simp only [Act.put, List.setIfInBounds_toArray, List.set_cons_zero, List.set_cons_succ]
  refine ord_last (i := 6) (by kernel_rfl) (by kernel_rfl) (by kernel_rfl) (fun oi K hoi hK => ?_)
  simp at hoi
  subst hoi
  refine ⟨by rfl, ?_⟩
  refine wp_store_row 60 _ _ rfl (w.heap.size + 1) #[.int .i64 n, .string s] rfl rfl 60 #[.int .i64 0, .string ⟨#[]⟩] (by exact unhide R) info_mo2 rfl (one_mo _ _) ?_
  refine hK.out _ _ ?_
  clear hK
  go_wp2_with fail
  have l2 := load_mo ((unhide R).set #[.int .i64 n, .string s]) rfl
  refine bodyPost_ret (v := .agg #[.int .i64 n, .string s]) (results_cell rfl rfl l2) rfl ⟨rfl, ?_⟩
  exact below_blk HB.out (by omega) _

theorem JoinPost.fv {w w' : World} {es : List Value} {e : Ending} (h : JoinPost w es e w') : ∃ v, e = .returned v ∧ FV (!anyF es) v := by
  rcases h.2 with ⟨h1, h2⟩ | ⟨h1, p, sl, h2, _⟩
  · exact ⟨_, h2, .inl rfl, by rw [h1]; rfl⟩
  · exact ⟨_, h2, .inr ⟨_, _, rfl⟩, by rw [h1]; rfl⟩
theorem commitFaults_f (c : Cmt) (ks bs : Value) (w : World) (hK : SRow w ks c.keys) (hO : BRow w bs c.boxes) (hft : (∀ x ∈ c.keys, x.size ≤ maxLen) ∧ (∀ b ∈ c.boxes, b.1.size ≤ maxLen ∧ b.2.size ≤ maxLen) ∧ c.name.size ≤ 2000000 ∧ c.tag.size ≤ 2000000 ∧ c.leaf.size ≤ maxLen ∧ c.wel.key.size ≤ maxLen ∧ c.wel.is.size ≤ maxLen ∧ c.wel.ss.size ≤ maxLen) :
    Calls Tryz.prog 53 #[.agg (c.cells ks bs)] w fun e w' => ∃ v, e = .returned v ∧ FV (cmtOk c) v ∧ Below w.heap.size w w' :=
  (commitFaults_any c ks bs w hK hO hft.1 hft.2.1 hft.2.2.1 hft.2.2.2.1 hft.2.2.2.2.1 hft.2.2.2.2.2.1 hft.2.2.2.2.2.2.1 hft.2.2.2.2.2.2.2).mono fun _ _ ⟨es, _, ha, _, hb0, hj⟩ => by
    obtain ⟨v, h1, h2⟩ := hj.fv
    rw [ha, Bool.not_not] at h2
    exact ⟨v, h1, h2, hb0.trans (hj.1.mono hb0.size)⟩
theorem faults4 {v1 v2 v3 v4 : Value} {b1 b2 b3 b4 : Bool} (h1 : FV b1 v1) (h2 : FV b2 v2) (h3 : FV b3 v3) (h4 : FV b4 v4) : anyF [v1, v2, v3, v4] = !(b1 && b2 && b3 && b4) := by
  unfold anyF
  simp only [List.any_cons, List.any_nil, h1.2, h2.2, h3.2, h4.2, Bool.or_false, Bool.not_and, Bool.or_assoc]
/-- Worlds in which what lay below a number, and one block, is as it was. -/
def RelB (B b : Nat) (u v : World) : Prop := Below B u v ∧ v.heap[b]? = u.heap[b]?
theorem relPre (B b : Nat) : Pre (RelB B b) := ⟨fun _ => ⟨Below.refl _ _, rfl⟩, fun _ _ _ h k => ⟨h.1.trans k.1, k.2.trans h.2⟩⟩
theorem RelB.of {B b : Nat} {u v : World} (h : Below u.heap.size u v) (hB : B ≤ u.heap.size) (hb : b < u.heap.size) : RelB B b u v := ⟨h.mono hB, h.block b hb⟩
theorem RelB.blk {B b : Nat} {u v : World} {t : TypeId} {cs : Array Value} (h : RelB B b u v) (hb : Blk u b t cs) : Blk v b t cs := h.2.trans hb

/-- What behindJoining answers. -/
def BJPost (who : Int) (leaf key : ByteArray) (c : Cmt) (w : World) (e : Ending) (w' : World) : Prop :=
  ∃ (m : Mem) (ks os ev : Value), e = .returned (.tuple #[.agg (m.cells ks os), ev]) ∧ Own w.heap.size w' ks m.keys ∧ OwnM w.heap.size w' os m.own ∧ FV (joinB who leaf key c) ev ∧ (joinB who leaf key c = true → m = joinM who leaf c) ∧ Below w.heap.size w w'

set_option maxRecDepth 100000 in
set_option maxHeartbeats 8000000 in
theorem behindJoining_any (who : Int) (leaf key : ByteArray) (c : Cmt) (ks bs : Value) (w : World) (hK : SRow w ks c.keys) (hO : BRow w bs c.boxes) (hl : leaf.size ≤ maxLen) (hk : key.size ≤ maxLen)
    (hft : (∀ x ∈ c.keys, x.size ≤ maxLen) ∧ (∀ b ∈ c.boxes, b.1.size ≤ maxLen ∧ b.2.size ≤ maxLen) ∧ c.name.size ≤ 2000000 ∧ c.tag.size ≤ 2000000 ∧ c.leaf.size ≤ maxLen ∧ c.wel.key.size ≤ maxLen ∧ c.wel.is.size ≤ maxLen ∧ c.wel.ss.size ≤ maxLen) :
    Calls Tryz.prog 27 #[.int .i64 who, .string leaf, .string key, .agg (c.cells ks bs)] w fun e w' => BJPost who leaf key c w e w' := by
  have HE : Hid ((joinI who leaf key c && memOkI (joinM who leaf c)) = joinB who leaf key c) := join_agree who leaf key c
  have HI : Hid (joinI who leaf key c = (cmtOk c && (oneB who && decide (c.add = who)) && (decide (mkKey leaf = c.leaf) && decide (mkKey key = c.wel.key)) && maySet c.wel.ss)) := rfl
  have FT := hide hft
  have M : Hid (leaf.size ≤ maxLen ∧ key.size ≤ maxLen) := ⟨hl, hk⟩
  obtain ⟨se, tag, name, add, rem, lf, keys, boxes, wk, ik, is, sk, ss⟩ := c
  simp only at hK hO HI FT
  obtain ⟨a1, p1, rfl, _, _, z1⟩ := hK.form
  obtain ⟨a2, p2, rfl, _, _, z2⟩ := id hO
  clear z1 z2 hft hl hk
  have A : Hid (Blk ((w.alloc (.cells (cmtC se tag name add rem lf (.slice a1 keys.length p1) (.slice a2 boxes.length p2) wk ik is sk ss) 43)).alloc (.cells noMem 35)).drew w.heap.size 43 (cmtC se tag name add rem lf (.slice a1 keys.length p1) (.slice a2 boxes.length p2) wk ik is sk ss)) := ((Blk.new w _ _).alloc _).drew
  have r0 := Blk.new (w.alloc (.cells (cmtC se tag name add rem lf (.slice a1 keys.length p1) (.slice a2 boxes.length p2) wk ik is sk ss) 43)) 35 noMem
  rw [World.size_alloc] at r0
  have R := hide r0.drew
  have hb0 := ((((Below.refl w.heap.size w).alloc (Nat.le_refl _) (.cells (cmtC se tag name add rem lf (.slice a1 keys.length p1) (.slice a2 boxes.length p2) wk ik is sk ss) 43)).alloc (by simp) (.cells noMem 35))).drew
  have HK := hide (hK.below hb0)
  have HO := hide (hO.below hb0)
  have HB := hide hb0
  clear hK hO r0 hb0
  obtain ⟨b1, hb1⟩ : ∃ b, oneB who = b := ⟨_, rfl⟩
  rw [hb1] at HI
  have H1 := hide hb1
  clear hb1
  cases b1 with
  | false =>
    by_cases h6 : mkKey leaf = lf
    · have h62 : ((mkKey leaf).toList == lf.toList) = true := by rw [str_dec]; simpa using h6
      rw [show decide (mkKey leaf = lf) = true by simpa using h6] at HI
      clear h6
      have HF : Hid (joinB who leaf key ⟨se, tag, name, add, rem, lf, keys, boxes, ⟨wk, ik, is, sk, ss⟩⟩ = false) := by show _ = _; rw [← HE.out, HI.out]; simp
      go_enter Tryz.func27, Tryz.ntmps27
      go_wp2_with fail
      refine wp_region_later (by kernel_rfl) ?_
      refine later_take (i := 0) (d := 13) (v := ?_) (by kernel_rfl) (by kernel_rfl) (by kernel_rfl) (by kernel_rfl) (fun _ _ _ h => h) (fun oi hoi => ?_) ?_
      rotate_left
      · simp at hoi
        subst hoi
        refine ⟨by rfl, fun w' hw' => ?_⟩
        have hx := Blk.below (unhide A) hw'
        have x0 := hx.cell 0
        have x1 := hx.cell 1
        have x2 := hx.cell 2
        have x3 := hx.cell 3
        have x4 := hx.cell 4
        have x5 := hx.cell 5
        have x6 := hx.cell 6
        have x7 := hx.cell 7
        have x8 := hx.cell 8
        have x9 := hx.cell 9
        have x10 := hx.cell 10
        have x11 := hx.cell 11
        have x12 := hx.cell 12
        simp only [List.getElem?_toArray, List.getElem?_cons_succ, List.getElem?_cons_zero] at x0 x1 x2 x3 x4 x5 x6 x7 x8 x9 x10 x11 x12
        go_simp
        all_goals rfl
      try simp only [Act.put, List.setIfInBounds_toArray, List.set_cons_zero, List.set_cons_succ]
      refine later_take (i := 2) (d := 15) (v := ?_) (by kernel_rfl) (by kernel_rfl) (by kernel_rfl) (by kernel_rfl) (fun _ _ _ h => h) (fun oi hoi => ?_) ?_
      rotate_left
      · simp at hoi
        subst hoi
        refine ⟨by rfl, fun w' hw' => ?_⟩
        go_simp
        all_goals rfl
      try simp only [Act.put, List.setIfInBounds_toArray, List.set_cons_zero, List.set_cons_succ]
      refine later_take (i := 11) (d := 24) (v := ?_) (by kernel_rfl) (by kernel_rfl) (by kernel_rfl) (by kernel_rfl) (fun _ _ _ h => h) (fun oi hoi => ?_) ?_
      rotate_left
      · simp at hoi
        subst hoi
        refine ⟨by rfl, fun w' hw' => ?_⟩
        go_simp
        all_goals rfl
      try simp only [Act.put, List.setIfInBounds_toArray, List.set_cons_zero, List.set_cons_succ]
      refine later_take (i := 13) (d := 26) (v := ?_) (by kernel_rfl) (by kernel_rfl) (by kernel_rfl) (by kernel_rfl) (fun _ _ _ h => h) (fun oi hoi => ?_) ?_
      rotate_left
      · simp at hoi
        subst hoi
        refine ⟨by rfl, fun w' hw' => ?_⟩
        go_simp
        all_goals rfl
      try simp only [Act.put, List.setIfInBounds_toArray, List.set_cons_zero, List.set_cons_succ]
      refine later_take (i := 14) (d := 27) (v := ?_) (by kernel_rfl) (by kernel_rfl) (by kernel_rfl) (by kernel_rfl) (fun _ _ _ h => h) (fun oi hoi => ?_) ?_
      rotate_left
      · simp at hoi
        subst hoi
        refine ⟨by rfl, fun w' hw' => ?_⟩
        have hx := Blk.below (unhide A) hw'
        have x5 := hx.cell 5
        simp only [List.getElem?_toArray, List.getElem?_cons_succ, List.getElem?_cons_zero] at x5
        go_simp
        all_goals rfl
      try simp only [Act.put, List.setIfInBounds_toArray, List.set_cons_zero, List.set_cons_succ]
      refine later_take (i := 25) (d := 38) (v := ?_) (by kernel_rfl) (by kernel_rfl) (by kernel_rfl) (by kernel_rfl) (fun _ _ _ h => h) (fun oi hoi => ?_) ?_
      rotate_left
      · simp at hoi
        subst hoi
        refine ⟨by rfl, fun w' hw' => ?_⟩
        go_simp
        all_goals rfl
      try simp only [Act.put, List.setIfInBounds_toArray, List.set_cons_zero, List.set_cons_succ]
      refine later_take (i := 26) (d := 39) (v := ?_) (by kernel_rfl) (by kernel_rfl) (by kernel_rfl) (by kernel_rfl) (fun _ _ _ h => h) (fun oi hoi => ?_) ?_
      rotate_left
      · simp at hoi
        subst hoi
        refine ⟨by rfl, fun w' hw' => ?_⟩
        go_simp
        all_goals rfl
      try simp only [Act.put, List.setIfInBounds_toArray, List.set_cons_zero, List.set_cons_succ]
      refine later_take (i := 27) (d := 40) (v := ?_) (by kernel_rfl) (by kernel_rfl) (by kernel_rfl) (by kernel_rfl) (fun _ _ _ h => h) (fun oi hoi => ?_) ?_
      rotate_left
      · simp at hoi
        subst hoi
        refine ⟨by rfl, fun w' hw' => ?_⟩
        go_simp
        all_goals rfl
      try simp only [Act.put, List.setIfInBounds_toArray, List.set_cons_zero, List.set_cons_succ]
      refine later_take (i := 28) (d := 41) (v := ?_) (by kernel_rfl) (by kernel_rfl) (by kernel_rfl) (by kernel_rfl) (fun _ _ _ h => h) (fun oi hoi => ?_) ?_
      rotate_left
      · simp at hoi
        subst hoi
        refine ⟨by rfl, fun w' hw' => ?_⟩
        have hx := Blk.below (unhide A) hw'
        have x12 := hx.cell 12
        simp only [List.getElem?_toArray, List.getElem?_cons_succ, List.getElem?_cons_zero] at x12
        go_simp
        all_goals rfl
      try simp only [Act.put, List.setIfInBounds_toArray, List.set_cons_zero, List.set_cons_succ]
      refine later_one (i := 1) (by kernel_rfl) (fun oi K hoi hK => ?_)
      simp at hoi
      subst hoi
      refine ⟨by rfl, ?_⟩
      go_simp
      refine (commitFaults_f ⟨se, tag, name, add, rem, lf, keys, boxes, ⟨wk, ik, is, sk, ss⟩⟩ _ _ _ (unhide HK) (unhide HO) (unhide FT)).mono ?_
      rintro e w1 ⟨v1, rfl, f1, hb⟩
      replace f1 := hide f1
      go_simp
      refine hK.out _ _ hb ?_
      clear hK
      replace A := hide ((unhide A).below hb)
      replace R := hide ((unhide R).below hb)
      replace HK := hide ((unhide HK).below hb)
      replace HO := hide ((unhide HO).below hb)
      replace HB := hide (HB.out.trans (hb.mono HB.out.size))
      clear hb
      try simp only [Act.put, List.setIfInBounds_toArray, List.set_cons_zero, List.set_cons_succ]
      refine later_one (i := 3) (by kernel_rfl) (fun oi K hoi hK => ?_)
      simp at hoi
      subst hoi
      refine ⟨by rfl, ?_⟩
      go_simp
      refine (isOne_any who _).mono ?_
      rw [H1.out]
      rintro e wz ⟨rfl, rfl⟩
      go_simp
      refine hK.out _ _ (Below.refl _ _) ?_
      clear hK
      try simp only [Act.put, List.setIfInBounds_toArray, List.set_cons_zero, List.set_cons_succ]
      refine later_take (i := 4) (d := 17) (v := ?_) (by kernel_rfl) (by kernel_rfl) (by kernel_rfl) (by kernel_rfl) (fun _ _ _ h => h) (fun oi hoi => ?_) ?_
      rotate_left
      · simp at hoi
        subst hoi
        refine ⟨by rfl, fun w' hw' => ?_⟩
        go_simp
        all_goals rfl
      try simp only [Act.put, List.setIfInBounds_toArray, List.set_cons_zero, List.set_cons_succ]
      refine later_skip (i := 5) (d := 18) (by kernel_rfl) (by kernel_rfl) (by kernel_rfl) (by kernel_rfl) (fun _ _ _ h => h) (by rfl) ?_
      try simp only [Act.put, List.setIfInBounds_toArray, List.set_cons_zero, List.set_cons_succ]
      refine later_skip (i := 6) (d := 19) (by kernel_rfl) (by kernel_rfl) (by kernel_rfl) (by kernel_rfl) (fun _ _ _ h => h) (by rfl) ?_
      try simp only [Act.put, List.setIfInBounds_toArray, List.set_cons_zero, List.set_cons_succ]
      refine later_skip (i := 7) (d := 20) (by kernel_rfl) (by kernel_rfl) (by kernel_rfl) (by kernel_rfl) (fun _ _ _ h => h) (by rfl) ?_
      try simp only [Act.put, List.setIfInBounds_toArray, List.set_cons_zero, List.set_cons_succ]
      refine later_skip (i := 8) (d := 21) (by kernel_rfl) (by kernel_rfl) (by kernel_rfl) (by kernel_rfl) (fun _ _ _ h => h) (by rfl) ?_
      try simp only [Act.put, List.setIfInBounds_toArray, List.set_cons_zero, List.set_cons_succ]
      refine later_take (i := 9) (d := 22) (v := ?_) (by kernel_rfl) (by kernel_rfl) (by kernel_rfl) (by kernel_rfl) (fun _ _ _ h => h) (fun oi hoi => ?_) ?_
      rotate_left
      · simp at hoi
        subst hoi
        refine ⟨by rfl, fun w' hw' => ?_⟩
        go_simp
        all_goals rfl
      try simp only [Act.put, List.setIfInBounds_toArray, List.set_cons_zero, List.set_cons_succ]
      refine later_one (i := 10) (by kernel_rfl) (fun oi K hoi hK => ?_)
      simp at hoi
      subst hoi
      refine ⟨by rfl, ?_⟩
      go_simp
      refine (nothingUnless_f _ _ _).mono ?_
      rintro e w1 ⟨v2, rfl, f2, hb⟩
      replace f2 := hide f2
      go_simp
      refine hK.out _ _ hb ?_
      clear hK
      replace A := hide ((unhide A).below hb)
      replace R := hide ((unhide R).below hb)
      replace HK := hide ((unhide HK).below hb)
      replace HO := hide ((unhide HO).below hb)
      replace HB := hide (HB.out.trans (hb.mono HB.out.size))
      clear hb
      try simp only [Act.put, List.setIfInBounds_toArray, List.set_cons_zero, List.set_cons_succ]
      refine later_one (i := 12) (by kernel_rfl) (fun oi K hoi hK => ?_)
      simp at hoi
      subst hoi
      refine ⟨by rfl, ?_⟩
      go_simp
      refine (iMakKey_any leaf _ M.out.1).mono ?_
      rintro e w1 ⟨rfl, hb⟩
      go_simp
      refine hK.out _ _ hb ?_
      clear hK
      replace A := hide ((unhide A).below hb)
      replace R := hide ((unhide R).below hb)
      replace HK := hide ((unhide HK).below hb)
      replace HO := hide ((unhide HO).below hb)
      replace HB := hide (HB.out.trans (hb.mono HB.out.size))
      clear hb
      try simp only [Act.put, List.setIfInBounds_toArray, List.set_cons_zero, List.set_cons_succ]
      refine later_take (i := 15) (d := 28) (v := ?_) (by kernel_rfl) (by kernel_rfl) (by kernel_rfl) (by kernel_rfl) (fun _ _ _ h => h) (fun oi hoi => ?_) ?_
      rotate_left
      · simp at hoi
        subst hoi
        refine ⟨by rfl, fun w' hw' => ?_⟩
        go_simp
        all_goals rfl
      try simp only [Act.put, List.setIfInBounds_toArray, List.set_cons_zero, List.set_cons_succ]
      refine later_take (i := 16) (d := 29) (v := ?_) (by kernel_rfl) (by kernel_rfl) (by kernel_rfl) (by kernel_rfl) (fun _ _ _ h => h) (fun oi hoi => ?_) ?_
      rotate_left
      · simp at hoi
        subst hoi
        refine ⟨by rfl, fun w' hw' => ?_⟩
        go_simp
        all_goals rfl
      try simp only [Act.put, List.setIfInBounds_toArray, List.set_cons_zero, List.set_cons_succ]
      refine later_take (i := 17) (d := 30) (v := ?_) (by kernel_rfl) (by kernel_rfl) (by kernel_rfl) (by kernel_rfl) (fun _ _ _ h => h) (fun oi hoi => ?_) ?_
      rotate_left
      · simp at hoi
        subst hoi
        refine ⟨by rfl, fun w' hw' => ?_⟩
        go_simp
        all_goals rfl
      try simp only [Act.put, List.setIfInBounds_toArray, List.set_cons_zero, List.set_cons_succ]
      refine later_take (i := 19) (d := 32) (v := ?_) (by kernel_rfl) (by kernel_rfl) (by kernel_rfl) (by kernel_rfl) (fun _ _ _ h => h) (fun oi hoi => ?_) ?_
      rotate_left
      · simp at hoi
        subst hoi
        refine ⟨by rfl, fun w' hw' => ?_⟩
        go_simp
        all_goals rfl
      try simp only [Act.put, List.setIfInBounds_toArray, List.set_cons_zero, List.set_cons_succ]
      refine later_take (i := 20) (d := 33) (v := ?_) (by kernel_rfl) (by kernel_rfl) (by kernel_rfl) (by kernel_rfl) (fun _ _ _ h => h) (fun oi hoi => ?_) ?_
      rotate_left
      · simp at hoi
        subst hoi
        refine ⟨by rfl, fun w' hw' => ?_⟩
        go_simp
        all_goals rfl
      try simp only [Act.put, List.setIfInBounds_toArray, List.set_cons_zero, List.set_cons_succ]
      refine later_take (i := 21) (d := 34) (v := ?_) (by kernel_rfl) (by kernel_rfl) (by kernel_rfl) (by kernel_rfl) (fun _ _ _ h => h) (fun oi hoi => ?_) ?_
      rotate_left
      · simp at hoi
        subst hoi
        refine ⟨by rfl, fun w' hw' => ?_⟩
        have hx := Blk.below (unhide A) hw'
        have x8 := hx.cell 8
        simp only [List.getElem?_toArray, List.getElem?_cons_succ, List.getElem?_cons_zero] at x8
        go_simp
        all_goals rfl
      try simp only [Act.put, List.setIfInBounds_toArray, List.set_cons_zero, List.set_cons_succ]
      refine later_one (i := 18) (by kernel_rfl) (fun oi K hoi hK => ?_)
      simp at hoi
      subst hoi
      refine ⟨by rfl, ?_⟩
      go_simp
      refine (iMakKey_any key _ M.out.2).mono ?_
      rintro e w1 ⟨rfl, hb⟩
      go_simp
      refine hK.out _ _ hb ?_
      clear hK
      replace A := hide ((unhide A).below hb)
      replace R := hide ((unhide R).below hb)
      replace HK := hide ((unhide HK).below hb)
      replace HO := hide ((unhide HO).below hb)
      replace HB := hide (HB.out.trans (hb.mono HB.out.size))
      clear hb
      try simp only [Act.put, List.setIfInBounds_toArray, List.set_cons_zero, List.set_cons_succ]
      refine later_take (i := 22) (d := 35) (v := ?_) (by kernel_rfl) (by kernel_rfl) (by kernel_rfl) (by kernel_rfl) (fun _ _ _ h => h) (fun oi hoi => ?_) ?_
      rotate_left
      · simp at hoi
        subst hoi
        refine ⟨by rfl, fun w' hw' => ?_⟩
        go_simp
        all_goals rfl
      try simp only [Act.put, List.setIfInBounds_toArray, List.set_cons_zero, List.set_cons_succ]
      refine later_take (i := 23) (d := 36) (v := ?_) (by kernel_rfl) (by kernel_rfl) (by kernel_rfl) (by kernel_rfl) (fun _ _ _ h => h) (fun oi hoi => ?_) ?_
      rotate_left
      · simp at hoi
        subst hoi
        refine ⟨by rfl, fun w' hw' => ?_⟩
        go_simp
        all_goals rfl
      try simp only [Act.put, List.setIfInBounds_toArray, List.set_cons_zero, List.set_cons_succ]
      refine later_one (i := 24) (by kernel_rfl) (fun oi K hoi hK => ?_)
      simp at hoi
      subst hoi
      refine ⟨by rfl, ?_⟩
      go_simp
      refine (nothingUnless_f _ _ _).mono ?_
      rintro e w1 ⟨v3, rfl, f3, hb⟩
      replace f3 := hide f3
      go_simp
      refine hK.out _ _ hb ?_
      clear hK
      replace A := hide ((unhide A).below hb)
      replace R := hide ((unhide R).below hb)
      replace HK := hide ((unhide HK).below hb)
      replace HO := hide ((unhide HO).below hb)
      replace HB := hide (HB.out.trans (hb.mono HB.out.size))
      clear hb
      try simp only [Act.put, List.setIfInBounds_toArray, List.set_cons_zero, List.set_cons_succ]
      refine later_one (i := 29) (by kernel_rfl) (fun oi K hoi hK => ?_)
      simp at hoi
      subst hoi
      refine ⟨by rfl, ?_⟩
      go_simp
      refine (mayBeSet_any ss _ FT.out.2.2.2.2.2.2.2).mono ?_
      rintro e w1 ⟨rfl, hb⟩
      go_simp
      refine hK.out _ _ hb ?_
      clear hK
      replace A := hide ((unhide A).below hb)
      replace R := hide ((unhide R).below hb)
      replace HK := hide ((unhide HK).below hb)
      replace HO := hide ((unhide HO).below hb)
      replace HB := hide (HB.out.trans (hb.mono HB.out.size))
      clear hb
      try simp only [Act.put, List.setIfInBounds_toArray, List.set_cons_zero, List.set_cons_succ]
      refine later_one (i := 30) (by kernel_rfl) (fun oi K hoi hK => ?_)
      simp at hoi
      subst hoi
      refine ⟨by rfl, ?_⟩
      go_simp
      refine (nothingUnless_f _ _ _).mono ?_
      rintro e w1 ⟨v4, rfl, f4, hb⟩
      replace f4 := hide f4
      go_simp
      refine hK.out _ _ hb ?_
      clear hK
      replace A := hide ((unhide A).below hb)
      replace R := hide ((unhide R).below hb)
      replace HK := hide ((unhide HK).below hb)
      replace HO := hide ((unhide HO).below hb)
      replace HB := hide (HB.out.trans (hb.mono HB.out.size))
      clear hb
      try simp only [Act.put, List.setIfInBounds_toArray, List.set_cons_zero, List.set_cons_succ]
      refine later_one (i := 31) (by kernel_rfl) (fun oi K hoi hK => ?_)
      simp at hoi
      subst hoi
      refine ⟨by rfl, ?_⟩
      refine wp_build (ps := #[(0, v1), (1, v2), (2, v3), (3, v4)]) rfl (by simp [Act.eval]) (run_errs4 f1.out.1 f2.out.1 f3.out.1 f4.out.1 _) ?_
      refine hK.out _ _ ((Below.refl _ _).alloc (Nat.le_refl _) _) ?_
      clear hK
      have R0 := hide (erow4 (v1 := v1) (v2 := v2) (v3 := v3) (v4 := v4) w1)
      have hb := (Below.refl w1.heap.size w1).alloc (Nat.le_refl _) (.cells #[v1, v2, v3, v4] 67)
      replace A := hide ((unhide A).below hb)
      replace R := hide ((unhide R).below hb)
      replace HK := hide ((unhide HK).below hb)
      replace HO := hide ((unhide HO).below hb)
      replace HB := hide (HB.out.trans (hb.mono HB.out.size))
      clear hb
      try simp only [Act.put, List.setIfInBounds_toArray, List.set_cons_zero, List.set_cons_succ]
      refine later_one (i := 32) (by kernel_rfl) (fun oi K hoi hK => ?_)
      simp at hoi
      subst hoi
      refine ⟨by rfl, ?_⟩
      go_simp
      refine (join_any _ [v1, v2, v3, v4] _ (unhide R0) ?_ (by simp)).mono ?_
      · simp only [List.mem_cons, List.not_mem_nil, or_false, forall_eq_or_imp, forall_eq]
        exact ⟨f1.out.1, f2.out.1, f3.out.1, f4.out.1⟩
      intro e w2 hj
      obtain ⟨ve, rfl, fve⟩ := hj.fv
      have hb := hj.1
      rw [faults4 f1.out f2.out f3.out f4.out, Bool.not_not] at fve
      have FVE := hide fve
      clear hj fve R0
      go_simp
      refine hK.out _ _ hb ?_
      clear hK
      replace A := hide ((unhide A).below hb)
      replace R := hide ((unhide R).below hb)
      replace HK := hide ((unhide HK).below hb)
      replace HO := hide ((unhide HO).below hb)
      replace HB := hide (HB.out.trans (hb.mono HB.out.size))
      clear hb
      try simp only [Act.put, List.setIfInBounds_toArray, List.set_cons_zero, List.set_cons_succ]
      refine later_take (i := 33) (d := 10) (v := ?_) (by kernel_rfl) (by kernel_rfl) (by kernel_rfl) (by kernel_rfl) (fun _ _ _ h => h) (fun oi hoi => ?_) ?_
      rotate_left
      · simp at hoi
        subst hoi
        refine ⟨by rfl, fun w' hw' => ?_⟩
        go_simp
        all_goals rfl
      try simp only [Act.put, List.setIfInBounds_toArray, List.set_cons_zero, List.set_cons_succ]
      refine later_done (by kernel_rfl) ?_ _
      simp only [Bool.and_false, Bool.false_and] at FVE
      have hve := FVE.out
      rcases hve.1 with rfl | ⟨t, x, rfl⟩
      · exact absurd hve.2 (by simp [isF])
      clear hve
      go_wp2_with (refine wpList_store_whole rfl 35 _ _ rfl (w.heap.size + 1) noMem rfl rfl 35 _ (by exact unhide R) info_mm rfl (one_mm _ _ _ _ _ _ _ _ _ _ _) ?_)
      have l2 := load_mm ((unhide R).set noMem) rfl
      refine bodyPost_ret (v := .tuple #[.agg noMem, .iface t x]) (results_cs rfl rfl rfl l2) rfl ?_
      refine ⟨Mem.none, _, _, _, rfl, World.ownsRow_nil _ _ _ _, World.ownsRow_nil _ _ _ _, ⟨.inr ⟨_, _, rfl⟩, ?_⟩, fun q => ?_, below_blk HB.out (by omega) _⟩
      · rw [HF.out]; rfl
      · rw [HF.out] at q; cases q
    · have h62 : ((mkKey leaf).toList == lf.toList) = false := by rw [str_dec]; simpa using h6
      rw [show decide (mkKey leaf = lf) = false by simpa using h6] at HI
      clear h6
      have HF : Hid (joinB who leaf key ⟨se, tag, name, add, rem, lf, keys, boxes, ⟨wk, ik, is, sk, ss⟩⟩ = false) := by show _ = _; rw [← HE.out, HI.out]; simp
      go_enter Tryz.func27, Tryz.ntmps27
      go_wp2_with fail
      refine wp_region_later (by kernel_rfl) ?_
      refine later_take (i := 0) (d := 13) (v := ?_) (by kernel_rfl) (by kernel_rfl) (by kernel_rfl) (by kernel_rfl) (fun _ _ _ h => h) (fun oi hoi => ?_) ?_
      rotate_left
      · simp at hoi
        subst hoi
        refine ⟨by rfl, fun w' hw' => ?_⟩
        have hx := Blk.below (unhide A) hw'
        have x0 := hx.cell 0
        have x1 := hx.cell 1
        have x2 := hx.cell 2
        have x3 := hx.cell 3
        have x4 := hx.cell 4
        have x5 := hx.cell 5
        have x6 := hx.cell 6
        have x7 := hx.cell 7
        have x8 := hx.cell 8
        have x9 := hx.cell 9
        have x10 := hx.cell 10
        have x11 := hx.cell 11
        have x12 := hx.cell 12
        simp only [List.getElem?_toArray, List.getElem?_cons_succ, List.getElem?_cons_zero] at x0 x1 x2 x3 x4 x5 x6 x7 x8 x9 x10 x11 x12
        go_simp
        all_goals rfl
      try simp only [Act.put, List.setIfInBounds_toArray, List.set_cons_zero, List.set_cons_succ]
      refine later_take (i := 2) (d := 15) (v := ?_) (by kernel_rfl) (by kernel_rfl) (by kernel_rfl) (by kernel_rfl) (fun _ _ _ h => h) (fun oi hoi => ?_) ?_
      rotate_left
      · simp at hoi
        subst hoi
        refine ⟨by rfl, fun w' hw' => ?_⟩
        go_simp
        all_goals rfl
      try simp only [Act.put, List.setIfInBounds_toArray, List.set_cons_zero, List.set_cons_succ]
      refine later_take (i := 11) (d := 24) (v := ?_) (by kernel_rfl) (by kernel_rfl) (by kernel_rfl) (by kernel_rfl) (fun _ _ _ h => h) (fun oi hoi => ?_) ?_
      rotate_left
      · simp at hoi
        subst hoi
        refine ⟨by rfl, fun w' hw' => ?_⟩
        go_simp
        all_goals rfl
      try simp only [Act.put, List.setIfInBounds_toArray, List.set_cons_zero, List.set_cons_succ]
      refine later_take (i := 13) (d := 26) (v := ?_) (by kernel_rfl) (by kernel_rfl) (by kernel_rfl) (by kernel_rfl) (fun _ _ _ h => h) (fun oi hoi => ?_) ?_
      rotate_left
      · simp at hoi
        subst hoi
        refine ⟨by rfl, fun w' hw' => ?_⟩
        go_simp
        all_goals rfl
      try simp only [Act.put, List.setIfInBounds_toArray, List.set_cons_zero, List.set_cons_succ]
      refine later_take (i := 14) (d := 27) (v := ?_) (by kernel_rfl) (by kernel_rfl) (by kernel_rfl) (by kernel_rfl) (fun _ _ _ h => h) (fun oi hoi => ?_) ?_
      rotate_left
      · simp at hoi
        subst hoi
        refine ⟨by rfl, fun w' hw' => ?_⟩
        have hx := Blk.below (unhide A) hw'
        have x5 := hx.cell 5
        simp only [List.getElem?_toArray, List.getElem?_cons_succ, List.getElem?_cons_zero] at x5
        go_simp
        all_goals rfl
      try simp only [Act.put, List.setIfInBounds_toArray, List.set_cons_zero, List.set_cons_succ]
      refine later_take (i := 25) (d := 38) (v := ?_) (by kernel_rfl) (by kernel_rfl) (by kernel_rfl) (by kernel_rfl) (fun _ _ _ h => h) (fun oi hoi => ?_) ?_
      rotate_left
      · simp at hoi
        subst hoi
        refine ⟨by rfl, fun w' hw' => ?_⟩
        go_simp
        all_goals rfl
      try simp only [Act.put, List.setIfInBounds_toArray, List.set_cons_zero, List.set_cons_succ]
      refine later_take (i := 26) (d := 39) (v := ?_) (by kernel_rfl) (by kernel_rfl) (by kernel_rfl) (by kernel_rfl) (fun _ _ _ h => h) (fun oi hoi => ?_) ?_
      rotate_left
      · simp at hoi
        subst hoi
        refine ⟨by rfl, fun w' hw' => ?_⟩
        go_simp
        all_goals rfl
      try simp only [Act.put, List.setIfInBounds_toArray, List.set_cons_zero, List.set_cons_succ]
      refine later_take (i := 27) (d := 40) (v := ?_) (by kernel_rfl) (by kernel_rfl) (by kernel_rfl) (by kernel_rfl) (fun _ _ _ h => h) (fun oi hoi => ?_) ?_
      rotate_left
      · simp at hoi
        subst hoi
        refine ⟨by rfl, fun w' hw' => ?_⟩
        go_simp
        all_goals rfl
      try simp only [Act.put, List.setIfInBounds_toArray, List.set_cons_zero, List.set_cons_succ]
      refine later_take (i := 28) (d := 41) (v := ?_) (by kernel_rfl) (by kernel_rfl) (by kernel_rfl) (by kernel_rfl) (fun _ _ _ h => h) (fun oi hoi => ?_) ?_
      rotate_left
      · simp at hoi
        subst hoi
        refine ⟨by rfl, fun w' hw' => ?_⟩
        have hx := Blk.below (unhide A) hw'
        have x12 := hx.cell 12
        simp only [List.getElem?_toArray, List.getElem?_cons_succ, List.getElem?_cons_zero] at x12
        go_simp
        all_goals rfl
      try simp only [Act.put, List.setIfInBounds_toArray, List.set_cons_zero, List.set_cons_succ]
      refine later_one (i := 1) (by kernel_rfl) (fun oi K hoi hK => ?_)
      simp at hoi
      subst hoi
      refine ⟨by rfl, ?_⟩
      go_simp
      refine (commitFaults_f ⟨se, tag, name, add, rem, lf, keys, boxes, ⟨wk, ik, is, sk, ss⟩⟩ _ _ _ (unhide HK) (unhide HO) (unhide FT)).mono ?_
      rintro e w1 ⟨v1, rfl, f1, hb⟩
      replace f1 := hide f1
      go_simp
      refine hK.out _ _ hb ?_
      clear hK
      replace A := hide ((unhide A).below hb)
      replace R := hide ((unhide R).below hb)
      replace HK := hide ((unhide HK).below hb)
      replace HO := hide ((unhide HO).below hb)
      replace HB := hide (HB.out.trans (hb.mono HB.out.size))
      clear hb
      try simp only [Act.put, List.setIfInBounds_toArray, List.set_cons_zero, List.set_cons_succ]
      refine later_one (i := 3) (by kernel_rfl) (fun oi K hoi hK => ?_)
      simp at hoi
      subst hoi
      refine ⟨by rfl, ?_⟩
      go_simp
      refine (isOne_any who _).mono ?_
      rw [H1.out]
      rintro e wz ⟨rfl, rfl⟩
      go_simp
      refine hK.out _ _ (Below.refl _ _) ?_
      clear hK
      try simp only [Act.put, List.setIfInBounds_toArray, List.set_cons_zero, List.set_cons_succ]
      refine later_take (i := 4) (d := 17) (v := ?_) (by kernel_rfl) (by kernel_rfl) (by kernel_rfl) (by kernel_rfl) (fun _ _ _ h => h) (fun oi hoi => ?_) ?_
      rotate_left
      · simp at hoi
        subst hoi
        refine ⟨by rfl, fun w' hw' => ?_⟩
        go_simp
        all_goals rfl
      try simp only [Act.put, List.setIfInBounds_toArray, List.set_cons_zero, List.set_cons_succ]
      refine later_skip (i := 5) (d := 18) (by kernel_rfl) (by kernel_rfl) (by kernel_rfl) (by kernel_rfl) (fun _ _ _ h => h) (by rfl) ?_
      try simp only [Act.put, List.setIfInBounds_toArray, List.set_cons_zero, List.set_cons_succ]
      refine later_skip (i := 6) (d := 19) (by kernel_rfl) (by kernel_rfl) (by kernel_rfl) (by kernel_rfl) (fun _ _ _ h => h) (by rfl) ?_
      try simp only [Act.put, List.setIfInBounds_toArray, List.set_cons_zero, List.set_cons_succ]
      refine later_skip (i := 7) (d := 20) (by kernel_rfl) (by kernel_rfl) (by kernel_rfl) (by kernel_rfl) (fun _ _ _ h => h) (by rfl) ?_
      try simp only [Act.put, List.setIfInBounds_toArray, List.set_cons_zero, List.set_cons_succ]
      refine later_skip (i := 8) (d := 21) (by kernel_rfl) (by kernel_rfl) (by kernel_rfl) (by kernel_rfl) (fun _ _ _ h => h) (by rfl) ?_
      try simp only [Act.put, List.setIfInBounds_toArray, List.set_cons_zero, List.set_cons_succ]
      refine later_take (i := 9) (d := 22) (v := ?_) (by kernel_rfl) (by kernel_rfl) (by kernel_rfl) (by kernel_rfl) (fun _ _ _ h => h) (fun oi hoi => ?_) ?_
      rotate_left
      · simp at hoi
        subst hoi
        refine ⟨by rfl, fun w' hw' => ?_⟩
        go_simp
        all_goals rfl
      try simp only [Act.put, List.setIfInBounds_toArray, List.set_cons_zero, List.set_cons_succ]
      refine later_one (i := 10) (by kernel_rfl) (fun oi K hoi hK => ?_)
      simp at hoi
      subst hoi
      refine ⟨by rfl, ?_⟩
      go_simp
      refine (nothingUnless_f _ _ _).mono ?_
      rintro e w1 ⟨v2, rfl, f2, hb⟩
      replace f2 := hide f2
      go_simp
      refine hK.out _ _ hb ?_
      clear hK
      replace A := hide ((unhide A).below hb)
      replace R := hide ((unhide R).below hb)
      replace HK := hide ((unhide HK).below hb)
      replace HO := hide ((unhide HO).below hb)
      replace HB := hide (HB.out.trans (hb.mono HB.out.size))
      clear hb
      try simp only [Act.put, List.setIfInBounds_toArray, List.set_cons_zero, List.set_cons_succ]
      refine later_one (i := 12) (by kernel_rfl) (fun oi K hoi hK => ?_)
      simp at hoi
      subst hoi
      refine ⟨by rfl, ?_⟩
      go_simp
      refine (iMakKey_any leaf _ M.out.1).mono ?_
      rintro e w1 ⟨rfl, hb⟩
      go_simp
      refine hK.out _ _ hb ?_
      clear hK
      replace A := hide ((unhide A).below hb)
      replace R := hide ((unhide R).below hb)
      replace HK := hide ((unhide HK).below hb)
      replace HO := hide ((unhide HO).below hb)
      replace HB := hide (HB.out.trans (hb.mono HB.out.size))
      clear hb
      try simp only [Act.put, List.setIfInBounds_toArray, List.set_cons_zero, List.set_cons_succ]
      refine later_take (i := 15) (d := 28) (v := ?_) (by kernel_rfl) (by kernel_rfl) (by kernel_rfl) (by kernel_rfl) (fun _ _ _ h => h) (fun oi hoi => ?_) ?_
      rotate_left
      · simp at hoi
        subst hoi
        refine ⟨by rfl, fun w' hw' => ?_⟩
        go_simp
        all_goals rfl
      try simp only [Act.put, List.setIfInBounds_toArray, List.set_cons_zero, List.set_cons_succ]
      refine later_take (i := 16) (d := 29) (v := ?_) (by kernel_rfl) (by kernel_rfl) (by kernel_rfl) (by kernel_rfl) (fun _ _ _ h => h) (fun oi hoi => ?_) ?_
      rotate_left
      · simp at hoi
        subst hoi
        refine ⟨by rfl, fun w' hw' => ?_⟩
        go_simp
        all_goals rfl
      try simp only [Act.put, List.setIfInBounds_toArray, List.set_cons_zero, List.set_cons_succ]
      refine later_skip (i := 17) (d := 30) (by kernel_rfl) (by kernel_rfl) (by kernel_rfl) (by kernel_rfl) (fun _ _ _ h => h) (by rfl) ?_
      try simp only [Act.put, List.setIfInBounds_toArray, List.set_cons_zero, List.set_cons_succ]
      refine later_skip (i := 18) (d := 31) (by kernel_rfl) (by kernel_rfl) (by kernel_rfl) (by kernel_rfl) (fun _ _ _ h => h) (by rfl) ?_
      try simp only [Act.put, List.setIfInBounds_toArray, List.set_cons_zero, List.set_cons_succ]
      refine later_skip (i := 19) (d := 32) (by kernel_rfl) (by kernel_rfl) (by kernel_rfl) (by kernel_rfl) (fun _ _ _ h => h) (by rfl) ?_
      try simp only [Act.put, List.setIfInBounds_toArray, List.set_cons_zero, List.set_cons_succ]
      refine later_skip (i := 20) (d := 33) (by kernel_rfl) (by kernel_rfl) (by kernel_rfl) (by kernel_rfl) (fun _ _ _ h => h) (by rfl) ?_
      try simp only [Act.put, List.setIfInBounds_toArray, List.set_cons_zero, List.set_cons_succ]
      refine later_skip (i := 21) (d := 34) (by kernel_rfl) (by kernel_rfl) (by kernel_rfl) (by kernel_rfl) (fun _ _ _ h => h) (by rfl) ?_
      try simp only [Act.put, List.setIfInBounds_toArray, List.set_cons_zero, List.set_cons_succ]
      refine later_skip (i := 22) (d := 35) (by kernel_rfl) (by kernel_rfl) (by kernel_rfl) (by kernel_rfl) (fun _ _ _ h => h) (by rfl) ?_
      try simp only [Act.put, List.setIfInBounds_toArray, List.set_cons_zero, List.set_cons_succ]
      refine later_take (i := 23) (d := 36) (v := ?_) (by kernel_rfl) (by kernel_rfl) (by kernel_rfl) (by kernel_rfl) (fun _ _ _ h => h) (fun oi hoi => ?_) ?_
      rotate_left
      · simp at hoi
        subst hoi
        refine ⟨by rfl, fun w' hw' => ?_⟩
        go_simp
        all_goals rfl
      try simp only [Act.put, List.setIfInBounds_toArray, List.set_cons_zero, List.set_cons_succ]
      refine later_one (i := 24) (by kernel_rfl) (fun oi K hoi hK => ?_)
      simp at hoi
      subst hoi
      refine ⟨by rfl, ?_⟩
      go_simp
      refine (nothingUnless_f _ _ _).mono ?_
      rintro e w1 ⟨v3, rfl, f3, hb⟩
      replace f3 := hide f3
      go_simp
      refine hK.out _ _ hb ?_
      clear hK
      replace A := hide ((unhide A).below hb)
      replace R := hide ((unhide R).below hb)
      replace HK := hide ((unhide HK).below hb)
      replace HO := hide ((unhide HO).below hb)
      replace HB := hide (HB.out.trans (hb.mono HB.out.size))
      clear hb
      try simp only [Act.put, List.setIfInBounds_toArray, List.set_cons_zero, List.set_cons_succ]
      refine later_one (i := 29) (by kernel_rfl) (fun oi K hoi hK => ?_)
      simp at hoi
      subst hoi
      refine ⟨by rfl, ?_⟩
      go_simp
      refine (mayBeSet_any ss _ FT.out.2.2.2.2.2.2.2).mono ?_
      rintro e w1 ⟨rfl, hb⟩
      go_simp
      refine hK.out _ _ hb ?_
      clear hK
      replace A := hide ((unhide A).below hb)
      replace R := hide ((unhide R).below hb)
      replace HK := hide ((unhide HK).below hb)
      replace HO := hide ((unhide HO).below hb)
      replace HB := hide (HB.out.trans (hb.mono HB.out.size))
      clear hb
      try simp only [Act.put, List.setIfInBounds_toArray, List.set_cons_zero, List.set_cons_succ]
      refine later_one (i := 30) (by kernel_rfl) (fun oi K hoi hK => ?_)
      simp at hoi
      subst hoi
      refine ⟨by rfl, ?_⟩
      go_simp
      refine (nothingUnless_f _ _ _).mono ?_
      rintro e w1 ⟨v4, rfl, f4, hb⟩
      replace f4 := hide f4
      go_simp
      refine hK.out _ _ hb ?_
      clear hK
      replace A := hide ((unhide A).below hb)
      replace R := hide ((unhide R).below hb)
      replace HK := hide ((unhide HK).below hb)
      replace HO := hide ((unhide HO).below hb)
      replace HB := hide (HB.out.trans (hb.mono HB.out.size))
      clear hb
      try simp only [Act.put, List.setIfInBounds_toArray, List.set_cons_zero, List.set_cons_succ]
      refine later_one (i := 31) (by kernel_rfl) (fun oi K hoi hK => ?_)
      simp at hoi
      subst hoi
      refine ⟨by rfl, ?_⟩
      refine wp_build (ps := #[(0, v1), (1, v2), (2, v3), (3, v4)]) rfl (by simp [Act.eval]) (run_errs4 f1.out.1 f2.out.1 f3.out.1 f4.out.1 _) ?_
      refine hK.out _ _ ((Below.refl _ _).alloc (Nat.le_refl _) _) ?_
      clear hK
      have R0 := hide (erow4 (v1 := v1) (v2 := v2) (v3 := v3) (v4 := v4) w1)
      have hb := (Below.refl w1.heap.size w1).alloc (Nat.le_refl _) (.cells #[v1, v2, v3, v4] 67)
      replace A := hide ((unhide A).below hb)
      replace R := hide ((unhide R).below hb)
      replace HK := hide ((unhide HK).below hb)
      replace HO := hide ((unhide HO).below hb)
      replace HB := hide (HB.out.trans (hb.mono HB.out.size))
      clear hb
      try simp only [Act.put, List.setIfInBounds_toArray, List.set_cons_zero, List.set_cons_succ]
      refine later_one (i := 32) (by kernel_rfl) (fun oi K hoi hK => ?_)
      simp at hoi
      subst hoi
      refine ⟨by rfl, ?_⟩
      go_simp
      refine (join_any _ [v1, v2, v3, v4] _ (unhide R0) ?_ (by simp)).mono ?_
      · simp only [List.mem_cons, List.not_mem_nil, or_false, forall_eq_or_imp, forall_eq]
        exact ⟨f1.out.1, f2.out.1, f3.out.1, f4.out.1⟩
      intro e w2 hj
      obtain ⟨ve, rfl, fve⟩ := hj.fv
      have hb := hj.1
      rw [faults4 f1.out f2.out f3.out f4.out, Bool.not_not] at fve
      have FVE := hide fve
      clear hj fve R0
      go_simp
      refine hK.out _ _ hb ?_
      clear hK
      replace A := hide ((unhide A).below hb)
      replace R := hide ((unhide R).below hb)
      replace HK := hide ((unhide HK).below hb)
      replace HO := hide ((unhide HO).below hb)
      replace HB := hide (HB.out.trans (hb.mono HB.out.size))
      clear hb
      try simp only [Act.put, List.setIfInBounds_toArray, List.set_cons_zero, List.set_cons_succ]
      refine later_take (i := 33) (d := 10) (v := ?_) (by kernel_rfl) (by kernel_rfl) (by kernel_rfl) (by kernel_rfl) (fun _ _ _ h => h) (fun oi hoi => ?_) ?_
      rotate_left
      · simp at hoi
        subst hoi
        refine ⟨by rfl, fun w' hw' => ?_⟩
        go_simp
        all_goals rfl
      try simp only [Act.put, List.setIfInBounds_toArray, List.set_cons_zero, List.set_cons_succ]
      refine later_done (by kernel_rfl) ?_ _
      simp only [Bool.and_false, Bool.false_and] at FVE
      have hve := FVE.out
      rcases hve.1 with rfl | ⟨t, x, rfl⟩
      · exact absurd hve.2 (by simp [isF])
      clear hve
      go_wp2_with (refine wpList_store_whole rfl 35 _ _ rfl (w.heap.size + 1) noMem rfl rfl 35 _ (by exact unhide R) info_mm rfl (one_mm _ _ _ _ _ _ _ _ _ _ _) ?_)
      have l2 := load_mm ((unhide R).set noMem) rfl
      refine bodyPost_ret (v := .tuple #[.agg noMem, .iface t x]) (results_cs rfl rfl rfl l2) rfl ?_
      refine ⟨Mem.none, _, _, _, rfl, World.ownsRow_nil _ _ _ _, World.ownsRow_nil _ _ _ _, ⟨.inr ⟨_, _, rfl⟩, ?_⟩, fun q => ?_, below_blk HB.out (by omega) _⟩
      · rw [HF.out]; rfl
      · rw [HF.out] at q; cases q
  | true =>
    by_cases h6 : mkKey leaf = lf
    rotate_left
    · have h62 : ((mkKey leaf).toList == lf.toList) = false := by rw [str_dec]; simpa using h6
      rw [show decide (mkKey leaf = lf) = false by simpa using h6] at HI
      clear h6
      have HF : Hid (joinB who leaf key ⟨se, tag, name, add, rem, lf, keys, boxes, ⟨wk, ik, is, sk, ss⟩⟩ = false) := by show _ = _; rw [← HE.out, HI.out]; simp
      go_enter Tryz.func27, Tryz.ntmps27
      go_wp2_with fail
      refine wp_region_later (by kernel_rfl) ?_
      refine later_take (i := 0) (d := 13) (v := ?_) (by kernel_rfl) (by kernel_rfl) (by kernel_rfl) (by kernel_rfl) (fun _ _ _ h => h) (fun oi hoi => ?_) ?_
      rotate_left
      · simp at hoi
        subst hoi
        refine ⟨by rfl, fun w' hw' => ?_⟩
        have hx := Blk.below (unhide A) hw'
        have x0 := hx.cell 0
        have x1 := hx.cell 1
        have x2 := hx.cell 2
        have x3 := hx.cell 3
        have x4 := hx.cell 4
        have x5 := hx.cell 5
        have x6 := hx.cell 6
        have x7 := hx.cell 7
        have x8 := hx.cell 8
        have x9 := hx.cell 9
        have x10 := hx.cell 10
        have x11 := hx.cell 11
        have x12 := hx.cell 12
        simp only [List.getElem?_toArray, List.getElem?_cons_succ, List.getElem?_cons_zero] at x0 x1 x2 x3 x4 x5 x6 x7 x8 x9 x10 x11 x12
        go_simp
        all_goals rfl
      try simp only [Act.put, List.setIfInBounds_toArray, List.set_cons_zero, List.set_cons_succ]
      refine later_take (i := 2) (d := 15) (v := ?_) (by kernel_rfl) (by kernel_rfl) (by kernel_rfl) (by kernel_rfl) (fun _ _ _ h => h) (fun oi hoi => ?_) ?_
      rotate_left
      · simp at hoi
        subst hoi
        refine ⟨by rfl, fun w' hw' => ?_⟩
        go_simp
        all_goals rfl
      try simp only [Act.put, List.setIfInBounds_toArray, List.set_cons_zero, List.set_cons_succ]
      refine later_take (i := 11) (d := 24) (v := ?_) (by kernel_rfl) (by kernel_rfl) (by kernel_rfl) (by kernel_rfl) (fun _ _ _ h => h) (fun oi hoi => ?_) ?_
      rotate_left
      · simp at hoi
        subst hoi
        refine ⟨by rfl, fun w' hw' => ?_⟩
        go_simp
        all_goals rfl
      try simp only [Act.put, List.setIfInBounds_toArray, List.set_cons_zero, List.set_cons_succ]
      refine later_take (i := 13) (d := 26) (v := ?_) (by kernel_rfl) (by kernel_rfl) (by kernel_rfl) (by kernel_rfl) (fun _ _ _ h => h) (fun oi hoi => ?_) ?_
      rotate_left
      · simp at hoi
        subst hoi
        refine ⟨by rfl, fun w' hw' => ?_⟩
        go_simp
        all_goals rfl
      try simp only [Act.put, List.setIfInBounds_toArray, List.set_cons_zero, List.set_cons_succ]
      refine later_take (i := 14) (d := 27) (v := ?_) (by kernel_rfl) (by kernel_rfl) (by kernel_rfl) (by kernel_rfl) (fun _ _ _ h => h) (fun oi hoi => ?_) ?_
      rotate_left
      · simp at hoi
        subst hoi
        refine ⟨by rfl, fun w' hw' => ?_⟩
        have hx := Blk.below (unhide A) hw'
        have x5 := hx.cell 5
        simp only [List.getElem?_toArray, List.getElem?_cons_succ, List.getElem?_cons_zero] at x5
        go_simp
        all_goals rfl
      try simp only [Act.put, List.setIfInBounds_toArray, List.set_cons_zero, List.set_cons_succ]
      refine later_take (i := 25) (d := 38) (v := ?_) (by kernel_rfl) (by kernel_rfl) (by kernel_rfl) (by kernel_rfl) (fun _ _ _ h => h) (fun oi hoi => ?_) ?_
      rotate_left
      · simp at hoi
        subst hoi
        refine ⟨by rfl, fun w' hw' => ?_⟩
        go_simp
        all_goals rfl
      try simp only [Act.put, List.setIfInBounds_toArray, List.set_cons_zero, List.set_cons_succ]
      refine later_take (i := 26) (d := 39) (v := ?_) (by kernel_rfl) (by kernel_rfl) (by kernel_rfl) (by kernel_rfl) (fun _ _ _ h => h) (fun oi hoi => ?_) ?_
      rotate_left
      · simp at hoi
        subst hoi
        refine ⟨by rfl, fun w' hw' => ?_⟩
        go_simp
        all_goals rfl
      try simp only [Act.put, List.setIfInBounds_toArray, List.set_cons_zero, List.set_cons_succ]
      refine later_take (i := 27) (d := 40) (v := ?_) (by kernel_rfl) (by kernel_rfl) (by kernel_rfl) (by kernel_rfl) (fun _ _ _ h => h) (fun oi hoi => ?_) ?_
      rotate_left
      · simp at hoi
        subst hoi
        refine ⟨by rfl, fun w' hw' => ?_⟩
        go_simp
        all_goals rfl
      try simp only [Act.put, List.setIfInBounds_toArray, List.set_cons_zero, List.set_cons_succ]
      refine later_take (i := 28) (d := 41) (v := ?_) (by kernel_rfl) (by kernel_rfl) (by kernel_rfl) (by kernel_rfl) (fun _ _ _ h => h) (fun oi hoi => ?_) ?_
      rotate_left
      · simp at hoi
        subst hoi
        refine ⟨by rfl, fun w' hw' => ?_⟩
        have hx := Blk.below (unhide A) hw'
        have x12 := hx.cell 12
        simp only [List.getElem?_toArray, List.getElem?_cons_succ, List.getElem?_cons_zero] at x12
        go_simp
        all_goals rfl
      try simp only [Act.put, List.setIfInBounds_toArray, List.set_cons_zero, List.set_cons_succ]
      refine later_one (i := 1) (by kernel_rfl) (fun oi K hoi hK => ?_)
      simp at hoi
      subst hoi
      refine ⟨by rfl, ?_⟩
      go_simp
      refine (commitFaults_f ⟨se, tag, name, add, rem, lf, keys, boxes, ⟨wk, ik, is, sk, ss⟩⟩ _ _ _ (unhide HK) (unhide HO) (unhide FT)).mono ?_
      rintro e w1 ⟨v1, rfl, f1, hb⟩
      replace f1 := hide f1
      go_simp
      refine hK.out _ _ hb ?_
      clear hK
      replace A := hide ((unhide A).below hb)
      replace R := hide ((unhide R).below hb)
      replace HK := hide ((unhide HK).below hb)
      replace HO := hide ((unhide HO).below hb)
      replace HB := hide (HB.out.trans (hb.mono HB.out.size))
      clear hb
      try simp only [Act.put, List.setIfInBounds_toArray, List.set_cons_zero, List.set_cons_succ]
      refine later_one (i := 3) (by kernel_rfl) (fun oi K hoi hK => ?_)
      simp at hoi
      subst hoi
      refine ⟨by rfl, ?_⟩
      go_simp
      refine (isOne_any who _).mono ?_
      rw [H1.out]
      rintro e wz ⟨rfl, rfl⟩
      go_simp
      refine hK.out _ _ (Below.refl _ _) ?_
      clear hK
      try simp only [Act.put, List.setIfInBounds_toArray, List.set_cons_zero, List.set_cons_succ]
      refine later_take (i := 4) (d := 17) (v := ?_) (by kernel_rfl) (by kernel_rfl) (by kernel_rfl) (by kernel_rfl) (fun _ _ _ h => h) (fun oi hoi => ?_) ?_
      rotate_left
      · simp at hoi
        subst hoi
        refine ⟨by rfl, fun w' hw' => ?_⟩
        go_simp
        all_goals rfl
      try simp only [Act.put, List.setIfInBounds_toArray, List.set_cons_zero, List.set_cons_succ]
      refine later_take (i := 5) (d := 18) (v := ?_) (by kernel_rfl) (by kernel_rfl) (by kernel_rfl) (by kernel_rfl) (fun _ _ _ h => h) (fun oi hoi => ?_) ?_
      rotate_left
      · simp at hoi
        subst hoi
        refine ⟨by rfl, fun w' hw' => ?_⟩
        go_simp
        all_goals rfl
      try simp only [Act.put, List.setIfInBounds_toArray, List.set_cons_zero, List.set_cons_succ]
      refine later_take (i := 6) (d := 19) (v := ?_) (by kernel_rfl) (by kernel_rfl) (by kernel_rfl) (by kernel_rfl) (fun _ _ _ h => h) (fun oi hoi => ?_) ?_
      rotate_left
      · simp at hoi
        subst hoi
        refine ⟨by rfl, fun w' hw' => ?_⟩
        have hx := Blk.below (unhide A) hw'
        have x3 := hx.cell 3
        simp only [List.getElem?_toArray, List.getElem?_cons_succ, List.getElem?_cons_zero] at x3
        go_simp
        all_goals rfl
      try simp only [Act.put, List.setIfInBounds_toArray, List.set_cons_zero, List.set_cons_succ]
      refine later_take (i := 7) (d := 20) (v := ?_) (by kernel_rfl) (by kernel_rfl) (by kernel_rfl) (by kernel_rfl) (fun _ _ _ h => h) (fun oi hoi => ?_) ?_
      rotate_left
      · simp at hoi
        subst hoi
        refine ⟨by rfl, fun w' hw' => ?_⟩
        go_simp
        all_goals rfl
      try simp only [Act.put, List.setIfInBounds_toArray, List.set_cons_zero, List.set_cons_succ]
      refine later_take (i := 8) (d := 21) (v := ?_) (by kernel_rfl) (by kernel_rfl) (by kernel_rfl) (by kernel_rfl) (fun _ _ _ h => h) (fun oi hoi => ?_) ?_
      rotate_left
      · simp at hoi
        subst hoi
        refine ⟨by rfl, fun w' hw' => ?_⟩
        go_simp
        all_goals rfl
      try simp only [Act.put, List.setIfInBounds_toArray, List.set_cons_zero, List.set_cons_succ]
      refine later_take (i := 9) (d := 22) (v := ?_) (by kernel_rfl) (by kernel_rfl) (by kernel_rfl) (by kernel_rfl) (fun _ _ _ h => h) (fun oi hoi => ?_) ?_
      rotate_left
      · simp at hoi
        subst hoi
        refine ⟨by rfl, fun w' hw' => ?_⟩
        go_simp
        all_goals rfl
      try simp only [Act.put, List.setIfInBounds_toArray, List.set_cons_zero, List.set_cons_succ]
      refine later_one (i := 10) (by kernel_rfl) (fun oi K hoi hK => ?_)
      simp at hoi
      subst hoi
      refine ⟨by rfl, ?_⟩
      go_simp
      refine (nothingUnless_f _ _ _).mono ?_
      rintro e w1 ⟨v2, rfl, f2, hb⟩
      replace f2 := hide f2
      go_simp
      refine hK.out _ _ hb ?_
      clear hK
      replace A := hide ((unhide A).below hb)
      replace R := hide ((unhide R).below hb)
      replace HK := hide ((unhide HK).below hb)
      replace HO := hide ((unhide HO).below hb)
      replace HB := hide (HB.out.trans (hb.mono HB.out.size))
      clear hb
      try simp only [Act.put, List.setIfInBounds_toArray, List.set_cons_zero, List.set_cons_succ]
      refine later_one (i := 12) (by kernel_rfl) (fun oi K hoi hK => ?_)
      simp at hoi
      subst hoi
      refine ⟨by rfl, ?_⟩
      go_simp
      refine (iMakKey_any leaf _ M.out.1).mono ?_
      rintro e w1 ⟨rfl, hb⟩
      go_simp
      refine hK.out _ _ hb ?_
      clear hK
      replace A := hide ((unhide A).below hb)
      replace R := hide ((unhide R).below hb)
      replace HK := hide ((unhide HK).below hb)
      replace HO := hide ((unhide HO).below hb)
      replace HB := hide (HB.out.trans (hb.mono HB.out.size))
      clear hb
      try simp only [Act.put, List.setIfInBounds_toArray, List.set_cons_zero, List.set_cons_succ]
      refine later_take (i := 15) (d := 28) (v := ?_) (by kernel_rfl) (by kernel_rfl) (by kernel_rfl) (by kernel_rfl) (fun _ _ _ h => h) (fun oi hoi => ?_) ?_
      rotate_left
      · simp at hoi
        subst hoi
        refine ⟨by rfl, fun w' hw' => ?_⟩
        go_simp
        all_goals rfl
      try simp only [Act.put, List.setIfInBounds_toArray, List.set_cons_zero, List.set_cons_succ]
      refine later_take (i := 16) (d := 29) (v := ?_) (by kernel_rfl) (by kernel_rfl) (by kernel_rfl) (by kernel_rfl) (fun _ _ _ h => h) (fun oi hoi => ?_) ?_
      rotate_left
      · simp at hoi
        subst hoi
        refine ⟨by rfl, fun w' hw' => ?_⟩
        go_simp
        all_goals rfl
      try simp only [Act.put, List.setIfInBounds_toArray, List.set_cons_zero, List.set_cons_succ]
      refine later_skip (i := 17) (d := 30) (by kernel_rfl) (by kernel_rfl) (by kernel_rfl) (by kernel_rfl) (fun _ _ _ h => h) (by rfl) ?_
      try simp only [Act.put, List.setIfInBounds_toArray, List.set_cons_zero, List.set_cons_succ]
      refine later_skip (i := 18) (d := 31) (by kernel_rfl) (by kernel_rfl) (by kernel_rfl) (by kernel_rfl) (fun _ _ _ h => h) (by rfl) ?_
      try simp only [Act.put, List.setIfInBounds_toArray, List.set_cons_zero, List.set_cons_succ]
      refine later_skip (i := 19) (d := 32) (by kernel_rfl) (by kernel_rfl) (by kernel_rfl) (by kernel_rfl) (fun _ _ _ h => h) (by rfl) ?_
      try simp only [Act.put, List.setIfInBounds_toArray, List.set_cons_zero, List.set_cons_succ]
      refine later_skip (i := 20) (d := 33) (by kernel_rfl) (by kernel_rfl) (by kernel_rfl) (by kernel_rfl) (fun _ _ _ h => h) (by rfl) ?_
      try simp only [Act.put, List.setIfInBounds_toArray, List.set_cons_zero, List.set_cons_succ]
      refine later_skip (i := 21) (d := 34) (by kernel_rfl) (by kernel_rfl) (by kernel_rfl) (by kernel_rfl) (fun _ _ _ h => h) (by rfl) ?_
      try simp only [Act.put, List.setIfInBounds_toArray, List.set_cons_zero, List.set_cons_succ]
      refine later_skip (i := 22) (d := 35) (by kernel_rfl) (by kernel_rfl) (by kernel_rfl) (by kernel_rfl) (fun _ _ _ h => h) (by rfl) ?_
      try simp only [Act.put, List.setIfInBounds_toArray, List.set_cons_zero, List.set_cons_succ]
      refine later_take (i := 23) (d := 36) (v := ?_) (by kernel_rfl) (by kernel_rfl) (by kernel_rfl) (by kernel_rfl) (fun _ _ _ h => h) (fun oi hoi => ?_) ?_
      rotate_left
      · simp at hoi
        subst hoi
        refine ⟨by rfl, fun w' hw' => ?_⟩
        go_simp
        all_goals rfl
      try simp only [Act.put, List.setIfInBounds_toArray, List.set_cons_zero, List.set_cons_succ]
      refine later_one (i := 24) (by kernel_rfl) (fun oi K hoi hK => ?_)
      simp at hoi
      subst hoi
      refine ⟨by rfl, ?_⟩
      go_simp
      refine (nothingUnless_f _ _ _).mono ?_
      rintro e w1 ⟨v3, rfl, f3, hb⟩
      replace f3 := hide f3
      go_simp
      refine hK.out _ _ hb ?_
      clear hK
      replace A := hide ((unhide A).below hb)
      replace R := hide ((unhide R).below hb)
      replace HK := hide ((unhide HK).below hb)
      replace HO := hide ((unhide HO).below hb)
      replace HB := hide (HB.out.trans (hb.mono HB.out.size))
      clear hb
      try simp only [Act.put, List.setIfInBounds_toArray, List.set_cons_zero, List.set_cons_succ]
      refine later_one (i := 29) (by kernel_rfl) (fun oi K hoi hK => ?_)
      simp at hoi
      subst hoi
      refine ⟨by rfl, ?_⟩
      go_simp
      refine (mayBeSet_any ss _ FT.out.2.2.2.2.2.2.2).mono ?_
      rintro e w1 ⟨rfl, hb⟩
      go_simp
      refine hK.out _ _ hb ?_
      clear hK
      replace A := hide ((unhide A).below hb)
      replace R := hide ((unhide R).below hb)
      replace HK := hide ((unhide HK).below hb)
      replace HO := hide ((unhide HO).below hb)
      replace HB := hide (HB.out.trans (hb.mono HB.out.size))
      clear hb
      try simp only [Act.put, List.setIfInBounds_toArray, List.set_cons_zero, List.set_cons_succ]
      refine later_one (i := 30) (by kernel_rfl) (fun oi K hoi hK => ?_)
      simp at hoi
      subst hoi
      refine ⟨by rfl, ?_⟩
      go_simp
      refine (nothingUnless_f _ _ _).mono ?_
      rintro e w1 ⟨v4, rfl, f4, hb⟩
      replace f4 := hide f4
      go_simp
      refine hK.out _ _ hb ?_
      clear hK
      replace A := hide ((unhide A).below hb)
      replace R := hide ((unhide R).below hb)
      replace HK := hide ((unhide HK).below hb)
      replace HO := hide ((unhide HO).below hb)
      replace HB := hide (HB.out.trans (hb.mono HB.out.size))
      clear hb
      try simp only [Act.put, List.setIfInBounds_toArray, List.set_cons_zero, List.set_cons_succ]
      refine later_one (i := 31) (by kernel_rfl) (fun oi K hoi hK => ?_)
      simp at hoi
      subst hoi
      refine ⟨by rfl, ?_⟩
      refine wp_build (ps := #[(0, v1), (1, v2), (2, v3), (3, v4)]) rfl (by simp [Act.eval]) (run_errs4 f1.out.1 f2.out.1 f3.out.1 f4.out.1 _) ?_
      refine hK.out _ _ ((Below.refl _ _).alloc (Nat.le_refl _) _) ?_
      clear hK
      have R0 := hide (erow4 (v1 := v1) (v2 := v2) (v3 := v3) (v4 := v4) w1)
      have hb := (Below.refl w1.heap.size w1).alloc (Nat.le_refl _) (.cells #[v1, v2, v3, v4] 67)
      replace A := hide ((unhide A).below hb)
      replace R := hide ((unhide R).below hb)
      replace HK := hide ((unhide HK).below hb)
      replace HO := hide ((unhide HO).below hb)
      replace HB := hide (HB.out.trans (hb.mono HB.out.size))
      clear hb
      try simp only [Act.put, List.setIfInBounds_toArray, List.set_cons_zero, List.set_cons_succ]
      refine later_one (i := 32) (by kernel_rfl) (fun oi K hoi hK => ?_)
      simp at hoi
      subst hoi
      refine ⟨by rfl, ?_⟩
      go_simp
      refine (join_any _ [v1, v2, v3, v4] _ (unhide R0) ?_ (by simp)).mono ?_
      · simp only [List.mem_cons, List.not_mem_nil, or_false, forall_eq_or_imp, forall_eq]
        exact ⟨f1.out.1, f2.out.1, f3.out.1, f4.out.1⟩
      intro e w2 hj
      obtain ⟨ve, rfl, fve⟩ := hj.fv
      have hb := hj.1
      rw [faults4 f1.out f2.out f3.out f4.out, Bool.not_not] at fve
      have FVE := hide fve
      clear hj fve R0
      go_simp
      refine hK.out _ _ hb ?_
      clear hK
      replace A := hide ((unhide A).below hb)
      replace R := hide ((unhide R).below hb)
      replace HK := hide ((unhide HK).below hb)
      replace HO := hide ((unhide HO).below hb)
      replace HB := hide (HB.out.trans (hb.mono HB.out.size))
      clear hb
      try simp only [Act.put, List.setIfInBounds_toArray, List.set_cons_zero, List.set_cons_succ]
      refine later_take (i := 33) (d := 10) (v := ?_) (by kernel_rfl) (by kernel_rfl) (by kernel_rfl) (by kernel_rfl) (fun _ _ _ h => h) (fun oi hoi => ?_) ?_
      rotate_left
      · simp at hoi
        subst hoi
        refine ⟨by rfl, fun w' hw' => ?_⟩
        go_simp
        all_goals rfl
      try simp only [Act.put, List.setIfInBounds_toArray, List.set_cons_zero, List.set_cons_succ]
      refine later_done (by kernel_rfl) ?_ _
      simp only [Bool.and_false, Bool.false_and] at FVE
      have hve := FVE.out
      rcases hve.1 with rfl | ⟨t, x, rfl⟩
      · exact absurd hve.2 (by simp [isF])
      clear hve
      go_wp2_with (refine wpList_store_whole rfl 35 _ _ rfl (w.heap.size + 1) noMem rfl rfl 35 _ (by exact unhide R) info_mm rfl (one_mm _ _ _ _ _ _ _ _ _ _ _) ?_)
      have l2 := load_mm ((unhide R).set noMem) rfl
      refine bodyPost_ret (v := .tuple #[.agg noMem, .iface t x]) (results_cs rfl rfl rfl l2) rfl ?_
      refine ⟨Mem.none, _, _, _, rfl, World.ownsRow_nil _ _ _ _, World.ownsRow_nil _ _ _ _, ⟨.inr ⟨_, _, rfl⟩, ?_⟩, fun q => ?_, below_blk HB.out (by omega) _⟩
      · rw [HF.out]; rfl
      · rw [HF.out] at q; cases q
    have h62 : ((mkKey leaf).toList == lf.toList) = true := by rw [str_dec]; simpa using h6
    rw [show decide (mkKey leaf = lf) = true by simpa using h6] at HI
    clear h6
    go_enter Tryz.func27, Tryz.ntmps27
    go_wp2_with fail
    refine wp_region_later (by kernel_rfl) ?_
    refine later_take (i := 0) (d := 13) (v := ?_) (by kernel_rfl) (by kernel_rfl) (by kernel_rfl) (by kernel_rfl) (fun _ _ _ h => h) (fun oi hoi => ?_) ?_
    rotate_left
    · simp at hoi
      subst hoi
      refine ⟨by rfl, fun w' hw' => ?_⟩
      have hx := Blk.below (unhide A) hw'
      have x0 := hx.cell 0
      have x1 := hx.cell 1
      have x2 := hx.cell 2
      have x3 := hx.cell 3
      have x4 := hx.cell 4
      have x5 := hx.cell 5
      have x6 := hx.cell 6
      have x7 := hx.cell 7
      have x8 := hx.cell 8
      have x9 := hx.cell 9
      have x10 := hx.cell 10
      have x11 := hx.cell 11
      have x12 := hx.cell 12
      simp only [List.getElem?_toArray, List.getElem?_cons_succ, List.getElem?_cons_zero] at x0 x1 x2 x3 x4 x5 x6 x7 x8 x9 x10 x11 x12
      go_simp
      all_goals rfl
    try simp only [Act.put, List.setIfInBounds_toArray, List.set_cons_zero, List.set_cons_succ]
    refine later_take (i := 2) (d := 15) (v := ?_) (by kernel_rfl) (by kernel_rfl) (by kernel_rfl) (by kernel_rfl) (fun _ _ _ h => h) (fun oi hoi => ?_) ?_
    rotate_left
    · simp at hoi
      subst hoi
      refine ⟨by rfl, fun w' hw' => ?_⟩
      go_simp
      all_goals rfl
    try simp only [Act.put, List.setIfInBounds_toArray, List.set_cons_zero, List.set_cons_succ]
    refine later_take (i := 11) (d := 24) (v := ?_) (by kernel_rfl) (by kernel_rfl) (by kernel_rfl) (by kernel_rfl) (fun _ _ _ h => h) (fun oi hoi => ?_) ?_
    rotate_left
    · simp at hoi
      subst hoi
      refine ⟨by rfl, fun w' hw' => ?_⟩
      go_simp
      all_goals rfl
    try simp only [Act.put, List.setIfInBounds_toArray, List.set_cons_zero, List.set_cons_succ]
    refine later_take (i := 13) (d := 26) (v := ?_) (by kernel_rfl) (by kernel_rfl) (by kernel_rfl) (by kernel_rfl) (fun _ _ _ h => h) (fun oi hoi => ?_) ?_
    rotate_left
    · simp at hoi
      subst hoi
      refine ⟨by rfl, fun w' hw' => ?_⟩
      go_simp
      all_goals rfl
    try simp only [Act.put, List.setIfInBounds_toArray, List.set_cons_zero, List.set_cons_succ]
    refine later_take (i := 14) (d := 27) (v := ?_) (by kernel_rfl) (by kernel_rfl) (by kernel_rfl) (by kernel_rfl) (fun _ _ _ h => h) (fun oi hoi => ?_) ?_
    rotate_left
    · simp at hoi
      subst hoi
      refine ⟨by rfl, fun w' hw' => ?_⟩
      have hx := Blk.below (unhide A) hw'
      have x5 := hx.cell 5
      simp only [List.getElem?_toArray, List.getElem?_cons_succ, List.getElem?_cons_zero] at x5
      go_simp
      all_goals rfl
    try simp only [Act.put, List.setIfInBounds_toArray, List.set_cons_zero, List.set_cons_succ]
    refine later_take (i := 25) (d := 38) (v := ?_) (by kernel_rfl) (by kernel_rfl) (by kernel_rfl) (by kernel_rfl) (fun _ _ _ h => h) (fun oi hoi => ?_) ?_
    rotate_left
    · simp at hoi
      subst hoi
      refine ⟨by rfl, fun w' hw' => ?_⟩
      go_simp
      all_goals rfl
    try simp only [Act.put, List.setIfInBounds_toArray, List.set_cons_zero, List.set_cons_succ]
    refine later_take (i := 26) (d := 39) (v := ?_) (by kernel_rfl) (by kernel_rfl) (by kernel_rfl) (by kernel_rfl) (fun _ _ _ h => h) (fun oi hoi => ?_) ?_
    rotate_left
    · simp at hoi
      subst hoi
      refine ⟨by rfl, fun w' hw' => ?_⟩
      go_simp
      all_goals rfl
    try simp only [Act.put, List.setIfInBounds_toArray, List.set_cons_zero, List.set_cons_succ]
    refine later_take (i := 27) (d := 40) (v := ?_) (by kernel_rfl) (by kernel_rfl) (by kernel_rfl) (by kernel_rfl) (fun _ _ _ h => h) (fun oi hoi => ?_) ?_
    rotate_left
    · simp at hoi
      subst hoi
      refine ⟨by rfl, fun w' hw' => ?_⟩
      go_simp
      all_goals rfl
    try simp only [Act.put, List.setIfInBounds_toArray, List.set_cons_zero, List.set_cons_succ]
    refine later_take (i := 28) (d := 41) (v := ?_) (by kernel_rfl) (by kernel_rfl) (by kernel_rfl) (by kernel_rfl) (fun _ _ _ h => h) (fun oi hoi => ?_) ?_
    rotate_left
    · simp at hoi
      subst hoi
      refine ⟨by rfl, fun w' hw' => ?_⟩
      have hx := Blk.below (unhide A) hw'
      have x12 := hx.cell 12
      simp only [List.getElem?_toArray, List.getElem?_cons_succ, List.getElem?_cons_zero] at x12
      go_simp
      all_goals rfl
    try simp only [Act.put, List.setIfInBounds_toArray, List.set_cons_zero, List.set_cons_succ]
    refine later_one (i := 1) (by kernel_rfl) (fun oi K hoi hK => ?_)
    simp at hoi
    subst hoi
    refine ⟨by rfl, ?_⟩
    go_simp
    refine (commitFaults_f ⟨se, tag, name, add, rem, lf, keys, boxes, ⟨wk, ik, is, sk, ss⟩⟩ _ _ _ (unhide HK) (unhide HO) (unhide FT)).mono ?_
    rintro e w1 ⟨v1, rfl, f1, hb⟩
    replace f1 := hide f1
    go_simp
    refine hK.out _ _ hb ?_
    clear hK
    replace A := hide ((unhide A).below hb)
    replace R := hide ((unhide R).below hb)
    replace HK := hide ((unhide HK).below hb)
    replace HO := hide ((unhide HO).below hb)
    replace HB := hide (HB.out.trans (hb.mono HB.out.size))
    clear hb
    try simp only [Act.put, List.setIfInBounds_toArray, List.set_cons_zero, List.set_cons_succ]
    refine later_one (i := 3) (by kernel_rfl) (fun oi K hoi hK => ?_)
    simp at hoi
    subst hoi
    refine ⟨by rfl, ?_⟩
    go_simp
    refine (isOne_any who _).mono ?_
    rw [H1.out]
    rintro e wz ⟨rfl, rfl⟩
    go_simp
    refine hK.out _ _ (Below.refl _ _) ?_
    clear hK
    try simp only [Act.put, List.setIfInBounds_toArray, List.set_cons_zero, List.set_cons_succ]
    refine later_take (i := 4) (d := 17) (v := ?_) (by kernel_rfl) (by kernel_rfl) (by kernel_rfl) (by kernel_rfl) (fun _ _ _ h => h) (fun oi hoi => ?_) ?_
    rotate_left
    · simp at hoi
      subst hoi
      refine ⟨by rfl, fun w' hw' => ?_⟩
      go_simp
      all_goals rfl
    try simp only [Act.put, List.setIfInBounds_toArray, List.set_cons_zero, List.set_cons_succ]
    refine later_take (i := 5) (d := 18) (v := ?_) (by kernel_rfl) (by kernel_rfl) (by kernel_rfl) (by kernel_rfl) (fun _ _ _ h => h) (fun oi hoi => ?_) ?_
    rotate_left
    · simp at hoi
      subst hoi
      refine ⟨by rfl, fun w' hw' => ?_⟩
      go_simp
      all_goals rfl
    try simp only [Act.put, List.setIfInBounds_toArray, List.set_cons_zero, List.set_cons_succ]
    refine later_take (i := 6) (d := 19) (v := ?_) (by kernel_rfl) (by kernel_rfl) (by kernel_rfl) (by kernel_rfl) (fun _ _ _ h => h) (fun oi hoi => ?_) ?_
    rotate_left
    · simp at hoi
      subst hoi
      refine ⟨by rfl, fun w' hw' => ?_⟩
      have hx := Blk.below (unhide A) hw'
      have x3 := hx.cell 3
      simp only [List.getElem?_toArray, List.getElem?_cons_succ, List.getElem?_cons_zero] at x3
      go_simp
      all_goals rfl
    try simp only [Act.put, List.setIfInBounds_toArray, List.set_cons_zero, List.set_cons_succ]
    refine later_take (i := 7) (d := 20) (v := ?_) (by kernel_rfl) (by kernel_rfl) (by kernel_rfl) (by kernel_rfl) (fun _ _ _ h => h) (fun oi hoi => ?_) ?_
    rotate_left
    · simp at hoi
      subst hoi
      refine ⟨by rfl, fun w' hw' => ?_⟩
      go_simp
      all_goals rfl
    try simp only [Act.put, List.setIfInBounds_toArray, List.set_cons_zero, List.set_cons_succ]
    refine later_take (i := 8) (d := 21) (v := ?_) (by kernel_rfl) (by kernel_rfl) (by kernel_rfl) (by kernel_rfl) (fun _ _ _ h => h) (fun oi hoi => ?_) ?_
    rotate_left
    · simp at hoi
      subst hoi
      refine ⟨by rfl, fun w' hw' => ?_⟩
      go_simp
      all_goals rfl
    try simp only [Act.put, List.setIfInBounds_toArray, List.set_cons_zero, List.set_cons_succ]
    refine later_take (i := 9) (d := 22) (v := ?_) (by kernel_rfl) (by kernel_rfl) (by kernel_rfl) (by kernel_rfl) (fun _ _ _ h => h) (fun oi hoi => ?_) ?_
    rotate_left
    · simp at hoi
      subst hoi
      refine ⟨by rfl, fun w' hw' => ?_⟩
      go_simp
      all_goals rfl
    try simp only [Act.put, List.setIfInBounds_toArray, List.set_cons_zero, List.set_cons_succ]
    refine later_one (i := 10) (by kernel_rfl) (fun oi K hoi hK => ?_)
    simp at hoi
    subst hoi
    refine ⟨by rfl, ?_⟩
    go_simp
    refine (nothingUnless_f _ _ _).mono ?_
    rintro e w1 ⟨v2, rfl, f2, hb⟩
    replace f2 := hide f2
    go_simp
    refine hK.out _ _ hb ?_
    clear hK
    replace A := hide ((unhide A).below hb)
    replace R := hide ((unhide R).below hb)
    replace HK := hide ((unhide HK).below hb)
    replace HO := hide ((unhide HO).below hb)
    replace HB := hide (HB.out.trans (hb.mono HB.out.size))
    clear hb
    try simp only [Act.put, List.setIfInBounds_toArray, List.set_cons_zero, List.set_cons_succ]
    refine later_one (i := 12) (by kernel_rfl) (fun oi K hoi hK => ?_)
    simp at hoi
    subst hoi
    refine ⟨by rfl, ?_⟩
    go_simp
    refine (iMakKey_any leaf _ M.out.1).mono ?_
    rintro e w1 ⟨rfl, hb⟩
    go_simp
    refine hK.out _ _ hb ?_
    clear hK
    replace A := hide ((unhide A).below hb)
    replace R := hide ((unhide R).below hb)
    replace HK := hide ((unhide HK).below hb)
    replace HO := hide ((unhide HO).below hb)
    replace HB := hide (HB.out.trans (hb.mono HB.out.size))
    clear hb
    try simp only [Act.put, List.setIfInBounds_toArray, List.set_cons_zero, List.set_cons_succ]
    refine later_take (i := 15) (d := 28) (v := ?_) (by kernel_rfl) (by kernel_rfl) (by kernel_rfl) (by kernel_rfl) (fun _ _ _ h => h) (fun oi hoi => ?_) ?_
    rotate_left
    · simp at hoi
      subst hoi
      refine ⟨by rfl, fun w' hw' => ?_⟩
      go_simp
      all_goals rfl
    try simp only [Act.put, List.setIfInBounds_toArray, List.set_cons_zero, List.set_cons_succ]
    refine later_take (i := 16) (d := 29) (v := ?_) (by kernel_rfl) (by kernel_rfl) (by kernel_rfl) (by kernel_rfl) (fun _ _ _ h => h) (fun oi hoi => ?_) ?_
    rotate_left
    · simp at hoi
      subst hoi
      refine ⟨by rfl, fun w' hw' => ?_⟩
      go_simp
      all_goals rfl
    try simp only [Act.put, List.setIfInBounds_toArray, List.set_cons_zero, List.set_cons_succ]
    refine later_take (i := 17) (d := 30) (v := ?_) (by kernel_rfl) (by kernel_rfl) (by kernel_rfl) (by kernel_rfl) (fun _ _ _ h => h) (fun oi hoi => ?_) ?_
    rotate_left
    · simp at hoi
      subst hoi
      refine ⟨by rfl, fun w' hw' => ?_⟩
      go_simp
      all_goals rfl
    try simp only [Act.put, List.setIfInBounds_toArray, List.set_cons_zero, List.set_cons_succ]
    refine later_take (i := 19) (d := 32) (v := ?_) (by kernel_rfl) (by kernel_rfl) (by kernel_rfl) (by kernel_rfl) (fun _ _ _ h => h) (fun oi hoi => ?_) ?_
    rotate_left
    · simp at hoi
      subst hoi
      refine ⟨by rfl, fun w' hw' => ?_⟩
      go_simp
      all_goals rfl
    try simp only [Act.put, List.setIfInBounds_toArray, List.set_cons_zero, List.set_cons_succ]
    refine later_take (i := 20) (d := 33) (v := ?_) (by kernel_rfl) (by kernel_rfl) (by kernel_rfl) (by kernel_rfl) (fun _ _ _ h => h) (fun oi hoi => ?_) ?_
    rotate_left
    · simp at hoi
      subst hoi
      refine ⟨by rfl, fun w' hw' => ?_⟩
      go_simp
      all_goals rfl
    try simp only [Act.put, List.setIfInBounds_toArray, List.set_cons_zero, List.set_cons_succ]
    refine later_take (i := 21) (d := 34) (v := ?_) (by kernel_rfl) (by kernel_rfl) (by kernel_rfl) (by kernel_rfl) (fun _ _ _ h => h) (fun oi hoi => ?_) ?_
    rotate_left
    · simp at hoi
      subst hoi
      refine ⟨by rfl, fun w' hw' => ?_⟩
      have hx := Blk.below (unhide A) hw'
      have x8 := hx.cell 8
      simp only [List.getElem?_toArray, List.getElem?_cons_succ, List.getElem?_cons_zero] at x8
      go_simp
      all_goals rfl
    try simp only [Act.put, List.setIfInBounds_toArray, List.set_cons_zero, List.set_cons_succ]
    refine later_one (i := 18) (by kernel_rfl) (fun oi K hoi hK => ?_)
    simp at hoi
    subst hoi
    refine ⟨by rfl, ?_⟩
    go_simp
    refine (iMakKey_any key _ M.out.2).mono ?_
    rintro e w1 ⟨rfl, hb⟩
    go_simp
    refine hK.out _ _ hb ?_
    clear hK
    replace A := hide ((unhide A).below hb)
    replace R := hide ((unhide R).below hb)
    replace HK := hide ((unhide HK).below hb)
    replace HO := hide ((unhide HO).below hb)
    replace HB := hide (HB.out.trans (hb.mono HB.out.size))
    clear hb
    try simp only [Act.put, List.setIfInBounds_toArray, List.set_cons_zero, List.set_cons_succ]
    refine later_take (i := 22) (d := 35) (v := ?_) (by kernel_rfl) (by kernel_rfl) (by kernel_rfl) (by kernel_rfl) (fun _ _ _ h => h) (fun oi hoi => ?_) ?_
    rotate_left
    · simp at hoi
      subst hoi
      refine ⟨by rfl, fun w' hw' => ?_⟩
      go_simp
      all_goals rfl
    try simp only [Act.put, List.setIfInBounds_toArray, List.set_cons_zero, List.set_cons_succ]
    refine later_take (i := 23) (d := 36) (v := ?_) (by kernel_rfl) (by kernel_rfl) (by kernel_rfl) (by kernel_rfl) (fun _ _ _ h => h) (fun oi hoi => ?_) ?_
    rotate_left
    · simp at hoi
      subst hoi
      refine ⟨by rfl, fun w' hw' => ?_⟩
      go_simp
      all_goals rfl
    try simp only [Act.put, List.setIfInBounds_toArray, List.set_cons_zero, List.set_cons_succ]
    refine later_one (i := 24) (by kernel_rfl) (fun oi K hoi hK => ?_)
    simp at hoi
    subst hoi
    refine ⟨by rfl, ?_⟩
    go_simp
    refine (nothingUnless_f _ _ _).mono ?_
    rintro e w1 ⟨v3, rfl, f3, hb⟩
    replace f3 := hide f3
    go_simp
    refine hK.out _ _ hb ?_
    clear hK
    replace A := hide ((unhide A).below hb)
    replace R := hide ((unhide R).below hb)
    replace HK := hide ((unhide HK).below hb)
    replace HO := hide ((unhide HO).below hb)
    replace HB := hide (HB.out.trans (hb.mono HB.out.size))
    clear hb
    try simp only [Act.put, List.setIfInBounds_toArray, List.set_cons_zero, List.set_cons_succ]
    refine later_one (i := 29) (by kernel_rfl) (fun oi K hoi hK => ?_)
    simp at hoi
    subst hoi
    refine ⟨by rfl, ?_⟩
    go_simp
    refine (mayBeSet_any ss _ FT.out.2.2.2.2.2.2.2).mono ?_
    rintro e w1 ⟨rfl, hb⟩
    go_simp
    refine hK.out _ _ hb ?_
    clear hK
    replace A := hide ((unhide A).below hb)
    replace R := hide ((unhide R).below hb)
    replace HK := hide ((unhide HK).below hb)
    replace HO := hide ((unhide HO).below hb)
    replace HB := hide (HB.out.trans (hb.mono HB.out.size))
    clear hb
    try simp only [Act.put, List.setIfInBounds_toArray, List.set_cons_zero, List.set_cons_succ]
    refine later_one (i := 30) (by kernel_rfl) (fun oi K hoi hK => ?_)
    simp at hoi
    subst hoi
    refine ⟨by rfl, ?_⟩
    go_simp
    refine (nothingUnless_f _ _ _).mono ?_
    rintro e w1 ⟨v4, rfl, f4, hb⟩
    replace f4 := hide f4
    go_simp
    refine hK.out _ _ hb ?_
    clear hK
    replace A := hide ((unhide A).below hb)
    replace R := hide ((unhide R).below hb)
    replace HK := hide ((unhide HK).below hb)
    replace HO := hide ((unhide HO).below hb)
    replace HB := hide (HB.out.trans (hb.mono HB.out.size))
    clear hb
    try simp only [Act.put, List.setIfInBounds_toArray, List.set_cons_zero, List.set_cons_succ]
    refine later_one (i := 31) (by kernel_rfl) (fun oi K hoi hK => ?_)
    simp at hoi
    subst hoi
    refine ⟨by rfl, ?_⟩
    refine wp_build (ps := #[(0, v1), (1, v2), (2, v3), (3, v4)]) rfl (by simp [Act.eval]) (run_errs4 f1.out.1 f2.out.1 f3.out.1 f4.out.1 _) ?_
    refine hK.out _ _ ((Below.refl _ _).alloc (Nat.le_refl _) _) ?_
    clear hK
    have R0 := hide (erow4 (v1 := v1) (v2 := v2) (v3 := v3) (v4 := v4) w1)
    have hb := (Below.refl w1.heap.size w1).alloc (Nat.le_refl _) (.cells #[v1, v2, v3, v4] 67)
    replace A := hide ((unhide A).below hb)
    replace R := hide ((unhide R).below hb)
    replace HK := hide ((unhide HK).below hb)
    replace HO := hide ((unhide HO).below hb)
    replace HB := hide (HB.out.trans (hb.mono HB.out.size))
    clear hb
    try simp only [Act.put, List.setIfInBounds_toArray, List.set_cons_zero, List.set_cons_succ]
    refine later_one (i := 32) (by kernel_rfl) (fun oi K hoi hK => ?_)
    simp at hoi
    subst hoi
    refine ⟨by rfl, ?_⟩
    go_simp
    refine (join_any _ [v1, v2, v3, v4] _ (unhide R0) ?_ (by simp)).mono ?_
    · simp only [List.mem_cons, List.not_mem_nil, or_false, forall_eq_or_imp, forall_eq]
      exact ⟨f1.out.1, f2.out.1, f3.out.1, f4.out.1⟩
    intro e w2 hj
    obtain ⟨ve, rfl, fve⟩ := hj.fv
    have hb := hj.1
    rw [faults4 f1.out f2.out f3.out f4.out, Bool.not_not] at fve
    have FVE := hide fve
    clear hj fve R0
    go_simp
    refine hK.out _ _ hb ?_
    clear hK
    replace A := hide ((unhide A).below hb)
    replace R := hide ((unhide R).below hb)
    replace HK := hide ((unhide HK).below hb)
    replace HO := hide ((unhide HO).below hb)
    replace HB := hide (HB.out.trans (hb.mono HB.out.size))
    clear hb
    try simp only [Act.put, List.setIfInBounds_toArray, List.set_cons_zero, List.set_cons_succ]
    refine later_take (i := 33) (d := 10) (v := ?_) (by kernel_rfl) (by kernel_rfl) (by kernel_rfl) (by kernel_rfl) (fun _ _ _ h => h) (fun oi hoi => ?_) ?_
    rotate_left
    · simp at hoi
      subst hoi
      refine ⟨by rfl, fun w' hw' => ?_⟩
      go_simp
      all_goals rfl
    try simp only [Act.put, List.setIfInBounds_toArray, List.set_cons_zero, List.set_cons_succ]
    refine later_done (by kernel_rfl) ?_ _
    have HI2 : Hid (joinI who leaf key ⟨se, tag, name, add, rem, lf, keys, boxes, ⟨wk, ik, is, sk, ss⟩⟩ = (cmtOk ⟨se, tag, name, add, rem, lf, keys, boxes, ⟨wk, ik, is, sk, ss⟩⟩ && (add == who) && ((mkKey key).toList == wk.toList) && maySet ss)) := by
      show _ = _
      rw [HI.out, str_dec, show (add == who) = decide (add = who) by rw [Bool.eq_iff_iff]; simp]
      simp only [Bool.true_and]
    rw [← HI2.out] at FVE
    obtain ⟨ji, hji⟩ : ∃ ji, joinI who leaf key ⟨se, tag, name, add, rem, lf, keys, boxes, ⟨wk, ik, is, sk, ss⟩⟩ = ji := ⟨_, rfl⟩
    rw [hji] at FVE HI2 HE
    clear hji
    cases ji with
    | false =>
      have HF : Hid (joinB who leaf key ⟨se, tag, name, add, rem, lf, keys, boxes, ⟨wk, ik, is, sk, ss⟩⟩ = false) := by show _ = _; rw [← HE.out]; rfl
      clear HI HI2
      have hve := FVE.out
      rcases hve.1 with rfl | ⟨t, x, rfl⟩
      · exact absurd hve.2 (by simp [isF])
      clear hve
      go_wp2_with (refine wpList_store_whole rfl 35 _ _ rfl (w.heap.size + 1) noMem rfl rfl 35 _ (by exact unhide R) info_mm rfl (one_mm _ _ _ _ _ _ _ _ _ _ _) ?_)
      have l2 := load_mm ((unhide R).set noMem) rfl
      refine bodyPost_ret (v := .tuple #[.agg noMem, .iface t x]) (results_cs rfl rfl rfl l2) rfl ?_
      refine ⟨Mem.none, _, _, _, rfl, World.ownsRow_nil _ _ _ _, World.ownsRow_nil _ _ _ _, ⟨.inr ⟨_, _, rfl⟩, ?_⟩, fun q => ?_, below_blk HB.out (by omega) _⟩
      · rw [HF.out]; rfl
      · rw [HF.out] at q; cases q
    | true =>
      have hve := FVE.out
      rcases hve.1 with rfl | ⟨t, x, rfl⟩
      rotate_left
      · exact absurd hve.2 (by simp [isF])
      clear hve FVE
      rw [Bool.true_and] at HE
      have hq := HI2.out.symm
      simp only [Bool.and_eq_true, beq_iff_eq] at hq
      have HCM : Hid (cmtOk ⟨se, tag, name, add, rem, lf, keys, boxes, ⟨wk, ik, is, sk, ss⟩⟩ = true) := hq.1.1.1
      have HAW : Hid (add = who) := hq.1.1.2
      have hms : maySet ss = true := hq.2
      unfold maySet at hms
      simp only [Bool.and_eq_true, decide_eq_true_eq] at hms
      have HSS : Hid (ss.size ≤ 292) := hms.2
      have hwb := H1.out
      unfold oneB at hwb
      simp only [Bool.and_eq_true, decide_eq_true_eq] at hwb
      have HWB := hide hwb
      have HLF : Hid (leaf.size < 300) := by
        refine key_fits ?_
        rw [toList_eq.1 h62]
        exact (cmtOk_keysOf HCM.out (by show 0 ≤ add; rw [HAW.out]; omega)).1
      have hkl : keys.length = 15 := (treOk_iff.1 (cmtOk_keys HCM.out)).1
      have HKL := hide hkl
      have HKS := hide (treOk_le (cmtOk_keys HCM.out))
      have HSE : Hid (0 ≤ se ∧ se ≤ 7) := cmtOk_sender HCM.out
      have HTG : Hid (tag.size + name.size ≤ 300) := cmtOk_tag HCM.out
      obtain ⟨np, hnp, hmp⟩ := meet_place HWB.out HSE.out
      have HMP := hide hmp
      have HNP := hide hnp
      have hisz := (cmtOk_wel HCM.out (by show 0 ≤ add; rw [HAW.out]; omega)).1
      have HIS : Hid (is.size ≤ 300) := okB_le hisz
      clear hq hms hwb hnp hmp hkl hisz h62 HI HI2
      obtain ⟨i1, hi, hz0, hz1, hz2⟩ := info_parts info_mo
      have hJ := hide (And.intro hi (And.intro hz0 (And.intro hz1 hz2)))
      clear hi hz0 hz1 hz2
      go_wp2_with fail
      refine (iTreLeaf_any who _).mono ?_
      rintro e wz ⟨rfl, rfl⟩
      go_wp2_with fail
      refine (cloneOwn_any (leafOf who) leaf _ (by have := HLF.out; omega)).mono ?_
      rintro e w3 ⟨rfl, hb⟩
      replace A := hide ((unhide A).below hb)
      replace R := hide ((unhide R).below hb)
      replace HK := hide ((unhide HK).below hb)
      replace HO := hide ((unhide HO).below hb)
      replace HB := hide (HB.out.trans (hb.mono HB.out.size))
      clear hb
      have hs3 := HB.out.size
      have OL : Hid ((w3.alloc (.cells #[.int .i64 (leafOf who), .string leaf] 60)).ownsRow w.heap.size 60 2 (.slice (some ⟨w3.heap.size, 0, none⟩) 1 1) 1 [.int .i64 (leafOf who), .string leaf]) := World.ownsRow_lit (base := w.heap.size) (e := 60) (size := 2) w3 #[.int .i64 (leafOf who), .string leaf] 1 hs3 (by unfold maxLen; omega) rfl
      have hb := (Below.refl w3.heap.size w3).alloc (Nat.le_refl _) (.cells #[.int .i64 (leafOf who), .string leaf] 60)
      replace A := hide ((unhide A).below hb)
      replace R := hide ((unhide R).below hb)
      replace HK := hide ((unhide HK).below hb)
      replace HB := hide (HB.out.trans (hb.mono HB.out.size))
      clear hb
      clear HO
      go_wp2_with fail
      have hpl : (pathOf (chainOf (np : Int)) ss).length ≤ 4 := by rw [pathOf_len]; exact chain_len np HNP.out
      have HJO : Hid (joinOwn who leaf ⟨se, tag, name, add, rem, lf, keys, boxes, ⟨wk, ik, is, sk, ss⟩⟩ = (leafOf who, leaf) :: pathOf (chainOf (np : Int)) ss) := by show _ = _; unfold joinOwn; simp only; rw [HMP.out]
      have HPS : Hid (∀ o ∈ pathOf (chainOf (np : Int)) ss, o.2.size ≤ 300) := path_le _ _ (by have := HSS.out; omega)
      have HCU : Hid (∀ u : World, Calls Tryz.prog 61 #[.int .i64 (np : Int), .string ss] u fun e W' => ∃ v, e = .returned v ∧ OwnM u.heap.size W' v (pathOf (chainOf (np : Int)) ss) ∧ Below u.heap.size u W') := fun u => ownUpward_any (np : Int) ss (by have := HSS.out; omega) u
      generalize pathOf (chainOf (np : Int)) ss = pt at *
      obtain ⟨pl, hpq⟩ : ∃ pl, pt.length = pl := ⟨_, rfl⟩
      rw [hpq] at hpl
      have HPQ := hide hpq
      clear hpq
      have hcn := countN_le tag
      have htg := HTG.out
      have i9 : IntKind.i64.wrap ((countN tag : Int) + 1) = (countN tag : Int) + 1 := by simp [IntKind.wrap, IntKind.bits, IntKind.signed]; omega
      have A4 : Hid (Blk (w3.alloc (.cells #[.int .i64 (leafOf who), .string leaf] 60)).drew w.heap.size 43 (cmtC se tag name add rem lf (.slice a1 keys.length p1) (.slice a2 boxes.length p2) wk ik is sk ss)) := (unhide A).drew
      have R4 := hide (unhide R).drew
      have HB4 := hide HB.out.drew
      have HK4 := hide (SRow.drew (unhide HK))
      have OL4 : Hid ((w3.alloc (.cells #[.int .i64 (leafOf who), .string leaf] 60)).drew.ownsRow w.heap.size 60 2 (.slice (some ⟨w3.heap.size, 0, none⟩) 1 1) 1 [.int .i64 (leafOf who), .string leaf]) := unhide OL
      clear A R HB HK OL
      refine wp_region_lit (by kernel_rfl) (fun d v u => match d with | 56 => v = .int .i64 who | 57 => v = .pointer (some ⟨w.heap.size, 6, none⟩) | 58 => v = .slice a1 keys.length p1 | 59 => ∃ ao cp, v = .slice ao keys.length cp ∧ u.ownsRow w.heap.size 9 1 (.slice ao keys.length cp) keys.length (keys.map Value.string) | 60 => ∃ ao cp, v = .agg #[.slice ao keys.length cp] ∧ u.ownsRow w.heap.size 9 1 (.slice ao keys.length cp) keys.length (keys.map Value.string) | 61 => v = .slice (some ⟨w3.heap.size, 0, none⟩) 1 1 | 62 => v = .int .i64 who | 63 => v = .int .i64 (leafOf who) | 64 => v = .pointer (some ⟨w.heap.size, 0, none⟩) | 65 => v = .int .i64 se | 66 => v = .int .i64 (leafOf se) | 67 => v = .int .i64 (np : Int) | 68 => v = .pointer (some ⟨w.heap.size, 8, none⟩) | 69 => v = .pointer (some ⟨w.heap.size, 11, none⟩) | 70 => v = .pointer (some ⟨w.heap.size, 12, none⟩) | 71 => v = .string ss | 72 => ∃ ao cp, v = .slice ao pl cp ∧ u.ownsRow w.heap.size 60 2 (.slice ao pl cp) pl (mcells pt) | 73 => ∃ g c, v = .slice (some ⟨g, 0, none⟩) (1 + pl) c ∧ u.ownsRow w.heap.size 60 2 (.slice (some ⟨g, 0, none⟩) (1 + pl) c) (1 + pl) ([.int .i64 (leafOf who), .string leaf] ++ mcells pt) | 74 => v = .pointer (some ⟨w.heap.size, 1, none⟩) | 75 => v = .string tag | 76 => v = .int .i64 (countN tag : Int) | 77 => v = .int .i64 ((countN tag : Int) + 1) | 78 => v = .pointer (some ⟨w.heap.size, 8, none⟩) | 79 => v = .pointer (some ⟨w.heap.size, 9, none⟩) | 80 => v = .pointer (some ⟨w.heap.size, 10, none⟩) | 81 => v = .string is | 82 => v = .string is | 83 => v = .agg (cmtC se tag name add rem lf (.slice a1 keys.length p1) (.slice a2 boxes.length p2) wk ik is sk ss) | 84 => v = .string (tag ++ name) | 85 => ∃ ao cp g c, v = .agg (memC true who (.slice ao keys.length cp) (.slice (some ⟨g, 0, none⟩) (1 + pl) c) ((countN tag : Int) + 1) is (tag ++ name)) ∧ u.ownsRow w.heap.size 9 1 (.slice ao keys.length cp) keys.length (keys.map Value.string) ∧ u.ownsRow w.heap.size 60 2 (.slice (some ⟨g, 0, none⟩) (1 + pl) c) (1 + pl) ([.int .i64 (leafOf who), .string leaf] ++ mcells pt) | 12 => ∃ b, v = .pointer (some ⟨b, 0, none⟩) ∧ w3.heap.size + 1 ≤ b ∧ Blk u b 35 noMem | _ => True) 90 (by kernel_rfl) (by kernel_rfl) (by kernel_rfl) (by decide) (by kernel_rfl) rfl ?hT ?hops ?hlast
      case hT =>
        intro d v u u' hl
        split
        · exact fun h => h
        · exact fun h => h
        · exact fun h => h
        · rintro ⟨x, y, h1, h2⟩; exact ⟨x, y, h1, own_below' h2 hl⟩
        · rintro ⟨x, y, h1, h2⟩; exact ⟨x, y, h1, own_below' h2 hl⟩
        · exact fun h => h
        · exact fun h => h
        · exact fun h => h
        · exact fun h => h
        · exact fun h => h
        · exact fun h => h
        · exact fun h => h
        · exact fun h => h
        · exact fun h => h
        · exact fun h => h
        · exact fun h => h
        · rintro ⟨x, y, h1, h2⟩; exact ⟨x, y, h1, own_below' h2 hl⟩
        · rintro ⟨x, y, h1, h2⟩; exact ⟨x, y, h1, own_below' h2 hl⟩
        · exact fun h => h
        · exact fun h => h
        · exact fun h => h
        · exact fun h => h
        · exact fun h => h
        · exact fun h => h
        · exact fun h => h
        · exact fun h => h
        · exact fun h => h
        · exact fun h => h
        · exact fun h => h
        · rintro ⟨x, y, x2, y2, h1, h2, h3⟩; exact ⟨x, y, x2, y2, h1, own_below' h2 hl, own_below' h3 hl⟩
        · rintro ⟨b, h1, h2, h3⟩; exact ⟨b, h1, h2, h3.below hl⟩
        · exact fun h => h
      case hops =>
        intro i o a u hi ho hK hL hd
        match i, ho with
        | 0, ho =>
          simp at ho
          subst ho
          have k0 : a.tmps.getD 0 undef = .int .i64 who := hK.2.2 0 (by kernel_rfl)
          clear hd
          go_simp
          exact ⟨_, rfl, rfl, laterPre.refl _⟩
        | 1, ho =>
          simp at ho
          subst ho
          have k7 : a.tmps.getD 7 undef = .pointer (some ⟨w.heap.size, 0, none⟩) := hK.2.2 7 (by kernel_rfl)
          clear hd
          go_simp
          exact ⟨_, rfl, rfl, laterPre.refl _⟩
        | 2, ho =>
          simp at ho
          subst ho
          have t57 : (a.tmps.getD 57 undef) = .pointer (some ⟨w.heap.size, 6, none⟩) := hd { on := 1, ground := .data } (by simp) rfl _ 57 rfl rfl
          clear hd
          have hx := Blk.below (unhide A4) hL
          have x6 := hx.cell 6
          simp only [List.getElem?_toArray, List.getElem?_cons_succ, List.getElem?_cons_zero] at x6
          go_simp
          exact ⟨_, rfl, rfl, laterPre.refl _⟩
        | 3, ho =>
          simp at ho
          subst ho
          have t58 : (a.tmps.getD 58 undef) = .slice a1 keys.length p1 := hd { on := 2, ground := .data } (by simp) rfl _ 58 rfl rfl
          clear hd
          have hsz : w.heap.size ≤ u.heap.size := Nat.le_trans HB4.out.size hL.size
          have HKu := (unhide HK4).below hL
          go_simp
          refine (cloneNames_any _ keys _ HKu (by have := HKL.out; omega) (fun x hx => Nat.le_trans (HKS.out x hx) (by omega))).mono ?_
          rintro e w9 ⟨v9, rfl, ho, hb⟩
          obtain ⟨ao, cp, rfl⟩ := row_form' ho
          go_simp
          exact ⟨_, rfl, ⟨ao, cp, rfl, row_lowB ho hsz⟩, hb⟩
        | 4, ho =>
          simp at ho
          subst ho
          have t59 : ∃ ao cp, (a.tmps.getD 59 undef) = .slice ao keys.length cp ∧ u.ownsRow w.heap.size 9 1 (.slice ao keys.length cp) keys.length (keys.map Value.string) := hd { on := 3, ground := .data } (by simp) rfl _ 59 rfl rfl
          clear hd
          obtain ⟨ao, cp, t59, ok⟩ := t59
          have e59 : a.tmps[59]?.getD undef = .slice ao keys.length cp := by rw [← t59]; simp
          go_simp
          exact ⟨_, rfl, ⟨ao, cp, rfl, ok⟩, laterPre.refl _⟩
        | 5, ho =>
          simp at ho
          subst ho
          have k11 : a.tmps.getD 11 undef = .slice (some ⟨w3.heap.size, 0, none⟩) 1 1 := hK.2.2 11 (by kernel_rfl)
          clear hd
          go_simp
          exact ⟨_, rfl, rfl, laterPre.refl _⟩
        | 6, ho =>
          simp at ho
          subst ho
          have k0 : a.tmps.getD 0 undef = .int .i64 who := hK.2.2 0 (by kernel_rfl)
          clear hd
          go_simp
          exact ⟨_, rfl, rfl, laterPre.refl _⟩
        | 7, ho =>
          simp at ho
          subst ho
          have t62 : (a.tmps.getD 62 undef) = .int .i64 who := hd { on := 6, ground := .data } (by simp) rfl _ 62 rfl rfl
          clear hd
          go_simp
          refine (placeOf_any who _).mono ?_
          rintro e wz ⟨rfl, rfl⟩
          go_simp
          exact ⟨_, rfl, rfl, laterPre.refl _⟩
        | 8, ho =>
          simp at ho
          subst ho
          have k7 : a.tmps.getD 7 undef = .pointer (some ⟨w.heap.size, 0, none⟩) := hK.2.2 7 (by kernel_rfl)
          clear hd
          go_simp
          exact ⟨_, rfl, rfl, laterPre.refl _⟩
        | 9, ho =>
          simp at ho
          subst ho
          have t64 : (a.tmps.getD 64 undef) = .pointer (some ⟨w.heap.size, 0, none⟩) := hd { on := 8, ground := .data } (by simp) rfl _ 64 rfl rfl
          clear hd
          have hx := Blk.below (unhide A4) hL
          have x0 := hx.cell 0
          simp only [List.getElem?_toArray, List.getElem?_cons_zero] at x0
          go_simp
          exact ⟨_, rfl, rfl, laterPre.refl _⟩
        | 10, ho =>
          simp at ho
          subst ho
          have t65 : (a.tmps.getD 65 undef) = .int .i64 se := hd { on := 9, ground := .data } (by simp) rfl _ 65 rfl rfl
          clear hd
          go_simp
          refine (placeOf_any se _).mono ?_
          rintro e wz ⟨rfl, rfl⟩
          go_simp
          exact ⟨_, rfl, rfl, laterPre.refl _⟩
        | 11, ho =>
          simp at ho
          subst ho
          have t63 : (a.tmps.getD 63 undef) = .int .i64 (leafOf who) := hd { on := 7, ground := .data } (by simp) rfl _ 63 rfl rfl
          have t66 : (a.tmps.getD 66 undef) = .int .i64 (leafOf se) := hd { on := 10, ground := .data } (by simp) rfl _ 66 rfl rfl
          clear hd
          go_simp
          refine (meet_any _ _ _).mono ?_
          rw [HMP.out]
          rintro e w9 ⟨rfl, hb⟩
          go_simp
          exact ⟨_, rfl, rfl, hb⟩
        | 12, ho =>
          simp at ho
          subst ho
          have k7 : a.tmps.getD 7 undef = .pointer (some ⟨w.heap.size, 0, none⟩) := hK.2.2 7 (by kernel_rfl)
          clear hd
          go_simp
          exact ⟨_, rfl, rfl, laterPre.refl _⟩
        | 13, ho =>
          simp at ho
          subst ho
          have t68 : (a.tmps.getD 68 undef) = .pointer (some ⟨w.heap.size, 8, none⟩) := hd { on := 12, ground := .data } (by simp) rfl _ 68 rfl rfl
          clear hd
          go_simp
          exact ⟨_, rfl, rfl, laterPre.refl _⟩
        | 14, ho =>
          simp at ho
          subst ho
          have t69 : (a.tmps.getD 69 undef) = .pointer (some ⟨w.heap.size, 11, none⟩) := hd { on := 13, ground := .data } (by simp) rfl _ 69 rfl rfl
          clear hd
          go_simp
          exact ⟨_, rfl, rfl, laterPre.refl _⟩
        | 15, ho =>
          simp at ho
          subst ho
          have t70 : (a.tmps.getD 70 undef) = .pointer (some ⟨w.heap.size, 12, none⟩) := hd { on := 14, ground := .data } (by simp) rfl _ 70 rfl rfl
          clear hd
          have hx := Blk.below (unhide A4) hL
          have x12 := hx.cell 12
          simp only [List.getElem?_toArray, List.getElem?_cons_succ, List.getElem?_cons_zero] at x12
          go_simp
          exact ⟨_, rfl, rfl, laterPre.refl _⟩
        | 16, ho =>
          simp at ho
          subst ho
          have t67 : (a.tmps.getD 67 undef) = .int .i64 (np : Int) := hd { on := 11, ground := .data } (by simp) rfl _ 67 rfl rfl
          have t71 : (a.tmps.getD 71 undef) = .string ss := hd { on := 15, ground := .data } (by simp) rfl _ 71 rfl rfl
          clear hd
          have hsz : w.heap.size ≤ u.heap.size := Nat.le_trans HB4.out.size hL.size
          go_simp
          refine (HCU.out _).mono ?_
          rintro e w9 ⟨v9, rfl, ho, hb⟩
          obtain ⟨ao, cp, rfl⟩ := row_form' ho
          have ho2 : w9.ownsRow w.heap.size 60 2 (.slice ao pl cp) pl (mcells pt) := by rw [← HPQ.out]; exact row_lowB ho hsz
          have hpq := HPQ.out
          go_simp
          exact ⟨_, rfl, ⟨ao, cp, rfl, ho2⟩, hb⟩
        | 17, ho =>
          simp at ho
          subst ho
          have t61 : (a.tmps.getD 61 undef) = .slice (some ⟨w3.heap.size, 0, none⟩) 1 1 := hd { on := 5, ground := .data } (by simp) rfl _ 61 rfl rfl
          have t72 : ∃ ao cp, (a.tmps.getD 72 undef) = .slice ao pl cp ∧ u.ownsRow w.heap.size 60 2 (.slice ao pl cp) pl (mcells pt) := hd { on := 16, ground := .data } (by simp) rfl _ 72 rfl rfl
          clear hd
          have hsz : w.heap.size ≤ u.heap.size := Nat.le_trans HB4.out.size hL.size
          obtain ⟨ao, cp, t72, ow⟩ := t72
          refine wp_append_full u _ _ 33 rfl w.heap.size 60 i1 (.agg #[.int .i64 0, .string ⟨#[]⟩]) 2 24 underMo (unhide hJ).1 (unhide hJ).2.1 (unhide hJ).2.2.1 (unhide hJ).2.2.2 rfl (by decide) w3.heap.size 1 _ t61 (own_below' (unhide OL4) hL) _ pl (mcells pt) t72 (own_news ow) (by unfold maxLen; omega) (by omega) hsz ?_
          intro g' c' w' h1 h2
          exact ⟨_, rfl, fun _ h => by cases h; exact ⟨g', c', rfl, h1⟩, h2⟩
        | 18, ho =>
          simp at ho
          subst ho
          have k7 : a.tmps.getD 7 undef = .pointer (some ⟨w.heap.size, 0, none⟩) := hK.2.2 7 (by kernel_rfl)
          clear hd
          go_simp
          exact ⟨_, rfl, rfl, laterPre.refl _⟩
        | 19, ho =>
          simp at ho
          subst ho
          have t74 : (a.tmps.getD 74 undef) = .pointer (some ⟨w.heap.size, 1, none⟩) := hd { on := 18, ground := .data } (by simp) rfl _ 74 rfl rfl
          clear hd
          have hx := Blk.below (unhide A4) hL
          have x1 := hx.cell 1
          simp only [List.getElem?_toArray, List.getElem?_cons_succ, List.getElem?_cons_zero] at x1
          go_simp
          exact ⟨_, rfl, rfl, laterPre.refl _⟩
        | 20, ho =>
          simp at ho
          subst ho
          have t75 : (a.tmps.getD 75 undef) = .string tag := hd { on := 19, ground := .data } (by simp) rfl _ 75 rfl rfl
          clear hd
          go_simp
          refine (namesIn_any tag _).mono ?_
          rintro e wz ⟨rfl, rfl⟩
          go_simp
          exact ⟨_, rfl, rfl, laterPre.refl _⟩
        | 21, ho =>
          simp at ho
          subst ho
          have t76 : (a.tmps.getD 76 undef) = .int .i64 (countN tag : Int) := hd { on := 20, ground := .data } (by simp) rfl _ 76 rfl rfl
          clear hd
          go_simp
          exact ⟨_, rfl, rfl, laterPre.refl _⟩
        | 22, ho =>
          simp at ho
          subst ho
          have k7 : a.tmps.getD 7 undef = .pointer (some ⟨w.heap.size, 0, none⟩) := hK.2.2 7 (by kernel_rfl)
          clear hd
          go_simp
          exact ⟨_, rfl, rfl, laterPre.refl _⟩
        | 23, ho =>
          simp at ho
          subst ho
          have t78 : (a.tmps.getD 78 undef) = .pointer (some ⟨w.heap.size, 8, none⟩) := hd { on := 22, ground := .data } (by simp) rfl _ 78 rfl rfl
          clear hd
          go_simp
          exact ⟨_, rfl, rfl, laterPre.refl _⟩
        | 24, ho =>
          simp at ho
          subst ho
          have t79 : (a.tmps.getD 79 undef) = .pointer (some ⟨w.heap.size, 9, none⟩) := hd { on := 23, ground := .data } (by simp) rfl _ 79 rfl rfl
          clear hd
          go_simp
          exact ⟨_, rfl, rfl, laterPre.refl _⟩
        | 25, ho =>
          simp at ho
          subst ho
          have t80 : (a.tmps.getD 80 undef) = .pointer (some ⟨w.heap.size, 10, none⟩) := hd { on := 24, ground := .data } (by simp) rfl _ 80 rfl rfl
          clear hd
          have hx := Blk.below (unhide A4) hL
          have x10 := hx.cell 10
          simp only [List.getElem?_toArray, List.getElem?_cons_succ, List.getElem?_cons_zero] at x10
          go_simp
          exact ⟨_, rfl, rfl, laterPre.refl _⟩
        | 26, ho =>
          simp at ho
          subst ho
          have t81 : (a.tmps.getD 81 undef) = .string is := hd { on := 25, ground := .data } (by simp) rfl _ 81 rfl rfl
          clear hd
          go_simp
          refine (clone_any is _ (by have := HIS.out; omega)).mono ?_
          rintro e w9 ⟨rfl, hb⟩
          go_simp
          exact ⟨_, rfl, rfl, hb⟩
        | 27, ho =>
          simp at ho
          subst ho
          have k7 : a.tmps.getD 7 undef = .pointer (some ⟨w.heap.size, 0, none⟩) := hK.2.2 7 (by kernel_rfl)
          clear hd
          have hx := Blk.below (unhide A4) hL
          have x0 := hx.cell 0
          have x1 := hx.cell 1
          have x2 := hx.cell 2
          have x3 := hx.cell 3
          have x4 := hx.cell 4
          have x5 := hx.cell 5
          have x6 := hx.cell 6
          have x7 := hx.cell 7
          have x8 := hx.cell 8
          have x9 := hx.cell 9
          have x10 := hx.cell 10
          have x11 := hx.cell 11
          have x12 := hx.cell 12
          simp only [List.getElem?_toArray, List.getElem?_cons_succ, List.getElem?_cons_zero] at x0 x1 x2 x3 x4 x5 x6 x7 x8 x9 x10 x11 x12
          go_simp
          exact ⟨_, rfl, rfl, laterPre.refl _⟩
        | 28, ho =>
          simp at ho
          subst ho
          have t83 : (a.tmps.getD 83 undef) = .agg (cmtC se tag name add rem lf (.slice a1 keys.length p1) (.slice a2 boxes.length p2) wk ik is sk ss) := hd { on := 27, ground := .data } (by simp) rfl _ 83 rfl rfl
          clear hd
          go_simp
          refine (tagBehind_any ⟨se, tag, name, add, rem, lf, keys, boxes, ⟨wk, ik, is, sk, ss⟩⟩ _ _ _ ⟨_, _, _, rfl⟩ ⟨_, _, _, rfl⟩ HTG.out).mono ?_
          rintro e w9 ⟨rfl, hb⟩
          go_simp
          exact ⟨_, rfl, rfl, hb⟩
        | 29, ho =>
          simp at ho
          subst ho
          have t56 : (a.tmps.getD 56 undef) = .int .i64 who := hd { on := 0, ground := .data } (by simp) rfl _ 56 rfl rfl
          have e56 : a.tmps[56]?.getD undef = .int .i64 who := by rw [← t56]; simp
          have t60 : ∃ ao cp, (a.tmps.getD 60 undef) = .agg #[.slice ao keys.length cp] ∧ u.ownsRow w.heap.size 9 1 (.slice ao keys.length cp) keys.length (keys.map Value.string) := hd { on := 4, ground := .data } (by simp) rfl _ 60 rfl rfl
          have t73 : ∃ g c, (a.tmps.getD 73 undef) = .slice (some ⟨g, 0, none⟩) (1 + pl) c ∧ u.ownsRow w.heap.size 60 2 (.slice (some ⟨g, 0, none⟩) (1 + pl) c) (1 + pl) ([.int .i64 (leafOf who), .string leaf] ++ mcells pt) := hd { on := 17, ground := .data } (by simp) rfl _ 73 rfl rfl
          have t77 : (a.tmps.getD 77 undef) = .int .i64 ((countN tag : Int) + 1) := hd { on := 21, ground := .data } (by simp) rfl _ 77 rfl rfl
          have e77 : a.tmps[77]?.getD undef = .int .i64 ((countN tag : Int) + 1) := by rw [← t77]; simp
          have t82 : (a.tmps.getD 82 undef) = .string is := hd { on := 26, ground := .data } (by simp) rfl _ 82 rfl rfl
          have e82 : a.tmps[82]?.getD undef = .string is := by rw [← t82]; simp
          have t84 : (a.tmps.getD 84 undef) = .string (tag ++ name) := hd { on := 28, ground := .data } (by simp) rfl _ 84 rfl rfl
          have e84 : a.tmps[84]?.getD undef = .string (tag ++ name) := by rw [← t84]; simp
          clear hd
          obtain ⟨ao, cp, t60, ok⟩ := t60
          obtain ⟨g, c, t73, ow⟩ := t73
          have e60 : a.tmps[60]?.getD undef = .agg #[.slice ao keys.length cp] := by rw [← t60]; simp
          have e73 : a.tmps[73]?.getD undef = .slice (some ⟨g, 0, none⟩) (1 + pl) c := by rw [← t73]; simp
          go_simp
          exact ⟨_, rfl, ⟨ao, cp, g, c, rfl, ok, ow⟩, laterPre.refl _⟩
        | 30, ho =>
          simp at ho
          subst ho
          clear hd
          have hsz : w3.heap.size + 1 ≤ u.heap.size := Nat.le_trans (by simp [World.drew]) hL.size
          go_simp
          exact ⟨_, rfl, ⟨_, rfl, hsz, Blk.new u _ _⟩, later_alloc _ _⟩
        | j + 31, ho =>
          have : j + 31 < 31 := hi
          omega
      case hlast =>
        intro o a u ho hK hL hd
        simp at ho
        subst ho
        have t56 : (a.tmps.getD 56 undef) = .int .i64 who := hd 0 _ 56 (by simp) rfl rfl
        have t57 : (a.tmps.getD 57 undef) = .pointer (some ⟨w.heap.size, 6, none⟩) := hd 1 _ 57 (by simp) rfl rfl
        have t58 : (a.tmps.getD 58 undef) = .slice a1 keys.length p1 := hd 2 _ 58 (by simp) rfl rfl
        have t59 : ∃ ao cp, (a.tmps.getD 59 undef) = .slice ao keys.length cp ∧ u.ownsRow w.heap.size 9 1 (.slice ao keys.length cp) keys.length (keys.map Value.string) := hd 3 _ 59 (by simp) rfl rfl
        have t60 : ∃ ao cp, (a.tmps.getD 60 undef) = .agg #[.slice ao keys.length cp] ∧ u.ownsRow w.heap.size 9 1 (.slice ao keys.length cp) keys.length (keys.map Value.string) := hd 4 _ 60 (by simp) rfl rfl
        have t61 : (a.tmps.getD 61 undef) = .slice (some ⟨w3.heap.size, 0, none⟩) 1 1 := hd 5 _ 61 (by simp) rfl rfl
        have t62 : (a.tmps.getD 62 undef) = .int .i64 who := hd 6 _ 62 (by simp) rfl rfl
        have t63 : (a.tmps.getD 63 undef) = .int .i64 (leafOf who) := hd 7 _ 63 (by simp) rfl rfl
        have t64 : (a.tmps.getD 64 undef) = .pointer (some ⟨w.heap.size, 0, none⟩) := hd 8 _ 64 (by simp) rfl rfl
        have t65 : (a.tmps.getD 65 undef) = .int .i64 se := hd 9 _ 65 (by simp) rfl rfl
        have t66 : (a.tmps.getD 66 undef) = .int .i64 (leafOf se) := hd 10 _ 66 (by simp) rfl rfl
        have t67 : (a.tmps.getD 67 undef) = .int .i64 (np : Int) := hd 11 _ 67 (by simp) rfl rfl
        have t68 : (a.tmps.getD 68 undef) = .pointer (some ⟨w.heap.size, 8, none⟩) := hd 12 _ 68 (by simp) rfl rfl
        have t69 : (a.tmps.getD 69 undef) = .pointer (some ⟨w.heap.size, 11, none⟩) := hd 13 _ 69 (by simp) rfl rfl
        have t70 : (a.tmps.getD 70 undef) = .pointer (some ⟨w.heap.size, 12, none⟩) := hd 14 _ 70 (by simp) rfl rfl
        have t71 : (a.tmps.getD 71 undef) = .string ss := hd 15 _ 71 (by simp) rfl rfl
        have t72 : ∃ ao cp, (a.tmps.getD 72 undef) = .slice ao pl cp ∧ u.ownsRow w.heap.size 60 2 (.slice ao pl cp) pl (mcells pt) := hd 16 _ 72 (by simp) rfl rfl
        have t73 : ∃ g c, (a.tmps.getD 73 undef) = .slice (some ⟨g, 0, none⟩) (1 + pl) c ∧ u.ownsRow w.heap.size 60 2 (.slice (some ⟨g, 0, none⟩) (1 + pl) c) (1 + pl) ([.int .i64 (leafOf who), .string leaf] ++ mcells pt) := hd 17 _ 73 (by simp) rfl rfl
        have t74 : (a.tmps.getD 74 undef) = .pointer (some ⟨w.heap.size, 1, none⟩) := hd 18 _ 74 (by simp) rfl rfl
        have t75 : (a.tmps.getD 75 undef) = .string tag := hd 19 _ 75 (by simp) rfl rfl
        have t76 : (a.tmps.getD 76 undef) = .int .i64 (countN tag : Int) := hd 20 _ 76 (by simp) rfl rfl
        have t77 : (a.tmps.getD 77 undef) = .int .i64 ((countN tag : Int) + 1) := hd 21 _ 77 (by simp) rfl rfl
        have t78 : (a.tmps.getD 78 undef) = .pointer (some ⟨w.heap.size, 8, none⟩) := hd 22 _ 78 (by simp) rfl rfl
        have t79 : (a.tmps.getD 79 undef) = .pointer (some ⟨w.heap.size, 9, none⟩) := hd 23 _ 79 (by simp) rfl rfl
        have t80 : (a.tmps.getD 80 undef) = .pointer (some ⟨w.heap.size, 10, none⟩) := hd 24 _ 80 (by simp) rfl rfl
        have t81 : (a.tmps.getD 81 undef) = .string is := hd 25 _ 81 (by simp) rfl rfl
        have t82 : (a.tmps.getD 82 undef) = .string is := hd 26 _ 82 (by simp) rfl rfl
        have t83 : (a.tmps.getD 83 undef) = .agg (cmtC se tag name add rem lf (.slice a1 keys.length p1) (.slice a2 boxes.length p2) wk ik is sk ss) := hd 27 _ 83 (by simp) rfl rfl
        have t84 : (a.tmps.getD 84 undef) = .string (tag ++ name) := hd 28 _ 84 (by simp) rfl rfl
        have t85 : ∃ ao cp g c, (a.tmps.getD 85 undef) = .agg (memC true who (.slice ao keys.length cp) (.slice (some ⟨g, 0, none⟩) (1 + pl) c) ((countN tag : Int) + 1) is (tag ++ name)) ∧ u.ownsRow w.heap.size 9 1 (.slice ao keys.length cp) keys.length (keys.map Value.string) ∧ u.ownsRow w.heap.size 60 2 (.slice (some ⟨g, 0, none⟩) (1 + pl) c) (1 + pl) ([.int .i64 (leafOf who), .string leaf] ++ mcells pt) := hd 29 _ 85 (by simp) rfl rfl
        have t12 : ∃ b, (a.tmps.getD 12 undef) = .pointer (some ⟨b, 0, none⟩) ∧ w3.heap.size + 1 ≤ b ∧ Blk u b 35 noMem := hd 30 _ 12 (by simp) rfl rfl
        clear hd
        have hop := act_open hK rfl (ds := [56, 57, 58, 59, 60, 61, 62, 63, 64, 65, 66, 67, 68, 69, 70, 71, 72, 73, 74, 75, 76, 77, 78, 79, 80, 81, 82, 83, 84, 85, 12]) (by kernel_rfl)
        obtain ⟨ao, cp, g, c, t85, ok, ow⟩ := t85
        obtain ⟨o9, c9, t59, _⟩ := t59
        obtain ⟨o0, c0, t60, _⟩ := t60
        obtain ⟨o2, c2, t72, _⟩ := t72
        obtain ⟨g3, c3, t73, _⟩ := t73
        obtain ⟨b12, t12, hb12, blk⟩ := t12
        have r2 := (unhide R4).below hL
        have hrl := (unhide R4).lt
        have hb2 := HB4.out.trans (Below.mono hL HB4.out.size)
        have hws := HB4.out.size
        have h3s : (w3.alloc (.cells #[.int .i64 (leafOf who), .string leaf] 60)).drew.heap.size = w3.heap.size + 1 := by simp [World.drew]
        refine wp_store_row 35 _ _ rfl b12 (memC true who (.slice ao keys.length cp) (.slice (some ⟨g, 0, none⟩) (1 + pl) c) ((countN tag : Int) + 1) is (tag ++ name)) t12 t85 35 noMem blk info_mm rfl (one_mm _ _ _ _ _ _ _ _ _ _ _) ?_
        have R5 := hide (r2.other (b' := b12) (by omega) (memC true who (.slice ao keys.length cp) (.slice (some ⟨g, 0, none⟩) (1 + pl) c) ((countN tag : Int) + 1) is (tag ++ name)))
        have BM := hide (blk.set (memC true who (.slice ao keys.length cp) (.slice (some ⟨g, 0, none⟩) (1 + pl) c) ((countN tag : Int) + 1) is (tag ++ name)))
        have K5 : Hid (Own w.heap.size _ _ keys) := row_blk ok blk (by decide) (memC true who (.slice ao keys.length cp) (.slice (some ⟨g, 0, none⟩) (1 + pl) c) ((countN tag : Int) + 1) is (tag ++ name))
        have O5 := hide (row_blk ow blk (by decide) (memC true who (.slice ao keys.length cp) (.slice (some ⟨g, 0, none⟩) (1 + pl) c) ((countN tag : Int) + 1) is (tag ++ name)))
        have HB5 := hide (below_blk hb2 (b := b12) (by omega) (memC true who (.slice ao keys.length cp) (.slice (some ⟨g, 0, none⟩) (1 + pl) c) ((countN tag : Int) + 1) is (tag ++ name)))
        have hb12' : w.heap.size + 1 < b12 := by omega
        clear r2 hb2 ok ow blk hL hrl h3s hb12 A4 R4 HB4 HK4 OL4
        generalize u.setRow b12 (memC true who (.slice ao keys.length cp) (.slice (some ⟨g, 0, none⟩) (1 + pl) c) ((countN tag : Int) + 1) is (tag ++ name)) = u2 at *
        change Exit.then _ _ Exit.normal a _
        rw [hop]
        simp only [List.map_cons, List.map_nil, t56, t57, t58, t59, t60, t61, t62, t63, t64, t65, t66, t67, t68, t69, t70, t71, t72, t73, t74, t75, t76, t77, t78, t79, t80, t81, t82, t83, t84, t85, t12, putAll, Act.put, List.setIfInBounds_toArray, List.set_cons_zero, List.set_cons_succ]
        clear hop hK t56 t57 t58 t59 t60 t61 t62 t63 t64 t65 t66 t67 t68 t69 t70 t71 t72 t73 t74 t75 t76 t77 t78 t79 t80 t81 t82 t83 t84 t85 t12
        have hOM : OwnM w.heap.size u2 (.slice (some ⟨g, 0, none⟩) (1 + pl) c) (joinOwn who leaf ⟨se, tag, name, add, rem, lf, keys, boxes, ⟨wk, ik, is, sk, ss⟩⟩) := by
          unfold OwnM
          rw [HJO.out, List.length_cons, show pt.length + 1 = 1 + pl by rw [HPQ.out]; omega]
          exact unhide O5
        have HSM : Hid (∀ o ∈ joinOwn who leaf ⟨se, tag, name, add, rem, lf, keys, boxes, ⟨wk, ik, is, sk, ss⟩⟩, o.2.size ≤ maxLen) := by
          intro o ho
          rw [HJO.out] at ho
          rcases List.mem_cons.1 ho with rfl | ho
          · exact M.out.1
          · exact Nat.le_trans (HPS.out o ho) (by unfold maxLen; omega)
        have HSZ : Hid ((tag ++ name).size ≤ maxLen) := by show _ ≤ _; rw [ByteArray.size_append]; exact Nat.le_trans HTG.out (by unfold maxLen; omega)
        replace BM : Hid (Blk u2.drew b12 35 (memC true who (.slice ao keys.length cp) (.slice (some ⟨g, 0, none⟩) (1 + pl) c) ((countN tag : Int) + 1) is (tag ++ name))) := (unhide BM).drew
        replace R5 := hide (unhide R5).drew
        replace K5 : Hid (Own w.heap.size u2.drew (.slice ao keys.length cp) keys) := unhide K5
        have O6 : Hid (OwnM w.heap.size u2.drew (.slice (some ⟨g, 0, none⟩) (1 + pl) c) (joinOwn who leaf ⟨se, tag, name, add, rem, lf, keys, boxes, ⟨wk, ik, is, sk, ss⟩⟩)) := hOM
        have HB : Hid (Below w.heap.size w u2.drew) := HB5.out.drew
        clear hOM O5 HB5
        go_wp2_with fail
        refine wp_region_ord (RelB w.heap.size b12) (by kernel_rfl) ?_
        refine ord_take (relPre w.heap.size b12) (i := 0) (d := 86) (v := ?_) (by kernel_rfl) (by kernel_rfl) (by kernel_rfl) (by kernel_rfl) (fun _ _ _ h => h) (fun oi hoi => ?_) ?_
        rotate_left
        · simp at hoi
          subst hoi
          refine ⟨by rfl, fun w' hw' => ?_⟩
          have hx := hw'.blk (unhide BM)
          have x0 := hx.cell 0
          have x1 := hx.cell 1
          have x2 := hx.cell 2
          have x3 := hx.cell 3
          have x4 := hx.cell 4
          have x5 := hx.cell 5
          have x6 := hx.cell 6
          simp only [List.getElem?_toArray, List.getElem?_cons_succ, List.getElem?_cons_zero] at x0 x1 x2 x3 x4 x5 x6
          go_simp
          all_goals rfl
        try simp only [Act.put, List.setIfInBounds_toArray, List.set_cons_zero, List.set_cons_succ]
        refine ord_take (relPre w.heap.size b12) (i := 1) (d := 87) (v := ?_) (by kernel_rfl) (by kernel_rfl) (by kernel_rfl) (by kernel_rfl) (fun _ _ _ h => h) (fun oi hoi => ?_) ?_
        rotate_left
        · simp at hoi
          subst hoi
          refine ⟨by rfl, fun w' hw' => ?_⟩
          have hx := hw'.blk (unhide BM)
          have x0 := hx.cell 0
          have x1 := hx.cell 1
          have x2 := hx.cell 2
          have x3 := hx.cell 3
          have x4 := hx.cell 4
          have x5 := hx.cell 5
          have x6 := hx.cell 6
          simp only [List.getElem?_toArray, List.getElem?_cons_succ, List.getElem?_cons_zero] at x0 x1 x2 x3 x4 x5 x6
          go_simp
          all_goals rfl
        try simp only [Act.put, List.setIfInBounds_toArray, List.set_cons_zero, List.set_cons_succ]
        refine ord_one (i := 2) (by kernel_rfl) (fun oi K hoi hK => ?_)
        simp at hoi
        subst hoi
        refine ⟨by rfl, ?_⟩
        go_simp
        refine (iMemOk_any (joinM who leaf ⟨se, tag, name, add, rem, lf, keys, boxes, ⟨wk, ik, is, sk, ss⟩⟩) _ _ _ (unhide K5).srow (unhide O6).mrow FT.out.1 (unhide HSM) FT.out.2.2.2.2.2.2.1 (unhide HSZ)).mono ?_
        rintro e w7 ⟨rfl, hb⟩
        go_simp
        have hbs := HB.out.size
        have hbl := (unhide BM).lt
        refine hK.out _ _ (RelB.of hb hbs hbl) ?_
        clear hK hbs hbl
        replace R5 := hide ((unhide R5).below hb)
        replace BM := hide ((unhide BM).below hb)
        replace K5 := hide (Own.below (unhide K5) hb)
        replace O6 := hide (own_below' (unhide O6) hb : OwnM _ _ _ _)
        replace HB := hide (HB.out.trans (hb.mono HB.out.size))
        clear hb
        try simp only [Act.put, List.setIfInBounds_toArray, List.set_cons_zero, List.set_cons_succ]
        refine ord_one (i := 3) (by kernel_rfl) (fun oi K hoi hK => ?_)
        simp at hoi
        subst hoi
        refine ⟨by rfl, ?_⟩
        go_simp
        refine (nothingUnless_f _ _ _).mono ?_
        rintro e w8 ⟨v9, rfl, f9, hb⟩
        replace f9 := hide f9
        go_simp
        have hbs := HB.out.size
        have hbl := (unhide BM).lt
        refine hK.out _ _ (RelB.of hb hbs hbl) ?_
        clear hK hbs hbl
        replace R5 := hide ((unhide R5).below hb)
        replace BM := hide ((unhide BM).below hb)
        replace K5 := hide (Own.below (unhide K5) hb)
        replace O6 := hide (own_below' (unhide O6) hb : OwnM _ _ _ _)
        replace HB := hide (HB.out.trans (hb.mono HB.out.size))
        clear hb
        try simp only [Act.put, List.setIfInBounds_toArray, List.set_cons_zero, List.set_cons_succ]
        refine ord_one (i := 4) (by kernel_rfl) (fun oi K hoi hK => ?_)
        simp at hoi
        subst hoi
        refine ⟨by rfl, ?_⟩
        have hbs := HB.out.size
        have hbl := (unhide BM).lt
        refine wp_store_row 35 _ _ rfl (w.heap.size + 1) (memC true who (.slice ao keys.length cp) (.slice (some ⟨g, 0, none⟩) (1 + pl) c) ((countN tag : Int) + 1) is (tag ++ name)) rfl rfl 35 noMem (by exact unhide R5) info_mm rfl (one_mm _ _ _ _ _ _ _ _ _ _ _) ?_
        refine hK.out _ _ ⟨below_blk (Below.refl _ _) (by omega) _, setRow_other _ _ _ _ (by omega)⟩ ?_
        clear hK
        have R7 := hide ((unhide R5).set (memC true who (.slice ao keys.length cp) (.slice (some ⟨g, 0, none⟩) (1 + pl) c) ((countN tag : Int) + 1) is (tag ++ name)))
        replace K5 := hide (row_blk (unhide K5) (unhide R5) (by decide) (memC true who (.slice ao keys.length cp) (.slice (some ⟨g, 0, none⟩) (1 + pl) c) ((countN tag : Int) + 1) is (tag ++ name)) : Own _ _ _ _)
        replace O6 := hide (row_blk (unhide O6) (unhide R5) (by decide) (memC true who (.slice ao keys.length cp) (.slice (some ⟨g, 0, none⟩) (1 + pl) c) ((countN tag : Int) + 1) is (tag ++ name)) : OwnM _ _ _ _)
        replace HB := hide (below_blk HB.out (b := w.heap.size + 1) (by omega) (memC true who (.slice ao keys.length cp) (.slice (some ⟨g, 0, none⟩) (1 + pl) c) ((countN tag : Int) + 1) is (tag ++ name)))
        clear hbs hbl
        try simp only [Act.put]
        refine ord_take (relPre w.heap.size b12) (i := 5) (d := 9) (v := ?_) (by kernel_rfl) (by kernel_rfl) (by kernel_rfl) (by kernel_rfl) (fun _ _ _ h => h) (fun oi hoi => ?_) ?_
        rotate_left
        · simp at hoi
          subst hoi
          refine ⟨by rfl, fun w' hw' => ?_⟩
          go_simp
          all_goals rfl
        try simp only [Act.put, List.setIfInBounds_toArray, List.set_cons_zero, List.set_cons_succ]
        refine later_done (by kernel_rfl) ?_ _
        go_wp2_with fail
        have l2 := load_mm (unhide R7) rfl
        refine bodyPost_ret (v := .tuple #[.agg (memC true who (.slice ao keys.length cp) (.slice (some ⟨g, 0, none⟩) (1 + pl) c) ((countN tag : Int) + 1) is (tag ++ name)), v9]) (results_cs rfl rfl rfl l2) rfl ?_
        refine ⟨joinM who leaf ⟨se, tag, name, add, rem, lf, keys, boxes, ⟨wk, ik, is, sk, ss⟩⟩, _, _, _, rfl, unhide K5, unhide O6, ?_, fun _ => rfl, unhide HB⟩
        rw [← HE.out]
        exact f9.out
#print axioms behindJoining_any
end Go.Proofs.YteiojanamkndmaaGreat
