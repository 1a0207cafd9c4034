/-
  The laws' own helpers over a commit: its size, a copy, whether two are the same.
-/
import Derived.Test.YteiojanamkndmaaFnExactCmtOkB5
import Derived.Test.YteiojanamkndmaaFnExactCmtOkB3
namespace Go.Proofs.Yteiojanamkndmaa
open Go.RowKit

abbrev Wel.cells (x : Wel) : Array Value := #[.string x.key, .string x.ik, .string x.is, .string x.sk, .string x.ss]
theorem info_we : (Try.prog.info? 35).map (·.size) = some 5 := by kernel_rfl
theorem one_we (a b c d e : ByteArray) : (#[Value.string a, .string b, .string c, .string d, .string e]).all (·.oneCell') = true := by simp [Value.oneCell']
theorem load_we {w : World} {b : Nat} {cs : Array Value} (h : Blk w b 35 cs) (hc : cs.size = 5) : (loadVar 35 ⟨b, 0, none⟩).run Try.prog w = .ok (.agg cs) w :=
  run_loadVar_row w b _ _ cs (0, 0) _ h Try.underlying35 rfl (by rw [hc]; exact info_we)

set_option maxRecDepth 100000 in
set_option maxHeartbeats 1000000 in
theorem szCmtWelcome_any (x : Wel) (left : Int) (w : World) (h1 : x.key.size ≤ maxLen) (h2 : x.ik.size ≤ maxLen) (h3 : x.is.size ≤ maxLen) (h4 : x.sk.size ≤ maxLen) (h5 : x.ss.size ≤ maxLen) (hl : 0 ≤ left) (hl2 : left ≤ 1048576) :
    Calls Try.prog 11 #[.agg x.cells, .int .i64 left] w fun e w' => ∃ r : Int, e = .returned (.int .i64 r) ∧ r ≤ left ∧ Below w.heap.size w w' := by
  obtain ⟨wk, ik, is, sk, ss⟩ := x
  simp only at h1 h2 h3 h4 h5 ⊢
  have M : Hid (ik.size ≤ maxLen ∧ is.size ≤ maxLen ∧ sk.size ≤ maxLen ∧ ss.size ≤ maxLen) := ⟨h2, h3, h4, h5⟩
  clear h2 h3 h4 h5
  unfold maxLen at h1
  have A := hide (Blk.new w 27 #[.string wk, .string ik, .string is, .string sk, .string ss])
  have HB : Hid (Below w.heap.size w (w.alloc (.cells #[.string wk, .string ik, .string is, .string sk, .string ss] 27))) := (Below.refl _ _).alloc (Nat.le_refl _) _
  by_cases hn : left - (wk.size : Int) < 0
  · go_enter Try.func11, Try.ntmps11
    go_wp2_with fail
    go_ret
    exact ⟨-1, rfl, by omega, unhide HB⟩
  have hn2 : decide (left - (wk.size : Int) < 0) = false := by simpa using hn
  go_enter Try.func11, Try.ntmps11
  go_wp2_with fail
  obtain ⟨l1, hl1⟩ : ∃ l1, left - (wk.size : Int) = l1 := ⟨_, rfl⟩
  have hk1 : 0 ≤ l1 := by omega
  have hk2 : l1 ≤ left := by omega
  refine (szKnwBox_any (ik, is) _ _ M.out.1 M.out.2.1 (by omega) (by omega)).mono ?_
  rintro e w1 ⟨r, rfl, hr, _, hb⟩
  have A1 := hide ((unhide A).below hb)
  have HB1 := hide (HB.out.trans (hb.mono HB.out.size))
  clear hb A HB
  by_cases hr0 : r < 0
  · go_wp2_with fail
    go_ret
    exact ⟨-1, rfl, by omega, unhide HB1⟩
  have hr1 : decide (r < 0) = false := by simpa using hr0
  have c3 := (unhide A1).cell 3
  have c4 := (unhide A1).cell 4
  simp only [List.getElem?_toArray, List.getElem?_cons_succ, List.getElem?_cons_zero] at c3 c4
  go_wp2_with fail
  refine (szKnwBox_any (sk, ss) _ _ M.out.2.2.1 M.out.2.2.2 (by omega) (by omega)).mono ?_
  rintro e w2 ⟨r2, rfl, hr2, _, hb⟩
  have HB2 := hide (HB1.out.trans (hb.mono HB1.out.size))
  clear hb c3 c4
  by_cases hr3 : r2 < 0
  · go_wp2_with fail
    go_ret
    exact ⟨-1, rfl, by omega, unhide HB2⟩
  have hr4 : decide (r2 < 0) = false := by simpa using hr3
  go_wp2_with fail
  go_ret
  exact ⟨r2, rfl, by omega, unhide HB2⟩

set_option maxRecDepth 100000 in
set_option maxHeartbeats 1000000 in
theorem eqCmtWelcome_same (x : Wel) (w : World) : Calls Try.prog 24 #[.agg x.cells, .agg x.cells] w fun e w' => e = .returned (.bool true) ∧ Below w.heap.size w w' := by
  obtain ⟨wk, ik, is, sk, ss⟩ := x
  have A := hide ((Blk.new w 35 #[.string wk, .string ik, .string is, .string sk, .string ss]).alloc (.cells #[.string wk, .string ik, .string is, .string sk, .string ss] 35))
  have b0 := Blk.new (w.alloc (.cells #[.string wk, .string ik, .string is, .string sk, .string ss] 35)) 35 #[.string wk, .string ik, .string is, .string sk, .string ss]
  rw [World.size_alloc] at b0
  have B := hide b0
  clear b0
  have HB : Hid (Below w.heap.size w ((w.alloc (.cells #[.string wk, .string ik, .string is, .string sk, .string ss] 35)).alloc (.cells #[.string wk, .string ik, .string is, .string sk, .string ss] 35))) := ((Below.refl _ _).alloc (Nat.le_refl _) _).alloc (by simp) _
  go_enter Try.func24, Try.ntmps24
  go_wp2_with fail
  refine (eqKnwBox_any (ik, is) (ik, is) _).mono ?_
  rw [show decide ((ik, is) = (ik, is)) = true by simp]
  rintro e w1 ⟨rfl, hb⟩
  have A1 := hide ((unhide A).below hb)
  have B1 := hide ((unhide B).below hb)
  have HB1 := hide (HB.out.trans (hb.mono HB.out.size))
  have c3 := (unhide A1).cell 3
  have c4 := (unhide A1).cell 4
  have d3 := (unhide B1).cell 3
  have d4 := (unhide B1).cell 4
  simp only [List.getElem?_toArray, List.getElem?_cons_succ, List.getElem?_cons_zero] at c3 c4 d3 d4
  clear hb A HB B
  go_wp2_with fail
  refine (eqKnwBox_any (sk, ss) (sk, ss) _).mono ?_
  rw [show decide ((sk, ss) = (sk, ss)) = true by simp]
  rintro e w2 ⟨rfl, hb⟩
  have HB2 := hide (HB1.out.trans (hb.mono HB1.out.size))
  clear hb c3 c4 d3 d4
  go_wp2_with fail
  go_ret
  exact ⟨rfl, unhide HB2⟩

set_option maxRecDepth 100000 in
set_option maxHeartbeats 2000000 in
theorem toCmtWelcome_any (x : Wel) (w : World) : Calls Try.prog 20 #[.agg x.cells] w fun e w' => e = .returned (.agg x.cells) ∧ Below w.heap.size w w' := by
  obtain ⟨wk, ik, is, sk, ss⟩ := x
  have a0 := Blk.new (w.alloc (.cells #[.string wk, .string ik, .string is, .string sk, .string ss] 27)) 35 #[.string ⟨#[]⟩, .string ⟨#[]⟩, .string ⟨#[]⟩, .string ⟨#[]⟩, .string ⟨#[]⟩]
  have a1 := a0.alloc (.cells #[.string wk, .string ⟨#[]⟩, .string ⟨#[]⟩, .string ⟨#[]⟩, .string ⟨#[]⟩] 35)
  have b1 := Blk.new ((w.alloc (.cells #[.string wk, .string ik, .string is, .string sk, .string ss] 27)).alloc (.cells #[.string ⟨#[]⟩, .string ⟨#[]⟩, .string ⟨#[]⟩, .string ⟨#[]⟩, .string ⟨#[]⟩] 35)) 35 #[.string wk, .string ⟨#[]⟩, .string ⟨#[]⟩, .string ⟨#[]⟩, .string ⟨#[]⟩]
  have z1 := ((Blk.new w 27 #[.string wk, .string ik, .string is, .string sk, .string ss]).alloc (.cells #[.string ⟨#[]⟩, .string ⟨#[]⟩, .string ⟨#[]⟩, .string ⟨#[]⟩, .string ⟨#[]⟩] 35)).alloc (.cells #[.string wk, .string ⟨#[]⟩, .string ⟨#[]⟩, .string ⟨#[]⟩, .string ⟨#[]⟩] 35)
  have hb0 := (((Below.refl w.heap.size w).alloc (Nat.le_refl _) (.cells #[.string wk, .string ik, .string is, .string sk, .string ss] 27)).alloc (by simp) (.cells #[.string ⟨#[]⟩, .string ⟨#[]⟩, .string ⟨#[]⟩, .string ⟨#[]⟩, .string ⟨#[]⟩] 35)).alloc (by simp; omega) (.cells #[.string wk, .string ⟨#[]⟩, .string ⟨#[]⟩, .string ⟨#[]⟩, .string ⟨#[]⟩] 35)
  simp only [World.size_alloc] at a1 b1
  have R := hide a1
  have V := hide b1
  have Z := hide z1
  have HB := hide hb0
  clear a0 a1 b1 z1 hb0
  go_enter Try.func20, Try.ntmps20
  go_wp2_with fail
  refine (toKnwBox_any (ik, is) _).mono ?_
  rintro e w1 ⟨rfl, hb⟩
  replace R := hide ((unhide R).below hb)
  replace V := hide ((unhide V).below hb)
  replace Z := hide ((unhide Z).below hb)
  replace HB := hide (HB.out.trans (hb.mono HB.out.size))
  clear hb
  have c1 := (unhide V).cell 1
  have c2 := (unhide V).cell 2
  have f1 := (unhide V).frozen 1
  have f2 := (unhide V).frozen 2
  have z3 := (unhide Z).cell 3
  have z4 := (unhide Z).cell 4
  simp only [List.getElem?_toArray, List.getElem?_cons_succ, List.getElem?_cons_zero] at c1 c2 z3 z4
  have v2 := heap_setAt (i := 2) (heap_setAt (i := 1) (unhide V) (.string ik)) (.string is)
  simp only [List.setIfInBounds_toArray, List.set_cons_zero, List.set_cons_succ] at v2
  replace R := hide (((unhide R).otherC (b' := w.heap.size + 1 + 1) (i := 1) (by omega) (.string ik)).otherC (b' := w.heap.size + 1 + 1) (i := 2) (by omega) (.string is))
  replace HB := hide ((HB.out.setCell (p := ⟨w.heap.size + 1 + 1, 1, none⟩) (by show w.heap.size ≤ w.heap.size + 1 + 1; omega) (.string ik)).setCell (p := ⟨w.heap.size + 1 + 1, 2, none⟩) (by show w.heap.size ≤ w.heap.size + 1 + 1; omega) (.string is))
  replace V := hide v2
  clear Z v2
  go_wp2_with fail
  refine (toKnwBox_any (sk, ss) _).mono ?_
  rintro e w2 ⟨rfl, hb⟩
  replace R := hide ((unhide R).below hb)
  replace V := hide ((unhide V).below hb)
  replace HB := hide (HB.out.trans (hb.mono HB.out.size))
  clear hb c1 c2 f1 f2 z3 z4
  have c3 := (unhide V).cell 3
  have c4 := (unhide V).cell 4
  have f3 := (unhide V).frozen 3
  have f4 := (unhide V).frozen 4
  simp only [List.getElem?_toArray, List.getElem?_cons_succ, List.getElem?_cons_zero] at c3 c4
  have v2 := heap_setAt (i := 4) (heap_setAt (i := 3) (unhide V) (.string sk)) (.string ss)
  simp only [List.setIfInBounds_toArray, List.set_cons_zero, List.set_cons_succ] at v2
  have r2 := (((unhide R).otherC (b' := w.heap.size + 1 + 1) (i := 3) (by omega) (.string sk)).otherC (b' := w.heap.size + 1 + 1) (i := 4) (by omega) (.string ss))
  replace HB := hide ((HB.out.setCell (p := ⟨w.heap.size + 1 + 1, 3, none⟩) (by show w.heap.size ≤ w.heap.size + 1 + 1; omega) (.string sk)).setCell (p := ⟨w.heap.size + 1 + 1, 4, none⟩) (by show w.heap.size ≤ w.heap.size + 1 + 1; omega) (.string ss))
  have l1 := load_we v2 rfl
  have R2 := hide r2
  clear V v2 R r2
  go_wp2_with (first | refine wpList_load_whole rfl 35 _ rfl ⟨w.heap.size + 1 + 1, 0, none⟩ rfl _ l1 ?_ | refine wpList_store_whole rfl 35 _ _ rfl (w.heap.size + 1) #[.string wk, .string ik, .string is, .string sk, .string ss] rfl rfl 35 _ (unhide R2) info_we rfl (one_we _ _ _ _ _) ?_)
  have l2 := load_we ((unhide R2).set #[.string wk, .string ik, .string is, .string sk, .string ss]) rfl
  refine bodyPost_ret (v := .agg #[.string wk, .string ik, .string is, .string sk, .string ss]) (results_cell rfl rfl l2) rfl ⟨rfl, ?_⟩
  exact below_blk HB.out (by omega) _

set_option maxRecDepth 100000 in
set_option maxHeartbeats 2000000 in
theorem eqCmtCommit_same (c : Cmt) (ks bs ks' bs' : Value) (w : World) (h1 : SRow w ks c.keys) (h2 : BRow w bs c.boxes) (h3 : SRow w ks' c.keys) (h4 : BRow w bs' c.boxes) :
    Calls Try.prog 8 #[.agg (c.cells ks bs), .agg (c.cells ks' bs')] w fun e w' => e = .returned (.bool true) ∧ Below w.heap.size w w' := by
  obtain ⟨se, tag, name, add, rem, leaf, keys, boxes, wk, ik, is, sk, ss⟩ := c
  have H1 := hide h1
  have H2 := hide h2
  have H3 := hide h3
  have H4 := hide h4
  obtain ⟨a1, p1, rfl, _, _, z1⟩ := h1.form
  obtain ⟨a2, p2, rfl, _, _, z2⟩ := h2
  obtain ⟨a3, p3, rfl, _, _, z3⟩ := h3.form
  obtain ⟨a4, p4, rfl, _, _, z4⟩ := h4
  clear h1 h3 z1 z2 z3 z4
  simp only at H1 H2 H3 H4 ⊢
  generalize keys.length = kl at *
  generalize boxes.length = ol at *
  have HB : Hid (Below w.heap.size w ((w.alloc (.cells (cmtC se tag name add rem leaf (.slice a1 kl p1) (.slice a2 ol p2) wk ik is sk ss) 37)).alloc (.cells (cmtC se tag name add rem leaf (.slice a3 kl p3) (.slice a4 ol p4) wk ik is sk ss) 37))) := ((Below.refl _ _).alloc (Nat.le_refl _) _).alloc (by simp) _
  have A := hide ((Blk.new w 37 (cmtC se tag name add rem leaf (.slice a1 kl p1) (.slice a2 ol p2) wk ik is sk ss)).alloc (.cells (cmtC se tag name add rem leaf (.slice a3 kl p3) (.slice a4 ol p4) wk ik is sk ss) 37))
  have b0 := Blk.new (w.alloc (.cells (cmtC se tag name add rem leaf (.slice a1 kl p1) (.slice a2 ol p2) wk ik is sk ss) 37)) 37 (cmtC se tag name add rem leaf (.slice a3 kl p3) (.slice a4 ol p4) wk ik is sk ss)
  rw [World.size_alloc] at b0
  have B := hide b0
  clear b0
  go_enter Try.func8, Try.ntmps8
  go_wp2_with fail
  refine (eqStringS_any _ _ keys keys _ ((unhide H1).below (unhide HB)) ((unhide H3).below (unhide HB))).mono ?_
  rw [show decide (keys = keys) = true by simp]
  rintro e w1 ⟨rfl, hb⟩
  replace A := hide ((unhide A).below hb)
  replace B := hide ((unhide B).below hb)
  replace HB := hide (HB.out.trans (hb.mono HB.out.size))
  have c1 := (unhide A).cell 7
  have c2 := (unhide B).cell 7
  simp only [List.getElem?_toArray, List.getElem?_cons_succ, List.getElem?_cons_zero] at c1 c2
  clear hb
  go_wp2_with fail
  refine (eqKnwBoxS_any _ _ boxes _ ((unhide H2).below (unhide HB)) ((unhide H4).below (unhide HB))).mono ?_
  rintro e w2 ⟨rfl, hb⟩
  replace A := hide ((unhide A).below hb)
  replace B := hide ((unhide B).below hb)
  replace HB := hide (HB.out.trans (hb.mono HB.out.size))
  clear hb c1 c2
  have c8 := (unhide A).cell 8
  have c9 := (unhide A).cell 9
  have c10 := (unhide A).cell 10
  have c11 := (unhide A).cell 11
  have c12 := (unhide A).cell 12
  have d8 := (unhide B).cell 8
  have d9 := (unhide B).cell 9
  have d10 := (unhide B).cell 10
  have d11 := (unhide B).cell 11
  have d12 := (unhide B).cell 12
  simp only [List.getElem?_toArray, List.getElem?_cons_succ, List.getElem?_cons_zero] at c8 c9 c10 c11 c12 d8 d9 d10 d11 d12
  go_wp2_with fail
  refine (eqCmtWelcome_same ⟨wk, ik, is, sk, ss⟩ _).mono ?_
  rintro e w3 ⟨rfl, hb⟩
  replace HB := hide (HB.out.trans (hb.mono HB.out.size))
  clear hb c8 c9 c10 c11 c12 d8 d9 d10 d11 d12
  go_wp2_with fail
  go_ret
  exact ⟨rfl, unhide HB⟩

set_option maxRecDepth 100000 in
set_option maxHeartbeats 2000000 in
theorem szCmtCommit_any (c : Cmt) (ks bs : Value) (left : Int) (w : World) (hK : SRow w ks c.keys) (hO : BRow w bs c.boxes) (hkm : ∀ x ∈ c.keys, x.size ≤ maxLen) (hbm : ∀ b ∈ c.boxes, b.1.size ≤ maxLen ∧ b.2.size ≤ maxLen)
    (h1 : c.tag.size ≤ maxLen) (h2 : c.name.size ≤ maxLen) (h3 : c.leaf.size ≤ maxLen) (h4 : c.wel.key.size ≤ maxLen) (h5 : c.wel.ik.size ≤ maxLen) (h6 : c.wel.is.size ≤ maxLen) (h7 : c.wel.sk.size ≤ maxLen) (h8 : c.wel.ss.size ≤ maxLen) (hl : 0 ≤ left) (hl2 : left ≤ 1048576) :
    Calls Try.prog 4 #[.agg (c.cells ks bs), .int .i64 left] w fun e w' => ∃ r : Int, e = .returned (.int .i64 r) ∧ r ≤ left ∧ (0 ≤ r → c.tag.size ≤ 1048576 ∧ c.name.size ≤ 1048576 ∧ c.leaf.size ≤ 1048576 ∧ c.keys.length ≤ 1048576 ∧ c.boxes.length ≤ 1048576 ∧ ∀ x ∈ c.keys, x.size ≤ 1048576) ∧ Below w.heap.size w w' := by
  obtain ⟨se, tag, name, add, rem, leaf, keys, boxes, wk, ik, is, sk, ss⟩ := c
  simp only at hK hO hkm hbm h1 h2 h3 h4 h5 h6 h7 h8 ⊢
  have HK := hide hK
  have HO := hide hO
  have HKM := hide hkm
  have HBM := hide hbm
  have M : Hid (wk.size ≤ maxLen ∧ ik.size ≤ maxLen ∧ is.size ≤ maxLen ∧ sk.size ≤ maxLen ∧ ss.size ≤ maxLen) := ⟨h4, h5, h6, h7, h8⟩
  obtain ⟨a1, p1, rfl, _, _, z1⟩ := hK.form
  obtain ⟨a2, p2, rfl, _, _, z2⟩ := hO
  clear hK hkm hbm h4 h5 h6 h7 h8 z1 z2
  unfold maxLen at h1 h2 h3
  generalize hkl : keys.length = kl at *
  generalize hbl : boxes.length = bl at *
  have HL : Hid (keys.length = kl ∧ boxes.length = bl) := ⟨hkl, hbl⟩
  clear hkl hbl
  have A := hide (Blk.new w 29 (cmtC se tag name add rem leaf (.slice a1 kl p1) (.slice a2 bl p2) wk ik is sk ss))
  have HB : Hid (Below w.heap.size w (w.alloc (.cells (cmtC se tag name add rem leaf (.slice a1 kl p1) (.slice a2 bl p2) wk ik is sk ss) 29))) := (Below.refl _ _).alloc (Nat.le_refl _) _
  by_cases hn : left - (tag.size : Int) < 0
  · go_enter Try.func4, Try.ntmps4
    go_wp2_with fail
    go_ret
    exact ⟨-1, rfl, by omega, fun q => absurd q (by omega), unhide HB⟩
  have hn2 : decide (left - (tag.size : Int) < 0) = false := by simpa using hn
  by_cases hm : left - (tag.size : Int) - (name.size : Int) < 0
  · go_enter Try.func4, Try.ntmps4
    go_wp2_with fail
    go_ret
    exact ⟨-1, rfl, by omega, fun q => absurd q (by omega), unhide HB⟩
  have hm2 : decide (left - (tag.size : Int) - (name.size : Int) < 0) = false := by simpa using hm
  by_cases ho : left - (tag.size : Int) - (name.size : Int) - (leaf.size : Int) < 0
  · go_enter Try.func4, Try.ntmps4
    go_wp2_with fail
    go_ret
    exact ⟨-1, rfl, by omega, fun q => absurd q (by omega), unhide HB⟩
  have ho2 : decide (left - (tag.size : Int) - (name.size : Int) - (leaf.size : Int) < 0) = false := by simpa using ho
  go_enter Try.func4, Try.ntmps4
  go_wp2_with fail
  refine (szStringS_any _ keys _ _ ((unhide HK).below (unhide HB)) (unhide HKM) (by omega) (by omega)).mono ?_
  rintro e w1 ⟨r1, rfl, hr1, hq1, hb⟩
  have HQ1 := hide hq1
  replace A := hide ((unhide A).below hb)
  replace HB := hide (HB.out.trans (hb.mono HB.out.size))
  clear hb hq1
  by_cases hr2 : r1 < 0
  · go_wp2_with fail
    go_ret
    exact ⟨-1, rfl, by omega, fun q => absurd q (by omega), unhide HB⟩
  have hr3 : decide (r1 < 0) = false := by simpa using hr2
  have c7 := (unhide A).cell 7
  simp only [List.getElem?_toArray, List.getElem?_cons_succ, List.getElem?_cons_zero] at c7
  go_wp2_with fail
  refine (szKnwBoxS_any _ boxes _ _ ((unhide HO).below (unhide HB)) (unhide HBM) (by omega) (by omega)).mono ?_
  rintro e w2 ⟨r2, rfl, hr4, hq2, hb⟩
  have HQ2 := hide hq2
  replace A := hide ((unhide A).below hb)
  replace HB := hide (HB.out.trans (hb.mono HB.out.size))
  clear hb hq2 c7
  by_cases hr5 : r2 < 0
  · go_wp2_with fail
    go_ret
    exact ⟨-1, rfl, by omega, fun q => absurd q (by omega), unhide HB⟩
  have hr6 : decide (r2 < 0) = false := by simpa using hr5
  have c8 := (unhide A).cell 8
  have c9 := (unhide A).cell 9
  have c10 := (unhide A).cell 10
  have c11 := (unhide A).cell 11
  have c12 := (unhide A).cell 12
  simp only [List.getElem?_toArray, List.getElem?_cons_succ, List.getElem?_cons_zero] at c8 c9 c10 c11 c12
  go_wp2_with fail
  refine (szCmtWelcome_any ⟨wk, ik, is, sk, ss⟩ _ _ M.out.1 M.out.2.1 M.out.2.2.1 M.out.2.2.2.1 M.out.2.2.2.2 (by omega) (by omega)).mono ?_
  rintro e w3 ⟨r3, rfl, hr7, hb⟩
  replace HB := hide (HB.out.trans (hb.mono HB.out.size))
  clear hb c8 c9 c10 c11 c12
  by_cases hr8 : r3 < 0
  · go_wp2_with fail
    go_ret
    exact ⟨-1, rfl, by omega, fun q => absurd q (by omega), unhide HB⟩
  have hr9 : decide (r3 < 0) = false := by simpa using hr8
  go_wp2_with fail
  go_ret
  refine ⟨r3, rfl, by omega, fun _ => ?_, unhide HB⟩
  have q1 := HQ1.out (by omega)
  have q2 := HQ2.out (by omega)
  have q3 := HL.out
  rw [q3.1] at q1
  rw [q3.2] at q2
  refine ⟨by omega, by omega, by omega, by omega, by omega, fun x hx => ?_⟩
  have := q1.2 x hx
  omega
#print axioms toCmtWelcome_any
#print axioms eqCmtCommit_same
#print axioms szCmtCommit_any
end Go.Proofs.Yteiojanamkndmaa
/-
  The laws' own copy of a commit.
-/
namespace Go.Proofs.Yteiojanamkndmaa
open Go.RowKit

theorem one_cm (a b c : Int) (d e f : ByteArray) (x : Option Addr) (l m : Nat) (y : Option Addr) (n o : Nat) (g h i j k : ByteArray) : (cmtC a d e b c f (.slice x l m) (.slice y n o) g h i j k).all (·.oneCell') = true := by simp [Value.oneCell']

theorem toCmtWelcome_at (wk ik is sk ss : ByteArray) (w : World) : Calls Try.prog 20 #[.agg #[.string wk, .string ik, .string is, .string sk, .string ss]] w fun e w' => e = .returned (.agg #[.string wk, .string ik, .string is, .string sk, .string ss]) ∧ Below w.heap.size w w' := toCmtWelcome_any ⟨wk, ik, is, sk, ss⟩ w

set_option maxRecDepth 100000 in
set_option maxHeartbeats 1000000 in
theorem toCmtCommit_any (c : Cmt) (ks bs : Value) (w : World) (hK : SRow w ks c.keys) (hO : BRow w bs c.boxes) (hl1 : c.keys.length ≤ 1048576) (hl2 : c.boxes.length ≤ 1048576) :
    Calls Try.prog 6 #[.agg (c.cells ks bs)] w fun e w' => ∃ ks' bs' : Value, e = .returned (.agg (c.cells ks' bs')) ∧ Own w.heap.size w' ks' c.keys ∧ OwnB w.heap.size w' bs' c.boxes ∧ Below w.heap.size w w' := by
  obtain ⟨se, tag, name, add, rem, leaf, keys, boxes, wk, ik, is, sk, ss⟩ := c
  simp only at hK hO hl1 hl2 ⊢
  have HK := hide hK
  have HO := hide hO
  have HL : Hid (keys.length ≤ 1048576 ∧ boxes.length ≤ 1048576) := ⟨hl1, hl2⟩
  obtain ⟨a1, p1, rfl, _, _, z1⟩ := hK.form
  obtain ⟨a2, p2, rfl, _, _, z2⟩ := hO
  clear hK hl1 hl2 z1 z2
  have a1' := ((Blk.new (w.alloc (.cells (cmtC se tag name add rem leaf (.slice a1 keys.length p1) (.slice a2 boxes.length p2) wk ik is sk ss) 29)) 37 noCmt).alloc (.cells (cmtC se tag name add rem leaf (.slice none 0 0) (.slice none 0 0) ⟨#[]⟩ ⟨#[]⟩ ⟨#[]⟩ ⟨#[]⟩ ⟨#[]⟩) 37))
  have b1' := Blk.new ((w.alloc (.cells (cmtC se tag name add rem leaf (.slice a1 keys.length p1) (.slice a2 boxes.length p2) wk ik is sk ss) 29)).alloc (.cells noCmt 37)) 37 (cmtC se tag name add rem leaf (.slice none 0 0) (.slice none 0 0) ⟨#[]⟩ ⟨#[]⟩ ⟨#[]⟩ ⟨#[]⟩ ⟨#[]⟩)
  have Z := hide (((Blk.new w 29 (cmtC se tag name add rem leaf (.slice a1 keys.length p1) (.slice a2 boxes.length p2) wk ik is sk ss)).alloc (.cells noCmt 37)).alloc (.cells (cmtC se tag name add rem leaf (.slice none 0 0) (.slice none 0 0) ⟨#[]⟩ ⟨#[]⟩ ⟨#[]⟩ ⟨#[]⟩ ⟨#[]⟩) 37))
  have HB := hide ((((Below.refl w.heap.size w).alloc (Nat.le_refl _) (.cells (cmtC se tag name add rem leaf (.slice a1 keys.length p1) (.slice a2 boxes.length p2) wk ik is sk ss) 29)).alloc (by simp) (.cells noCmt 37)).alloc (by simp; omega) (.cells (cmtC se tag name add rem leaf (.slice none 0 0) (.slice none 0 0) ⟨#[]⟩ ⟨#[]⟩ ⟨#[]⟩ ⟨#[]⟩ ⟨#[]⟩) 37))
  simp only [World.size_alloc] at a1' b1'
  have R := hide a1'
  have V := hide b1'
  clear a1' b1'
  go_enter Try.func6, Try.ntmps6
  go_wp2_with fail
  refine (toStringS_any _ keys _ ((unhide HK).below (unhide HB)) HL.out.1).mono ?_
  rintro e w1 ⟨v1, rfl, ho1, hb⟩
  replace R := hide ((unhide R).below hb)
  replace V := hide ((unhide V).below hb)
  replace Z := hide ((unhide Z).below hb)
  have k1 : Own w.heap.size w1 v1 keys := row_lowB ho1 HB.out.size
  replace HB := hide (HB.out.trans (hb.mono HB.out.size))
  clear hb ho1
  obtain ⟨o1, n1, rfl⟩ := row_form' k1
  have c6 := (unhide V).cell 6
  have f6 := (unhide V).frozen 6
  have z7 := ((unhide Z).otherC (b' := w.heap.size + 1 + 1) (i := 6) (by omega) (.slice o1 keys.length n1)).cell 7
  simp only [List.getElem?_toArray, List.getElem?_cons_succ, List.getElem?_cons_zero] at c6 z7
  have v2 := heap_setAt (i := 6) (unhide V) (.slice o1 keys.length n1)
  simp only [List.setIfInBounds_toArray, List.set_cons_zero, List.set_cons_succ] at v2
  have K1 : Hid (Own w.heap.size (w1.setCell ⟨w.heap.size + 1 + 1, 6, none⟩ (.slice o1 keys.length n1)) (.slice o1 keys.length n1) keys) := row_setC k1 (unhide V) (by decide) _
  replace R := hide ((unhide R).otherC (b' := w.heap.size + 1 + 1) (i := 6) (by omega) (.slice o1 keys.length n1))
  replace Z := hide ((unhide Z).otherC (b' := w.heap.size + 1 + 1) (i := 6) (by omega) (.slice o1 keys.length n1))
  replace HB := hide (HB.out.setCell (p := ⟨w.heap.size + 1 + 1, 6, none⟩) (by show w.heap.size ≤ w.heap.size + 1 + 1; omega) (.slice o1 keys.length n1))
  replace V := hide v2
  clear v2 k1
  go_wp2_with fail
  refine (toKnwBoxS_any _ boxes _ ((unhide HO).below (unhide HB)) HL.out.2).mono ?_
  rintro e w2 ⟨v2, rfl, ho2, hb⟩
  replace R := hide ((unhide R).below hb)
  replace V := hide ((unhide V).below hb)
  replace Z := hide ((unhide Z).below hb)
  replace K1 := hide (Own.below (unhide K1) hb)
  have k2 : OwnB w.heap.size w2 v2 boxes := row_lowB ho2 HB.out.size
  replace HB := hide (HB.out.trans (hb.mono HB.out.size))
  clear hb ho2 c6 f6 z7
  obtain ⟨o2, n2, rfl⟩ := row_form' k2
  have c7 := (unhide V).cell 7
  have f7 := (unhide V).frozen 7
  have zz := (unhide Z).otherC (b' := w.heap.size + 1 + 1) (i := 7) (by omega) (.slice o2 boxes.length n2)
  have z8 := zz.cell 8
  have z9 := zz.cell 9
  have z10 := zz.cell 10
  have z11 := zz.cell 11
  have z12 := zz.cell 12
  simp only [List.getElem?_toArray, List.getElem?_cons_succ, List.getElem?_cons_zero] at c7 z8 z9 z10 z11 z12
  have v3 := heap_setAt (i := 7) (unhide V) (.slice o2 boxes.length n2)
  simp only [List.setIfInBounds_toArray, List.set_cons_zero, List.set_cons_succ] at v3
  replace K1 : Hid (Own w.heap.size _ _ keys) := row_setC (i := 7) (unhide K1) (unhide V) (by decide) (.slice o2 boxes.length n2)
  have K2 : Hid (OwnB w.heap.size (w2.setCell ⟨w.heap.size + 1 + 1, 7, none⟩ (.slice o2 boxes.length n2)) (.slice o2 boxes.length n2) boxes) := row_setC k2 (unhide V) (by decide) _
  replace R := hide ((unhide R).otherC (b' := w.heap.size + 1 + 1) (i := 7) (by omega) (.slice o2 boxes.length n2))
  replace HB := hide (HB.out.setCell (p := ⟨w.heap.size + 1 + 1, 7, none⟩) (by show w.heap.size ≤ w.heap.size + 1 + 1; omega) (.slice o2 boxes.length n2))
  replace V := hide v3
  clear v3 k2 zz Z
  go_wp2_with fail
  refine (toCmtWelcome_at wk ik is sk ss _).mono ?_
  rintro e w3 ⟨rfl, hb⟩
  replace R := hide ((unhide R).below hb)
  replace V := hide ((unhide V).below hb)
  replace K1 := hide (Own.below (unhide K1) hb)
  replace K2 : Hid (OwnB w.heap.size w3 _ boxes) := own_below' (unhide K2) hb
  replace HB := hide (HB.out.trans (hb.mono HB.out.size))
  clear hb c7 f7 z8 z9 z10 z11 z12
  have ht := (unhide V).there (o := 8) (n := 5) (by simp)
  have v3 := (unhide V).setCells [.string wk, .string ik, .string is, .string sk, .string ss] 8
  simp only [setAll, List.setIfInBounds_toArray, List.set_cons_zero, List.set_cons_succ] at v3
  have V3 := hide v3
  have K3 : Hid (Own w.heap.size _ _ keys) := row_setCs (o := 8) (unhide K1) (unhide V) (by decide) [.string wk, .string ik, .string is, .string sk, .string ss]
  have K4 : Hid (OwnB w.heap.size _ _ boxes) := row_setCs (o := 8) (unhide K2) (unhide V) (by decide) [.string wk, .string ik, .string is, .string sk, .string ss]
  have R3 := hide ((unhide R).otherCs (b' := w.heap.size + 1 + 1) (o := 8) (by omega) [.string wk, .string ik, .string is, .string sk, .string ss])
  have HB3 := hide (below_setCs (b := w.heap.size + 1 + 1) (o := 8) HB.out (by omega) HB.out.size [.string wk, .string ik, .string is, .string sk, .string ss])
  have HT := hide ht
  have l1 := load_cm v3 rfl
  have L1 := hide l1
  clear ht v3 V K1 K2 R HB HK HO HL l1
  obtain ⟨W, hW⟩ : ∃ W, w3.setCells (w.heap.size + 1 + 1) 8 [.string wk, .string ik, .string is, .string sk, .string ss] = W := ⟨_, rfl⟩
  rw [hW] at V3 K3 K4 R3 HB3 L1
  have HW := hide hW
  clear hW
  go_wp2_with (first | (refine wpList_store_mid rfl 35 _ _ rfl (w.heap.size + 1 + 1) 8 #[.string wk, .string ik, .string is, .string sk, .string ss] rfl rfl (by exact unhide HT) info_we (one_we _ _ _ _ _) ?_; rw [HW.out]) | refine wpList_load_whole rfl 37 _ rfl ⟨w.heap.size + 1 + 1, 0, none⟩ rfl _ (by exact unhide L1) ?_ | (refine wpList_store_whole rfl 37 (.tmp 2) (.tmp 34) rfl (w.heap.size + 1) (cmtC se tag name add rem leaf (.slice o1 keys.length n1) (.slice o2 boxes.length n2) wk ik is sk ss) ?hx ?hy 37 noCmt ?hb ?hi ?ho ?h1 ?h))
  case hb => exact unhide R3
  case hi => exact info_cm
  case ho => rfl
  case h1 => exact (one_cm _ _ _ _ _ _ _ _ _ _ _ _ _ _ _ _ _)
  go_wp2_with fail
  have l2 := load_cm ((unhide R3).set (cmtC se tag name add rem leaf (.slice o1 keys.length n1) (.slice o2 boxes.length n2) wk ik is sk ss)) rfl
  refine bodyPost_ret (v := .agg (cmtC se tag name add rem leaf (.slice o1 keys.length n1) (.slice o2 boxes.length n2) wk ik is sk ss)) (results_cell rfl rfl l2) rfl ⟨_, _, rfl, ?_, ?_, ?_⟩
  · exact row_blk (unhide K3) (unhide R3) (by decide) _
  · exact row_blk (unhide K4) (unhide R3) (by decide) _
  · exact below_blk HB3.out (by omega) _
#print axioms toCmtCommit_any
end Go.Proofs.Yteiojanamkndmaa
/-
  The specification's CmtOk.
-/
namespace Go.Proofs.Yteiojanamkndmaa
open Go.RowKit

def inB (lo hi n : Int) : Bool := decide (lo ≤ n) && decide (n ≤ hi)
theorem l1In_any (n lo hi : Int) (w : World) :
    Calls Try.prog 12 #[.int .i64 n, .int .i64 lo, .int .i64 hi] w fun e w' => e = .returned (.bool (inB lo hi n)) ∧ w' = w := by
  by_cases h : lo ≤ n ∧ n ≤ hi
  · rw [show inB lo hi n = true by unfold inB; simp [h.1, h.2]]
    exact l1In_yes n lo hi w h.1 h.2
  · rw [show inB lo hi n = false by unfold inB; simp; omega]
    exact l1In_no n lo hi w (by omega)

/-- What stands behind all names: of nobody who comes, nothing; else keys, and what it is told. -/
def tailS (c : Cmt) : Bool := if c.add < 0 then decide (c.leaf = ByteArray.empty) && decide (c.wel = Wel.none) else keyB c.leaf && (keyB c.wel.key && (decide (c.leaf ≠ c.wel.key) && (decide (c.wel.ik = c.wel.key) && (decide (c.wel.sk = c.wel.key) && (Kw.ok c.wel.is && Kw.ok c.wel.ss)))))
theorem tailS_eq (c : Cmt) : tailS c = if c.add < 0 then decide (c.leaf = ByteArray.empty) && decide (c.wel = Wel.none) else keyB c.leaf && (keyB c.wel.key && (decide (c.leaf ≠ c.wel.key) && (decide (c.wel.ik = c.wel.key) && (decide (c.wel.sk = c.wel.key) && (Kw.ok c.wel.is && Kw.ok c.wel.ss))))) := rfl
theorem mOp_ok {s : ByteArray} {n : Int} (h : mOp s = n) (hn : n ≠ 0) : Kw.ok s = true := by
  cases q : Kw.ok s with
  | true => rfl
  | false => exact absurd (by rw [← h]; unfold mOp; rw [if_neg (by rw [q]; simp)]) hn
theorem keyB_op (s : ByteArray) : keyB s = decide (mOp s = 3) := by
  unfold keyB
  by_cases h : mOp s = 3
  · rw [mOp_ok h (by decide)]; simp [h]
  · simp [h]
theorem tail_plain (c : Cmt) (h : -1 ≤ c.add) : tailS c = (keysOfB c.add c.leaf c.wel.key && welB c.add c.wel) := by
  unfold tailS keysOfB welB
  by_cases ha : c.add < 0
  · rw [if_pos ha, if_pos (by omega), if_pos (by omega)]
    by_cases hw : c.wel = Wel.none
    · rw [hw]; simp [Wel.none]
      intro _
      rfl
    · simp [hw]
  · rw [if_neg ha, if_neg (by omega), if_neg (by omega), keyB_op, keyB_op]
    simp only [Bool.and_assoc]
theorem text_nil {x : ByteArray} : x = ByteArray.empty ↔ x.toList = [] := ⟨fun h => by rw [h]; exact nil_text, fun h => Classical.byContradiction fun q => no_text q h⟩
theorem wel_dec (wk ik is sk ss : ByteArray) : decide ((⟨wk, ik, is, sk, ss⟩ : Wel) = Wel.none) = (decide (wk.toList = []) && (decide (ik.toList = []) && (decide (is.toList = []) && (decide (sk.toList = []) && decide (ss.toList = []))))) := by
  have e : (⟨#[]⟩ : ByteArray) = ByteArray.empty := rfl
  rw [Bool.eq_iff_iff]
  simp only [Wel.none, Wel.mk.injEq, e, text_nil, decide_eq_true_eq, Bool.and_eq_true]
theorem str_dec (x y : ByteArray) : (x.toList == y.toList) = decide (x = y) := by
  rw [Bool.eq_iff_iff, toList_eq]; simp
theorem cmtOk_spec (c : Cmt) : cmtOk c = (inB 0 7 c.sender && (Kw.ok c.name && (decide (mOp c.name = 1) && (decide (c.tag.size + c.name.size ≤ 300) && (inB (-1) 7 c.add && (inB (-1) 7 c.rem && (decide (c.add ≠ c.sender) && (decide (c.rem ≠ c.sender) && (treOk c.keys && (okBoxes c.boxes && (decide (c.boxes.length ≤ 20) && tailS c))))))))))) := by
  by_cases h1 : inB 0 7 c.sender = true
  · have hs : 0 ≤ c.sender ∧ c.sender ≤ 7 := by unfold inB at h1; simpa using h1
    by_cases h2 : inB (-1) 7 c.add = true
    · have ha : -1 ≤ c.add ∧ c.add ≤ 7 := by unfold inB at h2; simpa using h2
      rw [tail_plain c ha.1]
      have e1 : otherB c.add c.sender = decide (c.add ≠ c.sender) := by
        unfold otherB oneB; rw [Bool.eq_iff_iff]; simp; omega
      have e2 : otherB c.rem c.sender = (inB (-1) 7 c.rem && decide (c.rem ≠ c.sender)) := by
        unfold otherB oneB inB; rw [Bool.eq_iff_iff]; simp; omega
      have e3 : (Kw.ok c.name && decide (mOp c.name = 1)) = decide (mOp c.name = 1) := by
        by_cases h : mOp c.name = 1
        · rw [mOp_ok h (by decide)]; simp
        · simp [h]
      unfold cmtOk
      rw [show oneB c.sender = inB 0 7 c.sender from rfl, h1, h2, e1, e2, ← e3]
      generalize Kw.ok c.name = b1
      generalize decide (mOp c.name = 1) = b2
      generalize decide (c.tag.size + c.name.size ≤ 300) = b3
      generalize inB (-1) 7 c.rem = b4
      generalize decide (c.add ≠ c.sender) = b5
      generalize decide (c.rem ≠ c.sender) = b6
      generalize treOk c.keys = b7
      generalize okBoxes c.boxes = b8
      generalize decide (c.boxes.length ≤ 20) = b9
      generalize keysOfB c.add c.leaf c.wel.key = b10
      generalize welB c.add c.wel = b11
      cases b1 <;> cases b2 <;> cases b3 <;> cases b4 <;> cases b5 <;> cases b6 <;> cases b7 <;> simp
      all_goals (cases b8 <;> cases b9 <;> cases b10 <;> cases b11 <;> rfl)
    · have e1 : otherB c.add c.sender = false := by
        unfold inB at h2
        simp at h2
        unfold otherB oneB; rw [Bool.eq_false_iff]; simp; omega
      unfold cmtOk
      rw [e1, show inB (-1) 7 c.add = false by simpa using h2]
      simp
  · have e1 : inB 0 7 c.sender = false := by simpa using h1
    unfold cmtOk
    rw [show oneB c.sender = inB 0 7 c.sender from rfl, e1]
    simp

set_option maxRecDepth 100000 in
set_option maxHeartbeats 8000000 in
theorem sCmtOk_any (c : Cmt) (ks bs : Value) (w : World) (hK : SRow w ks c.keys) (hO : BRow w bs c.boxes) (hkm : ∀ x ∈ c.keys, x.size ≤ maxLen) (hbm : ∀ b ∈ c.boxes, b.1.size ≤ maxLen ∧ b.2.size ≤ maxLen)
    (hnm : c.name.size ≤ 2000000) (htm : c.tag.size ≤ 2000000) (hlm : c.leaf.size ≤ maxLen) (h1m : c.wel.key.size ≤ maxLen) (h2m : c.wel.is.size ≤ maxLen) (h3m : c.wel.ss.size ≤ maxLen) :
    Calls Try.prog 5 #[.agg (c.cells ks bs)] w fun e w' => e = .returned (.bool (cmtOk c)) ∧ Below w.heap.size w w' := by
  have HE0 : Hid (cmtOk c = _) := cmtOk_spec c
  have HTL : Hid (tailS c = _) := tailS_eq c
  obtain ⟨se, tag, name, add, rem, leaf, keys, boxes, wk, ik, is, sk, ss⟩ := c
  simp only at hK hO hkm hbm hnm htm hlm h1m h2m h3m HE0 HTL ⊢
  have HK := hide hK
  have HO := hide hO
  have HKM := hide hkm
  have HBM := hide hbm
  have M : Hid (name.size ≤ maxLen ∧ leaf.size ≤ maxLen ∧ wk.size ≤ maxLen ∧ is.size ≤ maxLen ∧ ss.size ≤ maxLen) := ⟨Nat.le_trans hnm (by unfold maxLen; omega), hlm, h1m, h2m, h3m⟩
  obtain ⟨a1, p1, rfl, _, _, _⟩ := hK.form
  obtain ⟨a2, p2, rfl, _, _, _⟩ := hO
  have hsum : IntKind.i64.wrap ((tag.size : Int) + (name.size : Int)) = (tag.size : Int) + (name.size : Int) := by simp [IntKind.wrap, IntKind.bits, IntKind.signed]; rw [if_neg (by omega), Int.emod_eq_of_lt (by omega) (by omega)]
  clear hK hkm hbm hnm htm hlm h1m h2m h3m
  obtain ⟨r, hr⟩ : ∃ r, cmtOk ⟨se, tag, name, add, rem, leaf, keys, boxes, wk, ik, is, sk, ss⟩ = r := ⟨_, rfl⟩
  rw [hr] at HE0 ⊢
  clear hr
  obtain ⟨tl, htl⟩ : ∃ tl, tailS ⟨se, tag, name, add, rem, leaf, keys, boxes, wk, ik, is, sk, ss⟩ = tl := ⟨_, rfl⟩
  rw [htl] at HE0 HTL
  clear htl
  have A := hide (Blk.new w 37 (cmtC se tag name add rem leaf (.slice a1 keys.length p1) (.slice a2 boxes.length p2) wk ik is sk ss))
  have HB : Hid (Below w.heap.size w (w.alloc (.cells (cmtC se tag name add rem leaf (.slice a1 keys.length p1) (.slice a2 boxes.length p2) wk ik is sk ss) 37))) := (Below.refl _ _).alloc (Nat.le_refl _) _
  generalize keys.length = kl at *
  generalize hbl : boxes.length = bl at *
  have HBL := hide hbl
  clear hbl
  go_enter Try.func5, Try.ntmps5
  go_wp2_with fail
  refine (l1In_any se 0 7 _).mono ?_
  obtain ⟨b1, hb1⟩ : ∃ b1, inB 0 7 se = b1 := ⟨_, rfl⟩
  rw [hb1] at HE0 ⊢
  have HB1 := hide hb1
  clear hb1
  cases b1 with
  | false =>
    rintro e wz ⟨rfl, rfl⟩
    have HF : Hid (r = false) := by show _ = _; rw [HE0.out]; rfl
    clear HE0 HTL
    go_wp2_with fail
    go_ret
    exact ⟨ret_bool' HF.out.symm, unhide HB⟩
  | true =>
    rintro e wz ⟨rfl, rfl⟩
    simp only [Bool.true_and] at HE0
    have c2 := (unhide A).cell 2
    simp only [List.getElem?_toArray, List.getElem?_cons_succ, List.getElem?_cons_zero] at c2
    go_wp2_with fail
    clear c2
    refine (sSecOk_any name _ M.out.1).mono ?_
    obtain ⟨b2, hb2⟩ : ∃ b2, Kw.ok name = b2 := ⟨_, rfl⟩
    rw [hb2] at HE0 ⊢
    have HB2 := hide hb2
    clear hb2
    cases b2 with
    | false =>
      rintro e w1 ⟨rfl, hb⟩
      replace A := hide ((unhide A).below hb)
      replace HB := hide (HB.out.trans (hb.mono HB.out.size))
      clear hb
      have HF : Hid (r = false) := by show _ = _; rw [HE0.out]; rfl
      clear HE0 HTL
      go_wp2_with fail
      go_ret
      exact ⟨ret_bool' HF.out.symm, unhide HB⟩
    | true =>
      rintro e w1 ⟨rfl, hb⟩
      replace A := hide ((unhide A).below hb)
      replace HB := hide (HB.out.trans (hb.mono HB.out.size))
      clear hb
      simp only [Bool.true_and] at HE0
      have c2 := (unhide A).cell 2
      simp only [List.getElem?_toArray, List.getElem?_cons_succ, List.getElem?_cons_zero] at c2
      go_wp2_with fail
      clear c2
      refine (l1How_any name _ HB2.out).mono ?_
      rw [how_field]
      rintro e w1 ⟨rfl, hb⟩
      replace A := hide ((unhide A).below hb)
      replace HB := hide (HB.out.trans (hb.mono HB.out.size))
      clear hb
      have hfl := field_op
      generalize mOp name = op at *
      by_cases hc : op = 1
      rotate_left
      · rw [show decide (op = 1) = false by simpa using hc] at HE0
        have hz : (op != 1) = true := by simpa using hc
        have hz2 : (op == 1) = false := by simpa using hc
        have hz3 : ¬ op = 1 := hc
        clear hc
        have c0 := (unhide A).cell 0
        have c1 := (unhide A).cell 1
        have c2 := (unhide A).cell 2
        have c3 := (unhide A).cell 3
        have c4 := (unhide A).cell 4
        simp only [List.getElem?_toArray, List.getElem?_cons_succ, List.getElem?_cons_zero] at c0 c1 c2 c3 c4
        have HF : Hid (r = false) := by show _ = _; rw [HE0.out]; rfl
        clear HE0 HTL
        go_wp2_with fail
        go_ret
        exact ⟨ret_bool' HF.out.symm, unhide HB⟩
      rw [show decide (op = 1) = true by simpa using hc] at HE0
      simp only [Bool.true_and] at HE0
      subst hc
      by_cases hc : tag.size + name.size ≤ 300
      rotate_left
      · rw [show decide (tag.size + name.size ≤ 300) = false by simpa using hc] at HE0
        have hz : (300 : Int) < (tag.size : Int) + (name.size : Int) := by omega
        clear hc
        have c0 := (unhide A).cell 0
        have c1 := (unhide A).cell 1
        have c2 := (unhide A).cell 2
        have c3 := (unhide A).cell 3
        have c4 := (unhide A).cell 4
        simp only [List.getElem?_toArray, List.getElem?_cons_succ, List.getElem?_cons_zero] at c0 c1 c2 c3 c4
        have HF : Hid (r = false) := by show _ = _; rw [HE0.out]; rfl
        clear HE0 HTL
        go_wp2_with fail
        go_ret
        exact ⟨ret_bool' HF.out.symm, unhide HB⟩
      rw [show decide (tag.size + name.size ≤ 300) = true by simpa using hc] at HE0
      simp only [Bool.true_and] at HE0
      have hz1 : decide ((300 : Int) < (tag.size : Int) + (name.size : Int)) = false := by simp; omega
      clear hc
      have c1 := (unhide A).cell 1
      have c2 := (unhide A).cell 2
      have c3 := (unhide A).cell 3
      simp only [List.getElem?_toArray, List.getElem?_cons_succ, List.getElem?_cons_zero] at c1 c2 c3
      go_wp2_with fail
      clear c1 c2 c3
      refine (l1In_any add (-1) 7 _).mono ?_
      obtain ⟨b3, hb3⟩ : ∃ b3, inB (-1) 7 add = b3 := ⟨_, rfl⟩
      rw [hb3] at HE0 ⊢
      have HB3 := hide hb3
      clear hb3
      cases b3 with
      | false =>
        rintro e wz ⟨rfl, rfl⟩
        have HF : Hid (r = false) := by show _ = _; rw [HE0.out]; rfl
        clear HE0 HTL
        go_wp2_with fail
        go_ret
        exact ⟨ret_bool' HF.out.symm, unhide HB⟩
      | true =>
        rintro e wz ⟨rfl, rfl⟩
        simp only [Bool.true_and] at HE0
        have c4 := (unhide A).cell 4
        simp only [List.getElem?_toArray, List.getElem?_cons_succ, List.getElem?_cons_zero] at c4
        go_wp2_with fail
        clear c4
        refine (l1In_any rem (-1) 7 _).mono ?_
        obtain ⟨b4, hb4⟩ : ∃ b4, inB (-1) 7 rem = b4 := ⟨_, rfl⟩
        rw [hb4] at HE0 ⊢
        have HB4 := hide hb4
        clear hb4
        cases b4 with
        | false =>
          rintro e wz ⟨rfl, rfl⟩
          have HF : Hid (r = false) := by show _ = _; rw [HE0.out]; rfl
          clear HE0 HTL
          go_wp2_with fail
          go_ret
          exact ⟨ret_bool' HF.out.symm, unhide HB⟩
        | true =>
          rintro e wz ⟨rfl, rfl⟩
          simp only [Bool.true_and] at HE0
          by_cases hc : add ≠ se
          rotate_left
          · rw [show decide (add ≠ se) = false by simpa using hc] at HE0
            simp only [ne_eq, Classical.not_not] at hc
            have hz : (add == se) = true := by simpa using hc
            clear hc
            have c0 := (unhide A).cell 0
            have c3 := (unhide A).cell 3
            have c4 := (unhide A).cell 4
            simp only [List.getElem?_toArray, List.getElem?_cons_succ, List.getElem?_cons_zero] at c0 c3 c4
            have HF : Hid (r = false) := by show _ = _; rw [HE0.out]; rfl
            clear HE0 HTL
            go_wp2_with fail
            go_ret
            exact ⟨ret_bool' HF.out.symm, unhide HB⟩
          rw [show decide (add ≠ se) = true by simpa using hc] at HE0
          simp only [Bool.true_and] at HE0
          have hz2 : (add == se) = false := by simpa using hc
          clear hc
          by_cases hc : rem ≠ se
          rotate_left
          · rw [show decide (rem ≠ se) = false by simpa using hc] at HE0
            simp only [ne_eq, Classical.not_not] at hc
            have hz : (rem == se) = true := by simpa using hc
            clear hc
            have c0 := (unhide A).cell 0
            have c3 := (unhide A).cell 3
            have c4 := (unhide A).cell 4
            simp only [List.getElem?_toArray, List.getElem?_cons_succ, List.getElem?_cons_zero] at c0 c3 c4
            have HF : Hid (r = false) := by show _ = _; rw [HE0.out]; rfl
            clear HE0 HTL
            go_wp2_with fail
            go_ret
            exact ⟨ret_bool' HF.out.symm, unhide HB⟩
          rw [show decide (rem ≠ se) = true by simpa using hc] at HE0
          simp only [Bool.true_and] at HE0
          have hz3 : (rem == se) = false := by simpa using hc
          clear hc
          have c0 := (unhide A).cell 0
          have c3 := (unhide A).cell 3
          have c4 := (unhide A).cell 4
          have c6 := (unhide A).cell 6
          simp only [List.getElem?_toArray, List.getElem?_cons_succ, List.getElem?_cons_zero] at c0 c3 c4 c6
          go_wp2_with fail
          clear c0 c3 c4 c6
          refine (sTreOk_any _ keys _ ((unhide HK).below (unhide HB)) (unhide HKM)).mono ?_
          obtain ⟨b5, hb5⟩ : ∃ b5, treOk keys = b5 := ⟨_, rfl⟩
          rw [hb5] at HE0 ⊢
          have HB5 := hide hb5
          clear hb5
          cases b5 with
          | false =>
            rintro e w1 ⟨rfl, hb⟩
            replace A := hide ((unhide A).below hb)
            replace HB := hide (HB.out.trans (hb.mono HB.out.size))
            clear hb
            have HF : Hid (r = false) := by show _ = _; rw [HE0.out]; rfl
            clear HE0 HTL
            go_wp2_with fail
            go_ret
            exact ⟨ret_bool' HF.out.symm, unhide HB⟩
          | true =>
            rintro e w1 ⟨rfl, hb⟩
            replace A := hide ((unhide A).below hb)
            replace HB := hide (HB.out.trans (hb.mono HB.out.size))
            clear hb
            simp only [Bool.true_and] at HE0
            have c7 := (unhide A).cell 7
            simp only [List.getElem?_toArray, List.getElem?_cons_succ, List.getElem?_cons_zero] at c7
            go_wp2_with fail
            clear c7
            refine (l2Boxes_any _ boxes _ ((unhide HO).below (unhide HB)) (unhide HBM)).mono ?_
            obtain ⟨b6, hb6⟩ : ∃ b6, okBoxes boxes = b6 := ⟨_, rfl⟩
            rw [hb6] at HE0 ⊢
            have HB6 := hide hb6
            clear hb6
            cases b6 with
            | false =>
              rintro e w1 ⟨rfl, hb⟩
              replace A := hide ((unhide A).below hb)
              replace HB := hide (HB.out.trans (hb.mono HB.out.size))
              clear hb
              have HF : Hid (r = false) := by show _ = _; rw [HE0.out]; rfl
              clear HE0 HTL
              go_wp2_with fail
              go_ret
              exact ⟨ret_bool' HF.out.symm, unhide HB⟩
            | true =>
              rintro e w1 ⟨rfl, hb⟩
              replace A := hide ((unhide A).below hb)
              replace HB := hide (HB.out.trans (hb.mono HB.out.size))
              clear hb
              simp only [Bool.true_and] at HE0
              by_cases hc : bl ≤ 20
              rotate_left
              · rw [show decide (bl ≤ 20) = false by simpa using hc] at HE0
                have hz : (20 : Int) < (bl : Int) := by omega
                clear hc
                have c7 := (unhide A).cell 7
                simp only [List.getElem?_toArray, List.getElem?_cons_succ, List.getElem?_cons_zero] at c7
                have HF : Hid (r = false) := by show _ = _; rw [HE0.out]; rfl
                clear HE0 HTL
                go_wp2_with fail
                go_ret
                exact ⟨ret_bool' HF.out.symm, unhide HB⟩
              rw [show decide (bl ≤ 20) = true by simpa using hc] at HE0
              simp only [Bool.true_and] at HE0
              have hz4 : decide ((20 : Int) < (bl : Int)) = false := by simp; omega
              clear hc
              by_cases ha : add < 0
              · rw [if_pos ha] at HTL
                replace HE0 : Hid (r = _) := HE0.out.trans HTL.out
                clear HTL
                by_cases hlf : leaf = ByteArray.empty
                rotate_left
                · rw [show decide (leaf = ByteArray.empty) = false by simpa using hlf] at HE0
                  have hz : ¬ leaf.toList = [] := no_text hlf
                  have hz2 : leaf.toList.isEmpty = false := by simpa using no_text hlf
                  clear hlf
                  have HTL : Hid True := trivial
                  have c3 := (unhide A).cell 3
                  have c5 := (unhide A).cell 5
                  have c7 := (unhide A).cell 7
                  simp only [List.getElem?_toArray, List.getElem?_cons_succ, List.getElem?_cons_zero] at c3 c5 c7
                  have HF : Hid (r = false) := by show _ = _; rw [HE0.out]; rfl
                  clear HE0 HTL
                  go_wp2_with fail
                  go_ret
                  exact ⟨ret_bool' HF.out.symm, unhide HB⟩
                subst hlf
                have hz5 : (ByteArray.empty).toList = [] := nil_text
                have c3 := (unhide A).cell 3
                have c5 := (unhide A).cell 5
                have c7 := (unhide A).cell 7
                have c8 := (unhide A).cell 8
                have c9 := (unhide A).cell 9
                have c10 := (unhide A).cell 10
                have c11 := (unhide A).cell 11
                have c12 := (unhide A).cell 12
                simp only [List.getElem?_toArray, List.getElem?_cons_succ, List.getElem?_cons_zero] at c3 c5 c7 c8 c9 c10 c11 c12
                go_wp2_with fail
                all_goals
                  go_ret
                  refine ⟨ret_bool' ?_, unhide HB⟩
                  rw [HE0.out, wel_dec]
                  simp [*]
              · rw [if_neg ha] at HTL
                replace HE0 : Hid (r = _) := HE0.out.trans HTL.out
                clear HTL
                have HTL : Hid True := trivial
                have ha2 : decide (add < 0) = false := by simpa using ha
                clear ha
                have c3 := (unhide A).cell 3
                have c7 := (unhide A).cell 7
                have c8 := (unhide A).cell 8
                have c9 := (unhide A).cell 9
                have c10 := (unhide A).cell 10
                have c11 := (unhide A).cell 11
                have c12 := (unhide A).cell 12
                simp only [List.getElem?_toArray, List.getElem?_cons_succ, List.getElem?_cons_zero] at c3 c7 c8 c9 c10 c11 c12
                have B := hide (Blk.new w1 35 #[.string wk, .string ik, .string is, .string sk, .string ss])
                replace A := hide ((unhide A).alloc (.cells #[.string wk, .string ik, .string is, .string sk, .string ss] 35))
                have HBS := HB.out.size
                replace HB := hide (HB.out.alloc HBS (.cells #[.string wk, .string ik, .string is, .string sk, .string ss] 35))
                have c5 := (unhide A).cell 5
                simp only [List.getElem?_toArray, List.getElem?_cons_succ, List.getElem?_cons_zero] at c5
                go_wp2_with fail
                clear c3 c7 c8 c9 c10 c11 c12 c5
                refine (l4Key_any leaf _ M.out.2.1).mono ?_
                obtain ⟨b7, hb7⟩ : ∃ b7, keyB leaf = b7 := ⟨_, rfl⟩
                rw [hb7] at HE0 ⊢
                have HB7 := hide hb7
                clear hb7
                cases b7 with
                | false =>
                  rintro e w2 ⟨rfl, hb⟩
                  replace B := hide ((unhide B).below hb)
                  replace A := hide ((unhide A).below hb)
                  replace HB := hide (HB.out.trans (hb.mono HB.out.size))
                  clear hb
                  have HF : Hid (r = false) := by show _ = _; rw [HE0.out]; rfl
                  clear HE0 HTL
                  go_wp2_with fail
                  go_ret
                  exact ⟨ret_bool' HF.out.symm, unhide HB⟩
                | true =>
                  rintro e w2 ⟨rfl, hb⟩
                  replace B := hide ((unhide B).below hb)
                  replace A := hide ((unhide A).below hb)
                  replace HB := hide (HB.out.trans (hb.mono HB.out.size))
                  clear hb
                  simp only [Bool.true_and] at HE0
                  have d0 := (unhide B).cell 0
                  simp only [List.getElem?_toArray, List.getElem?_cons_zero] at d0
                  go_wp2_with fail
                  clear d0
                  refine (l4Key_any wk _ M.out.2.2.1).mono ?_
                  obtain ⟨b8, hb8⟩ : ∃ b8, keyB wk = b8 := ⟨_, rfl⟩
                  rw [hb8] at HE0 ⊢
                  have HB8 := hide hb8
                  clear hb8
                  cases b8 with
                  | false =>
                    rintro e w2 ⟨rfl, hb⟩
                    replace B := hide ((unhide B).below hb)
                    replace A := hide ((unhide A).below hb)
                    replace HB := hide (HB.out.trans (hb.mono HB.out.size))
                    clear hb
                    have HF : Hid (r = false) := by show _ = _; rw [HE0.out]; rfl
                    clear HE0 HTL
                    go_wp2_with fail
                    go_ret
                    exact ⟨ret_bool' HF.out.symm, unhide HB⟩
                  | true =>
                    rintro e w2 ⟨rfl, hb⟩
                    replace B := hide ((unhide B).below hb)
                    replace A := hide ((unhide A).below hb)
                    replace HB := hide (HB.out.trans (hb.mono HB.out.size))
                    clear hb
                    simp only [Bool.true_and] at HE0
                    by_cases hc : leaf ≠ wk
                    rotate_left
                    · rw [show decide (leaf ≠ wk) = false by simpa using hc] at HE0
                      simp only [ne_eq, Classical.not_not] at hc
                      have hq : (leaf.toList == wk.toList) = true := toList_eq.2 hc
                      clear hc
                      have c5 := (unhide A).cell 5
                      simp only [List.getElem?_toArray, List.getElem?_cons_succ, List.getElem?_cons_zero] at c5
                      have d0 := (unhide B).cell 0
                      have d1 := (unhide B).cell 1
                      have d2 := (unhide B).cell 2
                      have d3 := (unhide B).cell 3
                      have d4 := (unhide B).cell 4
                      simp only [List.getElem?_toArray, List.getElem?_cons_succ, List.getElem?_cons_zero] at d0 d1 d2 d3 d4
                      have HF : Hid (r = false) := by show _ = _; rw [HE0.out]; rfl
                      clear HE0 HTL
                      go_wp2_with fail
                      go_ret
                      exact ⟨ret_bool' HF.out.symm, unhide HB⟩
                    rw [show decide (leaf ≠ wk) = true by simpa using hc] at HE0
                    simp only [Bool.true_and] at HE0
                    have hq9 : (leaf.toList == wk.toList) = false := by rw [str_dec]; simpa using hc
                    clear hc
                    by_cases hc : ik = wk
                    rotate_left
                    · rw [show decide (ik = wk) = false by simpa using hc] at HE0
                      have hq : (ik.toList == wk.toList) = false := by rw [str_dec]; simpa using hc
                      clear hc
                      have c5 := (unhide A).cell 5
                      simp only [List.getElem?_toArray, List.getElem?_cons_succ, List.getElem?_cons_zero] at c5
                      have d0 := (unhide B).cell 0
                      have d1 := (unhide B).cell 1
                      have d2 := (unhide B).cell 2
                      have d3 := (unhide B).cell 3
                      have d4 := (unhide B).cell 4
                      simp only [List.getElem?_toArray, List.getElem?_cons_succ, List.getElem?_cons_zero] at d0 d1 d2 d3 d4
                      have HF : Hid (r = false) := by show _ = _; rw [HE0.out]; rfl
                      clear HE0 HTL
                      go_wp2_with fail
                      go_ret
                      exact ⟨ret_bool' HF.out.symm, unhide HB⟩
                    rw [show decide (ik = wk) = true by simpa using hc] at HE0
                    simp only [Bool.true_and] at HE0
                    have hq10 : (ik.toList == wk.toList) = true := by rw [str_dec]; simpa using hc
                    clear hc
                    by_cases hc : sk = wk
                    rotate_left
                    · rw [show decide (sk = wk) = false by simpa using hc] at HE0
                      have hq : (sk.toList == wk.toList) = false := by rw [str_dec]; simpa using hc
                      clear hc
                      have c5 := (unhide A).cell 5
                      simp only [List.getElem?_toArray, List.getElem?_cons_succ, List.getElem?_cons_zero] at c5
                      have d0 := (unhide B).cell 0
                      have d1 := (unhide B).cell 1
                      have d2 := (unhide B).cell 2
                      have d3 := (unhide B).cell 3
                      have d4 := (unhide B).cell 4
                      simp only [List.getElem?_toArray, List.getElem?_cons_succ, List.getElem?_cons_zero] at d0 d1 d2 d3 d4
                      have HF : Hid (r = false) := by show _ = _; rw [HE0.out]; rfl
                      clear HE0 HTL
                      go_wp2_with fail
                      go_ret
                      exact ⟨ret_bool' HF.out.symm, unhide HB⟩
                    rw [show decide (sk = wk) = true by simpa using hc] at HE0
                    simp only [Bool.true_and] at HE0
                    have hq11 : (sk.toList == wk.toList) = true := by rw [str_dec]; simpa using hc
                    clear hc
                    have c5 := (unhide A).cell 5
                    simp only [List.getElem?_toArray, List.getElem?_cons_succ, List.getElem?_cons_zero] at c5
                    have d0 := (unhide B).cell 0
                    have d1 := (unhide B).cell 1
                    have d2 := (unhide B).cell 2
                    have d3 := (unhide B).cell 3
                    simp only [List.getElem?_toArray, List.getElem?_cons_succ, List.getElem?_cons_zero] at d0 d1 d2 d3
                    go_wp2_with fail
                    clear c5 d0 d1 d2 d3
                    refine (sSecOk_any is _ M.out.2.2.2.1).mono ?_
                    obtain ⟨b12, hb12⟩ : ∃ b12, Kw.ok is = b12 := ⟨_, rfl⟩
                    rw [hb12] at HE0 ⊢
                    have HB12 := hide hb12
                    clear hb12
                    cases b12 with
                    | false =>
                      rintro e w2 ⟨rfl, hb⟩
                      replace B := hide ((unhide B).below hb)
                      replace A := hide ((unhide A).below hb)
                      replace HB := hide (HB.out.trans (hb.mono HB.out.size))
                      clear hb
                      have HF : Hid (r = false) := by show _ = _; rw [HE0.out]; rfl
                      clear HE0 HTL
                      go_wp2_with fail
                      go_ret
                      exact ⟨ret_bool' HF.out.symm, unhide HB⟩
                    | true =>
                      rintro e w2 ⟨rfl, hb⟩
                      replace B := hide ((unhide B).below hb)
                      replace A := hide ((unhide A).below hb)
                      replace HB := hide (HB.out.trans (hb.mono HB.out.size))
                      clear hb
                      simp only [Bool.true_and] at HE0
                      have d4 := (unhide B).cell 4
                      simp only [List.getElem?_toArray, List.getElem?_cons_succ, List.getElem?_cons_zero] at d4
                      go_wp2_with fail
                      clear d4
                      refine (sSecOk_any ss _ M.out.2.2.2.2).mono ?_
                      rw [← HE0.out]
                      rintro e w2 ⟨rfl, hb⟩
                      replace B := hide ((unhide B).below hb)
                      replace A := hide ((unhide A).below hb)
                      replace HB := hide (HB.out.trans (hb.mono HB.out.size))
                      clear hb
                      go_wp2_with fail
                      go_ret
                      exact ⟨rfl, unhide HB⟩
#print axioms sCmtOk_any
end Go.Proofs.Yteiojanamkndmaa
