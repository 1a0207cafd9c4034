/-
  Several cells out of and into the middle of a block that a call made. No Go function in it.
-/
import Derived.Test.YteiojanamkndmaaGreatFnExactMemJoinB4
import Derived.Deep.MidRow
import Derived.Test.YteiojanamkndmaaGreatFnExactMemJoinB5
import Derived.Test.YteiojanamkndmaaGreatFnExactMemJoinB2
import Derived.Test.YteiojanamkndmaaGreatFnExactMemJoinB1
import Derived.RangeFuncBox
namespace Go.Proofs.YteiojanamkndmaaGreat
open Go.RowKit

theorem heap_setAt {w : World} {b i : Nat} {t : TypeId} {cs : Array Value} (h : Blk w b t cs) (v : Value) : Blk (w.setCell ⟨b, i, none⟩ v) b t (cs.setIfInBounds i v) := by
  unfold Blk
  rw [heap_setCell_same w b i _ _ v h]
theorem Blk.otherC {w : World} {b b' i : Nat} {t : TypeId} {cs : Array Value} (h : Blk w b t cs) (hne : b ≠ b') (v : Value) : Blk (w.setCell ⟨b', i, none⟩ v) b t cs := by
  unfold Blk
  rw [Below.heap_setCell _ _ _ _ hne]
  exact h
theorem grown_setC (w : World) (b i : Nat) (v : Value) : w.grownBy (w.setCell ⟨b, i, none⟩ v) (some b) :=
  ⟨rfl, rfl, rfl, by simp [World.setCell], fun k _ hk => Below.heap_setCell _ _ _ _ (fun e => hk (by rw [e]))⟩
theorem row_setC {B : Nat} {w : World} {e t : TypeId} {size n b i : Nat} {v : Value} {xs : List Value} {cs : Array Value} (h : w.ownsRow B e size v n xs) (hx : Blk w b t cs) (hte : t ≠ e) (x : Value) : (w.setCell ⟨b, i, none⟩ x).ownsRow B e size v n xs :=
  h.kept (grown_setC w b i x) (.inr (hx.not_row hte h).symm)

/-- These cells, from a place on, in others' stead. -/
def setAll : Array Value → Nat → List Value → Array Value
  | cs, _, [] => cs
  | cs, o, v :: r => setAll (cs.setIfInBounds o v) (o + 1) r
theorem Blk.setCells {b : Nat} {t : TypeId} : ∀ (vs : List Value) (o : Nat) {w : World} {cs : Array Value}, Blk w b t cs → Blk (w.setCells b o vs) b t (setAll cs o vs)
  | [], _, _, _, h => h
  | v :: r, o, _, _, h => Blk.setCells r (o + 1) (heap_setAt h v)
theorem grown_trans {u v w : World} {b : Nat} (h : u.grownBy v (some b)) (k : v.grownBy w (some b)) : u.grownBy w (some b) :=
  ⟨k.os.trans h.os, k.tape.trans h.tape, k.output.trans h.output, Nat.le_trans h.size k.size, fun z hz hne => (k.block z (Nat.lt_of_lt_of_le hz h.size) hne).trans (h.block z hz hne)⟩
theorem grown_setCells (b : Nat) : ∀ (vs : List Value) (o : Nat) (w : World), w.grownBy (w.setCells b o vs) (some b)
  | [], _, _ => ⟨rfl, rfl, rfl, Nat.le_refl _, fun _ _ _ => rfl⟩
  | v :: r, o, w => grown_trans (grown_setC w b o v) (grown_setCells b r (o + 1) _)
theorem Blk.there {w : World} {b : Nat} {t : TypeId} {cs : Array Value} (h : Blk w b t cs) {o n : Nat} (hn : o + n ≤ cs.size) : w.there b o n := fun j hj => by
  rw [h.cell, h.frozen]
  refine ⟨?_, rfl⟩
  rw [Array.getElem?_eq_getElem (by omega)]
  rfl
theorem Blk.range {w : World} {b : Nat} {t : TypeId} {cs : Array Value} (h : Blk w b t cs) {o : Nat} {vs : List Value} (hv : ∀ j v, vs[j]? = some v → cs[o + j]? = some v) : w.rangeAt b o vs := fun j v hj => by
  rw [h.cell]; exact hv j v hj
theorem Blk.otherCs {w : World} {b b' o : Nat} {t : TypeId} {cs : Array Value} (h : Blk w b t cs) (hne : b ≠ b') (vs : List Value) : Blk (w.setCells b' o vs) b t cs := h.kept (grown_setCells b' vs o w) (fun e => hne (by cases e; rfl))
theorem row_setCs {B : Nat} {w : World} {e t : TypeId} {size n b o : Nat} {v : Value} {xs : List Value} {cs : Array Value} (h : w.ownsRow B e size v n xs) (hx : Blk w b t cs) (hte : t ≠ e) (vs : List Value) : (w.setCells b o vs).ownsRow B e size v n xs :=
  h.kept (grown_setCells b vs o w) (.inr (hx.not_row hte h).symm)
theorem below_setCs {B : Nat} {w w' : World} {b o : Nat} (h : Below B w w') (hb : B ≤ b) (hs : B ≤ w'.heap.size) (vs : List Value) : Below B w (w'.setCells b o vs) := h.grown (grown_setCells b vs o w') hs (fun k hk => by cases hk; exact hb)
end Go.Proofs.YteiojanamkndmaaGreat
/-
  The laws' own helpers over a commit: its size, a copy, whether two are the same.
-/
namespace Go.Proofs.YteiojanamkndmaaGreat
open Go.RowKit

abbrev Wel.cells (x : Wel) : Array Value := #[.string x.key, .string x.ik, .string x.is, .string x.sk, .string x.ss]
theorem info_we : (Tryz.prog.info? 41).map (·.size) = some 5 := by kernel_rfl
theorem one_we (a b c d e : ByteArray) : (#[Value.string a, .string b, .string c, .string d, .string e]).all (·.oneCell') = true := by simp [Value.oneCell']
theorem load_we {w : World} {b : Nat} {cs : Array Value} (h : Blk w b 41 cs) (hc : cs.size = 5) : (loadVar 41 ⟨b, 0, none⟩).run Tryz.prog w = .ok (.agg cs) w :=
  run_loadVar_row w b _ _ cs (0, 0) _ h Tryz.underlying41 rfl (by rw [hc]; exact info_we)

set_option maxRecDepth 100000 in
set_option maxHeartbeats 1000000 in
theorem szCmtWelcome_any (x : Wel) (left : Int) (w : World) (h1 : x.key.size ≤ maxLen) (h2 : x.ik.size ≤ maxLen) (h3 : x.is.size ≤ maxLen) (h4 : x.sk.size ≤ maxLen) (h5 : x.ss.size ≤ maxLen) (hl : 0 ≤ left) (hl2 : left ≤ 1048576) :
    Calls Tryz.prog 15 #[.agg x.cells, .int .i64 left] w fun e w' => ∃ r : Int, e = .returned (.int .i64 r) ∧ r ≤ left ∧ Below w.heap.size w w' := by
  obtain ⟨wk, ik, is, sk, ss⟩ := x
  simp only at h1 h2 h3 h4 h5 ⊢
  have M : Hid (ik.size ≤ maxLen ∧ is.size ≤ maxLen ∧ sk.size ≤ maxLen ∧ ss.size ≤ maxLen) := ⟨h2, h3, h4, h5⟩
  clear h2 h3 h4 h5
  unfold maxLen at h1
  have A := hide (Blk.new w 27 #[.string wk, .string ik, .string is, .string sk, .string ss])
  have HB : Hid (Below w.heap.size w (w.alloc (.cells #[.string wk, .string ik, .string is, .string sk, .string ss] 27))) := (Below.refl _ _).alloc (Nat.le_refl _) _
  by_cases hn : left - (wk.size : Int) < 0
  · go_enter Tryz.func15, Tryz.ntmps15
    go_wp2_with fail
    go_ret
    exact ⟨-1, rfl, by omega, unhide HB⟩
  have hn2 : decide (left - (wk.size : Int) < 0) = false := by simpa using hn
  go_enter Tryz.func15, Tryz.ntmps15
  go_wp2_with fail
  obtain ⟨l1, hl1⟩ : ∃ l1, left - (wk.size : Int) = l1 := ⟨_, rfl⟩
  have hk1 : 0 ≤ l1 := by omega
  have hk2 : l1 ≤ left := by omega
  refine (szKnwBox_any (ik, is) _ _ M.out.1 M.out.2.1 (by omega) (by omega)).mono ?_
  rintro e w1 ⟨r, rfl, hr, _, hb⟩
  have A1 := hide ((unhide A).below hb)
  have HB1 := hide (HB.out.trans (hb.mono HB.out.size))
  clear hb A HB
  by_cases hr0 : r < 0
  · go_wp2_with fail
    go_ret
    exact ⟨-1, rfl, by omega, unhide HB1⟩
  have hr1 : decide (r < 0) = false := by simpa using hr0
  have c3 := (unhide A1).cell 3
  have c4 := (unhide A1).cell 4
  simp only [List.getElem?_toArray, List.getElem?_cons_succ, List.getElem?_cons_zero] at c3 c4
  go_wp2_with fail
  refine (szKnwBox_any (sk, ss) _ _ M.out.2.2.1 M.out.2.2.2 (by omega) (by omega)).mono ?_
  rintro e w2 ⟨r2, rfl, hr2, _, hb⟩
  have HB2 := hide (HB1.out.trans (hb.mono HB1.out.size))
  clear hb c3 c4
  by_cases hr3 : r2 < 0
  · go_wp2_with fail
    go_ret
    exact ⟨-1, rfl, by omega, unhide HB2⟩
  have hr4 : decide (r2 < 0) = false := by simpa using hr3
  go_wp2_with fail
  go_ret
  exact ⟨r2, rfl, by omega, unhide HB2⟩

set_option maxRecDepth 100000 in
set_option maxHeartbeats 1000000 in
theorem eqCmtWelcome_same (x : Wel) (w : World) : Calls Tryz.prog 32 #[.agg x.cells, .agg x.cells] w fun e w' => e = .returned (.bool true) ∧ Below w.heap.size w w' := by
  obtain ⟨wk, ik, is, sk, ss⟩ := x
  have A := hide ((Blk.new w 41 #[.string wk, .string ik, .string is, .string sk, .string ss]).alloc (.cells #[.string wk, .string ik, .string is, .string sk, .string ss] 41))
  have b0 := Blk.new (w.alloc (.cells #[.string wk, .string ik, .string is, .string sk, .string ss] 41)) 41 #[.string wk, .string ik, .string is, .string sk, .string ss]
  rw [World.size_alloc] at b0
  have B := hide b0
  clear b0
  have HB : Hid (Below w.heap.size w ((w.alloc (.cells #[.string wk, .string ik, .string is, .string sk, .string ss] 41)).alloc (.cells #[.string wk, .string ik, .string is, .string sk, .string ss] 41))) := ((Below.refl _ _).alloc (Nat.le_refl _) _).alloc (by simp) _
  go_enter Tryz.func32, Tryz.ntmps32
  go_wp2_with fail
  refine (eqKnwBox_any (ik, is) (ik, is) _).mono ?_
  rw [show decide ((ik, is) = (ik, is)) = true by simp]
  rintro e w1 ⟨rfl, hb⟩
  have A1 := hide ((unhide A).below hb)
  have B1 := hide ((unhide B).below hb)
  have HB1 := hide (HB.out.trans (hb.mono HB.out.size))
  have c3 := (unhide A1).cell 3
  have c4 := (unhide A1).cell 4
  have d3 := (unhide B1).cell 3
  have d4 := (unhide B1).cell 4
  simp only [List.getElem?_toArray, List.getElem?_cons_succ, List.getElem?_cons_zero] at c3 c4 d3 d4
  clear hb A HB B
  go_wp2_with fail
  refine (eqKnwBox_any (sk, ss) (sk, ss) _).mono ?_
  rw [show decide ((sk, ss) = (sk, ss)) = true by simp]
  rintro e w2 ⟨rfl, hb⟩
  have HB2 := hide (HB1.out.trans (hb.mono HB1.out.size))
  clear hb c3 c4 d3 d4
  go_wp2_with fail
  go_ret
  exact ⟨rfl, unhide HB2⟩

set_option maxRecDepth 100000 in
set_option maxHeartbeats 2000000 in
theorem toCmtWelcome_any (x : Wel) (w : World) : Calls Tryz.prog 26 #[.agg x.cells] w fun e w' => e = .returned (.agg x.cells) ∧ Below w.heap.size w w' := by
  obtain ⟨wk, ik, is, sk, ss⟩ := x
  have a0 := Blk.new (w.alloc (.cells #[.string wk, .string ik, .string is, .string sk, .string ss] 27)) 41 #[.string ⟨#[]⟩, .string ⟨#[]⟩, .string ⟨#[]⟩, .string ⟨#[]⟩, .string ⟨#[]⟩]
  have a1 := a0.alloc (.cells #[.string wk, .string ⟨#[]⟩, .string ⟨#[]⟩, .string ⟨#[]⟩, .string ⟨#[]⟩] 41)
  have b1 := Blk.new ((w.alloc (.cells #[.string wk, .string ik, .string is, .string sk, .string ss] 27)).alloc (.cells #[.string ⟨#[]⟩, .string ⟨#[]⟩, .string ⟨#[]⟩, .string ⟨#[]⟩, .string ⟨#[]⟩] 41)) 41 #[.string wk, .string ⟨#[]⟩, .string ⟨#[]⟩, .string ⟨#[]⟩, .string ⟨#[]⟩]
  have z1 := ((Blk.new w 27 #[.string wk, .string ik, .string is, .string sk, .string ss]).alloc (.cells #[.string ⟨#[]⟩, .string ⟨#[]⟩, .string ⟨#[]⟩, .string ⟨#[]⟩, .string ⟨#[]⟩] 41)).alloc (.cells #[.string wk, .string ⟨#[]⟩, .string ⟨#[]⟩, .string ⟨#[]⟩, .string ⟨#[]⟩] 41)
  have hb0 := (((Below.refl w.heap.size w).alloc (Nat.le_refl _) (.cells #[.string wk, .string ik, .string is, .string sk, .string ss] 27)).alloc (by simp) (.cells #[.string ⟨#[]⟩, .string ⟨#[]⟩, .string ⟨#[]⟩, .string ⟨#[]⟩, .string ⟨#[]⟩] 41)).alloc (by simp; omega) (.cells #[.string wk, .string ⟨#[]⟩, .string ⟨#[]⟩, .string ⟨#[]⟩, .string ⟨#[]⟩] 41)
  simp only [World.size_alloc] at a1 b1
  have R := hide a1
  have V := hide b1
  have Z := hide z1
  have HB := hide hb0
  clear a0 a1 b1 z1 hb0
  go_enter Tryz.func26, Tryz.ntmps26
  go_wp2_with fail
  refine (toKnwBox_any (ik, is) _).mono ?_
  rintro e w1 ⟨rfl, hb⟩
  replace R := hide ((unhide R).below hb)
  replace V := hide ((unhide V).below hb)
  replace Z := hide ((unhide Z).below hb)
  replace HB := hide (HB.out.trans (hb.mono HB.out.size))
  clear hb
  have c1 := (unhide V).cell 1
  have c2 := (unhide V).cell 2
  have f1 := (unhide V).frozen 1
  have f2 := (unhide V).frozen 2
  have z3 := (unhide Z).cell 3
  have z4 := (unhide Z).cell 4
  simp only [List.getElem?_toArray, List.getElem?_cons_succ, List.getElem?_cons_zero] at c1 c2 z3 z4
  have v2 := heap_setAt (i := 2) (heap_setAt (i := 1) (unhide V) (.string ik)) (.string is)
  simp only [List.setIfInBounds_toArray, List.set_cons_zero, List.set_cons_succ] at v2
  replace R := hide (((unhide R).otherC (b' := w.heap.size + 1 + 1) (i := 1) (by omega) (.string ik)).otherC (b' := w.heap.size + 1 + 1) (i := 2) (by omega) (.string is))
  replace HB := hide ((HB.out.setCell (p := ⟨w.heap.size + 1 + 1, 1, none⟩) (by show w.heap.size ≤ w.heap.size + 1 + 1; omega) (.string ik)).setCell (p := ⟨w.heap.size + 1 + 1, 2, none⟩) (by show w.heap.size ≤ w.heap.size + 1 + 1; omega) (.string is))
  replace V := hide v2
  clear Z v2
  go_wp2_with fail
  refine (toKnwBox_any (sk, ss) _).mono ?_
  rintro e w2 ⟨rfl, hb⟩
  replace R := hide ((unhide R).below hb)
  replace V := hide ((unhide V).below hb)
  replace HB := hide (HB.out.trans (hb.mono HB.out.size))
  clear hb c1 c2 f1 f2 z3 z4
  have c3 := (unhide V).cell 3
  have c4 := (unhide V).cell 4
  have f3 := (unhide V).frozen 3
  have f4 := (unhide V).frozen 4
  simp only [List.getElem?_toArray, List.getElem?_cons_succ, List.getElem?_cons_zero] at c3 c4
  have v2 := heap_setAt (i := 4) (heap_setAt (i := 3) (unhide V) (.string sk)) (.string ss)
  simp only [List.setIfInBounds_toArray, List.set_cons_zero, List.set_cons_succ] at v2
  have r2 := (((unhide R).otherC (b' := w.heap.size + 1 + 1) (i := 3) (by omega) (.string sk)).otherC (b' := w.heap.size + 1 + 1) (i := 4) (by omega) (.string ss))
  replace HB := hide ((HB.out.setCell (p := ⟨w.heap.size + 1 + 1, 3, none⟩) (by show w.heap.size ≤ w.heap.size + 1 + 1; omega) (.string sk)).setCell (p := ⟨w.heap.size + 1 + 1, 4, none⟩) (by show w.heap.size ≤ w.heap.size + 1 + 1; omega) (.string ss))
  have l1 := load_we v2 rfl
  have R2 := hide r2
  clear V v2 R r2
  go_wp2_with (first | refine wpList_load_whole rfl 41 _ rfl ⟨w.heap.size + 1 + 1, 0, none⟩ rfl _ l1 ?_ | refine wpList_store_whole rfl 41 _ _ rfl (w.heap.size + 1) #[.string wk, .string ik, .string is, .string sk, .string ss] rfl rfl 41 _ (unhide R2) info_we rfl (one_we _ _ _ _ _) ?_)
  have l2 := load_we ((unhide R2).set #[.string wk, .string ik, .string is, .string sk, .string ss]) rfl
  refine bodyPost_ret (v := .agg #[.string wk, .string ik, .string is, .string sk, .string ss]) (results_cell rfl rfl l2) rfl ⟨rfl, ?_⟩
  exact below_blk HB.out (by omega) _

set_option maxRecDepth 100000 in
set_option maxHeartbeats 2000000 in
theorem eqCmtCommit_same (c : Cmt) (ks bs ks' bs' : Value) (w : World) (h1 : SRow w ks c.keys) (h2 : BRow w bs c.boxes) (h3 : SRow w ks' c.keys) (h4 : BRow w bs' c.boxes) :
    Calls Tryz.prog 9 #[.agg (c.cells ks bs), .agg (c.cells ks' bs')] w fun e w' => e = .returned (.bool true) ∧ Below w.heap.size w w' := by
  obtain ⟨se, tag, name, add, rem, leaf, keys, boxes, wk, ik, is, sk, ss⟩ := c
  have H1 := hide h1
  have H2 := hide h2
  have H3 := hide h3
  have H4 := hide h4
  obtain ⟨a1, p1, rfl, _, _, z1⟩ := h1.form
  obtain ⟨a2, p2, rfl, _, _, z2⟩ := h2
  obtain ⟨a3, p3, rfl, _, _, z3⟩ := h3.form
  obtain ⟨a4, p4, rfl, _, _, z4⟩ := h4
  clear h1 h3 z1 z2 z3 z4
  simp only at H1 H2 H3 H4 ⊢
  generalize keys.length = kl at *
  generalize boxes.length = ol at *
  have HB : Hid (Below w.heap.size w ((w.alloc (.cells (cmtC se tag name add rem leaf (.slice a1 kl p1) (.slice a2 ol p2) wk ik is sk ss) 43)).alloc (.cells (cmtC se tag name add rem leaf (.slice a3 kl p3) (.slice a4 ol p4) wk ik is sk ss) 43))) := ((Below.refl _ _).alloc (Nat.le_refl _) _).alloc (by simp) _
  have A := hide ((Blk.new w 43 (cmtC se tag name add rem leaf (.slice a1 kl p1) (.slice a2 ol p2) wk ik is sk ss)).alloc (.cells (cmtC se tag name add rem leaf (.slice a3 kl p3) (.slice a4 ol p4) wk ik is sk ss) 43))
  have b0 := Blk.new (w.alloc (.cells (cmtC se tag name add rem leaf (.slice a1 kl p1) (.slice a2 ol p2) wk ik is sk ss) 43)) 43 (cmtC se tag name add rem leaf (.slice a3 kl p3) (.slice a4 ol p4) wk ik is sk ss)
  rw [World.size_alloc] at b0
  have B := hide b0
  clear b0
  go_enter Tryz.func9, Tryz.ntmps9
  go_wp2_with fail
  refine (eqStringS_any _ _ keys keys _ ((unhide H1).below (unhide HB)) ((unhide H3).below (unhide HB))).mono ?_
  rw [show decide (keys = keys) = true by simp]
  rintro e w1 ⟨rfl, hb⟩
  replace A := hide ((unhide A).below hb)
  replace B := hide ((unhide B).below hb)
  replace HB := hide (HB.out.trans (hb.mono HB.out.size))
  have c1 := (unhide A).cell 7
  have c2 := (unhide B).cell 7
  simp only [List.getElem?_toArray, List.getElem?_cons_succ, List.getElem?_cons_zero] at c1 c2
  clear hb
  go_wp2_with fail
  refine (eqKnwBoxS_any _ _ boxes _ ((unhide H2).below (unhide HB)) ((unhide H4).below (unhide HB))).mono ?_
  rintro e w2 ⟨rfl, hb⟩
  replace A := hide ((unhide A).below hb)
  replace B := hide ((unhide B).below hb)
  replace HB := hide (HB.out.trans (hb.mono HB.out.size))
  clear hb c1 c2
  have c8 := (unhide A).cell 8
  have c9 := (unhide A).cell 9
  have c10 := (unhide A).cell 10
  have c11 := (unhide A).cell 11
  have c12 := (unhide A).cell 12
  have d8 := (unhide B).cell 8
  have d9 := (unhide B).cell 9
  have d10 := (unhide B).cell 10
  have d11 := (unhide B).cell 11
  have d12 := (unhide B).cell 12
  simp only [List.getElem?_toArray, List.getElem?_cons_succ, List.getElem?_cons_zero] at c8 c9 c10 c11 c12 d8 d9 d10 d11 d12
  go_wp2_with fail
  refine (eqCmtWelcome_same ⟨wk, ik, is, sk, ss⟩ _).mono ?_
  rintro e w3 ⟨rfl, hb⟩
  replace HB := hide (HB.out.trans (hb.mono HB.out.size))
  clear hb c8 c9 c10 c11 c12 d8 d9 d10 d11 d12
  go_wp2_with fail
  go_ret
  exact ⟨rfl, unhide HB⟩

set_option maxRecDepth 100000 in
set_option maxHeartbeats 2000000 in
theorem szCmtCommit_any (c : Cmt) (ks bs : Value) (left : Int) (w : World) (hK : SRow w ks c.keys) (hO : BRow w bs c.boxes) (hkm : ∀ x ∈ c.keys, x.size ≤ maxLen) (hbm : ∀ b ∈ c.boxes, b.1.size ≤ maxLen ∧ b.2.size ≤ maxLen)
    (h1 : c.tag.size ≤ maxLen) (h2 : c.name.size ≤ maxLen) (h3 : c.leaf.size ≤ maxLen) (h4 : c.wel.key.size ≤ maxLen) (h5 : c.wel.ik.size ≤ maxLen) (h6 : c.wel.is.size ≤ maxLen) (h7 : c.wel.sk.size ≤ maxLen) (h8 : c.wel.ss.size ≤ maxLen) (hl : 0 ≤ left) (hl2 : left ≤ 1048576) :
    Calls Tryz.prog 4 #[.agg (c.cells ks bs), .int .i64 left] w fun e w' => ∃ r : Int, e = .returned (.int .i64 r) ∧ r ≤ left ∧ (0 ≤ r → c.tag.size ≤ 1048576 ∧ c.name.size ≤ 1048576 ∧ c.leaf.size ≤ 1048576 ∧ c.keys.length ≤ 1048576 ∧ c.boxes.length ≤ 1048576 ∧ ∀ x ∈ c.keys, x.size ≤ 1048576) ∧ Below w.heap.size w w' := by
  obtain ⟨se, tag, name, add, rem, leaf, keys, boxes, wk, ik, is, sk, ss⟩ := c
  simp only at hK hO hkm hbm h1 h2 h3 h4 h5 h6 h7 h8 ⊢
  have HK := hide hK
  have HO := hide hO
  have HKM := hide hkm
  have HBM := hide hbm
  have M : Hid (wk.size ≤ maxLen ∧ ik.size ≤ maxLen ∧ is.size ≤ maxLen ∧ sk.size ≤ maxLen ∧ ss.size ≤ maxLen) := ⟨h4, h5, h6, h7, h8⟩
  obtain ⟨a1, p1, rfl, _, _, z1⟩ := hK.form
  obtain ⟨a2, p2, rfl, _, _, z2⟩ := hO
  clear hK hkm hbm h4 h5 h6 h7 h8 z1 z2
  unfold maxLen at h1 h2 h3
  generalize hkl : keys.length = kl at *
  generalize hbl : boxes.length = bl at *
  have HL : Hid (keys.length = kl ∧ boxes.length = bl) := ⟨hkl, hbl⟩
  clear hkl hbl
  have A := hide (Blk.new w 29 (cmtC se tag name add rem leaf (.slice a1 kl p1) (.slice a2 bl p2) wk ik is sk ss))
  have HB : Hid (Below w.heap.size w (w.alloc (.cells (cmtC se tag name add rem leaf (.slice a1 kl p1) (.slice a2 bl p2) wk ik is sk ss) 29))) := (Below.refl _ _).alloc (Nat.le_refl _) _
  by_cases hn : left - (tag.size : Int) < 0
  · go_enter Tryz.func4, Tryz.ntmps4
    go_wp2_with fail
    go_ret
    exact ⟨-1, rfl, by omega, fun q => absurd q (by omega), unhide HB⟩
  have hn2 : decide (left - (tag.size : Int) < 0) = false := by simpa using hn
  by_cases hm : left - (tag.size : Int) - (name.size : Int) < 0
  · go_enter Tryz.func4, Tryz.ntmps4
    go_wp2_with fail
    go_ret
    exact ⟨-1, rfl, by omega, fun q => absurd q (by omega), unhide HB⟩
  have hm2 : decide (left - (tag.size : Int) - (name.size : Int) < 0) = false := by simpa using hm
  by_cases ho : left - (tag.size : Int) - (name.size : Int) - (leaf.size : Int) < 0
  · go_enter Tryz.func4, Tryz.ntmps4
    go_wp2_with fail
    go_ret
    exact ⟨-1, rfl, by omega, fun q => absurd q (by omega), unhide HB⟩
  have ho2 : decide (left - (tag.size : Int) - (name.size : Int) - (leaf.size : Int) < 0) = false := by simpa using ho
  go_enter Tryz.func4, Tryz.ntmps4
  go_wp2_with fail
  refine (szStringS_any _ keys _ _ ((unhide HK).below (unhide HB)) (unhide HKM) (by omega) (by omega)).mono ?_
  rintro e w1 ⟨r1, rfl, hr1, hq1, hb⟩
  have HQ1 := hide hq1
  replace A := hide ((unhide A).below hb)
  replace HB := hide (HB.out.trans (hb.mono HB.out.size))
  clear hb hq1
  by_cases hr2 : r1 < 0
  · go_wp2_with fail
    go_ret
    exact ⟨-1, rfl, by omega, fun q => absurd q (by omega), unhide HB⟩
  have hr3 : decide (r1 < 0) = false := by simpa using hr2
  have c7 := (unhide A).cell 7
  simp only [List.getElem?_toArray, List.getElem?_cons_succ, List.getElem?_cons_zero] at c7
  go_wp2_with fail
  refine (szKnwBoxS_any _ boxes _ _ ((unhide HO).below (unhide HB)) (unhide HBM) (by omega) (by omega)).mono ?_
  rintro e w2 ⟨r2, rfl, hr4, hq2, hb⟩
  have HQ2 := hide hq2
  replace A := hide ((unhide A).below hb)
  replace HB := hide (HB.out.trans (hb.mono HB.out.size))
  clear hb hq2 c7
  by_cases hr5 : r2 < 0
  · go_wp2_with fail
    go_ret
    exact ⟨-1, rfl, by omega, fun q => absurd q (by omega), unhide HB⟩
  have hr6 : decide (r2 < 0) = false := by simpa using hr5
  have c8 := (unhide A).cell 8
  have c9 := (unhide A).cell 9
  have c10 := (unhide A).cell 10
  have c11 := (unhide A).cell 11
  have c12 := (unhide A).cell 12
  simp only [List.getElem?_toArray, List.getElem?_cons_succ, List.getElem?_cons_zero] at c8 c9 c10 c11 c12
  go_wp2_with fail
  refine (szCmtWelcome_any ⟨wk, ik, is, sk, ss⟩ _ _ M.out.1 M.out.2.1 M.out.2.2.1 M.out.2.2.2.1 M.out.2.2.2.2 (by omega) (by omega)).mono ?_
  rintro e w3 ⟨r3, rfl, hr7, hb⟩
  replace HB := hide (HB.out.trans (hb.mono HB.out.size))
  clear hb c8 c9 c10 c11 c12
  by_cases hr8 : r3 < 0
  · go_wp2_with fail
    go_ret
    exact ⟨-1, rfl, by omega, fun q => absurd q (by omega), unhide HB⟩
  have hr9 : decide (r3 < 0) = false := by simpa using hr8
  go_wp2_with fail
  go_ret
  refine ⟨r3, rfl, by omega, fun _ => ?_, unhide HB⟩
  have q1 := HQ1.out (by omega)
  have q2 := HQ2.out (by omega)
  have q3 := HL.out
  rw [q3.1] at q1
  rw [q3.2] at q2
  refine ⟨by omega, by omega, by omega, by omega, by omega, fun x hx => ?_⟩
  have := q1.2 x hx
  omega
#print axioms toCmtWelcome_any
#print axioms eqCmtCommit_same
#print axioms szCmtCommit_any
end Go.Proofs.YteiojanamkndmaaGreat
/-
  The laws' own copy of a commit.
-/
namespace Go.Proofs.YteiojanamkndmaaGreat
open Go.RowKit

theorem one_cm (a b c : Int) (d e f : ByteArray) (x : Option Addr) (l m : Nat) (y : Option Addr) (n o : Nat) (g h i j k : ByteArray) : (cmtC a d e b c f (.slice x l m) (.slice y n o) g h i j k).all (·.oneCell') = true := by simp [Value.oneCell']

theorem toCmtWelcome_at (wk ik is sk ss : ByteArray) (w : World) : Calls Tryz.prog 26 #[.agg #[.string wk, .string ik, .string is, .string sk, .string ss]] w fun e w' => e = .returned (.agg #[.string wk, .string ik, .string is, .string sk, .string ss]) ∧ Below w.heap.size w w' := toCmtWelcome_any ⟨wk, ik, is, sk, ss⟩ w

set_option maxRecDepth 100000 in
set_option maxHeartbeats 1000000 in
theorem toCmtCommit_any (c : Cmt) (ks bs : Value) (w : World) (hK : SRow w ks c.keys) (hO : BRow w bs c.boxes) (hl1 : c.keys.length ≤ 1048576) (hl2 : c.boxes.length ≤ 1048576) :
    Calls Tryz.prog 6 #[.agg (c.cells ks bs)] w fun e w' => ∃ ks' bs' : Value, e = .returned (.agg (c.cells ks' bs')) ∧ Own w.heap.size w' ks' c.keys ∧ OwnB w.heap.size w' bs' c.boxes ∧ Below w.heap.size w w' := by
  obtain ⟨se, tag, name, add, rem, leaf, keys, boxes, wk, ik, is, sk, ss⟩ := c
  simp only at hK hO hl1 hl2 ⊢
  have HK := hide hK
  have HO := hide hO
  have HL : Hid (keys.length ≤ 1048576 ∧ boxes.length ≤ 1048576) := ⟨hl1, hl2⟩
  obtain ⟨a1, p1, rfl, _, _, z1⟩ := hK.form
  obtain ⟨a2, p2, rfl, _, _, z2⟩ := hO
  clear hK hl1 hl2 z1 z2
  have a1' := ((Blk.new (w.alloc (.cells (cmtC se tag name add rem leaf (.slice a1 keys.length p1) (.slice a2 boxes.length p2) wk ik is sk ss) 29)) 43 noCmt).alloc (.cells (cmtC se tag name add rem leaf (.slice none 0 0) (.slice none 0 0) ⟨#[]⟩ ⟨#[]⟩ ⟨#[]⟩ ⟨#[]⟩ ⟨#[]⟩) 43))
  have b1' := Blk.new ((w.alloc (.cells (cmtC se tag name add rem leaf (.slice a1 keys.length p1) (.slice a2 boxes.length p2) wk ik is sk ss) 29)).alloc (.cells noCmt 43)) 43 (cmtC se tag name add rem leaf (.slice none 0 0) (.slice none 0 0) ⟨#[]⟩ ⟨#[]⟩ ⟨#[]⟩ ⟨#[]⟩ ⟨#[]⟩)
  have Z := hide (((Blk.new w 29 (cmtC se tag name add rem leaf (.slice a1 keys.length p1) (.slice a2 boxes.length p2) wk ik is sk ss)).alloc (.cells noCmt 43)).alloc (.cells (cmtC se tag name add rem leaf (.slice none 0 0) (.slice none 0 0) ⟨#[]⟩ ⟨#[]⟩ ⟨#[]⟩ ⟨#[]⟩ ⟨#[]⟩) 43))
  have HB := hide ((((Below.refl w.heap.size w).alloc (Nat.le_refl _) (.cells (cmtC se tag name add rem leaf (.slice a1 keys.length p1) (.slice a2 boxes.length p2) wk ik is sk ss) 29)).alloc (by simp) (.cells noCmt 43)).alloc (by simp; omega) (.cells (cmtC se tag name add rem leaf (.slice none 0 0) (.slice none 0 0) ⟨#[]⟩ ⟨#[]⟩ ⟨#[]⟩ ⟨#[]⟩ ⟨#[]⟩) 43))
  simp only [World.size_alloc] at a1' b1'
  have R := hide a1'
  have V := hide b1'
  clear a1' b1'
  go_enter Tryz.func6, Tryz.ntmps6
  go_wp2_with fail
  refine (toStringS_any _ keys _ ((unhide HK).below (unhide HB)) HL.out.1).mono ?_
  rintro e w1 ⟨v1, rfl, ho1, hb⟩
  replace R := hide ((unhide R).below hb)
  replace V := hide ((unhide V).below hb)
  replace Z := hide ((unhide Z).below hb)
  have k1 : Own w.heap.size w1 v1 keys := row_lowB ho1 HB.out.size
  replace HB := hide (HB.out.trans (hb.mono HB.out.size))
  clear hb ho1
  obtain ⟨o1, n1, rfl⟩ := row_form' k1
  have c6 := (unhide V).cell 6
  have f6 := (unhide V).frozen 6
  have z7 := ((unhide Z).otherC (b' := w.heap.size + 1 + 1) (i := 6) (by omega) (.slice o1 keys.length n1)).cell 7
  simp only [List.getElem?_toArray, List.getElem?_cons_succ, List.getElem?_cons_zero] at c6 z7
  have v2 := heap_setAt (i := 6) (unhide V) (.slice o1 keys.length n1)
  simp only [List.setIfInBounds_toArray, List.set_cons_zero, List.set_cons_succ] at v2
  have K1 : Hid (Own w.heap.size (w1.setCell ⟨w.heap.size + 1 + 1, 6, none⟩ (.slice o1 keys.length n1)) (.slice o1 keys.length n1) keys) := row_setC k1 (unhide V) (by decide) _
  replace R := hide ((unhide R).otherC (b' := w.heap.size + 1 + 1) (i := 6) (by omega) (.slice o1 keys.length n1))
  replace Z := hide ((unhide Z).otherC (b' := w.heap.size + 1 + 1) (i := 6) (by omega) (.slice o1 keys.length n1))
  replace HB := hide (HB.out.setCell (p := ⟨w.heap.size + 1 + 1, 6, none⟩) (by show w.heap.size ≤ w.heap.size + 1 + 1; omega) (.slice o1 keys.length n1))
  replace V := hide v2
  clear v2 k1
  go_wp2_with fail
  refine (toKnwBoxS_any _ boxes _ ((unhide HO).below (unhide HB)) HL.out.2).mono ?_
  rintro e w2 ⟨v2, rfl, ho2, hb⟩
  replace R := hide ((unhide R).below hb)
  replace V := hide ((unhide V).below hb)
  replace Z := hide ((unhide Z).below hb)
  replace K1 := hide (Own.below (unhide K1) hb)
  have k2 : OwnB w.heap.size w2 v2 boxes := row_lowB ho2 HB.out.size
  replace HB := hide (HB.out.trans (hb.mono HB.out.size))
  clear hb ho2 c6 f6 z7
  obtain ⟨o2, n2, rfl⟩ := row_form' k2
  have c7 := (unhide V).cell 7
  have f7 := (unhide V).frozen 7
  have zz := (unhide Z).otherC (b' := w.heap.size + 1 + 1) (i := 7) (by omega) (.slice o2 boxes.length n2)
  have z8 := zz.cell 8
  have z9 := zz.cell 9
  have z10 := zz.cell 10
  have z11 := zz.cell 11
  have z12 := zz.cell 12
  simp only [List.getElem?_toArray, List.getElem?_cons_succ, List.getElem?_cons_zero] at c7 z8 z9 z10 z11 z12
  have v3 := heap_setAt (i := 7) (unhide V) (.slice o2 boxes.length n2)
  simp only [List.setIfInBounds_toArray, List.set_cons_zero, List.set_cons_succ] at v3
  replace K1 : Hid (Own w.heap.size _ _ keys) := row_setC (i := 7) (unhide K1) (unhide V) (by decide) (.slice o2 boxes.length n2)
  have K2 : Hid (OwnB w.heap.size (w2.setCell ⟨w.heap.size + 1 + 1, 7, none⟩ (.slice o2 boxes.length n2)) (.slice o2 boxes.length n2) boxes) := row_setC k2 (unhide V) (by decide) _
  replace R := hide ((unhide R).otherC (b' := w.heap.size + 1 + 1) (i := 7) (by omega) (.slice o2 boxes.length n2))
  replace HB := hide (HB.out.setCell (p := ⟨w.heap.size + 1 + 1, 7, none⟩) (by show w.heap.size ≤ w.heap.size + 1 + 1; omega) (.slice o2 boxes.length n2))
  replace V := hide v3
  clear v3 k2 zz Z
  go_wp2_with fail
  refine (toCmtWelcome_at wk ik is sk ss _).mono ?_
  rintro e w3 ⟨rfl, hb⟩
  replace R := hide ((unhide R).below hb)
  replace V := hide ((unhide V).below hb)
  replace K1 := hide (Own.below (unhide K1) hb)
  replace K2 : Hid (OwnB w.heap.size w3 _ boxes) := own_below' (unhide K2) hb
  replace HB := hide (HB.out.trans (hb.mono HB.out.size))
  clear hb c7 f7 z8 z9 z10 z11 z12
  have ht := (unhide V).there (o := 8) (n := 5) (by simp)
  have v3 := (unhide V).setCells [.string wk, .string ik, .string is, .string sk, .string ss] 8
  simp only [setAll, List.setIfInBounds_toArray, List.set_cons_zero, List.set_cons_succ] at v3
  have V3 := hide v3
  have K3 : Hid (Own w.heap.size _ _ keys) := row_setCs (o := 8) (unhide K1) (unhide V) (by decide) [.string wk, .string ik, .string is, .string sk, .string ss]
  have K4 : Hid (OwnB w.heap.size _ _ boxes) := row_setCs (o := 8) (unhide K2) (unhide V) (by decide) [.string wk, .string ik, .string is, .string sk, .string ss]
  have R3 := hide ((unhide R).otherCs (b' := w.heap.size + 1 + 1) (o := 8) (by omega) [.string wk, .string ik, .string is, .string sk, .string ss])
  have HB3 := hide (below_setCs (b := w.heap.size + 1 + 1) (o := 8) HB.out (by omega) HB.out.size [.string wk, .string ik, .string is, .string sk, .string ss])
  have HT := hide ht
  have l1 := load_cm v3 rfl
  have L1 := hide l1
  clear ht v3 V K1 K2 R HB HK HO HL l1
  obtain ⟨W, hW⟩ : ∃ W, w3.setCells (w.heap.size + 1 + 1) 8 [.string wk, .string ik, .string is, .string sk, .string ss] = W := ⟨_, rfl⟩
  rw [hW] at V3 K3 K4 R3 HB3 L1
  have HW := hide hW
  clear hW
  go_wp2_with (first | (refine wpList_store_mid rfl 41 _ _ rfl (w.heap.size + 1 + 1) 8 #[.string wk, .string ik, .string is, .string sk, .string ss] rfl rfl (by exact unhide HT) info_we (one_we _ _ _ _ _) ?_; rw [HW.out]) | refine wpList_load_whole rfl 43 _ rfl ⟨w.heap.size + 1 + 1, 0, none⟩ rfl _ (by exact unhide L1) ?_ | (refine wpList_store_whole rfl 43 (.tmp 2) (.tmp 34) rfl (w.heap.size + 1) (cmtC se tag name add rem leaf (.slice o1 keys.length n1) (.slice o2 boxes.length n2) wk ik is sk ss) ?hx ?hy 43 noCmt ?hb ?hi ?ho ?h1 ?h))
  case hb => exact unhide R3
  case hi => exact info_cm
  case ho => rfl
  case h1 => exact (one_cm _ _ _ _ _ _ _ _ _ _ _ _ _ _ _ _ _)
  go_wp2_with fail
  have l2 := load_cm ((unhide R3).set (cmtC se tag name add rem leaf (.slice o1 keys.length n1) (.slice o2 boxes.length n2) wk ik is sk ss)) rfl
  refine bodyPost_ret (v := .agg (cmtC se tag name add rem leaf (.slice o1 keys.length n1) (.slice o2 boxes.length n2) wk ik is sk ss)) (results_cell rfl rfl l2) rfl ⟨_, _, rfl, ?_, ?_, ?_⟩
  · exact row_blk (unhide K3) (unhide R3) (by decide) _
  · exact row_blk (unhide K4) (unhide R3) (by decide) _
  · exact below_blk HB3.out (by omega) _
#print axioms toCmtCommit_any
end Go.Proofs.YteiojanamkndmaaGreat
/-
  Slices of numbers of the call's own, their rows between two numbers. No Go function in it.
-/
namespace Go.Proofs.YteiojanamkndmaaGreat
open Go.RowKit

/-- Numbers, so. -/
def IIn (lo hi : Nat) (w : World) (v : Value) (xs : List Int) : Prop := RowIn lo hi 3 1 w v xs.length (xs.map (Value.int .i64))
theorem IIn.of {lo : Nat} {w : World} {v : Value} {xs : List Int} (h : OwnI lo w v xs) : IIn lo w.heap.size w v xs := RowIn.of h
theorem IIn.irow {lo hi : Nat} {w : World} {v : Value} {xs : List Int} (h : IIn lo hi w v xs) : IRow w v xs := OwnI.irow h.1
theorem IIn.below {lo hi : Nat} {w w' : World} {v : Value} {xs : List Int} (h : IIn lo hi w v xs) (hb : Below w.heap.size w w') : IIn lo hi w' v xs := RowIn.below h hb
theorem IIn.grown {lo hi : Nat} {w w' : World} {v : Value} {xs : List Int} {r : Option Nat} (h : IIn lo hi w v xs) (hg : w.grownBy w' r) (hr : ∀ k, r = some k → k < lo ∨ hi ≤ k) : IIn lo hi w' v xs := RowIn.grown h hg hr
theorem IIn.drew {lo hi : Nat} {w : World} {v : Value} {xs : List Int} (h : IIn lo hi w v xs) : IIn lo hi w.drew v xs := h.below (Below.refl _ _).drew
end Go.Proofs.YteiojanamkndmaaGreat
/-
  What TreClear and TreSet answer, plain; stores into rows of texts. No Go function in it.
-/
namespace Go.Proofs.YteiojanamkndmaaGreat
open Go.RowKit Kw

theorem keyOk_small {x : ByteArray} (h : keyOk x = true) : x.size ≤ 300 := by
  unfold keyOk at h
  by_cases he : x = ByteArray.empty
  · subst he; show (0 : Nat) ≤ 300; omega
  · simp [he] at h
    exact (ok_facts h.1).1
theorem treOk_small {xs : List ByteArray} (h : treOk xs = true) : ∀ x ∈ xs, x.size ≤ 300 := by
  intro x hx
  obtain ⟨k, hk, rfl⟩ := mem_getD hx
  exact keyOk_small ((treOk_iff.1 h).2 k hk)
/-- What TreClear answers. -/
def clrRes (xs : List ByteArray) (p : Int) : List ByteArray := if treOk xs = true ∧ 0 ≤ p ∧ p ≤ 7 then clearOf xs p.toNat else []
theorem clearOf_len (xs : List ByteArray) (k : Nat) : (clearOf xs k).length = xs.length := wipe_len _ _
theorem clrRes_len (xs : List ByteArray) (p : Int) : (clrRes xs p).length ≤ 15 := by
  unfold clrRes
  split
  · next h => rw [clearOf_len, (treOk_iff.1 h.1).1]; omega
  · simp
theorem clrRes_no {xs : List ByteArray} {p : Int} (h : ¬ (treOk xs = true ∧ 0 ≤ p ∧ p ≤ 7)) : clrRes xs p = [] := by unfold clrRes; rw [if_neg h]
theorem clrRes_yes {xs : List ByteArray} {k : Nat} (h : treOk xs = true) (hk : k < 8) : clrRes xs (k : Int) = clearOf xs k := by unfold clrRes; rw [if_pos ⟨h, by omega, by omega⟩]; rfl
theorem clear_small {xs : List ByteArray} {M : Nat} (h : ∀ x ∈ xs, x.size ≤ M) (k : Nat) : ∀ x ∈ clearOf xs k, x.size ≤ M := by
  intro x hx
  obtain ⟨j, hj, rfl⟩ := mem_getD hx
  unfold clearOf
  rw [wipe_at]
  split
  · show (0 : Nat) ≤ M; omega
  · rw [clearOf_len] at hj
    exact h _ (getD_mem hj)
theorem wipe_snoc (xs : List ByteArray) (ps : List Nat) (p : Nat) : wipe xs (ps ++ [p]) = (wipe xs ps).set p ByteArray.empty := by unfold wipe; rw [List.foldl_append]; rfl

/-- A row of fifteen texts, written out. -/
theorem row15 {B : Nat} {w : World} {v : Value} {zs : List Value} (h : w.ownsRow B 9 1 v 15 zs) : ∃ g cap, v = .slice (some ⟨g, 0, none⟩) 15 cap ∧ B ≤ g ∧ g < w.heap.size ∧ 15 ≤ cap ∧ cap ≤ maxLen := by
  have hh := h
  rcases h.2 with ⟨_, q⟩ | ⟨g, cap, cur, rfl, h1, h2, h3, h4, h5, h6⟩
  · omega
  · exact ⟨g, cap, rfl, h1, (hh.lt g rfl).2, h3, h4⟩
/-- What a store at a place of it wants, and leaves. -/
theorem row15_set {B : Nat} {w : World} {g cap : Nat} {xs : List ByteArray} (hl : xs.length = 15) (h : w.ownsRow B 9 1 (.slice (some ⟨g, 0, none⟩) 15 cap) 15 (xs.map Value.string)) (j : Nat) (hj : j < 15) (y : ByteArray) :
    w.cell? ⟨g, j, none⟩ = some (.string (xs.getD j ByteArray.empty)) ∧ w.frozen? ⟨g, j, none⟩ = false ∧ (w.setCell ⟨g, j, none⟩ (.string y)).ownsRow B 9 1 (.slice (some ⟨g, 0, none⟩) 15 cap) 15 ((xs.set j y).map Value.string) ∧ w.grownBy (w.setCell ⟨g, j, none⟩ (.string y)) (some g) := by
  refine ⟨?_, h.frozenAt j, ?_⟩
  · rw [h.cellAt j (by omega), List.getElem?_map, List.getElem?_eq_getElem (by omega), List.getD_eq_getElem?_getD, List.getElem?_eq_getElem (by omega)]; rfl
  · obtain ⟨s1, s2⟩ := h.stored j (.string y)
    rw [List.map_set]
    exact ⟨s1, s2⟩
theorem grown_drew {w w' : World} {r : Option Nat} (h : w.grownBy w' r) : w.grownBy w'.drew r := ⟨h.os, h.tape, h.output, h.size, h.block⟩
theorem grown_below0 {wr u u' : World} {r : Option Nat} (h : wr.grownBy u r) (hb : Below u.heap.size u u') : wr.grownBy u' r :=
  ⟨hb.os.trans h.os, hb.tape.trans h.tape, hb.output.trans h.output, Nat.le_trans h.size hb.size, fun k hk hr => (hb.block k (Nat.lt_of_lt_of_le hk h.size)).trans (h.block k hk hr)⟩
end Go.Proofs.YteiojanamkndmaaGreat
/-
  What TreSet answers, plain. No Go function in it.
-/
namespace Go.Proofs.YteiojanamkndmaaGreat
open Go.RowKit Kw

/-- The secret so many places above. -/
def nextN (s : ByteArray) : Nat → ByteArray
  | 0 => s
  | n + 1 => mkNext (nextN s n)
theorem nextN_in (s : ByteArray) : ∀ n, nextN (mkNext s) n = nextN s (n + 1)
  | 0 => rfl
  | n + 1 => by show mkNext (nextN (mkNext s) n) = mkNext (nextN s (n + 1)); rw [nextN_in s n]
theorem fill_snoc (ps : List Nat) (p : Nat) : ∀ xs s, fill xs s (ps ++ [p]) = (fill xs s ps).set p (mkKey (nextN s ps.length)) := by
  induction ps with
  | nil => intro xs s; rfl
  | cons q ps ih =>
    intro xs s
    show fill (xs.set q (mkKey s)) (mkNext s) (ps ++ [p]) = (fill (xs.set q (mkKey s)) (mkNext s) ps).set p (mkKey (nextN s (ps.length + 1)))
    rw [ih, nextN_in]
/-- What TreSet wants of a secret. -/
def maySet (s : ByteArray) : Bool := Kw.ok s && decide (s.size ≤ 292)
def setRes (xs : List ByteArray) (p : Int) (s : ByteArray) : List ByteArray := if (treOk xs = true ∧ 0 ≤ p ∧ p ≤ 7) ∧ maySet s = true then setKeys xs p.toNat s else []
theorem setKeys_len (xs : List ByteArray) (k : Nat) (s : ByteArray) : (setKeys xs k s).length = xs.length := fill_len _ _ _
theorem setRes_len (xs : List ByteArray) (p : Int) (s : ByteArray) : (setRes xs p s).length ≤ 15 := by
  unfold setRes
  split
  · next h => rw [setKeys_len, (treOk_iff.1 h.1.1).1]; omega
  · simp
theorem setRes_no {xs : List ByteArray} {p : Int} {s : ByteArray} (h : ¬ ((treOk xs = true ∧ 0 ≤ p ∧ p ≤ 7) ∧ maySet s = true)) : setRes xs p s = [] := by unfold setRes; rw [if_neg h]
theorem setRes_yes {xs : List ByteArray} {k : Nat} {s : ByteArray} (h : treOk xs = true) (hk : k < 8) (hs : maySet s = true) : setRes xs (k : Int) s = setKeys xs k s := by unfold setRes; rw [if_pos ⟨⟨h, by omega, by omega⟩, hs⟩]; rfl
theorem nextN_size (s : ByteArray) (hs : s.size ≤ 300) : ∀ n, (nextN s n).size ≤ 300
  | 0 => hs
  | n + 1 => by
    show (mkNext (nextN s n)).size ≤ 300
    unfold mkNext
    split
    · unfold cap; split
      · assumption
      · show (0 : Nat) ≤ 300; omega
    · show (0 : Nat) ≤ 300; omega
theorem treOk_set {xs : List ByteArray} {k : Nat} {s : ByteArray} (h : treOk xs = true) (hk : k < 8) (hs : maySet s = true) : treOk (setKeys xs k s) = true := by
  unfold maySet at hs
  simp at hs
  have := ups_len (7 + k) (by omega)
  exact treOk_fill _ _ _ h hs.1 (by simp; omega)
theorem treOk_clear {xs : List ByteArray} {k : Nat} (h : treOk xs = true) : treOk (clearOf xs k) = true := treOk_wipe _ _ h
end Go.Proofs.YteiojanamkndmaaGreat
/-
  The program's places: whether one is there, the place over it, the place of one; TreLeaf.
-/
namespace Go.Proofs.YteiojanamkndmaaGreat
open Go.RowKit

/-- The place under which one lies. -/
def overOf (p : Int) : Int := if 1 ≤ p ∧ p ≤ 14 then (p - 1) / 2 else -1
/-- A place, and all above it. -/
def chainOf (p : Int) : List Int := if 0 ≤ p ∧ p ≤ 14 then p :: upOf p else []
theorem upOf_nat (k : Nat) (h : k < 15) : upOf (k : Int) = (ups k).map (fun (k : Nat) => (k : Int)) := by
  unfold upOf; rw [if_pos (by omega)]; rfl
theorem upOf_chain (p : Int) : upOf p = chainOf (overOf p) := by
  by_cases h : 0 ≤ p ∧ p ≤ 14
  · obtain ⟨k, rfl⟩ : ∃ k : Nat, p = (k : Int) := ⟨p.toNat, by omega⟩
    have hk : k < 15 := by omega
    by_cases h0 : 0 < k
    · have e : overOf (k : Int) = (((k - 1) / 2 : Nat) : Int) := by unfold overOf; rw [if_pos (by omega)]; omega
      rw [e, upOf_nat k hk, ups_step k hk h0]
      unfold chainOf
      rw [if_pos (by omega), upOf_nat _ (by omega)]
      rfl
    · obtain rfl : k = 0 := by omega
      rfl
  · have e : overOf p = -1 := by unfold overOf; rw [if_neg (by omega)]
    rw [e]
    unfold upOf
    rw [if_neg h]
    rfl
theorem chain_cons (p : Int) (h : 0 ≤ p ∧ p ≤ 14) : chainOf p = p :: chainOf (overOf p) := by
  rw [← upOf_chain]; unfold chainOf; rw [if_pos h]
theorem chain_nil (p : Int) (h : ¬ (0 ≤ p ∧ p ≤ 14)) : chainOf p = [] := by unfold chainOf; rw [if_neg h]
theorem over_lt (p : Int) (h : 0 ≤ p) : overOf p < p ∧ -1 ≤ overOf p := by unfold overOf; split <;> omega
theorem over_wrap (p : Int) (h0 : 1 ≤ p) (h : p ≤ 14) : IntKind.i64.wrap (p - 1) = p - 1 ∧ IntKind.i64.wrap ((p - 1).tdiv 2) = overOf p := by
  constructor
  · simp [IntKind.wrap, IntKind.bits, IntKind.signed]; omega
  · rw [Int.tdiv_eq_ediv_of_nonneg (by omega)]
    unfold overOf
    rw [if_pos ⟨h0, h⟩]
    simp [IntKind.wrap, IntKind.bits, IntKind.signed]
    omega

set_option maxHeartbeats 400000 in
theorem isThere_yes (n : Int) (w : World) (h0 : 0 ≤ n) (h1 : n < 15) :
    Calls Tryz.prog 95 #[.int .i64 n] w fun e w' => e = .returned (.bool true) ∧ w' = w := by
  go_enter Tryz.func95, Tryz.ntmps95
  go_wp2
  go_ret
  exact ⟨rfl, rfl⟩

set_option maxHeartbeats 400000 in
theorem isThere_no (n : Int) (w : World) (h : n < 0 ∨ 15 ≤ n) :
    Calls Tryz.prog 95 #[.int .i64 n] w fun e w' => e = .returned (.bool false) ∧ w' = w := by
  rcases h with h | h
  · go_enter Tryz.func95, Tryz.ntmps95
    go_wp2
    go_ret
    exact ⟨rfl, rfl⟩
  · have h' : 0 ≤ n := by omega
    have h2 : decide (n < 15) = false := by simp; omega
    go_enter Tryz.func95, Tryz.ntmps95
    go_wp2
    go_ret
    exact ⟨rfl, rfl⟩

set_option maxHeartbeats 1000000 in
theorem over_any (p : Int) (w : World) : Calls Tryz.prog 96 #[.int .i64 p] w fun e w' => e = .returned (.int .i64 (overOf p)) ∧ w' = w := by
  by_cases h : 0 ≤ p ∧ p ≤ 14
  · by_cases h0 : p = 0
    · subst h0
      have e : overOf 0 = -1 := rfl
      rw [e]
      clear e h
      go_enter Tryz.func96, Tryz.ntmps96
      go_wp2_with fail
      refine (isThere_yes _ _ (by omega) (by omega)).mono ?_
      rintro e w1 ⟨rfl, rfl⟩
      go_wp2_with fail
      go_ret
      exact ⟨rfl, rfl⟩
    · obtain ⟨i1, i2⟩ := over_wrap p (by omega) h.2
      have hz : (p == 0) = false := by simp; exact h0
      generalize overOf p = q at i2
      have hh := hide h
      clear h
      go_enter Tryz.func96, Tryz.ntmps96
      go_wp2_with fail
      refine (isThere_yes _ _ (hh.out.1) (by have := hh.out; omega)).mono ?_
      rintro e w1 ⟨rfl, rfl⟩
      go_wp2_with fail
      go_ret
      exact ⟨rfl, rfl⟩
  · have e : overOf p = -1 := by unfold overOf; rw [if_neg (by omega)]
    rw [e]
    have hh := hide h
    clear e h
    go_enter Tryz.func96, Tryz.ntmps96
    go_wp2_with fail
    refine (isThere_no _ _ (by have := hh.out; omega)).mono ?_
    rintro e w1 ⟨rfl, rfl⟩
    go_wp2_with fail
    go_ret
    exact ⟨rfl, rfl⟩

set_option maxHeartbeats 400000 in
theorem placeOf_any (who : Int) (w : World) : Calls Tryz.prog 62 #[.int .i64 who] w fun e w' => e = .returned (.int .i64 (leafOf who)) ∧ w' = w := by
  by_cases h : 0 ≤ who ∧ who ≤ 7
  · have hl : leafOf who = 7 + who := by unfold leafOf; rw [if_pos h]
    rw [hl]
    have hh := hide h
    have i3 : IntKind.i64.wrap (7 + who) = 7 + who := by simp [IntKind.wrap, IntKind.bits, IntKind.signed]; omega
    clear hl h
    go_enter Tryz.func62, Tryz.ntmps62
    go_wp2_with fail
    refine (isOne_yes _ _ hh.out.1 (by have := hh.out; omega)).mono ?_
    rintro e w1 ⟨rfl, rfl⟩
    go_wp2_with fail
    go_ret
    exact ⟨rfl, rfl⟩
  · have hl : leafOf who = -1 := by unfold leafOf; rw [if_neg h]
    rw [hl]
    have hh := hide h
    clear hl h
    go_enter Tryz.func62, Tryz.ntmps62
    go_wp2_with fail
    refine (isOne_no _ _ (by have := hh.out; omega)).mono ?_
    rintro e w1 ⟨rfl, rfl⟩
    go_wp2_with fail
    go_ret
    exact ⟨rfl, rfl⟩
#print axioms over_any
end Go.Proofs.YteiojanamkndmaaGreat
/-
  Rows of secrets with their places (MemOwn).
-/
namespace Go.Proofs.YteiojanamkndmaaGreat
open Go.RowKit Go.Shelf

abbrev Mo := Int × ByteArray
def noMo : Mo := (0, ByteArray.empty)
theorem info_mo : (Tryz.prog.info? 60).map (fun i => (i.zero, i.size, i.bytes)) = some (some (.agg #[.int .i64 0, .string ⟨#[]⟩]), 2, 24) := by kernel_rfl
theorem underMo : Tryz.prog.underlying 33 = some (.slice 60) := by kernel_rfl

/-- A slice holds these: each a place, and a secret. -/
def MRow (w : World) (v : Value) (bs : List Mo) : Prop :=
  ∃ (ao : Option Addr) (cap : Nat), v = .slice ao bs.length cap ∧ bs.length ≤ cap ∧ cap ≤ maxLen ∧ ∀ i, i < bs.length → ∃ a, ao = some a ∧ w.cell? (a.add (i * 2)) = some (.int .i64 (bs.getD i noMo).1) ∧ w.cell? ((a.add (i * 2)).add 1) = some (.string (bs.getD i noMo).2)
theorem MRow.below {w w' : World} {v : Value} {bs : List Mo} (h : MRow w v bs) (hb : Below w.heap.size w w') : MRow w' v bs := by
  obtain ⟨ao, cap, h1, h2, h3, h4⟩ := h
  refine ⟨ao, cap, h1, h2, h3, fun i hi => ?_⟩
  obtain ⟨a, q1, q2, q3⟩ := h4 i hi
  exact ⟨a, q1, (hb.cell (cell_lt q2)).trans q2, (hb.cell (cell_lt q3)).trans q3⟩
theorem add_oneM (x : Addr) : x.add 1 = ⟨x.block, x.off + 1, none⟩ := Addr.add_succ' x 0
theorem MRow.form {w : World} {v : Value} {bs : List Mo} (h : MRow w v bs) :
    ∃ (ao : Option Addr) (cap : Nat), v = .slice ao bs.length cap ∧ bs.length ≤ cap ∧ cap ≤ maxLen ∧ ∀ i, i < bs.length → ∃ a, ao = some a ∧ w.cell? (a.add (i * 2)) = some (.int .i64 (bs.getD i noMo).1) ∧ w.cell? ⟨(a.add (i * 2)).block, (a.add (i * 2)).off + 1, none⟩ = some (.string (bs.getD i noMo).2) := by
  obtain ⟨ao, cap, h1, h2, h3, h4⟩ := h
  refine ⟨ao, cap, h1, h2, h3, fun i hi => ?_⟩
  obtain ⟨a, q1, q2, q3⟩ := h4 i hi
  exact ⟨a, q1, q2, by rw [← add_oneM]; exact q3⟩
theorem getM_mem {bs : List Mo} {k : Nat} (h : k < bs.length) : bs.getD k noMo ∈ bs := by
  rw [List.getD_eq_getElem?_getD, List.getElem?_eq_getElem h]
  exact List.getElem_mem h

/-- Cell by cell. -/
def mcells (bs : List Mo) : List Value := bs.flatMap fun b => [.int .i64 b.1, .string b.2]
theorem mcells_snoc (bs : List Mo) (b : Mo) : mcells (bs ++ [b]) = mcells bs ++ [.int .i64 b.1, .string b.2] := by simp [mcells]
theorem mcells_get : ∀ (bs : List Mo) (i : Nat), i < bs.length → (mcells bs)[i * 2]? = some (.int .i64 (bs.getD i noMo).1) ∧ (mcells bs)[i * 2 + 1]? = some (.string (bs.getD i noMo).2)
  | [], i, h => absurd h (Nat.not_lt_zero _)
  | b :: bs, 0, _ => by simp [mcells]
  | b :: bs, i + 1, h => by
    have := mcells_get bs i (by simpa using h)
    rw [show (i + 1) * 2 = i * 2 + 1 + 1 by omega]
    simpa [mcells] using this

/-- A slice of the call's own holds these. -/
def OwnM (B : Nat) (w : World) (v : Value) (bs : List Mo) : Prop := w.ownsRow B 60 2 v bs.length (mcells bs)
theorem OwnM.mrow {B : Nat} {w : World} {v : Value} {bs : List Mo} (h : OwnM B w v bs) : MRow w v bs := by
  rcases h.2 with ⟨h1, h2⟩ | ⟨g, cap, cur, h1, h2, h3, h4, h5, _⟩
  · exact ⟨none, 0, by rw [h1, h2], by omega, by omega, fun i hi => by omega⟩
  · refine ⟨some ⟨g, 0, none⟩, cap, h1, h4, h5, fun i hi => ?_⟩
    have hc := World.ownsRow.cells h (g := g) (by rw [h1]; rfl)
    obtain ⟨p1, p2⟩ := mcells_get bs i hi
    refine ⟨_, rfl, hc _ _ p1, ?_⟩
    rw [Addr.add_lit, Addr.add_lit, Nat.zero_add]
    have := hc _ _ p2
    rw [Addr.add_lit, Nat.zero_add] at this
    exact this
/-- Rows of two types lie apart. -/
theorem row_apart {w : World} {B B' : Nat} {e e' : TypeId} {size size' : Nat} {v v' : Value} {n n' : Nat} {xs xs' : List Value} (h : w.ownsRow B e size v n xs) (k : w.ownsRow B' e' size' v' n' xs') (hne : e ≠ e') : v.ownBlock = none ∨ v.ownBlock ≠ v'.ownBlock := by
  rcases h.2 with ⟨rfl, _⟩ | ⟨g, cap, cur, rfl, _, hgb, _⟩
  · exact .inl rfl
  · rcases k.2 with ⟨rfl, _⟩ | ⟨g', cap', cur', rfl, _, hgb', _⟩
    · exact .inr (by simp [Value.ownBlock])
    · refine .inr (fun q => ?_)
      obtain rfl : g = g' := by simpa [Value.ownBlock] using q
      have := hgb.symm.trans hgb'
      simp at this
      exact hne this.2

/-- Secrets made one from the other, at places. -/
def pathOf : List Int → ByteArray → List Mo
  | [], _ => []
  | p :: ps, s => (p, s) :: pathOf ps (mkNext s)
theorem pathOf_len : ∀ (ps : List Int) (s : ByteArray), (pathOf ps s).length = ps.length
  | [], _ => rfl
  | _ :: ps, s => by simp [pathOf, pathOf_len ps]
theorem pathOf_snoc : ∀ (ps : List Int) (x : Int) (s : ByteArray), pathOf (ps ++ [x]) s = pathOf ps s ++ [(x, nextN s ps.length)]
  | [], _, _ => rfl
  | p :: ps, x, s => by
    show (p, s) :: pathOf (ps ++ [x]) (mkNext s) = (p, s) :: (pathOf ps (mkNext s) ++ _)
    rw [pathOf_snoc ps, nextN_in]
    rfl
end Go.Proofs.YteiojanamkndmaaGreat
/-
  One in a group, as a value and in memory.
-/
namespace Go.Proofs.YteiojanamkndmaaGreat
open Go.RowKit

/-- One in a group. -/
structure Mem where
  inn : Bool
  who : Int
  keys : List ByteArray
  own : List Mo
  ep : Int
  init : ByteArray
  tag : ByteArray
deriving DecidableEq
/-- None. -/
def Mem.none : Mem := ⟨false, 0, [], [], 0, ⟨#[]⟩, ⟨#[]⟩⟩

/-- Its cells. -/
abbrev memC (i : Bool) (who : Int) (ks os : Value) (ep : Int) (init tag : ByteArray) : Array Value := #[.bool i, .int .i64 who, ks, os, .int .i64 ep, .string init, .string tag]
abbrev noMem : Array Value := memC false 0 (.slice none 0 0) (.slice none 0 0) 0 ⟨#[]⟩ ⟨#[]⟩
abbrev Mem.cells (m : Mem) (ks os : Value) : Array Value := memC m.inn m.who ks os m.ep m.init m.tag
/-- A value is one in a group, its rows to be read. -/
def MemR (w : World) (v : Value) (m : Mem) : Prop := ∃ ks os, v = .agg (m.cells ks os) ∧ SRow w ks m.keys ∧ MRow w os m.own
/-- A value is one in a group, its rows the call's own. -/
def MemO (B : Nat) (w : World) (v : Value) (m : Mem) : Prop := ∃ ks os, v = .agg (m.cells ks os) ∧ Own B w ks m.keys ∧ OwnM B w os m.own
theorem MemR.below {w w' : World} {v : Value} {m : Mem} (h : MemR w v m) (hb : Below w.heap.size w w') : MemR w' v m := by
  obtain ⟨ks, os, h1, h2, h3⟩ := h
  exact ⟨ks, os, h1, h2.below hb, h3.below hb⟩
theorem MemO.row {B : Nat} {w : World} {v : Value} {m : Mem} (h : MemO B w v m) : MemR w v m := by
  obtain ⟨ks, os, h1, h2, h3⟩ := h
  exact ⟨ks, os, h1, h2.srow, h3.mrow⟩
theorem MemO.below {B : Nat} {w w' : World} {v : Value} {m : Mem} (h : MemO B w v m) (hb : Below w.heap.size w w') : MemO B w' v m := by
  obtain ⟨ks, os, h1, h2, h3⟩ := h
  exact ⟨ks, os, h1, Own.below h2 hb, own_below' h3 hb⟩
theorem MemO.none (B : Nat) (w : World) : MemO B w (.agg noMem) Mem.none := ⟨_, _, rfl, World.ownsRow_nil _ _ _ _, World.ownsRow_nil _ _ _ _⟩
/-- Its two rows lie between two numbers. -/
def MemIn (lo hi : Nat) (w : World) (ks os : Value) (keys : List ByteArray) (own : List Mo) : Prop := RowIn lo hi 9 1 w ks keys.length (keys.map Value.string) ∧ RowIn lo hi 60 2 w os own.length (mcells own)
theorem MemIn.of {B : Nat} {w : World} {ks os : Value} {keys : List ByteArray} {own : List Mo} (h : Own B w ks keys) (k : OwnM B w os own) : MemIn B w.heap.size w ks os keys own := ⟨RowIn.of h, RowIn.of k⟩
theorem MemIn.below {lo hi : Nat} {w w' : World} {ks os : Value} {keys : List ByteArray} {own : List Mo} (h : MemIn lo hi w ks os keys own) (hb : Below w.heap.size w w') : MemIn lo hi w' ks os keys own := ⟨h.1.below hb, h.2.below hb⟩
theorem MemIn.grown {lo hi : Nat} {w w' : World} {ks os : Value} {keys : List ByteArray} {own : List Mo} {r : Option Nat} (h : MemIn lo hi w ks os keys own) (hg : w.grownBy w' r) (hr : ∀ k, r = some k → k < lo ∨ hi ≤ k) : MemIn lo hi w' ks os keys own := ⟨h.1.grown hg hr, h.2.grown hg hr⟩
theorem MemIn.srow {lo hi : Nat} {w : World} {ks os : Value} {keys : List ByteArray} {own : List Mo} (h : MemIn lo hi w ks os keys own) : SRow w ks keys := own_srow h.1.1
theorem MemIn.mrow {lo hi : Nat} {w : World} {ks os : Value} {keys : List ByteArray} {own : List Mo} (h : MemIn lo hi w ks os keys own) : MRow w os own := OwnM.mrow h.2.1

theorem info_mm : (Tryz.prog.info? 35).map (·.size) = some 7 := by kernel_rfl
theorem one_mm (i : Bool) (who : Int) (a : Option Addr) (l c : Nat) (a' : Option Addr) (l' c' : Nat) (ep : Int) (init tag : ByteArray) : (memC i who (.slice a l c) (.slice a' l' c') ep init tag).all (·.oneCell') = true := by simp [Value.oneCell']
theorem load_mm {w : World} {b : Nat} {cs : Array Value} (h : Blk w b 35 cs) (hc : cs.size = 7) : (loadVar 35 ⟨b, 0, none⟩).run Tryz.prog w = .ok (.agg cs) w :=
  run_loadVar_row w b _ _ cs (0, 0) _ h Tryz.underlying35 rfl (by rw [hc]; exact info_mm)
end Go.Proofs.YteiojanamkndmaaGreat
