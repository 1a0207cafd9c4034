/-
  The specification's l5Same: one in new memory.
-/
import Derived.Laws.Entries
import Derived.Test.YtdfpeaenbmgihaaGreatWB8
namespace Go.Proofs.YtdfpeaenbmgihaaGreat
set_option maxHeartbeats 64000000
set_option maxRecDepth 100000
open Go.RowKit
def MNews (w : World) (v : Value) (own : List Mo) : Prop := (v = .slice none 0 0 ∧ own.length = 0 ∧ mcells own = []) ∨ ∃ ad c, v = .slice (some ad) own.length c ∧ (mcells own).length = own.length * 2 ∧ ∀ j u, (mcells own)[j]? = some u → w.cell? (ad.add j) = some u
theorem MNews.below {w w' : World} {v : Value} {own : List Mo} (h : MNews w v own) (hb : Below w.heap.size w w') : MNews w' v own := by
 rcases h with h | ⟨ad, c, h1, h2, h3⟩
 · exact .inl h
 · exact .inr ⟨ad, c, h1, h2, fun j u hu => (hb.cell (cell_lt (h3 j u hu))).trans (h3 j u hu)⟩
theorem MNews.form {w : World} {v : Value} {own : List Mo} (h : MNews w v own) : ∃ a c, v = .slice a own.length c := by
 rcases h with ⟨h1, h2, _⟩ | ⟨ad, c, h1, _⟩
 · exact ⟨none, 0, by rw [h1, h2]⟩
 · exact ⟨some ad, c, h1⟩
theorem mcells_one (bs : List Mo) : ∀ u ∈ mcells bs, u.oneCell' = true := by intro u hu; unfold mcells at hu; obtain ⟨b, _, hb⟩ := List.mem_flatMap.1 hu; simp at hb; rcases hb with rfl | rfl <;> rfl
theorem l5Same_any (inn : Bool) (who ep : Int) (ks os : Value) (keys : List ByteArray) (own : List Mo) (init tag : ByteArray) (w : World) (hk : SRow w ks keys) (hm : MNews w os own) (hlk : keys.length ≤ 1000) (hlo : own.length ≤ 1000) : Calls Tryz.prog 32 #[.agg (memC inn who ks os ep init tag)] w fun e w' => ∃ ks' os', e = .returned (.agg (memC inn who ks' os' ep init tag)) ∧ Own w.heap.size w' ks' (if inn = true then keys else []) ∧ OwnM w.heap.size w' os' own ∧ Below w.heap.size w w' := by
 obtain ⟨i0, hi, hz0, hz1, hz2⟩ := info_parts info_mo; have hI := hide (And.intro hi (And.intro hz0 (And.intro hz1 hz2))); clear hi hz0 hz1 hz2; obtain ⟨ao, cap, rfl, _, _, _⟩ := hk.form; obtain ⟨bo, bap, rfl⟩ := hm.form; have HKR := hide hk; have HMR := hide hm; clear hk hm; have A0 : Hid (Blk ((w.alloc (.cells #[.bool inn, .int .i64 who, .slice ao keys.length cap, .slice bo own.length bap, .int .i64 ep, .string init, .string tag] 62)).alloc (.cells noMem 62)) w.heap.size 62 #[.bool inn, .int .i64 who, .slice ao keys.length cap, .slice bo own.length bap, .int .i64 ep, .string init, .string tag]) := (Blk.new w 62 #[.bool inn, .int .i64 who, .slice ao keys.length cap, .slice bo own.length bap, .int .i64 ep, .string init, .string tag]).alloc _; have L0 := hide (load_mm A0.out rfl); have A1 : Hid (Blk (((w.alloc (.cells #[.bool inn, .int .i64 who, .slice ao keys.length cap, .slice bo own.length bap, .int .i64 ep, .string init, .string tag] 62)).alloc (.cells noMem 62)).alloc (.cells #[.bool inn, .int .i64 who, .slice ao keys.length cap, .slice bo own.length bap, .int .i64 ep, .string init, .string tag] 62)) w.heap.size 62 #[.bool inn, .int .i64 who, .slice ao keys.length cap, .slice bo own.length bap, .int .i64 ep, .string init, .string tag]) := A0.out.alloc _; (have R1 : Hid (Blk (((w.alloc (.cells #[.bool inn, .int .i64 who, .slice ao keys.length cap, .slice bo own.length bap, .int .i64 ep, .string init, .string tag] 62)).alloc (.cells noMem 62)).alloc (.cells #[.bool inn, .int .i64 who, .slice ao keys.length cap, .slice bo own.length bap, .int .i64 ep, .string init, .string tag] 62)) (w.heap.size + 1) 62 noMem) := by have q := (Blk.new (w.alloc (.cells #[.bool inn, .int .i64 who, .slice ao keys.length cap, .slice bo own.length bap, .int .i64 ep, .string init, .string tag] 62)) 62 noMem).alloc (.cells #[.bool inn, .int .i64 who, .slice ao keys.length cap, .slice bo own.length bap, .int .i64 ep, .string init, .string tag] 62); rw [World.size_alloc] at q; exact q); (have X1 : Hid (Blk (((w.alloc (.cells #[.bool inn, .int .i64 who, .slice ao keys.length cap, .slice bo own.length bap, .int .i64 ep, .string init, .string tag] 62)).alloc (.cells noMem 62)).alloc (.cells #[.bool inn, .int .i64 who, .slice ao keys.length cap, .slice bo own.length bap, .int .i64 ep, .string init, .string tag] 62)) (w.heap.size + 1 + 1) 62 #[.bool inn, .int .i64 who, .slice ao keys.length cap, .slice bo own.length bap, .int .i64 ep, .string init, .string tag]) := by have q := Blk.new ((w.alloc (.cells #[.bool inn, .int .i64 who, .slice ao keys.length cap, .slice bo own.length bap, .int .i64 ep, .string init, .string tag] 62)).alloc (.cells noMem 62)) 62 #[.bool inn, .int .i64 who, .slice ao keys.length cap, .slice bo own.length bap, .int .i64 ep, .string init, .string tag]; rw [World.size_alloc, World.size_alloc] at q; exact q); have B1 : Hid (Below w.heap.size w (((w.alloc (.cells #[.bool inn, .int .i64 who, .slice ao keys.length cap, .slice bo own.length bap, .int .i64 ep, .string init, .string tag] 62)).alloc (.cells noMem 62)).alloc (.cells #[.bool inn, .int .i64 who, .slice ao keys.length cap, .slice bo own.length bap, .int .i64 ep, .string init, .string tag] 62))) := (((Below.refl _ _).alloc (Nat.le_refl _) _).alloc (by simp) _).alloc (by simp; omega) _; change Calls Tryz.prog 32 #[.agg #[.bool inn, .int .i64 who, .slice ao keys.length cap, .slice bo own.length bap, .int .i64 ep, .string init, .string tag]] w _; go_enter Tryz.func32, Tryz.ntmps32
 (go_wp2_with (refine wpList_load_whole rfl 62 _ rfl ⟨w.heap.size, 0, none⟩ rfl _ (by exact unhide L0) ?_)); refine (l3Copy_any _ keys _ (HKR.out.below B1.out) (by omega)).mono ?_; rintro e w1 ⟨u, rfl, ho, hb⟩; obtain ⟨uo, uc, rfl⟩ := row_form' ho; have K1 : Hid (Own w.heap.size w1 (.slice uo keys.length uc) keys) := row_lowB ho B1.out.size; have A2 := hide (A1.out.below hb); have R2 := hide (R1.out.below hb); have X2 := hide (X1.out.below hb); have B2 : Hid (Below w.heap.size w w1) := B1.out.trans (hb.mono B1.out.size); have hbs := B2.out.size; have hxl := X2.out.lt; clear ho hb A0 L0 A1 R1 X1 B1; have a0 := A2.out.cell 0; have a3 := A2.out.cell 3; have x2 := X2.out.cell 2; have f2 := X2.out.frozen 2; simp only [List.getElem?_toArray, List.getElem?_cons_succ, List.getElem?_cons_zero] at a0 a3 x2
 cases inn with
 | true =>
  have X3 : Hid (Blk (w1.setCell ⟨w.heap.size + 1 + 1, 2, none⟩ (.slice uo keys.length uc)) (w.heap.size + 1 + 1) 62 #[.bool true, .int .i64 who, .slice uo keys.length uc, .slice bo own.length bap, .int .i64 ep, .string init, .string tag]) := heap_setAt X2.out (.slice uo keys.length uc); have A3 : Hid (Blk (w1.setCell ⟨w.heap.size + 1 + 1, 2, none⟩ (.slice uo keys.length uc)) w.heap.size 62 #[.bool true, .int .i64 who, .slice ao keys.length cap, .slice bo own.length bap, .int .i64 ep, .string init, .string tag]) := A2.out.otherC (by omega) _; have R3 : Hid (Blk (w1.setCell ⟨w.heap.size + 1 + 1, 2, none⟩ (.slice uo keys.length uc)) (w.heap.size + 1) 62 noMem) := R2.out.otherC (by omega) _; have K3 : Hid (Own w.heap.size (w1.setCell ⟨w.heap.size + 1 + 1, 2, none⟩ (.slice uo keys.length uc)) (.slice uo keys.length uc) keys) := row_setC K1.out X2.out (by decide) _; have B3 : Hid (Below w.heap.size w (w1.setCell ⟨w.heap.size + 1 + 1, 2, none⟩ (.slice uo keys.length uc))) := B2.out.setCell (p := ⟨w.heap.size + 1 + 1, 2, none⟩) (by show w.heap.size ≤ w.heap.size + 1 + 1; omega) _; (have hs3 : (w1.setCell ⟨w.heap.size + 1 + 1, 2, none⟩ (.slice uo keys.length uc)).heap.size = w1.heap.size := by simp [World.setCell]); (have O3 : Hid (((w1.setCell ⟨w.heap.size + 1 + 1, 2, none⟩ (.slice uo keys.length uc)).alloc (.cells #[] 134)).ownsRow w.heap.size 134 2 (.slice (some ⟨w1.heap.size, 0, none⟩) 0 0) 0 []) := by have q := World.ownsRow_made (base := w.heap.size) (e := 134) (size := 2) (w1.setCell ⟨w.heap.size + 1 + 1, 2, none⟩ (.slice uo keys.length uc)) #[] 0 (by rw [hs3]; exact hbs) (by omega) rfl; rw [hs3] at q; exact q); have N3 : Hid (MNews ((w1.setCell ⟨w.heap.size + 1 + 1, 2, none⟩ (.slice uo keys.length uc)).alloc (.cells #[] 134)) (.slice bo own.length bap) own) := HMR.out.below (B3.out.alloc B3.out.size _); have A4 := hide (A3.out.alloc (.cells #[] 134)); have X4 := hide (X3.out.alloc (.cells #[] 134)); have R4 := hide (R3.out.alloc (.cells #[] 134)); have K4 := hide (World.ownsRow.alloc K3.out (.cells #[] 134)); have B4 := hide (B3.out.alloc B3.out.size (.cells #[] 134)); have a5 := A3.out.cell 3; have a6 := A4.out.cell 3; simp only [List.getElem?_toArray, List.getElem?_cons_succ, List.getElem?_cons_zero] at a5 a6; clear A3 X3 R3 K3 B3 A2 X2 R2 K1 B2; (go_wp2_with (at_builtin; refine wpList_append_row _ rfl _ _ 60 rfl w.heap.size 134 i0 (.agg #[.int .i64 0, .string ⟨#[]⟩]) 2 24 underMo hI.out.1 hI.out.2.1 hI.out.2.2.1 hI.out.2.2.2 rfl (by decide) _ _ _ rfl (by exact unhide O3) _ own.length (mcells own) rfl (by exact unhide N3) (mcells_one own) (by unfold maxLen; omega) (by omega) (by exact B4.out.size) ?_)); intro v' w3 ho3 hg3; (have hne : ∀ k, some k = Value.ownBlock (.slice (some ⟨w1.heap.size, 0, none⟩) 0 0) → k = w1.heap.size := by intro k q; cases q; rfl); have X5 : Hid (Blk w3 (w.heap.size + 1 + 1) 62 #[.bool true, .int .i64 who, .slice uo keys.length uc, .slice bo own.length bap, .int .i64 ep, .string init, .string tag]) := X4.out.kept hg3 (fun q => by have := hne _ q; omega); have R5 := hide (R4.out.kept hg3 (fun q => by have := hne _ q; omega)); have K5 : Hid (Own w.heap.size w3 (.slice uo keys.length uc) keys) := World.ownsRow.kept K4.out hg3 (row_apart K4.out O3.out (by decide)); (have O5 : Hid (OwnM w.heap.size w3 v' own) := by show OwnM _ _ _ _; unfold OwnM; simpa using ho3); have B5 : Hid (Below w.heap.size w w3) := B4.out.grown hg3 B4.out.size (fun k hk => by cases hk; exact hbs); obtain ⟨vo, vc, rfl⟩ := row_form' O5.out; have x3 := X5.out.cell 3; have f3 := X5.out.frozen 3; simp only [List.getElem?_toArray, List.getElem?_cons_succ, List.getElem?_cons_zero] at x3; clear ho3 hg3 A4 X4 R4 K4 B4 O3 N3 a0 a3 x2 f2 a5 a6
  have X6 : Hid (Blk (w3.setCell ⟨w.heap.size + 1 + 1, 3, none⟩ (.slice vo own.length vc)) (w.heap.size + 1 + 1) 62 #[.bool true, .int .i64 who, .slice uo keys.length uc, .slice vo own.length vc, .int .i64 ep, .string init, .string tag]) := heap_setAt X5.out (.slice vo own.length vc); have R6 : Hid (Blk (w3.setCell ⟨w.heap.size + 1 + 1, 3, none⟩ (.slice vo own.length vc)) (w.heap.size + 1) 62 noMem) := R5.out.otherC (by omega) (.slice vo own.length vc); have K6 : Hid (Own w.heap.size (w3.setCell ⟨w.heap.size + 1 + 1, 3, none⟩ (.slice vo own.length vc)) (.slice uo keys.length uc) keys) := row_setC K5.out X5.out (by decide) _; have O6 : Hid (OwnM w.heap.size (w3.setCell ⟨w.heap.size + 1 + 1, 3, none⟩ (.slice vo own.length vc)) (.slice vo own.length vc) own) := row_setC O5.out X5.out (by decide) _; have B6 : Hid (Below w.heap.size w (w3.setCell ⟨w.heap.size + 1 + 1, 3, none⟩ (.slice vo own.length vc))) := B5.out.setCell (p := ⟨w.heap.size + 1 + 1, 3, none⟩) (by show w.heap.size ≤ w.heap.size + 1 + 1; omega) _; have L6 := hide (load_mm X6.out rfl); go_wp2_with (first | refine wpList_load_whole rfl 62 _ rfl ⟨w.heap.size + 1 + 1, 0, none⟩ rfl _ (by exact unhide L6) ?_ | (refine wpList_store_whole rfl 62 (.tmp 2) (.tmp 19) rfl (w.heap.size + 1) #[.bool true, .int .i64 who, .slice uo keys.length uc, .slice vo own.length vc, .int .i64 ep, .string init, .string tag] ?hx ?hy 62 noMem ?hb ?hi ?ho ?h1 ?h))
  case hb => exact unhide R6
  case hi => exact info_mm
  case ho => rfl
  case h1 => exact (one_mm _ _ _ _ _ _ _ _ _ _ _)
  (go_wp2_with fail); have l2 := load_mm (R6.out.set #[.bool true, .int .i64 who, .slice uo keys.length uc, .slice vo own.length vc, .int .i64 ep, .string init, .string tag]) rfl; refine bodyPost_ret (v := .agg #[.bool true, .int .i64 who, .slice uo keys.length uc, .slice vo own.length vc, .int .i64 ep, .string init, .string tag]) (results_cell rfl rfl l2) rfl ?_; exact ⟨_, _, rfl, row_blk K6.out R6.out (by decide) _, row_blk O6.out R6.out (by decide) _, below_blk B6.out (by omega) _⟩
 | false =>
  have X3 : Hid (Blk ((w1.setCell ⟨w.heap.size + 1 + 1, 2, none⟩ (.slice uo keys.length uc)).setCell ⟨w.heap.size + 1 + 1, 2, none⟩ (.slice none 0 0)) (w.heap.size + 1 + 1) 62 #[.bool false, .int .i64 who, .slice none 0 0, .slice bo own.length bap, .int .i64 ep, .string init, .string tag]) := heap_setAt (heap_setAt X2.out (.slice uo keys.length uc)) (.slice none 0 0); have A3 : Hid (Blk ((w1.setCell ⟨w.heap.size + 1 + 1, 2, none⟩ (.slice uo keys.length uc)).setCell ⟨w.heap.size + 1 + 1, 2, none⟩ (.slice none 0 0)) w.heap.size 62 #[.bool false, .int .i64 who, .slice ao keys.length cap, .slice bo own.length bap, .int .i64 ep, .string init, .string tag]) := (A2.out.otherC (by omega) _).otherC (by omega) _; have R3 : Hid (Blk ((w1.setCell ⟨w.heap.size + 1 + 1, 2, none⟩ (.slice uo keys.length uc)).setCell ⟨w.heap.size + 1 + 1, 2, none⟩ (.slice none 0 0)) (w.heap.size + 1) 62 noMem) := (R2.out.otherC (by omega) _).otherC (by omega) _; have K3 : Hid (Own w.heap.size ((w1.setCell ⟨w.heap.size + 1 + 1, 2, none⟩ (.slice uo keys.length uc)).setCell ⟨w.heap.size + 1 + 1, 2, none⟩ (.slice none 0 0)) (.slice uo keys.length uc) keys) := row_setC (row_setC K1.out X2.out (by decide) _) (heap_setAt X2.out (.slice uo keys.length uc)) (by decide) _; have B3 : Hid (Below w.heap.size w ((w1.setCell ⟨w.heap.size + 1 + 1, 2, none⟩ (.slice uo keys.length uc)).setCell ⟨w.heap.size + 1 + 1, 2, none⟩ (.slice none 0 0))) := (B2.out.setCell (p := ⟨w.heap.size + 1 + 1, 2, none⟩) (by show w.heap.size ≤ w.heap.size + 1 + 1; omega) _).setCell (p := ⟨w.heap.size + 1 + 1, 2, none⟩) (by show w.heap.size ≤ w.heap.size + 1 + 1; omega) _; (have hs3 : ((w1.setCell ⟨w.heap.size + 1 + 1, 2, none⟩ (.slice uo keys.length uc)).setCell ⟨w.heap.size + 1 + 1, 2, none⟩ (.slice none 0 0)).heap.size = w1.heap.size := by simp [World.setCell]); (have O3 : Hid ((((w1.setCell ⟨w.heap.size + 1 + 1, 2, none⟩ (.slice uo keys.length uc)).setCell ⟨w.heap.size + 1 + 1, 2, none⟩ (.slice none 0 0)).alloc (.cells #[] 134)).ownsRow w.heap.size 134 2 (.slice (some ⟨w1.heap.size, 0, none⟩) 0 0) 0 []) := by have q := World.ownsRow_made (base := w.heap.size) (e := 134) (size := 2) ((w1.setCell ⟨w.heap.size + 1 + 1, 2, none⟩ (.slice uo keys.length uc)).setCell ⟨w.heap.size + 1 + 1, 2, none⟩ (.slice none 0 0)) #[] 0 (by rw [hs3]; exact hbs) (by omega) rfl; rw [hs3] at q; exact q); have N3 : Hid (MNews (((w1.setCell ⟨w.heap.size + 1 + 1, 2, none⟩ (.slice uo keys.length uc)).setCell ⟨w.heap.size + 1 + 1, 2, none⟩ (.slice none 0 0)).alloc (.cells #[] 134)) (.slice bo own.length bap) own) := HMR.out.below (B3.out.alloc B3.out.size _); have A4 := hide (A3.out.alloc (.cells #[] 134)); have X4 := hide (X3.out.alloc (.cells #[] 134)); have R4 := hide (R3.out.alloc (.cells #[] 134)); have K4 := hide (World.ownsRow.alloc K3.out (.cells #[] 134)); have B4 := hide (B3.out.alloc B3.out.size (.cells #[] 134)); have a5 := A3.out.cell 3; have a6 := A4.out.cell 3; simp only [List.getElem?_toArray, List.getElem?_cons_succ, List.getElem?_cons_zero] at a5 a6; clear A3 X3 R3 K3 B3 A2 X2 R2 K1 B2; (go_wp2_with (at_builtin; refine wpList_append_row _ rfl _ _ 60 rfl w.heap.size 134 i0 (.agg #[.int .i64 0, .string ⟨#[]⟩]) 2 24 underMo hI.out.1 hI.out.2.1 hI.out.2.2.1 hI.out.2.2.2 rfl (by decide) _ _ _ rfl (by exact unhide O3) _ own.length (mcells own) rfl (by exact unhide N3) (mcells_one own) (by unfold maxLen; omega) (by omega) (by exact B4.out.size) ?_)); intro v' w3 ho3 hg3; (have hne : ∀ k, some k = Value.ownBlock (.slice (some ⟨w1.heap.size, 0, none⟩) 0 0) → k = w1.heap.size := by intro k q; cases q; rfl); have X5 : Hid (Blk w3 (w.heap.size + 1 + 1) 62 #[.bool false, .int .i64 who, .slice none 0 0, .slice bo own.length bap, .int .i64 ep, .string init, .string tag]) := X4.out.kept hg3 (fun q => by have := hne _ q; omega)
  have R5 := hide (R4.out.kept hg3 (fun q => by have := hne _ q; omega)); have K5 : Hid (Own w.heap.size w3 (.slice uo keys.length uc) keys) := World.ownsRow.kept K4.out hg3 (row_apart K4.out O3.out (by decide)); (have O5 : Hid (OwnM w.heap.size w3 v' own) := by show OwnM _ _ _ _; unfold OwnM; simpa using ho3); have B5 : Hid (Below w.heap.size w w3) := B4.out.grown hg3 B4.out.size (fun k hk => by cases hk; exact hbs); obtain ⟨vo, vc, rfl⟩ := row_form' O5.out; have x3 := X5.out.cell 3; have f3 := X5.out.frozen 3; simp only [List.getElem?_toArray, List.getElem?_cons_succ, List.getElem?_cons_zero] at x3; clear ho3 hg3 A4 X4 R4 K4 B4 O3 N3 a0 a3 x2 f2 a5 a6; have X6 : Hid (Blk (w3.setCell ⟨w.heap.size + 1 + 1, 3, none⟩ (.slice vo own.length vc)) (w.heap.size + 1 + 1) 62 #[.bool false, .int .i64 who, .slice none 0 0, .slice vo own.length vc, .int .i64 ep, .string init, .string tag]) := heap_setAt X5.out (.slice vo own.length vc); have R6 : Hid (Blk (w3.setCell ⟨w.heap.size + 1 + 1, 3, none⟩ (.slice vo own.length vc)) (w.heap.size + 1) 62 noMem) := R5.out.otherC (by omega) (.slice vo own.length vc); have K6 : Hid (Own w.heap.size (w3.setCell ⟨w.heap.size + 1 + 1, 3, none⟩ (.slice vo own.length vc)) (.slice uo keys.length uc) keys) := row_setC K5.out X5.out (by decide) _; have O6 : Hid (OwnM w.heap.size (w3.setCell ⟨w.heap.size + 1 + 1, 3, none⟩ (.slice vo own.length vc)) (.slice vo own.length vc) own) := row_setC O5.out X5.out (by decide) _; have B6 : Hid (Below w.heap.size w (w3.setCell ⟨w.heap.size + 1 + 1, 3, none⟩ (.slice vo own.length vc))) := B5.out.setCell (p := ⟨w.heap.size + 1 + 1, 3, none⟩) (by show w.heap.size ≤ w.heap.size + 1 + 1; omega) _; have L6 := hide (load_mm X6.out rfl); go_wp2_with (first | refine wpList_load_whole rfl 62 _ rfl ⟨w.heap.size + 1 + 1, 0, none⟩ rfl _ (by exact unhide L6) ?_ | (refine wpList_store_whole rfl 62 (.tmp 2) (.tmp 19) rfl (w.heap.size + 1) #[.bool false, .int .i64 who, .slice none 0 0, .slice vo own.length vc, .int .i64 ep, .string init, .string tag] ?hxf ?hyf 62 noMem ?hbf ?hif ?hof ?h1f ?hf))
  case hbf => exact unhide R6
  case hif => exact info_mm
  case hof => rfl
  case h1f => exact (one_mm _ _ _ _ _ _ _ _ _ _ _)
  (go_wp2_with fail); have l2 := load_mm (R6.out.set #[.bool false, .int .i64 who, .slice none 0 0, .slice vo own.length vc, .int .i64 ep, .string init, .string tag]) rfl; refine bodyPost_ret (v := .agg #[.bool false, .int .i64 who, .slice none 0 0, .slice vo own.length vc, .int .i64 ep, .string init, .string tag]) (results_cell rfl rfl l2) rfl ?_; exact ⟨_, _, rfl, World.ownsRow_nil _ _ _ _, row_blk O6.out R6.out (by decide) _, below_blk B6.out (by omega) _⟩
def hearPath (m : Mem) (c : Cmt) : List Mo := pathOf (chainOf (meetOf (leafOf m.who) (leafOf c.sender))) (findOf m.own c.boxes)
def hearM (m : Mem) (c : Cmt) : Mem := ⟨true, m.who, c.keys, (m.own.filter (underB (hearPath m c))).filter (keepsB c.keys) ++ hearPath m c, m.ep + 1, mkEpoch m.init (mkNext (lastS (hearPath m c))), m.tag ++ c.name⟩
def hearB (m : Mem) (c : Cmt) : Bool := decide (findOf m.own c.boxes ≠ ByteArray.empty) && (decide ((findOf m.own c.boxes).size ≤ 292) && (freshB c.keys (hearPath m c) && Kw.ok (mkEpoch m.init (mkNext (lastS (hearPath m c))))))
theorem hearB_eq (m : Mem) (c : Cmt) : hearB m c = (decide (findOf m.own c.boxes ≠ ByteArray.empty) && (decide ((findOf m.own c.boxes).size ≤ 292) && (freshB c.keys (hearPath m c) && Kw.ok (mkEpoch m.init (mkNext (lastS (hearPath m c))))))) := rfl
theorem hearM_eq (m : Mem) (c : Cmt) : hearM m c = ⟨true, m.who, c.keys, (m.own.filter (underB (hearPath m c))).filter (keepsB c.keys) ++ hearPath m c, m.ep + 1, mkEpoch m.init (mkNext (lastS (hearPath m c))), m.tag ++ c.name⟩ := rfl
theorem chain_len14 : ∀ n : Nat, n < 15 → 1 ≤ (chainOf (n : Int)).length ∧ (chainOf (n : Int)).length ≤ 4 := by decide
theorem chain_in15 : ∀ n : Nat, n < 15 → ∀ j, j < (chainOf (n : Int)).length → (0 : Int) ≤ (chainOf (n : Int)).getD j 0 ∧ (chainOf (n : Int)).getD j 0 < 15 := by decide
theorem path_places (n : Nat) (hn : n < 15) (s : ByteArray) (hs : s.size ≤ 300) : ∀ t, t < (pathOf (chainOf (n : Int)) s).length → ((0 : Int) ≤ ((pathOf (chainOf (n : Int)) s).getD t noMo).1 ∧ ((pathOf (chainOf (n : Int)) s).getD t noMo).1 < 15) ∧ ((pathOf (chainOf (n : Int)) s).getD t noMo).2.size ≤ 300 := by intro t ht; (have h2 : t < (chainOf (n : Int)).length := by rw [pathOf_len] at ht; exact ht); rw [pathOf_fst _ _ _ h2]; exact ⟨chain_in15 n hn t h2, path_le _ _ hs _ (getM_mem ht)⟩
theorem mcells_app (xs ys : List Mo) : mcells (xs ++ ys) = mcells xs ++ mcells ys := by simp [mcells]
theorem rowT_mo : RowT Tryz.prog 60 134 2 24 := rowT_of underMo info_mo rfl (by decide)
theorem epoch_le (a b : ByteArray) : (mkEpoch a b).size ≤ 300 := by
 unfold mkEpoch; split
 · unfold cap; split
   · assumption
   · show 0 ≤ 300; omega
 · show 0 ≤ 300; omega
def patch (ys : List ByteArray) : List Int → List ByteArray → List ByteArray
  | [], xs => xs
  | p :: ps, xs => patch ys ps (xs.set p.toNat (ys.getD p.toNat ByteArray.empty))
theorem patch_len (ys : List ByteArray) : ∀ (ps : List Int) (xs : List ByteArray), (patch ys ps xs).length = xs.length
  | [], _ => rfl
  | p :: ps, xs => by rw [patch, patch_len ys ps, List.length_set]
theorem patch_snoc (ys : List ByteArray) : ∀ (ps : List Int) (p : Int) (xs : List ByteArray), patch ys (ps ++ [p]) xs = (patch ys ps xs).set p.toNat (ys.getD p.toNat ByteArray.empty)
  | [], _, _ => rfl
  | q :: ps, p, xs => by
    show patch ys (ps ++ [p]) _ = _
    rw [patch_snoc ys ps]
    rfl
def hearTree (m : Mem) (c : Cmt) : Bool := decide (c.keys = patch c.keys (chainOf (leafOf c.sender)) (baseK m.keys c.add c.rem c.leaf))
theorem hearTree_eq (m : Mem) (c : Cmt) : hearTree m c = decide (c.keys = patch c.keys (chainOf (leafOf c.sender)) (baseK m.keys c.add c.rem c.leaf)) := rfl
def takesB (m : Mem) (c : Cmt) : Bool :=
  m.inn && (decide (c.tag = m.tag) && (decide (m.ep < 12) && (decide (c.sender ≠ m.who) && (decide (keyOf m.keys c.sender ≠ ByteArray.empty) && ((decide (c.rem < 0) || decide (keyOf m.keys c.rem ≠ ByteArray.empty)) && ((decide (c.add < 0) || (decide (c.add = c.rem) || decide (keyOf m.keys c.add = ByteArray.empty))) && hearTree m c))))))
theorem takesB_eq (m : Mem) (c : Cmt) : takesB m c = (m.inn && (decide (c.tag = m.tag) && (decide (m.ep < 12) && (decide (c.sender ≠ m.who) && (decide (keyOf m.keys c.sender ≠ ByteArray.empty) && ((decide (c.rem < 0) || decide (keyOf m.keys c.rem ≠ ByteArray.empty)) && ((decide (c.add < 0) || (decide (c.add = c.rem) || decide (keyOf m.keys c.add = ByteArray.empty))) && hearTree m c))))))) := rfl
theorem chain4 : ∀ k : Nat, k < 8 → chainOf ((7 + k : Nat) : Int) = ((7 + k : Nat) : Int) :: upOf ((7 + k : Nat) : Int) ∧ (upOf ((7 + k : Nat) : Int)).length = 3 := by decide
theorem rowT_int : RowT Tryz.prog 34 3 1 8 := rowT_of Tryz.underlying34 (show (Tryz.prog.info? 3).map (fun i => (i.zero, i.size, i.bytes)) = some (some (.int .i64 0), 1, 8) by kernel_rfl) rfl (by decide)
def commitB (m : Mem) (fresh : ByteArray) (add rem : Int) (leaf key : ByteArray) : Bool := memOkS m && (Kw.ok fresh && (decide (mOp fresh = 1) && (mayB m add rem leaf key && (decide (m.tag.size + fresh.size ≤ 300) && decide (m.init.size ≤ 280)))))
def commitX (m : Mem) (fresh : ByteArray) (add rem : Int) (leaf key : ByteArray) : Mem := if commitB m fresh add rem leaf key = true then commitM m fresh add rem leaf else Mem.none
def commitY (m : Mem) (fresh : ByteArray) (add rem : Int) (leaf key : ByteArray) : Cmt := if commitB m fresh add rem leaf key = true then commitC m fresh add rem leaf key else Cmt.none
theorem commitB_eq (m : Mem) (fresh : ByteArray) (add rem : Int) (leaf key : ByteArray) : commitB m fresh add rem leaf key = (memOkS m && (Kw.ok fresh && (decide (mOp fresh = 1) && (mayB m add rem leaf key && (decide (m.tag.size + fresh.size ≤ 300) && decide (m.init.size ≤ 280)))))) := rfl
theorem memOk_facts {m : Mem} (h : memOkS m = true) (hi : m.inn = true) : m.keys.length = 15 ∧ (0 ≤ m.who ∧ m.who ≤ 7) ∧ (0 ≤ m.ep ∧ m.ep ≤ 12) ∧ Kw.ok m.init = true ∧ m.tag.size ≤ 300 ∧ treOk m.keys = true := by unfold memOkS at h; rw [if_pos hi] at h; simp only [Bool.and_eq_true, decide_eq_true_eq] at h; obtain ⟨⟨⟨⟨⟨⟨h1, h2⟩, _⟩, _⟩, h3⟩, h4⟩, h5⟩ := h; exact ⟨(treOk_iff.1 h2).1, h1, h3, h4, h5, h2⟩
theorem may_facts {m : Mem} {add rem : Int} {leaf key : ByteArray} (h : mayB m add rem leaf key = true) : m.inn = true ∧ m.ep < 12 ∧ (-1 ≤ add ∧ add ≤ 7) ∧ (-1 ≤ rem ∧ rem ≤ 7) := by rw [mayB_eq] at h; simp only [Bool.and_eq_true, decide_eq_true_eq] at h; obtain ⟨h1, h2, h3, h4, _⟩ := h; unfold inB at h3 h4; simp only [Bool.and_eq_true, decide_eq_true_eq] at h3 h4; exact ⟨h1, h2, h3, h4⟩
def sameM (m : Mem) : Mem := ⟨m.inn, m.who, if m.inn = true then m.keys else [], m.own, m.ep, m.init, m.tag⟩
def hearX (m : Mem) (c : Cmt) : Mem := if (memOkS m && cmtOk c) = true then (if takesB m c = true then (if c.rem = m.who then Mem.none else if hearB m c = true then hearM m c else sameM m) else sameM m) else Mem.none
def hearY (m : Mem) (c : Cmt) : Bool := (memOkS m && cmtOk c) && (takesB m c && (decide (c.rem = m.who) || hearB m c))
theorem hearX_eq (m : Mem) (c : Cmt) : hearX m c = if (memOkS m && cmtOk c) = true then (if takesB m c = true then (if c.rem = m.who then Mem.none else if hearB m c = true then hearM m c else sameM m) else sameM m) else Mem.none := rfl
theorem hearY_eq (m : Mem) (c : Cmt) : hearY m c = ((memOkS m && cmtOk c) && (takesB m c && (decide (c.rem = m.who) || hearB m c))) := rfl
theorem chain_mem15 {n : Int} (h : 0 ≤ n ∧ n ≤ 7) {p : Int} (hp : p ∈ chainOf (leafOf n)) : 0 ≤ p ∧ p < 15 := by obtain ⟨k, rfl⟩ : ∃ k : Nat, n = (k : Int) := ⟨n.toNat, by omega⟩; (have hk : k < 8 := by omega); rw [leaf_in h.1 h.2, show (7 : Int) + (k : Int) = ((7 + k : Nat) : Int) by omega] at hp; obtain ⟨j, hj, rfl⟩ := List.getElem_of_mem hp; have := chain_in15 (7 + k) (by omega) j hj; rw [List.getD_eq_getElem?_getD, List.getElem?_eq_getElem hj] at this; exact this
theorem own_places {m : Mem} (h : memOkS m = true) (hi : m.inn = true) : ∀ o ∈ m.own, (0 : Int) ≤ o.1 ∧ o.1 < 15 := by have h0 := (memOk_facts h hi).2.1; unfold memOkS at h; rw [if_pos hi] at h; simp only [Bool.and_eq_true, decide_eq_true_eq] at h; obtain ⟨⟨⟨⟨⟨⟨h1, h2⟩, h3⟩, _⟩, _⟩, _⟩, _⟩ := h; intro o ho; obtain ⟨j, hj, rfl⟩ := List.getElem_of_mem ho; unfold fitsS at h3; rw [List.all_eq_true] at h3; have h4 := h3 j (by rw [List.mem_range]; exact hj); unfold fitJ at h4; simp only [Bool.and_eq_true, decide_eq_true_eq] at h4; have h5 := chain_mem15 h0 h4.1.1.1; rw [List.getD_eq_getElem?_getD, List.getElem?_eq_getElem hj] at h5; exact h5
theorem takes_in {m : Mem} {c : Cmt} (h : takesB m c = true) : m.inn = true ∧ m.ep < 12 := by rw [takesB_eq] at h; simp only [Bool.and_eq_true, decide_eq_true_eq] at h; exact ⟨h.1, h.2.2.1⟩
theorem cmtOk_rem {c : Cmt} (h : cmtOk c = true) : (-1 ≤ c.rem ∧ c.rem ≤ 7) ∧ c.boxes.length ≤ 20 ∧ c.keys.length = 15 := by have hk := (treOk_iff.1 (cmtOk_keys h)).1; unfold cmtOk at h; simp only [Bool.and_eq_true, decide_eq_true_eq] at h; obtain ⟨⟨⟨⟨⟨_, h1⟩, _⟩, h2, _⟩, _⟩, _⟩ := h; unfold otherB oneB at h1; simp at h1; exact ⟨by omega, h2, hk⟩
def seenOne (n x : Int) (st : Bool × List Int) : Bool × List Int := if st.1 = false ∧ x < n then (true, st.2 ++ [n]) else st
def seenStep (n lim : Int) (st : Bool × List Int) (x : Int) : Bool × List Int := if lim < x then ((seenOne n x st).1, (seenOne n x st).2 ++ [x]) else seenOne n x st
def seenTo (n lim : Int) (xs : List Int) (k : Nat) : Bool × List Int := (xs.take k).foldl (seenStep n lim) (false, [])
def seenOf (n lim : Int) (xs : List Int) : List Int := if (seenTo n lim xs xs.length).1 = true then (seenTo n lim xs xs.length).2 else (seenTo n lim xs xs.length).2 ++ [n]
theorem seenTo_succ (n lim : Int) (xs : List Int) (k : Nat) (h : k < xs.length) : seenTo n lim xs (k + 1) = seenStep n lim (seenTo n lim xs k) (xs.getD k 0) := by unfold seenTo; rw [List.take_succ_eq_append_getElem h, List.foldl_append, List.getD_eq_getElem?_getD, List.getElem?_eq_getElem h]; rfl
theorem seenStep_le (n lim : Int) (st : Bool × List Int) (x : Int) : (seenStep n lim st x).2.length ≤ st.2.length + 2 := by unfold seenStep seenOne; split <;> split <;> simp
theorem seenTo_le (n lim : Int) (xs : List Int) : ∀ k : Nat, k ≤ xs.length → (seenTo n lim xs k).2.length ≤ 2 * k
  | 0, _ => by simp [seenTo]
  | k + 1, h => by
    rw [seenTo_succ n lim xs k (by omega)]
    have := seenTo_le n lim xs k (by omega)
    have := seenStep_le n lim (seenTo n lim xs k) (xs.getD k 0)
    omega
theorem one_newI (w : World) (x : Value) (t : TypeId) : ∀ j u, [x][j]? = some u → (w.alloc (.cells #[x] t)).cell? (Addr.add ⟨w.heap.size, 0, none⟩ j) = some u := by
 intro j u hj
 match j, hj with
 | 0, hj => simp at hj; subst hj; simp [Addr.add, go_sem]
theorem l6Seen_any (v : Value) (xs : List Int) (n top : Int) (w : World) (h : IRow w v xs) (hl : xs.length ≤ 1000) (ht : -1000000000 ≤ top ∧ top ≤ 1000000000) : Calls Tryz.prog 96 #[v, .int .i64 n, .int .i64 top] w fun e w' => ∃ u, e = .returned u ∧ OwnI w.heap.size w' u (seenOf n (top - 8) xs) ∧ Below w.heap.size w w' := by
 obtain ⟨i0, hi, hz0, hz1, hz2⟩ := info_parts info_int2; have hI := hide (And.intro hi (And.intro hz0 (And.intro hz1 hz2))); clear hi hz0 hz1 hz2; obtain ⟨ao, cap, rfl, h1, h2, h3⟩ := h.form; have H3 := hide h3; (have i8 : IntKind.i64.wrap (top - 8) = top - 8 := by simp [IntKind.wrap, IntKind.bits, IntKind.signed]; omega); clear h3 h; have O0 : Hid (OwnI w.heap.size (w.alloc (.cells #[] 3)) (.slice (some ⟨w.heap.size, 0, none⟩) 0 0) (seenTo n (top - 8) xs 0).2) := World.ownsRow_made w #[] 0 (Nat.le_refl _) (by omega) rfl; have B0 : Hid (Below w.heap.size w (w.alloc (.cells #[] 3))) := (Below.refl _ _).alloc (Nat.le_refl _) _; go_enter Tryz.func96, Tryz.ntmps96; (go_wp2_with fail); generalize w.alloc (.cells #[] 3) = W0 at *; go_loopw [7, 8, 9] (fun o d i wr => ∃ k : Nat, k ≤ xs.length ∧ i = .int .i64 (k : Int) ∧ d = .bool (seenTo n (top - 8) xs k).1 ∧ (∃ oo on oc, o = .slice oo on oc) ∧ Hid (OwnI w.heap.size wr o (seenTo n (top - 8) xs k).2) ∧ Hid (Below w.heap.size w wr)) (fun _ _ i _ => xs.length - (intOf i).toNat)
 case atStart => exact ⟨0, by omega, rfl, rfl, ⟨_, _, _, rfl⟩, O0, B0⟩
 case round =>
  clear O0 B0; obtain ⟨k, hk, rfl, rfl, ⟨po, pn, pc, rfl⟩, hO, hB⟩ := hrel; generalize wr = w1 at *; (have HPL : Hid (pn = (seenTo n (top - 8) xs k).2.length ∧ pn ≤ 2000) := by obtain ⟨zo, zc, e⟩ := row_form' hO.out; simp only [Value.slice.injEq] at e; have := seenTo_le n (top - 8) xs k hk; exact ⟨e.2.1, by rw [e.2.1]; omega⟩); by_cases hlt : k < xs.length
  · (have hlt2 : (k : Int) < (xs.length : Int) := by omega); (have hk0 : (0 : Int) ≤ (k : Int) := by omega); have i1 : IntKind.i64.wrap ((k : Int) + 1) = (k : Int) + 1 := wrap_small _ (by omega) (by omega); obtain ⟨ad, rfl, c0⟩ := H3.out k hlt; have c1 := (hB.out.cell (cell_lt c0)).trans c0; have HS := hide (seenTo_succ n (top - 8) xs k hlt); have C0 := hide c0; generalize xs.getD k 0 = x at *; generalize hq : seenTo n (top - 8) xs k = st at *; obtain ⟨d, Q⟩ := st; simp only at hO HPL; clear c0 hq
    cases d with
    | true =>
     (have HSO : Hid (seenOne n x (true, Q) = (true, Q)) := by show _ = _; unfold seenOne; rw [if_neg (by simp)]); by_cases hx : top - 8 < x
     · have hx2 : top - 8 < x := hx; have OQ : w1.ownsRow w.heap.size 3 1 (.slice po pn pc) Q.length (Q.map (Value.int .i64)) := unhide hO; rw [← HPL.out.1] at OQ; have OP := hide OQ; have hsz2 := hB.out.size; have hpn := HPL.out.2; clear OQ hO; (go_wp2_with (at_builtin; refine wpList_append_own _ rfl _ _ 34 rfl w.heap.size 3 i0 (.int .i64 0) 1 8 Tryz.underlying34 hI.out.1 hI.out.2.1 hI.out.2.2.1 hI.out.2.2.2 rfl (by decide) _ _ _ rfl (World.ownsRow.alloc OP.out _) ⟨w1.heap.size, 0, none⟩ 1 1 [.int .i64 x] rfl rfl (one_newI _ _ _) (by intro u hu; simp at hu; subst hu; rfl) (by unfold maxLen; omega) (by omega) (by simp; omega) ?_)); intro v' w3 hown' hgrow _; have B3 : Hid (Below w.heap.size w w3) := (hB.out.alloc hsz2 (.cells #[.int .i64 x] 3)).grown hgrow (by simp; omega) (fun k hk => (World.ownsRow.lt OP.out k hk).1); (have O3 : Hid (OwnI w.heap.size w3 v' (Q ++ [x])) := by show OwnI _ _ _ _; unfold OwnI; rw [List.length_append, ← HPL.out.1, List.map_append]; exact hown'); have P3 : Hid (pn + 1 = (Q ++ [x]).length ∧ pn + 1 ≤ 2000 + 1) := ⟨by rw [List.length_append, ← HPL.out.1]; rfl, by omega⟩; obtain ⟨w3o, w3c, rfl⟩ := row_form' hown'; clear hown' hgrow OP hsz2 hpn; (go_wp2_with fail); go_roundw
       case rel =>
        (have HE : seenTo n (top - 8) xs (k + 1) = (true, Q ++ [x]) := by rw [HS.out]; unfold seenStep; rw [HSO.out, if_pos hx]); exact ⟨k + 1, by omega, by simp, by rw [HE], ⟨_, _, _, rfl⟩, by rw [HE]; exact O3, B3⟩
       case measure => simp [intOf]; omega
     · (have hx2 : decide (top - 8 < x) = false := by simp; omega); (go_wp2_with fail); go_roundw
       case rel =>
        (have HE : seenTo n (top - 8) xs (k + 1) = (true, Q) := by rw [HS.out]; unfold seenStep; rw [HSO.out, if_neg hx]); exact ⟨k + 1, by omega, by simp, by rw [HE], ⟨_, _, _, rfl⟩, by rw [HE]; exact hO, hB⟩
       case measure => simp [intOf]; omega
    | false =>
     by_cases hn : x < n
     · (have HSO : Hid (seenOne n x (false, Q) = (true, Q ++ [n])) := by show _ = _; unfold seenOne; rw [if_pos ⟨rfl, hn⟩]); have OQ : w1.ownsRow w.heap.size 3 1 (.slice po pn pc) Q.length (Q.map (Value.int .i64)) := unhide hO; rw [← HPL.out.1] at OQ; have OP := hide OQ; have hsz2 := hB.out.size; have hpn := HPL.out.2; clear OQ hO; (go_wp2_with (at_builtin; refine wpList_append_own _ rfl _ _ 34 rfl w.heap.size 3 i0 (.int .i64 0) 1 8 Tryz.underlying34 hI.out.1 hI.out.2.1 hI.out.2.2.1 hI.out.2.2.2 rfl (by decide) _ _ _ rfl (World.ownsRow.alloc OP.out _) ⟨w1.heap.size, 0, none⟩ 1 1 [.int .i64 n] rfl rfl (one_newI _ _ _) (by intro u hu; simp at hu; subst hu; rfl) (by unfold maxLen; omega) (by omega) (by simp; omega) ?_)); intro v' w2 hown' hgrow _; have B2 : Hid (Below w.heap.size w w2) := (hB.out.alloc hsz2 (.cells #[.int .i64 n] 3)).grown hgrow (by simp; omega) (fun k hk => (World.ownsRow.lt OP.out k hk).1); (have O2 : Hid (OwnI w.heap.size w2 v' (Q ++ [n])) := by show OwnI _ _ _ _; unfold OwnI; rw [List.length_append, ← HPL.out.1, List.map_append]; exact hown'); have P2 : Hid (pn + 1 = (Q ++ [n]).length ∧ pn + 1 ≤ 2000 + 1) := ⟨by rw [List.length_append, ← HPL.out.1]; rfl, by omega⟩; obtain ⟨w2o, w2c, rfl⟩ := row_form' hown'; clear hown' hgrow OP hsz2 hpn; obtain ⟨Q2, hQ2⟩ : ∃ q, q = Q ++ [n] := ⟨_, rfl⟩; rw [← hQ2] at O2 P2 HSO; clear hQ2; by_cases hx : top - 8 < x
       · have hx2 : top - 8 < x := hx; have c2 := (B2.out.cell (cell_lt C0.out)).trans C0.out; have OQ : w2.ownsRow w.heap.size 3 1 (.slice w2o (pn + 1) w2c) Q2.length (Q2.map (Value.int .i64)) := unhide O2; rw [← P2.out.1] at OQ; have OP := hide OQ; have hsz2 := B2.out.size; have hpn := P2.out.2; clear OQ O2; (go_wp2_with (at_builtin; refine wpList_append_own _ rfl _ _ 34 rfl w.heap.size 3 i0 (.int .i64 0) 1 8 Tryz.underlying34 hI.out.1 hI.out.2.1 hI.out.2.2.1 hI.out.2.2.2 rfl (by decide) _ _ _ rfl (World.ownsRow.alloc OP.out _) ⟨w2.heap.size, 0, none⟩ 1 1 [.int .i64 x] rfl rfl (one_newI _ _ _) (by intro u hu; simp at hu; subst hu; rfl) (by unfold maxLen; omega) (by omega) (by simp; omega) ?_)); intro v' w3 hown' hgrow _; have B3 : Hid (Below w.heap.size w w3) := (B2.out.alloc hsz2 (.cells #[.int .i64 x] 3)).grown hgrow (by simp; omega) (fun k hk => (World.ownsRow.lt OP.out k hk).1); (have O3 : Hid (OwnI w.heap.size w3 v' (Q2 ++ [x])) := by show OwnI _ _ _ _; unfold OwnI; rw [List.length_append, ← P2.out.1, List.map_append]; exact hown'); have P3 : Hid (pn + 1 + 1 = (Q2 ++ [x]).length ∧ pn + 1 + 1 ≤ 2002) := ⟨by rw [List.length_append, ← P2.out.1]; rfl, by omega⟩; obtain ⟨w3o, w3c, rfl⟩ := row_form' hown'; clear hown' hgrow OP hsz2 hpn; (go_wp2_with fail); go_roundw
         case rel =>
          (have HE : seenTo n (top - 8) xs (k + 1) = (true, Q2 ++ [x]) := by rw [HS.out]; unfold seenStep; rw [HSO.out, if_pos hx]); exact ⟨k + 1, by omega, by simp, by rw [HE], ⟨_, _, _, rfl⟩, by rw [HE]; exact O3, B3⟩
         case measure => simp [intOf]; omega
       · (have hx2 : decide (top - 8 < x) = false := by simp; omega); have c2 := (B2.out.cell (cell_lt C0.out)).trans C0.out; (go_wp2_with fail); go_roundw
         case rel =>
          (have HE : seenTo n (top - 8) xs (k + 1) = (true, Q2) := by rw [HS.out]; unfold seenStep; rw [HSO.out, if_neg hx]); exact ⟨k + 1, by omega, by simp, by rw [HE], ⟨_, _, _, rfl⟩, by rw [HE]; exact O2, B2⟩
         case measure => simp [intOf]; omega
     · (have HSO : Hid (seenOne n x (false, Q) = (false, Q)) := by show _ = _; unfold seenOne; rw [if_neg (fun q => hn q.2)]); (have hn2 : decide (x < n) = false := by simp; omega); by_cases hx : top - 8 < x
       · have hx2 : top - 8 < x := hx; have OQ : w1.ownsRow w.heap.size 3 1 (.slice po pn pc) Q.length (Q.map (Value.int .i64)) := unhide hO; rw [← HPL.out.1] at OQ; have OP := hide OQ; have hsz2 := hB.out.size; have hpn := HPL.out.2; clear OQ hO; (go_wp2_with (at_builtin; refine wpList_append_own _ rfl _ _ 34 rfl w.heap.size 3 i0 (.int .i64 0) 1 8 Tryz.underlying34 hI.out.1 hI.out.2.1 hI.out.2.2.1 hI.out.2.2.2 rfl (by decide) _ _ _ rfl (World.ownsRow.alloc OP.out _) ⟨w1.heap.size, 0, none⟩ 1 1 [.int .i64 x] rfl rfl (one_newI _ _ _) (by intro u hu; simp at hu; subst hu; rfl) (by unfold maxLen; omega) (by omega) (by simp; omega) ?_)); intro v' w3 hown' hgrow _; have B3 : Hid (Below w.heap.size w w3) := (hB.out.alloc hsz2 (.cells #[.int .i64 x] 3)).grown hgrow (by simp; omega) (fun k hk => (World.ownsRow.lt OP.out k hk).1); (have O3 : Hid (OwnI w.heap.size w3 v' (Q ++ [x])) := by show OwnI _ _ _ _; unfold OwnI; rw [List.length_append, ← HPL.out.1, List.map_append]; exact hown'); have P3 : Hid (pn + 1 = (Q ++ [x]).length ∧ pn + 1 ≤ 2000 + 1) := ⟨by rw [List.length_append, ← HPL.out.1]; rfl, by omega⟩; obtain ⟨w3o, w3c, rfl⟩ := row_form' hown'; clear hown' hgrow OP hsz2 hpn; (go_wp2_with fail); go_roundw
         case rel =>
          (have HE : seenTo n (top - 8) xs (k + 1) = (false, Q ++ [x]) := by rw [HS.out]; unfold seenStep; rw [HSO.out, if_pos hx]); exact ⟨k + 1, by omega, by simp, by rw [HE], ⟨_, _, _, rfl⟩, by rw [HE]; exact O3, B3⟩
         case measure => simp [intOf]; omega
       · (have hx2 : decide (top - 8 < x) = false := by simp; omega); (go_wp2_with fail); go_roundw
         case rel =>
          (have HE : seenTo n (top - 8) xs (k + 1) = (false, Q) := by rw [HS.out]; unfold seenStep; rw [HSO.out, if_neg hx]); exact ⟨k + 1, by omega, by simp, by rw [HE], ⟨_, _, _, rfl⟩, by rw [HE]; exact hO, hB⟩
         case measure => simp [intOf]; omega
  · (have hlt2 : decide ((k : Int) < (xs.length : Int)) = false := by simp; omega); (have hkl : k = xs.length := by omega); subst hkl; have HSE : Hid (seenOf n (top - 8) xs = if (seenTo n (top - 8) xs xs.length).1 = true then (seenTo n (top - 8) xs xs.length).2 else (seenTo n (top - 8) xs xs.length).2 ++ [n]) := rfl; generalize seenTo n (top - 8) xs xs.length = st at *; obtain ⟨d, Q⟩ := st; simp only at hO HPL HSE
    cases d with
    | true =>
     (go_wp2_with fail); go_ret; (have q : seenOf n (top - 8) xs = Q := by rw [HSE.out]; simp); refine ⟨_, rfl, ?_, unhide hB⟩; rw [q]; exact unhide hO
    | false =>
     have OQ : w1.ownsRow w.heap.size 3 1 (.slice po pn pc) Q.length (Q.map (Value.int .i64)) := unhide hO; rw [← HPL.out.1] at OQ; have OP := hide OQ; have hsz2 := hB.out.size; have hpn := HPL.out.2; clear OQ hO; (go_wp2_with (at_builtin; refine wpList_append_own _ rfl _ _ 34 rfl w.heap.size 3 i0 (.int .i64 0) 1 8 Tryz.underlying34 hI.out.1 hI.out.2.1 hI.out.2.2.1 hI.out.2.2.2 rfl (by decide) _ _ _ rfl (World.ownsRow.alloc OP.out _) ⟨w1.heap.size, 0, none⟩ 1 1 [.int .i64 n] rfl rfl (one_newI _ _ _) (by intro u hu; simp at hu; subst hu; rfl) (by unfold maxLen; omega) (by omega) (by simp; omega) ?_)); intro v' w2 hown' hgrow _; have B2 : Hid (Below w.heap.size w w2) := (hB.out.alloc hsz2 (.cells #[.int .i64 n] 3)).grown hgrow (by simp; omega) (fun k hk => (World.ownsRow.lt OP.out k hk).1); (have O2 : Hid (OwnI w.heap.size w2 v' (Q ++ [n])) := by show OwnI _ _ _ _; unfold OwnI; rw [List.length_append, ← HPL.out.1, List.map_append]; exact hown'); have P2 : Hid (pn + 1 = (Q ++ [n]).length ∧ pn + 1 ≤ 2000 + 1) := ⟨by rw [List.length_append, ← HPL.out.1]; rfl, by omega⟩; obtain ⟨w2o, w2c, rfl⟩ := row_form' hown'; clear hown' hgrow OP hsz2 hpn; (go_wp2_with fail); go_ret; exact ⟨_, rfl, by rw [HSE.out, if_neg (by simp)]; exact unhide O2, unhide B2⟩
structure Win where
  key : ByteArray
  top : Int
  seen : List Int
def Win.none : Win := ⟨⟨#[]⟩, 0, []⟩
abbrev winC (key : ByteArray) (top : Int) (s : Value) : Array Value := #[.string key, .int .i64 top, s]
abbrev Win.cells (x : Win) (s : Value) : Array Value := winC x.key x.top s
abbrev noWin : Array Value := winC ⟨#[]⟩ 0 (.slice none 0 0)
theorem info_wi : (Tryz.prog.info? 119).map (·.size) = some 3 := by kernel_rfl
theorem load_wi {w : World} {b : Nat} {cs : Array Value} (h : Blk w b 119 cs) (hc : cs.size = 3) : (loadVar 119 ⟨b, 0, none⟩).run Tryz.prog w = .ok (.agg cs) w :=
  run_loadVar_row w b _ _ cs (0, 0) _ h Tryz.underlying119 rfl (by rw [hc]; exact info_wi)
theorem one_wi (a : ByteArray) (b : Int) (x : Option Addr) (n c : Nat) : (winC a b (.slice x n c)).all (·.oneCell') = true := by simp [Value.oneCell']
def lateB (x : Win) (n : Int) : Bool := decide (n ≤ x.top - 8) || decide (n ∈ x.seen)
def tookW (x : Win) (n : Int) : Win := ⟨x.key, max x.top n, seenOf n (max x.top n - 8) x.seen⟩
def takeW (x : Win) (n : Int) : Win × Bool := if lateB x n = true then (x, false) else (tookW x n, true)
def WRow (w : World) (v : Value) (ws : List (Win × Value)) : Prop :=
  ∃ (ao : Option Addr) (cap : Nat), v = .slice ao ws.length cap ∧ ws.length ≤ cap ∧ cap ≤ maxLen ∧
    ∀ i (h : i < ws.length), ∃ a, ao = some a ∧ w.cell? (a.add (i * 3)) = some (.string ws[i].1.key) ∧ w.cell? ⟨(a.add (i * 3)).block, (a.add (i * 3)).off + 1, none⟩ = some (.int .i64 ws[i].1.top) ∧ w.cell? ⟨(a.add (i * 3)).block, (a.add (i * 3)).off + 2, none⟩ = some ws[i].2 ∧ IRow w ws[i].2 ws[i].1.seen
theorem WRow.below {w w' : World} {v : Value} {ws : List (Win × Value)} (h : WRow w v ws) (hb : Below w.heap.size w w') : WRow w' v ws := by obtain ⟨ao, cap, h1, h2, h3, h4⟩ := h; refine ⟨ao, cap, h1, h2, h3, fun i hi => ?_⟩; obtain ⟨a, e, q0, q1, q2, q3⟩ := h4 i hi; exact ⟨a, e, (hb.cell (cell_lt q0)).trans q0, (hb.cell (cell_lt q1)).trans q1, (hb.cell (cell_lt q2)).trans q2, q3.below hb⟩
def atFrom (key : ByteArray) : List (Win × Value) → Nat → Int
  | [], _ => -1
  | x :: l, k => if x.1.key = key then (k : Int) else atFrom key l (k + 1)
def atW (ws : List (Win × Value)) (key : ByteArray) : Int := atFrom key ws 0
theorem atFrom_drop {key : ByteArray} {ws : List (Win × Value)} {k : Nat} (h : k < ws.length) : atFrom key (ws.drop k) k = if ws[k].1.key = key then (k : Int) else atFrom key (ws.drop (k + 1)) (k + 1) := by rw [List.drop_eq_getElem_cons h, atFrom]
theorem txt_dec (x y : ByteArray) : (x.toList == y.toList) = decide (x = y) := by rw [Bool.eq_iff_iff, toList_eq]; simp
theorem l6At_any (v : Value) (ws : List (Win × Value)) (key : ByteArray) (w : World) (h : WRow w v ws) (hl : ws.length ≤ 1000000) : Calls Tryz.prog 75 #[v, .string key] w fun e w' => e = .returned (.int .i64 (atW ws key)) ∧ w' = w := by
 obtain ⟨ao, cap, rfl, h1, h2, h3⟩ := h; have H3 := hide h3; unfold maxLen at h2; clear h3; go_enter Tryz.func75, Tryz.ntmps75; (go_wp2_with fail); go_loop [5] (fun i => ∃ k : Nat, k ≤ ws.length ∧ i = .int .i64 (k : Int) ∧ Hid (atW ws key = atFrom key (ws.drop k) k)) (fun i => ws.length - (intOf i).toNat)
 case atStart => exact ⟨0, by omega, rfl, by show _ = _; rfl⟩
 case round =>
  obtain ⟨k, hk, rfl, HA⟩ := hrel; by_cases hlt : k < ws.length
  · (have hlt2 : (k : Int) < (ws.length : Int) := by omega); (have hk0 : (0 : Int) ≤ (k : Int) := by omega); obtain ⟨a, rfl, c0, _, _, _⟩ := H3.out k hlt; (have i3 : IntKind.i64.wrap ((k : Int) + 1) = (k : Int) + 1 := by simp [IntKind.wrap, IntKind.bits, IntKind.signed]; omega); have HD := hide (HA.out.trans (atFrom_drop hlt)); generalize ws[k].1.key = yk at *; by_cases hy : yk = key
    · (have hq : (yk.toList == key.toList) = true := by rw [txt_dec]; simpa using hy); (have HF : Hid (atW ws key = (k : Int)) := by show _ = _; rw [HD.out, if_pos hy]); clear HD HA hy; (go_wp2_with fail); go_ret; exact ⟨by rw [HF.out]; rfl, rfl⟩
    · (have hq : (yk.toList == key.toList) = false := by rw [txt_dec]; simpa using hy); (have HF : Hid (atW ws key = atFrom key (ws.drop (k + 1)) (k + 1)) := by show _ = _; rw [HD.out, if_neg hy]); clear HD HA hy; (go_wp2_with fail); exact ⟨⟨k + 1, by omega, by simp, HF⟩, by simp [intOf]; omega⟩
  · (have hlt2 : decide ((k : Int) < (ws.length : Int)) = false := by simp; omega); (have HF : Hid (atW ws key = -1) := by show _ = _; rw [HA.out, List.drop_eq_nil_of_le (by omega)]; rfl); clear HA; (go_wp2_with fail); go_ret; exact ⟨by rw [HF.out]; rfl, rfl⟩
def letB (b : UInt8) : Bool := decide (97 ≤ b.toNat) && decide (b.toNat ≤ 122)
def textB (s : ByteArray) : Bool := decide (s.size ≤ 8) && s.data.toList.all letB
theorem text_long {s : ByteArray} (h : ¬ s.size ≤ 8) : textB s = false := by unfold textB; rw [decide_eq_false h]; rfl
theorem text_no {s : ByteArray} {k : Nat} (hk : k < s.size) (h : letB s[k] = false) : textB s = false := by unfold textB; (have : s.data.toList.all letB = false := by rw [List.all_eq_false]; exact ⟨s[k], List.getElem_mem (l := s.data.toList) (by simpa using hk), by rw [h]; simp⟩); rw [this, Bool.and_false]
theorem text_yes {s : ByteArray} (hl : s.size ≤ 8) (h : ∀ t (ht : t < s.size), letB s[t] = true) : textB s = true := by unfold textB; rw [decide_eq_true hl, Bool.true_and, List.all_eq_true]; intro b hb; obtain ⟨t, ht, rfl⟩ := List.mem_iff_getElem.1 hb; exact h t (by simpa using ht)
theorem sFraText_any (s : ByteArray) (w : World) : Calls Tryz.prog 67 #[.string s] w fun e w' => e = .returned (.bool (textB s)) ∧ w' = w := by
 by_cases hl : s.size ≤ 8
 · (have hl2 : decide ((8 : Int) < (s.size : Int)) = false := by simp; omega); (have hl3 : (s.size : Int) ≤ 8 := by omega); go_enter Tryz.func67, Tryz.ntmps67; (go_wp2_with fail); go_loop [3] (fun i => ∃ k : Nat, k ≤ s.size ∧ i = .int .i64 (k : Int) ∧ Hid (∀ t (_ : t < k) (ht : t < s.size), letB s[t] = true)) (fun i => s.size - (intOf i).toNat)
   case atStart => exact ⟨0, Nat.zero_le _, rfl, fun t ht => absurd ht (Nat.not_lt_zero _)⟩
   case round =>
    obtain ⟨k, hk, rfl, hE⟩ := hrel; by_cases hlt : k < s.size
    · (have i3 : IntKind.i64.wrap ((k : Int) + 1) = (k : Int) + 1 := by simp [IntKind.wrap, IntKind.bits, IntKind.signed]; omega); (have hlt2 : (k : Int) < (s.size : Int) := by omega); by_cases h1 : s[k].toNat < 97
      · have HT := hide (text_no hlt (by unfold letB; rw [decide_eq_false (by omega)]; rfl)); (have h2 : (s[k].toNat : Int) < 97 := by omega); (go_wp2_with fail); go_ret; exact ⟨by rw [HT.out]; rfl, rfl⟩
      · (have h2 : decide ((s[k].toNat : Int) < 97) = false := by simp; omega); (have h3 : 97 ≤ s[k].toNat := by omega); by_cases h4 : s[k].toNat ≤ 122
        · (have h5 : decide ((122 : Int) < (s[k].toNat : Int)) = false := by simp; omega); (have HL : Hid (letB s[k] = true) := by show _ = _; unfold letB; rw [decide_eq_true h3, decide_eq_true h4]; rfl); (go_wp2_with fail); go_round
          case rel =>
           refine ⟨k + 1, by omega, by simp, fun t htk ht => ?_⟩; by_cases e : t = k
           · subst e; exact HL.out
           · exact hE.out t (by omega) ht
          case measure => simp [intOf]; omega
        · have HT := hide (text_no hlt (by unfold letB; rw [decide_eq_false h4, Bool.and_false])); (have h5 : (122 : Int) < (s[k].toNat : Int) := by omega); (go_wp2_with fail); go_ret; exact ⟨by rw [HT.out]; rfl, rfl⟩
    · (have hlt2 : decide ((k : Int) < (s.size : Int)) = false := by simp; omega); (have hkk : k = s.size := by omega); have HT := hide (text_yes hl (fun t ht => hE.out t (by omega) ht)); (go_wp2_with fail); go_ret; exact ⟨by rw [HT.out]; rfl, rfl⟩
 · (have hl2 : (8 : Int) < (s.size : Int) := by omega); have HT := hide (text_long hl); go_enter Tryz.func67, Tryz.ntmps67; (go_wp2_with fail); go_ret; exact ⟨by rw [HT.out]; rfl, rfl⟩
structure Fra where
  fr : Int
  key : ByteArray
  n : Int
  text : ByteArray
abbrev fraC (fr : Int) (key : ByteArray) (n : Int) (text : ByteArray) : Array Value := #[.int .i64 fr, .string key, .int .i64 n, .string text]
abbrev Fra.cells (f : Fra) : Array Value := fraC f.fr f.key f.n f.text
def fraOk (f : Fra) : Bool := inB 0 7 f.fr && (Kw.ok f.key && (decide (mOp f.key = 5) && (decide (mWho f.key = f.fr) && (inB 1 999 f.n && textB f.text))))
theorem fraOk_eq (f : Fra) : fraOk f = (inB 0 7 f.fr && (Kw.ok f.key && (decide (mOp f.key = 5) && (decide (mWho f.key = f.fr) && (inB 1 999 f.n && textB f.text))))) := rfl
def KeepX (X : List Nat) (w w' : World) : Prop := w.heap.size ≤ w'.heap.size ∧ ∀ k, k < w.heap.size → k ∉ X → w'.heap[k]? = w.heap[k]?
def MoreX (X X' : List Nat) (w : World) : Prop := ∀ b, b ∈ X' → b ∈ X ∨ w.heap.size ≤ b
theorem MoreX.refl (X : List Nat) (w : World) : MoreX X X w := fun _ h => .inl h
theorem KeepX.below {X : List Nat} {w w' : World} (h : Below w.heap.size w w') : KeepX X w w' := ⟨h.size, fun k hk _ => h.block k hk⟩
theorem KeepX.grown {X : List Nat} {w w' : World} {r : Option Nat} (h : w.grownBy w' r) (hr : ∀ b, r = some b → b ∈ X) : KeepX X w w' := ⟨h.size, fun k hk hx => h.block k hk (fun e => hx (hr k e.symm))⟩
theorem InX.keep {X X' : List Nat} {w w' : World} {v : Value} (h : InX X w v) (hk : KeepX X w w') (hm : MoreX X X' w) : InX X' w' v := fun b hb => by
  obtain ⟨h1, h2⟩ := h b hb
  refine ⟨Nat.lt_of_lt_of_le h1 hk.1, fun q => ?_⟩
  rcases hm b q with q | q
  · exact h2 q
  · omega
theorem InX.cell {X : List Nat} {w w' : World} {a : Addr} {l c : Nat} (h : InX X w (.slice (some a) l c)) (hk : KeepX X w w') (p : Addr) (hp : p.block = a.block) : w'.cell? p = w.cell? p := by
 obtain ⟨h1, h2⟩ := h a.block rfl; refine World.cell?_of_block (w := w) (hk.2 p.block ?_ ?_)
 · rw [hp]; exact h1
 · rw [hp]; exact h2
theorem addr_block (a : Addr) (k : Nat) : (a.add k).block = a.block := by unfold Addr.add; split <;> rfl
theorem add_off (a : Addr) (k : Nat) : (a.add k).off = a.off + k := by
 unfold Addr.add; split
 · rename_i h; rw [h]; rfl
 · rfl
theorem add_one2 (a : Addr) (k : Nat) : (a.add k).add 1 = a.add (k + 1) := by rw [add_oneM, Addr.add_succ' a k, addr_block, add_off, Nat.add_assoc]
theorem SRow.keepX {X : List Nat} {w w' : World} {v : Value} {xs : List ByteArray} (h : SRow w v xs) (hi : InX X w v) (hk : KeepX X w w') : SRow w' v xs := by
 rcases h with h | ⟨a, cap, rfl, h2, h3, h4⟩
 · exact .inl h
 · exact .inr ⟨a, cap, rfl, h2, h3, fun i hl => (hi.cell hk _ (addr_block a i)).trans (h4 i hl)⟩
theorem IRow.keepX {X : List Nat} {w w' : World} {v : Value} {xs : List Int} (h : IRow w v xs) (hi : InX X w v) (hk : KeepX X w w') : IRow w' v xs := by
 rcases h with h | ⟨a, cap, rfl, h2, h3, h4⟩
 · exact .inl h
 · exact .inr ⟨a, cap, rfl, h2, h3, fun i hl => (hi.cell hk _ (addr_block a i)).trans (h4 i hl)⟩
def RowR (w : World) (v : Value) (n : Nat) (cs : List Value) : Prop := (v = .slice none 0 0 ∧ n = 0 ∧ cs = []) ∨ ∃ ad c, v = .slice (some ad) n c ∧ n ≤ c ∧ c ≤ maxLen ∧ ∀ j u, cs[j]? = some u → w.cell? (ad.add j) = some u
theorem RowR.keepX {X : List Nat} {w w' : World} {v : Value} {n : Nat} {cs : List Value} (h : RowR w v n cs) (hi : InX X w v) (hk : KeepX X w w') : RowR w' v n cs := by
 rcases h with h | ⟨a, cap, rfl, h2, h3, h4⟩
 · exact .inl h
 · exact .inr ⟨a, cap, rfl, h2, h3, fun j u hj => (hi.cell hk _ (addr_block a j)).trans (h4 j u hj)⟩
theorem RowR.below {w w' : World} {v : Value} {n : Nat} {cs : List Value} (h : RowR w v n cs) (hb : Below w.heap.size w w') : RowR w' v n cs := by
 rcases h with h | ⟨a, cap, rfl, h2, h3, h4⟩
 · exact .inl h
 · exact .inr ⟨a, cap, rfl, h2, h3, fun j u hj => (hb.cell (cell_lt (h4 j u hj))).trans (h4 j u hj)⟩
theorem RowR.form {w : World} {v : Value} {n : Nat} {cs : List Value} (h : RowR w v n cs) : ∃ a c, v = .slice a n c := by
 rcases h with ⟨h1, h2, _⟩ | ⟨a, cap, h1, _⟩
 · exact ⟨none, 0, by rw [h1, h2]⟩
 · exact ⟨some a, cap, h1⟩
theorem RowR.own {w : World} {B : Nat} {e : TypeId} {size : Nat} {v : Value} {n : Nat} {xs : List Value} (h : w.ownsRow B e size v n xs) : RowR w v n xs := by
 have hh := h; rcases h.2 with ⟨h1, h2⟩ | ⟨g, cap, cur, h1, _, _, h4, h5, _⟩
 · subst h2; exact .inl ⟨h1, rfl, List.eq_nil_of_length_eq_zero (by simpa using h.1)⟩
 · subst h1; exact .inr ⟨_, cap, rfl, h4, h5, hh.cells (g := g) rfl⟩
theorem RowR.mrow {w : World} {v : Value} {own : List Mo} (h : RowR w v own.length (mcells own)) : MRow w v own := by
 rcases h with ⟨h1, h2, _⟩ | ⟨a, cap, h1, h3, h4, h5⟩
 · exact ⟨none, 0, by rw [h1, h2], by omega, by omega, fun i hi => by omega⟩
 · refine ⟨some a, cap, h1, h3, h4, fun i hi => ?_⟩; obtain ⟨p1, p2⟩ := mcells_get own i hi; refine ⟨a, rfl, h5 _ _ p1, ?_⟩; have := h5 _ _ p2; rw [add_one2]; exact this
structure RowD where
  e : TypeId
  size : Nat
  v : Value
  n : Nat
  P : List Nat → World → List Value → Prop
def Stays (P : List Nat → World → List Value → Prop) : Prop := ∀ (X X' : List Nat) (w w' : World) cs, KeepX X w w' → MoreX X X' w → P X w cs → P X' w' cs
structure Rows (X L : List Nat) (B : Nat) (w : World) (rs : List RowD) : Prop where
  loc : ∀ b ∈ L, b ∈ X ∧ ∀ r ∈ rs, r.v.ownBlock ≠ some b
  lt : ∀ b ∈ X, b < w.heap.size
  inx : ∀ r ∈ rs, ∀ b, r.v.ownBlock = some b → b ∈ X
  st : ∀ r ∈ rs, Stays r.P
  own : ∀ r ∈ rs, ∃ cs, w.ownsRow B r.e r.size r.v r.n cs ∧ r.P X w cs
  apart : rs.Pairwise fun r r' => r.v.ownBlock = Option.none ∨ r.v.ownBlock ≠ r'.v.ownBlock
theorem Rows.below {X L : List Nat} {B : Nat} {w w' : World} {rs : List RowD} (h : Rows X L B w rs) (hb : Below w.heap.size w w') : Rows X L B w' rs :=
  ⟨h.loc, fun b hx => Nat.lt_of_lt_of_le (h.lt b hx) hb.size, h.inx, h.st, fun r hr => by
    obtain ⟨cs, h1, h2⟩ := h.own r hr
    exact ⟨cs, own_below' h1 hb, h.st r hr X X w w' cs (KeepX.below hb) (MoreX.refl _ _) h2⟩, h.apart⟩
theorem Rows.upd {X L : List Nat} {B : Nat} {w w' : World} {rs : List RowD} (h : Rows X L B w rs) (i : Nat) (hi : i < rs.length) (r' : RowD) (hg : w.grownBy w' rs[i].v.ownBlock) {cs : List Value} (ho : w'.ownsRow B r'.e r'.size r'.v r'.n cs) (hst : Stays r'.P) (hat : r'.v.ownBlock = rs[i].v.ownBlock ∨ r'.v.ownBlock = some w.heap.size) (hP : ∀ X', MoreX X X' w → r'.P X' w' cs) : ∃ X', Rows X' L B w' (rs.set i r') ∧ MoreX X X' w := by
 have hk : KeepX X w w' := KeepX.grown hg (fun b hb => h.inx rs[i] (List.getElem_mem hi) b hb)
 have key : ∃ X' : List Nat, MoreX X X' w ∧ (∀ b ∈ X', b < w'.heap.size) ∧ (∀ b ∈ X, b ∈ X') ∧ ∀ b, r'.v.ownBlock = some b → b ∈ X' := by
  rcases hat with e | e
  · exact ⟨X, MoreX.refl _ _, fun b hb => Nat.lt_of_lt_of_le (h.lt b hb) hg.size, fun b hb => hb, fun b hb => h.inx rs[i] (List.getElem_mem hi) b (by rw [← e]; exact hb)⟩
  · refine ⟨w.heap.size :: X, ?_, ?_, fun b hb => List.mem_cons_of_mem _ hb, fun b hb => ?_⟩
    · intro b hb; rcases List.mem_cons.1 hb with rfl | hb
      · exact .inr (Nat.le_refl _)
      · exact .inl hb
    · intro b hb; rcases List.mem_cons.1 hb with rfl | hb
      · exact (ho.lt _ e).2
      · exact Nat.lt_of_lt_of_le (h.lt b hb) hg.size
    · rw [e] at hb; cases hb; exact List.mem_cons_self
 obtain ⟨X', hm, hlt, hsub, hin⟩ := key
 have hap : ∀ j (hj : j < rs.length), j ≠ i → rs[j].v.ownBlock = Option.none ∨ rs[j].v.ownBlock ≠ rs[i].v.ownBlock := fun j hj hne => by
  have hp := List.pairwise_iff_getElem.1 h.apart; rcases Nat.lt_or_gt_of_ne hne with q | q
  · exact hp j i hj hi q
  · rcases hp i j hi hj q with e | e
    · by_cases z : rs[j].v.ownBlock = Option.none
      · exact .inl z
      · exact .inr (fun q2 => z (q2.trans e))
    · exact .inr (fun q2 => e q2.symm)
 have hnew : ∀ j (hj : j < rs.length), j ≠ i → rs[j].v.ownBlock = Option.none ∨ rs[j].v.ownBlock ≠ r'.v.ownBlock := fun j hj hne => by
  rcases hat with e | e
  · rw [e]; exact hap j hj hne
  · refine .inr (fun q => ?_); rw [e] at q; have := h.lt _ (h.inx rs[j] (List.getElem_mem hj) _ q); omega
 refine ⟨X', ⟨?_, hlt, ?_, ?_, ?_, ?_⟩, hm⟩
 · intro b hb; obtain ⟨h1, h2⟩ := h.loc b hb; refine ⟨hsub b h1, fun r hr => ?_⟩; obtain ⟨j, hj, rfl⟩ := List.getElem_of_mem hr; rw [List.length_set] at hj; rw [List.getElem_set]; split
   · rcases hat with e | e
     · rw [e]; exact h2 _ (List.getElem_mem hi)
     · rw [e]; intro q; have := h.lt b h1; cases q; omega
   · exact h2 _ (List.getElem_mem hj)
 · intro r hr b hb; obtain ⟨j, hj, rfl⟩ := List.getElem_of_mem hr; rw [List.length_set] at hj; rw [List.getElem_set] at hb; split at hb
   · exact hin b hb
   · exact hsub b (h.inx _ (List.getElem_mem hj) b hb)
 · intro r hr; obtain ⟨j, hj, rfl⟩ := List.getElem_of_mem hr; rw [List.length_set] at hj; rw [List.getElem_set]; split
   · exact hst
   · exact h.st _ (List.getElem_mem hj)
 · intro r hr; obtain ⟨j, hj, rfl⟩ := List.getElem_of_mem hr; rw [List.length_set] at hj; rw [List.getElem_set]; split
   · exact ⟨cs, ho, hP X' hm⟩
   · rename_i hne; obtain ⟨cs2, h1, h2⟩ := h.own _ (List.getElem_mem hj); exact ⟨cs2, h1.kept hg (hap j hj (fun q => hne q.symm)), h.st _ (List.getElem_mem hj) X X' w w' cs2 hk hm h2⟩
 · rw [List.pairwise_iff_getElem]; intro j k hj hk2 hjk; rw [List.length_set] at hj hk2; rw [List.getElem_set, List.getElem_set]; split
   · rename_i e1; subst e1; rw [if_neg (by omega)]; rcases hnew k hk2 (by omega) with e | e
     · by_cases z : r'.v.ownBlock = Option.none
       · exact .inl z
       · exact .inr (fun q => z (q.trans e))
     · exact .inr (fun q => e q.symm)
   · split
     · rename_i e1 e2; subst e2; exact hnew j hj (by omega)
     · exact List.pairwise_iff_getElem.1 h.apart j k hj hk2 hjk
theorem Rows.more {X L : List Nat} {B : Nat} {w w' : World} {rs : List RowD} {b : Nat} (h : Rows X L B w rs) (hb : Below w.heap.size w w') (hn : w.heap.size ≤ b ∧ b < w'.heap.size) : Rows (b :: X) (b :: L) B w' rs := by
 have hm : MoreX X (b :: X) w := fun z hz => by
  rcases List.mem_cons.1 hz with rfl | hz
  · exact .inr hn.1
  · exact .inl hz
 refine ⟨fun z hz => ?_, fun z hz => ?_, fun r hr z hz => List.mem_cons_of_mem _ (h.inx r hr z hz), h.st, fun r hr => ?_, h.apart⟩
 · rcases List.mem_cons.1 hz with rfl | hz
   · refine ⟨List.mem_cons_self, fun r hr q => ?_⟩; have := h.lt z (h.inx r hr z q); omega
   · exact ⟨List.mem_cons_of_mem _ (h.loc z hz).1, (h.loc z hz).2⟩
 · rcases List.mem_cons.1 hz with rfl | hz
   · exact hn.2
   · exact Nat.lt_of_lt_of_le (h.lt z hz) hb.size
 · obtain ⟨cs, h1, h2⟩ := h.own r hr; exact ⟨cs, own_below' h1 hb, h.st r hr X (b :: X) w w' cs (KeepX.below hb) hm h2⟩
theorem Rows.other {X L : List Nat} {B : Nat} {w w' : World} {rs : List RowD} {b : Nat} (h : Rows X L B w rs) (hg : w.grownBy w' (some b)) (hb : b ∈ L) : Rows X L B w' rs := by
 obtain ⟨h0, h1⟩ := h.loc b hb
 exact ⟨h.loc, fun z hz => Nat.lt_of_lt_of_le (h.lt z hz) hg.size, h.inx, h.st, fun r hr => by
   obtain ⟨cs, h2, h3⟩ := h.own r hr
   exact ⟨cs, h2.kept hg (.inr (h1 r hr)), h.st r hr X X w w' cs (KeepX.grown hg (fun z hz => by cases hz; exact h0)) (MoreX.refl _ _) h3⟩, h.apart⟩
theorem Rows.less {X L L' : List Nat} {B : Nat} {w : World} {rs : List RowD} (h : Rows X L B w rs) (hl : ∀ b ∈ L', b ∈ L) : Rows X L' B w rs := ⟨fun b hb => h.loc b (hl b hb), h.lt, h.inx, h.st, h.own, h.apart⟩
def KeepR (rs : List RowD) (w w' : World) : Prop := w.heap.size ≤ w'.heap.size ∧ (∀ k, k < w.heap.size → (∀ r ∈ rs, r.v.ownBlock ≠ some k) → w'.heap[k]? = w.heap[k]?) ∧ w'.os = w.os ∧ w'.tape = w.tape ∧ w'.output = w.output
theorem KeepR.refl (rs : List RowD) (w : World) : KeepR rs w w := ⟨Nat.le_refl _, fun _ _ _ => rfl, rfl, rfl, rfl⟩
theorem KeepR.trans {rs : List RowD} {w u w' : World} (h : KeepR rs w u) (k : KeepR rs u w') : KeepR rs w w' := ⟨Nat.le_trans h.1 k.1, fun b hb hr => (k.2.1 b (Nat.lt_of_lt_of_le hb h.1) hr).trans (h.2.1 b hb hr), k.2.2.1.trans h.2.2.1, k.2.2.2.1.trans h.2.2.2.1, k.2.2.2.2.trans h.2.2.2.2⟩
theorem KeepR.below {rs : List RowD} {w u w' : World} (h : KeepR rs w u) (hb : Below u.heap.size u w') : KeepR rs w w' := h.trans ⟨hb.size, fun k hk _ => hb.block k hk, hb.os, hb.tape, hb.output⟩
theorem KeepR.new {rs : List RowD} {w u w' : World} {b : Nat} (h : KeepR rs w u) (hg : u.grownBy w' (some b)) (hb : w.heap.size ≤ b) : KeepR rs w w' := ⟨Nat.le_trans h.1 hg.size, fun k hk hr => (hg.block k (Nat.lt_of_lt_of_le hk h.1) (fun e => by cases e; omega)).trans (h.2.1 k hk hr), hg.os.trans h.2.2.1, hg.tape.trans h.2.2.2.1, hg.output.trans h.2.2.2.2⟩
theorem KeepR.row {rs : List RowD} {w u w' : World} {z : Option Nat} (h : KeepR rs w u) (hg : u.grownBy w' z) (hz : ∀ k, z = some k → w.heap.size ≤ k ∨ ∃ r ∈ rs, r.v.ownBlock = some k) : KeepR rs w w' := ⟨Nat.le_trans h.1 hg.size, fun k hk hr => (hg.block k (Nat.lt_of_lt_of_le hk h.1) (fun e => by
    rcases hz k e.symm with q | ⟨r, hm, q⟩
    · omega
    · exact hr r hm q)).trans (h.2.1 k hk hr), hg.os.trans h.2.2.1, hg.tape.trans h.2.2.2.1, hg.output.trans h.2.2.2.2⟩
theorem Blk.keepR {rs : List RowD} {X L : List Nat} {B : Nat} {w w' : World} {b : Nat} {t : TypeId} {cs : Array Value} (h : Blk w b t cs) (hk : KeepR rs w w') (hr : Rows X L B w rs) (hb : b ∈ L) : Blk w' b t cs := (hk.2.1 b h.lt (hr.loc b hb).2).trans h
theorem Rows.more2 {X L : List Nat} {B : Nat} {w w' : World} {rs : List RowD} {b : Nat} (h : Rows X L B w rs) (hb : Below w.heap.size w w') (hn : w.heap.size ≤ b ∧ b < w'.heap.size) : ∃ X', Rows X' (b :: L) B w' rs ∧ MoreX X X' w :=
  ⟨_, h.more hb hn, fun z hz => by
    rcases List.mem_cons.1 hz with rfl | hz
    · exact .inr hn.1
    · exact .inl hz⟩
theorem Rows.fresh {X L : List Nat} {B : Nat} {w w' : World} {rs : List RowD} (h : Rows X L B w rs) {e : TypeId} {size n : Nat} {v : Value} {xs : List Value} (ho : w'.ownsRow w.heap.size e size v n xs) : InX X w' v := fun b hb => by
  obtain ⟨h1, h2⟩ := ho.lt b hb
  exact ⟨h2, fun q => by have := h.lt b q; omega⟩
theorem Rows.inL {X L : List Nat} {B : Nat} {w : World} {rs : List RowD} (h : Rows X L B w rs) {b : Nat} (hb : b ∈ L) : b ∈ X := (h.loc b hb).1
end Go.Proofs.YtdfpeaenbmgihaaGreat
