/-
  Whether a commit's keys are those of one's tree, as plain words.
-/
import Derived.Test.YtdfpeaenbmgihaaGreatFnTagHasB3
import Derived.Test.YtdfpeaenbmgihaaGreatFnTagHasB2
import Derived.Test.YtdfpeaenbmgihaaGreatFnTagHasB1
import Derived.Laws.Entries
namespace Go.Proofs.YtdfpeaenbmgihaaGreat
open Go.RowKit
def patch (ys : List ByteArray) : List Int → List ByteArray → List ByteArray
  | [], xs => xs
  | p :: ps, xs => patch ys ps (xs.set p.toNat (ys.getD p.toNat ByteArray.empty))
theorem patch_len (ys : List ByteArray) : ∀ (ps : List Int) (xs : List ByteArray), (patch ys ps xs).length = xs.length | [], _ => rfl | p :: ps, xs => by rw [patch, patch_len ys ps, List.length_set]
theorem patch_snoc (ys : List ByteArray) : ∀ (ps : List Int) (p : Int) (xs : List ByteArray), patch ys (ps ++ [p]) xs = (patch ys ps xs).set p.toNat (ys.getD p.toNat ByteArray.empty) | [], _, _ => rfl | q :: ps, p, xs => by show patch ys (ps ++ [p]) _ = _ rw [patch_snoc ys ps] rfl
def hearTree (m : Mem) (c : Cmt) : Bool := decide (c.keys = patch c.keys (chainOf (leafOf c.sender)) (baseK m.keys c.add c.rem c.leaf))
theorem hearTree_eq (m : Mem) (c : Cmt) : hearTree m c = decide (c.keys = patch c.keys (chainOf (leafOf c.sender)) (baseK m.keys c.add c.rem c.leaf)) := rfl
def takesB (m : Mem) (c : Cmt) : Bool :=
  m.inn && (decide (c.tag = m.tag) && (decide (m.ep < 12) && (decide (c.sender ≠ m.who) && (decide (keyOf m.keys c.sender ≠ ByteArray.empty) && ((decide (c.rem < 0) || decide (keyOf m.keys c.rem ≠ ByteArray.empty)) && ((decide (c.add < 0) || (decide (c.add = c.rem) || decide (keyOf m.keys c.add = ByteArray.empty))) && hearTree m c))))))
theorem takesB_eq (m : Mem) (c : Cmt) : takesB m c = (m.inn && (decide (c.tag = m.tag) && (decide (m.ep < 12) && (decide (c.sender ≠ m.who) && (decide (keyOf m.keys c.sender ≠ ByteArray.empty) && ((decide (c.rem < 0) || decide (keyOf m.keys c.rem ≠ ByteArray.empty)) && ((decide (c.add < 0) || (decide (c.add = c.rem) || decide (keyOf m.keys c.add = ByteArray.empty))) && hearTree m c))))))) := rfl
theorem chain4 : ∀ k : Nat, k < 8 → chainOf ((7 + k : Nat) : Int) = ((7 + k : Nat) : Int) :: upOf ((7 + k : Nat) : Int) ∧ (upOf ((7 + k : Nat) : Int)).length = 3 := by decide
theorem rowT_int : RowT Tryz.prog 34 3 1 8 := rowT_of Tryz.underlying34 (show (Tryz.prog.info? 3).map (fun i => (i.zero, i.size, i.bytes)) = some (some (.int .i64 0), 1, 8) by kernel_rfl) rfl (by decide)
def commitB (m : Mem) (fresh : ByteArray) (add rem : Int) (leaf key : ByteArray) : Bool := memOkS m && (Kw.ok fresh && (decide (mOp fresh = 1) && (mayB m add rem leaf key && (decide (m.tag.size + fresh.size ≤ 300) && decide (m.init.size ≤ 280)))))
def commitX (m : Mem) (fresh : ByteArray) (add rem : Int) (leaf key : ByteArray) : Mem := if commitB m fresh add rem leaf key = true then commitM m fresh add rem leaf else Mem.none
def commitY (m : Mem) (fresh : ByteArray) (add rem : Int) (leaf key : ByteArray) : Cmt := if commitB m fresh add rem leaf key = true then commitC m fresh add rem leaf key else Cmt.none
theorem commitB_eq (m : Mem) (fresh : ByteArray) (add rem : Int) (leaf key : ByteArray) : commitB m fresh add rem leaf key = (memOkS m && (Kw.ok fresh && (decide (mOp fresh = 1) && (mayB m add rem leaf key && (decide (m.tag.size + fresh.size ≤ 300) && decide (m.init.size ≤ 280)))))) := rfl
theorem memOk_facts {m : Mem} (h : memOkS m = true) (hi : m.inn = true) : m.keys.length = 15 ∧ (0 ≤ m.who ∧ m.who ≤ 7) ∧ (0 ≤ m.ep ∧ m.ep ≤ 12) ∧ Kw.ok m.init = true ∧ m.tag.size ≤ 300 ∧ treOk m.keys = true := by unfold memOkS at h; rw [if_pos hi] at h; simp only [Bool.and_eq_true, decide_eq_true_eq] at h; obtain ⟨⟨⟨⟨⟨⟨h1, h2⟩, _⟩, _⟩, h3⟩, h4⟩, h5⟩ := h; exact ⟨(treOk_iff.1 h2).1, h1, h3, h4, h5, h2⟩
theorem may_facts {m : Mem} {add rem : Int} {leaf key : ByteArray} (h : mayB m add rem leaf key = true) : m.inn = true ∧ m.ep < 12 ∧ (-1 ≤ add ∧ add ≤ 7) ∧ (-1 ≤ rem ∧ rem ≤ 7) := by rw [mayB_eq] at h; simp only [Bool.and_eq_true, decide_eq_true_eq] at h; obtain ⟨h1, h2, h3, h4, _⟩ := h; unfold inB at h3 h4; simp only [Bool.and_eq_true, decide_eq_true_eq] at h3 h4; exact ⟨h1, h2, h3, h4⟩
def sameM (m : Mem) : Mem := ⟨m.inn, m.who, if m.inn = true then m.keys else [], m.own, m.ep, m.init, m.tag⟩
def hearX (m : Mem) (c : Cmt) : Mem := if (memOkS m && cmtOk c) = true then (if takesB m c = true then (if c.rem = m.who then Mem.none else if hearB m c = true then hearM m c else sameM m) else sameM m) else Mem.none
def hearY (m : Mem) (c : Cmt) : Bool := (memOkS m && cmtOk c) && (takesB m c && (decide (c.rem = m.who) || hearB m c))
theorem hearX_eq (m : Mem) (c : Cmt) : hearX m c = if (memOkS m && cmtOk c) = true then (if takesB m c = true then (if c.rem = m.who then Mem.none else if hearB m c = true then hearM m c else sameM m) else sameM m) else Mem.none := rfl
theorem hearY_eq (m : Mem) (c : Cmt) : hearY m c = ((memOkS m && cmtOk c) && (takesB m c && (decide (c.rem = m.who) || hearB m c))) := rfl
theorem chain_mem15 {n : Int} (h : 0 ≤ n ∧ n ≤ 7) {p : Int} (hp : p ∈ chainOf (leafOf n)) : 0 ≤ p ∧ p < 15 := by obtain ⟨k, rfl⟩ : ∃ k : Nat, n = (k : Int) := ⟨n.toNat, by omega⟩; (have hk : k < 8 := by omega); rw [leaf_in h.1 h.2, show (7 : Int) + (k : Int) = ((7 + k : Nat) : Int) by omega] at hp; obtain ⟨j, hj, rfl⟩ := List.getElem_of_mem hp; have := chain_in15 (7 + k) (by omega) j hj; rw [List.getD_eq_getElem?_getD, List.getElem?_eq_getElem hj] at this; exact this
theorem own_places {m : Mem} (h : memOkS m = true) (hi : m.inn = true) : ∀ o ∈ m.own, (0 : Int) ≤ o.1 ∧ o.1 < 15 := by have h0 := (memOk_facts h hi).2.1; unfold memOkS at h; rw [if_pos hi] at h; simp only [Bool.and_eq_true, decide_eq_true_eq] at h; obtain ⟨⟨⟨⟨⟨⟨h1, h2⟩, h3⟩, _⟩, _⟩, _⟩, _⟩ := h; intro o ho; obtain ⟨j, hj, rfl⟩ := List.getElem_of_mem ho; unfold fitsS at h3; rw [List.all_eq_true] at h3; have h4 := h3 j (by rw [List.mem_range]; exact hj); unfold fitJ at h4; simp only [Bool.and_eq_true, decide_eq_true_eq] at h4; have h5 := chain_mem15 h0 h4.1.1.1; rw [List.getD_eq_getElem?_getD, List.getElem?_eq_getElem hj] at h5; exact h5
theorem takes_in {m : Mem} {c : Cmt} (h : takesB m c = true) : m.inn = true ∧ m.ep < 12 := by rw [takesB_eq] at h; simp only [Bool.and_eq_true, decide_eq_true_eq] at h; exact ⟨h.1, h.2.2.1⟩
theorem cmtOk_rem {c : Cmt} (h : cmtOk c = true) : (-1 ≤ c.rem ∧ c.rem ≤ 7) ∧ c.boxes.length ≤ 20 ∧ c.keys.length = 15 := by have hk := (treOk_iff.1 (cmtOk_keys h)).1; unfold cmtOk at h; simp only [Bool.and_eq_true, decide_eq_true_eq] at h; obtain ⟨⟨⟨⟨⟨_, h1⟩, _⟩, h2, _⟩, _⟩, _⟩ := h; unfold otherB oneB at h1; simp at h1; exact ⟨by omega, h2, hk⟩

def seenOne (n x : Int) (st : Bool × List Int) : Bool × List Int := if st.1 = false ∧ x < n then (true, st.2 ++ [n]) else st
def seenStep (n lim : Int) (st : Bool × List Int) (x : Int) : Bool × List Int := if lim < x then ((seenOne n x st).1, (seenOne n x st).2 ++ [x]) else seenOne n x st
def seenTo (n lim : Int) (xs : List Int) (k : Nat) : Bool × List Int := (xs.take k).foldl (seenStep n lim) (false, [])
def seenOf (n lim : Int) (xs : List Int) : List Int := if (seenTo n lim xs xs.length).1 = true then (seenTo n lim xs xs.length).2 else (seenTo n lim xs xs.length).2 ++ [n]
theorem seenTo_succ (n lim : Int) (xs : List Int) (k : Nat) (h : k < xs.length) : seenTo n lim xs (k + 1) = seenStep n lim (seenTo n lim xs k) (xs.getD k 0) := by unfold seenTo; rw [List.take_succ_eq_append_getElem h, List.foldl_append, List.getD_eq_getElem?_getD, List.getElem?_eq_getElem h]; rfl
theorem seenStep_le (n lim : Int) (st : Bool × List Int) (x : Int) : (seenStep n lim st x).2.length ≤ st.2.length + 2 := by unfold seenStep seenOne; split <;> split <;> simp
theorem seenTo_le (n lim : Int) (xs : List Int) : ∀ k : Nat, k ≤ xs.length → (seenTo n lim xs k).2.length ≤ 2 * k
  | 0, _ => by simp [seenTo]
  | k + 1, h => by
    rw [seenTo_succ n lim xs k (by omega)]
    have := seenTo_le n lim xs k (by omega)
    have := seenStep_le n lim (seenTo n lim xs k) (xs.getD k 0)
    omega
theorem one_newI (w : World) (x : Value) (t : TypeId) : ∀ j u, [x][j]? = some u → (w.alloc (.cells #[x] t)).cell? (Addr.add ⟨w.heap.size, 0, none⟩ j) = some u := by
  intro j u hj
  match j, hj with
  | 0, hj => simp at hj; subst hj; simp [Addr.add, go_sem]
set_option maxRecDepth 100000 in
set_option maxHeartbeats 4000000 in
theorem l6Seen_any (v : Value) (xs : List Int) (n top : Int) (w : World) (h : IRow w v xs) (hl : xs.length ≤ 1000) (ht : -1000000000 ≤ top ∧ top ≤ 1000000000) : Calls Tryz.prog 96 #[v, .int .i64 n, .int .i64 top] w fun e w' => ∃ u, e = .returned u ∧ OwnI w.heap.size w' u (seenOf n (top - 8) xs) ∧ Below w.heap.size w w' := by
 obtain ⟨i0, hi, hz0, hz1, hz2⟩ := info_parts info_int2; have hI := hide (And.intro hi (And.intro hz0 (And.intro hz1 hz2))); clear hi hz0 hz1 hz2; obtain ⟨ao, cap, rfl, h1, h2, h3⟩ := h.form; have H3 := hide h3; (have i8 : IntKind.i64.wrap (top - 8) = top - 8 := by simp [IntKind.wrap, IntKind.bits, IntKind.signed]; omega); clear h3 h; have O0 : Hid (OwnI w.heap.size (w.alloc (.cells #[] 3)) (.slice (some ⟨w.heap.size, 0, none⟩) 0 0) (seenTo n (top - 8) xs 0).2) := World.ownsRow_made w #[] 0 (Nat.le_refl _) (by omega) rfl; have B0 : Hid (Below w.heap.size w (w.alloc (.cells #[] 3))) := (Below.refl _ _).alloc (Nat.le_refl _) _; go_enter Tryz.func96, Tryz.ntmps96; (go_wp2_with fail); generalize w.alloc (.cells #[] 3) = W0 at *; go_loopw [7, 8, 9] (fun o d i wr => ∃ k : Nat, k ≤ xs.length ∧ i = .int .i64 (k : Int) ∧ d = .bool (seenTo n (top - 8) xs k).1 ∧ (∃ oo on oc, o = .slice oo on oc) ∧ Hid (OwnI w.heap.size wr o (seenTo n (top - 8) xs k).2) ∧ Hid (Below w.heap.size w wr)) (fun _ _ i _ => xs.length - (intOf i).toNat)
 case atStart => exact ⟨0, by omega, rfl, rfl, ⟨_, _, _, rfl⟩, O0, B0⟩
 case round =>
  clear O0 B0; obtain ⟨k, hk, rfl, rfl, ⟨po, pn, pc, rfl⟩, hO, hB⟩ := hrel; generalize wr = w1 at *; (have HPL : Hid (pn = (seenTo n (top - 8) xs k).2.length ∧ pn ≤ 2000) := by obtain ⟨zo, zc, e⟩ := row_form' hO.out; simp only [Value.slice.injEq] at e; have := seenTo_le n (top - 8) xs k hk; exact ⟨e.2.1, by rw [e.2.1]; omega⟩); by_cases hlt : k < xs.length
  · (have hlt2 : (k : Int) < (xs.length : Int) := by omega); (have hk0 : (0 : Int) ≤ (k : Int) := by omega); have i1 : IntKind.i64.wrap ((k : Int) + 1) = (k : Int) + 1 := wrap_small _ (by omega) (by omega); obtain ⟨ad, rfl, c0⟩ := H3.out k hlt; have c1 := (hB.out.cell (cell_lt c0)).trans c0; have HS := hide (seenTo_succ n (top - 8) xs k hlt); have C0 := hide c0; generalize xs.getD k 0 = x at *; generalize hq : seenTo n (top - 8) xs k = st at *; obtain ⟨d, Q⟩ := st; simp only at hO HPL; clear c0 hq
    cases d with
    | true =>
     (have HSO : Hid (seenOne n x (true, Q) = (true, Q)) := by show _ = _; unfold seenOne; rw [if_neg (by simp)]); by_cases hx : top - 8 < x
     · have hx2 : top - 8 < x := hx; have OQ : w1.ownsRow w.heap.size 3 1 (.slice po pn pc) Q.length (Q.map (Value.int .i64)) := unhide hO; rw [← HPL.out.1] at OQ; have OP := hide OQ; have hsz2 := hB.out.size; have hpn := HPL.out.2; clear OQ hO; (go_wp2_with (at_builtin; refine wpList_append_own _ rfl _ _ 34 rfl w.heap.size 3 i0 (.int .i64 0) 1 8 Tryz.underlying34 hI.out.1 hI.out.2.1 hI.out.2.2.1 hI.out.2.2.2 rfl (by decide) _ _ _ rfl (World.ownsRow.alloc OP.out _) ⟨w1.heap.size, 0, none⟩ 1 1 [.int .i64 x] rfl rfl (one_newI _ _ _) (by intro u hu; simp at hu; subst hu; rfl) (by unfold maxLen; omega) (by omega) (by simp; omega) ?_)); intro v' w3 hown' hgrow _; have B3 : Hid (Below w.heap.size w w3) := (hB.out.alloc hsz2 (.cells #[.int .i64 x] 3)).grown hgrow (by simp; omega) (fun k hk => (World.ownsRow.lt OP.out k hk).1); (have O3 : Hid (OwnI w.heap.size w3 v' (Q ++ [x])) := by show OwnI _ _ _ _; unfold OwnI; rw [List.length_append, ← HPL.out.1, List.map_append]; exact hown'); have P3 : Hid (pn + 1 = (Q ++ [x]).length ∧ pn + 1 ≤ 2000 + 1) := ⟨by rw [List.length_append, ← HPL.out.1]; rfl, by omega⟩; obtain ⟨w3o, w3c, rfl⟩ := row_form' hown'; clear hown' hgrow OP hsz2 hpn; (go_wp2_with fail); go_roundw
       case rel =>
        (have HE : seenTo n (top - 8) xs (k + 1) = (true, Q ++ [x]) := by rw [HS.out]; unfold seenStep; rw [HSO.out, if_pos hx]); exact ⟨k + 1, by omega, by simp, by rw [HE], ⟨_, _, _, rfl⟩, by rw [HE]; exact O3, B3⟩
       case measure => simp [intOf]; omega
     · (have hx2 : decide (top - 8 < x) = false := by simp; omega); (go_wp2_with fail); go_roundw
       case rel =>
        (have HE : seenTo n (top - 8) xs (k + 1) = (true, Q) := by rw [HS.out]; unfold seenStep; rw [HSO.out, if_neg hx]); exact ⟨k + 1, by omega, by simp, by rw [HE], ⟨_, _, _, rfl⟩, by rw [HE]; exact hO, hB⟩
       case measure => simp [intOf]; omega
    | false =>
     by_cases hn : x < n
     · (have HSO : Hid (seenOne n x (false, Q) = (true, Q ++ [n])) := by show _ = _; unfold seenOne; rw [if_pos ⟨rfl, hn⟩]); have OQ : w1.ownsRow w.heap.size 3 1 (.slice po pn pc) Q.length (Q.map (Value.int .i64)) := unhide hO; rw [← HPL.out.1] at OQ; have OP := hide OQ; have hsz2 := hB.out.size; have hpn := HPL.out.2; clear OQ hO; (go_wp2_with (at_builtin; refine wpList_append_own _ rfl _ _ 34 rfl w.heap.size 3 i0 (.int .i64 0) 1 8 Tryz.underlying34 hI.out.1 hI.out.2.1 hI.out.2.2.1 hI.out.2.2.2 rfl (by decide) _ _ _ rfl (World.ownsRow.alloc OP.out _) ⟨w1.heap.size, 0, none⟩ 1 1 [.int .i64 n] rfl rfl (one_newI _ _ _) (by intro u hu; simp at hu; subst hu; rfl) (by unfold maxLen; omega) (by omega) (by simp; omega) ?_)); intro v' w2 hown' hgrow _; have B2 : Hid (Below w.heap.size w w2) := (hB.out.alloc hsz2 (.cells #[.int .i64 n] 3)).grown hgrow (by simp; omega) (fun k hk => (World.ownsRow.lt OP.out k hk).1); (have O2 : Hid (OwnI w.heap.size w2 v' (Q ++ [n])) := by show OwnI _ _ _ _; unfold OwnI; rw [List.length_append, ← HPL.out.1, List.map_append]; exact hown'); have P2 : Hid (pn + 1 = (Q ++ [n]).length ∧ pn + 1 ≤ 2000 + 1) := ⟨by rw [List.length_append, ← HPL.out.1]; rfl, by omega⟩; obtain ⟨w2o, w2c, rfl⟩ := row_form' hown'; clear hown' hgrow OP hsz2 hpn; obtain ⟨Q2, hQ2⟩ : ∃ q, q = Q ++ [n] := ⟨_, rfl⟩; rw [← hQ2] at O2 P2 HSO; clear hQ2; by_cases hx : top - 8 < x
       · have hx2 : top - 8 < x := hx; have c2 := (B2.out.cell (cell_lt C0.out)).trans C0.out; have OQ : w2.ownsRow w.heap.size 3 1 (.slice w2o (pn + 1) w2c) Q2.length (Q2.map (Value.int .i64)) := unhide O2; rw [← P2.out.1] at OQ; have OP := hide OQ; have hsz2 := B2.out.size; have hpn := P2.out.2; clear OQ O2; (go_wp2_with (at_builtin; refine wpList_append_own _ rfl _ _ 34 rfl w.heap.size 3 i0 (.int .i64 0) 1 8 Tryz.underlying34 hI.out.1 hI.out.2.1 hI.out.2.2.1 hI.out.2.2.2 rfl (by decide) _ _ _ rfl (World.ownsRow.alloc OP.out _) ⟨w2.heap.size, 0, none⟩ 1 1 [.int .i64 x] rfl rfl (one_newI _ _ _) (by intro u hu; simp at hu; subst hu; rfl) (by unfold maxLen; omega) (by omega) (by simp; omega) ?_)); intro v' w3 hown' hgrow _; have B3 : Hid (Below w.heap.size w w3) := (B2.out.alloc hsz2 (.cells #[.int .i64 x] 3)).grown hgrow (by simp; omega) (fun k hk => (World.ownsRow.lt OP.out k hk).1); (have O3 : Hid (OwnI w.heap.size w3 v' (Q2 ++ [x])) := by show OwnI _ _ _ _; unfold OwnI; rw [List.length_append, ← P2.out.1, List.map_append]; exact hown'); have P3 : Hid (pn + 1 + 1 = (Q2 ++ [x]).length ∧ pn + 1 + 1 ≤ 2002) := ⟨by rw [List.length_append, ← P2.out.1]; rfl, by omega⟩; obtain ⟨w3o, w3c, rfl⟩ := row_form' hown'; clear hown' hgrow OP hsz2 hpn; (go_wp2_with fail); go_roundw
         case rel =>
          (have HE : seenTo n (top - 8) xs (k + 1) = (true, Q2 ++ [x]) := by rw [HS.out]; unfold seenStep; rw [HSO.out, if_pos hx]); exact ⟨k + 1, by omega, by simp, by rw [HE], ⟨_, _, _, rfl⟩, by rw [HE]; exact O3, B3⟩
         case measure => simp [intOf]; omega
       · (have hx2 : decide (top - 8 < x) = false := by simp; omega); have c2 := (B2.out.cell (cell_lt C0.out)).trans C0.out; (go_wp2_with fail); go_roundw
         case rel =>
          (have HE : seenTo n (top - 8) xs (k + 1) = (true, Q2) := by rw [HS.out]; unfold seenStep; rw [HSO.out, if_neg hx]); exact ⟨k + 1, by omega, by simp, by rw [HE], ⟨_, _, _, rfl⟩, by rw [HE]; exact O2, B2⟩
         case measure => simp [intOf]; omega
     · (have HSO : Hid (seenOne n x (false, Q) = (false, Q)) := by show _ = _; unfold seenOne; rw [if_neg (fun q => hn q.2)]); (have hn2 : decide (x < n) = false := by simp; omega); by_cases hx : top - 8 < x
       · have hx2 : top - 8 < x := hx; have OQ : w1.ownsRow w.heap.size 3 1 (.slice po pn pc) Q.length (Q.map (Value.int .i64)) := unhide hO; rw [← HPL.out.1] at OQ; have OP := hide OQ; have hsz2 := hB.out.size; have hpn := HPL.out.2; clear OQ hO; (go_wp2_with (at_builtin; refine wpList_append_own _ rfl _ _ 34 rfl w.heap.size 3 i0 (.int .i64 0) 1 8 Tryz.underlying34 hI.out.1 hI.out.2.1 hI.out.2.2.1 hI.out.2.2.2 rfl (by decide) _ _ _ rfl (World.ownsRow.alloc OP.out _) ⟨w1.heap.size, 0, none⟩ 1 1 [.int .i64 x] rfl rfl (one_newI _ _ _) (by intro u hu; simp at hu; subst hu; rfl) (by unfold maxLen; omega) (by omega) (by simp; omega) ?_)); intro v' w3 hown' hgrow _; have B3 : Hid (Below w.heap.size w w3) := (hB.out.alloc hsz2 (.cells #[.int .i64 x] 3)).grown hgrow (by simp; omega) (fun k hk => (World.ownsRow.lt OP.out k hk).1); (have O3 : Hid (OwnI w.heap.size w3 v' (Q ++ [x])) := by show OwnI _ _ _ _; unfold OwnI; rw [List.length_append, ← HPL.out.1, List.map_append]; exact hown'); have P3 : Hid (pn + 1 = (Q ++ [x]).length ∧ pn + 1 ≤ 2000 + 1) := ⟨by rw [List.length_append, ← HPL.out.1]; rfl, by omega⟩; obtain ⟨w3o, w3c, rfl⟩ := row_form' hown'; clear hown' hgrow OP hsz2 hpn; (go_wp2_with fail); go_roundw
         case rel =>
          (have HE : seenTo n (top - 8) xs (k + 1) = (false, Q ++ [x]) := by rw [HS.out]; unfold seenStep; rw [HSO.out, if_pos hx]); exact ⟨k + 1, by omega, by simp, by rw [HE], ⟨_, _, _, rfl⟩, by rw [HE]; exact O3, B3⟩
         case measure => simp [intOf]; omega
       · (have hx2 : decide (top - 8 < x) = false := by simp; omega); (go_wp2_with fail); go_roundw
         case rel =>
          (have HE : seenTo n (top - 8) xs (k + 1) = (false, Q) := by rw [HS.out]; unfold seenStep; rw [HSO.out, if_neg hx]); exact ⟨k + 1, by omega, by simp, by rw [HE], ⟨_, _, _, rfl⟩, by rw [HE]; exact hO, hB⟩
         case measure => simp [intOf]; omega
  · (have hlt2 : decide ((k : Int) < (xs.length : Int)) = false := by simp; omega); (have hkl : k = xs.length := by omega); subst hkl; have HSE : Hid (seenOf n (top - 8) xs = if (seenTo n (top - 8) xs xs.length).1 = true then (seenTo n (top - 8) xs xs.length).2 else (seenTo n (top - 8) xs xs.length).2 ++ [n]) := rfl; generalize seenTo n (top - 8) xs xs.length = st at *; obtain ⟨d, Q⟩ := st; simp only at hO HPL HSE
    cases d with
    | true =>
     (go_wp2_with fail); go_ret; (have q : seenOf n (top - 8) xs = Q := by rw [HSE.out]; simp); refine ⟨_, rfl, ?_, unhide hB⟩; rw [q]; exact unhide hO
    | false =>
     have OQ : w1.ownsRow w.heap.size 3 1 (.slice po pn pc) Q.length (Q.map (Value.int .i64)) := unhide hO; rw [← HPL.out.1] at OQ; have OP := hide OQ; have hsz2 := hB.out.size; have hpn := HPL.out.2; clear OQ hO; (go_wp2_with (at_builtin; refine wpList_append_own _ rfl _ _ 34 rfl w.heap.size 3 i0 (.int .i64 0) 1 8 Tryz.underlying34 hI.out.1 hI.out.2.1 hI.out.2.2.1 hI.out.2.2.2 rfl (by decide) _ _ _ rfl (World.ownsRow.alloc OP.out _) ⟨w1.heap.size, 0, none⟩ 1 1 [.int .i64 n] rfl rfl (one_newI _ _ _) (by intro u hu; simp at hu; subst hu; rfl) (by unfold maxLen; omega) (by omega) (by simp; omega) ?_)); intro v' w2 hown' hgrow _; have B2 : Hid (Below w.heap.size w w2) := (hB.out.alloc hsz2 (.cells #[.int .i64 n] 3)).grown hgrow (by simp; omega) (fun k hk => (World.ownsRow.lt OP.out k hk).1); (have O2 : Hid (OwnI w.heap.size w2 v' (Q ++ [n])) := by show OwnI _ _ _ _; unfold OwnI; rw [List.length_append, ← HPL.out.1, List.map_append]; exact hown'); have P2 : Hid (pn + 1 = (Q ++ [n]).length ∧ pn + 1 ≤ 2000 + 1) := ⟨by rw [List.length_append, ← HPL.out.1]; rfl, by omega⟩; obtain ⟨w2o, w2c, rfl⟩ := row_form' hown'; clear hown' hgrow OP hsz2 hpn; (go_wp2_with fail); go_ret; exact ⟨_, rfl, by rw [HSE.out, if_neg (by simp)]; exact unhide O2, unhide B2⟩
structure Win where
  key : ByteArray
  top : Int
  seen : List Int
def Win.none : Win := ⟨⟨#[]⟩, 0, []⟩
abbrev winC (key : ByteArray) (top : Int) (s : Value) : Array Value := #[.string key, .int .i64 top, s]
abbrev Win.cells (x : Win) (s : Value) : Array Value := winC x.key x.top s
abbrev noWin : Array Value := winC ⟨#[]⟩ 0 (.slice none 0 0)
theorem info_wi : (Tryz.prog.info? 119).map (·.size) = some 3 := by kernel_rfl
theorem load_wi {w : World} {b : Nat} {cs : Array Value} (h : Blk w b 119 cs) (hc : cs.size = 3) : (loadVar 119 ⟨b, 0, none⟩).run Tryz.prog w = .ok (.agg cs) w :=
  run_loadVar_row w b _ _ cs (0, 0) _ h Tryz.underlying119 rfl (by rw [hc]; exact info_wi)
theorem one_wi (a : ByteArray) (b : Int) (x : Option Addr) (n c : Nat) : (winC a b (.slice x n c)).all (·.oneCell') = true := by simp [Value.oneCell']
def lateB (x : Win) (n : Int) : Bool := decide (n ≤ x.top - 8) || decide (n ∈ x.seen)
def tookW (x : Win) (n : Int) : Win := ⟨x.key, max x.top n, seenOf n (max x.top n - 8) x.seen⟩
def takeW (x : Win) (n : Int) : Win × Bool := if lateB x n = true then (x, false) else (tookW x n, true)
def WRow (w : World) (v : Value) (ws : List (Win × Value)) : Prop :=
  ∃ (ao : Option Addr) (cap : Nat), v = .slice ao ws.length cap ∧ ws.length ≤ cap ∧ cap ≤ maxLen ∧
    ∀ i (h : i < ws.length), ∃ a, ao = some a ∧ w.cell? (a.add (i * 3)) = some (.string ws[i].1.key) ∧ w.cell? ⟨(a.add (i * 3)).block, (a.add (i * 3)).off + 1, none⟩ = some (.int .i64 ws[i].1.top) ∧ w.cell? ⟨(a.add (i * 3)).block, (a.add (i * 3)).off + 2, none⟩ = some ws[i].2 ∧ IRow w ws[i].2 ws[i].1.seen
theorem WRow.below {w w' : World} {v : Value} {ws : List (Win × Value)} (h : WRow w v ws) (hb : Below w.heap.size w w') : WRow w' v ws := by obtain ⟨ao, cap, h1, h2, h3, h4⟩ := h; refine ⟨ao, cap, h1, h2, h3, fun i hi => ?_⟩; obtain ⟨a, e, q0, q1, q2, q3⟩ := h4 i hi; exact ⟨a, e, (hb.cell (cell_lt q0)).trans q0, (hb.cell (cell_lt q1)).trans q1, (hb.cell (cell_lt q2)).trans q2, q3.below hb⟩
def atFrom (key : ByteArray) : List (Win × Value) → Nat → Int
  | [], _ => -1
  | x :: l, k => if x.1.key = key then (k : Int) else atFrom key l (k + 1)
def atW (ws : List (Win × Value)) (key : ByteArray) : Int := atFrom key ws 0
theorem atFrom_drop {key : ByteArray} {ws : List (Win × Value)} {k : Nat} (h : k < ws.length) : atFrom key (ws.drop k) k = if ws[k].1.key = key then (k : Int) else atFrom key (ws.drop (k + 1)) (k + 1) := by rw [List.drop_eq_getElem_cons h, atFrom]
theorem txt_dec (x y : ByteArray) : (x.toList == y.toList) = decide (x = y) := by rw [Bool.eq_iff_iff, toList_eq]; simp
set_option maxRecDepth 100000 in
set_option maxHeartbeats 1000000 in
theorem l6At_any (v : Value) (ws : List (Win × Value)) (key : ByteArray) (w : World) (h : WRow w v ws) (hl : ws.length ≤ 1000000) : Calls Tryz.prog 75 #[v, .string key] w fun e w' => e = .returned (.int .i64 (atW ws key)) ∧ w' = w := by
 obtain ⟨ao, cap, rfl, h1, h2, h3⟩ := h; have H3 := hide h3; unfold maxLen at h2; clear h3; go_enter Tryz.func75, Tryz.ntmps75; (go_wp2_with fail); go_loop [5] (fun i => ∃ k : Nat, k ≤ ws.length ∧ i = .int .i64 (k : Int) ∧ Hid (atW ws key = atFrom key (ws.drop k) k)) (fun i => ws.length - (intOf i).toNat)
 case atStart => exact ⟨0, by omega, rfl, by show _ = _; rfl⟩
 case round =>
  obtain ⟨k, hk, rfl, HA⟩ := hrel; by_cases hlt : k < ws.length
  · (have hlt2 : (k : Int) < (ws.length : Int) := by omega); (have hk0 : (0 : Int) ≤ (k : Int) := by omega); obtain ⟨a, rfl, c0, _, _, _⟩ := H3.out k hlt; (have i3 : IntKind.i64.wrap ((k : Int) + 1) = (k : Int) + 1 := by simp [IntKind.wrap, IntKind.bits, IntKind.signed]; omega); have HD := hide (HA.out.trans (atFrom_drop hlt)); generalize ws[k].1.key = yk at *; by_cases hy : yk = key
    · (have hq : (yk.toList == key.toList) = true := by rw [txt_dec]; simpa using hy); (have HF : Hid (atW ws key = (k : Int)) := by show _ = _; rw [HD.out, if_pos hy]); clear HD HA hy; (go_wp2_with fail); go_ret; exact ⟨by rw [HF.out]; rfl, rfl⟩
    · (have hq : (yk.toList == key.toList) = false := by rw [txt_dec]; simpa using hy); (have HF : Hid (atW ws key = atFrom key (ws.drop (k + 1)) (k + 1)) := by show _ = _; rw [HD.out, if_neg hy]); clear HD HA hy; (go_wp2_with fail); exact ⟨⟨k + 1, by omega, by simp, HF⟩, by simp [intOf]; omega⟩
  · (have hlt2 : decide ((k : Int) < (ws.length : Int)) = false := by simp; omega); (have HF : Hid (atW ws key = -1) := by show _ = _; rw [HA.out, List.drop_eq_nil_of_le (by omega)]; rfl); clear HA; (go_wp2_with fail); go_ret; exact ⟨by rw [HF.out]; rfl, rfl⟩
def letB (b : UInt8) : Bool := decide (97 ≤ b.toNat) && decide (b.toNat ≤ 122)
def textB (s : ByteArray) : Bool := decide (s.size ≤ 8) && s.data.toList.all letB
theorem text_long {s : ByteArray} (h : ¬ s.size ≤ 8) : textB s = false := by unfold textB; rw [decide_eq_false h]; rfl
theorem text_no {s : ByteArray} {k : Nat} (hk : k < s.size) (h : letB s[k] = false) : textB s = false := by unfold textB; (have : s.data.toList.all letB = false := by rw [List.all_eq_false]; exact ⟨s[k], List.getElem_mem (l := s.data.toList) (by simpa using hk), by rw [h]; simp⟩); rw [this, Bool.and_false]
theorem text_yes {s : ByteArray} (hl : s.size ≤ 8) (h : ∀ t (ht : t < s.size), letB s[t] = true) : textB s = true := by unfold textB; rw [decide_eq_true hl, Bool.true_and, List.all_eq_true]; intro b hb; obtain ⟨t, ht, rfl⟩ := List.mem_iff_getElem.1 hb; exact h t (by simpa using ht)
set_option maxHeartbeats 1000000 in
theorem sFraText_any (s : ByteArray) (w : World) : Calls Tryz.prog 67 #[.string s] w fun e w' => e = .returned (.bool (textB s)) ∧ w' = w := by
 by_cases hl : s.size ≤ 8
 · (have hl2 : decide ((8 : Int) < (s.size : Int)) = false := by simp; omega); (have hl3 : (s.size : Int) ≤ 8 := by omega); go_enter Tryz.func67, Tryz.ntmps67; (go_wp2_with fail); go_loop [3] (fun i => ∃ k : Nat, k ≤ s.size ∧ i = .int .i64 (k : Int) ∧ Hid (∀ t (_ : t < k) (ht : t < s.size), letB s[t] = true)) (fun i => s.size - (intOf i).toNat)
   case atStart => exact ⟨0, Nat.zero_le _, rfl, fun t ht => absurd ht (Nat.not_lt_zero _)⟩
   case round =>
    obtain ⟨k, hk, rfl, hE⟩ := hrel; by_cases hlt : k < s.size
    · (have i3 : IntKind.i64.wrap ((k : Int) + 1) = (k : Int) + 1 := by simp [IntKind.wrap, IntKind.bits, IntKind.signed]; omega); (have hlt2 : (k : Int) < (s.size : Int) := by omega); by_cases h1 : s[k].toNat < 97
      · have HT := hide (text_no hlt (by unfold letB; rw [decide_eq_false (by omega)]; rfl)); (have h2 : (s[k].toNat : Int) < 97 := by omega); (go_wp2_with fail); go_ret; exact ⟨by rw [HT.out]; rfl, rfl⟩
      · (have h2 : decide ((s[k].toNat : Int) < 97) = false := by simp; omega); (have h3 : 97 ≤ s[k].toNat := by omega); by_cases h4 : s[k].toNat ≤ 122
        · (have h5 : decide ((122 : Int) < (s[k].toNat : Int)) = false := by simp; omega); (have HL : Hid (letB s[k] = true) := by show _ = _; unfold letB; rw [decide_eq_true h3, decide_eq_true h4]; rfl); (go_wp2_with fail); go_round
          case rel =>
           refine ⟨k + 1, by omega, by simp, fun t htk ht => ?_⟩; by_cases e : t = k
           · subst e; exact HL.out
           · exact hE.out t (by omega) ht
          case measure => simp [intOf]; omega
        · have HT := hide (text_no hlt (by unfold letB; rw [decide_eq_false h4, Bool.and_false])); (have h5 : (122 : Int) < (s[k].toNat : Int) := by omega); (go_wp2_with fail); go_ret; exact ⟨by rw [HT.out]; rfl, rfl⟩
    · (have hlt2 : decide ((k : Int) < (s.size : Int)) = false := by simp; omega); (have hkk : k = s.size := by omega); have HT := hide (text_yes hl (fun t ht => hE.out t (by omega) ht)); (go_wp2_with fail); go_ret; exact ⟨by rw [HT.out]; rfl, rfl⟩
 · (have hl2 : (8 : Int) < (s.size : Int) := by omega); have HT := hide (text_long hl); go_enter Tryz.func67, Tryz.ntmps67; (go_wp2_with fail); go_ret; exact ⟨by rw [HT.out]; rfl, rfl⟩
structure Fra where
  fr : Int
  key : ByteArray
  n : Int
  text : ByteArray
abbrev fraC (fr : Int) (key : ByteArray) (n : Int) (text : ByteArray) : Array Value := #[.int .i64 fr, .string key, .int .i64 n, .string text]
abbrev Fra.cells (f : Fra) : Array Value := fraC f.fr f.key f.n f.text
def fraOk (f : Fra) : Bool := inB 0 7 f.fr && (Kw.ok f.key && (decide (mOp f.key = 5) && (decide (mWho f.key = f.fr) && (inB 1 999 f.n && textB f.text))))
theorem fraOk_eq (f : Fra) : fraOk f = (inB 0 7 f.fr && (Kw.ok f.key && (decide (mOp f.key = 5) && (decide (mWho f.key = f.fr) && (inB 1 999 f.n && textB f.text))))) := rfl
def KeepX (X : List Nat) (w w' : World) : Prop := w.heap.size ≤ w'.heap.size ∧ ∀ k, k < w.heap.size → k ∉ X → w'.heap[k]? = w.heap[k]?
def MoreX (X X' : List Nat) (w : World) : Prop := ∀ b, b ∈ X' → b ∈ X ∨ w.heap.size ≤ b
theorem MoreX.refl (X : List Nat) (w : World) : MoreX X X w := fun _ h => .inl h
theorem KeepX.below {X : List Nat} {w w' : World} (h : Below w.heap.size w w') : KeepX X w w' := ⟨h.size, fun k hk _ => h.block k hk⟩
theorem KeepX.grown {X : List Nat} {w w' : World} {r : Option Nat} (h : w.grownBy w' r) (hr : ∀ b, r = some b → b ∈ X) : KeepX X w w' := ⟨h.size, fun k hk hx => h.block k hk (fun e => hx (hr k e.symm))⟩
theorem InX.keep {X X' : List Nat} {w w' : World} {v : Value} (h : InX X w v) (hk : KeepX X w w') (hm : MoreX X X' w) : InX X' w' v := fun b hb => by
  obtain ⟨h1, h2⟩ := h b hb
  refine ⟨Nat.lt_of_lt_of_le h1 hk.1, fun q => ?_⟩
  rcases hm b q with q | q
  · exact h2 q
  · omega
theorem InX.cell {X : List Nat} {w w' : World} {a : Addr} {l c : Nat} (h : InX X w (.slice (some a) l c)) (hk : KeepX X w w') (p : Addr) (hp : p.block = a.block) : w'.cell? p = w.cell? p := by
 obtain ⟨h1, h2⟩ := h a.block rfl; refine World.cell?_of_block (w := w) (hk.2 p.block ?_ ?_)
 · rw [hp]; exact h1
 · rw [hp]; exact h2
theorem addr_block (a : Addr) (k : Nat) : (a.add k).block = a.block := by unfold Addr.add; split <;> rfl
theorem add_off (a : Addr) (k : Nat) : (a.add k).off = a.off + k := by
 unfold Addr.add; split
 · rename_i h; rw [h]; rfl
 · rfl
theorem add_one2 (a : Addr) (k : Nat) : (a.add k).add 1 = a.add (k + 1) := by rw [add_oneM, Addr.add_succ' a k, addr_block, add_off, Nat.add_assoc]
theorem SRow.keepX {X : List Nat} {w w' : World} {v : Value} {xs : List ByteArray} (h : SRow w v xs) (hi : InX X w v) (hk : KeepX X w w') : SRow w' v xs := by
 rcases h with h | ⟨a, cap, rfl, h2, h3, h4⟩
 · exact .inl h
 · exact .inr ⟨a, cap, rfl, h2, h3, fun i hl => (hi.cell hk _ (addr_block a i)).trans (h4 i hl)⟩
theorem IRow.keepX {X : List Nat} {w w' : World} {v : Value} {xs : List Int} (h : IRow w v xs) (hi : InX X w v) (hk : KeepX X w w') : IRow w' v xs := by
 rcases h with h | ⟨a, cap, rfl, h2, h3, h4⟩
 · exact .inl h
 · exact .inr ⟨a, cap, rfl, h2, h3, fun i hl => (hi.cell hk _ (addr_block a i)).trans (h4 i hl)⟩
def RowR (w : World) (v : Value) (n : Nat) (cs : List Value) : Prop := (v = .slice none 0 0 ∧ n = 0 ∧ cs = []) ∨ ∃ ad c, v = .slice (some ad) n c ∧ n ≤ c ∧ c ≤ maxLen ∧ ∀ j u, cs[j]? = some u → w.cell? (ad.add j) = some u
theorem RowR.keepX {X : List Nat} {w w' : World} {v : Value} {n : Nat} {cs : List Value} (h : RowR w v n cs) (hi : InX X w v) (hk : KeepX X w w') : RowR w' v n cs := by
 rcases h with h | ⟨a, cap, rfl, h2, h3, h4⟩
 · exact .inl h
 · exact .inr ⟨a, cap, rfl, h2, h3, fun j u hj => (hi.cell hk _ (addr_block a j)).trans (h4 j u hj)⟩
theorem RowR.below {w w' : World} {v : Value} {n : Nat} {cs : List Value} (h : RowR w v n cs) (hb : Below w.heap.size w w') : RowR w' v n cs := by
 rcases h with h | ⟨a, cap, rfl, h2, h3, h4⟩
 · exact .inl h
 · exact .inr ⟨a, cap, rfl, h2, h3, fun j u hj => (hb.cell (cell_lt (h4 j u hj))).trans (h4 j u hj)⟩
theorem RowR.form {w : World} {v : Value} {n : Nat} {cs : List Value} (h : RowR w v n cs) : ∃ a c, v = .slice a n c := by
 rcases h with ⟨h1, h2, _⟩ | ⟨a, cap, h1, _⟩
 · exact ⟨none, 0, by rw [h1, h2]⟩
 · exact ⟨some a, cap, h1⟩
theorem RowR.own {w : World} {B : Nat} {e : TypeId} {size : Nat} {v : Value} {n : Nat} {xs : List Value} (h : w.ownsRow B e size v n xs) : RowR w v n xs := by
 have hh := h; rcases h.2 with ⟨h1, h2⟩ | ⟨g, cap, cur, h1, _, _, h4, h5, _⟩
 · subst h2; exact .inl ⟨h1, rfl, List.eq_nil_of_length_eq_zero (by simpa using h.1)⟩
 · subst h1; exact .inr ⟨_, cap, rfl, h4, h5, hh.cells (g := g) rfl⟩
theorem RowR.mrow {w : World} {v : Value} {own : List Mo} (h : RowR w v own.length (mcells own)) : MRow w v own := by
 rcases h with ⟨h1, h2, _⟩ | ⟨a, cap, h1, h3, h4, h5⟩
 · exact ⟨none, 0, by rw [h1, h2], by omega, by omega, fun i hi => by omega⟩
 · refine ⟨some a, cap, h1, h3, h4, fun i hi => ?_⟩; obtain ⟨p1, p2⟩ := mcells_get own i hi; refine ⟨a, rfl, h5 _ _ p1, ?_⟩; have := h5 _ _ p2; rw [add_one2]; exact this
structure RowD where
  e : TypeId
  size : Nat
  v : Value
  n : Nat
  P : List Nat → World → List Value → Prop
def Stays (P : List Nat → World → List Value → Prop) : Prop := ∀ (X X' : List Nat) (w w' : World) cs, KeepX X w w' → MoreX X X' w → P X w cs → P X' w' cs
structure Rows (X L : List Nat) (B : Nat) (w : World) (rs : List RowD) : Prop where
  loc : ∀ b ∈ L, b ∈ X ∧ ∀ r ∈ rs, r.v.ownBlock ≠ some b
  lt : ∀ b ∈ X, b < w.heap.size
  inx : ∀ r ∈ rs, ∀ b, r.v.ownBlock = some b → b ∈ X
  st : ∀ r ∈ rs, Stays r.P
  own : ∀ r ∈ rs, ∃ cs, w.ownsRow B r.e r.size r.v r.n cs ∧ r.P X w cs
  apart : rs.Pairwise fun r r' => r.v.ownBlock = Option.none ∨ r.v.ownBlock ≠ r'.v.ownBlock
theorem Rows.below {X L : List Nat} {B : Nat} {w w' : World} {rs : List RowD} (h : Rows X L B w rs) (hb : Below w.heap.size w w') : Rows X L B w' rs :=
  ⟨h.loc, fun b hx => Nat.lt_of_lt_of_le (h.lt b hx) hb.size, h.inx, h.st, fun r hr => by
    obtain ⟨cs, h1, h2⟩ := h.own r hr
    exact ⟨cs, own_below' h1 hb, h.st r hr X X w w' cs (KeepX.below hb) (MoreX.refl _ _) h2⟩, h.apart⟩
theorem Rows.upd {X L : List Nat} {B : Nat} {w w' : World} {rs : List RowD} (h : Rows X L B w rs) (i : Nat) (hi : i < rs.length) (r' : RowD) (hg : w.grownBy w' rs[i].v.ownBlock) {cs : List Value} (ho : w'.ownsRow B r'.e r'.size r'.v r'.n cs) (hst : Stays r'.P) (hat : r'.v.ownBlock = rs[i].v.ownBlock ∨ r'.v.ownBlock = some w.heap.size) (hP : ∀ X', MoreX X X' w → r'.P X' w' cs) : ∃ X', Rows X' L B w' (rs.set i r') ∧ MoreX X X' w := by
 have hk : KeepX X w w' := KeepX.grown hg (fun b hb => h.inx rs[i] (List.getElem_mem hi) b hb)
 have key : ∃ X' : List Nat, MoreX X X' w ∧ (∀ b ∈ X', b < w'.heap.size) ∧ (∀ b ∈ X, b ∈ X') ∧ ∀ b, r'.v.ownBlock = some b → b ∈ X' := by
  rcases hat with e | e
  · exact ⟨X, MoreX.refl _ _, fun b hb => Nat.lt_of_lt_of_le (h.lt b hb) hg.size, fun b hb => hb, fun b hb => h.inx rs[i] (List.getElem_mem hi) b (by rw [← e]; exact hb)⟩
  · refine ⟨w.heap.size :: X, ?_, ?_, fun b hb => List.mem_cons_of_mem _ hb, fun b hb => ?_⟩
    · intro b hb; rcases List.mem_cons.1 hb with rfl | hb
      · exact .inr (Nat.le_refl _)
      · exact .inl hb
    · intro b hb; rcases List.mem_cons.1 hb with rfl | hb
      · exact (ho.lt _ e).2
      · exact Nat.lt_of_lt_of_le (h.lt b hb) hg.size
    · rw [e] at hb; cases hb; exact List.mem_cons_self
 obtain ⟨X', hm, hlt, hsub, hin⟩ := key
 have hap : ∀ j (hj : j < rs.length), j ≠ i → rs[j].v.ownBlock = Option.none ∨ rs[j].v.ownBlock ≠ rs[i].v.ownBlock := fun j hj hne => by
  have hp := List.pairwise_iff_getElem.1 h.apart; rcases Nat.lt_or_gt_of_ne hne with q | q
  · exact hp j i hj hi q
  · rcases hp i j hi hj q with e | e
    · by_cases z : rs[j].v.ownBlock = Option.none
      · exact .inl z
      · exact .inr (fun q2 => z (q2.trans e))
    · exact .inr (fun q2 => e q2.symm)
 have hnew : ∀ j (hj : j < rs.length), j ≠ i → rs[j].v.ownBlock = Option.none ∨ rs[j].v.ownBlock ≠ r'.v.ownBlock := fun j hj hne => by
  rcases hat with e | e
  · rw [e]; exact hap j hj hne
  · refine .inr (fun q => ?_); rw [e] at q; have := h.lt _ (h.inx rs[j] (List.getElem_mem hj) _ q); omega
 refine ⟨X', ⟨?_, hlt, ?_, ?_, ?_, ?_⟩, hm⟩
 · intro b hb; obtain ⟨h1, h2⟩ := h.loc b hb; refine ⟨hsub b h1, fun r hr => ?_⟩; obtain ⟨j, hj, rfl⟩ := List.getElem_of_mem hr; rw [List.length_set] at hj; rw [List.getElem_set]; split
   · rcases hat with e | e
     · rw [e]; exact h2 _ (List.getElem_mem hi)
     · rw [e]; intro q; have := h.lt b h1; cases q; omega
   · exact h2 _ (List.getElem_mem hj)
 · intro r hr b hb; obtain ⟨j, hj, rfl⟩ := List.getElem_of_mem hr; rw [List.length_set] at hj; rw [List.getElem_set] at hb; split at hb
   · exact hin b hb
   · exact hsub b (h.inx _ (List.getElem_mem hj) b hb)
 · intro r hr; obtain ⟨j, hj, rfl⟩ := List.getElem_of_mem hr; rw [List.length_set] at hj; rw [List.getElem_set]; split
   · exact hst
   · exact h.st _ (List.getElem_mem hj)
 · intro r hr; obtain ⟨j, hj, rfl⟩ := List.getElem_of_mem hr; rw [List.length_set] at hj; rw [List.getElem_set]; split
   · exact ⟨cs, ho, hP X' hm⟩
   · rename_i hne; obtain ⟨cs2, h1, h2⟩ := h.own _ (List.getElem_mem hj); exact ⟨cs2, h1.kept hg (hap j hj (fun q => hne q.symm)), h.st _ (List.getElem_mem hj) X X' w w' cs2 hk hm h2⟩
 · rw [List.pairwise_iff_getElem]; intro j k hj hk2 hjk; rw [List.length_set] at hj hk2; rw [List.getElem_set, List.getElem_set]; split
   · rename_i e1; subst e1; rw [if_neg (by omega)]; rcases hnew k hk2 (by omega) with e | e
     · by_cases z : r'.v.ownBlock = Option.none
       · exact .inl z
       · exact .inr (fun q => z (q.trans e))
     · exact .inr (fun q => e q.symm)
   · split
     · rename_i e1 e2; subst e2; exact hnew j hj (by omega)
     · exact List.pairwise_iff_getElem.1 h.apart j k hj hk2 hjk
theorem Rows.more {X L : List Nat} {B : Nat} {w w' : World} {rs : List RowD} {b : Nat} (h : Rows X L B w rs) (hb : Below w.heap.size w w') (hn : w.heap.size ≤ b ∧ b < w'.heap.size) : Rows (b :: X) (b :: L) B w' rs := by
 have hm : MoreX X (b :: X) w := fun z hz => by
  rcases List.mem_cons.1 hz with rfl | hz
  · exact .inr hn.1
  · exact .inl hz
 refine ⟨fun z hz => ?_, fun z hz => ?_, fun r hr z hz => List.mem_cons_of_mem _ (h.inx r hr z hz), h.st, fun r hr => ?_, h.apart⟩
 · rcases List.mem_cons.1 hz with rfl | hz
   · refine ⟨List.mem_cons_self, fun r hr q => ?_⟩; have := h.lt z (h.inx r hr z q); omega
   · exact ⟨List.mem_cons_of_mem _ (h.loc z hz).1, (h.loc z hz).2⟩
 · rcases List.mem_cons.1 hz with rfl | hz
   · exact hn.2
   · exact Nat.lt_of_lt_of_le (h.lt z hz) hb.size
 · obtain ⟨cs, h1, h2⟩ := h.own r hr; exact ⟨cs, own_below' h1 hb, h.st r hr X (b :: X) w w' cs (KeepX.below hb) hm h2⟩
theorem Rows.other {X L : List Nat} {B : Nat} {w w' : World} {rs : List RowD} {b : Nat} (h : Rows X L B w rs) (hg : w.grownBy w' (some b)) (hb : b ∈ L) : Rows X L B w' rs := by
  obtain ⟨h0, h1⟩ := h.loc b hb
  exact ⟨h.loc, fun z hz => Nat.lt_of_lt_of_le (h.lt z hz) hg.size, h.inx, h.st, fun r hr => by
    obtain ⟨cs, h2, h3⟩ := h.own r hr
    exact ⟨cs, h2.kept hg (.inr (h1 r hr)), h.st r hr X X w w' cs (KeepX.grown hg (fun z hz => by cases hz; exact h0)) (MoreX.refl _ _) h3⟩, h.apart⟩
theorem Rows.less {X L L' : List Nat} {B : Nat} {w : World} {rs : List RowD} (h : Rows X L B w rs) (hl : ∀ b ∈ L', b ∈ L) : Rows X L' B w rs := ⟨fun b hb => h.loc b (hl b hb), h.lt, h.inx, h.st, h.own, h.apart⟩
def KeepR (rs : List RowD) (w w' : World) : Prop := w.heap.size ≤ w'.heap.size ∧ (∀ k, k < w.heap.size → (∀ r ∈ rs, r.v.ownBlock ≠ some k) → w'.heap[k]? = w.heap[k]?) ∧ w'.os = w.os ∧ w'.tape = w.tape ∧ w'.output = w.output
theorem KeepR.refl (rs : List RowD) (w : World) : KeepR rs w w := ⟨Nat.le_refl _, fun _ _ _ => rfl, rfl, rfl, rfl⟩
theorem KeepR.trans {rs : List RowD} {w u w' : World} (h : KeepR rs w u) (k : KeepR rs u w') : KeepR rs w w' := ⟨Nat.le_trans h.1 k.1, fun b hb hr => (k.2.1 b (Nat.lt_of_lt_of_le hb h.1) hr).trans (h.2.1 b hb hr), k.2.2.1.trans h.2.2.1, k.2.2.2.1.trans h.2.2.2.1, k.2.2.2.2.trans h.2.2.2.2⟩
theorem KeepR.below {rs : List RowD} {w u w' : World} (h : KeepR rs w u) (hb : Below u.heap.size u w') : KeepR rs w w' := h.trans ⟨hb.size, fun k hk _ => hb.block k hk, hb.os, hb.tape, hb.output⟩
theorem KeepR.new {rs : List RowD} {w u w' : World} {b : Nat} (h : KeepR rs w u) (hg : u.grownBy w' (some b)) (hb : w.heap.size ≤ b) : KeepR rs w w' := ⟨Nat.le_trans h.1 hg.size, fun k hk hr => (hg.block k (Nat.lt_of_lt_of_le hk h.1) (fun e => by cases e; omega)).trans (h.2.1 k hk hr), hg.os.trans h.2.2.1, hg.tape.trans h.2.2.2.1, hg.output.trans h.2.2.2.2⟩
theorem KeepR.row {rs : List RowD} {w u w' : World} {z : Option Nat} (h : KeepR rs w u) (hg : u.grownBy w' z) (hz : ∀ k, z = some k → w.heap.size ≤ k ∨ ∃ r ∈ rs, r.v.ownBlock = some k) : KeepR rs w w' := ⟨Nat.le_trans h.1 hg.size, fun k hk hr => (hg.block k (Nat.lt_of_lt_of_le hk h.1) (fun e => by
    rcases hz k e.symm with q | ⟨r, hm, q⟩
    · omega
    · exact hr r hm q)).trans (h.2.1 k hk hr), hg.os.trans h.2.2.1, hg.tape.trans h.2.2.2.1, hg.output.trans h.2.2.2.2⟩
theorem Blk.keepR {rs : List RowD} {X L : List Nat} {B : Nat} {w w' : World} {b : Nat} {t : TypeId} {cs : Array Value} (h : Blk w b t cs) (hk : KeepR rs w w') (hr : Rows X L B w rs) (hb : b ∈ L) : Blk w' b t cs := (hk.2.1 b h.lt (hr.loc b hb).2).trans h
theorem Rows.more2 {X L : List Nat} {B : Nat} {w w' : World} {rs : List RowD} {b : Nat} (h : Rows X L B w rs) (hb : Below w.heap.size w w') (hn : w.heap.size ≤ b ∧ b < w'.heap.size) : ∃ X', Rows X' (b :: L) B w' rs ∧ MoreX X X' w :=
  ⟨_, h.more hb hn, fun z hz => by
    rcases List.mem_cons.1 hz with rfl | hz
    · exact .inr hn.1
    · exact .inl hz⟩
theorem Rows.fresh {X L : List Nat} {B : Nat} {w w' : World} {rs : List RowD} (h : Rows X L B w rs) {e : TypeId} {size n : Nat} {v : Value} {xs : List Value} (ho : w'.ownsRow w.heap.size e size v n xs) : InX X w' v := fun b hb => by
  obtain ⟨h1, h2⟩ := ho.lt b hb
  exact ⟨h2, fun q => by have := h.lt b q; omega⟩
theorem Rows.inL {X L : List Nat} {B : Nat} {w : World} {rs : List RowD} (h : Rows X L B w rs) {b : Nat} (hb : b ∈ L) : b ∈ X := (h.loc b hb).1
structure Wt where
  who : Int
  pos : Int
  leaf : ByteArray
  key : ByteArray
structure St where
  who : Int
  tag : ByteArray
structure Td where
  who : Int
  pos : Int
structure Wld where
  seats : List Mem
  waits : List Wt
  log : List Cmt
  fresh : List Int
  spy : List ByteArray
  stolen : List St
  frames : List Fra
  said : List Int
  wins : List (List Win)
  told : List Td
def Wld.none : Wld := ⟨[], [], [], [], [], [], [], [], [], []⟩
abbrev wtC (who pos : Int) (leaf key : ByteArray) : Array Value := #[.int .i64 who, .int .i64 pos, .string leaf, .string key]
abbrev wldC (a b c d e f g h i j : Value) : Array Value := #[a, b, c, d, e, f, g, h, i, j]
theorem RowR.brow {w : World} {v : Value} {bs : List Bx} (h : RowR w v bs.length (bcells bs)) : BRow w v bs := by
 rcases h with ⟨h1, h2, _⟩ | ⟨a, cap, h1, h3, h4, h5⟩
 · exact ⟨Option.none, 0, by rw [h1, h2], by omega, by omega, fun i hi => by omega⟩
 · refine ⟨some a, cap, h1, h3, h4, fun i hi => ?_⟩; obtain ⟨p1, p2⟩ := bcells_get bs i hi; refine ⟨a, rfl, h5 _ _ p1, ?_⟩; have := h5 _ _ p2; rw [add_one2]; exact this
theorem mcells_len : ∀ bs : List Mo, (mcells bs).length = bs.length * 2 | [] => rfl | b :: bs => by show (_ :: _ :: mcells bs).length = _ rw [List.length_cons, List.length_cons, mcells_len bs, List.length_cons] omega
theorem RowR.mnews {w : World} {v : Value} {own : List Mo} (h : RowR w v own.length (mcells own)) : MNews w v own := by
 rcases h with ⟨h1, h2, h3⟩ | ⟨a, cap, h1, _, _, h5⟩
 · exact .inl ⟨h1, h2, h3⟩
 · exact .inr ⟨a, cap, h1, mcells_len own, h5⟩
theorem RowR.news2 {w : World} {v : Value} {n size : Nat} {cs : List Value} (h : RowR w v n cs) (hl : cs.length = n * size) : (v = .slice Option.none 0 0 ∧ n = 0 ∧ cs = []) ∨ ∃ ad c, v = .slice (some ad) n c ∧ cs.length = n * size ∧ ∀ j u, cs[j]? = some u → w.cell? (ad.add j) = some u := by
 rcases h with h | ⟨a, cap, h1, _, _, h5⟩
 · exact .inl h
 · exact .inr ⟨a, cap, h1, hl, h5⟩
def seatR (X : List Nat) (w : World) (m : Mem) (c : List Value) : Prop := ∃ k o, c = (m.cells k o).toList ∧ SRow w k m.keys ∧ RowR w o m.own.length (mcells m.own) ∧ InX X w k ∧ InX X w o
def cmtR (X : List Nat) (w : World) (x : Cmt) (c : List Value) : Prop := ∃ k b, c = (x.cells k b).toList ∧ SRow w k x.keys ∧ RowR w b x.boxes.length (bcells x.boxes) ∧ InX X w k ∧ InX X w b
def winR (X : List Nat) (w : World) (x : Win) (c : List Value) : Prop := ∃ s, c = (x.cells s).toList ∧ IRow w s x.seen ∧ InX X w s
def winsR (X : List Nat) (w : World) (l : List Win) (c : List Value) : Prop := ∃ v cs, c = [v] ∧ RowR w v l.length cs ∧ ListR (winR X w) l cs ∧ InX X w v
def waitR (x : Wt) (c : List Value) : Prop := c = (wtC x.who x.pos x.leaf x.key).toList
def stolR (x : St) (c : List Value) : Prop := c = [.int .i64 x.who, .string x.tag]
def toldR (x : Td) (c : List Value) : Prop := c = [.int .i64 x.who, .int .i64 x.pos]
def fraR (x : Fra) (c : List Value) : Prop := c = x.cells.toList
def intR (x : Int) (c : List Value) : Prop := c = [.int .i64 x]
def txtR (x : ByteArray) (c : List Value) : Prop := c = [.string x]
theorem seatR.len {X : List Nat} {w : World} (m : Mem) (c : List Value) (h : seatR X w m c) : c.length = 7 := by obtain ⟨k, o, rfl, _⟩ := h; rfl
theorem cmtR.len {X : List Nat} {w : World} (m : Cmt) (c : List Value) (h : cmtR X w m c) : c.length = 13 := by obtain ⟨k, o, rfl, _⟩ := h; rfl
theorem winR.len {X : List Nat} {w : World} (m : Win) (c : List Value) (h : winR X w m c) : c.length = 3 := by obtain ⟨k, rfl, _⟩ := h; rfl
theorem winsR.len {X : List Nat} {w : World} (m : List Win) (c : List Value) (h : winsR X w m c) : c.length = 1 := by obtain ⟨v, cs, rfl, _⟩ := h; rfl
theorem waitR.len (m : Wt) (c : List Value) (h : waitR m c) : c.length = 4 := by rw [show c = _ from h]; rfl
theorem stolR.len (m : St) (c : List Value) (h : stolR m c) : c.length = 2 := by rw [show c = _ from h]; rfl
theorem toldR.len (m : Td) (c : List Value) (h : toldR m c) : c.length = 2 := by rw [show c = _ from h]; rfl
theorem fraR.len (m : Fra) (c : List Value) (h : fraR m c) : c.length = 4 := by rw [show c = _ from h]; rfl
theorem intR.len (m : Int) (c : List Value) (h : intR m c) : c.length = 1 := by rw [show c = _ from h]; rfl
theorem txtR.len (m : ByteArray) (c : List Value) (h : txtR m c) : c.length = 1 := by rw [show c = _ from h]; rfl
section
variable {X X' : List Nat} {w w' : World} (hk : KeepX X w w') (hm : MoreX X X' w)
include hk hm
theorem seatR.keep (m : Mem) (c : List Value) (h : seatR X w m c) : seatR X' w' m c := by obtain ⟨k, o, e, h1, h2, h3, h4⟩ := h; exact ⟨k, o, e, h1.keepX h3 hk, h2.keepX h4 hk, h3.keep hk hm, h4.keep hk hm⟩
theorem cmtR.keep (m : Cmt) (c : List Value) (h : cmtR X w m c) : cmtR X' w' m c := by obtain ⟨k, o, e, h1, h2, h3, h4⟩ := h; exact ⟨k, o, e, h1.keepX h3 hk, h2.keepX h4 hk, h3.keep hk hm, h4.keep hk hm⟩
theorem winR.keep (m : Win) (c : List Value) (h : winR X w m c) : winR X' w' m c := by obtain ⟨s, e, h1, h2⟩ := h; exact ⟨s, e, h1.keepX h2 hk, h2.keep hk hm⟩
theorem winsR.keep (m : List Win) (c : List Value) (h : winsR X w m c) : winsR X' w' m c := by obtain ⟨v, cs, e, h1, h2, h3⟩ := h; exact ⟨v, cs, e, h1.keepX h3 hk, h2.mono (winR.keep hk hm), h3.keep hk hm⟩
end
def rowsOf (a b c d e f g h i j : Value) (W : Wld) : List RowD :=
  [⟨62, 7, a, W.seats.length, fun X w => ListR (seatR X w) W.seats⟩, ⟨81, 4, b, W.waits.length, fun _ _ => ListR waitR W.waits⟩, ⟨57, 13, c, W.log.length, fun X w => ListR (cmtR X w) W.log⟩,
   ⟨3, 1, d, W.fresh.length, fun _ _ => ListR intR W.fresh⟩, ⟨9, 1, e, W.spy.length, fun _ _ => ListR txtR W.spy⟩, ⟨105, 2, f, W.stolen.length, fun _ _ => ListR stolR W.stolen⟩, ⟨107, 4, g, W.frames.length, fun _ _ => ListR fraR W.frames⟩,
   ⟨3, 1, h, W.said.length, fun _ _ => ListR intR W.said⟩, ⟨79, 1, i, W.wins.length, fun X w => ListR (winsR X w) W.wins⟩, ⟨116, 2, j, W.told.length, fun _ _ => ListR toldR W.told⟩]
theorem stays_seat (l : List Mem) : Stays (fun X w => ListR (seatR X w) l) := fun _ _ _ _ _ hk hm h => h.mono (seatR.keep hk hm)
theorem stays_cmt (l : List Cmt) : Stays (fun X w => ListR (cmtR X w) l) := fun _ _ _ _ _ hk hm h => h.mono (cmtR.keep hk hm)
theorem stays_wins (l : List (List Win)) : Stays (fun X w => ListR (winsR X w) l) := fun _ _ _ _ _ hk hm h => h.mono (winsR.keep hk hm)
theorem stays_flat {α : Type} (R : α → List Value → Prop) (l : List α) : Stays (fun _ _ => ListR R l) := fun _ _ _ _ _ _ _ h => h
theorem info_wld : (Tryz.prog.info? 41).map (·.size) = some 10 := by kernel_rfl
theorem load_wld {w : World} {b : Nat} {cs : Array Value} (h : Blk w b 41 cs) (hc : cs.size = 10) : (loadVar 41 ⟨b, 0, Option.none⟩).run Tryz.prog w = .ok (.agg cs) w :=
  run_loadVar_row w b _ _ cs (0, 0) _ h Tryz.underlying41 rfl (by rw [hc]; exact info_wld)
theorem Rows.seat {X L : List Nat} {B : Nat} {w : World} {a b c d e f g h i j : Value} {W : Wld} (q : Rows X L B w (rowsOf a b c d e f g h i j W)) (k : Nat) (hk : k < W.seats.length) : ∃ (ga ca : Nat) (ks os : Value), a = .slice (some ⟨ga, 0, Option.none⟩) W.seats.length ca ∧ (∀ n u, (W.seats[k].cells ks os)[n]? = some u → w.cell? ⟨ga, k * 7 + n, Option.none⟩ = some u) ∧ SRow w ks W.seats[k].keys ∧ RowR w os W.seats[k].own.length (mcells W.seats[k].own) := by obtain ⟨cs, h1, h2⟩ := q.own _ (List.mem_of_getElem? (i := 0) rfl); obtain ⟨ga, ca, e1, _, _, _, _⟩ := row_some h1 (by show 0 < W.seats.length; omega); obtain ⟨x, ⟨ks, os, rfl, p1, p2, _, _⟩, p3⟩ := ListR.get seatR.len k hk h2; refine ⟨ga, ca, ks, os, e1, fun n u hn => ?_, p1, p2⟩; have p4 := World.ownsRow.cells h1 (g := ga) (by rw [show (RowD.v _) = _ from e1]; rfl) (k * 7 + n) u (p3 n u (by simpa using hn)); rw [Addr.add_lit, Nat.zero_add] at p4; exact p4
theorem Rows.appFrames {X L : List Nat} {B : Nat} {w : World} {a b c d e f g h i j : Value} {W : Wld} (q : Rows X L B w (rowsOf a b c d e f g h i j W)) : ∃ cs, w.ownsRow B 107 4 g W.frames.length cs ∧ ∀ (x : Fra) (v : Value) (w' : World), w'.ownsRow B 107 4 v (W.frames.length + 1) (cs ++ x.cells.toList) → w.grownBy w' g.ownBlock → (v.ownBlock = g.ownBlock ∨ v.ownBlock = some w.heap.size) → ∃ X', Rows X' L B w' (rowsOf a b c d e f v h i j { W with frames := W.frames ++ [x] }) ∧ MoreX X X' w := by obtain ⟨cs, h1, h2⟩ := q.own _ (List.mem_of_getElem? (i := 6) rfl); refine ⟨cs, h1, fun x v w' ho hg hat => ?_⟩; exact q.upd 6 (Nat.le_of_ble_eq_true rfl) ⟨107, 4, v, (W.frames ++ [x]).length, fun _ _ => ListR fraR (W.frames ++ [x])⟩ hg (by show World.ownsRow _ _ _ _ _ (W.frames ++ [x]).length _; rw [List.length_append]; exact ho) (stays_flat _ _) hat (fun _ _ => ListR.app h2 (ListR.one rfl))
theorem Rows.setSaid {X L : List Nat} {B : Nat} {w : World} {a b c d e f g h i j : Value} {W : Wld} (q : Rows X L B w (rowsOf a b c d e f g h i j W)) (k : Nat) (hk : k < W.said.length) : ∃ (gh ch : Nat), h = .slice (some ⟨gh, 0, Option.none⟩) W.said.length ch ∧ w.cell? ⟨gh, k, Option.none⟩ = some (.int .i64 W.said[k]) ∧ w.frozen? ⟨gh, k, Option.none⟩ = false ∧ ∀ n : Int, w.grownBy (w.setCell ⟨gh, k, Option.none⟩ (.int .i64 n)) (some gh) ∧ ∃ X', Rows X' L B (w.setCell ⟨gh, k, Option.none⟩ (.int .i64 n)) (rowsOf a b c d e f g h i j { W with said := W.said.set k n }) ∧ MoreX X X' w := by
 obtain ⟨cs, h1, h2⟩ := q.own _ (List.mem_of_getElem? (i := 7) rfl); obtain ⟨gh, ch, e1, _, _, _, _⟩ := row_some h1 (by show 0 < W.said.length; omega); have e1' : h = .slice (some ⟨gh, 0, Option.none⟩) W.said.length ch := e1; subst e1'; have h1' : w.ownsRow B 3 1 (.slice (some ⟨gh, 0, Option.none⟩) W.said.length ch) W.said.length cs := h1; obtain ⟨x, p1, p3⟩ := ListR.get intR.len k hk h2; have p1' : x = [.int .i64 W.said[k]] := p1; subst p1'; refine ⟨gh, ch, rfl, ?_, h1'.frozenAt k, fun n => ?_⟩
 · rw [h1'.cellAt k (by omega)]; have := p3 0 _ rfl; rw [Nat.mul_one, Nat.add_zero] at this; exact this
 · obtain ⟨s1, s2⟩ := h1'.stored k (.int .i64 n); refine ⟨s2, ?_⟩; have hs := ListR.set intR.len (d := [.int .i64 n]) (b := n) rfl k hk h2; have hcl : cs.length = W.said.length * 1 := ListR.len intR.len h2; (have es : cs.set k (.int .i64 n) = cs.take (k * 1) ++ [.int .i64 n] ++ cs.drop (k * 1 + 1) := by rw [Nat.mul_one, List.set_eq_take_append_cons_drop, if_pos (by omega)]; simp); rw [es] at s1; exact q.upd 7 (Nat.le_of_ble_eq_true rfl) ⟨3, 1, _, (W.said.set k n).length, fun _ _ => ListR intR (W.said.set k n)⟩ s2 (by show World.ownsRow _ _ _ _ _ (W.said.set k n).length _; rw [List.length_set]; exact s1) (stays_flat _ _) (.inl rfl) (fun _ _ => hs)
set_option maxRecDepth 100000 in
set_option maxHeartbeats 4000000 in
theorem sFraOk_any (f : Fra) (w : World) (hm : f.key.size ≤ maxLen) :
 Calls Tryz.prog 94 #[.agg f.cells] w fun e w' => e = .returned (.bool (fraOk f)) ∧ Below w.heap.size w w' := by
 have HE : Hid (fraOk f = _) := fraOk_eq f; obtain ⟨fr, key, n, text⟩ := f; simp only at hm HE ⊢; have M := hide hm; clear hm; obtain ⟨r, hr⟩ : ∃ r, fraOk ⟨fr, key, n, text⟩ = r := ⟨_, rfl⟩; rw [hr] at HE ⊢; clear hr; have A := hide (Blk.new w 107 (fraC fr key n text)); have HB : Hid (Below w.heap.size w (w.alloc (.cells (fraC fr key n text) 107))) := (Below.refl _ _).alloc (Nat.le_refl _) _
 go_enter Tryz.func94, Tryz.ntmps94
 (go_wp2_with fail); generalize w.alloc (.cells (fraC fr key n text) 107) = W0 at *; replace A := hide (A.out.drew); replace HB : Hid (Below w.heap.size w W0.drew) := HB.out.drew; obtain ⟨b0, hb0⟩ : ∃ b, inB 0 7 fr = b := ⟨_, rfl⟩; rw [hb0] at HE; have H0 := hide hb0; clear hb0
 cases b0 with
 | false =>
  (have HF : Hid (r = false) := by show _ = _; rw [HE.out]; simp); clear HE; refine r_i Later ?_; refine r_q 0 ?_; refine r_b 1 A 0 ?_; refine r_k 2 (l1In_any fr 0 7 _) ?_; rw [H0.out]; rintro e wz ⟨rfl, rfl⟩; refine s_r ?_; refine r_q 3 ?_; refine r_n3 4 5 6 ?_; refine r_q 7 ?_; refine r_q 8 ?_; refine r_n4 9 10 11 12 ?_; refine r_n 13 ?_; refine r_q 14 ?_; refine r_q 15 ?_; refine r_n6 16 17 18 19 20 21 ?_; refine r_n 22 ?_; refine r_q 23 ?_; refine r_q 24 ?_; refine r_n3 25 26 27 ?_; refine r_q 28 ?_; refine r_q 29 ?_; refine r_n3 30 31 32 ?_; refine r_q 33 ?_; refine r_q 34 ?_; refine r_e ?_; (go_wp2_with fail)
  go_ret
  exact ⟨ret_bool' HF.out.symm, unhide HB⟩
 | true =>
  simp only [Bool.true_and] at HE; obtain ⟨b1, hb1⟩ : ∃ b, Kw.ok key = b := ⟨_, rfl⟩; rw [hb1] at HE; have H1 := hide hb1; clear hb1
  cases b1 with
  | false =>
   (have HF : Hid (r = false) := by show _ = _; rw [HE.out]; simp); clear HE; refine r_i Later ?_; refine r_q 0 ?_; refine r_b 1 A 0 ?_; refine r_k 2 (l1In_any fr 0 7 _) ?_; rw [H0.out]; rintro e wz ⟨rfl, rfl⟩; refine s_r ?_; refine r_q2 3 4 ?_; refine r_b 5 A 1 ?_; refine r_k 6 (sSecOk_any key _ M.out) ?_; rw [H1.out]; rintro e w1 ⟨rfl, hb⟩; refine s_r ?_; refine cy2 A HB ?_; clear A HB; intro A HB; clear hb; refine r_q 7 ?_; refine r_q 8 ?_; refine r_n4 9 10 11 12 ?_; refine r_n 13 ?_; refine r_q 14 ?_; refine r_q 15 ?_; refine r_n6 16 17 18 19 20 21 ?_; refine r_n 22 ?_; refine r_q 23 ?_; refine r_q 24 ?_; refine r_n3 25 26 27 ?_; refine r_q 28 ?_; refine r_q 29 ?_; refine r_n3 30 31 32 ?_; refine r_q 33 ?_; refine r_q 34 ?_; refine r_e ?_; (go_wp2_with fail)
   go_ret
   exact ⟨ret_bool' HF.out.symm, unhide HB⟩
  | true =>
   simp only [Bool.true_and] at HE; obtain ⟨b2, hb2⟩ : ∃ b, decide (mOp key = 5) = b := ⟨_, rfl⟩; rw [hb2] at HE; have H2 := hide hb2; clear hb2
   cases b2 with
   | false =>
    (have HF : Hid (r = false) := by show _ = _; rw [HE.out]; simp); clear HE; (have hop : (mOp key == 5) = false := by simpa using H2.out); refine r_i Later ?_; refine r_q 0 ?_; refine r_b 1 A 0 ?_; refine r_k 2 (l1In_any fr 0 7 _) ?_; rw [H0.out]; rintro e wz ⟨rfl, rfl⟩; refine s_r ?_; refine r_q2 3 4 ?_; refine r_b 5 A 1 ?_; refine r_k 6 (sSecOk_any key _ M.out) ?_; rw [H1.out]; rintro e w1 ⟨rfl, hb⟩; refine s_r ?_; refine cy2 A HB ?_; clear A HB; intro A HB; clear hb; refine r_q3 7 8 9 ?_; refine r_b 10 A 1 ?_; refine r_k 11 (l1How_any key _ H1.out) ?_; rw [how_field]; rintro e w2 ⟨rfl, hb⟩; refine s_r ?_; refine cy2 A HB ?_; clear A HB; intro A HB; clear hb; refine r_q 12 ?_ (h := by intro w' hw'; have hfl := field_op; go_simp; all_goals rfl); refine r_q 13 ?_; refine r_q 14 ?_; refine r_q 15 ?_; refine r_n6 16 17 18 19 20 21 ?_; refine r_n 22 ?_; refine r_q 23 ?_; refine r_q 24 ?_; refine r_n3 25 26 27 ?_; refine r_q 28 ?_; refine r_q 29 ?_; refine r_n3 30 31 32 ?_; refine r_q 33 ?_; refine r_q 34 ?_; refine r_e ?_; (go_wp2_with fail)
    go_ret
    exact ⟨ret_bool' HF.out.symm, unhide HB⟩
   | true =>
    simp only [Bool.true_and] at HE; (have hop : (mOp key == 5) = true := by simpa using H2.out); obtain ⟨b3, hb3⟩ : ∃ b, decide (mWho key = fr) = b := ⟨_, rfl⟩; rw [hb3] at HE; have H3 := hide hb3; clear hb3
    cases b3 with
    | false =>
     (have HF : Hid (r = false) := by show _ = _; rw [HE.out]; simp); clear HE; (have hop : (mWho key == fr) = false := by simpa using H3.out); refine r_i Later ?_; refine r_q 0 ?_; refine r_b 1 A 0 ?_; refine r_k 2 (l1In_any fr 0 7 _) ?_; rw [H0.out]; rintro e wz ⟨rfl, rfl⟩; refine s_r ?_; refine r_q2 3 4 ?_; refine r_b 5 A 1 ?_; refine r_k 6 (sSecOk_any key _ M.out) ?_; rw [H1.out]; rintro e w1 ⟨rfl, hb⟩; refine s_r ?_; refine cy2 A HB ?_; clear A HB; intro A HB; clear hb; refine r_q3 7 8 9 ?_; refine r_b 10 A 1 ?_; refine r_k 11 (l1How_any key _ H1.out) ?_; rw [how_field]; rintro e w2 ⟨rfl, hb⟩; refine s_r ?_; refine cy2 A HB ?_; clear A HB; intro A HB; clear hb; refine r_q 12 ?_ (h := by intro w' hw'; have hfl := field_op; go_simp; all_goals rfl); refine r_q4 13 14 15 16 ?_; refine r_b 17 A 1 ?_; refine r_q 20 ?_; refine r_b 21 A 0 ?_; refine r_k 18 (l1How_any key _ H1.out) ?_; rw [how_field]; rintro e w3 ⟨rfl, hb⟩; refine s_r ?_; refine cy2 A HB ?_; clear A HB; intro A HB; clear hb; refine r_q 19 ?_ (h := by intro w' hw'; have hfl := field_who; go_simp; all_goals rfl); refine r_q 22 ?_; refine r_q 23 ?_; refine r_q 24 ?_; refine r_n3 25 26 27 ?_; refine r_q 28 ?_; refine r_q 29 ?_; refine r_n3 30 31 32 ?_; refine r_q 33 ?_; refine r_q 34 ?_; refine r_e ?_; (go_wp2_with fail)
     go_ret
     exact ⟨ret_bool' HF.out.symm, unhide HB⟩
    | true =>
     simp only [Bool.true_and] at HE; (have hop3 : (mWho key == fr) = true := by simpa using H3.out); obtain ⟨b4, hb4⟩ : ∃ b, inB 1 999 n = b := ⟨_, rfl⟩; rw [hb4] at HE; have H4 := hide hb4; clear hb4
     cases b4 with
     | false =>
      (have HF : Hid (r = false) := by show _ = _; rw [HE.out]; simp); clear HE; refine r_i Later ?_; refine r_q 0 ?_; refine r_b 1 A 0 ?_; refine r_k 2 (l1In_any fr 0 7 _) ?_; rw [H0.out]; rintro e wz ⟨rfl, rfl⟩; refine s_r ?_; refine r_q2 3 4 ?_; refine r_b 5 A 1 ?_; refine r_k 6 (sSecOk_any key _ M.out) ?_; rw [H1.out]; rintro e w1 ⟨rfl, hb⟩; refine s_r ?_; refine cy2 A HB ?_; clear A HB; intro A HB; clear hb; refine r_q3 7 8 9 ?_; refine r_b 10 A 1 ?_; refine r_k 11 (l1How_any key _ H1.out) ?_; rw [how_field]; rintro e w2 ⟨rfl, hb⟩; refine s_r ?_; refine cy2 A HB ?_; clear A HB; intro A HB; clear hb; refine r_q 12 ?_ (h := by intro w' hw'; have hfl := field_op; go_simp; all_goals rfl); refine r_q4 13 14 15 16 ?_; refine r_b 17 A 1 ?_; refine r_q 20 ?_; refine r_b 21 A 0 ?_; refine r_k 18 (l1How_any key _ H1.out) ?_; rw [how_field]; rintro e w3 ⟨rfl, hb⟩; refine s_r ?_; refine cy2 A HB ?_; clear A HB; intro A HB; clear hb; refine r_q 19 ?_ (h := by intro w' hw'; have hfl := field_who; go_simp; all_goals rfl); refine r_q4 22 23 24 25 ?_; refine r_b 26 A 2 ?_; refine r_k 27 (l1In_any n 1 999 _) ?_; rw [H4.out]; rintro e wz ⟨rfl, rfl⟩; refine s_r ?_; refine r_q 28 ?_; refine r_q 29 ?_; refine r_n3 30 31 32 ?_; refine r_q 33 ?_; refine r_q 34 ?_; refine r_e ?_; (go_wp2_with fail)
      go_ret
      exact ⟨ret_bool' HF.out.symm, unhide HB⟩
     | true =>
      simp only [Bool.true_and] at HE; obtain ⟨b5, hb5⟩ : ∃ b, textB text = b := ⟨_, rfl⟩; rw [hb5] at HE; have H5 := hide hb5; clear hb5
      cases b5 with
      | false =>
       (have HF : Hid (r = false) := by show _ = _; rw [HE.out]); clear HE; refine r_i Later ?_; refine r_q 0 ?_; refine r_b 1 A 0 ?_; refine r_k 2 (l1In_any fr 0 7 _) ?_; rw [H0.out]; rintro e wz ⟨rfl, rfl⟩; refine s_r ?_; refine r_q2 3 4 ?_; refine r_b 5 A 1 ?_; refine r_k 6 (sSecOk_any key _ M.out) ?_; rw [H1.out]; rintro e w1 ⟨rfl, hb⟩; refine s_r ?_; refine cy2 A HB ?_; clear A HB; intro A HB; clear hb; refine r_q3 7 8 9 ?_; refine r_b 10 A 1 ?_; refine r_k 11 (l1How_any key _ H1.out) ?_; rw [how_field]; rintro e w2 ⟨rfl, hb⟩; refine s_r ?_; refine cy2 A HB ?_; clear A HB; intro A HB; clear hb; refine r_q 12 ?_ (h := by intro w' hw'; have hfl := field_op; go_simp; all_goals rfl); refine r_q4 13 14 15 16 ?_; refine r_b 17 A 1 ?_; refine r_q 20 ?_; refine r_b 21 A 0 ?_; refine r_k 18 (l1How_any key _ H1.out) ?_; rw [how_field]; rintro e w3 ⟨rfl, hb⟩; refine s_r ?_; refine cy2 A HB ?_; clear A HB; intro A HB; clear hb; refine r_q 19 ?_ (h := by intro w' hw'; have hfl := field_who; go_simp; all_goals rfl); refine r_q4 22 23 24 25 ?_; refine r_b 26 A 2 ?_; refine r_k 27 (l1In_any n 1 999 _) ?_; rw [H4.out]; rintro e wz ⟨rfl, rfl⟩; refine s_r ?_; refine r_q3 28 29 30 ?_; refine r_b 31 A 3 ?_; refine r_k 32 (sFraText_any text _) ?_; rw [H5.out]; rintro e wz ⟨rfl, rfl⟩; refine s_r ?_; refine r_q2 33 34 ?_; refine r_e ?_; (go_wp2_with fail)
       go_ret
       exact ⟨ret_bool' HF.out.symm, unhide HB⟩
      | true =>
       skip; refine r_i Later ?_; refine r_q 0 ?_; refine r_b 1 A 0 ?_; refine r_k 2 (l1In_any fr 0 7 _) ?_; rw [H0.out]; rintro e wz ⟨rfl, rfl⟩; refine s_r ?_; refine r_q2 3 4 ?_; refine r_b 5 A 1 ?_; refine r_k 6 (sSecOk_any key _ M.out) ?_; rw [H1.out]; rintro e w1 ⟨rfl, hb⟩; refine s_r ?_; refine cy2 A HB ?_; clear A HB; intro A HB; clear hb; refine r_q3 7 8 9 ?_; refine r_b 10 A 1 ?_; refine r_k 11 (l1How_any key _ H1.out) ?_; rw [how_field]; rintro e w2 ⟨rfl, hb⟩; refine s_r ?_; refine cy2 A HB ?_; clear A HB; intro A HB; clear hb; refine r_q 12 ?_ (h := by intro w' hw'; have hfl := field_op; go_simp; all_goals rfl); refine r_q4 13 14 15 16 ?_; refine r_b 17 A 1 ?_; refine r_q 20 ?_; refine r_b 21 A 0 ?_; refine r_k 18 (l1How_any key _ H1.out) ?_; rw [how_field]; rintro e w3 ⟨rfl, hb⟩; refine s_r ?_; refine cy2 A HB ?_; clear A HB; intro A HB; clear hb; refine r_q 19 ?_ (h := by intro w' hw'; have hfl := field_who; go_simp; all_goals rfl); refine r_q4 22 23 24 25 ?_; refine r_b 26 A 2 ?_; refine r_k 27 (l1In_any n 1 999 _) ?_; rw [H4.out]; rintro e wz ⟨rfl, rfl⟩; refine s_r ?_; refine r_q3 28 29 30 ?_; refine r_b 31 A 3 ?_; refine r_k 32 (sFraText_any text _) ?_; rw [H5.out]; rintro e wz ⟨rfl, rfl⟩; refine s_r ?_; refine r_q2 33 34 ?_; refine r_e ?_; (go_wp2_with fail)
       go_ret
       exact ⟨ret_bool' HE.out.symm, unhide HB⟩
set_option maxHeartbeats 400000 in
theorem sMakSay_any (s : ByteArray) (who : Int) (w : World) (hm : s.size ≤ maxLen) :
    Calls Tryz.prog 68 #[.string s, .int .i64 who] w fun e w' => e = .returned (.string (mkSay s who)) ∧ Below w.heap.size w w' := by
  have M := hide hm
  clear hm
  cases hk : Kw.ok s with
  | false =>
    rw [show mkSay s who = ⟨#[]⟩ by unfold mkSay; rw [if_neg (by rw [hk]; simp)]]
    have K := hide hk
    clear hk
    go_enter Tryz.func68, Tryz.ntmps68
    go_wp2_with fail
    refine (sSecOk_any s _ M.out).mono ?_
    rw [K.out]
    rintro e w1 ⟨rfl, hb1⟩
    go_wp2_with fail
    go_ret
    exact ⟨rfl, hb1⟩
  | true =>
    have hs := (ok_facts hk).1
    by_cases hbad : who < 0 ∨ 8 ≤ who
    · rw [show mkSay s who = ⟨#[]⟩ by unfold mkSay; rw [if_neg (by omega)]]
      have K := hide hk
      clear hk
      go_enter Tryz.func68, Tryz.ntmps68
      go_wp2_with fail
      refine (sSecOk_any s _ M.out).mono ?_
      rw [K.out]
      rintro e w1 ⟨rfl, hb1⟩
      go_wp2_with fail
      refine (l1In_no _ _ _ _ (by omega)).mono ?_
      rintro e w2 ⟨rfl, rfl⟩
      go_wp2_with fail
      go_ret
      exact ⟨rfl, hb1⟩
    · have g0 : 0 ≤ who := by omega
      have g1 : who < 8 := by omega
      have hz := say_size s who.toNat
      rw [show mkSay s who = only (sayT s who.toNat) by unfold mkSay; rw [if_pos ⟨hk, g0, g1⟩, only_cap (by omega) (len_say hk (by omega))]]
      have M2 : Hid ((sayT s who.toNat).size ≤ maxLen) := by show _ ≤ maxLen; unfold maxLen; omega
      have K := hide hk
      clear hk hz hbad
      have s1 : (by1 (65 + who.toNat)).size = 1 := rfl
      have g2 : who ≤ 7 := by omega
      go_enter Tryz.func68, Tryz.ntmps68
      go_wp2_with fail
      refine (sSecOk_any s _ M.out).mono ?_
      rw [K.out]
      rintro e w1 ⟨rfl, hb1⟩
      go_wp2_with fail
      refine (l1In_yes _ _ _ _ (by omega) (by omega)).mono ?_
      rintro e w2 ⟨rfl, rfl⟩
      go_wp2_with fail
      refine (l1Who_any _ _ g0 g1).mono ?_
      rintro e w3 ⟨rfl, hb3⟩
      go_wp2_with fail
      refine (l1Ok_any (sayT s who.toNat) _ M2.out).mono ?_
      rintro e w4 ⟨rfl, hb4⟩
      go_wp2_with fail
      go_ret
      have hb13 := hb1.trans (hb3.mono hb1.size)
      exact ⟨rfl, hb13.trans (hb4.mono hb13.size)⟩
def Fra.none : Fra := ⟨0, ⟨#[]⟩, 0, ⟨#[]⟩⟩
abbrev noFraC : Array Value := fraC 0 ⟨#[]⟩ 0 ⟨#[]⟩
theorem info_frc : (Tryz.prog.info? 107).map (·.size) = some 4 := by kernel_rfl
theorem load_frc {w : World} {b : Nat} {cs : Array Value} (h : Blk w b 107 cs) (hc : cs.size = 4) : (loadVar 107 ⟨b, 0, none⟩).run Tryz.prog w = .ok (.agg cs) w :=
 run_loadVar_row w b _ _ cs (0, 0) _ h Tryz.underlying107 rfl (by rw [hc]; exact info_frc)
theorem one_frc (a b : Int) (c d : ByteArray) : (fraC a c b d).all (·.oneCell') = true := by simp [Value.oneCell']
def makeB (m : Mem) (n : Int) (text : ByteArray) : Bool := memOkS m && (m.inn && (inB 1 999 n && textB text))
theorem makeB_eq (m : Mem) (n : Int) (text : ByteArray) : makeB m n text = (memOkS m && (m.inn && (inB 1 999 n && textB text))) := rfl
def makeS (m : Mem) (n : Int) (text : ByteArray) : Fra × Bool := if makeB m n text = true then (⟨m.who, mkSay m.init m.who, n, text⟩, true) else (Fra.none, false)
set_option maxRecDepth 100000 in
set_option maxHeartbeats 4000000 in
theorem sFraMake_any (m : Mem) (ks os : Value) (n : Int) (text : ByteArray) (w : World) (hK : SRow w ks m.keys) (hO : MRow w os m.own) (hkm : ∀ x ∈ m.keys, x.size ≤ maxLen) (hom : ∀ o ∈ m.own, o.2.size ≤ maxLen) (him : m.init.size ≤ maxLen) (htm : m.tag.size ≤ maxLen) :
 Calls Tryz.prog 51 #[.agg (m.cells ks os), .int .i64 n, .string text] w fun e w' => e = .returned (.tuple #[.agg (makeS m n text).1.cells, .bool (makeS m n text).2]) ∧ Below w.heap.size w w' := by
 have HE : Hid (makeB m n text = _) := makeB_eq m n text; have HS : Hid (makeS m n text = if makeB m n text = true then (⟨m.who, mkSay m.init m.who, n, text⟩, true) else (Fra.none, false)) := rfl; have HOK := hide (fun (u : World) (hu : Below w.heap.size w u) => sMemOk_any m ks os u (hK.below hu) (hO.below hu) hkm hom him htm); have M := hide him; obtain ⟨inn, who, keys, own, ep, init, tag⟩ := m; obtain ⟨a1, p1, rfl, _, _, _⟩ := hK.form; obtain ⟨a2, p2, rfl, _, _, _⟩ := id hO; simp only at HE HS M HOK ⊢; clear hK hO hkm hom him htm; generalize keys.length = n1 at *; generalize own.length = n2 at *; have a1' := ((Blk.new w 62 (memC inn who (.slice a1 n1 p1) (.slice a2 n2 p2) ep init tag)).alloc (.cells noFraC 107)); have r1' := Blk.new (w.alloc (.cells (memC inn who (.slice a1 n1 p1) (.slice a2 n2 p2) ep init tag) 62)) 107 noFraC; have HB := hide (((Below.refl w.heap.size w).alloc (Nat.le_refl _) (.cells (memC inn who (.slice a1 n1 p1) (.slice a2 n2 p2) ep init tag) 62)).alloc (by simp) (.cells noFraC 107)); simp only [World.size_alloc] at r1'; have A := hide a1'; have R := hide r1'; clear a1' r1'; have L0 := hide (load_mm A.out rfl)
 go_enter Tryz.func51, Tryz.ntmps51
 go_wp2_with (refine wpList_load_whole rfl 62 _ rfl ⟨w.heap.size, 0, none⟩ rfl _ (by exact unhide L0) ?_)
 generalize (w.alloc (.cells (memC inn who (.slice a1 n1 p1) (.slice a2 n2 p2) ep init tag) 62)).alloc (.cells noFraC 107) = W0 at *; refine (HOK.out _ HB.out).mono ?_; obtain ⟨b0, hb0⟩ : ∃ b, memOkS ⟨inn, who, keys, own, ep, init, tag⟩ = b := ⟨_, rfl⟩; rw [hb0] at HE ⊢; rintro e w1 ⟨rfl, hb⟩; refine cy3 A R HB ?_; clear A R HB; intro A R HB; clear hb hb0 L0 HOK; have c0 := A.out.cell 0; simp only [List.getElem?_toArray, List.getElem?_cons_zero] at c0
 cases b0 with
 | false =>
  (have HF : Hid (makeS ⟨inn, who, keys, own, ep, init, tag⟩ n text = (Fra.none, false)) := by show _ = _; rw [HS.out, HE.out]; rfl); have L1 := hide (load_frc (R.out.set noFraC) rfl)
  go_wp2_with (refine wpList_store_whole rfl 107 (.tmp 6) (.tmp 26) rfl (w.heap.size + 1) noFraC ?hx1 ?hy1 107 noFraC ?hb1 ?hi1 ?ho1 ?h11 ?h1)
  any_goals (first | rfl | exact unhide R | exact info_frc | exact one_frc _ _ _ _)
  (go_wp2_with fail); refine bodyPost_ret (v := .tuple #[.agg noFraC, .bool false]) (results_cs rfl rfl rfl L1.out) rfl ?_; rw [HF.out]; exact ⟨rfl, below_blk HB.out (by omega) _⟩
 | true =>
  simp only [Bool.true_and] at HE
  cases inn with
  | false =>
   (have HF : Hid (makeS ⟨false, who, keys, own, ep, init, tag⟩ n text = (Fra.none, false)) := by show _ = _; rw [HS.out, HE.out]; rfl); have L1 := hide (load_frc (R.out.set noFraC) rfl)
   go_wp2_with (refine wpList_store_whole rfl 107 (.tmp 6) (.tmp 26) rfl (w.heap.size + 1) noFraC ?hx2 ?hy2 107 noFraC ?hb2 ?hi2 ?ho2 ?h12 ?h2)
   any_goals (first | rfl | exact unhide R | exact info_frc | exact one_frc _ _ _ _)
   (go_wp2_with fail); refine bodyPost_ret (v := .tuple #[.agg noFraC, .bool false]) (results_cs rfl rfl rfl L1.out) rfl ?_; rw [HF.out]; exact ⟨rfl, below_blk HB.out (by omega) _⟩
  | true =>
   simp only [Bool.true_and] at HE; (go_wp2_with fail); refine (l1In_any n 1 999 _).mono ?_; obtain ⟨b1, hb1⟩ : ∃ b, inB 1 999 n = b := ⟨_, rfl⟩; rw [hb1] at HE ⊢; rintro e wz ⟨rfl, rfl⟩; clear hb1
   cases b1 with
   | false =>
    (have HF : Hid (makeS ⟨true, who, keys, own, ep, init, tag⟩ n text = (Fra.none, false)) := by show _ = _; rw [HS.out, HE.out]; rfl); have L1 := hide (load_frc (R.out.set noFraC) rfl)
    go_wp2_with (refine wpList_store_whole rfl 107 (.tmp 6) (.tmp 26) rfl (w.heap.size + 1) noFraC ?hx3 ?hy3 107 noFraC ?hb3 ?hi3 ?ho3 ?h13 ?h3)
    any_goals (first | rfl | exact unhide R | exact info_frc | exact one_frc _ _ _ _)
    (go_wp2_with fail); refine bodyPost_ret (v := .tuple #[.agg noFraC, .bool false]) (results_cs rfl rfl rfl L1.out) rfl ?_; rw [HF.out]; exact ⟨rfl, below_blk HB.out (by omega) _⟩
   | true =>
    simp only [Bool.true_and] at HE; (go_wp2_with fail); refine (sFraText_any text _).mono ?_; obtain ⟨b2, hb2⟩ : ∃ b, textB text = b := ⟨_, rfl⟩; rw [hb2] at HE ⊢; rintro e wz ⟨rfl, rfl⟩; clear hb2
    cases b2 with
    | false =>
     (have HF : Hid (makeS ⟨true, who, keys, own, ep, init, tag⟩ n text = (Fra.none, false)) := by show _ = _; rw [HS.out, HE.out]; rfl); have L1 := hide (load_frc (R.out.set noFraC) rfl)
     go_wp2_with (refine wpList_store_whole rfl 107 (.tmp 6) (.tmp 26) rfl (w.heap.size + 1) noFraC ?hx4 ?hy4 107 noFraC ?hb4 ?hi4 ?ho4 ?h14 ?h4)
     any_goals (first | rfl | exact unhide R | exact info_frc | exact one_frc _ _ _ _)
     (go_wp2_with fail); refine bodyPost_ret (v := .tuple #[.agg noFraC, .bool false]) (results_cs rfl rfl rfl L1.out) rfl ?_; rw [HF.out]; exact ⟨rfl, below_blk HB.out (by omega) _⟩
    | true =>
     (have HF : Hid (makeS ⟨true, who, keys, own, ep, init, tag⟩ n text = (⟨who, mkSay init who, n, text⟩, true)) := by show _ = _; rw [HS.out, HE.out]; rfl); clear c0; (go_wp2_with fail); replace A := hide (A.out.drew); replace R := hide (R.out.drew); replace HB : Hid (Below w.heap.size w wz.drew) := HB.out.drew; have cA : wz.drew.cell? ⟨w.heap.size, 1, none⟩ = some (.int .i64 who) := A.out.cell 1; have cB : wz.drew.cell? ⟨w.heap.size, 5, none⟩ = some (.string init) := A.out.cell 5; have C4 := hide (And.intro cA cB); have hl1 : w.heap.size < wz.drew.heap.size := cell_lt cA; clear cA cB A; refine r_i ((KeepC ([⟨w.heap.size, 1, none⟩, ⟨w.heap.size, 5, none⟩] : List Addr))) ?_; refine r_q 0 ?_; refine r_q 1 ?_ (h := by intro w' hw'; have xq := (hw' ⟨w.heap.size, 1, none⟩ (by simp)).trans C4.out.1; go_simp; all_goals rfl); refine r_q 2 ?_; refine r_q 3 ?_ (h := by intro w' hw'; have xq := (hw' ⟨w.heap.size, 5, none⟩ (by simp)).trans C4.out.2; go_simp; all_goals rfl); refine r_q 4 ?_; refine r_q 5 ?_ (h := by intro w' hw'; have xq := (hw' ⟨w.heap.size, 1, none⟩ (by simp)).trans C4.out.1; go_simp; all_goals rfl); refine r_q2 7 8 ?_; refine r_1 6 (fun K hK => ?_); go_simp; refine (sMakSay_any init who _ M.out).mono ?_; generalize mkSay init who = sk at HF ⊢; rintro e w2 ⟨rfl, hb⟩; go_simp; refine sr hK ?_ (r := (keepC_below hb (fun x hx => by simp only [List.mem_cons, List.not_mem_nil, or_false] at hx; rcases hx with rfl | rfl <;> exact hl1))); clear hK; have hl2 : w.heap.size < w2.heap.size := Nat.lt_of_lt_of_le hl1 hb.size; refine cy2 R HB ?_; clear R HB; intro R HB; clear hb hl1; refine r_q 9 ?_; refine r_1 10 (fun K hK => ?_); refine wp_store_row 107 (.tmp 6) (.tmp 36) rfl (w.heap.size + 1) (fraC who sk n text) rfl rfl 107 noFraC R.out info_frc rfl (one_frc _ _ _ _) ?_; refine sr hK ?_ (r := (keepC_row (fun x hx => by simp only [List.mem_cons, List.not_mem_nil, or_false] at hx; rcases hx with rfl | rfl <;> exact ⟨hl2, by show w.heap.size ≠ w.heap.size + 1; omega⟩) (grown_setRow _ _ _))); clear hK; refine r_q 11 ?_; refine r_e ?_; have l2 := load_frc (R.out.set (fraC who sk n text)) rfl; (go_wp2_with fail); refine bodyPost_ret (v := .tuple #[.agg (fraC who sk n text), .bool true]) (results_cs rfl rfl rfl l2) rfl ?_; rw [HF.out]; exact ⟨rfl, below_blk HB.out (by omega) _⟩
def sayW (W : Wld) (k : Nat) (text : ByteArray) : Wld :=
  if W.frames.length = 40 ∨ W.said.getD k 0 = 999 then W
  else if makeB (W.seats.getD k Mem.none) (W.said.getD k 0 + 1) text = true then { W with frames := W.frames ++ [(makeS (W.seats.getD k Mem.none) (W.said.getD k 0 + 1) text).1], said := W.said.set k (W.said.getD k 0 + 1) } else W
theorem sayW_eq (W : Wld) (k : Nat) (text : ByteArray) : sayW W k text = if W.frames.length = 40 ∨ W.said.getD k 0 = 999 then W else if makeB (W.seats.getD k Mem.none) (W.said.getD k 0 + 1) text = true then { W with frames := W.frames ++ [(makeS (W.seats.getD k Mem.none) (W.said.getD k 0 + 1) text).1], said := W.said.set k (W.said.getD k 0 + 1) } else W := rfl
theorem getD_at2 {α : Type} {l : List α} {k : Nat} (d : α) (h : k < l.length) : l.getD k d = l[k] := by rw [List.getD_eq_getElem?_getD, List.getElem?_eq_getElem h]; rfl
theorem Rows.forms {X L : List Nat} {B : Nat} {w : World} {a b c d e f g h i j : Value} {W : Wld} (q : Rows X L B w (rowsOf a b c d e f g h i j W)) : (∃ z y, a = .slice z W.seats.length y) ∧ (∃ z y, b = .slice z W.waits.length y) ∧ (∃ z y, c = .slice z W.log.length y) ∧ (∃ z y, d = .slice z W.fresh.length y) ∧ (∃ z y, e = .slice z W.spy.length y) ∧ (∃ z y, f = .slice z W.stolen.length y) ∧ (∃ z y, g = .slice z W.frames.length y) ∧ (∃ z y, h = .slice z W.said.length y) ∧ (∃ z y, i = .slice z W.wins.length y) ∧ (∃ z y, j = .slice z W.told.length y) := by (have key : ∀ (k : Nat) r, (rowsOf a b c d e f g h i j W)[k]? = some r → ∃ z y, r.v = .slice z r.n y := fun k r hr => by obtain ⟨cs, h1, _⟩ := q.own r (List.mem_of_getElem? hr); exact row_form' h1); exact ⟨key 0 _ rfl, key 1 _ rfl, key 2 _ rfl, key 3 _ rfl, key 4 _ rfl, key 5 _ rfl, key 6 _ rfl, key 7 _ rfl, key 8 _ rfl, key 9 _ rfl⟩
theorem one_wld {a b c d e f g h i j : Value} {W : Wld} {X L : List Nat} {B : Nat} {w : World} (q : Rows X L B w (rowsOf a b c d e f g h i j W)) : (wldC a b c d e f g h i j).all (·.oneCell') = true := by obtain ⟨⟨_, _, rfl⟩, ⟨_, _, rfl⟩, ⟨_, _, rfl⟩, ⟨_, _, rfl⟩, ⟨_, _, rfl⟩, ⟨_, _, rfl⟩, ⟨_, _, rfl⟩, ⟨_, _, rfl⟩, ⟨_, _, rfl⟩, ⟨_, _, rfl⟩⟩ := q.forms; simp [Value.oneCell']
abbrev noWld : Array Value := wldC (.slice Option.none 0 0) (.slice Option.none 0 0) (.slice Option.none 0 0) (.slice Option.none 0 0) (.slice Option.none 0 0) (.slice Option.none 0 0) (.slice Option.none 0 0) (.slice Option.none 0 0) (.slice Option.none 0 0) (.slice Option.none 0 0)
theorem rowT_fra : RowT Tryz.prog 37 107 4 48 := rowT_of (show Tryz.prog.underlying 37 = some (.slice 107) by kernel_rfl) (show (Tryz.prog.info? 107).map (fun i => (i.zero, i.size, i.bytes)) = some (some (.agg #[.int .i64 0, .string ⟨#[]⟩, .int .i64 0, .string ⟨#[]⟩]), 4, 48) by kernel_rfl) rfl (by decide)
theorem Rows.saidAt {X L : List Nat} {B : Nat} {w : World} {a b c d e f g i j : Value} {W : Wld} {gh n ch : Nat} (q : Rows X L B w (rowsOf a b c d e f g (.slice (some ⟨gh, 0, Option.none⟩) n ch) i j W)) {k : Nat} (hk : k < W.said.length) {x : Int} (hx : W.said.getD k 0 = x) : w.cell? ⟨gh, k, Option.none⟩ = some (.int .i64 x) := by obtain ⟨g2, c2, e1, h2, _, _⟩ := q.setSaid k hk; simp only [Value.slice.injEq, Option.some.injEq, Addr.mk.injEq, and_true] at e1; obtain ⟨rfl, _, _⟩ := e1; rw [h2, ← hx, getD_at2 _ hk]
theorem Rows.seatAt {X L : List Nat} {B : Nat} {w : World} {b c d e f g h i j : Value} {W : Wld} {ga n ca : Nat} (q : Rows X L B w (rowsOf (.slice (some ⟨ga, 0, Option.none⟩) n ca) b c d e f g h i j W)) {k : Nat} (hk : k < W.seats.length) {m : Mem} (hm : W.seats.getD k Mem.none = m) : ∃ (z1 : Option Addr) (y1 : Nat) (z2 : Option Addr) (y2 : Nat), (∀ n u, (m.cells (.slice z1 m.keys.length y1) (.slice z2 m.own.length y2))[n]? = some u → w.cell? ⟨ga, k * 7 + n, Option.none⟩ = some u) ∧ SRow w (.slice z1 m.keys.length y1) m.keys ∧ RowR w (.slice z2 m.own.length y2) m.own.length (mcells m.own) := by
 obtain ⟨g2, c2, ks, os, e1, h1, h2, h3⟩ := q.seat k hk; simp only [Value.slice.injEq, Option.some.injEq, Addr.mk.injEq, and_true] at e1; obtain ⟨rfl, _, _⟩ := e1; rw [getD_at2 _ hk] at hm; rw [hm] at h1 h2 h3; obtain ⟨z1, y1, rfl, _, _, _⟩ := h2.form
 have hf : ∃ z2 y2, os = .slice z2 m.own.length y2 := by
  rcases h3 with ⟨p1, p2, _⟩ | ⟨a, cap, p1, _⟩
  · exact ⟨Option.none, 0, by rw [p1, p2]⟩
  · exact ⟨some a, cap, p1⟩
 obtain ⟨z2, y2, rfl⟩ := hf; exact ⟨z1, y1, z2, y2, h1, h2, h3⟩
theorem makeS_snd (m : Mem) (n : Int) (text : ByteArray) : (makeS m n text).2 = makeB m n text := by
  unfold makeS
  cases h : makeB m n text with
  | true => rfl
  | false => rfl
theorem op_skip {P : Program} {Q : Exit → Act → World → Prop} {a : Act} {w : World} {o : Oper} {K : Act → World → Prop} (w2 : World) (h : (execOp a.eval o).run P w = .ok .skip w2) (k : K (a.put o.dst undef) w2) : o.wp P a w K Q := by unfold Oper.wp; rw [h]; exact k
def setMany : List Value → Nat → List Value → List Value
  | xs, _, [] => xs
  | xs, o, v :: r => setMany (xs.set o v) (o + 1) r
theorem setMany_eq : ∀ (d xs : List Value) (o : Nat), o + d.length ≤ xs.length → setMany xs o d = xs.take o ++ d ++ xs.drop (o + d.length)
  | [], xs, o, _ => by simp [setMany]
  | v :: r, xs, o, h => by
    rw [List.length_cons] at h
    rw [setMany, setMany_eq r (xs.set o v) (o + 1) (by rw [List.length_set]; omega), List.length_cons]
    rw [List.drop_set_of_lt (by omega), List.take_succ_eq_append_getElem (by rw [List.length_set]; omega), List.getElem_set_self, List.take_set_of_le (Nat.le_refl _), show o + 1 + r.length = o + (r.length + 1) by omega]
    simp
theorem row_setMany {B : Nat} {e : TypeId} {size g n c : Nat} : ∀ (d : List Value) (o : Nat) {w : World} {xs : List Value}, w.ownsRow B e size (.slice (some ⟨g, 0, Option.none⟩) n c) n xs → (w.setCells g o d).ownsRow B e size (.slice (some ⟨g, 0, Option.none⟩) n c) n (setMany xs o d) | [], _, _, _, h => h | v :: r, o, _, _, h => row_setMany r (o + 1) (h.stored o v).1
theorem row_there {B : Nat} {e : TypeId} {size g n c : Nat} {w : World} {xs : List Value} (h : w.ownsRow B e size (.slice (some ⟨g, 0, Option.none⟩) n c) n xs) (o m : Nat) (hm : o + m ≤ n * size) : w.there g o m := fun j hj => by
  refine ⟨?_, h.frozenAt (o + j)⟩
  rw [h.cellAt (o + j) (by omega), List.getElem?_eq_getElem (by rw [h.1]; omega)]
  rfl
theorem Rows.setSeat {X L : List Nat} {B : Nat} {w : World} {b c d e f g h i j : Value} {W : Wld} {ga n ca : Nat} (q : Rows X L B w (rowsOf (.slice (some ⟨ga, 0, Option.none⟩) n ca) b c d e f g h i j W)) {k : Nat} (hk : k < W.seats.length) : B ≤ ga ∧ w.there ga (k * 7) 7 ∧ ∀ (m : Mem) (ks os : Value), SRow w ks m.keys → RowR w os m.own.length (mcells m.own) → InX X w ks → InX X w os → w.grownBy (w.setCells ga (k * 7) (m.cells ks os).toList) (some ga) ∧ ∃ X', Rows X' L B (w.setCells ga (k * 7) (m.cells ks os).toList) (rowsOf (.slice (some ⟨ga, 0, Option.none⟩) n ca) b c d e f g h i j { W with seats := W.seats.set k m }) ∧ MoreX X X' w := by obtain ⟨cs, h1, h2⟩ := q.own _ (List.mem_of_getElem? (i := 0) rfl); obtain ⟨g2, c2, e1, hb, _, _, _⟩ := row_some h1 (by show 0 < W.seats.length; omega); (have e2 : n = W.seats.length := by have : Value.slice (some ⟨ga, 0, Option.none⟩) n ca = .slice (some ⟨g2, 0, Option.none⟩) W.seats.length c2 := e1; simp only [Value.slice.injEq] at this; exact this.2.1); (have e3 : ga = g2 := by have : Value.slice (some ⟨ga, 0, Option.none⟩) n ca = .slice (some ⟨g2, 0, Option.none⟩) W.seats.length c2 := e1; simp only [Value.slice.injEq, Option.some.injEq, Addr.mk.injEq] at this; exact this.1.1); subst e2 e3; have h1' : w.ownsRow B 62 7 (.slice (some ⟨ga, 0, Option.none⟩) W.seats.length ca) W.seats.length cs := h1; have hl : cs.length = W.seats.length * 7 := h1'.1; (have hfit : k * 7 + 7 ≤ W.seats.length * 7 := by omega); refine ⟨hb, row_there h1' _ _ hfit, fun m ks os p1 p2 p3 p4 => ?_⟩; have hg := grown_setCells ga (m.cells ks os).toList (k * 7) w; refine ⟨hg, ?_⟩; have hr := row_setMany (m.cells ks os).toList (k * 7) h1'; rw [setMany_eq _ _ _ (by show k * 7 + 7 ≤ _; omega)] at hr; have hin : ga ∈ X := q.inx _ (List.mem_of_getElem? (i := 0) rfl) ga rfl; have hkx : KeepX X w (w.setCells ga (k * 7) (m.cells ks os).toList) := KeepX.grown hg (fun z hz => by cases hz; exact hin); exact q.upd 0 (Nat.le_of_ble_eq_true rfl) ⟨62, 7, .slice (some ⟨ga, 0, Option.none⟩) W.seats.length ca, (W.seats.set k m).length, fun X w => ListR (seatR X w) (W.seats.set k m)⟩ hg (by show World.ownsRow _ _ _ _ _ (W.seats.set k m).length _; rw [List.length_set]; exact hr) (stays_seat _) (.inl rfl) (fun X' hm => ListR.set seatR.len (d := (m.cells ks os).toList) ⟨ks, os, rfl, p1.keepX p3 hkx, p2.keepX p4 hkx, p3.keep hkx hm, p4.keep hkx hm⟩ k hk (ListR.mono (seatR.keep hkx hm) h2))
theorem Rows.logAt {X L : List Nat} {B : Nat} {w : World} {a b d e f g h i j : Value} {W : Wld} {gc n cc : Nat} (q : Rows X L B w (rowsOf a b (.slice (some ⟨gc, 0, Option.none⟩) n cc) d e f g h i j W)) {k : Nat} (hk : k < W.log.length) {m : Cmt} (hm : W.log.getD k Cmt.none = m) : ∃ (z1 : Option Addr) (y1 : Nat) (z2 : Option Addr) (y2 : Nat), (∀ n u, (m.cells (.slice z1 m.keys.length y1) (.slice z2 m.boxes.length y2))[n]? = some u → w.cell? ⟨gc, k * 13 + n, Option.none⟩ = some u) ∧ SRow w (.slice z1 m.keys.length y1) m.keys ∧ RowR w (.slice z2 m.boxes.length y2) m.boxes.length (bcells m.boxes) := by
 obtain ⟨cs, h1, h2⟩ := q.own _ (List.mem_of_getElem? (i := 2) rfl); obtain ⟨x, ⟨ks, os, rfl, p1, p2, _, _⟩, p3⟩ := ListR.get cmtR.len k hk h2; rw [getD_at2 _ hk] at hm; rw [hm] at p1 p2 p3; obtain ⟨z1, y1, rfl, _, _, _⟩ := p1.form
 have hf : ∃ z2 y2, os = .slice z2 m.boxes.length y2 := by
  rcases p2 with ⟨p4, p5, _⟩ | ⟨a, cap, p4, _⟩
  · exact ⟨Option.none, 0, by rw [p4, p5]⟩
  · exact ⟨some a, cap, p4⟩
 obtain ⟨z2, y2, rfl⟩ := hf; refine ⟨z1, y1, z2, y2, fun n u hn => ?_, p1, p2⟩; have p4 := World.ownsRow.cells h1 (g := gc) rfl (k * 13 + n) u (p3 n u (by simpa using hn)); rw [Addr.add_lit, Nat.zero_add] at p4; exact p4
def hearW (W : Wld) (k z : Nat) : Wld := if hearY (W.seats.getD k Mem.none) (W.log.getD z Cmt.none) = true then { W with seats := W.seats.set k (hearX (W.seats.getD k Mem.none) (W.log.getD z Cmt.none)) } else W
theorem hearW_eq (W : Wld) (k z : Nat) : hearW W k z = if hearY (W.seats.getD k Mem.none) (W.log.getD z Cmt.none) = true then { W with seats := W.seats.set k (hearX (W.seats.getD k Mem.none) (W.log.getD z Cmt.none)) } else W := rfl
def MemZ (m : Mem) : Prop := m.keys.length ≤ 1000 ∧ m.own.length ≤ 100 ∧ (∀ x ∈ m.keys, x.size ≤ maxLen) ∧ (∀ o ∈ m.own, o.2.size ≤ maxLen) ∧ m.init.size ≤ maxLen ∧ m.tag.size ≤ maxLen
def CmtZ (c : Cmt) : Prop := (∀ x ∈ c.keys, x.size ≤ maxLen) ∧ (∀ b ∈ c.boxes, b.1.size ≤ maxLen ∧ b.2.size ≤ maxLen) ∧ c.name.size ≤ 2000000 ∧ c.tag.size ≤ 2000000 ∧ c.leaf.size ≤ maxLen ∧ c.wel.key.size ≤ maxLen ∧ c.wel.is.size ≤ maxLen ∧ c.wel.ss.size ≤ maxLen
theorem rowR_of {w : World} {B n : Nat} {v : Value} {bs : List Mo} (h : w.ownsRow B 134 2 v n (mcells bs)) (hl : bs.length = n) : RowR w v bs.length (mcells bs) := by subst hl; exact RowR.own h
theorem rowRB_of {w : World} {B n : Nat} {v : Value} {bs : List Bx} (h : w.ownsRow B 53 2 v n (bcells bs)) (hl : bs.length = n) : RowR w v bs.length (bcells bs) := by subst hl; exact RowR.own h
def knowsOf (b : Bool) (m : Mem) : List ByteArray := if (b && m.inn) = true then m.own.map (·.2) ++ [m.init] else []
def ownV (own : List Mo) (j : Nat) : List Value := ((own.take j).map (·.2)).map Value.string
theorem ownV_succ {own : List Mo} {j : Nat} (h : j < own.length) : ownV own (j + 1) = ownV own j ++ [Value.string (own.getD j noMo).2] := by unfold ownV; rw [List.take_succ_eq_append_getElem h, List.map_append, List.map_append]; (have hq : own.getD j noMo = own[j] := by rw [List.getD_eq_getElem?_getD, List.getElem?_eq_getElem h]; rfl); rw [hq]; rfl
theorem ownV_all (own : List Mo) : ownV own own.length = (own.map (·.2)).map Value.string := by unfold ownV; rw [List.take_length]
theorem one_newS (w : World) (x : Value) (t : TypeId) : ∀ j u, [x][j]? = some u → (w.alloc (.cells #[x] t)).cell? (Addr.add ⟨w.heap.size, 0, none⟩ j) = some u := by
  intro j u hj
  match j, hj with
  | 0, hj => simp at hj; subst hj; simp [Addr.add, go_sem]
set_option maxRecDepth 100000 in
set_option maxHeartbeats 4000000 in
theorem sMemKnows_any (m : Mem) (ks os : Value) (w : World) (hK : SRow w ks m.keys) (hO : MRow w os m.own) (hkm : ∀ x ∈ m.keys, x.size ≤ maxLen) (hom : ∀ o ∈ m.own, o.2.size ≤ maxLen) (him : m.init.size ≤ maxLen) (htm : m.tag.size ≤ maxLen) (hol : m.own.length ≤ 1000000) :
    Calls Tryz.prog 50 #[.agg (m.cells ks os)] w fun e w' => ∃ v, e = .returned v ∧ Own w.heap.size w' v (knowsOf (memOkS m) m) ∧ Below w.heap.size w w' := by
  obtain ⟨i0, hi, hz0, hz1, hz2⟩ := info_parts info_str2
  have hI := hide (And.intro hi (And.intro hz0 (And.intro hz1 hz2)))
  clear hi hz0 hz1 hz2
  have HCALL : Hid (∀ u : World, Below w.heap.size w u → Calls Tryz.prog 63 #[.agg (m.cells ks os)] u fun e w' => e = .returned (.bool (memOkS m)) ∧ Below u.heap.size u w') := fun u hu => sMemOk_any m ks os u (hK.below hu) (hO.below hu) hkm hom him htm
  obtain ⟨inn, who, keys, own, ep, init, tag⟩ := m
  simp only at hK hO hol HCALL ⊢
  have HO := hide hO
  obtain ⟨a1, p1, rfl, _, _, _⟩ := hK.form
  obtain ⟨a2, p2, rfl, g4, g5, _⟩ := hO
  unfold maxLen at g5
  clear hK hkm hom him htm
  obtain ⟨bo, hbo⟩ : ∃ bo, memOkS ⟨inn, who, keys, own, ep, init, tag⟩ = bo := ⟨_, rfl⟩
  rw [hbo] at HCALL ⊢
  clear hbo
  generalize keys.length = kl at *
  have A0 := hide ((Blk.new w 62 (memC inn who (.slice a1 kl p1) (.slice a2 own.length p2) ep init tag)).alloc (.cells #[] 9))
  have HB0 : Hid (Below w.heap.size w ((w.alloc (.cells (memC inn who (.slice a1 kl p1) (.slice a2 own.length p2) ep init tag) 62)).alloc (.cells #[] 9))) := ((Below.refl _ _).alloc (Nat.le_refl _) _).alloc (by simp) _
  have O0 : Hid (((w.alloc (.cells (memC inn who (.slice a1 kl p1) (.slice a2 own.length p2) ep init tag) 62)).alloc (.cells #[] 9)).ownsRow w.heap.size 9 1 (.slice (some ⟨w.heap.size + 1, 0, none⟩) 0 0) 0 []) := by
    have q := World.ownsRow_lit (base := w.heap.size) (e := 9) (size := 1) (w.alloc (.cells (memC inn who (.slice a1 kl p1) (.slice a2 own.length p2) ep init tag) 62)) #[] 0 (by simp) (by unfold maxLen; omega) rfl
    simp only [World.size_alloc] at q
    exact q
  have l1 := load_mm A0.out rfl
  go_enter Tryz.func50, Tryz.ntmps50
  go_wp2_with (refine wpList_load_whole rfl 62 _ rfl ⟨w.heap.size, 0, none⟩ rfl _ l1 ?_)
  refine (HCALL.out _ HB0.out).mono ?_
  rintro e w1 ⟨rfl, hb1⟩
  have A1 := A0.out.below hb1
  have HB1 := hide (HB0.out.trans (hb1.mono HB0.out.size))
  have O1 := hide (own_below' O0.out hb1)
  have c0 := A1.cell 0
  simp only [List.getElem?_toArray, List.getElem?_cons_zero] at c0
  clear hb1 A0 HB0 O0 l1
  cases bo with
  | false =>
    go_wp2_with fail
    go_ret
    exact ⟨_, rfl, unhide O1, unhide HB1⟩
  | true =>
    cases inn with
    | false =>
      go_wp2_with fail
      go_ret
      exact ⟨_, rfl, unhide O1, unhide HB1⟩
    | true =>
      clear HCALL
      go_wp2_with fail
      go_loopw [3, 4] (fun o i wr => ∃ j : Nat, j ≤ own.length ∧ i = .int .i64 (j : Int) ∧ (∃ oo oc, o = .slice oo j oc) ∧ Hid (wr.ownsRow w.heap.size 9 1 o j (ownV own j)) ∧ Blk wr w.heap.size 62 (memC true who (.slice a1 kl p1) (.slice a2 own.length p2) ep init tag) ∧ Hid (Below w.heap.size w wr)) (fun _ i _ => own.length - (intOf i).toNat)
      case atStart => exact ⟨0, by omega, rfl, ⟨_, _, rfl⟩, unhide O1, A1, HB1⟩
      case round =>
        clear O1 A1 HB1 c0
        obtain ⟨j, hj, rfl, ⟨oo, oc, rfl⟩, hR, a0, hL⟩ := hrel
        have c3 := a0.cell 3
        have c5 := a0.cell 5
        simp only [List.getElem?_toArray, List.getElem?_cons_succ, List.getElem?_cons_zero] at c3 c5
        have hle := hL.out.size
        by_cases hlt : j < own.length
        · have hlt2 : (j : Int) < (own.length : Int) := by omega
          have i3 : IntKind.i64.wrap ((j : Int) + 1) = (j : Int) + 1 := by simp [IntKind.wrap, IntKind.bits, IntKind.signed]; omega
          obtain ⟨ao', c1, q1, _, _, q2⟩ := (MRow.below HO.out hL.out).form
          simp only [Value.slice.injEq] at q1
          obtain ⟨rfl, _, rfl⟩ := q1
          obtain ⟨ax, rfl, hca, hcb⟩ := q2 j hlt
          clear q2
          have HTK : Hid (ownV own (j + 1) = ownV own j ++ [Value.string (own.getD j noMo).2]) := ownV_succ hlt
          generalize own.getD j noMo = y at *
          have A2 := hide a0
          go_wp2_with (at_builtin; refine wpList_append_own _ rfl _ _ 35 rfl w.heap.size 9 i0 (.string ⟨#[]⟩) 1 16 Tryz.underlying35 hI.out.1 hI.out.2.1 hI.out.2.2.1 hI.out.2.2.2 rfl (by decide) _ _ _ rfl (World.ownsRow.alloc hR.out _) ⟨wr.heap.size, 0, none⟩ 1 1 [.string y.2] rfl rfl (one_newS _ _ _) (by simp [Value.oneCell']) (by unfold maxLen; omega) (by omega) (by simp; omega) ?_)
          intro v' w3 hown' hgrow _
          have A3 := (A2.out.alloc (.cells #[.string y.2] 9)).kept hgrow (Blk.not_row (A2.out.alloc (.cells #[.string y.2] 9)) (by decide) (World.ownsRow.alloc hR.out (.cells #[.string y.2] 9)))
          have hB3 : Hid (Below w.heap.size w w3) := (hL.out.alloc hle _).grown hgrow (by simp; omega) (fun k hk => (World.ownsRow.lt hR.out k hk).1)
          obtain ⟨vo, vc, rfl⟩ := row_form' hown'
          have R3 : Hid (w3.ownsRow w.heap.size 9 1 (.slice vo (j + 1) vc) (j + 1) (ownV own (j + 1))) := by rw [HTK.out]; exact hown'
          clear hown' hgrow a0 hR A2 c3 c5 hL
          go_wp2_with fail
          go_roundw
          case rel => exact ⟨j + 1, by omega, by simp, ⟨_, _, rfl⟩, R3, A3, hB3⟩
          case measure => simp [intOf]; omega
        · have hlt2 : decide ((j : Int) < (own.length : Int)) = false := by simp; omega
          obtain rfl : j = own.length := by omega
          go_wp2_with (at_builtin; refine wpList_append_own _ rfl _ _ 35 rfl w.heap.size 9 i0 (.string ⟨#[]⟩) 1 16 Tryz.underlying35 hI.out.1 hI.out.2.1 hI.out.2.2.1 hI.out.2.2.2 rfl (by decide) _ _ _ rfl (World.ownsRow.alloc hR.out _) ⟨wr.heap.size, 0, none⟩ 1 1 [.string init] rfl rfl (one_newS _ _ _) (by simp [Value.oneCell']) (by unfold maxLen; omega) (by omega) (by simp; omega) ?_)
          intro v' w3 hown' hgrow _
          have hB3 : Hid (Below w.heap.size w w3) := (hL.out.alloc hle _).grown hgrow (by simp; omega) (fun k hk => (World.ownsRow.lt hR.out k hk).1)
          have R3 : Hid (Own w.heap.size w3 v' (own.map (·.2) ++ [init])) := by
            show Own _ _ _ _
            unfold Own
            rw [List.length_append, List.length_map, List.map_append, ← ownV_all]
            exact hown'
          clear hown' hgrow a0 hR c3 c5
          go_wp2_with fail
          go_ret
          exact ⟨_, rfl, unhide R3, unhide hB3⟩
theorem op_appAny {P : Program} {Q : Exit → Act → World → Prop} {a : Act} {w : World} {o : Oper} {K : Act → World → Prop} {t e : TypeId} {size bytes : Nat} (hr : RowT P t e size bytes) (B : Nat) (s x : Operand) (ho : o.op = .call { callee := .builtin .append, args := #[s, x], argTypes := #[t, t] }) (v : Value) (n : Nat) (xs : List Value) (hs : a.eval s = v) (hown : w.ownsRow B e size v n xs) (y : Value) (m : Nat) (news : List Value) (hx : a.eval x = y) (hy : (y = .slice Option.none 0 0 ∧ m = 0 ∧ news = []) ∨ ∃ ad c, y = .slice (some ad) m c ∧ news.length = m * size ∧ ∀ j u, news[j]? = some u → w.cell? (ad.add j) = some u) (h1 : ∀ u ∈ news, u.oneCell' = true) (h63 : n + m ≤ maxLen) (hbytes : (n + m) * bytes ≤ 140737488355328) (hbase : B ≤ w.heap.size) (k : ∀ v' w', w'.ownsRow B e size v' (n + m) (xs ++ news) → w.grownBy w' v.ownBlock → (v'.ownBlock = v.ownBlock ∨ v'.ownBlock = some w.heap.size) → K (a.put o.dst v') w') : o.wp P a w K Q := by
 rcases hy with ⟨rfl, rfl, rfl⟩ | ⟨ad, c, rfl, hl, hnews⟩
 · obtain ⟨i, z, r1, r2, r3, r4, r5, r6, r7⟩ := hr; subst r4; exact Go.Lib.wp_append_run w s x t t ho v (.slice Option.none 0 0) hs hx v w (run_append_owned_none _ B t o.type e i i.size r1 r2 v n xs hown) (k v w (by simpa using hown) (grownBy_refl w _) (.inl rfl))
 · exact op_appOwn hr B s x ho v n xs hs hown ad m c news hx hl hnews h1 h63 hbytes hbase k
theorem txt_all : ∀ xs : List ByteArray, ListR txtR xs (xs.map Value.string) | [] => rfl | x :: xs => ⟨[.string x], xs.map Value.string, rfl, rfl, txt_all xs⟩
theorem Rows.appSpy {X L : List Nat} {B : Nat} {w : World} {a b c d e f g h i j : Value} {W : Wld} (q : Rows X L B w (rowsOf a b c d e f g h i j W)) : ∃ cs, w.ownsRow B 9 1 e W.spy.length cs ∧ ∀ (xs : List ByteArray) (v : Value) (w' : World), w'.ownsRow B 9 1 v (W.spy.length + xs.length) (cs ++ xs.map Value.string) → w.grownBy w' e.ownBlock → (v.ownBlock = e.ownBlock ∨ v.ownBlock = some w.heap.size) → ∃ X', Rows X' L B w' (rowsOf a b c d v f g h i j { W with spy := W.spy ++ xs }) ∧ MoreX X X' w := by obtain ⟨cs, h1, h2⟩ := q.own _ (List.mem_of_getElem? (i := 4) rfl); refine ⟨cs, h1, fun xs v w' ho hg hat => ?_⟩; exact q.upd 4 (Nat.le_of_ble_eq_true rfl) ⟨9, 1, v, (W.spy ++ xs).length, fun _ _ => ListR txtR (W.spy ++ xs)⟩ hg (by show World.ownsRow _ _ _ _ _ (W.spy ++ xs).length _; rw [List.length_append]; exact ho) (stays_flat _ _) hat (fun _ _ => ListR.app h2 (txt_all xs))
theorem Rows.appStolen {X L : List Nat} {B : Nat} {w : World} {a b c d e f g h i j : Value} {W : Wld} (q : Rows X L B w (rowsOf a b c d e f g h i j W)) : ∃ cs, w.ownsRow B 105 2 f W.stolen.length cs ∧ ∀ (x : St) (v : Value) (w' : World), w'.ownsRow B 105 2 v (W.stolen.length + 1) (cs ++ [.int .i64 x.who, .string x.tag]) → w.grownBy w' f.ownBlock → (v.ownBlock = f.ownBlock ∨ v.ownBlock = some w.heap.size) → ∃ X', Rows X' L B w' (rowsOf a b c d e v g h i j { W with stolen := W.stolen ++ [x] }) ∧ MoreX X X' w := by obtain ⟨cs, h1, h2⟩ := q.own _ (List.mem_of_getElem? (i := 5) rfl); refine ⟨cs, h1, fun x v w' ho hg hat => ?_⟩; exact q.upd 5 (Nat.le_of_ble_eq_true rfl) ⟨105, 2, v, (W.stolen ++ [x]).length, fun _ _ => ListR stolR (W.stolen ++ [x])⟩ hg (by show World.ownsRow _ _ _ _ _ (W.stolen ++ [x]).length _; rw [List.length_append]; exact ho) (stays_flat _ _) hat (fun _ _ => ListR.app h2 (ListR.one rfl))
theorem Rows.appWaits {X L : List Nat} {B : Nat} {w : World} {a b c d e f g h i j : Value} {W : Wld} (q : Rows X L B w (rowsOf a b c d e f g h i j W)) : ∃ cs, w.ownsRow B 81 4 b W.waits.length cs ∧ ∀ (x : Wt) (v : Value) (w' : World), w'.ownsRow B 81 4 v (W.waits.length + 1) (cs ++ (wtC x.who x.pos x.leaf x.key).toList) → w.grownBy w' b.ownBlock → (v.ownBlock = b.ownBlock ∨ v.ownBlock = some w.heap.size) → ∃ X', Rows X' L B w' (rowsOf a v c d e f g h i j { W with waits := W.waits ++ [x] }) ∧ MoreX X X' w := by obtain ⟨cs, h1, h2⟩ := q.own _ (List.mem_of_getElem? (i := 1) rfl); refine ⟨cs, h1, fun x v w' ho hg hat => ?_⟩; exact q.upd 1 (Nat.le_of_ble_eq_true rfl) ⟨81, 4, v, (W.waits ++ [x]).length, fun _ _ => ListR waitR (W.waits ++ [x])⟩ hg (by show World.ownsRow _ _ _ _ _ (W.waits ++ [x]).length _; rw [List.length_append]; exact ho) (stays_flat _ _) hat (fun _ _ => ListR.app h2 (ListR.one rfl))
theorem Rows.appTold {X L : List Nat} {B : Nat} {w : World} {a b c d e f g h i j : Value} {W : Wld} (q : Rows X L B w (rowsOf a b c d e f g h i j W)) : ∃ cs, w.ownsRow B 116 2 j W.told.length cs ∧ ∀ (x : Td) (v : Value) (w' : World), w'.ownsRow B 116 2 v (W.told.length + 1) (cs ++ [.int .i64 x.who, .int .i64 x.pos]) → w.grownBy w' j.ownBlock → (v.ownBlock = j.ownBlock ∨ v.ownBlock = some w.heap.size) → ∃ X', Rows X' L B w' (rowsOf a b c d e f g h i v { W with told := W.told ++ [x] }) ∧ MoreX X X' w := by obtain ⟨cs, h1, h2⟩ := q.own _ (List.mem_of_getElem? (i := 9) rfl); refine ⟨cs, h1, fun x v w' ho hg hat => ?_⟩; exact q.upd 9 (Nat.le_of_ble_eq_true rfl) ⟨116, 2, v, (W.told ++ [x]).length, fun _ _ => ListR toldR (W.told ++ [x])⟩ hg (by show World.ownsRow _ _ _ _ _ (W.told ++ [x]).length _; rw [List.length_append]; exact ho) (stays_flat _ _) hat (fun _ _ => ListR.app h2 (ListR.one rfl))
theorem Rows.appLog {X L : List Nat} {B : Nat} {w : World} {a b c d e f g h i j : Value} {W : Wld} (q : Rows X L B w (rowsOf a b c d e f g h i j W)) : ∃ cs, w.ownsRow B 57 13 c W.log.length cs ∧ ∀ (x : Cmt) (ks bs v : Value) (w' : World), SRow w ks x.keys → RowR w bs x.boxes.length (bcells x.boxes) → InX X w ks → InX X w bs → w'.ownsRow B 57 13 v (W.log.length + 1) (cs ++ (x.cells ks bs).toList) → w.grownBy w' c.ownBlock → (v.ownBlock = c.ownBlock ∨ v.ownBlock = some w.heap.size) → ∃ X', Rows X' L B w' (rowsOf a b v d e f g h i j { W with log := W.log ++ [x] }) ∧ MoreX X X' w := by obtain ⟨cs, h1, h2⟩ := q.own _ (List.mem_of_getElem? (i := 2) rfl); refine ⟨cs, h1, fun x ks bs v w' p1 p2 p3 p4 ho hg hat => ?_⟩; have hkx : KeepX X w w' := KeepX.grown hg (fun z hz => q.inx _ (List.mem_of_getElem? (i := 2) rfl) z hz); exact q.upd 2 (Nat.le_of_ble_eq_true rfl) ⟨57, 13, v, (W.log ++ [x]).length, fun X w => ListR (cmtR X w) (W.log ++ [x])⟩ hg (by show World.ownsRow _ _ _ _ _ (W.log ++ [x]).length _; rw [List.length_append]; exact ho) (stays_cmt _) hat (fun X' hm => ListR.app (ListR.mono (cmtR.keep hkx hm) h2) (ListR.one ⟨ks, bs, rfl, p1.keepX p3 hkx, p2.keepX p4 hkx, p3.keep hkx hm, p4.keep hkx hm⟩))
def stealW (W : Wld) (k : Nat) : Wld := if (W.seats.getD k Mem.none).inn = false ∨ W.stolen.length = 12 then W else { W with spy := W.spy ++ knowsOf (memOkS (W.seats.getD k Mem.none)) (W.seats.getD k Mem.none), stolen := W.stolen ++ [⟨k, (W.seats.getD k Mem.none).tag⟩] }
theorem stealW_eq (W : Wld) (k : Nat) : stealW W k = if (W.seats.getD k Mem.none).inn = false ∨ W.stolen.length = 12 then W else { W with spy := W.spy ++ knowsOf (memOkS (W.seats.getD k Mem.none)) (W.seats.getD k Mem.none), stolen := W.stolen ++ [⟨k, (W.seats.getD k Mem.none).tag⟩] } := rfl
theorem keepL_cell {L : List Nat} {u u' : World} (h : KeepL L u u') {g i : Nat} (hg : g ∈ L) : u'.cell? ⟨g, i, Option.none⟩ = u.cell? ⟨g, i, Option.none⟩ := World.cell?_of_block (w := u) (h g hg)
theorem keepL_any {L : List Nat} {u u' : World} {z : Option Nat} (h : u.grownBy u' z) (hl : ∀ x ∈ L, x < u.heap.size ∧ some x ≠ z) : KeepL L u u' := fun x hx => h.block x (hl x hx).1 (hl x hx).2
theorem rowT_stl : RowT Tryz.prog 36 105 2 24 := rowT_of (show Tryz.prog.underlying 36 = some (.slice 105) by kernel_rfl) (show (Tryz.prog.info? 105).map (fun i => (i.zero, i.size, i.bytes)) = some (some (.agg #[.int .i64 0, .string ⟨#[]⟩]), 2, 24) by kernel_rfl) rfl (by decide)
theorem rows_apart {X L : List Nat} {B : Nat} {w : World} {rs : List RowD} (q : Rows X L B w rs) (i j : Nat) (hij : i < j) {r r' : RowD} {g : Nat} (hi : rs[i]? = some r) (hj : rs[j]? = some r') (hr : r.v.ownBlock = some g) : some g ≠ r'.v.ownBlock := by
 obtain ⟨h1, rfl⟩ := List.getElem?_eq_some_iff.1 hi; obtain ⟨h2, rfl⟩ := List.getElem?_eq_some_iff.1 hj; rcases List.pairwise_iff_getElem.1 q.apart i j h1 h2 hij with e | e
 · rw [e] at hr; cases hr
 · rw [← hr]; exact e
theorem Rows.setFresh {X L : List Nat} {B : Nat} {w : World} {a b c d e f g h i j : Value} {W : Wld} (q : Rows X L B w (rowsOf a b c d e f g h i j W)) (k : Nat) (hk : k < W.fresh.length) : ∃ (gd cd : Nat), d = .slice (some ⟨gd, 0, Option.none⟩) W.fresh.length cd ∧ w.cell? ⟨gd, k, Option.none⟩ = some (.int .i64 W.fresh[k]) ∧ w.frozen? ⟨gd, k, Option.none⟩ = false ∧ B ≤ gd ∧ ∀ n : Int, w.grownBy (w.setCell ⟨gd, k, Option.none⟩ (.int .i64 n)) (some gd) ∧ ∃ X', Rows X' L B (w.setCell ⟨gd, k, Option.none⟩ (.int .i64 n)) (rowsOf a b c d e f g h i j { W with fresh := W.fresh.set k n }) ∧ MoreX X X' w := by
 obtain ⟨cs, h1, h2⟩ := q.own _ (List.mem_of_getElem? (i := 3) rfl); obtain ⟨gd, cd, e1, hb, _, _, _⟩ := row_some h1 (by show 0 < W.fresh.length; omega); have e1' : d = .slice (some ⟨gd, 0, Option.none⟩) W.fresh.length cd := e1; subst e1'; have h1' : w.ownsRow B 3 1 (.slice (some ⟨gd, 0, Option.none⟩) W.fresh.length cd) W.fresh.length cs := h1; obtain ⟨x, p1, p3⟩ := ListR.get intR.len k hk h2; have p1' : x = [.int .i64 W.fresh[k]] := p1; subst p1'; refine ⟨gd, cd, rfl, ?_, h1'.frozenAt k, hb, fun n => ?_⟩
 · rw [h1'.cellAt k (by omega)]; have := p3 0 _ rfl; rw [Nat.mul_one, Nat.add_zero] at this; exact this
 · obtain ⟨s1, s2⟩ := h1'.stored k (.int .i64 n); refine ⟨s2, ?_⟩; have hs := ListR.set intR.len (d := [.int .i64 n]) (b := n) rfl k hk h2; have hcl : cs.length = W.fresh.length * 1 := ListR.len intR.len h2; (have es : cs.set k (.int .i64 n) = cs.take (k * 1) ++ [.int .i64 n] ++ cs.drop (k * 1 + 1) := by rw [Nat.mul_one, List.set_eq_take_append_cons_drop, if_pos (by omega)]; simp); rw [es] at s1; exact q.upd 3 (Nat.le_of_ble_eq_true rfl) ⟨3, 1, _, (W.fresh.set k n).length, fun _ _ => ListR intR (W.fresh.set k n)⟩ s2 (by show World.ownsRow _ _ _ _ _ (W.fresh.set k n).length _; rw [List.length_set]; exact s1) (stays_flat _ _) (.inl rfl) (fun _ _ => hs)
theorem Rows.freshAt {X L : List Nat} {B : Nat} {w : World} {a b c e f g h i j : Value} {W : Wld} {gd n cd : Nat} (q : Rows X L B w (rowsOf a b c (.slice (some ⟨gd, 0, Option.none⟩) n cd) e f g h i j W)) {k : Nat} (hk : k < W.fresh.length) {x : Int} (hx : W.fresh.getD k 0 = x) : w.cell? ⟨gd, k, Option.none⟩ = some (.int .i64 x) := by obtain ⟨g2, c2, e1, h2, _, _, _⟩ := q.setFresh k hk; simp only [Value.slice.injEq, Option.some.injEq, Addr.mk.injEq, and_true] at e1; obtain ⟨rfl, _, _⟩ := e1; rw [h2, ← hx, getD_at2 _ hk]
theorem Rows.waitAt {X L : List Nat} {B : Nat} {w : World} {a c d e f g h i j : Value} {W : Wld} {gb n cb : Nat} (q : Rows X L B w (rowsOf a (.slice (some ⟨gb, 0, Option.none⟩) n cb) c d e f g h i j W)) (k : Nat) (hk : k < W.waits.length) : ∀ n u, (wtC W.waits[k].who W.waits[k].pos W.waits[k].leaf W.waits[k].key)[n]? = some u → w.cell? ⟨gb, k * 4 + n, Option.none⟩ = some u := by obtain ⟨cs, h1, h2⟩ := q.own _ (List.mem_of_getElem? (i := 1) rfl); obtain ⟨x, p1, p3⟩ := ListR.get waitR.len k hk h2; have p1' : x = (wtC W.waits[k].who W.waits[k].pos W.waits[k].leaf W.waits[k].key).toList := p1; subst p1'; intro n u hn; have p4 := World.ownsRow.cells h1 (g := gb) rfl (k * 4 + n) u (p3 n u (by simpa using hn)); rw [Addr.add_lit, Nat.zero_add] at p4; exact p4
theorem Rows.frameAt {X L : List Nat} {B : Nat} {w : World} {a b c d e f h i j : Value} {W : Wld} {gg n cg : Nat} (q : Rows X L B w (rowsOf a b c d e f (.slice (some ⟨gg, 0, Option.none⟩) n cg) h i j W)) (k : Nat) (hk : k < W.frames.length) : ∀ n u, (W.frames[k].cells)[n]? = some u → w.cell? ⟨gg, k * 4 + n, Option.none⟩ = some u := by obtain ⟨cs, h1, h2⟩ := q.own _ (List.mem_of_getElem? (i := 6) rfl); obtain ⟨x, p1, p3⟩ := ListR.get fraR.len k hk h2; have p1' : x = (W.frames[k].cells).toList := p1; subst p1'; intro n u hn; have p4 := World.ownsRow.cells h1 (g := gg) rfl (k * 4 + n) u (p3 n u (by simpa using hn)); rw [Addr.add_lit, Nat.zero_add] at p4; exact p4
theorem Rows.winsAt {X L : List Nat} {B : Nat} {w : World} {a b c d e f g h j : Value} {W : Wld} {gi n ci : Nat} (q : Rows X L B w (rowsOf a b c d e f g h (.slice (some ⟨gi, 0, Option.none⟩) n ci) j W)) (k : Nat) (hk : k < W.wins.length) : ∃ v, w.cell? ⟨gi, k, Option.none⟩ = some v ∧ InX X w v ∧ ∃ cs, RowR w v W.wins[k].length cs ∧ ListR (winR X w) W.wins[k] cs := by obtain ⟨cs, h1, h2⟩ := q.own _ (List.mem_of_getElem? (i := 8) rfl); obtain ⟨x, ⟨v, ds, rfl, p1, p2, p3⟩, p4⟩ := ListR.get winsR.len k hk h2; have p5 := World.ownsRow.cells h1 (g := gi) rfl (k * 1 + 0) v (p4 0 v rfl); rw [Addr.add_lit, Nat.zero_add, Nat.mul_one, Nat.add_zero] at p5; exact ⟨v, p5, p3, ds, p1, p2⟩
theorem Rows.setWins {X L : List Nat} {B : Nat} {w : World} {a b c d e f g h j : Value} {W : Wld} {gi n ci : Nat} (q : Rows X L B w (rowsOf a b c d e f g h (.slice (some ⟨gi, 0, Option.none⟩) n ci) j W)) (k : Nat) (hk : k < W.wins.length) (hn : n = W.wins.length) : w.frozen? ⟨gi, k, Option.none⟩ = false ∧ B ≤ gi ∧ ∀ (l : List Win) (v : Value) (cs : List Value), RowR w v l.length cs → ListR (winR X w) l cs → InX X w v → w.grownBy (w.setCell ⟨gi, k, Option.none⟩ v) (some gi) ∧ ∃ X', Rows X' L B (w.setCell ⟨gi, k, Option.none⟩ v) (rowsOf a b c d e f g h (.slice (some ⟨gi, 0, Option.none⟩) n ci) j { W with wins := W.wins.set k l }) ∧ MoreX X X' w := by subst hn; obtain ⟨ds, h1, h2⟩ := q.own _ (List.mem_of_getElem? (i := 8) rfl); have h1' : w.ownsRow B 79 1 (.slice (some ⟨gi, 0, Option.none⟩) W.wins.length ci) W.wins.length ds := h1; have hin : gi ∈ X := q.inx _ (List.mem_of_getElem? (i := 8) rfl) gi rfl; refine ⟨h1'.frozenAt k, (h1'.lt gi rfl).1, fun l v cs p1 p2 p3 => ?_⟩; obtain ⟨s1, s2⟩ := h1'.stored k v; refine ⟨s2, ?_⟩; have hkx : KeepX X w (w.setCell ⟨gi, k, Option.none⟩ v) := KeepX.grown s2 (fun z hz => by cases hz; exact hin); have hcl : ds.length = W.wins.length * 1 := ListR.len winsR.len h2; (have es : ds.set k v = ds.take (k * 1) ++ [v] ++ ds.drop (k * 1 + 1) := by rw [Nat.mul_one, List.set_eq_take_append_cons_drop, if_pos (by omega)]; simp); rw [es] at s1; exact q.upd 8 (Nat.le_of_ble_eq_true rfl) ⟨79, 1, _, (W.wins.set k l).length, fun X w => ListR (winsR X w) (W.wins.set k l)⟩ s2 (by show World.ownsRow _ _ _ _ _ (W.wins.set k l).length _; rw [List.length_set]; exact s1) (stays_wins _) (.inl rfl) (fun X' hm => ListR.set winsR.len (d := [v]) ⟨v, cs, rfl, p1.keepX p3 hkx, p2.mono (winR.keep hkx hm), p3.keep hkx hm⟩ k hk (ListR.mono (winsR.keep hkx hm) h2))
theorem one_wel (a b c d e : ByteArray) : (#[Value.string a, Value.string b, Value.string c, Value.string d, Value.string e] : Array Value).all (·.oneCell') = true := by simp [Value.oneCell']
set_option maxRecDepth 100000 in
set_option maxHeartbeats 8000000 in
theorem l4Commit_any (m : Mem) (ks os : Value) (fresh : ByteArray) (add rem : Int) (leaf key : ByteArray) (w : World) (hK : SRow w ks m.keys) (hO : MRow w os m.own) (hl : m.keys.length = 15) (hwho : 0 ≤ m.who ∧ m.who ≤ 7) (hadd : -1 ≤ add ∧ add ≤ 7) (hrem : -1 ≤ rem ∧ rem ≤ 7) (hf : fresh.size ≤ 300) (hin : m.init.size ≤ 300) (htag : m.tag.size + fresh.size ≤ 300) (hep : 0 ≤ m.ep ∧ m.ep ≤ 12) : Calls Tryz.prog 66 #[.agg (m.cells ks os), .string fresh, .int .i64 add, .int .i64 rem, .string leaf, .string key] w fun e w' => ∃ ks1 os1 ks2 bs2, e = .returned (.tuple #[.agg ((commitM m fresh add rem leaf).cells ks1 os1), .agg ((commitC m fresh add rem leaf key).cells ks2 bs2)]) ∧ Own w.heap.size w' ks1 (commitM m fresh add rem leaf).keys ∧ OwnM w.heap.size w' os1 (commitM m fresh add rem leaf).own ∧ Own w.heap.size w' ks2 (commitC m fresh add rem leaf key).keys ∧ OwnB w.heap.size w' bs2 (commitC m fresh add rem leaf key).boxes ∧ Below w.heap.size w w' := by
 obtain ⟨inn, who, keys, own, ep, init, tag⟩ := m; simp only at hK hO hl hwho hin htag hep; obtain ⟨OW, hOW⟩ : ∃ x, pathU who fresh = x := ⟨_, rfl⟩; obtain ⟨BK, hBK⟩ : ∃ x, baseK keys add rem leaf = x := ⟨_, rfl⟩; obtain ⟨TK, hTK⟩ : ∃ x, setKeys BK who.toNat fresh = x := ⟨_, rfl⟩; obtain ⟨IN, hIN⟩ : ∃ x, mkEpoch init (mkNext (lastS OW)) = x := ⟨_, rfl⟩; obtain ⟨SW, hSW⟩ : ∃ x, secAt OW (meetOf (leafOf add) (leafOf who)) = x := ⟨_, rfl⟩; (have HEM : Hid (commitM ⟨inn, who, keys, own, ep, init, tag⟩ fresh add rem leaf = ⟨true, who, TK, OW, ep + 1, IN, tag ++ fresh⟩) := by show _ = _; unfold commitM; simp only; rw [hOW, hBK, hTK, hIN]); (have HEN : Hid (add < 0 → commitC ⟨inn, who, keys, own, ep, init, tag⟩ fresh add rem leaf key = ⟨who, tag, fresh, add, rem, leaf, TK, boxesTo BK OW add 3, Wel.none⟩) := by intro ha; have h4 := pathU_len hwho fresh; unfold commitC commitW; simp only; rw [hOW] at h4 ⊢; rw [hBK, hTK, if_pos ha, h4]); (have HEY : Hid (¬ add < 0 → commitC ⟨inn, who, keys, own, ep, init, tag⟩ fresh add rem leaf key = ⟨who, tag, fresh, add, rem, leaf, TK, boxesTo BK OW add 3, ⟨key, key, IN, key, SW⟩⟩) := by intro ha; have h4 := pathU_len hwho fresh; have hem := HEM.out; unfold commitC commitW; simp only; rw [hem]; simp only; rw [hOW] at h4 ⊢; rw [hBK, hTK, if_neg ha, h4, hSW]); (have HL4 : Hid (OW.length = 4) := by show _ = _; rw [← hOW]; exact pathU_len hwho fresh); (have HPL : Hid (∀ k, k + 1 < OW.length → 1 ≤ (OW.getD k noMo).1 ∧ (OW.getD k noMo).1 ≤ 14) := by rw [← hOW]; exact pathU_place hwho fresh); have HPS : Hid ((lastS OW).size ≤ 300) := lastS_size (by rw [← hOW]; exact pathU_size hf); (have HL7 : Hid ((mcells OW)[7]? = some (.string (lastS OW))) := by have := (mcells_get OW 3 (by rw [HL4.out]; decide)).2; show _ = _; unfold lastS; rw [HL4.out]; exact this); (have HBL : Hid (BK.length = 15) := by show _ = _; rw [← hBK]; exact baseK_len hl _ _ _); (have HTL : Hid (TK.length = 15) := by show _ = _; rw [← hTK, setKeys_len]; exact HBL.out); obtain ⟨kw, hkw, hkw8⟩ : ∃ k : Nat, who = (k : Int) ∧ k < 8 := ⟨who.toNat, by omega, by omega⟩; have HKW : Hid (who = (kw : Int) ∧ kw < 8 ∧ who.toNat = kw) := ⟨hkw, hkw8, by omega⟩; (have HLF : Hid (leafOf who = ((7 + kw : Nat) : Int)) := by show _ = _; rw [leaf_in hwho.1 hwho.2, hkw]; omega); (have HOW : Hid (pathOf (chainOf ((7 + kw : Nat) : Int)) fresh = OW) := by show _ = _; rw [← hOW, ← HLF.out]; rfl); have HAD := hide hadd; have HRM := hide hrem; have HF := hide hf; have HI := hide hin; have HTG := hide htag; have HEP := hide hep; have HBK := hide hBK; have HTK := hide hTK; have HIN := hide hIN; have HSW := hide hSW; obtain ⟨a1, p1, rfl, _, _, _⟩ := hK.form; obtain ⟨a2, p2, rfl, _, _, _⟩ := id hO; rw [hl] at hK; have HK := hide hK; have HKL := hide hl; simp only [hl] at HK ⊢; clear hK hO hadd hrem hf hin htag hep hBK hTK hIN hOW hSW hkw hkw8 hwho hl; generalize own.length = n2 at *; have HB : Hid (Below w.heap.size w w) := Below.refl _ _; have HN : Hid (True) := trivial; go_enter Tryz.func66, Tryz.ntmps66; (repeat ((fail_if_success (refine pl_id ?_)); go_step)); refine w_i ?_; refine w_a (memC inn who (.slice a1 15 p1) (.slice a2 n2 p2) ep init tag) 62 (fun bM wc M hb hbn => ?_); refine cy2 HB HN ?_; (try clear HB HN); intro HB HN; clear hb hbn; refine w_a noMem 62 (fun bR1 wc R1 hb hbn => ?_); refine cy3 M HB HN ?_; (try clear M HB HN); intro M HB HN; clear hb hbn; refine w_a noCmt 57 (fun bR2 wc R2 hb hbn => ?_); refine cy4 M R1 HB HN ?_; (try clear M R1 HB HN); intro M R1 HB HN; clear hb hbn; refine w_e ?_; repeat ((fail_if_success (refine pl_id ?_)); go_step)
 refine w_i ?_; refine w_q ?_; refine w_b M 2 ?_; refine w_k (l3Copy_any _ keys _ (HK.out.below HB.out) (by have := HKL.out; omega)) ?_; rintro e wc ⟨u, rfl, ho, hb⟩; unfold Own at ho; rw [HKL.out] at ho; obtain ⟨g1, c1, rfl, hg1, hg1l, _, _⟩ := row15 ho; have K1 := hide (row_lowB ho HB.out.size); refine s_k ?_; refine cy3 M R1 R2 ?_; (try clear M R1 R2); intro M R1 R2; have hsz := hb.size; have hsz2 := HB.out.size; replace HN := hide (And.intro HN.out (And.intro hsz (And.intro hg1 hg1l))); clear hsz hsz2; refine cy1 HB ?_; (try clear HB); intro HB; clear hb ho hg1 hg1l; (iterate 3 refine w_q ?_); refine w_k (l4Base_any w.heap.size g1 c1 keys HKL.out add rem leaf HAD.out HRM.out _ K1.out) ?_; rintro e wc ⟨rfl, ho, hg⟩; refine s_k ?_; replace K1 := hide ho; clear ho; refine gy3 M R1 R2 ?_; (try clear M R1 R2); intro M R1 R2; have hsz := hg.size; replace HB := hide (below_grown HB.out hg HB.out.size (by have q := HN.out; omega)); replace HN := hide (And.intro HN.out hsz); clear hsz hg; refine w_a #[.slice none 0 0] 59 (fun bTB wc TB hb hbn => ?_); refine cy6 M R1 R2 K1 HB HN ?_; (try clear M R1 R2 K1 HB HN); intro M R1 R2 K1 HB HN; clear hb hbn; refine w_s TB #[.slice (some ⟨g1, 0, none⟩) 15 c1] ?_; (try clear TB); intro wc OLD TB hg hs; refine gy6 M R1 R2 K1 HB HN ?_; (try clear M R1 R2 K1 HB HN); intro M R1 R2 K1 HB HN; clear hg hs OLD; refine w_e ?_; rw [HBK.out] at K1; (repeat ((fail_if_success (refine pl_id ?_)); go_step)); refine w_i ?_; refine w_q ?_; refine w_b M 1 ?_; refine w_k (sTreLeaf_any who _) ?_; rw [HLF.out]; rintro e wz ⟨rfl, hz⟩; replace hz := hz.symm; subst hz; refine s_k ?_; refine w_q ?_; refine w_k (l4Path_any (7 + kw) (by have := HKW.out; omega) fresh HF.out _) ?_; rw [HOW.out]; rintro e wc ⟨pv, rfl, ho, hb⟩; unfold OwnM at ho; rw [HL4.out] at ho; obtain ⟨g2, c2, rfl, hg2, hg2l, _, _⟩ := row_some ho (by decide); have K2 := hide (row_lowB ho HB.out.size); refine s_k ?_; refine cy5 M R1 R2 TB K1 ?_; (try clear M R1 R2 TB K1); intro M R1 R2 TB K1; have hsz := hb.size; have hsz2 := HB.out.size; replace HN := hide (And.intro HN.out (And.intro hsz (And.intro hg2 hg2l))); clear hsz hsz2; refine cy1 HB ?_; (try clear HB); intro HB; clear hb ho hg2 hg2l; refine w_q ?_; refine w_e ?_; obtain ⟨B3, hB3⟩ : ∃ n, n = wc.heap.size := ⟨_, rfl⟩; have hsz := hB3; have hsz2 := HB.out.size; (replace HN : Hid (w.heap.size ≤ bM ∧ bM < bR1 ∧ bR1 < bR2 ∧ bR2 < g1 ∧ g1 < bTB ∧ bTB < g2 ∧ g2 < B3 ∧ B3 ≤ wc.heap.size) := by have q := HN.out; have q2 := hsz; have q3 := hsz2; refine hide ?_; omega); clear hsz hsz2 hB3; (repeat go_step); apply join3 (α0 := Nat) (α1 := Nat) (α2 := Nat)
 · skip; refine r_g (Below (B3)) (fun wc hb hsq => ?_); clear hsq; refine cy8 M R1 R2 TB K1 K2 HB HN ?_; (try clear M R1 R2 TB K1 K2 HB HN); intro M R1 R2 TB K1 K2 HB HN; clear hb; refine r_b 0 TB 0 ?_; refine r_q 2 ?_; refine r_b 3 M 1 ?_; refine r_q 4 ?_; refine r_2 1 6 (fun K hK => ?_) (fun K hK => ?_)
   · go_simp; refine (l3Copy_any _ BK _ (srow_of K1.out HBL.out) (by have := HBL.out; omega)).mono ?_; rintro e wc ⟨u, rfl, ho, hb⟩; unfold Own at ho; rw [HBL.out] at ho; obtain ⟨g3, c3, rfl, hg3, hg3l, _, _⟩ := row15 ho; have K3 := hide (row_lowB ho HB.out.size); go_simp; refine sr hK ?_; clear hK; refine cy6 M R1 R2 TB K1 K2 ?_; (try clear M R1 R2 TB K1 K2); intro M R1 R2 TB K1 K2; have hsz := hb.size; have hsz2 := HB.out.size; replace HN := hide (And.intro HN.out (And.intro hsz (And.intro hg3 hg3l))); clear hsz hsz2; refine cy1 HB ?_; (try clear HB); intro HB; clear hb ho hg3 hg3l; refine r_2 5 6 (fun K hK => ?_) (fun K hK => ?_)
     · go_simp; have hst := l3Set_any w.heap.size g3 c3 BK HBL.out kw HKW.out.2.1 fresh HF.out _ K3.out; rw [← HKW.out.1] at hst; refine (hst).mono ?_; rintro e wc ⟨rfl, ho, hg⟩; go_simp; refine sr hK ?_ (r := ((Below.refl _ _).grown hg (by have q := HN.out; omega) (fun k hk => by cases hk; have q := HN.out; omega))); clear hK; replace K3 := hide ho; clear ho; refine gy4 M R1 R2 TB ?_; (try clear M R1 R2 TB); intro M R1 R2 TB; replace K1 := hide (row_kept K1.out hg (by have q := HN.out; omega)); replace K2 := hide (row_kept K2.out hg (by have q := HN.out; omega)); have hsz := hg.size; replace HB := hide (below_grown HB.out hg HB.out.size (by have q := HN.out; omega)); replace HN := hide (And.intro HN.out hsz); clear hsz hg; refine r_1 6 (fun K hK => ?_); refine op_al #[.slice none 0 0] 59 (fun bTB2 wc TB2 hb hbn => ?_); refine sr hK ?_; clear hK; refine cy9 M R1 R2 TB K1 K2 K3 HB HN ?_; (try clear M R1 R2 TB K1 K2 K3 HB HN); intro M R1 R2 TB K1 K2 K3 HB HN; clear hb hbn; refine r_l 7 (fun K hK => ?_); refine op_rw TB2 #[.slice (some ⟨g3, 0, none⟩) 15 c3] ?_; (try clear TB2); intro wc OLD TB2 hg hs; refine sh hK ?_; clear hK; refine gy9 M R1 R2 TB K1 K2 K3 HB HN ?_; (try clear M R1 R2 TB K1 K2 K3 HB HN); intro M R1 R2 TB K1 K2 K3 HB HN; clear hg hs OLD; (replace HN : Hid (w.heap.size ≤ bM ∧ bM < bR1 ∧ bR1 < bR2 ∧ bR2 < g1 ∧ g1 < bTB ∧ bTB < g2 ∧ g2 < B3 ∧ B3 ≤ g3 ∧ B3 ≤ bTB2 ∧ g3 < wc.heap.size ∧ bTB2 < wc.heap.size ∧ g3 ≠ bTB2) := by have q := HN.out; refine hide ?_; omega); exact jq3 (x0 := g3) (x1 := c3) (x2 := bTB2) rfl (aj M (aj R1 (aj R2 (aj TB (aj TB2 (aj K1 (aj K2 (aj K3 (aj HN HB)))))))))
     · refine op_al #[.slice none 0 0] 59 (fun bTB2 wc TB2 hb hbn => ?_); refine sr hK ?_; clear hK; refine cy9 M R1 R2 TB K1 K2 K3 HB HN ?_; (try clear M R1 R2 TB K1 K2 K3 HB HN); intro M R1 R2 TB K1 K2 K3 HB HN; clear hb hbn; refine r_1 5 (fun K hK => ?_); go_simp; have hst := l3Set_any w.heap.size g3 c3 BK HBL.out kw HKW.out.2.1 fresh HF.out _ K3.out; rw [← HKW.out.1] at hst; refine (hst).mono ?_; rintro e wc ⟨rfl, ho, hg⟩; go_simp; refine sr hK ?_ (r := ((Below.refl _ _).grown hg (by have q := HN.out; omega) (fun k hk => by cases hk; have q := HN.out; omega))); clear hK; replace K3 := hide ho; clear ho; refine gy5 M R1 R2 TB TB2 ?_; (try clear M R1 R2 TB TB2); intro M R1 R2 TB TB2; replace K1 := hide (row_kept K1.out hg (by have q := HN.out; omega)); replace K2 := hide (row_kept K2.out hg (by have q := HN.out; omega)); have hsz := hg.size; replace HB := hide (below_grown HB.out hg HB.out.size (by have q := HN.out; omega)); replace HN := hide (And.intro HN.out hsz); clear hsz hg; refine r_l 7 (fun K hK => ?_); refine op_rw TB2 #[.slice (some ⟨g3, 0, none⟩) 15 c3] ?_; (try clear TB2); intro wc OLD TB2 hg hs; refine sh hK ?_; clear hK; refine gy9 M R1 R2 TB K1 K2 K3 HB HN ?_; (try clear M R1 R2 TB K1 K2 K3 HB HN); intro M R1 R2 TB K1 K2 K3 HB HN; clear hg hs OLD; (replace HN : Hid (w.heap.size ≤ bM ∧ bM < bR1 ∧ bR1 < bR2 ∧ bR2 < g1 ∧ g1 < bTB ∧ bTB < g2 ∧ g2 < B3 ∧ B3 ≤ g3 ∧ B3 ≤ bTB2 ∧ g3 < wc.heap.size ∧ bTB2 < wc.heap.size ∧ g3 ≠ bTB2) := by have q := HN.out; refine hide ?_; omega); exact jq3 (x0 := g3) (x1 := c3) (x2 := bTB2) rfl (aj M (aj R1 (aj R2 (aj TB (aj TB2 (aj K1 (aj K2 (aj K3 (aj HN HB)))))))))
   · refine op_al #[.slice none 0 0] 59 (fun bTB2 wc TB2 hb hbn => ?_); refine sr hK ?_; clear hK; refine cy8 M R1 R2 TB K1 K2 HB HN ?_; (try clear M R1 R2 TB K1 K2 HB HN); intro M R1 R2 TB K1 K2 HB HN; clear hb hbn; refine r_k 1 (l3Copy_any _ BK _ (srow_of K1.out HBL.out) (by have := HBL.out; omega)) ?_; rintro e wc ⟨u, rfl, ho, hb⟩; unfold Own at ho; rw [HBL.out] at ho; obtain ⟨g3, c3, rfl, hg3, hg3l, _, _⟩ := row15 ho; have K3 := hide (row_lowB ho HB.out.size); refine s_r ?_; refine cy7 M R1 R2 TB TB2 K1 K2 ?_; (try clear M R1 R2 TB TB2 K1 K2); intro M R1 R2 TB TB2 K1 K2; have hsz := hb.size; have hsz2 := HB.out.size; replace HN := hide (And.intro HN.out (And.intro hsz (And.intro hg3 hg3l))); clear hsz hsz2; refine cy1 HB ?_; (try clear HB); intro HB; clear hb ho hg3 hg3l; refine r_1 5 (fun K hK => ?_); go_simp; have hst := l3Set_any w.heap.size g3 c3 BK HBL.out kw HKW.out.2.1 fresh HF.out _ K3.out; rw [← HKW.out.1] at hst; refine (hst).mono ?_; rintro e wc ⟨rfl, ho, hg⟩; go_simp; refine sr hK ?_ (r := ((Below.refl _ _).grown hg (by have q := HN.out; omega) (fun k hk => by cases hk; have q := HN.out; omega))); clear hK; replace K3 := hide ho; clear ho; refine gy5 M R1 R2 TB TB2 ?_; (try clear M R1 R2 TB TB2); intro M R1 R2 TB TB2; replace K1 := hide (row_kept K1.out hg (by have q := HN.out; omega)); replace K2 := hide (row_kept K2.out hg (by have q := HN.out; omega)); have hsz := hg.size; replace HB := hide (below_grown HB.out hg HB.out.size (by have q := HN.out; omega)); replace HN := hide (And.intro HN.out hsz); clear hsz hg; refine r_l 7 (fun K hK => ?_); refine op_rw TB2 #[.slice (some ⟨g3, 0, none⟩) 15 c3] ?_; (try clear TB2); intro wc OLD TB2 hg hs; refine sh hK ?_; clear hK; refine gy9 M R1 R2 TB K1 K2 K3 HB HN ?_; (try clear M R1 R2 TB K1 K2 K3 HB HN); intro M R1 R2 TB K1 K2 K3 HB HN; clear hg hs OLD; (replace HN : Hid (w.heap.size ≤ bM ∧ bM < bR1 ∧ bR1 < bR2 ∧ bR2 < g1 ∧ g1 < bTB ∧ bTB < g2 ∧ g2 < B3 ∧ B3 ≤ g3 ∧ B3 ≤ bTB2 ∧ g3 < wc.heap.size ∧ bTB2 < wc.heap.size ∧ g3 ≠ bTB2) := by have q := HN.out; refine hide ?_; omega); exact jq3 (x0 := g3) (x1 := c3) (x2 := bTB2) rfl (aj M (aj R1 (aj R2 (aj TB (aj TB2 (aj K1 (aj K2 (aj K3 (aj HN HB)))))))))
 rintro g3 c3 bTB2 wc ⟨M, R1, R2, TB, TB2, K1, K2, K3, HN, HB⟩; (replace HN : Hid (w.heap.size ≤ bM ∧ bM < bR1 ∧ bR1 < bR2 ∧ bR2 < g1 ∧ g1 < bTB ∧ bTB < g2 ∧ g2 < g3 ∧ g2 < bTB2 ∧ g3 < wc.heap.size ∧ bTB2 < wc.heap.size ∧ g3 ≠ bTB2) := by have q := HN.out; refine hide ?_; omega); rw [← HKW.out.2.2, HTK.out] at K3; (have i9 : IntKind.i64.wrap (ep + 1) = ep + 1 := by have := HEP.out; simp [IntKind.wrap, IntKind.bits, IntKind.signed]; omega); (repeat go_step); apply join1 (α0 := Nat)
 · skip; refine r_g (Later) (fun wc hb hsq => ?_); clear hsq; refine cy10 M R1 R2 TB TB2 K1 K2 K3 HB HN ?_; (try clear M R1 R2 TB TB2 K1 K2 K3 HB HN); intro M R1 R2 TB TB2 K1 K2 K3 HB HN; clear hb; refine r_q 0 ?_; refine r_b 1 M 1 ?_; refine r_b 2 TB2 0 ?_; refine r_q2 3 4 ?_; refine r_b 5 M 4 ?_; refine r_q2 6 7 ?_; refine r_b 8 M 5 ?_; refine r_q3 9 10 11 ?_; refine r_q 12 ?_ (h := by intro w' hw'; have hw3 : IntKind.i64.wrap 3 = 3 := (by decide); go_simp; all_goals rfl); refine r_q 13 ?_ (h := by intro w' hw'; have hw3 : IntKind.i64.wrap 3 = 3 := (by decide); go_simp; all_goals rfl); refine r_q 14 ?_; refine r_q 15 ?_ (h := by intro w' hw'; have xq := (own_below' K2.out hw').cellAt 7 (by omega); rw [HL7.out] at xq; go_simp; all_goals rfl); refine r_q 18 ?_; refine r_b 19 M 6 ?_; refine r_q 20 ?_; refine r_q 21 ?_ (h := by intro w' hw'; have hcat : ¬ (9223372036854775807 < tag.size + fresh.size) := (by have := HTG.out; omega); go_simp; all_goals rfl); refine r_2 16 23 (fun K hK => ?_) (fun K hK => ?_)
   · go_simp; refine (sMakNext_any (lastS OW) _ (le_maxLen (by have := HPS.out; omega))).mono ?_; rintro e wc ⟨rfl, hb⟩; go_simp; refine sr hK ?_; clear hK; refine cy10 M R1 R2 TB TB2 K1 K2 K3 HB HN ?_; (try clear M R1 R2 TB TB2 K1 K2 K3 HB HN); intro M R1 R2 TB TB2 K1 K2 K3 HB HN; clear hb; refine r_2 17 23 (fun K hK => ?_) (fun K hK => ?_)
     · go_simp; refine (sMakEpoch_any init (mkNext (lastS OW)) _ (le_maxLen (by have := HI.out; omega)) (le_maxLen (by have := next_le (lastS OW); omega))).mono ?_; rw [HIN.out]; rintro e wc ⟨rfl, hb⟩; go_simp; refine sr hK ?_; clear hK; refine cy10 M R1 R2 TB TB2 K1 K2 K3 HB HN ?_; (try clear M R1 R2 TB TB2 K1 K2 K3 HB HN); intro M R1 R2 TB TB2 K1 K2 K3 HB HN; clear hb; refine r_q 22 ?_; refine r_1 23 (fun K hK => ?_); refine op_al noMem 62 (fun bX wc X hb hbn => ?_); refine sr hK ?_; clear hK; refine cy10 M R1 R2 TB TB2 K1 K2 K3 HB HN ?_; (try clear M R1 R2 TB TB2 K1 K2 K3 HB HN); intro M R1 R2 TB TB2 K1 K2 K3 HB HN; clear hb hbn; refine r_l 24 (fun K hK => ?_); refine op_rw X (memC true who (.slice (some ⟨g3, 0, none⟩) 15 c3) (.slice (some ⟨g2, 0, none⟩) 4 c2) (ep + 1) IN (tag ++ fresh)) ?_; (try clear X); intro wc OLD X hg hs; refine sh hK ?_; clear hK; refine gy10 M R1 R2 TB TB2 K1 K2 K3 HB HN ?_; (try clear M R1 R2 TB TB2 K1 K2 K3 HB HN); intro M R1 R2 TB TB2 K1 K2 K3 HB HN; clear hg hs OLD; (replace HN : Hid (w.heap.size ≤ bM ∧ bM < bR1 ∧ bR1 < bR2 ∧ bR2 < g1 ∧ g1 < bTB ∧ bTB < g2 ∧ g2 < g3 ∧ g2 < bTB2 ∧ g3 < bX ∧ bTB2 < bX ∧ bX < wc.heap.size ∧ g3 ≠ bTB2) := by have q := HN.out; refine hide ?_; omega); exact jq1 (x0 := bX) rfl (aj M (aj R1 (aj R2 (aj TB (aj TB2 (aj X (aj K1 (aj K2 (aj K3 (aj HN HB))))))))))
     · refine op_al noMem 62 (fun bX wc X hb hbn => ?_); refine sr hK ?_; clear hK; refine cy10 M R1 R2 TB TB2 K1 K2 K3 HB HN ?_; (try clear M R1 R2 TB TB2 K1 K2 K3 HB HN); intro M R1 R2 TB TB2 K1 K2 K3 HB HN; clear hb hbn; refine r_k 17 (sMakEpoch_any init (mkNext (lastS OW)) _ (le_maxLen (by have := HI.out; omega)) (le_maxLen (by have := next_le (lastS OW); omega))) ?_; rw [HIN.out]; rintro e wc ⟨rfl, hb⟩; refine s_r ?_; refine cy11 M R1 R2 TB TB2 X K1 K2 K3 HB HN ?_; (try clear M R1 R2 TB TB2 X K1 K2 K3 HB HN); intro M R1 R2 TB TB2 X K1 K2 K3 HB HN; clear hb; refine r_q 22 ?_; refine r_l 24 (fun K hK => ?_); refine op_rw X (memC true who (.slice (some ⟨g3, 0, none⟩) 15 c3) (.slice (some ⟨g2, 0, none⟩) 4 c2) (ep + 1) IN (tag ++ fresh)) ?_; (try clear X); intro wc OLD X hg hs; refine sh hK ?_; clear hK; refine gy10 M R1 R2 TB TB2 K1 K2 K3 HB HN ?_; (try clear M R1 R2 TB TB2 K1 K2 K3 HB HN); intro M R1 R2 TB TB2 K1 K2 K3 HB HN; clear hg hs OLD; (replace HN : Hid (w.heap.size ≤ bM ∧ bM < bR1 ∧ bR1 < bR2 ∧ bR2 < g1 ∧ g1 < bTB ∧ bTB < g2 ∧ g2 < g3 ∧ g2 < bTB2 ∧ g3 < bX ∧ bTB2 < bX ∧ bX < wc.heap.size ∧ g3 ≠ bTB2) := by have q := HN.out; refine hide ?_; omega); exact jq1 (x0 := bX) rfl (aj M (aj R1 (aj R2 (aj TB (aj TB2 (aj X (aj K1 (aj K2 (aj K3 (aj HN HB))))))))))
   · refine op_al noMem 62 (fun bX wc X hb hbn => ?_); refine sr hK ?_; clear hK; refine cy10 M R1 R2 TB TB2 K1 K2 K3 HB HN ?_; (try clear M R1 R2 TB TB2 K1 K2 K3 HB HN); intro M R1 R2 TB TB2 K1 K2 K3 HB HN; clear hb hbn; refine r_k 16 (sMakNext_any (lastS OW) _ (le_maxLen (by have := HPS.out; omega))) ?_; rintro e wc ⟨rfl, hb⟩; refine s_r ?_; refine cy11 M R1 R2 TB TB2 X K1 K2 K3 HB HN ?_; (try clear M R1 R2 TB TB2 X K1 K2 K3 HB HN); intro M R1 R2 TB TB2 X K1 K2 K3 HB HN; clear hb; refine r_k 17 (sMakEpoch_any init (mkNext (lastS OW)) _ (le_maxLen (by have := HI.out; omega)) (le_maxLen (by have := next_le (lastS OW); omega))) ?_; rw [HIN.out]; rintro e wc ⟨rfl, hb⟩; refine s_r ?_; refine cy11 M R1 R2 TB TB2 X K1 K2 K3 HB HN ?_; (try clear M R1 R2 TB TB2 X K1 K2 K3 HB HN); intro M R1 R2 TB TB2 X K1 K2 K3 HB HN; clear hb; refine r_q 22 ?_; refine r_l 24 (fun K hK => ?_); refine op_rw X (memC true who (.slice (some ⟨g3, 0, none⟩) 15 c3) (.slice (some ⟨g2, 0, none⟩) 4 c2) (ep + 1) IN (tag ++ fresh)) ?_; (try clear X); intro wc OLD X hg hs; refine sh hK ?_; clear hK; refine gy10 M R1 R2 TB TB2 K1 K2 K3 HB HN ?_; (try clear M R1 R2 TB TB2 K1 K2 K3 HB HN); intro M R1 R2 TB TB2 K1 K2 K3 HB HN; clear hg hs OLD; (replace HN : Hid (w.heap.size ≤ bM ∧ bM < bR1 ∧ bR1 < bR2 ∧ bR2 < g1 ∧ g1 < bTB ∧ bTB < g2 ∧ g2 < g3 ∧ g2 < bTB2 ∧ g3 < bX ∧ bTB2 < bX ∧ bX < wc.heap.size ∧ g3 ≠ bTB2) := by have q := HN.out; refine hide ?_; omega); exact jq1 (x0 := bX) rfl (aj M (aj R1 (aj R2 (aj TB (aj TB2 (aj X (aj K1 (aj K2 (aj K3 (aj HN HB))))))))))
 rintro bX wc ⟨M, R1, R2, TB, TB2, X, K1, K2, K3, HN, HB⟩; clear i9; obtain ⟨bl, hbl⟩ : ∃ n, (boxesTo BK OW add 3).length = n := ⟨_, rfl⟩; have HBX := hide hbl; clear hbl; (repeat go_step); apply join6 (α0 := Nat) (α1 := Nat) (α2 := Nat) (α3 := Option Addr) (α4 := Nat) (α5 := Nat)
 · skip; refine r_g (Later) (fun wc hb hsq => ?_); clear hsq; refine cy11 M R1 R2 TB TB2 X K1 K2 K3 HB HN ?_; (try clear M R1 R2 TB TB2 X K1 K2 K3 HB HN); intro M R1 R2 TB TB2 X K1 K2 K3 HB HN; clear hb; refine r_q 0 ?_; refine r_b 1 M 1 ?_; refine r_q 2 ?_; refine r_b 3 M 6 ?_; refine r_q4 4 5 6 7 ?_; refine r_q 9 ?_; refine r_b 10 TB2 0 ?_; refine r_b 12 TB 0 ?_; refine r_q2 13 14 ?_; refine r_2 8 17 (fun K hK => ?_) (fun K hK => ?_)
   · refine op_lit (w.heap.size) (cs := #[]) (e := 9) (size := 1) (n := 0) ?_ HB.out.size (by unfold maxLen; omega) (by rfl) (fun gE wc E hb hbn => ?_)
     · go_simp; try rfl
     refine sr hK ?_; clear hK; replace E := hide E; refine cy11 M R1 R2 TB TB2 X K1 K2 K3 HB HN ?_; (try clear M R1 R2 TB TB2 X K1 K2 K3 HB HN); intro M R1 R2 TB TB2 X K1 K2 K3 HB HN; clear hb hbn; refine r_2 11 17 (fun K hK => ?_) (fun K hK => ?_)
     · refine op_appNew rowT_str (w.heap.size) (.tmp 69) (.tmp 71) rfl gE rfl E.out _ 15 (TK.map Value.string) rfl (own_news K3.out) (by unfold maxLen; omega) (by omega) HB.out.size (fun gK5 cK5 wc K5 hb => ?_); refine sr hK ?_; clear hK; replace K5 := hide K5; refine cy12 M R1 R2 TB TB2 X K1 K2 K3 E HB HN ?_; (try clear M R1 R2 TB TB2 X K1 K2 K3 E HB HN); intro M R1 R2 TB TB2 X K1 K2 K3 E HB HN; clear hb; refine r_2 15 17 (fun K hK => ?_) (fun K hK => ?_)
       · go_simp; refine (l4Boxes_any BK HBL.out OW (by have := HL4.out; omega) HPL.out add _ _ _ (srow_of K1.out HBL.out) (mrow_of K2.out HL4.out)).mono ?_; rw [HL4.out]; rintro e wc ⟨bv, rfl, ho, hb⟩; unfold OwnB at ho; rw [HBX.out] at ho; obtain ⟨bo, bc, rfl⟩ := row_form' ho; have KB := hide (row_lowB ho HB.out.size); clear ho; go_simp; refine sr hK ?_; clear hK; refine cy12 M R1 R2 TB TB2 X K5 K1 K2 K3 E HB ?_; (try clear M R1 R2 TB TB2 X K5 K1 K2 K3 E HB); intro M R1 R2 TB TB2 X K5 K1 K2 K3 E HB; refine cy1 HN ?_; (try clear HN); intro HN; clear hb; refine r_q 16 ?_; refine r_1 17 (fun K hK => ?_); refine op_al noCmt 57 (fun bC wc C hb hbn => ?_); refine sr hK ?_; clear hK; refine cy12 M R1 R2 TB TB2 X K5 KB K1 K2 K3 E ?_; (try clear M R1 R2 TB TB2 X K5 KB K1 K2 K3 E); intro M R1 R2 TB TB2 X K5 KB K1 K2 K3 E; refine cy2 HB HN ?_; (try clear HB HN); intro HB HN; clear hb hbn; refine r_l 18 (fun K hK => ?_); refine op_rw C (cmtC who tag fresh add rem leaf (.slice (some ⟨gK5, 0, none⟩) 15 cK5) (.slice bo bl bc) ⟨#[]⟩ ⟨#[]⟩ ⟨#[]⟩ ⟨#[]⟩ ⟨#[]⟩) ?_; (try clear C); intro wc OLD C hg hs; refine sh hK ?_; clear hK; refine gy12 M R1 R2 TB TB2 X K5 KB K1 K2 K3 E ?_; (try clear M R1 R2 TB TB2 X K5 KB K1 K2 K3 E); intro M R1 R2 TB TB2 X K5 KB K1 K2 K3 E; refine gy2 HB HN ?_; (try clear HB HN); intro HB HN; clear hg hs OLD; (replace HN : Hid (w.heap.size ≤ bM ∧ bM < bR1 ∧ bR1 < bR2 ∧ bR2 < g1 ∧ g1 < bTB ∧ bTB < g2 ∧ g2 < g3 ∧ g2 < bTB2 ∧ g3 < bX ∧ bTB2 < bX ∧ bX < gE ∧ bX < bC ∧ gE < wc.heap.size ∧ bC < wc.heap.size ∧ g3 ≠ bTB2 ∧ gE ≠ bC) := by have q := HN.out; refine hide ?_; omega); exact jq6 (x0 := gE) (x1 := gK5) (x2 := cK5) (x3 := bo) (x4 := bc) (x5 := bC) rfl (aj M (aj R1 (aj R2 (aj TB (aj TB2 (aj X (aj C (aj K5 (aj KB (aj K1 (aj K2 (aj K3 (aj E (aj HN HB))))))))))))))
       · refine op_al noCmt 57 (fun bC wc C hb hbn => ?_); refine sr hK ?_; clear hK; refine cy12 M R1 R2 TB TB2 X K5 K1 K2 K3 E HB ?_; (try clear M R1 R2 TB TB2 X K5 K1 K2 K3 E HB); intro M R1 R2 TB TB2 X K5 K1 K2 K3 E HB; refine cy1 HN ?_; (try clear HN); intro HN; clear hb hbn; refine r_k 15 (l4Boxes_any BK HBL.out OW (by have := HL4.out; omega) HPL.out add _ _ _ (srow_of K1.out HBL.out) (mrow_of K2.out HL4.out)) ?_; rw [HL4.out]; rintro e wc ⟨bv, rfl, ho, hb⟩; unfold OwnB at ho; rw [HBX.out] at ho; obtain ⟨bo, bc, rfl⟩ := row_form' ho; have KB := hide (row_lowB ho HB.out.size); clear ho; refine s_r ?_; refine cy12 M R1 R2 TB TB2 X C K5 K1 K2 K3 E ?_; (try clear M R1 R2 TB TB2 X C K5 K1 K2 K3 E); intro M R1 R2 TB TB2 X C K5 K1 K2 K3 E; refine cy2 HB HN ?_; (try clear HB HN); intro HB HN; clear hb; refine r_q 16 ?_; refine r_l 18 (fun K hK => ?_); refine op_rw C (cmtC who tag fresh add rem leaf (.slice (some ⟨gK5, 0, none⟩) 15 cK5) (.slice bo bl bc) ⟨#[]⟩ ⟨#[]⟩ ⟨#[]⟩ ⟨#[]⟩ ⟨#[]⟩) ?_; (try clear C); intro wc OLD C hg hs; refine sh hK ?_; clear hK; refine gy12 M R1 R2 TB TB2 X K5 KB K1 K2 K3 E ?_; (try clear M R1 R2 TB TB2 X K5 KB K1 K2 K3 E); intro M R1 R2 TB TB2 X K5 KB K1 K2 K3 E; refine gy2 HB HN ?_; (try clear HB HN); intro HB HN; clear hg hs OLD; (replace HN : Hid (w.heap.size ≤ bM ∧ bM < bR1 ∧ bR1 < bR2 ∧ bR2 < g1 ∧ g1 < bTB ∧ bTB < g2 ∧ g2 < g3 ∧ g2 < bTB2 ∧ g3 < bX ∧ bTB2 < bX ∧ bX < gE ∧ bX < bC ∧ gE < wc.heap.size ∧ bC < wc.heap.size ∧ g3 ≠ bTB2 ∧ gE ≠ bC) := by have q := HN.out; refine hide ?_; omega); exact jq6 (x0 := gE) (x1 := gK5) (x2 := cK5) (x3 := bo) (x4 := bc) (x5 := bC) rfl (aj M (aj R1 (aj R2 (aj TB (aj TB2 (aj X (aj C (aj K5 (aj KB (aj K1 (aj K2 (aj K3 (aj E (aj HN HB))))))))))))))
     · refine op_al noCmt 57 (fun bC wc C hb hbn => ?_); refine sr hK ?_; clear hK; refine cy12 M R1 R2 TB TB2 X K1 K2 K3 E HB HN ?_; (try clear M R1 R2 TB TB2 X K1 K2 K3 E HB HN); intro M R1 R2 TB TB2 X K1 K2 K3 E HB HN; clear hb hbn; refine r_1 11 (fun K hK => ?_); refine op_appNew rowT_str (w.heap.size) (.tmp 69) (.tmp 71) rfl gE rfl E.out _ 15 (TK.map Value.string) rfl (own_news K3.out) (by unfold maxLen; omega) (by omega) HB.out.size (fun gK5 cK5 wc K5 hb => ?_); refine sr hK ?_; clear hK; replace K5 := hide K5; refine cy12 M R1 R2 TB TB2 X C K1 K2 K3 E HB ?_; (try clear M R1 R2 TB TB2 X C K1 K2 K3 E HB); intro M R1 R2 TB TB2 X C K1 K2 K3 E HB; refine cy1 HN ?_; (try clear HN); intro HN; clear hb; refine r_k 15 (l4Boxes_any BK HBL.out OW (by have := HL4.out; omega) HPL.out add _ _ _ (srow_of K1.out HBL.out) (mrow_of K2.out HL4.out)) ?_; rw [HL4.out]; rintro e wc ⟨bv, rfl, ho, hb⟩; unfold OwnB at ho; rw [HBX.out] at ho; obtain ⟨bo, bc, rfl⟩ := row_form' ho; have KB := hide (row_lowB ho HB.out.size); clear ho; refine s_r ?_; refine cy12 M R1 R2 TB TB2 X C K5 K1 K2 K3 E ?_; (try clear M R1 R2 TB TB2 X C K5 K1 K2 K3 E); intro M R1 R2 TB TB2 X C K5 K1 K2 K3 E; refine cy2 HB HN ?_; (try clear HB HN); intro HB HN; clear hb; refine r_q 16 ?_; refine r_l 18 (fun K hK => ?_); refine op_rw C (cmtC who tag fresh add rem leaf (.slice (some ⟨gK5, 0, none⟩) 15 cK5) (.slice bo bl bc) ⟨#[]⟩ ⟨#[]⟩ ⟨#[]⟩ ⟨#[]⟩ ⟨#[]⟩) ?_; (try clear C); intro wc OLD C hg hs; refine sh hK ?_; clear hK; refine gy12 M R1 R2 TB TB2 X K5 KB K1 K2 K3 E ?_; (try clear M R1 R2 TB TB2 X K5 KB K1 K2 K3 E); intro M R1 R2 TB TB2 X K5 KB K1 K2 K3 E; refine gy2 HB HN ?_; (try clear HB HN); intro HB HN; clear hg hs OLD; (replace HN : Hid (w.heap.size ≤ bM ∧ bM < bR1 ∧ bR1 < bR2 ∧ bR2 < g1 ∧ g1 < bTB ∧ bTB < g2 ∧ g2 < g3 ∧ g2 < bTB2 ∧ g3 < bX ∧ bTB2 < bX ∧ bX < gE ∧ bX < bC ∧ gE < wc.heap.size ∧ bC < wc.heap.size ∧ g3 ≠ bTB2 ∧ gE ≠ bC) := by have q := HN.out; refine hide ?_; omega); exact jq6 (x0 := gE) (x1 := gK5) (x2 := cK5) (x3 := bo) (x4 := bc) (x5 := bC) rfl (aj M (aj R1 (aj R2 (aj TB (aj TB2 (aj X (aj C (aj K5 (aj KB (aj K1 (aj K2 (aj K3 (aj E (aj HN HB))))))))))))))
   · refine op_al noCmt 57 (fun bC wc C hb hbn => ?_); refine sr hK ?_; clear hK; refine cy11 M R1 R2 TB TB2 X K1 K2 K3 HB HN ?_; (try clear M R1 R2 TB TB2 X K1 K2 K3 HB HN); intro M R1 R2 TB TB2 X K1 K2 K3 HB HN; clear hb hbn; refine r_1 8 (fun K hK => ?_); refine op_lit (w.heap.size) (cs := #[]) (e := 9) (size := 1) (n := 0) ?_ HB.out.size (by unfold maxLen; omega) (by rfl) (fun gE wc E hb hbn => ?_)
     · go_simp; try rfl
     refine sr hK ?_; clear hK; replace E := hide E; refine cy12 M R1 R2 TB TB2 X C K1 K2 K3 HB HN ?_; (try clear M R1 R2 TB TB2 X C K1 K2 K3 HB HN); intro M R1 R2 TB TB2 X C K1 K2 K3 HB HN; clear hb hbn; refine r_1 11 (fun K hK => ?_); refine op_appNew rowT_str (w.heap.size) (.tmp 69) (.tmp 71) rfl gE rfl E.out _ 15 (TK.map Value.string) rfl (own_news K3.out) (by unfold maxLen; omega) (by omega) HB.out.size (fun gK5 cK5 wc K5 hb => ?_); refine sr hK ?_; clear hK; replace K5 := hide K5; refine cy12 M R1 R2 TB TB2 X C K1 K2 K3 E HB ?_; (try clear M R1 R2 TB TB2 X C K1 K2 K3 E HB); intro M R1 R2 TB TB2 X C K1 K2 K3 E HB; refine cy1 HN ?_; (try clear HN); intro HN; clear hb; refine r_k 15 (l4Boxes_any BK HBL.out OW (by have := HL4.out; omega) HPL.out add _ _ _ (srow_of K1.out HBL.out) (mrow_of K2.out HL4.out)) ?_; rw [HL4.out]; rintro e wc ⟨bv, rfl, ho, hb⟩; unfold OwnB at ho; rw [HBX.out] at ho; obtain ⟨bo, bc, rfl⟩ := row_form' ho; have KB := hide (row_lowB ho HB.out.size); clear ho; refine s_r ?_; refine cy12 M R1 R2 TB TB2 X C K5 K1 K2 K3 E ?_; (try clear M R1 R2 TB TB2 X C K5 K1 K2 K3 E); intro M R1 R2 TB TB2 X C K5 K1 K2 K3 E; refine cy2 HB HN ?_; (try clear HB HN); intro HB HN; clear hb; refine r_q 16 ?_; refine r_l 18 (fun K hK => ?_); refine op_rw C (cmtC who tag fresh add rem leaf (.slice (some ⟨gK5, 0, none⟩) 15 cK5) (.slice bo bl bc) ⟨#[]⟩ ⟨#[]⟩ ⟨#[]⟩ ⟨#[]⟩ ⟨#[]⟩) ?_; (try clear C); intro wc OLD C hg hs; refine sh hK ?_; clear hK; refine gy12 M R1 R2 TB TB2 X K5 KB K1 K2 K3 E ?_; (try clear M R1 R2 TB TB2 X K5 KB K1 K2 K3 E); intro M R1 R2 TB TB2 X K5 KB K1 K2 K3 E; refine gy2 HB HN ?_; (try clear HB HN); intro HB HN; clear hg hs OLD; (replace HN : Hid (w.heap.size ≤ bM ∧ bM < bR1 ∧ bR1 < bR2 ∧ bR2 < g1 ∧ g1 < bTB ∧ bTB < g2 ∧ g2 < g3 ∧ g2 < bTB2 ∧ g3 < bX ∧ bTB2 < bX ∧ bX < gE ∧ bX < bC ∧ gE < wc.heap.size ∧ bC < wc.heap.size ∧ g3 ≠ bTB2 ∧ gE ≠ bC) := by have q := HN.out; refine hide ?_; omega); exact jq6 (x0 := gE) (x1 := gK5) (x2 := cK5) (x3 := bo) (x4 := bc) (x5 := bC) rfl (aj M (aj R1 (aj R2 (aj TB (aj TB2 (aj X (aj C (aj K5 (aj KB (aj K1 (aj K2 (aj K3 (aj E (aj HN HB))))))))))))))
 rintro gE gK5 cK5 bo bc bC wc ⟨M, R1, R2, TB, TB2, X, C, K5, KB, K1, K2, K3, E, HN, HB⟩; by_cases ha : add < 0
 · (have ha2 : decide (0 ≤ add) = false := by simp; omega); (repeat ((fail_if_success (refine pl_id ?_)); go_step)); refine w_i ?_; refine w_q ?_; refine w_q ?_; refine w_e ?_; (repeat go_step); refine r_g (KeepL ([bX, bC] : List Nat)) (fun wc hb hsq => ?_); clear hsq; refine cy12 M R1 R2 TB TB2 X C K5 KB K1 K2 K3 ?_; (try clear M R1 R2 TB TB2 X C K5 KB K1 K2 K3); intro M R1 R2 TB TB2 X C K5 KB K1 K2 K3; refine cy3 E HB HN ?_; (try clear E HB HN); intro E HB HN; clear hb; refine r_q 0 ?_ (h := by intro w' hw'; have x := (Blk.keepL X.out hw' (by simp)).c7; go_simp; all_goals rfl); refine r_q 1 ?_ (h := by intro w' hw'; have x := (Blk.keepL C.out hw' (by simp)).c13; go_simp; all_goals rfl); refine r_1 2 (fun K hK => ?_); refine op_rw R1 (memC true who (.slice (some ⟨g3, 0, none⟩) 15 c3) (.slice (some ⟨g2, 0, none⟩) 4 c2) (ep + 1) IN (tag ++ fresh)) ?_; (try clear R1); intro wc OLD R1 hg hs; refine sr hK ?_ (r := (keepL_grown hg (fun x hx => by have q := HN.out; simp at hx; omega))); clear hK; refine gy12 M R2 TB TB2 X C K5 KB K1 K2 K3 E ?_; (try clear M R2 TB TB2 X C K5 KB K1 K2 K3 E); intro M R2 TB TB2 X C K5 KB K1 K2 K3 E; refine gy2 HB HN ?_; (try clear HB HN); intro HB HN; clear hg hs OLD; refine r_l 3 (fun K hK => ?_); refine op_rw R2 (cmtC who tag fresh add rem leaf (.slice (some ⟨gK5, 0, none⟩) 15 cK5) (.slice bo bl bc) ⟨#[]⟩ ⟨#[]⟩ ⟨#[]⟩ ⟨#[]⟩ ⟨#[]⟩) ?_; (try clear R2); intro wc OLD R2 hg hs; refine sh hK ?_; clear hK; refine gy12 M R1 TB TB2 X C K5 KB K1 K2 K3 E ?_; (try clear M R1 TB TB2 X C K5 KB K1 K2 K3 E); intro M R1 TB TB2 X C K5 KB K1 K2 K3 E; refine gy2 HB HN ?_; (try clear HB HN); intro HB HN; clear hg hs OLD; have l1 := load_mm R1.out rfl; have l2 := load_cm R2.out rfl; (go_wp2_with fail); refine bodyPost_ret (v := .tuple #[.agg (memC true who (.slice (some ⟨g3, 0, none⟩) 15 c3) (.slice (some ⟨g2, 0, none⟩) 4 c2) (ep + 1) IN (tag ++ fresh)), .agg (cmtC who tag fresh add rem leaf (.slice (some ⟨gK5, 0, none⟩) 15 cK5) (.slice bo bl bc) ⟨#[]⟩ ⟨#[]⟩ ⟨#[]⟩ ⟨#[]⟩ ⟨#[]⟩)]) (results_cc rfl rfl rfl l1 l2) rfl ?_; rw [HEM.out, HEN.out ha]; exact ⟨_, _, _, _, rfl, own_of K3.out HTL.out, ownM_of K2.out HL4.out, own_of K5.out HTL.out, ownB_of KB.out HBX.out, HB.out⟩
 (have ha2 : decide (0 ≤ add) = true := by simp; omega); (repeat ((fail_if_success (refine pl_id ?_)); go_step)); refine w_i ?_; refine w_q ?_; refine w_q ?_; refine w_e ?_; (repeat go_step); refine r_g (Later) (fun wc hb hsq => ?_); clear hsq; refine cy12 M R1 R2 TB TB2 X C K5 KB K1 K2 K3 ?_; (try clear M R1 R2 TB TB2 X C K5 KB K1 K2 K3); intro M R1 R2 TB TB2 X C K5 KB K1 K2 K3; refine cy3 E HB HN ?_; (try clear E HB HN); intro E HB HN; clear hb; refine r_q2 0 2 ?_; refine r_b 3 M 1 ?_; refine r_k 1 (sTreLeaf_any add _) ?_; rintro e wz ⟨rfl, hz⟩; replace hz := hz.symm; subst hz; refine s_r ?_; refine r_k 4 (sTreLeaf_any who _) ?_; rintro e wz ⟨rfl, hz⟩; replace hz := hz.symm; subst hz; refine s_r ?_; refine r_k 5 (sTreMeet_any _ _ _) ?_; rintro e wz ⟨rfl, hz⟩; replace hz := hz.symm; subst hz; refine s_r ?_; refine r_q 6 ?_; refine r_e ?_; (repeat go_step); refine r_g (Later) (fun wc hb hsq => ?_); clear hsq; refine cy12 M R1 R2 TB TB2 X C K5 KB K1 K2 K3 ?_; (try clear M R1 R2 TB TB2 X C K5 KB K1 K2 K3); intro M R1 R2 TB TB2 X C K5 KB K1 K2 K3; refine cy3 E HB HN ?_; (try clear E HB HN); intro E HB HN; clear hb; refine r_q3 0 1 2 ?_; refine r_b 3 X 5 ?_; refine r_q2 4 5 ?_; refine r_q 6 ?_ (h := by intro w' hw'; have x := (X.out.below hw').c7; go_simp; all_goals rfl); refine r_q 7 ?_; refine r_k 8 (l4Own_any true who (ep + 1) _ _ OW IN (tag ++ fresh) (meetOf (leafOf add) (leafOf who)) _ (mrow_of K2.out HL4.out) ⟨_, _, _, rfl⟩) ?_; rw [HSW.out]; rintro e wc ⟨rfl, hb⟩; refine s_r ?_; refine cy12 M R1 R2 TB TB2 X C K5 KB K1 K2 K3 ?_; (try clear M R1 R2 TB TB2 X C K5 KB K1 K2 K3); intro M R1 R2 TB TB2 X C K5 KB K1 K2 K3; refine cy3 E HB HN ?_; (try clear E HB HN); intro E HB HN; clear hb; refine r_q3 9 10 11 ?_; refine r_l 12 (fun K hK => ?_); have OLD := C; refine op_mid 55 (.tmp 97) (.tmp 96) rfl bC 8 #[.string key, .string key, .string IN, .string key, .string SW] _ 57 rfl rfl C.out info_wel (Nat.le_of_ble_eq_true rfl) (one_wel _ _ _ _ _) (fun wc NEW hg hs => ?_); refine sh hK ?_; clear hK; replace C : Hid (Blk wc bC 57 (cmtC who tag fresh add rem leaf (.slice (some ⟨gK5, 0, none⟩) 15 cK5) (.slice bo bl bc) key key IN key SW)) := NEW; clear NEW; refine gy12 M R1 R2 TB TB2 X K5 KB K1 K2 K3 E ?_; (try clear M R1 R2 TB TB2 X K5 KB K1 K2 K3 E); intro M R1 R2 TB TB2 X K5 KB K1 K2 K3 E; refine gy2 HB HN ?_; (try clear HB HN); intro HB HN; clear hg hs OLD; repeat go_step
 refine r_g (KeepL ([bX, bC] : List Nat)) (fun wc hb hsq => ?_); clear hsq; refine cy12 M R1 R2 TB TB2 X C K5 KB K1 K2 K3 ?_; (try clear M R1 R2 TB TB2 X C K5 KB K1 K2 K3); intro M R1 R2 TB TB2 X C K5 KB K1 K2 K3; refine cy3 E HB HN ?_; (try clear E HB HN); intro E HB HN; clear hb; refine r_q 0 ?_ (h := by intro w' hw'; have x := (Blk.keepL X.out hw' (by simp)).c7; go_simp; all_goals rfl); refine r_q 1 ?_ (h := by intro w' hw'; have x := (Blk.keepL C.out hw' (by simp)).c13; go_simp; all_goals rfl); refine r_1 2 (fun K hK => ?_); refine op_rw R1 (memC true who (.slice (some ⟨g3, 0, none⟩) 15 c3) (.slice (some ⟨g2, 0, none⟩) 4 c2) (ep + 1) IN (tag ++ fresh)) ?_; (try clear R1); intro wc OLD R1 hg hs; refine sr hK ?_ (r := (keepL_grown hg (fun x hx => by have q := HN.out; simp at hx; omega))); clear hK; refine gy12 M R2 TB TB2 X C K5 KB K1 K2 K3 E ?_; (try clear M R2 TB TB2 X C K5 KB K1 K2 K3 E); intro M R2 TB TB2 X C K5 KB K1 K2 K3 E; refine gy2 HB HN ?_; (try clear HB HN); intro HB HN; clear hg hs OLD; refine r_l 3 (fun K hK => ?_); refine op_rw R2 (cmtC who tag fresh add rem leaf (.slice (some ⟨gK5, 0, none⟩) 15 cK5) (.slice bo bl bc) key key IN key SW) ?_; (try clear R2); intro wc OLD R2 hg hs; refine sh hK ?_; clear hK; refine gy12 M R1 TB TB2 X C K5 KB K1 K2 K3 E ?_; (try clear M R1 TB TB2 X C K5 KB K1 K2 K3 E); intro M R1 TB TB2 X C K5 KB K1 K2 K3 E; refine gy2 HB HN ?_; (try clear HB HN); intro HB HN; clear hg hs OLD; have l1 := load_mm R1.out rfl; have l2 := load_cm R2.out rfl; (go_wp2_with fail); refine bodyPost_ret (v := .tuple #[.agg (memC true who (.slice (some ⟨g3, 0, none⟩) 15 c3) (.slice (some ⟨g2, 0, none⟩) 4 c2) (ep + 1) IN (tag ++ fresh)), .agg (cmtC who tag fresh add rem leaf (.slice (some ⟨gK5, 0, none⟩) 15 cK5) (.slice bo bl bc) key key IN key SW)]) (results_cc rfl rfl rfl l1 l2) rfl ?_; rw [HEM.out, HEY.out ha]; exact ⟨_, _, _, _, rfl, own_of K3.out HTL.out, ownM_of K2.out HL4.out, own_of K5.out HTL.out, ownB_of KB.out HBX.out, HB.out⟩
set_option maxRecDepth 100000 in
set_option maxHeartbeats 16000000 in
theorem sMemCommit_any (m : Mem) (ks os : Value) (fresh : ByteArray) (add rem : Int) (leaf key : ByteArray) (w : World) (hK : SRow w ks m.keys) (hO : MRow w os m.own) (hkm : ∀ x ∈ m.keys, x.size ≤ maxLen) (hom : ∀ o ∈ m.own, o.2.size ≤ maxLen) (him : m.init.size ≤ maxLen) (htm : m.tag.size ≤ maxLen)
 (hf : fresh.size ≤ maxLen) (hlm : leaf.size ≤ maxLen) (hkk : key.size ≤ maxLen) :
 Calls Tryz.prog 49 #[.agg (m.cells ks os), .string fresh, .int .i64 add, .int .i64 rem, .string leaf, .string key] w fun e w' => ∃ ks1 os1 ks2 bs2, e = .returned (.tuple #[.agg ((commitX m fresh add rem leaf key).cells ks1 os1), .agg ((commitY m fresh add rem leaf key).cells ks2 bs2), .bool (commitB m fresh add rem leaf key)]) ∧ Own w.heap.size w' ks1 (commitX m fresh add rem leaf key).keys ∧ OwnM w.heap.size w' os1 (commitX m fresh add rem leaf key).own ∧ Own w.heap.size w' ks2 (commitY m fresh add rem leaf key).keys ∧ OwnB w.heap.size w' bs2 (commitY m fresh add rem leaf key).boxes ∧ Below w.heap.size w w' := by
 have HOK := hide (fun (u : World) (hu : Below w.heap.size w u) => sMemOk_any m ks os u (hK.below hu) (hO.below hu) hkm hom him htm); have HMY := hide (fun (u : World) (hu : Below w.heap.size w u) (hl : m.inn = true → m.keys.length = 15) => l4May_any m ks os add rem leaf key u (hK.below hu) (hO.below hu) hl hlm hkk); have HCM := hide (fun (u : World) (hu : Below w.heap.size w u) => l4Commit_any m ks os fresh add rem leaf key u (hK.below hu) (hO.below hu)); have HE : Hid (commitB m fresh add rem leaf key = _) := commitB_eq m fresh add rem leaf key; have HX : Hid (commitX m fresh add rem leaf key = if commitB m fresh add rem leaf key = true then commitM m fresh add rem leaf else Mem.none) := rfl; have HY : Hid (commitY m fresh add rem leaf key = if commitB m fresh add rem leaf key = true then commitC m fresh add rem leaf key else Cmt.none) := rfl; have HFM := hide hf; obtain ⟨a1, p1, e1, _, _, _⟩ := hK.form; obtain ⟨a2, p2, e2, _, _, _⟩ := id hO; have HF0 : Hid (memOkS m = true → m.inn = true → _) := memOk_facts; have HF1 : Hid (mayB m add rem leaf key = true → _) := may_facts; obtain ⟨b0, hb0⟩ : ∃ b, memOkS m = b := ⟨_, rfl⟩; obtain ⟨b1, hb1⟩ : ∃ b, Kw.ok fresh = b := ⟨_, rfl⟩; obtain ⟨b3, hb3⟩ : ∃ b, mayB m add rem leaf key = b := ⟨_, rfl⟩; have B0 := hide hb0; have B1 := hide hb1; have B3 := hide hb3; rw [hb0, hb1, hb3] at HE; rw [hb0] at HF0; rw [hb3] at HF1; obtain ⟨inn, who, keys, own, ep, init, tag⟩ := m; subst e1 e2; simp only at HX HY HE HF0 HF1 HOK HMY HCM ⊢; clear hK hO hkm hom him htm hf hlm hkk hb0 hb1 hb3; generalize hn1 : keys.length = n1 at *; have HN1 := hide hn1; clear hn1; generalize own.length = n2 at *; have HB : Hid (Below w.heap.size w w) := Below.refl _ _; have HN : Hid (True) := trivial
 go_enter Tryz.func49, Tryz.ntmps49
 repeat ((fail_if_success (refine pl_id ?_)); go_step)
 refine w_i ?_; refine w_a (memC inn who (.slice a1 n1 p1) (.slice a2 n2 p2) ep init tag) 62 (fun bM wc M hb hbn => ?_); refine cy2 HB HN ?_; clear HB HN; intro HB HN; clear hb hbn; refine w_a noMem 62 (fun bR1 wc R1 hb hbn => ?_); refine cy3 M HB HN ?_; clear M HB HN; intro M HB HN; clear hb hbn; refine w_a noCmt 57 (fun bR2 wc R2 hb hbn => ?_); refine cy4 M R1 HB HN ?_; clear M R1 HB HN; intro M R1 HB HN; clear hb hbn; refine w_q ?_; refine w_e ?_
 cases b0 with
 | false =>
  (have HF : Hid (commitB ⟨inn, who, keys, own, ep, init, tag⟩ fresh add rem leaf key = false) := by show _ = _; first | (rw [HE.out]; rfl) | rw [HE.out])
  repeat ((fail_if_success (refine pl_id ?_)); go_step)
  refine w_i ?_; refine w_c M ?_; refine w_k (HOK.out _ HB.out) ?_; rw [B0.out]; rintro e wc ⟨rfl, hb⟩; refine s_k ?_; refine cy5 M R1 R2 HB HN ?_; clear M R1 R2 HB HN; intro M R1 R2 HB HN; clear hb; refine w_q ?_; refine w_q ?_; (iterate 3 refine w_n ?_); refine w_q ?_; refine w_q ?_; (iterate 4 refine w_n ?_); refine w_q ?_; refine w_q ?_; (iterate 7 refine w_n ?_); refine w_q ?_; refine w_q ?_; (iterate 7 refine w_n ?_); refine w_q ?_; refine w_q ?_; (iterate 4 refine w_n ?_); refine w_q ?_; refine w_e ?_
  repeat ((fail_if_success (refine pl_id ?_)); go_step)
  refine w_i ?_; refine w_q ?_; refine w_q ?_; refine w_s R1 noMem ?_; clear R1; intro wc OLD R1 hg hs; refine gy4 M R2 HB HN ?_; clear M R2 HB HN; intro M R2 HB HN; clear hg hs OLD; refine w_s R2 noCmt ?_; clear R2; intro wc OLD R2 hg hs; refine gy4 M R1 HB HN ?_; clear M R1 HB HN; intro M R1 HB HN; clear hg hs OLD; refine w_q ?_; refine w_e ?_; have l1 := load_mm R1.out rfl; have l2 := load_cm R2.out rfl; (go_wp2_with fail); refine bodyPost_ret (v := .tuple #[.agg noMem, .agg noCmt, .bool false]) (results_ccs rfl rfl rfl rfl l1 l2) rfl ?_; rw [HX.out, HY.out, HF.out]; exact ⟨_, _, _, _, rfl, World.ownsRow_nil _ _ _ _, World.ownsRow_nil _ _ _ _, World.ownsRow_nil _ _ _ _, World.ownsRow_nil _ _ _ _, HB.out⟩
 | true =>
  simp only [Bool.true_and] at HE; have HL15 : Hid (inn = true → n1 = 15) := fun h => (HF0.out rfl h).1
  cases b1 with
  | false =>
   (have HF : Hid (commitB ⟨inn, who, keys, own, ep, init, tag⟩ fresh add rem leaf key = false) := by show _ = _; first | (rw [HE.out]; rfl) | rw [HE.out])
   repeat ((fail_if_success (refine pl_id ?_)); go_step)
   refine w_i ?_; refine w_c M ?_; refine w_k (HOK.out _ HB.out) ?_; rw [B0.out]; rintro e wc ⟨rfl, hb⟩; refine s_k ?_; refine cy5 M R1 R2 HB HN ?_; clear M R1 R2 HB HN; intro M R1 R2 HB HN; clear hb
   (iterate 3 refine w_q ?_)
   refine w_k (sSecOk_any fresh _ HFM.out) ?_; rw [B1.out]; rintro e wc ⟨rfl, hb⟩; refine s_k ?_; refine cy5 M R1 R2 HB HN ?_; clear M R1 R2 HB HN; intro M R1 R2 HB HN; clear hb
   (iterate 3 refine w_q ?_); (iterate 4 refine w_n ?_); refine w_q ?_; refine w_q ?_; (iterate 7 refine w_n ?_); refine w_q ?_; refine w_q ?_; (iterate 7 refine w_n ?_); refine w_q ?_; refine w_q ?_; (iterate 4 refine w_n ?_); refine w_q ?_
   refine w_e ?_
   repeat ((fail_if_success (refine pl_id ?_)); go_step)
   refine w_i ?_; refine w_q ?_; refine w_q ?_; refine w_s R1 noMem ?_; clear R1; intro wc OLD R1 hg hs; refine gy4 M R2 HB HN ?_; clear M R2 HB HN; intro M R2 HB HN; clear hg hs OLD; refine w_s R2 noCmt ?_; clear R2; intro wc OLD R2 hg hs; refine gy4 M R1 HB HN ?_; clear M R1 HB HN; intro M R1 HB HN; clear hg hs OLD; refine w_q ?_; refine w_e ?_; have l1 := load_mm R1.out rfl; have l2 := load_cm R2.out rfl; (go_wp2_with fail); refine bodyPost_ret (v := .tuple #[.agg noMem, .agg noCmt, .bool false]) (results_ccs rfl rfl rfl rfl l1 l2) rfl ?_; rw [HX.out, HY.out, HF.out]; exact ⟨_, _, _, _, rfl, World.ownsRow_nil _ _ _ _, World.ownsRow_nil _ _ _ _, World.ownsRow_nil _ _ _ _, World.ownsRow_nil _ _ _ _, HB.out⟩
  | true =>
   simp only [Bool.true_and] at HE
   by_cases hop : mOp fresh = 1
   rotate_left
   · have h2a : (mOp fresh != 1) = true := bne_iff_ne.mpr hop
     (have h2b : (mOp fresh == 1) = false := by simpa using hop); rw [show decide (mOp fresh = 1) = false by simpa using hop] at HE; clear hop; (have HF : Hid (commitB ⟨inn, who, keys, own, ep, init, tag⟩ fresh add rem leaf key = false) := by show _ = _; first | (rw [HE.out]; rfl) | rw [HE.out])
     repeat ((fail_if_success (refine pl_id ?_)); go_step)
     refine w_i ?_; refine w_c M ?_; refine w_k (HOK.out _ HB.out) ?_; rw [B0.out]; rintro e wc ⟨rfl, hb⟩; refine s_k ?_; refine cy5 M R1 R2 HB HN ?_; clear M R1 R2 HB HN; intro M R1 R2 HB HN; clear hb
     (iterate 3 refine w_q ?_)
     refine w_k (sSecOk_any fresh _ HFM.out) ?_; rw [B1.out]; rintro e wc ⟨rfl, hb⟩; refine s_k ?_; refine cy5 M R1 R2 HB HN ?_; clear M R1 R2 HB HN; intro M R1 R2 HB HN; clear hb
     (iterate 4 refine w_q ?_)
     refine w_k (l1How_any fresh _ B1.out) ?_; rw [how_field]; rintro e wc ⟨rfl, hb⟩; refine s_k ?_; refine cy5 M R1 R2 HB HN ?_; clear M R1 R2 HB HN; intro M R1 R2 HB HN; clear hb; refine w_q ?_ (h := by have hfl := field_op; go_simp; all_goals rfl)
     (iterate 3 refine w_q ?_); (iterate 7 refine w_n ?_); refine w_q ?_; refine w_q ?_; (iterate 7 refine w_n ?_); refine w_q ?_; refine w_q ?_; (iterate 4 refine w_n ?_); refine w_q ?_
     refine w_e ?_
     repeat ((fail_if_success (refine pl_id ?_)); go_step)
     refine w_i ?_; refine w_q ?_; refine w_q ?_; refine w_s R1 noMem ?_; clear R1; intro wc OLD R1 hg hs; refine gy4 M R2 HB HN ?_; clear M R2 HB HN; intro M R2 HB HN; clear hg hs OLD; refine w_s R2 noCmt ?_; clear R2; intro wc OLD R2 hg hs; refine gy4 M R1 HB HN ?_; clear M R1 HB HN; intro M R1 HB HN; clear hg hs OLD; refine w_q ?_; refine w_e ?_; have l1 := load_mm R1.out rfl; have l2 := load_cm R2.out rfl; (go_wp2_with fail); refine bodyPost_ret (v := .tuple #[.agg noMem, .agg noCmt, .bool false]) (results_ccs rfl rfl rfl rfl l1 l2) rfl ?_; rw [HX.out, HY.out, HF.out]; exact ⟨_, _, _, _, rfl, World.ownsRow_nil _ _ _ _, World.ownsRow_nil _ _ _ _, World.ownsRow_nil _ _ _ _, World.ownsRow_nil _ _ _ _, HB.out⟩
   (have h2a : (mOp fresh != 1) = false := by simpa using hop); (have h2b : (mOp fresh == 1) = true := by simpa using hop); rw [show decide (mOp fresh = 1) = true by simpa using hop] at HE; simp only [Bool.true_and] at HE; clear hop
   cases b3 with
   | false =>
    (have HF : Hid (commitB ⟨inn, who, keys, own, ep, init, tag⟩ fresh add rem leaf key = false) := by show _ = _; first | (rw [HE.out]; rfl) | rw [HE.out])
    repeat ((fail_if_success (refine pl_id ?_)); go_step)
    refine w_i ?_; refine w_c M ?_; refine w_k (HOK.out _ HB.out) ?_; rw [B0.out]; rintro e wc ⟨rfl, hb⟩; refine s_k ?_; refine cy5 M R1 R2 HB HN ?_; clear M R1 R2 HB HN; intro M R1 R2 HB HN; clear hb
    (iterate 3 refine w_q ?_)
    refine w_k (sSecOk_any fresh _ HFM.out) ?_; rw [B1.out]; rintro e wc ⟨rfl, hb⟩; refine s_k ?_; refine cy5 M R1 R2 HB HN ?_; clear M R1 R2 HB HN; intro M R1 R2 HB HN; clear hb
    (iterate 4 refine w_q ?_)
    refine w_k (l1How_any fresh _ B1.out) ?_; rw [how_field]; rintro e wc ⟨rfl, hb⟩; refine s_k ?_; refine cy5 M R1 R2 HB HN ?_; clear M R1 R2 HB HN; intro M R1 R2 HB HN; clear hb; refine w_q ?_ (h := by have hfl := field_op; go_simp; all_goals rfl)
    (iterate 3 refine w_q ?_)
    refine w_c M ?_
    (iterate 4 refine w_q ?_)
    refine w_k (HMY.out _ HB.out HL15.out) ?_; rw [B3.out]; rintro e wc ⟨rfl, hb⟩; refine s_k ?_; refine cy5 M R1 R2 HB HN ?_; clear M R1 R2 HB HN; intro M R1 R2 HB HN; clear hb
    (iterate 3 refine w_q ?_); (iterate 7 refine w_n ?_); refine w_q ?_; refine w_q ?_; (iterate 4 refine w_n ?_); refine w_q ?_
    refine w_e ?_
    repeat ((fail_if_success (refine pl_id ?_)); go_step)
    refine w_i ?_; refine w_q ?_; refine w_q ?_; refine w_s R1 noMem ?_; clear R1; intro wc OLD R1 hg hs; refine gy4 M R2 HB HN ?_; clear M R2 HB HN; intro M R2 HB HN; clear hg hs OLD; refine w_s R2 noCmt ?_; clear R2; intro wc OLD R2 hg hs; refine gy4 M R1 HB HN ?_; clear M R1 HB HN; intro M R1 HB HN; clear hg hs OLD; refine w_q ?_; refine w_e ?_; have l1 := load_mm R1.out rfl; have l2 := load_cm R2.out rfl; (go_wp2_with fail); refine bodyPost_ret (v := .tuple #[.agg noMem, .agg noCmt, .bool false]) (results_ccs rfl rfl rfl rfl l1 l2) rfl ?_; rw [HX.out, HY.out, HF.out]; exact ⟨_, _, _, _, rfl, World.ownsRow_nil _ _ _ _, World.ownsRow_nil _ _ _ _, World.ownsRow_nil _ _ _ _, World.ownsRow_nil _ _ _ _, HB.out⟩
   | true =>
    simp only [Bool.true_and] at HE; obtain ⟨hinn, hep, hadd, hrem⟩ := HF1.out rfl; (try simp only at hinn); subst hinn; obtain ⟨hl15, hwho, hep2, hini, htg, _⟩ := HF0.out rfl rfl; (try simp only at hl15 hwho hep2 hini htg hep); have hfz := (ok_facts B1.out).1; have hin := (ok_facts hini).1; have HS := hide (And.intro hl15 (And.intro hwho (And.intro hadd (And.intro hrem (And.intro hfz (And.intro hin (And.intro htg (And.intro hep2 hep)))))))); (have i4 : IntKind.i64.wrap ((tag.size : Int) + (fresh.size : Int)) = (tag.size : Int) + (fresh.size : Int) := by simp [IntKind.wrap, IntKind.bits, IntKind.signed]; omega); clear hl15 hwho hadd hrem hep2 hep hini hfz hin htg
    by_cases h4 : tag.size + fresh.size ≤ 300
    rotate_left
    · have h4a : decide ((300 : Int) < (tag.size : Int) + (fresh.size : Int)) = true := by simp; omega
      rw [show decide (tag.size + fresh.size ≤ 300) = false by simpa using h4] at HE; clear h4; (have HF : Hid (commitB ⟨true, who, keys, own, ep, init, tag⟩ fresh add rem leaf key = false) := by show _ = _; first | (rw [HE.out]; rfl) | rw [HE.out])
      repeat ((fail_if_success (refine pl_id ?_)); go_step)
      refine w_i ?_; refine w_c M ?_; refine w_k (HOK.out _ HB.out) ?_; rw [B0.out]; rintro e wc ⟨rfl, hb⟩; refine s_k ?_; refine cy5 M R1 R2 HB HN ?_; clear M R1 R2 HB HN; intro M R1 R2 HB HN; clear hb
      (iterate 3 refine w_q ?_)
      refine w_k (sSecOk_any fresh _ HFM.out) ?_; rw [B1.out]; rintro e wc ⟨rfl, hb⟩; refine s_k ?_; refine cy5 M R1 R2 HB HN ?_; clear M R1 R2 HB HN; intro M R1 R2 HB HN; clear hb
      (iterate 4 refine w_q ?_)
      refine w_k (l1How_any fresh _ B1.out) ?_; rw [how_field]; rintro e wc ⟨rfl, hb⟩; refine s_k ?_; refine cy5 M R1 R2 HB HN ?_; clear M R1 R2 HB HN; intro M R1 R2 HB HN; clear hb; refine w_q ?_ (h := by have hfl := field_op; go_simp; all_goals rfl)
      (iterate 3 refine w_q ?_)
      refine w_c M ?_
      (iterate 4 refine w_q ?_)
      refine w_k (HMY.out _ HB.out HL15.out) ?_; rw [B3.out]; rintro e wc ⟨rfl, hb⟩; refine s_k ?_; refine cy5 M R1 R2 HB HN ?_; clear M R1 R2 HB HN; intro M R1 R2 HB HN; clear hb
      (iterate 4 refine w_q ?_)
      refine w_b M 6 ?_
      (iterate 7 refine w_q ?_); (iterate 4 refine w_n ?_); refine w_q ?_
      refine w_e ?_
      repeat ((fail_if_success (refine pl_id ?_)); go_step)
      refine w_i ?_; refine w_q ?_; refine w_q ?_; refine w_s R1 noMem ?_; clear R1; intro wc OLD R1 hg hs; refine gy4 M R2 HB HN ?_; clear M R2 HB HN; intro M R2 HB HN; clear hg hs OLD; refine w_s R2 noCmt ?_; clear R2; intro wc OLD R2 hg hs; refine gy4 M R1 HB HN ?_; clear M R1 HB HN; intro M R1 HB HN; clear hg hs OLD; refine w_q ?_; refine w_e ?_; have l1 := load_mm R1.out rfl; have l2 := load_cm R2.out rfl; (go_wp2_with fail); refine bodyPost_ret (v := .tuple #[.agg noMem, .agg noCmt, .bool false]) (results_ccs rfl rfl rfl rfl l1 l2) rfl ?_; rw [HX.out, HY.out, HF.out]; exact ⟨_, _, _, _, rfl, World.ownsRow_nil _ _ _ _, World.ownsRow_nil _ _ _ _, World.ownsRow_nil _ _ _ _, World.ownsRow_nil _ _ _ _, HB.out⟩
    have H4 := hide h4; (have h4a : decide ((300 : Int) < (tag.size : Int) + (fresh.size : Int)) = false := by simp; omega); rw [show decide (tag.size + fresh.size ≤ 300) = true by simpa using h4] at HE; simp only [Bool.true_and] at HE; clear h4
    by_cases h5 : init.size ≤ 280
    rotate_left
    · have h5a : decide ((280 : Int) < (init.size : Int)) = true := by simp; omega
      rw [show decide (init.size ≤ 280) = false by simpa using h5] at HE; clear h5; (have HF : Hid (commitB ⟨true, who, keys, own, ep, init, tag⟩ fresh add rem leaf key = false) := by show _ = _; first | (rw [HE.out]; rfl) | rw [HE.out])
      repeat ((fail_if_success (refine pl_id ?_)); go_step)
      refine w_i ?_; refine w_c M ?_; refine w_k (HOK.out _ HB.out) ?_; rw [B0.out]; rintro e wc ⟨rfl, hb⟩; refine s_k ?_; refine cy5 M R1 R2 HB HN ?_; clear M R1 R2 HB HN; intro M R1 R2 HB HN; clear hb
      (iterate 3 refine w_q ?_)
      refine w_k (sSecOk_any fresh _ HFM.out) ?_; rw [B1.out]; rintro e wc ⟨rfl, hb⟩; refine s_k ?_; refine cy5 M R1 R2 HB HN ?_; clear M R1 R2 HB HN; intro M R1 R2 HB HN; clear hb
      (iterate 4 refine w_q ?_)
      refine w_k (l1How_any fresh _ B1.out) ?_; rw [how_field]; rintro e wc ⟨rfl, hb⟩; refine s_k ?_; refine cy5 M R1 R2 HB HN ?_; clear M R1 R2 HB HN; intro M R1 R2 HB HN; clear hb; refine w_q ?_ (h := by have hfl := field_op; go_simp; all_goals rfl)
      (iterate 3 refine w_q ?_)
      refine w_c M ?_
      (iterate 4 refine w_q ?_)
      refine w_k (HMY.out _ HB.out HL15.out) ?_; rw [B3.out]; rintro e wc ⟨rfl, hb⟩; refine s_k ?_; refine cy5 M R1 R2 HB HN ?_; clear M R1 R2 HB HN; intro M R1 R2 HB HN; clear hb
      (iterate 4 refine w_q ?_)
      refine w_b M 6 ?_
      (iterate 8 refine w_q ?_)
      refine w_b M 5 ?_
      (iterate 3 refine w_q ?_)
      refine w_e ?_
      repeat ((fail_if_success (refine pl_id ?_)); go_step)
      refine w_i ?_; refine w_q ?_; refine w_q ?_; refine w_s R1 noMem ?_; clear R1; intro wc OLD R1 hg hs; refine gy4 M R2 HB HN ?_; clear M R2 HB HN; intro M R2 HB HN; clear hg hs OLD; refine w_s R2 noCmt ?_; clear R2; intro wc OLD R2 hg hs; refine gy4 M R1 HB HN ?_; clear M R1 HB HN; intro M R1 HB HN; clear hg hs OLD; refine w_q ?_; refine w_e ?_; have l1 := load_mm R1.out rfl; have l2 := load_cm R2.out rfl; (go_wp2_with fail); refine bodyPost_ret (v := .tuple #[.agg noMem, .agg noCmt, .bool false]) (results_ccs rfl rfl rfl rfl l1 l2) rfl ?_; rw [HX.out, HY.out, HF.out]; exact ⟨_, _, _, _, rfl, World.ownsRow_nil _ _ _ _, World.ownsRow_nil _ _ _ _, World.ownsRow_nil _ _ _ _, World.ownsRow_nil _ _ _ _, HB.out⟩
    (have h5a : decide ((280 : Int) < (init.size : Int)) = false := by simp; omega); rw [show decide (init.size ≤ 280) = true by simpa using h5] at HE; clear h5; have HF : Hid (commitB ⟨true, who, keys, own, ep, init, tag⟩ fresh add rem leaf key = true) := HE.out
    repeat ((fail_if_success (refine pl_id ?_)); go_step)
    refine w_i ?_; refine w_c M ?_; refine w_k (HOK.out _ HB.out) ?_; rw [B0.out]; rintro e wc ⟨rfl, hb⟩; refine s_k ?_; refine cy5 M R1 R2 HB HN ?_; clear M R1 R2 HB HN; intro M R1 R2 HB HN; clear hb
    (iterate 3 refine w_q ?_)
    refine w_k (sSecOk_any fresh _ HFM.out) ?_; rw [B1.out]; rintro e wc ⟨rfl, hb⟩; refine s_k ?_; refine cy5 M R1 R2 HB HN ?_; clear M R1 R2 HB HN; intro M R1 R2 HB HN; clear hb
    (iterate 4 refine w_q ?_)
    refine w_k (l1How_any fresh _ B1.out) ?_; rw [how_field]; rintro e wc ⟨rfl, hb⟩; refine s_k ?_; refine cy5 M R1 R2 HB HN ?_; clear M R1 R2 HB HN; intro M R1 R2 HB HN; clear hb; refine w_q ?_ (h := by have hfl := field_op; go_simp; all_goals rfl)
    (iterate 3 refine w_q ?_)
    refine w_c M ?_
    (iterate 4 refine w_q ?_)
    refine w_k (HMY.out _ HB.out HL15.out) ?_; rw [B3.out]; rintro e wc ⟨rfl, hb⟩; refine s_k ?_; refine cy5 M R1 R2 HB HN ?_; clear M R1 R2 HB HN; intro M R1 R2 HB HN; clear hb
    (iterate 4 refine w_q ?_)
    refine w_b M 6 ?_
    (iterate 8 refine w_q ?_)
    refine w_b M 5 ?_
    (iterate 3 refine w_q ?_)
    refine w_e ?_; clear h2a h2b i4 h4a h5a; obtain ⟨CX, hCX⟩ : ∃ c, commitM ⟨true, who, keys, own, ep, init, tag⟩ fresh add rem leaf = c := ⟨_, rfl⟩; obtain ⟨CY, hCY⟩ : ∃ c, commitC ⟨true, who, keys, own, ep, init, tag⟩ fresh add rem leaf key = c := ⟨_, rfl⟩; have HCX := hide hCX; have HCY := hide hCY; clear hCX hCY; obtain ⟨x1, x2, xk, xo, x3, x4, x5⟩ := CX; obtain ⟨y1, y2, y3, y4, y5, y6, yk, yb, y7, y8, y9, y10, y11⟩ := CY
    repeat ((fail_if_success (refine pl_id ?_)); go_step)
    refine w_i ?_; refine w_c M ?_
    (iterate 5 refine w_q ?_)
    refine w_k (HCM.out _ HB.out HS.out.1 HS.out.2.1 HS.out.2.2.1 HS.out.2.2.2.1 HS.out.2.2.2.2.1 HS.out.2.2.2.2.2.1 H4.out HS.out.2.2.2.2.2.2.2.1) ?_; rw [HCX.out, HCY.out]; rintro e wc ⟨ks1, os1, ks2, bs2, rfl, q1, q2, q3, q4, hb⟩; obtain ⟨k1, kc1, rfl⟩ := row_form' q1; obtain ⟨o1, oc1, rfl⟩ := row_form' q2; obtain ⟨k2, kc2, rfl⟩ := row_form' q3; obtain ⟨o2, oc2, rfl⟩ := row_form' q4; unfold Own at q1 q3; unfold OwnM at q2; unfold OwnB at q4; have K1 := hide (row_lowB q1 HB.out.size); have K2 := hide (row_lowB q2 HB.out.size); have K3 := hide (row_lowB q3 HB.out.size); have K4 := hide (row_lowB q4 HB.out.size); clear q1 q2 q3 q4; simp only at K1 K2 K3 K4 ⊢; obtain ⟨xl, hxl⟩ : ∃ n, xk.length = n := ⟨_, rfl⟩; obtain ⟨ol, hol⟩ : ∃ n, xo.length = n := ⟨_, rfl⟩; obtain ⟨yl, hyl⟩ : ∃ n, yk.length = n := ⟨_, rfl⟩; obtain ⟨bl, hbl⟩ : ∃ n, yb.length = n := ⟨_, rfl⟩; rw [hxl] at K1 ⊢; rw [hol] at K2 ⊢; rw [hyl] at K3 ⊢; rw [hbl] at K4 ⊢; have HXL := hide hxl; have HOL := hide hol; have HYL := hide hyl; have HBL := hide hbl; clear hxl hol hyl hbl; refine s_k ?_; refine cy5 M R1 R2 HB HN ?_; clear M R1 R2 HB HN; intro M R1 R2 HB HN; clear hb
    (iterate 3 refine w_q ?_)
    refine w_a noMem 62 (fun bX wc X hb hbn => ?_); refine cy9 M R1 R2 K1 K2 K3 K4 HB HN ?_; clear M R1 R2 K1 K2 K3 K4 HB HN; intro M R1 R2 K1 K2 K3 K4 HB HN; clear hb hbn; refine w_a noCmt 57 (fun bC wc C hb hbn => ?_); refine cy10 M R1 R2 X K1 K2 K3 K4 HB HN ?_; clear M R1 R2 X K1 K2 K3 K4 HB HN; intro M R1 R2 X K1 K2 K3 K4 HB HN; clear hb hbn; refine w_s X (memC x1 x2 (.slice k1 xl kc1) (.slice o1 ol oc1) x3 x4 x5) ?_; clear X; intro wc OLD X hg hs; refine gy10 M R1 R2 C K1 K2 K3 K4 HB HN ?_; clear M R1 R2 C K1 K2 K3 K4 HB HN; intro M R1 R2 C K1 K2 K3 K4 HB HN; clear hg hs OLD; refine w_s C (cmtC y1 y2 y3 y4 y5 y6 (.slice k2 yl kc2) (.slice o2 bl oc2) y7 y8 y9 y10 y11) ?_; clear C; intro wc OLD C hg hs; refine gy10 M R1 R2 X K1 K2 K3 K4 HB HN ?_; clear M R1 R2 X K1 K2 K3 K4 HB HN; intro M R1 R2 X K1 K2 K3 K4 HB HN; clear hg hs OLD; refine w_e ?_
    repeat go_step
    refine r_g (KeepL ([bX, bC] : List Nat)) (fun wc hb hsq => ?_); clear hsq; refine cy11 M R1 R2 X C K1 K2 K3 K4 HB HN ?_; clear M R1 R2 X C K1 K2 K3 K4 HB HN; intro M R1 R2 X C K1 K2 K3 K4 HB HN; clear hb; refine r_q 0 ?_ (h := by intro w' hw'; have x := (Blk.keepL X.out hw' (by simp)).c7; go_simp; all_goals rfl); refine r_q 1 ?_ (h := by intro w' hw'; have x := (Blk.keepL C.out hw' (by simp)).c13; go_simp; all_goals rfl); refine r_1 2 (fun K hK => ?_); refine op_rw R1 (memC x1 x2 (.slice k1 xl kc1) (.slice o1 ol oc1) x3 x4 x5) ?_; clear R1; intro wc OLD R1 hg hs; refine sr hK ?_ (r := (keepL_grown hg (fun x hx => by have q := HN.out; simp at hx; omega))); clear hK; refine gy10 M R2 X C K1 K2 K3 K4 HB HN ?_; clear M R2 X C K1 K2 K3 K4 HB HN; intro M R2 X C K1 K2 K3 K4 HB HN; clear hg hs OLD; refine r_1 3 (fun K hK => ?_); refine op_rw R2 (cmtC y1 y2 y3 y4 y5 y6 (.slice k2 yl kc2) (.slice o2 bl oc2) y7 y8 y9 y10 y11) ?_; clear R2; intro wc OLD R2 hg hs; refine sr hK ?_ (r := (keepL_grown hg (fun x hx => by have q := HN.out; simp at hx; omega))); clear hK; refine gy10 M R1 X C K1 K2 K3 K4 HB HN ?_; clear M R1 X C K1 K2 K3 K4 HB HN; intro M R1 X C K1 K2 K3 K4 HB HN; clear hg hs OLD; refine r_q 4 ?_; refine r_e ?_; have l1 := load_mm R1.out rfl; have l2 := load_cm R2.out rfl; (go_wp2_with fail); refine bodyPost_ret (v := .tuple #[.agg (memC x1 x2 (.slice k1 xl kc1) (.slice o1 ol oc1) x3 x4 x5), .agg (cmtC y1 y2 y3 y4 y5 y6 (.slice k2 yl kc2) (.slice o2 bl oc2) y7 y8 y9 y10 y11), .bool true]) (results_ccs rfl rfl rfl rfl l1 l2) rfl ?_; rw [HX.out, HY.out, HF.out, if_pos rfl, if_pos rfl, HCX.out, HCY.out]; exact ⟨_, _, _, _, rfl, own_of K1.out HXL.out, ownM_of K2.out HOL.out, own_of K3.out HYL.out, ownB_of K4.out HBL.out, HB.out⟩
def goA (W : Wld) (k : Nat) (add rem : Int) : Wld :=
  if W.log.length = 16 ∨ 99 ≤ W.fresh.getD k 0 ∨ add ≠ -1 then W
  else if commitB (W.seats.getD k Mem.none) (mkNew (k : Int) (W.fresh.getD k 0 + 1)) (-1) rem ⟨#[]⟩ ⟨#[]⟩ = true then
    { W with seats := W.seats.set k (commitX (W.seats.getD k Mem.none) (mkNew (k : Int) (W.fresh.getD k 0 + 1)) (-1) rem ⟨#[]⟩ ⟨#[]⟩), log := W.log ++ [commitY (W.seats.getD k Mem.none) (mkNew (k : Int) (W.fresh.getD k 0 + 1)) (-1) rem ⟨#[]⟩ ⟨#[]⟩], fresh := W.fresh.set k (W.fresh.getD k 0 + 1) }
  else W
def goB (W : Wld) (k a : Nat) (rem : Int) : Wld :=
  if W.log.length = 16 ∨ 99 ≤ W.fresh.getD k 0 ∨ 98 ≤ W.fresh.getD a 0 then W
  else if commitB (W.seats.getD k Mem.none) (mkNew (k : Int) (W.fresh.getD k 0 + 1)) (a : Int) rem (mkKey (mkNew (a : Int) (W.fresh.getD a 0 + 1))) (mkKey (mkNew (a : Int) (W.fresh.getD a 0 + 2))) = true then
    { W with seats := W.seats.set k (commitX (W.seats.getD k Mem.none) (mkNew (k : Int) (W.fresh.getD k 0 + 1)) (a : Int) rem (mkKey (mkNew (a : Int) (W.fresh.getD a 0 + 1))) (mkKey (mkNew (a : Int) (W.fresh.getD a 0 + 2)))), log := W.log ++ [commitY (W.seats.getD k Mem.none) (mkNew (k : Int) (W.fresh.getD k 0 + 1)) (a : Int) rem (mkKey (mkNew (a : Int) (W.fresh.getD a 0 + 1))) (mkKey (mkNew (a : Int) (W.fresh.getD a 0 + 2)))],
             fresh := (W.fresh.set k (W.fresh.getD k 0 + 1)).set a ((W.fresh.set k (W.fresh.getD k 0 + 1)).getD a 0 + 2), waits := W.waits ++ [⟨(a : Int), (W.log.length : Int), mkNew (a : Int) (W.fresh.getD a 0 + 1), mkNew (a : Int) (W.fresh.getD a 0 + 2)⟩] }
  else W
def goW (W : Wld) (k : Nat) (add rem : Int) : Wld := if 0 ≤ add ∧ add ≤ 7 then goB W k add.toNat rem else goA W k add rem
abbrev evC (kd who add rem pos : Int) (text : ByteArray) : Array Value := #[.int .i64 kd, .int .i64 who, .int .i64 add, .int .i64 rem, .int .i64 pos, .string text]
theorem info_wt : (Tryz.prog.info? 81).map (·.size) = some 4 := by kernel_rfl
theorem one_wt (a b : Int) (c d : ByteArray) : (wtC a b c d).all (·.oneCell') = true := by simp [Value.oneCell']
theorem rowT_wt : RowT Tryz.prog 32 81 4 48 := rowT_of (show Tryz.prog.underlying 32 = some (.slice 81) by kernel_rfl) (show (Tryz.prog.info? 81).map (fun i => (i.zero, i.size, i.bytes)) = some (some (.agg #[.int .i64 0, .int .i64 0, .string ⟨#[]⟩, .string ⟨#[]⟩]), 4, 48) by kernel_rfl) rfl (by decide)
theorem rowT_cm : RowT Tryz.prog 33 57 13 200 := rowT_of (show Tryz.prog.underlying 33 = some (.slice 57) by kernel_rfl) (show (Tryz.prog.info? 57).map (fun i => (i.zero, i.size, i.bytes)) = some (some (.agg noCmt), 13, 200) by kernel_rfl) rfl (by decide)
theorem mkNew_max (a b : Int) : (mkNew a b).size ≤ maxLen := by
 unfold mkNew maxLen; split
 · rcases newName_sizes a.toNat b.toNat with h | h <;> omega
 · show 0 ≤ _; omega
theorem mkKey_max (s : ByteArray) : (mkKey s).size ≤ maxLen := by
 unfold mkKey maxLen; split
 · unfold cap; split
   · omega
   · show 0 ≤ _; omega
 · show 0 ≤ _; omega
end Go.Proofs.YtdfpeaenbmgihaaGreat
