/-
  append of all of one row onto a slice of the call's own, whatever the row is, none too. No Go function in it.
-/
import Derived.Test.YtgdhlnfigcaepaaFnWinTakeB4
import Derived.Laws.OwnMore
import Derived.Lib.AppendZeros
import Derived.Test.YtgdhlnfigcaepaaFnWinTakeB6
import Derived.ArgAppend
import Derived.Deep.Upon
import Derived.Test.YtgdhlnfigcaepaaFnWinTakeB7
namespace Go.Proofs.Ytgdhlnfigcaepaa
open Go.RowKit

section
variable {P : Program} (w : World)
theorem grownBy_refl (r : Option Nat) : w.grownBy w r := ⟨rfl, rfl, rfl, Nat.le_refl _, fun _ _ _ => rfl⟩
theorem wpList_append_row {ops : Array Oper} {rest : List Oper} {o : Oper} {a : Act} {Q : Exit → Act → World → Prop} (hgd : o.guard = none) (s x : Operand) (t : TypeId)
    (ho : o.op = .call { callee := .builtin .append, args := #[s, x], argTypes := #[t, t] })
    (base : Nat) (e : TypeId) (i : TypeInfo) (z : Value) (size bytes : Nat) (ht : P.underlying t = some (.slice e)) (hi : P.info? e = some i) (hz : i.zero = some z)
    (hsize : i.size = size) (hby : i.bytes = bytes) (hzs : z.cells.size = size) (hsz : 0 < size)
    (v : Value) (n : Nat) (xs : List Value) (hs : a.eval s = v) (hown : w.ownsRow base e size v n xs)
    (y : Value) (m : Nat) (news : List Value) (hx : a.eval x = y)
    (hy : (y = .slice none 0 0 ∧ m = 0 ∧ news = []) ∨ ∃ ad c, y = .slice (some ad) m c ∧ news.length = m * size ∧ ∀ j u, news[j]? = some u → w.cell? (ad.add j) = some u) (h1 : ∀ u ∈ news, u.oneCell' = true)
    (h63 : n + m ≤ maxLen) (hbytes : (n + m) * bytes ≤ 140737488355328) (hbase : base ≤ w.heap.size)
    (h : ∀ v' w', w'.ownsRow base e size v' (n + m) (xs ++ news) → w.grownBy w' v.ownBlock → wpList P ops Q rest (a.put o.dst v') w') : wpList P ops Q (o :: rest) a w := by
  rcases hy with ⟨rfl, rfl, rfl⟩ | ⟨ad, c, rfl, hl, hnews⟩
  · refine wpList_plain hgd fun _ hK => ?_
    refine Go.Lib.wp_append_run w s x t t ho v (.slice none 0 0) hs hx v w (run_append_owned_none _ base t o.type e i size ht hi v n xs hown) (hK _ _ (h v w (by simpa using hown) (grownBy_refl w _)))
  · exact wpList_append_own _ hgd s x t ho base e i z size bytes ht hi hz hsize hby hzs hsz v n xs hs hown ad m c news hx hl hnews h1 h63 hbytes hbase (fun v' w' h2 h3 _ => h v' w' h2 h3)
end

section
variable {P : Program} (w : World)
theorem wp_append_row {o : Oper} {a : Act} {K : Act → World → Prop} {Q : Exit → Act → World → Prop} (s x : Operand) (t : TypeId)
    (ho : o.op = .call { callee := .builtin .append, args := #[s, x], argTypes := #[t, t] })
    (base : Nat) (e : TypeId) (i : TypeInfo) (z : Value) (size bytes : Nat) (ht : P.underlying t = some (.slice e)) (hi : P.info? e = some i) (hz : i.zero = some z)
    (hsize : i.size = size) (hby : i.bytes = bytes) (hzs : z.cells.size = size) (hsz : 0 < size)
    (v : Value) (n : Nat) (xs : List Value) (hs : a.eval s = v) (hown : w.ownsRow base e size v n xs)
    (y : Value) (m : Nat) (news : List Value) (hx : a.eval x = y)
    (hy : (y = .slice none 0 0 ∧ m = 0 ∧ news = []) ∨ ∃ ad c, y = .slice (some ad) m c ∧ news.length = m * size ∧ ∀ j u, news[j]? = some u → w.cell? (ad.add j) = some u) (h1 : ∀ u ∈ news, u.oneCell' = true)
    (h63 : n + m ≤ maxLen) (hbytes : (n + m) * bytes ≤ 140737488355328) (hbase : base ≤ w.heap.size)
    (h : ∀ v' w', w'.ownsRow base e size v' (n + m) (xs ++ news) → w.grownBy w' v.ownBlock → K (a.put o.dst v') w') : o.wp P a w K Q := by
  rcases hy with ⟨rfl, rfl, rfl⟩ | ⟨ad, c, rfl, hl, hnews⟩
  · exact Go.Lib.wp_append_run w s x t t ho v (.slice none 0 0) hs hx v w (run_append_owned_none _ base t o.type e i size ht hi v n xs hown) (h v w (by simpa using hown) (grownBy_refl w _))
  · exact wp_append_own w s x t ho base e i z size bytes ht hi hz hsize hby hzs hsz v n xs hs hown ad m c news hx hl hnews h1 h63 hbytes hbase (fun v' w' h2 h3 _ => h v' w' h2 h3)
end

/-- A row of numbers as what is appended. -/
theorem IRow.news {w : World} {v : Value} {xs : List Int} (h : IRow w v xs) :
    (v = .slice none 0 0 ∧ xs.length = 0 ∧ xs.map (Value.int .i64) = []) ∨ ∃ ad c, v = .slice (some ad) xs.length c ∧ (xs.map (Value.int .i64)).length = xs.length * 1 ∧ ∀ j u, (xs.map (Value.int .i64))[j]? = some u → w.cell? (ad.add j) = some u := by
  rcases h with ⟨rfl, rfl⟩ | ⟨a, cap, rfl, h1, h2, h3⟩
  · exact .inl ⟨rfl, rfl, rfl⟩
  · refine .inr ⟨a, cap, rfl, by simp, fun j u hj => ?_⟩
    rw [List.getElem?_map] at hj
    cases hx : xs[j]? with
    | none => rw [hx] at hj; cases hj
    | some x =>
      rw [hx] at hj
      have hlt := (List.getElem?_eq_some_iff.1 hx).1
      rw [h3 j hlt, List.getD_eq_getElem?_getD, hx]
      simpa using hj
/-- A row of texts as what is appended. -/
theorem SRow.news {w : World} {v : Value} {xs : List ByteArray} (h : SRow w v xs) :
    (v = .slice none 0 0 ∧ xs.length = 0 ∧ xs.map Value.string = []) ∨ ∃ ad c, v = .slice (some ad) xs.length c ∧ (xs.map Value.string).length = xs.length * 1 ∧ ∀ j u, (xs.map Value.string)[j]? = some u → w.cell? (ad.add j) = some u := by
  rcases h with ⟨rfl, rfl⟩ | ⟨a, cap, rfl, h1, h2, h3⟩
  · exact .inl ⟨rfl, rfl, rfl⟩
  · refine .inr ⟨a, cap, rfl, by simp, fun j u hj => ?_⟩
    rw [List.getElem?_map] at hj
    cases hx : xs[j]? with
    | none => rw [hx] at hj; cases hj
    | some x =>
      rw [hx] at hj
      have hlt := (List.getElem?_eq_some_iff.1 hx).1
      rw [h3 j hlt, List.getD_eq_getElem?_getD, hx]
      simpa using hj
theorem texts_one (xs : List ByteArray) : ∀ u ∈ xs.map Value.string, u.oneCell' = true := by
  intro u hu
  obtain ⟨x, _, rfl⟩ := List.mem_map.1 hu
  rfl
theorem ints_one (xs : List Int) : ∀ u ∈ xs.map (Value.int .i64), u.oneCell' = true := by
  intro u hu
  obtain ⟨x, _, rfl⟩ := List.mem_map.1 hu
  rfl
#print axioms IRow.news
end Go.Proofs.Ytgdhlnfigcaepaa
/-
  append onto a slice of the call's own that has no room to spare: nothing that was there is written. No Go function in it.
-/
namespace Go.Proofs.Ytgdhlnfigcaepaa
open Go.RowKit

theorem later_grown {w w' : World} (h : w.grownBy w' none) : Later w w' := (Below.refl _ _).grown h (Nat.le_refl _) (fun k hk => by cases hk)
section
variable {P : Program} (w : World)
theorem run_append_full (base : Nat) (t ty e : TypeId) (i : TypeInfo) (z : Value) (size bytes : Nat) (ht : P.underlying t = some (.slice e)) (hi : P.info? e = some i) (hz : i.zero = some z)
    (hsize : i.size = size) (hby : i.bytes = bytes) (hzs : z.cells.size = size) (hsz : 0 < size)
    (g n : Nat) (xs : List Value) (hown : w.ownsRow base e size (.slice (some ⟨g, 0, none⟩) n n) n xs)
    (y : Value) (m : Nat) (news : List Value)
    (hy : (y = .slice none 0 0 ∧ m = 0 ∧ news = []) ∨ ∃ ad c, y = .slice (some ad) m c ∧ news.length = m * size ∧ ∀ j u, news[j]? = some u → w.cell? (ad.add j) = some u)
    (h63 : n + m ≤ maxLen) (hbytes : (n + m) * bytes ≤ 140737488355328) (hbase : base ≤ w.heap.size) :
    ∃ g' c' w', (Builtin.append_ #[t, t] ty #[.slice (some ⟨g, 0, none⟩) n n, y]).run P w = .ok (.slice (some ⟨g', 0, none⟩) (n + m) c') w' ∧ w'.ownsRow base e size (.slice (some ⟨g', 0, none⟩) (n + m) c') (n + m) (xs ++ news) ∧ Later w w' := by
  rcases hy with ⟨rfl, rfl, rfl⟩ | ⟨ad, c, rfl, hl, hnews⟩
  · refine ⟨g, n, w, ?_, by simpa using hown, laterPre.refl _⟩
    exact run_append_owned_none w base t ty e i size ht hi _ n xs hown
  · by_cases hm : m = 0
    · subst hm
      have hn : news = [] := List.eq_nil_of_length_eq_zero (by simpa using hl)
      subst hn
      refine ⟨g, n, w, ?_, by simpa using hown, laterPre.refl _⟩
      simp [Builtin.append_, run_underlying ht, sizeOf, typeInfo, hi, Builtin.lenOf, Builtin.firstCells, loadCells, loadCellsFrom, storeCells]
    · have holds : ∀ j u, xs[j]? = some u → w.cell? ((⟨g, 0, none⟩ : Addr).add j) = some u := hown.cells (g := g) rfl
      obtain ⟨v', w', h1, h2, h3⟩ := run_append_arg_grows (P := P) w t ty e i z size bytes ht hi hz hsize hby hzs hsz ⟨g, 0, none⟩ n n xs hown.1 holds ad m c news hl hnews (by omega) h63 hbytes
      rcases h2.2 with ⟨rfl, q⟩ | ⟨g', cap, cur, rfl, q1, q2, q3⟩
      · omega
      · exact ⟨g', cap, w', h1, ⟨h2.1, .inr ⟨g', cap, cur, rfl, Nat.le_trans hbase q1, q2, q3⟩⟩, later_grown h3⟩
theorem wp_append_full {o : Oper} {a : Act} {K : Act → World → Prop} {Q : Exit → Act → World → Prop} (s x : Operand) (t : TypeId)
    (ho : o.op = .call { callee := .builtin .append, args := #[s, x], argTypes := #[t, t] })
    (base : Nat) (e : TypeId) (i : TypeInfo) (z : Value) (size bytes : Nat) (ht : P.underlying t = some (.slice e)) (hi : P.info? e = some i) (hz : i.zero = some z)
    (hsize : i.size = size) (hby : i.bytes = bytes) (hzs : z.cells.size = size) (hsz : 0 < size)
    (g n : Nat) (xs : List Value) (hs : a.eval s = .slice (some ⟨g, 0, none⟩) n n) (hown : w.ownsRow base e size (.slice (some ⟨g, 0, none⟩) n n) n xs)
    (y : Value) (m : Nat) (news : List Value) (hx : a.eval x = y)
    (hy : (y = .slice none 0 0 ∧ m = 0 ∧ news = []) ∨ ∃ ad c, y = .slice (some ad) m c ∧ news.length = m * size ∧ ∀ j u, news[j]? = some u → w.cell? (ad.add j) = some u)
    (h63 : n + m ≤ maxLen) (hbytes : (n + m) * bytes ≤ 140737488355328) (hbase : base ≤ w.heap.size)
    (h : ∀ g' c' w', w'.ownsRow base e size (.slice (some ⟨g', 0, none⟩) (n + m) c') (n + m) (xs ++ news) → Later w w' → K (a.put o.dst (.slice (some ⟨g', 0, none⟩) (n + m) c')) w') : o.wp P a w K Q := by
  obtain ⟨g', c', w', hr, h2, h3⟩ := run_append_full (P := P) w base t o.type e i z size bytes ht hi hz hsize hby hzs hsz g n xs hown y m news hy h63 hbytes hbase
  unfold Oper.wp execOp
  simp only [ho, resolve, invoke, builtin, Sem.run_bind, Sem.run_pure, Result.andThen_ok, List.map_toArray, List.map_cons, List.map_nil, hs, hx, hr]
  exact h g' c' w' h2 h3
theorem wpList_append_full {ops : Array Oper} {rest : List Oper} {o : Oper} {a : Act} {Q : Exit → Act → World → Prop} (hgd : o.guard = none) (s x : Operand) (t : TypeId)
    (ho : o.op = .call { callee := .builtin .append, args := #[s, x], argTypes := #[t, t] })
    (base : Nat) (e : TypeId) (i : TypeInfo) (z : Value) (size bytes : Nat) (ht : P.underlying t = some (.slice e)) (hi : P.info? e = some i) (hz : i.zero = some z)
    (hsize : i.size = size) (hby : i.bytes = bytes) (hzs : z.cells.size = size) (hsz : 0 < size)
    (g n : Nat) (xs : List Value) (hs : a.eval s = .slice (some ⟨g, 0, none⟩) n n) (hown : w.ownsRow base e size (.slice (some ⟨g, 0, none⟩) n n) n xs)
    (y : Value) (m : Nat) (news : List Value) (hx : a.eval x = y)
    (hy : (y = .slice none 0 0 ∧ m = 0 ∧ news = []) ∨ ∃ ad c, y = .slice (some ad) m c ∧ news.length = m * size ∧ ∀ j u, news[j]? = some u → w.cell? (ad.add j) = some u)
    (h63 : n + m ≤ maxLen) (hbytes : (n + m) * bytes ≤ 140737488355328) (hbase : base ≤ w.heap.size)
    (h : ∀ g' c' w', w'.ownsRow base e size (.slice (some ⟨g', 0, none⟩) (n + m) c') (n + m) (xs ++ news) → Later w w' → wpList P ops Q rest (a.put o.dst (.slice (some ⟨g', 0, none⟩) (n + m) c')) w') : wpList P ops Q (o :: rest) a w :=
  wpList_plain hgd fun _ hK => wp_append_full w s x t ho base e i z size bytes ht hi hz hsize hby hzs hsz g n xs hs hown y m news hx hy h63 hbytes hbase (fun g' c' w' h1 h2 => hK _ _ (h g' c' w' h1 h2))
end
/-- What a row of the call's own is as what is appended. -/
theorem own_news {w : World} {B : Nat} {e : TypeId} {size : Nat} {v : Value} {n : Nat} {xs : List Value} (h : w.ownsRow B e size v n xs) :
    (v = .slice none 0 0 ∧ n = 0 ∧ xs = []) ∨ ∃ ad c, v = .slice (some ad) n c ∧ xs.length = n * size ∧ ∀ j u, xs[j]? = some u → w.cell? (ad.add j) = some u := by
  rcases h.2 with ⟨h1, h2⟩ | ⟨g, cap, cur, h1, _⟩
  · subst h2
    exact .inl ⟨h1, rfl, List.eq_nil_of_length_eq_zero (by simpa using h.1)⟩
  · subst h1
    exact .inr ⟨_, cap, rfl, h.1, h.cells (g := g) rfl⟩
theorem later_alloc (w : World) (o : Obj) : Later w (w.alloc o) := (Below.refl _ _).alloc (Nat.le_refl _) _
#print axioms wpList_append_full
end Go.Proofs.Ytgdhlnfigcaepaa
/-
  The specification's WinTake.
-/
namespace Go.Proofs.Ytgdhlnfigcaepaa
open Go.RowKit

theorem take_key (x : Win) (n : Int) : (takeW x n).1.key = x.key := by unfold takeW tookW; split <;> rfl
theorem own_none (B : Nat) (w : World) : OwnI B w (.slice none 0 0) [] := ⟨rfl, .inl ⟨rfl, rfl⟩⟩
/-- A window behind a number that is ok. -/
theorem take_seen {x : Win} {n : Int} (hx : winOk x = true) (hn : 1 ≤ n ∧ n ≤ 999) : winOk (takeW x n).1 = true := by
  unfold takeW
  cases h : lateB x n with
  | true => simpa using hx
  | false => simpa using (took_facts hx hn h).1

set_option maxRecDepth 100000 in
set_option maxHeartbeats 4000000 in
theorem sWinTake_any (x : Win) (v : Value) (n : Int) (w : World) (hI : IRow w v x.seen) (hm : x.key.size ≤ maxLen) (hl : x.seen.length ≤ 2000000) :
    Calls Try.prog 23 #[.agg (x.cells v), .int .i64 n] w fun e w' => ∃ v', e = .returned (.tuple #[.agg ((winTake x n).1.cells v'), .bool (winTake x n).2]) ∧ OwnI w.heap.size w' v' (winTake x n).1.seen ∧ Below w.heap.size w w' := by
  have HT : Hid (winTake x n = if winOk x = true ∧ inB 1 999 n = true then takeW x n else (Win.none, false)) := rfl
  have HO := hide (sWinOk_any x v)
  have HTK := hide (l6Take_any x v n)
  have HTS : Hid (winOk x = true → 1 ≤ n ∧ n ≤ 999 → winOk (takeW x n).1 = true) := fun a b => take_seen a b
  have HTR : Hid (∀ B w' v', TakeR B x n v w' v' = ((lateB x n = true → v' = v) ∧ (lateB x n = false → OwnI B w' v' (tookW x n).seen))) := fun _ _ _ => rfl
  have HTE : Hid (takeW x n = if lateB x n = true then (x, false) else (tookW x n, true)) := rfl
  have HWF : Hid (winOk x = true → 1 ≤ x.top ∧ x.top ≤ 999 ∧ x.seen.length ≤ 8) := fun q => ⟨(win_facts q).2.2.1.1, (win_facts q).2.2.1.2, falls_len (win_facts q).2.2.2 (win_facts q).2.2.1.1⟩
  have HI := hide hI
  obtain ⟨i0, hi, hz0, hz1, hz2⟩ := info_parts info_int2
  have hIn := hide (And.intro hi (And.intro hz0 (And.intro hz1 hz2)))
  clear hi hz0 hz1 hz2
  obtain ⟨key, top, xs⟩ := x
  simp only at hI hl hm HWF HTR HI ⊢
  have M := hide hm
  have HLN := hide hl
  obtain ⟨ao, cap, rfl, _, _, _⟩ := hI.form
  clear hI hm hl
  have a1' := ((Blk.new w 35 (winC key top (.slice ao xs.length cap))).alloc (.cells noWin 35))
  have r1' := Blk.new (w.alloc (.cells (winC key top (.slice ao xs.length cap)) 35)) 35 noWin
  have HB := hide (((Below.refl w.heap.size w).alloc (Nat.le_refl _) (.cells (winC key top (.slice ao xs.length cap)) 35)).alloc (by simp) (.cells noWin 35))
  simp only [World.size_alloc] at r1'
  have A := hide a1'
  have R := hide r1'
  clear a1' r1'
  have L0 := hide (load_wi (unhide A) rfl)
  go_enter Try.func23, Try.ntmps23
  go_wp2_with (refine wpList_load_whole rfl 35 _ rfl ⟨w.heap.size, 0, none⟩ rfl _ (by exact unhide L0) ?_)
  generalize (w.alloc (.cells (winC key top (.slice ao xs.length cap)) 35)).alloc (.cells noWin 35) = W0 at *
  refine ((unhide HO) _ ((unhide HI).below HB.out) M.out HLN.out).mono ?_
  obtain ⟨b0, hb0⟩ : ∃ b, winOk ⟨key, top, xs⟩ = b := ⟨_, rfl⟩
  rw [hb0]
  have H0 := hide hb0
  clear hb0 L0
  cases b0 with
  | false =>
    rintro e w1 ⟨rfl, hb⟩
    replace A := hide ((unhide A).below hb)
    replace R := hide ((unhide R).below hb)
    replace HB := hide (HB.out.trans (hb.mono HB.out.size))
    clear hb
    have HF : Hid (winTake ⟨key, top, xs⟩ n = (Win.none, false)) := by show _ = _; rw [HT.out, if_neg (by rw [H0.out]; simp)]
    have L1 := hide (load_wi ((unhide R).set noWin) rfl)
    go_wp2_with (refine wpList_store_whole rfl 35 (.tmp 4) (.tmp 16) rfl (w.heap.size + 1) noWin ?hx1 ?hy1 35 noWin ?hb1 ?hi1 ?ho1 ?h11 ?h1)
    any_goals (first | rfl | exact unhide R | exact info_wi | exact one_wi _ _ _ _ _)
    go_wp2_with fail
    refine bodyPost_ret (v := .tuple #[.agg noWin, .bool false]) (results_cs rfl rfl rfl (unhide L1)) rfl ?_
    rw [HF.out]
    exact ⟨_, rfl, own_none _ _, below_blk HB.out (by omega) _⟩
  | true =>
    rintro e w1 ⟨rfl, hb⟩
    replace A := hide ((unhide A).below hb)
    replace R := hide ((unhide R).below hb)
    replace HB := hide (HB.out.trans (hb.mono HB.out.size))
    clear hb
    go_wp2_with fail
    refine (l1In_any n 1 999 _).mono ?_
    obtain ⟨b1, hb1⟩ : ∃ b, inB 1 999 n = b := ⟨_, rfl⟩
    rw [hb1]
    have H1 := hide hb1
    clear hb1
    cases b1 with
    | false =>
      rintro e wz ⟨rfl, rfl⟩
      have HF : Hid (winTake ⟨key, top, xs⟩ n = (Win.none, false)) := by show _ = _; rw [HT.out, if_neg (by rw [H1.out]; simp)]
      have L1 := hide (load_wi ((unhide R).set noWin) rfl)
      go_wp2_with (refine wpList_store_whole rfl 35 (.tmp 4) (.tmp 16) rfl (w.heap.size + 1) noWin ?hx2 ?hy2 35 noWin ?hb2 ?hi2 ?ho2 ?h12 ?h2)
      any_goals (first | rfl | exact unhide R | exact info_wi | exact one_wi _ _ _ _ _)
      go_wp2_with fail
      refine bodyPost_ret (v := .tuple #[.agg noWin, .bool false]) (results_cs rfl rfl rfl (unhide L1)) rfl ?_
      rw [HF.out]
      exact ⟨_, rfl, own_none _ _, below_blk HB.out (by omega) _⟩
    | true =>
      rintro e wz ⟨rfl, rfl⟩
      have hn : 1 ≤ n ∧ n ≤ 999 := by have := H1.out; unfold inB at this; simpa using this
      have HF : Hid (winTake ⟨key, top, xs⟩ n = takeW ⟨key, top, xs⟩ n) := by show _ = _; rw [HT.out, if_pos ⟨H0.out, H1.out⟩]
      obtain ⟨ht1, ht2, hlen⟩ := HWF.out H0.out
      have L0 := hide (load_wi (unhide A) rfl)
      go_wp2_with (refine wpList_load_whole rfl 35 _ rfl ⟨w.heap.size, 0, none⟩ rfl _ (by exact unhide L0) ?_)
      refine ((unhide HTK) _ ((unhide HI).below HB.out) (by omega) (by omega) (by omega)).mono ?_
      rintro e w2 ⟨v2, rfl, htr, hb⟩
      have HSW := hide (HTS.out H0.out hn)
      have HTR2 : Hid (IRow w2 v2 (takeW ⟨key, top, xs⟩ n).1.seen) := by
        show IRow _ _ _
        rw [HTR.out] at htr
        rw [HTE.out]
        cases q : lateB ⟨key, top, xs⟩ n with
        | true => rw [htr.1 q, if_pos rfl]; exact (unhide HI).below (HB.out.trans (hb.mono HB.out.size))
        | false => rw [if_neg (by simp)]; exact (htr.2 q).irow
      replace A := hide ((unhide A).below hb)
      replace R := hide ((unhide R).below hb)
      replace HB := hide (HB.out.trans (hb.mono HB.out.size))
      clear hb htr L0 HTK HTE HTS HTR HO HT HI HLN HWF
      generalize takeW ⟨key, top, xs⟩ n = T at *
      obtain ⟨⟨tk, tt, ts⟩, tb⟩ := T
      simp only at HTR2 HSW HF ⊢
      have hlen2 : ts.length ≤ 8 := falls_len (win_facts HSW.out).2.2.2 (win_facts HSW.out).2.2.1.1
      obtain ⟨so, sc, rfl, _, _, _⟩ := (unhide HTR2).form
      have X := hide (Blk.new w2 35 (winC tk tt (.slice so ts.length sc)))
      have BA : Hid (Below w2.heap.size w2 (w2.alloc (.cells (winC tk tt (.slice so ts.length sc)) 35))) := (Below.refl _ _).alloc (Nat.le_refl _) _
      have RL0 := unhide R
      replace R := hide ((unhide R).below BA.out)
      replace HTR2 := hide ((unhide HTR2).below BA.out)
      have hxb : w.heap.size + 1 < w2.heap.size := RL0.lt
      clear RL0
      replace HB := hide (HB.out.trans (BA.out.mono HB.out.size))
      clear BA
      go_wp2_with fail
      generalize w2.alloc (.cells (winC tk tt (.slice so ts.length sc)) 35) = W2 at *
      generalize w2.heap.size = xb at *
      replace X := hide ((unhide X).drew)
      replace R := hide ((unhide R).drew)
      replace HTR2 := hide (IRow.drew (unhide HTR2))
      replace HB : Hid (Below w.heap.size w W2.drew) := HB.out.drew
      have cA : W2.drew.cell? ⟨xb, 0, none⟩ = some (.string tk) := (unhide X).cell 0
      have cB : W2.drew.cell? ⟨xb, 1, none⟩ = some (.int .i64 tt) := (unhide X).cell 1
      have cC : W2.drew.cell? ⟨xb, 2, none⟩ = some (.slice so ts.length sc) := (unhide X).cell 2
      have C4 := hide (And.intro cA (And.intro cB cC))
      have hxl : xb < W2.drew.heap.size := cell_lt cA
      clear cA cB cC A
      refine wp_region_ord ((KeepC ([⟨xb, 0, none⟩, ⟨xb, 1, none⟩, ⟨xb, 2, none⟩] : List Addr))) (by kernel_rfl) ?_
      refine ord_take (keepCPre _) (i := 0) (d := 23) (v := ?_) (by kernel_rfl) (by kernel_rfl) (by kernel_rfl) (by kernel_rfl) (fun _ _ _ h => h) (fun oi hoi => ?_) ?_
      rotate_left
      · simp at hoi
        subst hoi
        refine ⟨by rfl, fun w' hw' => ?_⟩
        go_simp
        all_goals rfl
      try simp only [Act.put, List.setIfInBounds_toArray, List.set_cons_zero, List.set_cons_succ]
      refine ord_take (keepCPre _) (i := 1) (d := 24) (v := ?_) (by kernel_rfl) (by kernel_rfl) (by kernel_rfl) (by kernel_rfl) (fun _ _ _ h => h) (fun oi hoi => ?_) ?_
      rotate_left
      · simp at hoi
        subst hoi
        refine ⟨by rfl, fun w' hw' => ?_⟩
        have xq := (hw' ⟨xb, 0, none⟩ (by simp)).trans C4.out.1
        go_simp
        all_goals rfl
      try simp only [Act.put, List.setIfInBounds_toArray, List.set_cons_zero, List.set_cons_succ]
      refine ord_take (keepCPre _) (i := 2) (d := 25) (v := ?_) (by kernel_rfl) (by kernel_rfl) (by kernel_rfl) (by kernel_rfl) (fun _ _ _ h => h) (fun oi hoi => ?_) ?_
      rotate_left
      · simp at hoi
        subst hoi
        refine ⟨by rfl, fun w' hw' => ?_⟩
        go_simp
        all_goals rfl
      try simp only [Act.put, List.setIfInBounds_toArray, List.set_cons_zero, List.set_cons_succ]
      refine ord_take (keepCPre _) (i := 3) (d := 26) (v := ?_) (by kernel_rfl) (by kernel_rfl) (by kernel_rfl) (by kernel_rfl) (fun _ _ _ h => h) (fun oi hoi => ?_) ?_
      rotate_left
      · simp at hoi
        subst hoi
        refine ⟨by rfl, fun w' hw' => ?_⟩
        have xq := (hw' ⟨xb, 1, none⟩ (by simp)).trans C4.out.2.1
        go_simp
        all_goals rfl
      try simp only [Act.put, List.setIfInBounds_toArray, List.set_cons_zero, List.set_cons_succ]
      refine ord_take (keepCPre _) (i := 5) (d := 28) (v := ?_) (by kernel_rfl) (by kernel_rfl) (by kernel_rfl) (by kernel_rfl) (fun _ _ _ h => h) (fun oi hoi => ?_) ?_
      rotate_left
      · simp at hoi
        subst hoi
        refine ⟨by rfl, fun w' hw' => ?_⟩
        go_simp
        all_goals rfl
      try simp only [Act.put, List.setIfInBounds_toArray, List.set_cons_zero, List.set_cons_succ]
      refine ord_take (keepCPre _) (i := 6) (d := 29) (v := ?_) (by kernel_rfl) (by kernel_rfl) (by kernel_rfl) (by kernel_rfl) (fun _ _ _ h => h) (fun oi hoi => ?_) ?_
      rotate_left
      · simp at hoi
        subst hoi
        refine ⟨by rfl, fun w' hw' => ?_⟩
        have xq := (hw' ⟨xb, 2, none⟩ (by simp)).trans C4.out.2.2
        go_simp
        all_goals rfl
      try simp only [Act.put, List.setIfInBounds_toArray, List.set_cons_zero, List.set_cons_succ]
      refine ord_take (keepCPre _) (i := 9) (d := 32) (v := ?_) (by kernel_rfl) (by kernel_rfl) (by kernel_rfl) (by kernel_rfl) (fun _ _ _ h => h) (fun oi hoi => ?_) ?_
      rotate_left
      · simp at hoi
        subst hoi
        refine ⟨by rfl, fun w' hw' => ?_⟩
        go_simp
        all_goals rfl
      try simp only [Act.put, List.setIfInBounds_toArray, List.set_cons_zero, List.set_cons_succ]
      refine ord_one (i := 4) (by kernel_rfl) (fun oi K hoi hK => ?_)
      simp at hoi
      subst hoi
      refine ⟨by rfl, ?_⟩
      go_simp
      have HLT := hxl
      refine hK.out _ _ (keepC_below ((Below.refl _ _).alloc (Nat.le_refl _) _) (fun x hx => by simp only [List.mem_cons, List.not_mem_nil, or_false] at hx; rcases hx with rfl | rfl | rfl <;> exact HLT)) ?_
      clear hK HLT
      have BA : Below W2.drew.heap.size W2.drew (W2.drew.alloc (.cells #[] 3)) := (Below.refl _ _).alloc (Nat.le_refl _) _
      have hxl2 : xb < (W2.drew.alloc (.cells #[] 3)).heap.size := Nat.lt_of_lt_of_le hxl BA.size
      have hlo : w.heap.size ≤ W2.drew.heap.size := HB.out.size
      have ON : Hid (OwnI w.heap.size (W2.drew.alloc (.cells #[] 3)) (.slice (some ⟨W2.drew.heap.size, 0, none⟩) 0 0) []) := World.ownsRow_made W2.drew #[] 0 hlo (by omega) rfl
      replace R := hide ((unhide R).below BA)
      replace HTR2 := hide ((unhide HTR2).below BA)
      replace HB := hide (HB.out.trans (BA.mono HB.out.size))
      clear BA hxl hlo
      try simp only [Act.put, List.setIfInBounds_toArray, List.set_cons_zero, List.set_cons_succ]
      refine ord_one (i := 7) (by kernel_rfl) (fun oi K hoi hK => ?_)
      simp at hoi
      subst hoi
      refine ⟨by rfl, ?_⟩
      refine wp_append_full _ _ _ 30 rfl w.heap.size 3 i0 (.int .i64 0) 1 8 Try.underlying30 (unhide hIn).1 (unhide hIn).2.1 (unhide hIn).2.2.1 (unhide hIn).2.2.2 rfl (by decide) _ 0 [] rfl (unhide ON) _ ts.length (ts.map (Value.int .i64)) rfl (unhide HTR2).news (by unfold maxLen; omega) (by omega) (by exact HB.out.size) ?_
      intro g3 c3 w3 hown hlt3
      have HLT := hxl2
      refine hK.out _ _ (keepC_below hlt3 (fun x hx => by simp only [List.mem_cons, List.not_mem_nil, or_false] at hx; rcases hx with rfl | rfl | rfl <;> exact HLT)) ?_
      clear hK HLT
      replace R := hide ((unhide R).below hlt3)
      have hxl3 : xb < w3.heap.size := Nat.lt_of_lt_of_le hxl2 hlt3.size
      replace HB := hide (HB.out.trans (Below.mono hlt3 HB.out.size))
      rw [Nat.zero_add] at hown
      try rw [Nat.zero_add]
      have ON3 : Hid (OwnI w.heap.size w3 (.slice (some ⟨g3, 0, none⟩) ts.length c3) ts) := hown
      clear hown hlt3 hxl2 ON
      try simp only [Act.put, List.setIfInBounds_toArray, List.set_cons_zero, List.set_cons_succ]
      refine ord_take (keepCPre _) (i := 8) (d := 31) (v := ?_) (by kernel_rfl) (by kernel_rfl) (by kernel_rfl) (by kernel_rfl) (fun _ _ _ h => h) (fun oi hoi => ?_) ?_
      rotate_left
      · simp at hoi
        subst hoi
        refine ⟨by rfl, fun w' hw' => ?_⟩
        go_simp
        all_goals rfl
      try simp only [Act.put, List.setIfInBounds_toArray, List.set_cons_zero, List.set_cons_succ]
      refine ord_one (i := 10) (by kernel_rfl) (fun oi K hoi hK => ?_)
      simp at hoi
      subst hoi
      refine ⟨by rfl, ?_⟩
      refine wp_store_row 35 (.tmp 4) (.tmp 31) rfl (w.heap.size + 1) (winC tk tt (.slice (some ⟨g3, 0, none⟩) ts.length c3)) rfl rfl 35 noWin (unhide R) info_wi rfl (one_wi _ _ _ _ _) ?_
      refine hK.out _ _ (keepC_row (fun x hx => by simp only [List.mem_cons, List.not_mem_nil, or_false] at hx; rcases hx with rfl | rfl | rfl <;> exact ⟨hxl3, by show xb ≠ w.heap.size + 1; omega⟩) (grown_setRow _ _ _)) ?_
      clear hK
      try simp only [Act.put]
      refine ord_take (keepCPre _) (i := 11) (d := 5) (v := ?_) (by kernel_rfl) (by kernel_rfl) (by kernel_rfl) (by kernel_rfl) (fun _ _ _ h => h) (fun oi hoi => ?_) ?_
      rotate_left
      · simp at hoi
        subst hoi
        refine ⟨by rfl, fun w' hw' => ?_⟩
        go_simp
        all_goals rfl
      try simp only [Act.put, List.setIfInBounds_toArray, List.set_cons_zero, List.set_cons_succ]
      refine later_done (by kernel_rfl) ?_ _
      have l2 := load_wi ((unhide R).set (winC tk tt (.slice (some ⟨g3, 0, none⟩) ts.length c3))) rfl
      go_wp2_with fail
      refine bodyPost_ret (v := .tuple #[.agg (winC tk tt (.slice (some ⟨g3, 0, none⟩) ts.length c3)), .bool tb]) (results_cs rfl rfl rfl l2) rfl ?_
      rw [HF.out]
      exact ⟨_, rfl, row_blk (unhide ON3) (unhide R) (by decide) _, below_blk HB.out (by omega) _⟩
#print axioms sWinTake_any
end Go.Proofs.Ytgdhlnfigcaepaa
