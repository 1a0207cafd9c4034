/-
  Drawn trees: l20Tree.
-/
import Derived.Test.YtjijfcollmjljaaFnTreSetB7
import Derived.Test.YtjijfcollmjljaaFnTreSetB8
import Derived.Test.YtjijfcollmjljaaFnTreSetB5
import Derived.Test.YtjijfcollmjljaaFnTreSetB4
import Derived.Test.YtjijfcollmjljaaFnTreSetB6
import Derived.Test.YtjijfcollmjljaaFnTreSetB2
import Derived.Maps.AppendAt
namespace Go.Proofs.Ytjijfcollmjljaa
open Go.RowKit Kw

theorem exPre (b : Nat) : Pre (Ex b) := ⟨Ex.refl b, fun _ _ _ h k => h.trans k⟩
theorem new_set : ∀ (a : Fin 8) (b : Fin 100), 1 ≤ b.val → maySet (newName a.val b.val) = true := by decide +kernel
theorem maySet_new (who n : Nat) (h1 : who < 8) (h2 : n < 99) : maySet (mkNew (who : Int) (1 + (n : Int))) = true := by
  unfold mkNew
  rw [if_pos (by omega)]
  have := new_set ⟨who, h1⟩ ⟨1 + n, by omega⟩ (by show 1 ≤ 1 + n; omega)
  rw [show ((who : Int)).toNat = who by omega, show (1 + (n : Int)).toNat = 1 + n by omega]
  exact this
theorem treOk_bare : treOk bare = true := by decide +kernel
theorem box_ex {b c : Nat} {w w' : World} {t : TypeId} {v : Value} (h : Boxed w c t v) (x : Ex b w w') (hne : c ≠ b) : Boxed w' c t v := (x.block c h.lt hne).trans h
theorem DrC.box {b : Nat} {C : Code} {p c : Nat} {w : World} (h : DrC b C p w) (hc : b < c) (x : Value) : DrC b C p (w.setCell ⟨c, 0, none⟩ x) := DrC.grown h (grownBy_setCell' w c x) (fun k hk => by cases hk; exact hc)
theorem Ex.box {b c : Nat} {u w : World} (h : Ex b u w) (hc : u.heap.size ≤ c) (x : Value) : Ex b u (w.setCell ⟨c, 0, none⟩ x) := Ex.grown h (grownBy_setCell' w c x) (fun k hk => by cases hk; exact hc)
/-- What a slice of texts holds, its row beyond a number. -/
def TRow (B : Nat) (w : World) (v : Value) (xs : List ByteArray) : Prop := SRow w v xs ∧ ∀ a l c, v = .slice (some a) l c → B ≤ a.block
theorem TRow.of {B : Nat} {w : World} {v : Value} {xs : List ByteArray} {n : Nat} (hn : xs.length = n) (h : w.ownsRow B 9 1 v n (xs.map Value.string)) : TRow B w v xs := by
  subst hn
  refine ⟨own_srow h, fun a l c e => ?_⟩
  subst e
  rcases h.2 with ⟨q, _⟩ | ⟨g, cap, cur, q, hB, _⟩
  · cases q
  · simp only [Value.slice.injEq, Option.some.injEq] at q
    rw [q.1]
    exact hB
theorem TRow.ex {b B : Nat} {w w' : World} {v : Value} {xs : List ByteArray} (h : TRow B w v xs) (x : Ex b w w') (hb : b < B) : TRow B w' v xs := by
  refine ⟨?_, h.2⟩
  rcases h.1 with q | ⟨a, cap, h1, h2, h3, h4⟩
  · exact .inl q
  · refine .inr ⟨a, cap, h1, h2, h3, fun i hi => ?_⟩
    have hB := h.2 a _ _ h1
    exact (x.cell (p := a.add i) (cell_lt (h4 i hi)) (by rw [add_block]; omega)).trans (h4 i hi)
theorem TRow.below {B : Nat} {w w' : World} {v : Value} {xs : List ByteArray} (h : TRow B w v xs) (hb : Below w.heap.size w w') : TRow B w' v xs := ⟨h.1.below hb, h.2⟩
theorem TRow.box {B c : Nat} {w : World} {v : Value} {xs : List ByteArray} (h : TRow B w v xs) (hc : ∀ a l k, v = .slice (some a) l k → a.block ≠ c) (x : Value) : TRow B (w.setCell ⟨c, 0, none⟩ x) v xs := by
  refine ⟨?_, h.2⟩
  rcases h.1 with q | ⟨a, cap, h1, h2, h3, h4⟩
  · exact .inl q
  · refine .inr ⟨a, cap, h1, h2, h3, fun i hi => ?_⟩
    rw [World.cell?_of_block (w := w) (Below.heap_setCell w ⟨c, 0, none⟩ x (a.add i).block (by show (a.add i).block ≠ c; rw [add_block]; exact hc a _ _ h1))]
    exact h4 i hi
/-- Where a tree lies while it is drawn. -/
structure TAt (b : Nat) (C : Code) (w : World) (tb q g c : Nat) (xs : List ByteArray) (wr : World) : Prop where
  t : Boxed wr tb 25 (.slice (some ⟨g, 0, none⟩) 15 c)
  row : wr.ownsRow (w.heap.size + 1) 9 1 (.slice (some ⟨g, 0, none⟩) 15 c) 15 (xs.map Value.string)
  ok : treOk xs = true
  r : Boxed wr w.heap.size 25 (.slice none 0 0)
  d : DrC b C q wr
  x : Ex b w wr
theorem TAt.ex {b : Nat} {C : Code} {w : World} {tb q q' g c : Nat} {xs : List ByteArray} {wr w' : World} (h : TAt b C w tb q g c xs wr) (hb : b < w.heap.size) (htb : w.heap.size < tb) (x : Ex b wr w') (d : DrC b C q' w') : TAt b C w tb q' g c xs w' :=
  ⟨box_ex h.t x (by omega), row_ex h.row x (by omega), h.ok, box_ex h.r x (by omega), d, h.x.trans x⟩
theorem TAt.drew {b : Nat} {C : Code} {w : World} {tb q g c : Nat} {xs : List ByteArray} {wr : World} (h : TAt b C w tb q g c xs wr) : TAt b C w tb q g c xs wr.drew := ⟨h.t, own_below' h.row (Below.refl _ _).drew, h.ok, h.r, h.d.drew, h.x.drew⟩
theorem TAt.srow {b : Nat} {C : Code} {w : World} {tb q g c : Nat} {xs : List ByteArray} {wr : World} (h : TAt b C w tb q g c xs wr) : SRow wr (.slice (some ⟨g, 0, none⟩) 15 c) xs := by
  have q := h.row
  have hl := (treOk_iff.1 h.ok).1
  have e : xs.length = 15 := hl
  exact (TRow.of e q).1
theorem TAt.small {b : Nat} {C : Code} {w : World} {tb q g c : Nat} {xs : List ByteArray} {wr : World} (h : TAt b C w tb q g c xs wr) : ∀ x ∈ xs, x.size ≤ maxLen := fun x hx => Nat.le_trans (treOk_small h.ok x hx) (by unfold maxLen; omega)
theorem TAt.keep {b : Nat} {C : Code} {w : World} {tb q g c : Nat} {xs : List ByteArray} {wr w' : World} (h : TAt b C w tb q g c xs wr) (hb : Below wr.heap.size wr w') : TAt b C w tb q g c xs w' :=
  ⟨box_below h.t hb, own_below' h.row hb, h.ok, box_below h.r hb, h.d.below hb, h.x.trans (Ex.of_below b hb)⟩
/-- Another tree is put there. -/
theorem TAt.put {b : Nat} {C : Code} {w : World} {tb q g c g' c' : Nat} {xs ys : List ByteArray} {wr : World} (h : TAt b C w tb q g c xs wr) (htb : w.heap.size < tb) (hb : b < w.heap.size) (hy : treOk ys = true)
    (hr : wr.ownsRow (w.heap.size + 1) 9 1 (.slice (some ⟨g', 0, none⟩) 15 c') 15 (ys.map Value.string)) : TAt b C w tb q g' c' ys (wr.setCell ⟨tb, 0, none⟩ (.slice (some ⟨g', 0, none⟩) 15 c')) :=
  ⟨h.t.set _, row_box hr h.t (by decide) _, hy, h.r.other (by omega) _, h.d.box (by omega) _, h.x.box (by omega) _⟩

theorem rowN {B : Nat} {w : World} {v : Value} {n : Nat} {zs : List Value} (h : w.ownsRow B 9 1 v (n + 1) zs) : ∃ g cap, v = .slice (some ⟨g, 0, none⟩) (n + 1) cap := by
  rcases h.2 with ⟨_, q⟩ | ⟨g, cap, cur, rfl, h1, h2, h3, h4, h5, h6⟩
  · omega
  · exact ⟨g, cap, rfl⟩
theorem TAt.two {b : Nat} {C : Code} {w : World} {tb q g c : Nat} {xs : List ByteArray} {wr : World} (h : TAt b C w tb q g c xs wr) (htb : w.heap.size < tb) (v : Value) :
    Boxed (wr.setCell ⟨tb, 0, none⟩ v) tb 25 v ∧ Boxed (wr.setCell ⟨tb, 0, none⟩ v) w.heap.size 25 (.slice none 0 0) ∧ True := ⟨h.t.set v, h.r.other (by omega) v, trivial⟩
theorem TRow.tail {B : Nat} {w : World} {g c : Nat} {xs : List ByteArray} (h : TRow B w (.slice (some ⟨g, 0, none⟩) 15 c) xs) (hl : xs.length = 15) (hc : 15 ≤ c) : TRow B w (.slice (some ⟨g, 1, none⟩) 14 (c - 1)) (xs.drop 1) := by
  refine ⟨?_, fun a l k e => ?_⟩
  · rcases h.1 with q | ⟨a, cap, h1, h2, h3, h4⟩
    · cases q.1
    · simp only [Value.slice.injEq, Option.some.injEq] at h1
      obtain ⟨rfl, _, rfl⟩ := h1
      refine .inr ⟨⟨g, 1, none⟩, c - 1, by simp [hl], by simp; omega, by omega, fun i hi => ?_⟩
      simp only [List.length_drop] at hi
      have := h4 (1 + i) (by omega)
      simp only [Addr.add, List.getD_eq_getElem?_getD, List.getElem?_drop] at this ⊢
      rw [Nat.zero_add, if_neg (by omega)] at this
      by_cases h0 : i = 0
      · rw [if_pos h0]; subst h0; exact this
      · rw [if_neg h0]; exact this
  · simp only [Value.slice.injEq, Option.some.injEq] at e
    have := h.2 _ _ _ rfl
    rw [← e.1]
    exact this
/-- What drawing a tree leaves. -/
def TPost (b : Nat) (C : Code) (p : Nat) (w : World) (e : Ending) (w' : World) : Prop :=
  ∃ u xs q, e = .returned (.agg #[u]) ∧ TRow (w.heap.size + 1) w' u xs ∧ (∀ x ∈ xs, x.size ≤ 700) ∧ xs.length ≤ 16 ∧ q ≤ p + 400 ∧ DrC b C q w' ∧ Ex b w w'

set_option maxRecDepth 100000 in
set_option maxHeartbeats 8000000 in
theorem l20Tree_any (b : Nat) (C : Code) (p n : Nat) (m : Int) (hm : m = (n : Int)) (w : World) (h : DrC b C p w) (hn : 1 ≤ n) (hn2 : n ≤ 1000) (hp : p + 400 ≤ 1000000) :
    Calls Try.prog 33 #[.pointer (some ⟨b, 0, none⟩), .int .i64 m] w (TPost b C p w) := by
  subst hm
  have hblt := h.lt
  have hD := hide h
  obtain ⟨i0, hi, hz0, hz1, hz2⟩ := info_parts info_str2
  have hI := hide (And.intro hi (And.intro hz0 (And.intro hz1 hz2)))
  clear h hi hz0 hz1 hz2
  go_enter Try.func33, Try.ntmps33
  go_wp2_with fail
  refine (sTreNew_any _).mono ?_
  rintro e w1 ⟨v1, rfl, ho1, hb1⟩
  have hs1 := hb1.size
  rw [World.size_alloc] at hs1
  unfold Own at ho1
  rw [show bare.length = 15 from rfl, World.size_alloc] at ho1
  obtain ⟨g1, c1, rfl, _, _, _, _⟩ := row15 ho1
  have htb : w.heap.size < w1.heap.size := by omega
  have T1 : Hid (TAt b C w w1.heap.size p g1 c1 bare (w1.alloc (.cells #[.slice (some ⟨g1, 0, none⟩) 15 c1] 25))) :=
    ⟨Boxed.new w1 _ _, own_below' ho1 ((Below.refl _ _).alloc (Nat.le_refl _) _), treOk_bare, (box_below (Boxed.new w _ _) hb1).alloc _, (((unhide hD).alloc _).below hb1).alloc _, ((Ex.of_below b ((Below.refl _ _).alloc (Nat.le_refl _) _)).trans (Ex.of_below b hb1)).alloc _⟩
  clear ho1 hb1 hD
  go_wp2_with fail
  refine (pick_any b C p 8 _ rfl _ (unhide T1).d (by omega) (by omega) (by omega)).mono ?_
  rintro e w2 ⟨k0, rfl, hk0, d2, x2⟩
  have T2 := hide ((unhide T1).ex hblt htb x2 d2)
  clear T1 d2 x2
  go_wp2_with fail
  go_loopw [6] (fun i wr => ∃ (k q g c : Nat) (xs : List ByteArray), k ≤ 7 ∧ i = .int .i64 (k : Int) ∧ q + 10 * k ≤ p + 80 ∧ Hid (TAt b C w w1.heap.size q g c xs wr)) (fun i _ => (intOf i).toNat)
  case atStart => exact ⟨k0, p + 1, g1, c1, bare, by omega, rfl, by omega, T2⟩
  case round =>
    clear T2
    obtain ⟨k, q, g, c, xs, hk, rfl, hq, hT⟩ := hrel
    by_cases hpos : 0 < k
    · have hpos2 : (0 : Int) < (k : Int) := by omega
      have i3 : IntKind.i64.wrap ((k : Int) - 1) = ((k - 1 : Nat) : Int) := by simp [IntKind.wrap, IntKind.bits, IntKind.signed]; omega
      go_wp2_with fail
      refine (pick_any b C q 4 _ rfl _ (unhide hT).d (by omega) (by omega) (by omega)).mono ?_
      rintro e w3 ⟨v4, rfl, hv4, d3, x3⟩
      have T3 := hide ((unhide hT).ex hblt htb x3 d3)
      clear hT d3 x3
      by_cases hv : v4 = 0
      · subst hv
        go_wp2_with fail
        have T3d := hide (unhide T3).drew
        refine wp_region_ord (Ex b) (by kernel_rfl) ?_
        refine ord_take (exPre b) (i := 0) (d := 17) (v := ?_) (by kernel_rfl) (by kernel_rfl) (by kernel_rfl) (by kernel_rfl) (fun _ _ _ h => h) (fun oi hoi => ?_) ?_
        rotate_left
        · simp at hoi
          subst hoi
          refine ⟨by rfl, fun w' hw' => ?_⟩
          have hx := (box_ex (w := w3.drew) (unhide T3).t hw' (by omega)).cell
          go_simp
          all_goals rfl
        try simp only [Act.put, List.setIfInBounds_toArray, List.set_cons_zero, List.set_cons_succ]
        refine ord_take (exPre b) (i := 1) (d := 18) (v := ?_) (by kernel_rfl) (by kernel_rfl) (by kernel_rfl) (by kernel_rfl) (fun _ _ _ h => h) (fun oi hoi => ?_) ?_
        rotate_left
        · simp at hoi
          subst hoi
          refine ⟨by rfl, fun w' hw' => ?_⟩
          go_simp
          all_goals rfl
        try simp only [Act.put, List.setIfInBounds_toArray, List.set_cons_zero, List.set_cons_succ]
        refine ord_one (i := 2) (by kernel_rfl) (fun oi K hoi hK => ?_)
        simp at hoi
        subst hoi
        refine ⟨by rfl, ?_⟩
        go_simp
        refine (pick_any b C (q + 1) 8 _ rfl _ (unhide T3d).d (by omega) (by omega) (by omega)).mono ?_
        rintro e w4 ⟨who, rfl, hwho, dd, xx⟩
        go_simp
        refine hK.out _ _ xx ?_
        clear hK
        have T4 := hide ((unhide T3d).ex hblt htb xx dd)
        clear dd xx T3d
        try simp only [Act.put, List.setIfInBounds_toArray, List.set_cons_zero, List.set_cons_succ]
        refine ord_one (i := 3) (by kernel_rfl) (fun oi K hoi hK => ?_)
        simp at hoi
        subst hoi
        refine ⟨by rfl, ?_⟩
        go_simp
        have T4s := hide (unhide T4)
        refine (sTreClear_any _ xs (who : Int) _ (unhide T4).srow (unhide T4).small).mono ?_
        rw [clrRes_yes (unhide T4).ok hwho]
        rintro e w5 ⟨u5, rfl, ho5, hb5⟩
        have hl5 : (clearOf xs who).length = 15 := by rw [clearOf_len]; exact (treOk_iff.1 (unhide T4).ok).1
        unfold Own at ho5
        rw [hl5] at ho5
        obtain ⟨g5, c5, rfl, hg51, hg52, _, _⟩ := row15 ho5
        go_simp
        refine hK.out _ _ (Ex.of_below b hb5) ?_
        clear hK
        have T5 := hide ((unhide T4).keep hb5)
        have l1 := (unhide T5).t.cell
        have l2 := (unhide T5).t.frozen
        have T6 := hide ((unhide T5).put (ys := clearOf xs who) htb hblt (treOk_clear (unhide T4).ok) (row_lowB ho5 (by have := (unhide T4).x.size; have := (unhide T4).r.lt; omega)))
        clear ho5 hb5
        try simp only [Act.put, List.setIfInBounds_toArray, List.set_cons_zero, List.set_cons_succ]
        refine ord_last (i := 4) (by kernel_rfl) (by kernel_rfl) (by kernel_rfl) (fun oi K hoi hK => ?_)
        simp at hoi
        subst hoi
        refine ⟨by rfl, ?_⟩
        go_simp
        refine hK.out _ _ ?_
        clear hK
        try simp only [Act.put, List.setIfInBounds_toArray, List.set_cons_zero, List.set_cons_succ]
        go_wp2_with fail
        go_roundw
        case rel => exact ⟨k - 1, q + 1 + 1, _, _, _, by omega, rfl, by omega, T6⟩
        case measure => simp [intOf]; omega
      · have hv2 : ((v4 : Int) == 0) = false := by simp; omega
        go_wp2_with fail
        have T3d := hide (unhide T3).drew
        refine wp_region_ord (Ex b) (by kernel_rfl) ?_
        refine ord_take (exPre b) (i := 0) (d := 21) (v := ?_) (by kernel_rfl) (by kernel_rfl) (by kernel_rfl) (by kernel_rfl) (fun _ _ _ h => h) (fun oi hoi => ?_) ?_
        rotate_left
        · simp at hoi
          subst hoi
          refine ⟨by rfl, fun w' hw' => ?_⟩
          have hx := (box_ex (w := w3.drew) (unhide T3).t hw' (by omega)).cell
          go_simp
          all_goals rfl
        try simp only [Act.put, List.setIfInBounds_toArray, List.set_cons_zero, List.set_cons_succ]
        refine ord_take (exPre b) (i := 1) (d := 22) (v := ?_) (by kernel_rfl) (by kernel_rfl) (by kernel_rfl) (by kernel_rfl) (fun _ _ _ h => h) (fun oi hoi => ?_) ?_
        rotate_left
        · simp at hoi
          subst hoi
          refine ⟨by rfl, fun w' hw' => ?_⟩
          go_simp
          all_goals rfl
        try simp only [Act.put, List.setIfInBounds_toArray, List.set_cons_zero, List.set_cons_succ]
        refine ord_take (exPre b) (i := 3) (d := 24) (v := ?_) (by kernel_rfl) (by kernel_rfl) (by kernel_rfl) (by kernel_rfl) (fun _ _ _ h => h) (fun oi hoi => ?_) ?_
        rotate_left
        · simp at hoi
          subst hoi
          refine ⟨by rfl, fun w' hw' => ?_⟩
          go_simp
          all_goals rfl
        try simp only [Act.put, List.setIfInBounds_toArray, List.set_cons_zero, List.set_cons_succ]
        refine ord_take (exPre b) (i := 5) (d := 26) (v := ?_) (by kernel_rfl) (by kernel_rfl) (by kernel_rfl) (by kernel_rfl) (fun _ _ _ h => h) (fun oi hoi => ?_) ?_
        rotate_left
        · simp at hoi
          subst hoi
          refine ⟨by rfl, fun w' hw' => ?_⟩
          go_simp
          all_goals rfl
        try simp only [Act.put, List.setIfInBounds_toArray, List.set_cons_zero, List.set_cons_succ]
        refine ord_one (i := 2) (by kernel_rfl) (fun oi K hoi hK => ?_)
        simp at hoi
        subst hoi
        refine ⟨by rfl, ?_⟩
        go_simp
        refine (pick_any b C (q + 1) 8 _ rfl _ (unhide T3d).d (by omega) (by omega) (by omega)).mono ?_
        rintro e w4 ⟨who, rfl, hwho, dd, xx⟩
        go_simp
        refine hK.out _ _ xx ?_
        clear hK
        have T4 := hide ((unhide T3d).ex hblt htb xx dd)
        clear dd xx T3d
        try simp only [Act.put, List.setIfInBounds_toArray, List.set_cons_zero, List.set_cons_succ]
        refine ord_one (i := 4) (by kernel_rfl) (fun oi K hoi hK => ?_)
        simp at hoi
        subst hoi
        refine ⟨by rfl, ?_⟩
        go_simp
        refine (pick_any b C (q + 1 + 1) 8 _ rfl _ (unhide T4).d (by omega) (by omega) (by omega)).mono ?_
        rintro e w5 ⟨ow, rfl, how, dd, xx⟩
        go_simp
        refine hK.out _ _ xx ?_
        clear hK
        have T5 := hide ((unhide T4).ex hblt htb xx dd)
        clear dd xx T4
        try simp only [Act.put, List.setIfInBounds_toArray, List.set_cons_zero, List.set_cons_succ]
        refine ord_one (i := 6) (by kernel_rfl) (fun oi K hoi hK => ?_)
        simp at hoi
        subst hoi
        refine ⟨by rfl, ?_⟩
        go_simp
        refine (pick_any b C (q + 1 + 1 + 1) 99 _ rfl _ (unhide T5).d (by omega) (by omega) (by omega)).mono ?_
        rintro e w6 ⟨nn, rfl, hnn, dd, xx⟩
        go_simp
        refine hK.out _ _ xx ?_
        clear hK
        have T6 := hide ((unhide T5).ex hblt htb xx dd)
        clear dd xx T5
        have i7 : IntKind.i64.wrap (1 + (nn : Int)) = 1 + (nn : Int) := by simp [IntKind.wrap, IntKind.bits, IntKind.signed]; omega
        try simp only [Act.put, List.setIfInBounds_toArray, List.set_cons_zero, List.set_cons_succ]
        refine ord_take (exPre b) (i := 7) (d := 28) (v := ?_) (by kernel_rfl) (by kernel_rfl) (by kernel_rfl) (by kernel_rfl) (fun _ _ _ h => h) (fun oi hoi => ?_) ?_
        rotate_left
        · simp at hoi
          subst hoi
          refine ⟨by rfl, fun w' hw' => ?_⟩
          go_simp
          all_goals rfl
        try simp only [Act.put, List.setIfInBounds_toArray, List.set_cons_zero, List.set_cons_succ]
        refine ord_one (i := 8) (by kernel_rfl) (fun oi K hoi hK => ?_)
        simp at hoi
        subst hoi
        refine ⟨by rfl, ?_⟩
        go_simp
        refine (sMakNew_any _ _ _).mono ?_
        rintro e w7 ⟨rfl, hb7⟩
        go_simp
        refine hK.out _ _ (Ex.of_below b hb7) ?_
        clear hK
        have T7 := hide ((unhide T6).keep hb7)
        have hms := hide (maySet_new ow nn how hnn)
        have hmz := hide (mkNew_300 (ow : Int) (1 + (nn : Int)))
        generalize mkNew (ow : Int) (1 + (nn : Int)) = nm at *
        clear hb7
        try simp only [Act.put, List.setIfInBounds_toArray, List.set_cons_zero, List.set_cons_succ]
        refine ord_one (i := 9) (by kernel_rfl) (fun oi K hoi hK => ?_)
        simp at hoi
        subst hoi
        refine ⟨by rfl, ?_⟩
        go_simp
        refine (sTreSet_any _ xs (who : Int) nm _ (unhide T7).srow (unhide T7).small (Nat.le_trans hmz.out (by unfold maxLen; omega))).mono ?_
        rw [setRes_yes (unhide T7).ok hwho hms.out]
        rintro e w9 ⟨u5, rfl, ho5, hb5⟩
        have hl5 : (setKeys xs who nm).length = 15 := by rw [setKeys_len]; exact (treOk_iff.1 (unhide T7).ok).1
        unfold Own at ho5
        rw [hl5] at ho5
        obtain ⟨g5, c5, rfl, hg51, hg52, _, _⟩ := row15 ho5
        go_simp
        refine hK.out _ _ (Ex.of_below b hb5) ?_
        clear hK
        have T9 := hide ((unhide T7).keep hb5)
        have l1 := (unhide T9).t.cell
        have l2 := (unhide T9).t.frozen
        have T8 := hide ((unhide T9).put (ys := setKeys xs who nm) htb hblt (treOk_set (unhide T7).ok hwho hms.out) (row_lowB ho5 (by have := (unhide T7).x.size; have := (unhide T7).r.lt; omega)))
        clear ho5 hb5
        try simp only [Act.put, List.setIfInBounds_toArray, List.set_cons_zero, List.set_cons_succ]
        refine ord_last (i := 10) (by kernel_rfl) (by kernel_rfl) (by kernel_rfl) (fun oi K hoi hK => ?_)
        simp at hoi
        subst hoi
        refine ⟨by rfl, ?_⟩
        go_simp
        refine hK.out _ _ ?_
        clear hK
        try simp only [Act.put, List.setIfInBounds_toArray, List.set_cons_zero, List.set_cons_succ]
        go_wp2_with fail
        go_roundw
        case rel => exact ⟨k - 1, q + 1 + 1 + 1 + 1, _, _, _, by omega, rfl, by omega, T8⟩
        case measure => simp [intOf]; omega
    · have hpos2 : decide ((0 : Int) < (k : Int)) = false := by simp; omega
      go_wp2_with fail
      refine (odd_any b C q n _ rfl _ (unhide hT).d hn hn2 (by omega)).mono ?_
      rintro e w3 ⟨od, rfl, d3, x3⟩
      have T3 := hide ((unhide hT).ex hblt htb x3 d3)
      have hlx : Hid (xs.length = 15) := (treOk_iff.1 (unhide hT).ok).1
      have hsm : Hid (∀ x ∈ xs, x.size ≤ 700) := fun x hx => Nat.le_trans (treOk_small (unhide hT).ok x hx) (by omega)
      clear hT d3 x3
      cases od with
      | false =>
        have l1 := (unhide T3).t.cell
        have l2 := (unhide T3).r.cell
        have l3 := (unhide T3).r.frozen
        have l4 := ((unhide T3).r.set (.slice (some ⟨g, 0, none⟩) 15 c)).cell
        have Z1 := hide (TRow.of hlx.out (row_box (unhide T3).row (unhide T3).r (by decide) (.slice (some ⟨g, 0, none⟩) 15 c)))
        have Z2 := hide ((unhide T3).d.box (c := w.heap.size) hblt (.slice (some ⟨g, 0, none⟩) 15 c))
        have Z3 := hide ((unhide T3).x.box (c := w.heap.size) (Nat.le_refl _) (.slice (some ⟨g, 0, none⟩) 15 c))
        go_wp2_with fail
        exact bodyPost_ret (v := .agg #[.slice (some ⟨g, 0, none⟩) 15 c]) (by simp [results, Try.results33, go_sem, l4]) rfl ⟨_, xs, q + 1, rfl, unhide Z1, unhide hsm, by have := hlx.out; omega, by omega, unhide Z2, unhide Z3⟩
      | true =>
        go_wp2_with fail
        refine (pick_any b C (q + 1) 3 _ rfl _ (unhide T3).d (by omega) (by omega) (by omega)).mono ?_
        rintro e w4 ⟨v3, rfl, hv3, d4, x4⟩
        have T4 := hide ((unhide T3).ex hblt htb x4 d4)
        clear T3 d4 x4
        have l1 := (unhide T4).t.cell
        have l0 := (unhide T4).t.frozen
        obtain ⟨_, _, e0, hg1, hg2, hg3, hg4⟩ := row15 (unhide T4).row
        simp only [Value.slice.injEq, Option.some.injEq, Addr.mk.injEq, true_and, and_true] at e0
        obtain ⟨rfl, rfl⟩ := e0
        rcases (by omega : v3 = 0 ∨ v3 = 1 ∨ v3 = 2) with rfl | rfl | rfl
        · obtain ⟨f1, f2, f3⟩ := (unhide T4).two htb (.slice (some ⟨g, 1, none⟩) 14 (c - 1))
          have l2 := f1.cell
          have l3 := f2.frozen
          have l5 := f2.cell
          have l4 := (f2.set (.slice (some ⟨g, 1, none⟩) 14 (c - 1))).cell
          have Z1 := hide ((TRow.of hlx.out (row_box (row_box (unhide T4).row (unhide T4).t (by decide) (.slice (some ⟨g, 1, none⟩) 14 (c - 1))) f2 (by decide) (.slice (some ⟨g, 1, none⟩) 14 (c - 1)))).tail hlx.out hg3)
          have Z2 := hide (((unhide T4).d.box (c := w1.heap.size) (by omega) (.slice (some ⟨g, 1, none⟩) 14 (c - 1))).box (c := w.heap.size) hblt (.slice (some ⟨g, 1, none⟩) 14 (c - 1)))
          have Z3 := hide (((unhide T4).x.box (c := w1.heap.size) (by omega) (.slice (some ⟨g, 1, none⟩) 14 (c - 1))).box (c := w.heap.size) (Nat.le_refl _) (.slice (some ⟨g, 1, none⟩) 14 (c - 1)))
          clear f1 f2 f3
          go_wp2_with fail
          exact bodyPost_ret (v := .agg #[.slice (some ⟨g, 1, none⟩) 14 (c - 1)]) (by simp [results, Try.results33, go_sem, l4]) rfl ⟨_, xs.drop 1, q + 1 + 1, rfl, unhide Z1, fun x hx => unhide hsm x (List.mem_of_mem_drop hx), by have := hlx.out; simp; omega, by omega, unhide Z2, unhide Z3⟩
        · go_wp2_with fail
          have T4d := hide (unhide T4).drew
          refine wp_region_ord (Ex b) (by kernel_rfl) ?_
          refine ord_take (exPre b) (i := 0) (d := 49) (v := ?_) (by kernel_rfl) (by kernel_rfl) (by kernel_rfl) (by kernel_rfl) (fun _ _ _ h => h) (fun oi hoi => ?_) ?_
          rotate_left
          · simp at hoi
            subst hoi
            refine ⟨by rfl, fun w' hw' => ?_⟩
            go_simp
            all_goals rfl
          try simp only [Act.put, List.setIfInBounds_toArray, List.set_cons_zero, List.set_cons_succ]
          refine ord_take (exPre b) (i := 1) (d := 50) (v := ?_) (by kernel_rfl) (by kernel_rfl) (by kernel_rfl) (by kernel_rfl) (fun _ _ _ h => h) (fun oi hoi => ?_) ?_
          rotate_left
          · simp at hoi
            subst hoi
            refine ⟨by rfl, fun w' hw' => ?_⟩
            have hx := (box_ex (w := w4.drew) (unhide T4).t hw' (by omega)).cell
            go_simp
            all_goals rfl
          try simp only [Act.put, List.setIfInBounds_toArray, List.set_cons_zero, List.set_cons_succ]
          refine ord_take (exPre b) (i := 2) (d := 51) (v := ?_) (by kernel_rfl) (by kernel_rfl) (by kernel_rfl) (by kernel_rfl) (fun _ _ _ h => h) (fun oi hoi => ?_) ?_
          rotate_left
          · simp at hoi
            subst hoi
            refine ⟨by rfl, fun w' hw' => ?_⟩
            go_simp
            all_goals rfl
          try simp only [Act.put, List.setIfInBounds_toArray, List.set_cons_zero, List.set_cons_succ]
          refine ord_take (exPre b) (i := 4) (d := 53) (v := ?_) (by kernel_rfl) (by kernel_rfl) (by kernel_rfl) (by kernel_rfl) (fun _ _ _ h => h) (fun oi hoi => ?_) ?_
          rotate_left
          · simp at hoi
            subst hoi
            refine ⟨by rfl, fun w' hw' => ?_⟩
            go_simp
            all_goals rfl
          try simp only [Act.put, List.setIfInBounds_toArray, List.set_cons_zero, List.set_cons_succ]
          refine ord_one (i := 3) (by kernel_rfl) (fun oi K hoi hK => ?_)
          simp at hoi
          subst hoi
          refine ⟨by rfl, ?_⟩
          go_simp
          refine (pick_any b C (q + 1 + 1) 15 _ rfl _ (unhide T4d).d (by omega) (by omega) (by omega)).mono ?_
          rintro e w5 ⟨jj, rfl, hjj, dd, xx⟩
          go_simp
          refine hK.out _ _ xx ?_
          clear hK
          have T5 := hide ((unhide T4d).ex hblt htb xx dd)
          clear dd xx T4d
          try simp only [Act.put, List.setIfInBounds_toArray, List.set_cons_zero, List.set_cons_succ]
          refine ord_one (i := 5) (by kernel_rfl) (fun oi K hoi hK => ?_)
          simp at hoi
          subst hoi
          refine ⟨by rfl, ?_⟩
          go_simp
          refine (l20SecretOr_any b C (q + 1 + 1 + 1) 2 _ rfl _ (unhide T5).d (by omega) (by omega) (by omega)).mono ?_
          rintro e w6 ⟨s, q6, rfl, hs, hq6, dd, xx⟩
          go_simp
          refine hK.out _ _ xx ?_
          clear hK
          have T6 := hide ((unhide T5).ex hblt htb xx dd)
          clear dd xx T5
          have hj1 : (0 : Int) ≤ (jj : Int) := by omega
          have hj2 : (jj : Int) < 15 := by omega
          have c1 := (row15_set hlx.out (unhide T6).row jj hjj s).1
          have c2 := (row15_set hlx.out (unhide T6).row jj hjj s).2.1
          try simp only [Act.put, List.setIfInBounds_toArray, List.set_cons_zero, List.set_cons_succ]
          refine ord_take (exPre b) (i := 6) (d := 55) (v := ?_) (by kernel_rfl) (by kernel_rfl) (by kernel_rfl) (by kernel_rfl) (fun _ _ _ h => h) (fun oi hoi => ?_) ?_
          rotate_left
          · simp at hoi
            subst hoi
            refine ⟨by rfl, fun w' hw' => ?_⟩
            go_simp
            all_goals rfl
          try simp only [Act.put, List.setIfInBounds_toArray, List.set_cons_zero, List.set_cons_succ]
          refine ord_last (i := 7) (by kernel_rfl) (by kernel_rfl) (by kernel_rfl) (fun oi K hoi hK => ?_)
          simp at hoi
          subst hoi
          refine ⟨by rfl, ?_⟩
          go_simp
          refine hK.out _ _ ?_
          clear hK
          try simp only [Act.put, List.setIfInBounds_toArray, List.set_cons_zero, List.set_cons_succ]
          obtain ⟨s1, s2, s3, s4⟩ := row15_set hlx.out (unhide T6).row jj hjj s
          have f1 := (unhide T6).t.kept s4 ((unhide T6).t.not_row (by decide) (unhide T6).row)
          have f2 := (unhide T6).r.kept s4 ((unhide T6).r.not_row (by decide) (unhide T6).row)
          have l2 := f1.cell
          have l3 := f2.frozen
          have l5 := f2.cell
          have l4 := (f2.set (.slice (some ⟨g, 0, none⟩) 15 c)).cell
          have Z1 := hide (TRow.of (xs := xs.set jj s) (by simp [hlx.out]) (row_box s3 f2 (by decide) (.slice (some ⟨g, 0, none⟩) 15 c)))
          have Z2 := hide (((unhide T6).d.grown s4 (fun k hk => by cases hk; omega)).box (c := w.heap.size) hblt (.slice (some ⟨g, 0, none⟩) 15 c))
          have Z3 := hide (((unhide T6).x.grown s4 (fun k hk => by cases hk; omega)).box (c := w.heap.size) (Nat.le_refl _) (.slice (some ⟨g, 0, none⟩) 15 c))
          clear f1 f2 s1 s2 s3 s4
          go_wp2_with fail
          exact bodyPost_ret (v := .agg #[.slice (some ⟨g, 0, none⟩) 15 c]) (by simp [results, Try.results33, go_sem, l4]) rfl ⟨_, xs.set jj s, q6, rfl, unhide Z1, fun x hx => (List.mem_or_eq_of_mem_set hx).elim (unhide hsm x) (fun e => e ▸ hs), by have := hlx.out; simp; omega, by omega, unhide Z2, unhide Z3⟩
        · go_wp2_with (at_builtin; refine wpList_append_own _ rfl _ _ 23 rfl (w.heap.size + 1) 9 i0 (.string ⟨#[]⟩) 1 16 Try.underlying23 (unhide hI).1 (unhide hI).2.1 (unhide hI).2.2.1 (unhide hI).2.2.2 rfl (by decide) _ _ _ rfl (World.ownsRow.alloc (unhide T4).row _) ⟨w4.heap.size, 0, none⟩ 1 1 [.string ⟨#[]⟩] rfl rfl ?c1 ?c2 ?c3 ?c4 ?c5 ?_)
          case c1 =>
            intro j u hj
            match j, hj with
            | 0, hj => simp at hj; subst hj; simp [Addr.add]
          case c2 => intro u hu; simp at hu; subst hu; rfl
          case c3 => unfold maxLen; omega
          case c4 => omega
          case c5 => have := (unhide T4).x.size; have := (unhide T4).r.lt; simp; omega
          intro v' w5 hown' hgrow _
          obtain ⟨g5, c5, rfl⟩ := rowN hown'
          have f1 := ((unhide T4).t.alloc _).kept hgrow ((unhide T4).t.not_row (by decide) (unhide T4).row)
          have f2 := ((unhide T4).r.alloc _).kept hgrow ((unhide T4).r.not_row (by decide) (unhide T4).row)
          have f3 := f2.other (B' := w1.heap.size) (by omega) (.slice (some ⟨g5, 0, none⟩) (15 + 1) c5)
          have m1 := f1.cell
          have m2 := f1.frozen
          have m3 := (f1.set (.slice (some ⟨g5, 0, none⟩) (15 + 1) c5)).cell
          have m4 := f3.cell
          have m5 := f3.frozen
          have m6 := (f3.set (.slice (some ⟨g5, 0, none⟩) (15 + 1) c5)).cell
          have hown2 : w5.ownsRow (w.heap.size + 1) 9 1 (.slice (some ⟨g5, 0, none⟩) (15 + 1) c5) 16 ((xs ++ [(⟨#[]⟩ : ByteArray)]).map Value.string) := by
            rw [List.map_append]
            exact hown'
          have Z1 := hide (TRow.of (xs := xs ++ [(⟨#[]⟩ : ByteArray)]) (n := 16) (by simp [hlx.out]) (row_box (row_box hown2 f1 (by decide) (.slice (some ⟨g5, 0, none⟩) (15 + 1) c5)) f3 (by decide) (.slice (some ⟨g5, 0, none⟩) (15 + 1) c5)))
          have Z2 := hide (((((unhide T4).d.alloc _).grown hgrow (fun k hk => by simp only [Value.ownBlock, Option.some.injEq] at hk; omega)).box (c := w1.heap.size) (by omega) (.slice (some ⟨g5, 0, none⟩) (15 + 1) c5)).box (c := w.heap.size) hblt (.slice (some ⟨g5, 0, none⟩) (15 + 1) c5))
          have Z3 := hide (((((unhide T4).x.alloc _).grown hgrow (fun k hk => by simp only [Value.ownBlock, Option.some.injEq] at hk; omega)).box (c := w1.heap.size) (by omega) (.slice (some ⟨g5, 0, none⟩) (15 + 1) c5)).box (c := w.heap.size) (Nat.le_refl _) (.slice (some ⟨g5, 0, none⟩) (15 + 1) c5))
          clear f1 f2 f3 hown' hown2 hgrow
          go_wp2_with fail
          exact bodyPost_ret (v := .agg #[.slice (some ⟨g5, 0, none⟩) (15 + 1) c5]) (by simp [results, Try.results33, go_sem, m6]) rfl ⟨_, xs ++ [⟨#[]⟩], q + 1 + 1, rfl, unhide Z1, fun x hx => (List.mem_append.1 hx).elim (unhide hsm x) (fun e => by simp at e; subst e; decide), by have := hlx.out; simp; omega, by omega, unhide Z2, unhide Z3⟩
#print axioms l20Tree_any
end Go.Proofs.Ytjijfcollmjljaa
/-
  Drawn places and ones.
-/
namespace Go.Proofs.Ytjijfcollmjljaa
open Go.RowKit

end Go.Proofs.Ytjijfcollmjljaa
/-
  Rows that came in stay as they are. No Go function in it.
-/
namespace Go.Proofs.Ytjijfcollmjljaa
open Go.RowKit

theorem IsRow.belowR {k : IntKind} {w w' : World} {a : Option Addr} {len cap : Nat} {zs : List Int} (h : IsRow k w a len cap zs) (hb : Below w.heap.size w w') : IsRow k w' a len cap zs := by
  rcases h with h | ⟨x, h1, h2, h3, h4, h5, h6⟩
  · exact .inl h
  · exact .inr ⟨x, h1, h2, h3, h4, fun i hi => (hb.cell (p := x.add i) (below_lt (h5 i hi))).trans (h5 i hi), h6⟩
end Go.Proofs.Ytjijfcollmjljaa
/-
  Drawn trees: DrawTreClear, DrawTreSet, DrawTreCover.
-/
namespace Go.Proofs.Ytjijfcollmjljaa
open Go.RowKit Kw

/-- A tree's row, and what is sure of it. -/
structure TGot (B : Nat) (w : World) (v : Value) (xs : List ByteArray) : Prop where
  row : TRow B w v xs
  small : ∀ x ∈ xs, x.size ≤ 700
  len : xs.length ≤ 16
theorem TGot.below {B : Nat} {w w' : World} {v : Value} {xs : List ByteArray} (h : TGot B w v xs) (hb : Below w.heap.size w w') : TGot B w' v xs := ⟨h.row.below hb, h.small, h.len⟩
theorem TGot.max {B : Nat} {w : World} {v : Value} {xs : List ByteArray} (h : TGot B w v xs) : ∀ x ∈ xs, x.size ≤ maxLen := fun x hx => Nat.le_trans (h.small x hx) (by unfold maxLen; omega)
theorem below_new (w : World) (o : Obj) : Below w.heap.size w (w.alloc o) := (Below.refl _ _).alloc (Nat.le_refl _) o

set_option maxRecDepth 100000 in
set_option maxHeartbeats 4000000 in
theorem DrawTreClear_any (a : Option Addr) (len cap : Nat) (zs : List Int) (w : World) (h : IsRow .u8 w a len cap zs) :
    Calls Try.prog 8 #[.slice a len cap] w fun e w' => ∃ (v : Value) (xs : List ByteArray) (n : Int), e = .returned (.tuple #[.agg #[v], .int .i64 n]) ∧ TGot w.heap.size w' v xs ∧ -1 ≤ n ∧ n ≤ 8 ∧ Below w.heap.size w w' := by
  have hR := hide h
  clear h
  go_enter Try.func8, Try.ntmps8
  go_wp2_with fail
  refine (l20Open_any a len cap zs _ (IsRow.belowR (unhide hR) (below_new w _))).mono ?_
  rintro e w1 ⟨C, rfl, d1, hb1⟩
  rw [World.size_alloc] at d1 hb1
  have hs1 := d1.lt
  have HB1 := hide ((below_new w _).trans (hb1.mono (Nat.le_succ _)))
  have R1 := hide (box_below (Boxed.new w 25 (.slice none 0 0)) (by rw [World.size_alloc]; exact hb1))
  have D1 := hide d1
  clear d1 hb1
  go_wp2_with fail
  refine (l20Tree_any (w.heap.size + 1) C 0 9 _ rfl _ (unhide D1) (by omega) (by omega) (by omega)).mono ?_
  rintro e w2 ⟨u, xs, q, rfl, hrow, hsm, hlen, hq, d2, x2⟩
  obtain ⟨ao, kp, rfl, _, _, _⟩ := hrow.1.form
  have HB2 := hide (HB1.out.trans (x2.below (by omega) HB1.out.size))
  have R2 := hide (box_ex (unhide R1) x2 (by omega))
  have T2 := hide hrow
  have D2 := hide d2
  have SM := hide hsm
  clear d2 x2 D1 R1 HB1 hrow hsm
  go_wp2_with fail
  refine (pick_any (w.heap.size + 1) C q 10 _ rfl _ (unhide D2) (by omega) (by omega) (by omega)).mono ?_
  rintro e w3 ⟨n, rfl, hn, d3, x3⟩
  have HB3 := hide (HB2.out.trans (x3.below (by omega) HB2.out.size))
  have r3 := box_ex (unhide R2) x3 (by omega)
  have T3 := hide ((unhide T2).ex x3 (by have := (unhide D2).lt; omega))
  have i3 : IntKind.i64.wrap ((n : Int) - 1) = (n : Int) - 1 := by simp [IntKind.wrap, IntKind.bits, IntKind.signed]; omega
  have l1 := r3.cell
  have l2 := r3.frozen
  have l3 := (r3.set (.slice ao xs.length kp)).cell
  have Z := hide (TGot.mk (B := w.heap.size) ⟨((unhide T3).box (c := w.heap.size) (fun a l k e => by have := (unhide T3).2 a l k e; omega) (.slice ao xs.length kp)).1, fun a l k e => by have := (unhide T3).2 a l k e; omega⟩ (unhide SM) hlen)
  have HB4 := hide (below_box HB3.out (Nat.le_refl _) (.slice ao xs.length kp))
  clear d3 x3 D2 R2 r3 HB2 HB3 T2
  go_wp2_with fail
  exact bodyPost_ret (v := .tuple #[.agg #[.slice ao xs.length kp], .int .i64 ((n : Int) - 1)]) (by simp [results, Try.results8, go_sem, l3]) rfl ⟨_, xs, _, rfl, unhide Z, by omega, by omega, HB4.out⟩
set_option maxRecDepth 100000 in
set_option maxHeartbeats 4000000 in
theorem DrawTreSet_any (a : Option Addr) (len cap : Nat) (zs : List Int) (w : World) (h : IsRow .u8 w a len cap zs) :
    Calls Try.prog 7 #[.slice a len cap] w fun e w' => ∃ (v : Value) (xs : List ByteArray) (n : Int) (s : ByteArray), e = .returned (.tuple #[.agg #[v], .int .i64 n, .string s]) ∧ TGot w.heap.size w' v xs ∧ -1 ≤ n ∧ n ≤ 8 ∧ s.size ≤ 700 ∧ Below w.heap.size w w' := by
  have hR := hide h
  clear h
  go_enter Try.func7, Try.ntmps7
  go_wp2_with fail
  refine (l20Open_any a len cap zs _ (IsRow.belowR (unhide hR) (below_new w _))).mono ?_
  rintro e w1 ⟨C, rfl, d1, hb1⟩
  rw [World.size_alloc] at d1 hb1
  have hs1 := d1.lt
  have HB1 := hide ((below_new w _).trans (hb1.mono (Nat.le_succ _)))
  have R1 := hide (box_below (Boxed.new w 25 (.slice none 0 0)) (by rw [World.size_alloc]; exact hb1))
  have D1 := hide d1
  clear d1 hb1
  go_wp2_with fail
  refine (l20Tree_any (w.heap.size + 1) C 0 9 _ rfl _ (unhide D1) (by omega) (by omega) (by omega)).mono ?_
  rintro e w2 ⟨u, xs, q, rfl, hrow, hsm, hlen, hq, d2, x2⟩
  obtain ⟨ao, kp, rfl, _, _, _⟩ := hrow.1.form
  have HB2 := hide (HB1.out.trans (x2.below (by omega) HB1.out.size))
  have R2 := hide (box_ex (unhide R1) x2 (by omega))
  have T2 := hide hrow
  have D2 := hide d2
  have SM := hide hsm
  clear d2 x2 D1 R1 HB1 hrow hsm
  go_wp2_with fail
  refine (pick_any (w.heap.size + 1) C q 10 _ rfl _ (unhide D2) (by omega) (by omega) (by omega)).mono ?_
  rintro e w3 ⟨n, rfl, hn, d3, x3⟩
  have HB3 := hide (HB2.out.trans (x3.below (by omega) HB2.out.size))
  have R3 := hide (box_ex (unhide R2) x3 (by omega))
  have T3 := hide ((unhide T2).ex x3 (by have := (unhide D2).lt; omega))
  have i3 : IntKind.i64.wrap ((n : Int) - 1) = (n : Int) - 1 := by simp [IntKind.wrap, IntKind.bits, IntKind.signed]; omega
  have D3 := hide d3
  clear d3 x3 D2 R2 HB2 T2
  go_wp2_with fail
  refine (l20SecretOr_any (w.heap.size + 1) C (q + 1) 9 _ rfl _ (unhide D3) (by omega) (by omega) (by omega)).mono ?_
  rintro e w4 ⟨s, q4, rfl, hs, hq4, d4, x4⟩
  have HB5 := hide (HB3.out.trans (x4.below (by omega) HB3.out.size))
  have r3 := box_ex (unhide R3) x4 (by omega)
  have T4 := hide ((unhide T3).ex x4 (by have := (unhide D3).lt; omega))
  have l1 := r3.cell
  have l2 := r3.frozen
  have l3 := (r3.set (.slice ao xs.length kp)).cell
  have Z := hide (TGot.mk (B := w.heap.size) ⟨((unhide T4).box (c := w.heap.size) (fun a l k e => by have := (unhide T4).2 a l k e; omega) (.slice ao xs.length kp)).1, fun a l k e => by have := (unhide T4).2 a l k e; omega⟩ (unhide SM) hlen)
  have HB4 := hide (below_box HB5.out (Nat.le_refl _) (.slice ao xs.length kp))
  clear d4 x4 D3 R3 r3 HB3 HB5 T3
  go_wp2_with fail
  exact bodyPost_ret (v := .tuple #[.agg #[.slice ao xs.length kp], .int .i64 ((n : Int) - 1), .string s]) (by simp [results, Try.results7, go_sem, l3]) rfl ⟨_, xs, _, s, rfl, unhide Z, by omega, by omega, hs, HB4.out⟩
#print axioms DrawTreClear_any
#print axioms DrawTreSet_any
end Go.Proofs.Ytjijfcollmjljaa
/-
  A tree in a variable.
-/
namespace Go.Proofs.Ytjijfcollmjljaa
open Go.RowKit

/-- A tree in a variable. -/
structure TV (b : Nat) (v : Value) (xs : List ByteArray) (w : World) : Prop where
  box : Boxed w b 25 v
  row : SRow w v xs
theorem TV.below {b : Nat} {v : Value} {xs : List ByteArray} {w w' : World} (h : TV b v xs w) (hb : Below w.heap.size w w') : TV b v xs w' := ⟨box_below h.box hb, h.row.below hb⟩
theorem TV.drew {b : Nat} {v : Value} {xs : List ByteArray} {w : World} (h : TV b v xs w) : TV b v xs w.drew := h.below (Below.refl _ _).drew
theorem TV.new {v : Value} {xs : List ByteArray} {w : World} (h : SRow w v xs) : TV w.heap.size v xs (w.alloc (.cells #[v] 25)) := ⟨Boxed.new w _ v, h.below (below_new w _)⟩
theorem set_small (xs : List ByteArray) (p : Int) (s : ByteArray) : ∀ x ∈ setRes xs p s, x.size ≤ maxLen := by
  by_cases hy : (treOk xs = true ∧ 0 ≤ p ∧ p ≤ 7) ∧ maySet s = true
  · obtain ⟨k, rfl⟩ : ∃ k : Nat, p = (k : Int) := ⟨p.toNat, by omega⟩
    rw [setRes_yes hy.1.1 (by omega) hy.2]
    intro x hx
    exact Nat.le_trans (treOk_small (treOk_set hy.1.1 (by omega) hy.2) x hx) (by unfold maxLen; omega)
  · rw [setRes_no hy]; intro x hx; simp at hx
theorem keys_op (v : Value) (w : World) : (Instr.field 25 (.agg #[v]) 0).run Try.prog w = .ok v w := by kernel_rfl
end Go.Proofs.Ytjijfcollmjljaa
/-
  The laws' own look whether two rows of texts are the same.
-/
namespace Go.Proofs.Ytjijfcollmjljaa
open Go.RowKit

set_option maxHeartbeats 1000000 in
theorem keTexts_any (v u : Value) (xs ys : List ByteArray) (w : World) (h : SRow w v xs) (k : SRow w u ys) :
    Calls Try.prog 11 #[v, u] w fun e w' => e = .returned (.bool (decide (xs = ys))) ∧ Below w.heap.size w w' := by
  obtain ⟨ao, cap, rfl, h1, h2, hc⟩ := h.form
  obtain ⟨bo, cap', rfl, h1', h2', hc'⟩ := k.form
  have hR := hide h
  have hS := hide k
  unfold maxLen at h2 h2'
  clear h k hc hc'
  by_cases hl : xs.length = ys.length
  · rw [← hl] at hS h1' ⊢
    have HL := hide hl
    clear hl
    go_enter Try.func11, Try.ntmps11
    go_wp2_with fail
    go_loopw [5] (fun i wr => ∃ k : Nat, k ≤ xs.length ∧ i = .int .i64 (k : Int) ∧ Hid (∀ j, j < k → xs.getD j ByteArray.empty = ys.getD j ByteArray.empty) ∧ Hid (Below w.heap.size w wr)) (fun i _ => xs.length - (intOf i).toNat)
    case atStart => exact ⟨0, by omega, rfl, fun j hj => by omega, Below.refl _ _⟩
    case round =>
      obtain ⟨k, hk, rfl, hN, hL⟩ := hrel
      by_cases hlt : k < xs.length
      · have hlt2 : (k : Int) < (xs.length : Int) := by omega
        obtain ⟨ao', c1, q1, _, _, q2⟩ := (SRow.below (unhide hR) (unhide hL)).form
        simp only [Value.slice.injEq] at q1
        obtain ⟨rfl, _, rfl⟩ := q1
        obtain ⟨bo', c2, q3, _, _, q4⟩ := (SRow.below (unhide hS) (unhide hL)).form
        simp only [Value.slice.injEq] at q3
        obtain ⟨rfl, z3, rfl⟩ := q3
        clear z3
        obtain ⟨a, rfl, hck⟩ := q2 k hlt
        obtain ⟨b, rfl, hck'⟩ := q4 k (by have := HL.out; omega)
        clear q2 q4
        have i3 : IntKind.i64.wrap ((k : Int) + 1) = (k : Int) + 1 := by simp [IntKind.wrap, IntKind.bits, IntKind.signed]; omega
        have hYes : Hid (xs.getD k ByteArray.empty = ys.getD k ByteArray.empty → ∀ j, j < k + 1 → xs.getD j ByteArray.empty = ys.getD j ByteArray.empty) := by
          intro ht j hj
          by_cases hjk : j = k
          · subst hjk; exact ht
          · exact hN j (by omega)
        have hNo : Hid (xs.getD k ByteArray.empty ≠ ys.getD k ByteArray.empty → decide (xs = ys) = false) := by
          intro ht
          simp
          intro e
          exact ht (by rw [e])
        generalize xs.getD k ByteArray.empty = y at hck hYes hNo
        generalize ys.getD k ByteArray.empty = z at hck' hYes hNo
        by_cases he : y = z
        · have hN1 := hide (hYes.out he)
          subst he
          go_wp2_with fail
          go_quiet (fail)
          go_wp2_with fail
          go_roundw
          case rel => exact ⟨k + 1, by omega, by simp, hN1, below_drewN (unhide hL) _⟩
          case measure => simp [intOf]; omega
        · have hE := hNo.out he
          have hnk : (y.toList == z.toList) = false := by
            cases q : (y.toList == z.toList) with
            | false => rfl
            | true => exact absurd (toList_eq.1 q) he
          go_wp2_with fail
          go_quiet (fail)
          go_wp2_with fail
          go_ret
          exact ⟨ret_bool' hE.symm, below_drewN (unhide hL) _⟩
      · have hlt2 : decide ((k : Int) < (xs.length : Int)) = false := by simp; omega
        have hE : decide (xs = ys) = true := by
          simp
          exact rows_eq HL.out (fun j hj => hN j (by omega))
        go_wp2_with fail
        go_ret
        exact ⟨ret_bool' hE.symm, unhide hL⟩
  · have hl2 : ((xs.length : Int) == (ys.length : Int)) = false := by simp; omega
    have hE : decide (xs = ys) = false := by
      simp
      intro e
      exact hl (by rw [e])
    go_enter Try.func11, Try.ntmps11
    go_wp2_with fail
    go_ret
    exact ⟨ret_bool' hE.symm, Below.refl _ _⟩

#print axioms keTexts_any
end Go.Proofs.Ytjijfcollmjljaa
/-
  The laws' own looks over rows of numbers: whether two are the same, whether a number is one of some.
-/
namespace Go.Proofs.Ytjijfcollmjljaa
open Go.RowKit

theorem ints_eq {xs ys : List Int} (hl : xs.length = ys.length) (h : ∀ j, j < xs.length → xs.getD j 0 = ys.getD j 0) : xs = ys := by
  apply List.ext_getElem hl
  intro i h1 h2
  have := h i h1
  rw [List.getD_eq_getElem?_getD, List.getElem?_eq_getElem h1, List.getD_eq_getElem?_getD, List.getElem?_eq_getElem h2] at this
  exact this
theorem mem_getI {xs : List Int} {x : Int} (h : x ∈ xs) : ∃ k, k < xs.length ∧ xs.getD k 0 = x := by
  obtain ⟨j, hj, e⟩ := List.getElem_of_mem h
  refine ⟨j, hj, ?_⟩
  rw [List.getD_eq_getElem?_getD, List.getElem?_eq_getElem hj]
  exact e
theorem getI_mem {xs : List Int} {k : Nat} (h : k < xs.length) : xs.getD k 0 ∈ xs := by
  rw [List.getD_eq_getElem?_getD, List.getElem?_eq_getElem h]
  exact List.getElem_mem h

set_option maxHeartbeats 1000000 in
theorem keInts_any (v u : Value) (xs ys : List Int) (w : World) (h : IRow w v xs) (k : IRow w u ys) :
    Calls Try.prog 23 #[v, u] w fun e w' => e = .returned (.bool (decide (xs = ys))) ∧ Below w.heap.size w w' := by
  obtain ⟨ao, cap, rfl, h1, h2, hc⟩ := h.form
  obtain ⟨bo, cap', rfl, h1', h2', hc'⟩ := k.form
  have hR := hide h
  have hS := hide k
  unfold maxLen at h2 h2'
  clear h k hc hc'
  by_cases hl : xs.length = ys.length
  · rw [← hl] at hS h1' ⊢
    have HL := hide hl
    clear hl
    go_enter Try.func23, Try.ntmps23
    go_wp2_with fail
    go_loopw [5] (fun i wr => ∃ k : Nat, k ≤ xs.length ∧ i = .int .i64 (k : Int) ∧ Hid (∀ j, j < k → xs.getD j 0 = ys.getD j 0) ∧ Hid (Below w.heap.size w wr)) (fun i _ => xs.length - (intOf i).toNat)
    case atStart => exact ⟨0, by omega, rfl, fun j hj => by omega, Below.refl _ _⟩
    case round =>
      obtain ⟨k, hk, rfl, hN, hL⟩ := hrel
      by_cases hlt : k < xs.length
      · have hlt2 : (k : Int) < (xs.length : Int) := by omega
        obtain ⟨ao', c1, q1, _, _, q2⟩ := (IRow.below (unhide hR) (unhide hL)).form
        simp only [Value.slice.injEq] at q1
        obtain ⟨rfl, _, rfl⟩ := q1
        obtain ⟨bo', c2, q3, _, _, q4⟩ := (IRow.below (unhide hS) (unhide hL)).form
        simp only [Value.slice.injEq] at q3
        obtain ⟨rfl, z3, rfl⟩ := q3
        clear z3
        obtain ⟨a, rfl, hck⟩ := q2 k hlt
        obtain ⟨b, rfl, hck'⟩ := q4 k (by have := HL.out; omega)
        clear q2 q4
        have i3 : IntKind.i64.wrap ((k : Int) + 1) = (k : Int) + 1 := by simp [IntKind.wrap, IntKind.bits, IntKind.signed]; omega
        have hYes : Hid (xs.getD k 0 = ys.getD k 0 → ∀ j, j < k + 1 → xs.getD j 0 = ys.getD j 0) := by
          intro ht j hj
          by_cases hjk : j = k
          · subst hjk; exact ht
          · exact hN j (by omega)
        have hNo : Hid (xs.getD k 0 ≠ ys.getD k 0 → decide (xs = ys) = false) := by
          intro ht
          simp
          intro e
          exact ht (by rw [e])
        generalize xs.getD k 0 = y at hck hYes hNo
        generalize ys.getD k 0 = z at hck' hYes hNo
        by_cases he : y = z
        · have hN1 := hide (hYes.out he)
          subst he
          go_wp2_with fail
          go_quiet (fail)
          go_wp2_with fail
          go_roundw
          case rel => exact ⟨k + 1, by omega, by simp, hN1, below_drewN (unhide hL) _⟩
          case measure => simp [intOf]; omega
        · have hE := hNo.out he
          have hnk : (y == z) = false := by simpa using he
          have hnk2 : (y != z) = true := by simpa using he
          go_wp2_with fail
          go_quiet (fail)
          go_wp2_with fail
          go_ret
          exact ⟨ret_bool' hE.symm, below_drewN (unhide hL) _⟩
      · have hlt2 : decide ((k : Int) < (xs.length : Int)) = false := by simp; omega
        have hE : decide (xs = ys) = true := by
          simp
          exact ints_eq HL.out (fun j hj => hN j (by omega))
        go_wp2_with fail
        go_ret
        exact ⟨ret_bool' hE.symm, unhide hL⟩
  · have hl2 : ((xs.length : Int) == (ys.length : Int)) = false := by simp; omega
    have hE : decide (xs = ys) = false := by
      simp
      intro e
      exact hl (by rw [e])
    go_enter Try.func23, Try.ntmps23
    go_wp2_with fail
    go_ret
    exact ⟨ret_bool' hE.symm, Below.refl _ _⟩

end Go.Proofs.Ytjijfcollmjljaa
/-
  The laws' own look whether a number is one of some.
-/
namespace Go.Proofs.Ytjijfcollmjljaa
open Go.RowKit

set_option maxHeartbeats 1000000 in
theorem keIn_any (v : Value) (xs : List Int) (n : Int) (w : World) (h : IRow w v xs) :
    Calls Try.prog 16 #[v, .int .i64 n] w fun e w' => e = .returned (.bool (decide (n ∈ xs))) ∧ w' = w := by
  obtain ⟨ao, cap, rfl, h1, h2, hc⟩ := h.form
  have hC := hide hc
  unfold maxLen at h2
  clear h hc
  go_enter Try.func16, Try.ntmps16
  go_wp2_with fail
  go_loop [5] (fun i => ∃ k : Nat, k ≤ xs.length ∧ i = .int .i64 (k : Int) ∧ Hid (∀ j, j < k → xs.getD j 0 ≠ n)) (fun i => xs.length - (intOf i).toNat)
  case atStart => exact ⟨0, by omega, rfl, fun j hj => by omega⟩
  case round =>
    obtain ⟨k, hk, rfl, hN⟩ := hrel
    by_cases hlt : k < xs.length
    · have hlt2 : (k : Int) < (xs.length : Int) := by omega
      obtain ⟨a, rfl, hck⟩ := hC.out k hlt
      have i3 : IntKind.i64.wrap ((k : Int) + 1) = (k : Int) + 1 := by simp [IntKind.wrap, IntKind.bits, IntKind.signed]; omega
      by_cases he : xs.getD k 0 = n
      · have hE : decide (n ∈ xs) = true := by rw [← he]; exact decide_eq_true (getI_mem hlt)
        rw [he] at hck
        have HE := hide hE
        clear hE he
        go_wp2_with fail
        go_ret
        exact ⟨ret_bool' HE.out.symm, rfl⟩
      · have hN1 : Hid (∀ j, j < k + 1 → xs.getD j 0 ≠ n) := by
          intro j hj
          by_cases hjk : j = k
          · subst hjk; exact he
          · exact hN j (by omega)
        generalize xs.getD k 0 = y at hck he
        have hn : (y == n) = false := by simpa using he
        go_wp2_with fail
        exact ⟨⟨k + 1, by omega, by simp, hN1⟩, by simp [intOf]; omega⟩
    · have hlt2 : decide ((k : Int) < (xs.length : Int)) = false := by simp; omega
      have hE : Hid (decide (n ∈ xs) = false) := by
        show decide _ = false
        apply decide_eq_false
        intro hm
        obtain ⟨j, hj, e⟩ := mem_getI hm
        exact hN j (by omega) e
      go_wp2_with fail
      go_ret
      exact ⟨ret_bool' hE.out.symm, rfl⟩
#print axioms keIn_any
end Go.Proofs.Ytjijfcollmjljaa
/-
  The laws' own last word: it returns true.
-/
namespace Go.Proofs.Ytjijfcollmjljaa
open Go.RowKit

set_option maxHeartbeats 400000 in
theorem keOk_any (w : World) : Calls Try.prog 17 #[] w fun e w' => e = .returned (.bool true) ∧ Below w.heap.size w w' := by
  have hk : Hid (Kw.ok ⟨#[65, 49, 59]⟩ = true) := by show Kw.ok _ = true; decide +kernel
  go_enter Try.func17, Try.ntmps17
  go_wp2_with fail
  refine (iSecOk_any ⟨#[65, 49, 59]⟩ _ (le_maxLen (by decide))).mono ?_
  rw [hk.out]
  rintro e w1 ⟨rfl, hb1⟩
  go_wp2_with fail
  go_ret
  exact ⟨rfl, hb1⟩

#print axioms keOk_any
end Go.Proofs.Ytjijfcollmjljaa
/-
  The program's TreLeaf.
-/
namespace Go.Proofs.Ytjijfcollmjljaa
open Go.RowKit

set_option maxHeartbeats 400000 in
theorem iTreLeaf_any (who : Int) (w : World) : Calls Try.prog 14 #[.int .i64 who] w fun e w' => e = .returned (.int .i64 (leafOf who)) ∧ w' = w := by
  go_enter Try.func14, Try.ntmps14
  go_wp2_with fail
  refine (placeOf_any _ _).mono ?_
  rintro e w1 ⟨rfl, rfl⟩
  go_wp2_with fail
  go_ret
  exact ⟨rfl, rfl⟩
end Go.Proofs.Ytjijfcollmjljaa
/-
  The program's TreUp: the places above, one by one.
-/
namespace Go.Proofs.Ytjijfcollmjljaa
open Go.RowKit Go.Shelf
attribute [local go_sem] Oper.semAt_some

theorem chain_len (p : Int) : (chainOf p).length ≤ 4 := by
  unfold chainOf
  split
  · next h =>
    obtain ⟨k, rfl⟩ : ∃ k : Nat, p = (k : Int) := ⟨p.toNat, by omega⟩
    rw [List.length_cons, upOf_nat k (by omega), List.length_map]
    have := ups_len k (by omega)
    omega
  · simp

set_option maxRecDepth 100000 in
set_option maxHeartbeats 2000000 in
theorem iTreUp_in (n : Nat) (hn : 3 ≤ n) (p : Int) (w : World) :
    CallsIn Fence.wide n Try.prog 15 #[.int .i64 p] w fun e W' => ∃ v, e = .returned v ∧ OwnI w.heap.size W' v (upOf p) ∧ Below w.heap.size w W' := by
  have h1 : 1 ≤ n := by omega
  have h2 : 1 ≤ n - 1 := by omega
  have hro : Fence.wide.round = none := rfl
  have hcl := chain_len (overOf p)
  obtain ⟨i0, hi, hz0, hz1, hz2⟩ := info_parts info_int2
  refine callsIn_of_wp_marks Try.func15 rfl trivial ?_ hro
  simp only [Try.ntmps15, List.size_toArray, List.length_cons, List.length_nil, Nat.reduceAdd, Nat.reduceSub, Array.replicate_succ, Array.replicate_zero, List.push_toArray, List.append_toArray, List.nil_append, List.cons_append]
  gi_wp2_with (refine ⟨trivial, ?_⟩; gi_at_call 46; refine (above_in _ h2 p _).mono ?_; rintro e w' ⟨rfl, rfl⟩)
  have bO := Boxed.new w 33 (.slice none 0 0)
  have bN := Boxed.new (w.alloc (.cells #[.slice none 0 0] 33)) 57 (.int .i64 (overOf p))
  rw [World.size_alloc] at bN
  have hB0 : Below w.heap.size w ((w.alloc (.cells #[.slice none 0 0] 33)).alloc (.cells #[.int .i64 (overOf p)] 57)) := ((Below.refl _ w).alloc (Nat.le_refl _) _).alloc (by simp) _
  refine wpIn_rangeFunc_ownG hro h1 (gf := 59) (lb := #[.pointer (some ⟨w.heap.size + 1, 0, none⟩)]) rfl trivial (enters_of Try.func59 (by kernel_rfl) rfl)
    (upward_stops (n - 1) h2 (w.heap.size + 1) w.heap.size (overOf p) _ (by simp) bN.cell) belowK_t (belowK_b (by simp; omega)) (Below.refl _ _) (fun _ => rfl)
    (fun pre W => (∃ v, Boxed W w.heap.size 33 v ∧ W.ownsRow w.heap.size 3 1 v pre.length (pre.map (Value.int .i64)) ∧ True) ∧ Below w.heap.size w W)
    (fun _ _ _ => False)
    (OwnFrom.and (Own.from (holdsRow_own w.heap.size w.heap.size 33 3 1 (fun (pre : List Int) => pre.length) (fun (pre : List Int) => pre.map (Value.int .i64)) (fun _ _ => True)) _) (ownFrom_below (Nat.le_refl _) (by simp; omega)))
    (fun _ _ _ _ _ hs _ _ => hs)
    ⟨⟨_, bO.alloc _, World.ownsRow_nil _ _ _ _, trivial⟩, hB0⟩
    (fun x => { tmps := #[.int .i64 p, undef, .slice none 0 0, .pointer (some ⟨w.heap.size, 0, none⟩), .int .i64 x, .int .i64 p, .func (.func 59) #[] #[.pointer (some ⟨w.heap.size + 1, 0, none⟩)], .int .i64 x, undef, undef, undef, undef, undef], defers := [] }) ?assign ?body ?done ?stop
  case assign =>
    intro l x W K hK
    gi_wp2
    exact hK
  case body =>
    rintro l pre x W ⟨⟨v, hv, hrow, _⟩, hB⟩ hlt
    have hc := hv.cell
    gi_wp2_with (gi_at_builtin; refine wpListIn_append_own _ rfl _ _ 33 rfl w.heap.size 3 i0 (.int .i64 0) 1 8 Try.underlying33 hi hz0 hz1 hz2 rfl (by decide) _ _ _ rfl (hrow.alloc _) ⟨W.heap.size, 0, none⟩ 1 1 [.int .i64 x] rfl rfl (cell_one_new _ _ _) (by simp [Value.oneCell']) (by unfold maxLen; omega) (by omega) (by have := hB.size; simp; omega) ?_; intro v' w1 hown' hgrow _; obtain ⟨g', cap', rfl⟩ := ownsRow_succ hown'; obtain ⟨hv1, hv2, hr2, hk2, hb2⟩ := hv.appended (by decide) hrow hB.size (Nat.le_refl _) hown' hgrow; have hc1 := hv1.cell; have hf1 := hv1.frozen)
    exact ⟨hk2.from _, hb2, ⟨_, hv2, by simpa using hr2, trivial⟩, hB.trans hb2⟩
  case done =>
    rintro D ys W hD rfl ⟨⟨v, hv, hrow, _⟩, hB⟩ hK
    have hc := hv.cell
    gi_wp2
    refine ⟨by simp, .inl ⟨_, _, rfl, run_takeDeferred hK, ?_⟩⟩
    refine ⟨_, results_tmp rfl _ _ _, v, rfl, ?_, hB.trans (belowK_b (w := w) (Nat.le_refl _) W D _ _ (by simp at hD; omega) hK rfl rfl)⟩
    rw [upOf_chain]
    exact ownsRow_putObj hrow _ hK rfl
  case stop =>
    rintro D c pre W _ _ h _
    exact h.elim

theorem iTreUp_any (p : Int) (w : World) :
    Calls Try.prog 15 #[.int .i64 p] w fun e w' => ∃ v, e = .returned v ∧ OwnI w.heap.size w' v (upOf p) ∧ Below w.heap.size w w' := callsIn_wide.1 (iTreUp_in 3 (by omega) p w)
#print axioms iTreUp_any
end Go.Proofs.Ytjijfcollmjljaa
