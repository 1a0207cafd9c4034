/-
  Trees without keys: TreNew of the program.
-/
import Derived.Test.YtkcopldlobomhaaFnMemFirstB6
import Derived.Test.YtkcopldlobomhaaFnMemFirstB4
import Derived.Test.YtkcopldlobomhaaFnMemFirstB5
import Derived.Shelf.RegionOpen
import Derived.Test.YtkcopldlobomhaaFnMemFirstB1
namespace Go.Proofs.Ytkcopldlobomhaa
open Go.RowKit

set_option maxRecDepth 100000 in
set_option maxHeartbeats 1000000 in
theorem iTreNew_any (w : World) : Calls Try.prog 25 #[] w fun e w' => ∃ v, e = .returned (.agg #[v]) ∧ Own w.heap.size w' v bare ∧ Below w.heap.size w w' := by
  obtain ⟨i0, hi, hz0, hz1, hz2⟩ := info_parts info_str2
  have hI := hide (And.intro hi (And.intro hz0 hz1))
  have hB2 : Hid (i0.bytes * 15 ≤ 281474976710656) := by show _ ≤ _; rw [hz2]; omega
  clear hi hz0 hz1 hz2
  go_enter Try.func25, Try.ntmps25
  go_wp2_with (at_make; refine wpList_make_full _ rfl _ _ 25 rfl w.heap.size 9 i0 (.string ⟨#[]⟩) 1 Try.underlying25 (unhide hI).1 (unhide hI).2.1 (unhide hI).2.2 _ _ _ _ 15 rfl rfl rfl rfl (unhide hB2) (by unfold maxLen; omega) (by simp) ?_)
  intro w1 hown hgrow
  have hO1 : Hid (Own w.heap.size w1 (.slice (some ⟨w.heap.size + 1, 0, none⟩) 15 15) bare) := by
    have e : (madeCells #[Value.string ⟨#[]⟩] 15).toList = bare.map Value.string := by
      simp [madeCells, Nat.mod_one, List.map_const', bare]; rfl
    rw [e] at hown
    exact hown
  have hL1 : Hid (Below w.heap.size w w1) := ((Below.refl _ _).alloc (Nat.le_refl _) _).grown hgrow (by simp) (fun k hk => by cases hk)
  have hblk : w1.heap[w.heap.size]? = some (.cells #[.slice none 0 0] 27) := (hgrow.block w.heap.size (by simp) (by simp)).trans (World.alloc_heap_new w _)
  have hc : w1.cell? ⟨w.heap.size, 0, none⟩ = some (.slice none 0 0) := by simp [World.cell?, hblk]
  have hf : w1.frozen? ⟨w.heap.size, 0, none⟩ = false := by simp [World.frozen?, hblk]
  clear hown hgrow
  go_wp2_with fail
  refine bodyPost_ret (v := .agg #[.slice (some ⟨w.heap.size + 1, 0, none⟩) 15 15]) (by simp [results, Try.results25, go_sem, hc]) rfl ⟨_, rfl, ?_, (unhide hL1).setCell (p := ⟨w.heap.size, 0, none⟩) (Nat.le_refl _) _⟩
  refine World.ownsRow.kept (unhide hO1) (grownBy_setCell0 w1 w.heap.size _) (.inr ?_)
  simp [Value.ownBlock]

#print axioms iTreNew_any
end Go.Proofs.Ytkcopldlobomhaa
/-
  The program's MemFirst.
-/
namespace Go.Proofs.Ytkcopldlobomhaa
open Go.RowKit

theorem treOk_bare : treOk bare = true := by decide

set_option maxRecDepth 100000 in
set_option maxHeartbeats 4000000 in
theorem iMemFirst_any (p : Int) (s t : ByteArray) (w : World) (hs : s.size ≤ maxLen) (ht : t.size ≤ maxLen) :
    Calls Try.prog 6 #[.int .i64 p, .string s, .string t] w fun e w' => ∃ v, e = .returned v ∧ MemO w.heap.size w' v (fstOf p s t) ∧ Below w.heap.size w w' := by
  have HS := hide hs
  have HT := hide ht
  unfold maxLen at hs ht
  have HB0 : Hid (Below w.heap.size w (w.alloc (.cells noMem 30))) := (Below.refl _ _).alloc (Nat.le_refl _) _
  have A0 := hide (Blk.new w 30 noMem)
  have hs0 : (w.alloc (.cells noMem 30)).heap.size = w.heap.size + 1 := by simp
  by_cases hp : 0 ≤ p ∧ p ≤ 7
  · obtain ⟨k, rfl⟩ : ∃ k : Nat, p = (k : Int) := ⟨p.toNat, by omega⟩
    have hk8 : k < 8 := by omega
    have HK8 := hide hk8
    clear hp
    go_enter Try.func6, Try.ntmps6
    go_wp2_with fail
    refine (isOne_yes _ _ (by omega) (by omega)).mono ?_
    rintro e wa ⟨rfl, rfl⟩
    go_wp2_with fail
    refine (mayBeSet_any s _ HS.out).mono ?_
    rintro e w1 ⟨rfl, hb1⟩
    have A1 := hide ((unhide A0).below hb1)
    have HB1 := hide (HB0.out.trans (hb1.mono HB0.out.size))
    have hs1 := hb1.size
    rw [hs0] at hs1
    clear hb1 A0 HB0 hs0
    cases hos : maySet s with
    | false =>
      have HE : Hid (¬ fstOk (k : Int) s t) := by show ¬ _; unfold fstOk; rw [hos]; simp
      have l1 := load_mm ((unhide A1).set noMem) rfl
      have HB2 := hide (below_blk (unhide HB1) (Nat.le_refl _) noMem)
      clear hos
      go_wp2_with (refine wpList_store_whole rfl 30 _ _ rfl w.heap.size noMem rfl rfl 30 _ (unhide A1) info_mm rfl (one_mm _ _ _ _ _ _ _ _ _ _ _) ?_)
      refine bodyPost_ret (v := .agg noMem) (results_cell rfl rfl l1) rfl ⟨_, rfl, ?_, unhide HB2⟩
      rw [fst_no HE.out]
      exact MemO.none _ _
    | true =>
      have HOS := hide hos
      have HSZ : Hid (s.size ≤ 292) := by show _ ≤ _; unfold maySet at hos; simp at hos; exact hos.2
      clear hos
      go_wp2_with fail
      refine (iSecOk_any t _ HT.out).mono ?_
      rintro e w2 ⟨rfl, hb2⟩
      have A2 := hide ((unhide A1).below hb2)
      have HB2 := hide (HB1.out.trans (hb2.mono HB1.out.size))
      have hs2 := hb2.size
      clear hb2 A1 HB1
      cases hot : Kw.ok t with
      | false =>
        have HE : Hid (¬ fstOk (k : Int) s t) := by show ¬ _; unfold fstOk; rw [hot]; simp
        have l1 := load_mm ((unhide A2).set noMem) rfl
        have HB3 := hide (below_blk (unhide HB2) (Nat.le_refl _) noMem)
        clear hot
        go_wp2_with (refine wpList_store_whole rfl 30 _ _ rfl w.heap.size noMem rfl rfl 30 _ (unhide A2) info_mm rfl (one_mm _ _ _ _ _ _ _ _ _ _ _) ?_)
        refine bodyPost_ret (v := .agg noMem) (results_cell rfl rfl l1) rfl ⟨_, rfl, ?_, unhide HB3⟩
        rw [fst_no HE.out]
        exact MemO.none _ _
      | true =>
        have HOT := hide hot
        have HTZ : Hid (t.size ≤ 300) := (ok_facts hot).1
        clear hot
        have HE : Hid (fstOk (k : Int) s t) := ⟨by have := HK8.out; omega, HOS.out, HOT.out⟩
        go_wp2_with fail
        refine (iTreNew_any _).mono ?_
        rintro e w3 ⟨v3, rfl, ho3, hb3⟩
        have A3 := hide ((unhide A2).below hb3)
        have HB3 := hide (HB2.out.trans (hb3.mono HB2.out.size))
        have hs3 := hb3.size
        have R3 := hide ho3.srow
        clear ho3 hb3 A2 HB2
        go_wp2_with fail
        refine (iTreSet_any _ bare (k : Int) s _ (unhide R3) (fun x hx => by rw [List.eq_of_mem_replicate hx]; exact Nat.zero_le _) HS.out).mono ?_
        rw [setRes_yes treOk_bare HK8.out HOS.out]
        rintro e w5 ⟨u5, rfl, ho5, hb5⟩
        obtain ⟨go, c, hu5⟩ := row_form' ho5
        subst hu5
        rw [show (setKeys bare k s).length = 15 from setKeys_len _ _ _] at *
        have A5 := hide ((unhide A3).below hb5)
        have HB5 := hide (HB3.out.trans (hb5.mono HB3.out.size))
        have O5 := hide ho5
        have hs5 := hb5.size
        clear ho5 hb5 A3 HB3 R3
        go_wp2_with fail
        refine (placeOf_any _ _).mono ?_
        rw [show leafOf (k : Int) = 7 + (k : Int) by unfold leafOf; rw [if_pos (by have := HK8.out; omega)]]
        rintro e wz ⟨rfl, rfl⟩
        go_wp2_with fail
        refine (ownUpward_any (7 + (k : Int)) s (by have := HSZ.out; omega) _).mono ?_
        rintro e w6 ⟨v6, rfl, ho6, hb6⟩
        obtain ⟨oo, oc, hv6⟩ := row_form' ho6
        subst hv6
        generalize hPL : (pathOf (chainOf (7 + (k : Int))) s).length = PL at *
        have A6 := hide ((unhide A5).below hb6)
        have HB6 := hide (HB5.out.trans (hb6.mono HB5.out.size))
        have O6 := hide ((unhide O5).below hb6)
        have M6 := hide ho6
        have hs6 := hb6.size
        have HPL := hide hPL
        clear ho6 hb6 A5 HB5 O5 hPL
        go_wp2_with fail
        refine (clone_any t _ (by have := HTZ.out; omega)).mono ?_
        rintro e w7 ⟨rfl, hb7⟩
        have A7 := hide ((unhide A6).below hb7)
        have HB7 := hide (HB6.out.trans (hb7.mono HB6.out.size))
        have O7 := hide ((unhide O6).below hb7)
        have M7 := hide (own_below' (unhide M6) hb7)
        clear hb7 A6 HB6 O6 M6
        have l1 := load_mm ((unhide A7).set (memC true (k : Int) (.slice go 15 c) (.slice oo PL oc) 0 t ⟨#[]⟩)) rfl
        have HB8 := hide (below_blk (unhide HB7) (Nat.le_refl _) (memC true (k : Int) (.slice go 15 c) (.slice oo PL oc) 0 t ⟨#[]⟩))
        have O8 : Hid _ := row_blk (unhide O7) (unhide A7) (by decide) (memC true (k : Int) (.slice go 15 c) (.slice oo PL oc) 0 t ⟨#[]⟩)
        have M8 : Hid _ := row_blk (unhide M7) (unhide A7) (by decide) (memC true (k : Int) (.slice go 15 c) (.slice oo PL oc) 0 t ⟨#[]⟩)
        go_wp2_with (refine wpList_store_whole rfl 30 _ _ rfl w.heap.size (memC true (k : Int) (.slice go 15 c) (.slice oo PL oc) 0 t ⟨#[]⟩) rfl rfl 30 _ (unhide A7) info_mm rfl (one_mm _ _ _ _ _ _ _ _ _ _ _) ?_)
        refine bodyPost_ret (v := .agg (memC true (k : Int) (.slice go 15 c) (.slice oo PL oc) 0 t ⟨#[]⟩)) (results_cell rfl rfl l1) rfl ⟨_, rfl, ?_, unhide HB8⟩
        rw [fst_yes HE.out]
        exact ⟨_, _, rfl, row_lowB (unhide O8) (by omega), row_lowB (unhide M8) (by omega)⟩
  · have HE : Hid (¬ fstOk p s t) := fun q => hp q.1
    have l1 := load_mm ((unhide A0).set noMem) rfl
    have HB3 := hide (below_blk (unhide HB0) (Nat.le_refl _) noMem)
    have HP := hide hp
    clear hp
    go_enter Try.func6, Try.ntmps6
    go_wp2_with fail
    refine (isOne_no _ _ (by have := HP.out; omega)).mono ?_
    rintro e wa ⟨rfl, rfl⟩
    go_wp2_with (refine wpList_store_whole rfl 30 _ _ rfl w.heap.size noMem rfl rfl 30 _ (unhide A0) info_mm rfl (one_mm _ _ _ _ _ _ _ _ _ _ _) ?_)
    refine bodyPost_ret (v := .agg noMem) (results_cell rfl rfl l1) rfl ⟨_, rfl, ?_, unhide HB3⟩
    rw [fst_no HE.out]
    exact MemO.none _ _
#print axioms iMemFirst_any
end Go.Proofs.Ytkcopldlobomhaa
/-
  The program's TreLeaf.
-/
namespace Go.Proofs.Ytkcopldlobomhaa
open Go.RowKit

set_option maxHeartbeats 400000 in
theorem iTreLeaf_any (who : Int) (w : World) : Calls Try.prog 13 #[.int .i64 who] w fun e w' => e = .returned (.int .i64 (leafOf who)) ∧ w' = w := by
  go_enter Try.func13, Try.ntmps13
  go_wp2_with fail
  refine (placeOf_any _ _).mono ?_
  rintro e w1 ⟨rfl, rfl⟩
  go_wp2_with fail
  go_ret
  exact ⟨rfl, rfl⟩
end Go.Proofs.Ytkcopldlobomhaa
/-
  The program's secretAt and ownsItsPlaces.
-/
namespace Go.Proofs.Ytkcopldlobomhaa
open Go.RowKit Go.Shelf
attribute [local go_sem] Oper.semAt_some

/-- The first secret of a place. -/
def secAt : List Mo → Int → ByteArray
  | [], _ => ⟨#[]⟩
  | b :: bs, p => if b.1 = p then b.2 else secAt bs p
theorem secAt_none : ∀ (bs : List Mo) (p : Int), (∀ j, j < bs.length → (bs.getD j noMo).1 ≠ p) → secAt bs p = ⟨#[]⟩
  | [], _, _ => rfl
  | b :: bs, p, h => by
    unfold secAt
    rw [if_neg (show ¬ b.1 = p from h 0 (by simp))]
    exact secAt_none bs p (fun j hj => h (j + 1) (by simpa using hj))
theorem secAt_at : ∀ (bs : List Mo) (p : Int) (k : Nat), k < bs.length → (∀ j, j < k → (bs.getD j noMo).1 ≠ p) → (bs.getD k noMo).1 = p → secAt bs p = (bs.getD k noMo).2
  | [], _, _, h, _, _ => absurd h (Nat.not_lt_zero _)
  | b :: bs, p, 0, _, _, h => by unfold secAt; rw [if_pos (show b.1 = p from h)]; rfl
  | b :: bs, p, k + 1, hk, h, hp => by
    unfold secAt
    rw [if_neg (show ¬ b.1 = p from h 0 (by omega))]
    exact secAt_at bs p k (by simpa using hk) (fun j hj => h (j + 1) (by omega)) hp
theorem secAt_mem : ∀ (bs : List Mo) (p : Int), secAt bs p = ⟨#[]⟩ ∨ ∃ b ∈ bs, b.1 = p ∧ secAt bs p = b.2
  | [], _ => .inl rfl
  | b :: bs, p => by
    unfold secAt
    by_cases h : b.1 = p
    · rw [if_pos h]; exact .inr ⟨b, by simp, h, rfl⟩
    · rw [if_neg h]
      rcases secAt_mem bs p with q | ⟨c, q1, q2⟩
      · exact .inl q
      · exact .inr ⟨c, by simp [q1], q2⟩

set_option maxRecDepth 100000 in
set_option maxHeartbeats 2000000 in
theorem secretAt_any (v : Value) (bs : List Mo) (p : Int) (w : World) (h : MRow w v bs) :
    Calls Try.prog 59 #[v, .int .i64 p] w fun e w' => e = .returned (.string (secAt bs p)) ∧ Below w.heap.size w w' := by
  have hR := hide h
  obtain ⟨ao, cap, rfl, h1, h2, _⟩ := h
  unfold maxLen at h2
  go_enter Try.func59, Try.ntmps59
  go_wp2_with fail
  go_loopw [6, 9] (fun b i wr => ∃ k : Nat, k ≤ bs.length ∧ i = .int .i64 (k : Int) ∧ Hid (∀ j, j < k → (bs.getD j noMo).1 ≠ p) ∧ Hid (Below w.heap.size w wr)) (fun _ i _ => bs.length - (intOf i).toNat)
  case atStart => exact ⟨0, by omega, rfl, fun j hj => by omega, Below.refl _ _⟩
  case round =>
    obtain ⟨k, hk, rfl, hN, hL⟩ := hrel
    have hle := hL.out.size
    by_cases hlt : k < bs.length
    · have hlt2 : (k : Int) < (bs.length : Int) := by omega
      obtain ⟨ao', c1, q1, _, _, q2⟩ := (MRow.below (unhide hR) (unhide hL)).form
      simp only [Value.slice.injEq] at q1
      obtain ⟨rfl, z1, rfl⟩ := q1
      clear z1
      obtain ⟨a, rfl, hca, hcb⟩ := q2 k hlt
      clear q2
      have i3 : IntKind.i64.wrap ((k : Int) + 1) = (k : Int) + 1 := by simp [IntKind.wrap, IntKind.bits, IntKind.signed]; omega
      have HAT : Hid ((bs.getD k noMo).1 = p → secAt bs p = (bs.getD k noMo).2) := fun q => secAt_at bs p k hlt hN.out q
      have HNX : Hid ((bs.getD k noMo).1 ≠ p → ∀ j, j < k + 1 → (bs.getD j noMo).1 ≠ p) := fun q j hj => by
        by_cases e : j = k
        · subst e; exact q
        · exact hN.out j (by omega)
      generalize bs.getD k noMo = y at hca hcb HAT HNX
      have hLA : Hid (Below w.heap.size w (wr.alloc (.cells #[.int .i64 y.1, .string y.2] 55))) := (unhide hL).alloc hle _
      by_cases he : y.1 = p
      · have HE := hide (HAT.out he)
        have he2 : (y.1 == p) = true := by simpa using he
        clear HAT HNX he
        go_wp2_with fail
        go_ret
        exact ⟨congrArg (fun x => Ending.returned (.string x)) HE.out.symm, unhide hLA⟩
      · have HN1 := hide (HNX.out he)
        have he2 : (y.1 == p) = false := by simpa using he
        clear HAT HNX he
        go_wp2_with fail
        go_roundw
        case rel => exact ⟨k + 1, by omega, by simp, HN1, hLA⟩
        case measure => simp [intOf]; omega
    · have hlt2 : decide ((k : Int) < (bs.length : Int)) = false := by simp; omega
      have HE : Hid (secAt bs p = ⟨#[]⟩) := secAt_none bs p (fun j hj => hN.out j (by omega))
      go_wp2_with fail
      go_ret
      exact ⟨congrArg (fun x => Ending.returned (.string x)) HE.out.symm, unhide hL⟩

/-- Whether a place has no key, or the key of what is had there. -/
def fitsAt (keys : List ByteArray) (own : List Mo) (p : Nat) : Bool := decide (keys.getD p ByteArray.empty = ByteArray.empty) || decide (mkKey (secAt own (p : Int)) = keys.getD p ByteArray.empty)
/-- How many of some places have keys. -/
def keyedIn (keys : List ByteArray) (ps : List Nat) : Nat := (ps.filter fun p => decide (keys.getD p ByteArray.empty ≠ ByteArray.empty)).length
def ownsOf (keys : List ByteArray) (own : List Mo) (k : Nat) : Bool :=
  decide (keys.getD (7 + k) ByteArray.empty ≠ ByteArray.empty) && ((7 + k) :: ups (7 + k)).all (fitsAt keys own) && decide (own.length = keyedIn keys ((7 + k) :: ups (7 + k)))
theorem keyedIn_snoc (keys : List ByteArray) (ps : List Nat) (p : Nat) : keyedIn keys (ps ++ [p]) = keyedIn keys ps + if keys.getD p ByteArray.empty = ByteArray.empty then 0 else 1 := by
  unfold keyedIn
  rw [List.filter_append, List.length_append]
  by_cases h : keys.getD p ByteArray.empty = ByteArray.empty
  · rw [if_pos h]; simp [List.filter_cons]; exact h
  · have h2 : ¬ keys[p]?.getD ByteArray.empty = ByteArray.empty := h
    rw [if_neg h]; simp [h2]
theorem keyedIn_le (keys : List ByteArray) (ps : List Nat) : keyedIn keys ps ≤ ps.length := by unfold keyedIn; exact List.length_filter_le _ _
def valsF (ps : List (Fin 15)) : List Nat := ps.map (·.val)
theorem valsF_snoc (ps : List (Fin 15)) (x : Fin 15) : valsF (ps ++ [x]) = valsF ps ++ [x.val] := by simp [valsF]
theorem valsF_chain (k : Nat) (h : k < 8) : valsF (chainF (7 + (k : Int))) = (7 + k) :: ups (7 + k) := by
  rw [show (7 + (k : Int)) = ((7 + k : Nat) : Int) by omega, chainF_nat _ (by omega)]
  exact chainT_val ⟨7 + k, by omega⟩
theorem chainF_len (p : Int) : (chainF p).length ≤ 4 := by
  unfold chainF
  split
  · exact chainT_len _
  · simp
theorem blk_own {β : Type} (B : Nat) (t : TypeId) (f : β → Array Value) : _root_.Go.Own (fun s W => Blk W B t (f s)) := fun s X Y row hs hg hrow =>
  hs.kept hg (fun e' => by obtain ⟨o, ho, hc⟩ := hrow B e'.symm; rw [show X.heap[B]? = _ from hs] at ho; cases ho; cases hc)

theorem keepsOthers_belowO {w w' : World} (h : Below w.heap.size w w') : KeepsOthers w w' := ⟨h.size, fun k _ hk _ => (h.block k (Array.getElem?_eq_some_iff.1 hk).1).trans hk⟩
theorem blk_other {w : World} {b b' : Nat} {t : TypeId} {cs : Array Value} (h : Blk w b t cs) (hne : b ≠ b') (v : Value) : Blk (w.setCell ⟨b', 0, none⟩ v) b t cs := h.kept (grownBy_setCell' w b' v) (fun e => hne (by cases e; rfl))
/-- A part of the places at whose last one what is had does not fit. -/
def Misfit (keys : List ByteArray) (own : List Mo) (pre : List (Fin 15)) : Prop := ∃ x ∈ pre, fitsAt keys own x.val = false
set_option maxRecDepth 100000 in
set_option maxHeartbeats 8000000 in
theorem ownsItsPlaces_bare (inn : Bool) (k : Nat) (hk : k < 8) (ks os : Value) (keys : List ByteArray) (own : List Mo) (ep : Int) (init tag : ByteArray) (w : World) (hK : SRow w ks keys) (hO : MRow w os own) (hl : keys.length = 15) (hsm : ∀ o ∈ own, o.2.size ≤ maxLen) (hne : keys.getD (7 + k) ByteArray.empty = ByteArray.empty) :
    Calls Try.prog 38 #[.agg (memC inn (k : Int) ks os ep init tag)] w fun e W' => e = .returned (.bool (ownsOf keys own k)) ∧ Below w.heap.size w W' := by
  have HK := hide hK
  have HO := hide hO
  have HSM := hide hsm
  obtain ⟨a1, p1, rfl, g1, g2, g3⟩ := hK.form
  obtain ⟨a2, p2, rfl, g4, g5, _⟩ := hO
  have HL := hide hl
  rw [hl] at HK g1 g3 ⊢
  clear hl
  have HLF : Hid (leafOf (k : Int) = ((7 + k : Nat) : Int)) := by show _ = _; unfold leafOf; rw [if_pos (by omega)]; omega
  have HDEF : Hid (ownsOf keys own k = (decide (keys.getD (7 + k) ByteArray.empty ≠ ByteArray.empty) && (valsF (chainF ((7 + k : Nat) : Int))).all (fitsAt keys own) && decide (own.length = keyedIn keys (valsF (chainF ((7 + k : Nat) : Int)))))) := by
    show _ = _
    rw [show (((7 + k : Nat)) : Int) = 7 + (k : Int) by omega, valsF_chain k hk]
    rfl
  have hlf0 : 7 + k < 15 := by omega
  obtain ⟨lf, hlf⟩ : ∃ lf : Nat, lf = 7 + k := ⟨_, rfl⟩
  rw [← hlf] at HLF HDEF hlf0 hne
  clear hlf
  obtain ⟨ad, rfl, hc0⟩ := g3 lf (by omega)
  unfold maxLen at g2 g5
  clear g3 hK
  have j1 : (lf : Int) < 15 := by omega
  have al : Below w.heap.size w ((w.alloc (.cells (memC inn (k : Int) (.slice (some ad) 15 p1) (.slice a2 own.length p2) ep init tag) 30)).alloc (.cells #[.bool false] 4)) := ((Below.refl _ _).alloc (Nat.le_refl _) _).alloc (by simp) _
  have hc1 := (al.cell (cell_lt hc0)).trans hc0
  have A0 := hide ((Blk.new w 30 (memC inn (k : Int) (.slice (some ad) 15 p1) (.slice a2 own.length p2) ep init tag)).alloc (.cells #[.bool false] 4))
  have b0 := Boxed.new (w.alloc (.cells (memC inn (k : Int) (.slice (some ad) 15 p1) (.slice a2 own.length p2) ep init tag) 30)) 4 (.bool false)
  rw [World.size_alloc] at b0
  have B0 := hide b0
  have HB0 := hide al
  have hs0 : ((w.alloc (.cells (memC inn (k : Int) (.slice (some ad) 15 p1) (.slice a2 own.length p2) ep init tag) 30)).alloc (.cells #[.bool false] 4)).heap.size = w.heap.size + 2 := by simp
  have HPO : Hid (∀ u : World, Calls Try.prog 27 #[.int .i64 (k : Int)] u fun e w' => e = .returned (.int .i64 (lf : Int)) ∧ w' = u) := fun u => by have := placeOf_any (k : Int) u; rw [HLF.out] at this; exact this
  clear b0 al hc0
  have HE : Hid (ownsOf keys own k = false) := by show _ = _; rw [HDEF.out, hne]; simp
  rw [hne] at hc1
  go_enter Try.func38, Try.ntmps38
  go_wp2_with fail
  go_quiet ((go_at_call 27; exact Calls.quiet_of_same (HPO.out _)))
  have HB1 := hide (below_drewN (unhide HB0) nq)
  have B1 := box_below (unhide B0) (below_drewN (Below.refl _ _) nq)
  have HB2 := hide (below_box (unhide HB1) (b := w.heap.size + 1) (by omega) (.bool false))
  have l1 := B1.cell
  have l2 := B1.frozen
  have l3 := (B1.set (.bool false)).cell
  clear B1
  generalize (((w.alloc (.cells (memC inn (k : Int) (.slice (some ad) 15 p1) (.slice a2 own.length p2) ep init tag) 30)).alloc (.cells #[.bool false] 4)).drewN nq) = w1 at *
  go_wp2_with fail
  refine bodyPost_ret (v := .bool false) (by simp [results, Try.results38, go_sem, l3]) rfl ⟨by rw [HE.out], unhide HB2⟩

set_option maxRecDepth 100000 in
set_option maxHeartbeats 8000000 in
theorem ownsItsPlaces_in (n : Nat) (hn : 4 ≤ n) (inn : Bool) (k : Nat) (hk : k < 8) (ks os : Value) (keys : List ByteArray) (own : List Mo) (ep : Int) (init tag : ByteArray) (w : World) (hK : SRow w ks keys) (hO : MRow w os own) (hl : keys.length = 15) (hsm : ∀ o ∈ own, o.2.size ≤ maxLen) (hne : keys.getD (7 + k) ByteArray.empty ≠ ByteArray.empty) :
    CallsIn Fence.wide n Try.prog 38 #[.agg (memC inn (k : Int) ks os ep init tag)] w fun e W' => e = .returned (.bool (ownsOf keys own k)) ∧ Below w.heap.size w W' := by
  have h1 : 1 ≤ n := by omega
  have h2 : 1 ≤ n - 1 := by omega
  have hro : Fence.wide.round = none := rfl
  have HK := hide hK
  have HO := hide hO
  have HSM := hide hsm
  obtain ⟨a1, p1, rfl, g1, g2, g3⟩ := hK.form
  obtain ⟨a2, p2, rfl, g4, g5, _⟩ := hO
  have HL := hide hl
  rw [hl] at HK g1 g3 ⊢
  clear hl
  have HLF : Hid (leafOf (k : Int) = ((7 + k : Nat) : Int)) := by show _ = _; unfold leafOf; rw [if_pos (by omega)]; omega
  have HDEF : Hid (ownsOf keys own k = (decide (keys.getD (7 + k) ByteArray.empty ≠ ByteArray.empty) && (valsF (chainF ((7 + k : Nat) : Int))).all (fitsAt keys own) && decide (own.length = keyedIn keys (valsF (chainF ((7 + k : Nat) : Int)))))) := by
    show _ = _
    rw [show (((7 + k : Nat)) : Int) = 7 + (k : Int) by omega, valsF_chain k hk]
    rfl
  have hlf0 : 7 + k < 15 := by omega
  obtain ⟨lf, hlf⟩ : ∃ lf : Nat, lf = 7 + k := ⟨_, rfl⟩
  rw [← hlf] at HLF HDEF hlf0 hne
  clear hlf
  obtain ⟨ad, rfl, hc0⟩ := g3 lf (by omega)
  unfold maxLen at g2 g5
  clear g3 hK
  have j1 : (lf : Int) < 15 := by omega
  have al : Below w.heap.size w ((w.alloc (.cells (memC inn (k : Int) (.slice (some ad) 15 p1) (.slice a2 own.length p2) ep init tag) 30)).alloc (.cells #[.bool false] 4)) := ((Below.refl _ _).alloc (Nat.le_refl _) _).alloc (by simp) _
  have hc1 := (al.cell (cell_lt hc0)).trans hc0
  have A0 := hide ((Blk.new w 30 (memC inn (k : Int) (.slice (some ad) 15 p1) (.slice a2 own.length p2) ep init tag)).alloc (.cells #[.bool false] 4))
  have b0 := Boxed.new (w.alloc (.cells (memC inn (k : Int) (.slice (some ad) 15 p1) (.slice a2 own.length p2) ep init tag) 30)) 4 (.bool false)
  rw [World.size_alloc] at b0
  have B0 := hide b0
  have HB0 := hide al
  have hs0 : ((w.alloc (.cells (memC inn (k : Int) (.slice (some ad) 15 p1) (.slice a2 own.length p2) ep init tag) 30)).alloc (.cells #[.bool false] 4)).heap.size = w.heap.size + 2 := by simp
  have HPO : Hid (∀ u : World, Calls Try.prog 27 #[.int .i64 (k : Int)] u fun e w' => e = .returned (.int .i64 (lf : Int)) ∧ w' = u) := fun u => by have := placeOf_any (k : Int) u; rw [HLF.out] at this; exact this
  clear b0 al hc0
  have hnt : (keys.getD lf ByteArray.empty).toList.isEmpty = false := by simpa using no_text hne
  have HNE := hide hne
  clear hne
  generalize keys.getD lf ByteArray.empty = y0 at hc1 hnt
  refine callsIn_of_wp_marks Try.func38 rfl trivial ?_ hro
  simp only [Try.ntmps38, List.size_toArray, List.length_cons, List.length_nil, Nat.reduceAdd, Nat.reduceSub, Array.replicate_succ, Array.replicate_zero, List.push_toArray, List.append_toArray, List.nil_append, List.cons_append]
  gi_wp2
  refine wpIn_wide.2 ?_
  go_quiet ((go_at_call 27; exact Calls.quiet_of_same (HPO.out _)))
  have hb1 := below_drewN (Below.refl ((w.alloc (.cells (memC inn (k : Int) (.slice (some ad) 15 p1) (.slice a2 own.length p2) ep init tag) 30)).alloc (.cells #[.bool false] 4)).heap.size ((w.alloc (.cells (memC inn (k : Int) (.slice (some ad) 15 p1) (.slice a2 own.length p2) ep init tag) 30)).alloc (.cells #[.bool false] 4))) nq
  have A1 := (unhide A0).below hb1
  have B1 := hide (box_below (unhide B0) hb1)
  have HB1 := hide (below_drewN (unhide HB0) nq)
  have hs1 : (((w.alloc (.cells (memC inn (k : Int) (.slice (some ad) 15 p1) (.slice a2 own.length p2) ep init tag) 30)).alloc (.cells #[.bool false] 4)).drewN nq).heap.size = w.heap.size + 2 := hs0
  clear hb1 A0 B0 HB0 hs0
  generalize (((w.alloc (.cells (memC inn (k : Int) (.slice (some ad) 15 p1) (.slice a2 own.length p2) ep init tag) 30)).alloc (.cells #[.bool false] 4)).drewN nq) = w1 at *
  have A2 := A1.alloc (.cells #[.int .i64 0] 3)
  have c1 := A2.cell 1
  simp only [List.getElem?_toArray, List.getElem?_cons_succ, List.getElem?_cons_zero] at c1
  have HA1 := hide A1
  clear A1 A2
  gi_wp2_with (first
    | (refine ⟨trivial, ?_⟩; gi_at_call 27; refine (callsIn_wide.2 (HPO.out _)).mono ?_; rintro e wz ⟨rfl, rfl⟩)
    | (refine ⟨trivial, ?_⟩; gi_at_call 51; refine (upward_in _ _ _).mono ?_; rintro e wz ⟨rfl, rfl⟩))
  have bM := ((unhide HA1).alloc (.cells #[.int .i64 0] 3)).alloc (.cells #[.int .i64 (lf : Int)] 51)
  have bR := ((unhide B1).alloc (.cells #[.int .i64 0] 3)).alloc (.cells #[.int .i64 (lf : Int)] 51)
  have bC := (Boxed.new w1 3 (.int .i64 0)).alloc (.cells #[.int .i64 (lf : Int)] 51)
  have bN := Boxed.new (w1.alloc (.cells #[.int .i64 0] 3)) 51 (.int .i64 (lf : Int))
  rw [World.size_alloc, hs1] at bN
  rw [hs1] at bC
  have hB3 : Below w.heap.size w ((w1.alloc (.cells #[.int .i64 0] 3)).alloc (.cells #[.int .i64 (lf : Int)] 51)) := ((unhide HB1).alloc HB1.out.size _).alloc (by simp; have := HB1.out.size; omega) _
  have hsz : ((w1.alloc (.cells #[.int .i64 0] 3)).alloc (.cells #[.int .i64 (lf : Int)] 51)).heap.size = w.heap.size + 4 := by simp; omega
  obtain ⟨W0, hW0⟩ : ∃ W0, (w1.alloc (.cells #[.int .i64 0] 3)).alloc (.cells #[.int .i64 (lf : Int)] 51) = W0 := ⟨_, rfl⟩
  rw [hW0] at bM bR bC bN hB3 hsz ⊢
  have hcl := chainF_len (lf : Int)
  clear hW0 HA1 B1 HB1 c1
  refine wpIn_rangeFunc_ownG hro h1 (gf := 70) (lb := #[.pointer (some ⟨w.heap.size + 2 + 1, 0, none⟩)]) rfl trivial (enters_of Try.func70 (by kernel_rfl) rfl)
    (upwardF_stops (n - 1) h2 (w.heap.size + 2 + 1) w.heap.size (lf : Int) W0 (by omega) bN.cell) belowK_t (belowK_b (by omega)) (Below.refl _ _) (fun _ => rfl)
    (fun pre W => (((((∀ x ∈ pre, fitsAt keys own x.val = true) ∧ pre.length ≤ 4) ∧ Boxed W (w.heap.size + 2) 3 (.int .i64 ((keyedIn keys (valsF pre) : Nat) : Int))) ∧ Boxed W (w.heap.size + 1) 4 (.bool false)) ∧ Blk W w.heap.size 30 (memC inn (k : Int) (.slice (some ad) 15 p1) (.slice a2 own.length p2) ep init tag)) ∧ Below w.heap.size w W)
    (fun c pre W => ((c = .ret ∧ Misfit keys own pre) ∧ Boxed W (w.heap.size + 1) 4 (.bool false)) ∧ Below w.heap.size w W)
    (OwnFrom.and (OwnFrom.and (OwnFrom.and (OwnFrom.and (ownFrom_pure _ _) (Own.from (boxed_own _ _ (fun (pre : List (Fin 15)) => Value.int .i64 ((keyedIn keys (valsF pre) : Nat) : Int))) _)) (Own.from (boxed_own _ _ _) _)) (Own.from (blk_own _ _ _) _)) (ownFrom_below (Nat.le_refl _) (by omega)))
    (fun c => OwnFrom.and (OwnFrom.and (ownFrom_pure _ _) (Own.from (boxed_own _ _ _) _)) (ownFrom_below (Nat.le_refl _) (by omega)))
    ⟨⟨⟨⟨⟨by simp, by simp⟩, bC⟩, bR⟩, bM⟩, hB3⟩
    (fun x => { tmps := #[.agg (memC inn (k : Int) (.slice (some ad) 15 p1) (.slice a2 own.length p2) ep init tag), .pointer (some ⟨w.heap.size, 0, none⟩), .pointer (some ⟨w.heap.size + 1, 0, none⟩), .pointer (some ⟨w.heap.size + 2, 0, none⟩), .int .i64 ((x.val : Nat) : Int), undef, .pointer (some ⟨w.heap.size, 2, none⟩), .pointer (some ⟨w.heap.size, 2, none⟩), .slice (some ad) 15 p1, .pointer (some ⟨w.heap.size, 1, none⟩), .int .i64 (k : Int), .int .i64 (lf : Int), .pointer (some (ad.add lf)), .string y0, .bool false, .pointer (some ⟨w.heap.size, 1, none⟩), .int .i64 (k : Int), .int .i64 (lf : Int), .func (.func 70) #[] #[.pointer (some ⟨w.heap.size + 2 + 1, 0, none⟩)], .int .i64 ((x.val : Nat) : Int), undef, undef, undef, undef, undef, undef, undef, undef, undef, undef, undef, undef, undef, undef, undef, undef, undef, undef, undef, undef, undef, undef], defers := [] }) ?assign ?body ?done ?stop
  case assign =>
    intro l x W K hK
    gi_wp2
    exact hK
  case body =>
    rintro l pre x W ⟨⟨⟨⟨⟨hp, hpl⟩, hbC⟩, hbR⟩, hbM⟩, hB⟩ hlt
    have hj := x.isLt
    have j1 : ((x.val : Nat) : Int) < 15 := by omega
    have h3' : 1 ≤ n - 1 - 1 := by omega
    obtain ⟨ax, cx, qx, _, _, qy⟩ := ((unhide HK).below hB).form
    rw [HL.out] at qx qy
    simp only [Value.slice.injEq] at qx
    obtain ⟨rfl, _, rfl⟩ := qx
    obtain ⟨a', ha', hcx⟩ := qy x.val hj
    cases ha'
    clear qy
    have c2 := hbM.cell 2
    have c3 := hbM.cell 3
    simp only [List.getElem?_toArray, List.getElem?_cons_succ, List.getElem?_cons_zero] at c2 c3
    have HFT : Hid (fitsAt keys own x.val = (decide (keys.getD x.val ByteArray.empty = ByteArray.empty) || decide (mkKey (secAt own ((x.val : Nat) : Int)) = keys.getD x.val ByteArray.empty))) := rfl
    have HKI : Hid (keyedIn keys (valsF (pre ++ [x])) = keyedIn keys (valsF pre) + if keys.getD x.val ByteArray.empty = ByteArray.empty then 0 else 1) := by show _ = _; rw [valsF_snoc, keyedIn_snoc]
    have hkn : keyedIn keys (valsF pre) ≤ 4 := Nat.le_trans (keyedIn_le _ _) (by simpa [valsF] using hpl)
    have HBC := hide hbC
    have HBR := hide hbR
    have HBM := hide hbM
    have HBW := hide hB
    clear hbM
    generalize keys.getD x.val ByteArray.empty = y at hcx HFT HKI
    by_cases hy : y = ByteArray.empty
    · have hyt : y.toList.isEmpty = true := by rw [hy]; decide +kernel
      have HY := hide hy
      clear hy
      gi_wp2
      exact ⟨KeepsFrom.refl _ _, Below.refl _ _, ⟨⟨⟨⟨fun z hz => (List.mem_append.1 hz).elim (hp z) (fun e => by simp at e; subst e; rw [HFT.out, HY.out]; simp), by simp; omega⟩, by rw [HKI.out, HY.out]; exact unhide HBC⟩, unhide HBR⟩, unhide HBM⟩, unhide HBW⟩
    · have hyt : y.toList.isEmpty = false := by simpa using no_text hy
      have HY := hide hy
      clear hy
      have HSS : Hid ((secAt own ((x.val : Nat) : Int)).size ≤ maxLen) := by
        show _ ≤ _
        rcases secAt_mem own ((x.val : Nat) : Int) with q | ⟨b, q1, _, q2⟩
        · rw [q]; exact Nat.zero_le _
        · rw [q2]; exact HSM.out b q1
      generalize hsc : secAt own ((x.val : Nat) : Int) = sc at *
      have HSC := hide hsc
      clear hsc
      by_cases hm : mkKey sc = y
      · subst hm
        have i4 : IntKind.i64.wrap (((keyedIn keys (valsF pre) : Nat) : Int) + 1) = ((keyedIn keys (valsF pre) : Nat) : Int) + 1 := by simp [IntKind.wrap, IntKind.bits, IntKind.signed]; omega
        gi_wp2_with (first
          | (refine ⟨trivial, ?_⟩; gi_at_call 59; refine (CallsIn.inRound l (callsIn_wide.2 (secretAt_any _ own _ _ ((unhide HO).below (unhide HBW))))).mono ?_; rw [HSC.out]; rintro e w3 ⟨rfl, hb3⟩; have C3 := hide (box_below (unhide HBC) hb3); have R3 := hide (box_below (unhide HBR) hb3); have M3 := hide ((unhide HBM).below hb3); have B3 := hide hb3; clear hb3)
          | (refine ⟨trivial, ?_⟩; gi_at_call 14; refine (CallsIn.inRound l (callsIn_wide.2 (iMakKey_any sc _ HSS.out))).mono ?_; rintro e w4 ⟨rfl, hb4⟩; have C4 := hide (box_below (unhide C3) hb4); have R4 := hide (box_below (unhide R3) hb4); have M4 := hide ((unhide M3).below hb4); have B4 := hide ((unhide B3).trans (hb4.mono (unhide B3).size)); have l1 := (unhide C4).cell; have l2 := (unhide C4).frozen; have l3 := (unhide R4).cell; have l4 := (unhide R4).frozen; clear hb4))
        have KO := (keepsOthers_belowO (unhide B4)).trans (KeepsOthers.setCell w4 ⟨w.heap.size + 2, 0, none⟩ (.int .i64 (((keyedIn keys (valsF pre) : Nat) : Int) + 1)))
        have BW : Below w.heap.size W (w4.setCell ⟨w.heap.size + 2, 0, none⟩ (.int .i64 (((keyedIn keys (valsF pre) : Nat) : Int) + 1))) := ((unhide B4).mono hB.size).setCell (p := ⟨w.heap.size + 2, 0, none⟩) (by show w.heap.size ≤ w.heap.size + 2; omega) _
        refine ⟨KO.from _, BW, ⟨⟨⟨⟨fun z hz => (List.mem_append.1 hz).elim (hp z) (fun e => by simp at e; subst e; rw [HFT.out]; simp), by simp; omega⟩, ?_⟩, (unhide R4).other (by omega) _⟩, blk_other (unhide M4) (by omega) _⟩, hB.trans BW⟩
        rw [HKI.out, if_neg HY.out]
        exact (unhide C4).set _
      · have hnk : ((mkKey sc).toList == y.toList) = false := by
          cases q : ((mkKey sc).toList == y.toList) with
          | false => rfl
          | true => exact absurd (toList_eq.1 q) hm
        have HM := hide hm
        clear hm
        gi_wp2_with (first
          | (refine ⟨trivial, ?_⟩; gi_at_call 59; refine (CallsIn.inRound l (callsIn_wide.2 (secretAt_any _ own _ _ ((unhide HO).below (unhide HBW))))).mono ?_; rw [HSC.out]; rintro e w3 ⟨rfl, hb3⟩; have C3 := hide (box_below (unhide HBC) hb3); have R3 := hide (box_below (unhide HBR) hb3); have M3 := hide ((unhide HBM).below hb3); have B3 := hide hb3; clear hb3)
          | (refine ⟨trivial, ?_⟩; gi_at_call 14; refine (CallsIn.inRound l (callsIn_wide.2 (iMakKey_any sc _ HSS.out))).mono ?_; rintro e w4 ⟨rfl, hb4⟩; have C4 := hide (box_below (unhide C3) hb4); have R4 := hide (box_below (unhide R3) hb4); have M4 := hide ((unhide M3).below hb4); have B4 := hide ((unhide B3).trans (hb4.mono (unhide B3).size)); have l1 := (unhide C4).cell; have l2 := (unhide C4).frozen; have l3 := (unhide R4).cell; have l4 := (unhide R4).frozen; clear hb4))
        have KO := (keepsOthers_belowO (unhide B4)).trans (KeepsOthers.setCell w4 ⟨w.heap.size + 1, 0, none⟩ (.bool false))
        have BW : Below w.heap.size W (w4.setCell ⟨w.heap.size + 1, 0, none⟩ (.bool false)) := ((unhide B4).mono hB.size).setCell (p := ⟨w.heap.size + 1, 0, none⟩) (by show w.heap.size ≤ w.heap.size + 1; omega) _
        refine ⟨KO.from _, ⟨⟨rfl, x, by simp, ?_⟩, (unhide R4).set _⟩, hB.trans BW⟩
        rw [HFT.out]
        simp [HY.out, HM.out]
  case done =>
    rintro D ys W hD rfl ⟨⟨⟨⟨⟨hp, _⟩, hbC⟩, hbR⟩, hbM⟩, hB⟩ hK
    have c3 := hbM.cell 3
    simp only [List.getElem?_toArray, List.getElem?_cons_succ, List.getElem?_cons_zero] at c3
    have cC := hbC.cell
    have cR := hbR.cell
    have fR := hbR.frozen
    have HDD : Hid (ownsOf keys own k = decide (own.length = keyedIn keys (valsF (chainF (lf : Int))))) := by
      show _ = _
      have e1 : (valsF (chainF (lf : Int))).all (fitsAt keys own) = true := by
        rw [List.all_eq_true]
        intro p hp1
        unfold valsF at hp1
        obtain ⟨x, hx, rfl⟩ := List.mem_map.1 hp1
        exact hp x hx
      rw [HDEF.out, e1]
      simp
      intro _ q
      exact absurd q HNE.out
    generalize keyedIn keys (valsF (chainF (lf : Int))) = cnt at *
    by_cases he : own.length = cnt
    · have he2 : ((own.length : Int) == ((cnt : Nat) : Int)) = true := by rw [he]; simp
      have HE : Hid (ownsOf keys own k = true) := by show _ = _; rw [HDD.out]; simpa using he
      clear he
      gi_wp2
      have hK' := (KeepsOthers.setCell W ⟨w.heap.size + 1, 0, none⟩ (.bool true)).same D _ hK rfl
      refine ⟨by simp, .inl ⟨_, _, rfl, run_takeDeferred hK', ?_⟩⟩
      have hc5 := cell_kept (hbR.set (.bool true)).cell (grownBy_putObj' _ D (.deferred none)) (fun r e => by cases e; exact ⟨_, hK', rfl⟩)
      refine ⟨.bool true, ?_, by rw [HE.out], (hB.setCell (p := ⟨w.heap.size + 1, 0, none⟩) (by simp) _).trans (belowK_b (w := w) (Nat.le_refl _) _ D _ _ (by omega) hK' rfl rfl)⟩
      simp [results, Try.f38, go_sem, hc5]
    · have he2 : ((own.length : Int) == ((cnt : Nat) : Int)) = false := by simp; omega
      have HE : Hid (ownsOf keys own k = false) := by show _ = _; rw [HDD.out]; simpa using he
      clear he
      gi_wp2
      have hK' := (KeepsOthers.setCell W ⟨w.heap.size + 1, 0, none⟩ (.bool false)).same D _ hK rfl
      refine ⟨by simp, .inl ⟨_, _, rfl, run_takeDeferred hK', ?_⟩⟩
      have hc5 := cell_kept (hbR.set (.bool false)).cell (grownBy_putObj' _ D (.deferred none)) (fun r e => by cases e; exact ⟨_, hK', rfl⟩)
      refine ⟨.bool false, ?_, by rw [HE.out], (hB.setCell (p := ⟨w.heap.size + 1, 0, none⟩) (by simp) _).trans (belowK_b (w := w) (Nat.le_refl _) _ D _ _ (by omega) hK' rfl rfl)⟩
      simp [results, Try.f38, go_sem, hc5]
  case stop =>
    rintro D c pre W hD hpre ⟨⟨⟨rfl, x, hx, hxf⟩, hbR⟩, hB⟩ hK
    have HE : Hid (ownsOf keys own k = false) := by
      show _ = _
      have e1 : (valsF (chainF (lf : Int))).all (fitsAt keys own) = false := by
        rw [List.all_eq_false]
        exact ⟨x.val, by unfold valsF; exact List.mem_map.2 ⟨x, hpre.subset hx, rfl⟩, by rw [hxf]; simp⟩
      rw [HDEF.out, e1]
      simp
    gi_wp2
    refine ⟨by simp, .inl ⟨_, _, rfl, run_takeDeferred hK, ?_⟩⟩
    have hc5 := cell_kept hbR.cell (grownBy_putObj' _ D (.deferred none)) (fun r e => by cases e; exact ⟨_, hK, rfl⟩)
    refine ⟨.bool false, ?_, by rw [HE.out], hB.trans (belowK_b (w := w) (Nat.le_refl _) W D _ _ (by omega) hK rfl rfl)⟩
    simp [results, Try.f38, go_sem, hc5]

theorem ownsItsPlaces_any (inn : Bool) (k : Nat) (hk : k < 8) (ks os : Value) (keys : List ByteArray) (own : List Mo) (ep : Int) (init tag : ByteArray) (w : World) (hK : SRow w ks keys) (hO : MRow w os own) (hl : keys.length = 15) (hsm : ∀ o ∈ own, o.2.size ≤ maxLen) :
    Calls Try.prog 38 #[.agg (memC inn (k : Int) ks os ep init tag)] w fun e W' => e = .returned (.bool (ownsOf keys own k)) ∧ Below w.heap.size w W' := by
  by_cases hne : keys.getD (7 + k) ByteArray.empty = ByteArray.empty
  · exact ownsItsPlaces_bare inn k hk ks os keys own ep init tag w hK hO hl hsm hne
  · exact callsIn_wide.1 (ownsItsPlaces_in 4 (by omega) inn k hk ks os keys own ep init tag w hK hO hl hsm hne)
#print axioms ownsItsPlaces_any
#print axioms secretAt_any
end Go.Proofs.Ytkcopldlobomhaa
/-
  The program's MemOk.
-/
namespace Go.Proofs.Ytkcopldlobomhaa
open Go.RowKit

/-- Whether one is ok, as the program has it. -/
def memOkI (m : Mem) : Bool :=
  if m.inn then decide (0 ≤ m.who ∧ m.who ≤ 7) && treOk m.keys && ownsOf m.keys m.own m.who.toNat && decide (0 ≤ m.ep ∧ m.ep ≤ 12) && Kw.ok m.init && decide (m.tag.size ≤ 300)
  else decide (m = Mem.none)

set_option maxRecDepth 100000 in
set_option maxHeartbeats 4000000 in
theorem iMemOk_in (who ep : Int) (ks os : Value) (keys : List ByteArray) (own : List Mo) (init tag : ByteArray) (w : World) (hK : SRow w ks keys) (hO : MRow w os own)
    (hkm : ∀ x ∈ keys, x.size ≤ maxLen) (hom : ∀ o ∈ own, o.2.size ≤ maxLen) (him : init.size ≤ maxLen) (htm : tag.size ≤ maxLen) :
    Calls Try.prog 10 #[.agg (memC true who ks os ep init tag)] w fun e w' => e = .returned (.bool (memOkI ⟨true, who, keys, own, ep, init, tag⟩)) ∧ Below w.heap.size w w' := by
  have HK := hide hK
  have HO := hide hO
  have HKM := hide hkm
  have HOM := hide hom
  have HIM := hide him
  unfold maxLen at htm
  obtain ⟨a1, p1, rfl, _, _, _⟩ := hK.form
  obtain ⟨a2, p2, rfl, _, _, _⟩ := hO
  clear hK hkm hom him
  obtain ⟨kl, hkl⟩ : ∃ kl, keys.length = kl := ⟨_, rfl⟩
  rw [hkl] at HK ⊢
  have HKL := hide hkl
  clear hkl
  have A0 := hide (Blk.new w 30 (memC true who (.slice a1 kl p1) (.slice a2 own.length p2) ep init tag))
  have HB0 : Hid (Below w.heap.size w (w.alloc (.cells (memC true who (.slice a1 kl p1) (.slice a2 own.length p2) ep init tag) 30))) := (Below.refl _ _).alloc (Nat.le_refl _) _
  have HDEF : Hid (memOkI ⟨true, who, keys, own, ep, init, tag⟩ = (decide (0 ≤ who ∧ who ≤ 7) && treOk keys && ownsOf keys own who.toNat && decide (0 ≤ ep ∧ ep ≤ 12) && Kw.ok init && decide (tag.size ≤ 300))) := rfl
  by_cases hp : 0 ≤ who ∧ who ≤ 7
  · obtain ⟨k, rfl⟩ : ∃ k : Nat, who = (k : Int) := ⟨who.toNat, by omega⟩
    have hk8 : k < 8 := by omega
    have HW : Hid (decide (0 ≤ (k : Int) ∧ (k : Int) ≤ 7) = true) := by show _ = _; simp; omega
    clear hp
    go_enter Try.func10, Try.ntmps10
    go_wp2_with fail
    refine (isOne_yes _ _ (by omega) (by omega)).mono ?_
    rintro e wa ⟨rfl, rfl⟩
    go_wp2_with fail
    refine (iTreOk_any _ keys _ ((unhide HK).below (unhide HB0)) (unhide HKM)).mono ?_
    rintro e w1 ⟨rfl, hb1⟩
    have A1 := hide ((unhide A0).below hb1)
    have HB1 := hide (HB0.out.trans (hb1.mono HB0.out.size))
    clear hb1 A0 HB0
    cases hto : treOk keys with
    | false =>
      have HE : Hid (memOkI ⟨true, (k : Int), keys, own, ep, init, tag⟩ = false) := by show _ = _; rw [HDEF.out, hto]; simp
      clear hto
      go_wp2_with fail
      go_ret
      exact ⟨ret_bool' HE.out.symm, unhide HB1⟩
    | true =>
      have HTO := hide hto
      have HL : Hid (keys.length = 15) := (treOk_iff.1 hto).1
      clear hto
      have c0 := (unhide A1).cell 0
      have c1 := (unhide A1).cell 1
      have c2 := (unhide A1).cell 2
      have c3 := (unhide A1).cell 3
      have c4 := (unhide A1).cell 4
      have c5 := (unhide A1).cell 5
      have c6 := (unhide A1).cell 6
      simp only [List.getElem?_toArray, List.getElem?_cons_succ, List.getElem?_cons_zero] at c0 c1 c2 c3 c4 c5 c6
      go_wp2_with fail
      refine (ownsItsPlaces_any true k hk8 _ _ keys own ep init tag _ ((unhide HK).below (unhide HB1)) ((unhide HO).below (unhide HB1)) HL.out (unhide HOM)).mono ?_
      rintro e w2 ⟨rfl, hb2⟩
      have A2 := hide ((unhide A1).below hb2)
      have HB2 := hide (HB1.out.trans (hb2.mono HB1.out.size))
      clear hb2 A1 HB1 c0 c1 c2 c3 c4 c5 c6
      have c4 := (unhide A2).cell 4
      have c5 := (unhide A2).cell 5
      simp only [List.getElem?_toArray, List.getElem?_cons_succ, List.getElem?_cons_zero] at c4 c5
      cases how : ownsOf keys own k with
      | false =>
        have HE : Hid (memOkI ⟨true, (k : Int), keys, own, ep, init, tag⟩ = false) := by show _ = _; rw [HDEF.out, show ((k : Int)).toNat = k from rfl, how]; simp
        clear how
        go_wp2_with fail
        go_ret
        exact ⟨ret_bool' HE.out.symm, unhide HB2⟩
      | true =>
        have HOW := hide how
        clear how
        by_cases he0 : 0 ≤ ep
        · by_cases he1 : ep ≤ 12
          · go_wp2_with fail
            refine (iSecOk_any init _ HIM.out).mono ?_
            rintro e w3 ⟨rfl, hb3⟩
            have A3 := hide ((unhide A2).below hb3)
            have HB3 := hide (HB2.out.trans (hb3.mono HB2.out.size))
            clear hb3 A2 HB2 c4 c5
            have c6 := (unhide A3).cell 6
            simp only [List.getElem?_toArray, List.getElem?_cons_succ, List.getElem?_cons_zero] at c6
            cases hok : Kw.ok init with
            | false =>
              have HE : Hid (memOkI ⟨true, (k : Int), keys, own, ep, init, tag⟩ = false) := by show _ = _; rw [HDEF.out, hok]; simp
              clear hok
              go_wp2_with fail
              go_ret
              exact ⟨ret_bool' HE.out.symm, unhide HB3⟩
            | true =>
              have HE0 : Hid (memOkI ⟨true, (k : Int), keys, own, ep, init, tag⟩ = decide (tag.size ≤ 300)) := by
                show _ = _
                rw [HDEF.out, HW.out, HTO.out, show ((k : Int)).toNat = k from rfl, HOW.out, hok, decide_eq_true (And.intro he0 he1)]
                rfl
              clear hok
              by_cases htg : tag.size ≤ 300
              · have htg2 : (tag.size : Int) ≤ 300 := by omega
                have HE : Hid (memOkI ⟨true, (k : Int), keys, own, ep, init, tag⟩ = true) := by show _ = _; rw [HE0.out]; simpa using htg
                go_wp2_with fail
                go_ret
                exact ⟨ret_bool' HE.out.symm, unhide HB3⟩
              · have htg2 : decide ((tag.size : Int) ≤ 300) = false := by simp; omega
                have HE : Hid (memOkI ⟨true, (k : Int), keys, own, ep, init, tag⟩ = false) := by show _ = _; rw [HE0.out]; simpa using htg
                go_wp2_with fail
                go_ret
                exact ⟨ret_bool' HE.out.symm, unhide HB3⟩
          · have he2 : decide (ep ≤ 12) = false := by simpa using he1
            have HE : Hid (memOkI ⟨true, (k : Int), keys, own, ep, init, tag⟩ = false) := by show _ = _; rw [HDEF.out, decide_eq_false (fun (q : 0 ≤ ep ∧ ep ≤ 12) => he1 q.2)]; simp
            clear he1
            go_wp2_with fail
            go_ret
            exact ⟨ret_bool' HE.out.symm, unhide HB2⟩
        · have he2 : decide (0 ≤ ep) = false := by simpa using he0
          have HE : Hid (memOkI ⟨true, (k : Int), keys, own, ep, init, tag⟩ = false) := by show _ = _; rw [HDEF.out, decide_eq_false (fun (q : 0 ≤ ep ∧ ep ≤ 12) => he0 q.1)]; simp
          clear he0
          go_wp2_with fail
          go_ret
          exact ⟨ret_bool' HE.out.symm, unhide HB2⟩
  · have HE : Hid (memOkI ⟨true, who, keys, own, ep, init, tag⟩ = false) := by show _ = _; rw [HDEF.out, decide_eq_false hp]; simp
    have HP := hide hp
    clear hp
    go_enter Try.func10, Try.ntmps10
    go_wp2_with fail
    refine (isOne_no _ _ (by have := HP.out; omega)).mono ?_
    rintro e wa ⟨rfl, rfl⟩
    go_wp2_with fail
    go_ret
    exact ⟨ret_bool' HE.out.symm, unhide HB0⟩
end Go.Proofs.Ytkcopldlobomhaa
/-
  TreIn of both sides.
-/
namespace Go.Proofs.Ytkcopldlobomhaa
open Go.RowKit

/-- Who of the first k is in. -/
def inUp (xs : List ByteArray) (k : Nat) : List Int := ints ((List.range k).filter fun k => keyed xs (7 + k))
theorem inUp_zero (xs : List ByteArray) : inUp xs 0 = [] := rfl
theorem inUp_yes {xs : List ByteArray} {k : Nat} (h : keyed xs (7 + k) = true) : inUp xs (k + 1) = inUp xs k ++ [(k : Int)] := by
  unfold inUp ints
  rw [List.range_succ, List.filter_append, List.map_append]
  simp [h]
theorem inUp_no {xs : List ByteArray} {k : Nat} (h : keyed xs (7 + k) = false) : inUp xs (k + 1) = inUp xs k := by
  unfold inUp ints
  rw [List.range_succ, List.filter_append, List.map_append]
  simp [h]
theorem inUp_len (xs : List ByteArray) (k : Nat) : (inUp xs k).length ≤ k := by
  unfold inUp ints
  rw [List.length_map]
  exact Nat.le_trans (List.length_filter_le _ _) (by simp)
/-- Who is in. -/
def inRes (xs : List ByteArray) : List Int := if treOk xs = true then inUp xs 8 else []
theorem inRes_len (xs : List ByteArray) : (inRes xs).length ≤ 8 := by
  unfold inRes
  split
  · exact inUp_len xs 8
  · simp

set_option maxRecDepth 100000 in
set_option maxHeartbeats 4000000 in
theorem iTreIn_any (v : Value) (xs : List ByteArray) (w : World) (h : SRow w v xs) (hx : ∀ x ∈ xs, x.size ≤ maxLen) :
    Calls Try.prog 12 #[.agg #[v]] w fun e w' => ∃ u, e = .returned u ∧ OwnI w.heap.size w' u (inRes xs) ∧ Below w.heap.size w w' := by
  obtain ⟨i0, hi, hz0, hz1, hz2⟩ := info_parts info_int2
  have hI := hide (And.intro hi (And.intro hz0 (And.intro hz1 hz2)))
  clear hi hz0 hz1 hz2
  obtain ⟨ao, cap, rfl, h1, h2, _⟩ := h.form
  have HX := hide hx
  have hR := hide h
  clear h hx
  go_enter Try.func12, Try.ntmps12
  go_wp2_with fail
  refine (iTreOk_any _ xs _ ((unhide hR).below ((Below.refl _ _).alloc (Nat.le_refl _) _)) (unhide HX)).mono ?_
  rintro e w1 ⟨rfl, hb1⟩
  have A1 := hide (box_below (Boxed.new w 27 (.slice ao xs.length cap)) hb1)
  have HB1 : Hid (Below w.heap.size w w1) := ((Below.refl _ _).alloc (Nat.le_refl _) _).trans (hb1.mono (by simp))
  have hs1 := hb1.size
  rw [World.size_alloc] at hs1
  have O1 : Hid (OwnI (w.heap.size + 1) w1 (.slice none 0 0) []) := World.ownsRow_nil _ _ _ _
  clear hb1
  cases hk : treOk xs with
  | false =>
    have HE : Hid (inRes xs = []) := by show _ = _; unfold inRes; rw [hk]; rfl
    clear hk
    go_wp2_with fail
    go_ret
    exact ⟨_, rfl, by rw [HE.out]; exact World.ownsRow_nil _ _ _ _, unhide HB1⟩
  | true =>
    have HE : Hid (inRes xs = inUp xs 8) := by show _ = _; unfold inRes; rw [hk]; rfl
    have HL : Hid (xs.length = 15) := (treOk_iff.1 hk).1
    clear hk
    go_wp2_with fail
    go_loopw [3, 8] (fun o i wr => ∃ k : Nat, k ≤ 8 ∧ i = .int .i64 (k : Int) ∧ Hid (OwnI (w.heap.size + 1) wr o (inUp xs k)) ∧ Hid (Boxed wr w.heap.size 27 (.slice ao xs.length cap)) ∧ Hid (Below w.heap.size w wr)) (fun _ i _ => 8 - (intOf i).toNat)
    case atStart => exact ⟨0, by omega, rfl, O1, A1, HB1⟩
    case round =>
      clear O1 A1 HB1 hs1
      obtain ⟨k, hk, rfl, hO, hA, hB⟩ := hrel
      have hle := hB.out.size
      have hlA := (unhide hA).lt
      by_cases hlt : k < 8
      · have hlt2 : (k : Int) < 8 := by omega
        have i3 : IntKind.i64.wrap ((k : Int) + 1) = (k : Int) + 1 := by simp [IntKind.wrap, IntKind.bits, IntKind.signed]; omega
        obtain ⟨ao', c1, q1, _, _, q2⟩ := (SRow.below (unhide hR) (unhide hB)).form
        simp only [Value.slice.injEq] at q1
        obtain ⟨rfl, _, rfl⟩ := q1
        obtain ⟨a, rfl, hck⟩ := q2 (7 + k) (by rw [HL.out]; omega)
        clear q2
        have hLf : Hid (leafOf (k : Int) = ((7 + k : Nat) : Int)) := by show _ = _; unfold leafOf; rw [if_pos (by omega)]; omega
        have hll := inUp_len xs k
        have HLL : Hid (xs.length = 15) := HL
        rw [HL.out] at hA h1 ⊢
        obtain ⟨n7, hn7⟩ : ∃ n : Nat, n = 7 + k := ⟨_, rfl⟩
        rw [← hn7] at hck hLf
        have j1 : (n7 : Int) < 15 := by omega
        have HK : Hid (keyed xs n7 = decide (xs.getD n7 ByteArray.empty ≠ ByteArray.empty)) := rfl
        have HY1 : Hid (keyed xs n7 = true → inUp xs (k + 1) = inUp xs k ++ [(k : Int)]) := by rw [hn7]; exact inUp_yes
        have HN1 : Hid (keyed xs n7 = false → inUp xs (k + 1) = inUp xs k) := by rw [hn7]; exact inUp_no
        clear hn7
        generalize xs.getD n7 ByteArray.empty = y at hck HK
        by_cases hy : y = ByteArray.empty
        · have hN := hide (HN1.out (by rw [HK.out]; simp [hy]))
          have hne : y.toList = [] := by rw [hy]; exact nil_text
          have hne2 : y.toList.isEmpty = true := by rw [hne]; rfl
          clear hy HY1 HN1 HK
          go_wp2_with fail
          refine wp_region_later (by kernel_rfl) ?_
          refine later_take (i := 0) (d := 11) (v := ?_) (by kernel_rfl) (by kernel_rfl) (by kernel_rfl) (by kernel_rfl) (fun _ _ _ h => h) (fun oi hoi => ?_) ?_
          rotate_left
          · simp at hoi
            subst hoi
            refine ⟨by rfl, fun w' hw' => ?_⟩
            go_simp
            all_goals rfl
          try simp only [Act.put, List.setIfInBounds_toArray, List.set_cons_zero, List.set_cons_succ]
          refine later_take (i := 1) (d := 12) (v := ?_) (by kernel_rfl) (by kernel_rfl) (by kernel_rfl) (by kernel_rfl) (fun _ _ _ h => h) (fun oi hoi => ?_) ?_
          rotate_left
          · simp at hoi
            subst hoi
            refine ⟨by rfl, fun w' hw' => ?_⟩
            have hx := (box_below (w := wr.drew) (unhide hA) hw').cell
            go_simp
            all_goals rfl
          try simp only [Act.put, List.setIfInBounds_toArray, List.set_cons_zero, List.set_cons_succ]
          refine later_take (i := 2) (d := 13) (v := ?_) (by kernel_rfl) (by kernel_rfl) (by kernel_rfl) (by kernel_rfl) (fun _ _ _ h => h) (fun oi hoi => ?_) ?_
          rotate_left
          · simp at hoi
            subst hoi
            refine ⟨by rfl, fun w' hw' => ?_⟩
            go_simp
            all_goals rfl
          try simp only [Act.put, List.setIfInBounds_toArray, List.set_cons_zero, List.set_cons_succ]
          refine later_one (i := 3) (by kernel_rfl) (fun oi K hoi hK => ?_)
          simp at hoi
          subst hoi
          refine ⟨by rfl, ?_⟩
          go_simp
          refine (placeOf_any _ _).mono ?_
          rw [hLf.out]
          rintro e wq ⟨rfl, rfl⟩
          go_simp
          refine hK.out _ _ (laterPre.refl _) ?_
          clear hK
          try simp only [Act.put, List.setIfInBounds_toArray, List.set_cons_zero, List.set_cons_succ]
          refine later_take (i := 4) (d := 15) (v := ?_) (by kernel_rfl) (by kernel_rfl) (by kernel_rfl) (by kernel_rfl) (fun _ _ _ h => h) (fun oi hoi => ?_) ?_
          rotate_left
          · simp at hoi
            subst hoi
            refine ⟨by rfl, fun w' hw' => ?_⟩
            go_simp
            all_goals rfl
          try simp only [Act.put, List.setIfInBounds_toArray, List.set_cons_zero, List.set_cons_succ]
          refine later_take (i := 5) (d := 16) (v := ?_) (by kernel_rfl) (by kernel_rfl) (by kernel_rfl) (by kernel_rfl) (fun _ _ _ h => h) (fun oi hoi => ?_) ?_
          rotate_left
          · simp at hoi
            subst hoi
            refine ⟨by rfl, fun w' hw' => ?_⟩
            have hx := (Below.cell hw' (cell_lt (w := wr.drew) hck)).trans hck
            go_simp
            all_goals rfl
          try simp only [Act.put, List.setIfInBounds_toArray, List.set_cons_zero, List.set_cons_succ]
          refine later_take (i := 6) (d := 17) (v := ?_) (by kernel_rfl) (by kernel_rfl) (by kernel_rfl) (by kernel_rfl) (fun _ _ _ h => h) (fun oi hoi => ?_) ?_
          rotate_left
          · simp at hoi
            subst hoi
            refine ⟨by rfl, fun w' hw' => ?_⟩
            go_simp
            all_goals rfl
          try simp only [Act.put, List.setIfInBounds_toArray, List.set_cons_zero, List.set_cons_succ]
          refine later_done (by kernel_rfl) ?_ _
          go_wp2_with fail
          go_roundw
          case rel => exact ⟨k + 1, by omega, by simp, by rw [hN.out]; exact OwnI.below (unhide hO) (Below.refl _ _).drew, hA, (unhide hB).drew⟩
          case measure => simp [intOf]; omega
        · have hY := hide (HY1.out (by rw [HK.out]; simpa using hy))
          have hne : ¬ y.toList = [] := no_text hy
          have hne2 : y.toList.isEmpty = false := by simpa using hne
          clear hy HY1 HN1 HK
          go_wp2_with fail
          refine wp_region_later (by kernel_rfl) ?_
          refine later_take (i := 0) (d := 11) (v := ?_) (by kernel_rfl) (by kernel_rfl) (by kernel_rfl) (by kernel_rfl) (fun _ _ _ h => h) (fun oi hoi => ?_) ?_
          rotate_left
          · simp at hoi
            subst hoi
            refine ⟨by rfl, fun w' hw' => ?_⟩
            go_simp
            all_goals rfl
          try simp only [Act.put, List.setIfInBounds_toArray, List.set_cons_zero, List.set_cons_succ]
          refine later_take (i := 1) (d := 12) (v := ?_) (by kernel_rfl) (by kernel_rfl) (by kernel_rfl) (by kernel_rfl) (fun _ _ _ h => h) (fun oi hoi => ?_) ?_
          rotate_left
          · simp at hoi
            subst hoi
            refine ⟨by rfl, fun w' hw' => ?_⟩
            have hx := (box_below (w := wr.drew) (unhide hA) hw').cell
            go_simp
            all_goals rfl
          try simp only [Act.put, List.setIfInBounds_toArray, List.set_cons_zero, List.set_cons_succ]
          refine later_take (i := 2) (d := 13) (v := ?_) (by kernel_rfl) (by kernel_rfl) (by kernel_rfl) (by kernel_rfl) (fun _ _ _ h => h) (fun oi hoi => ?_) ?_
          rotate_left
          · simp at hoi
            subst hoi
            refine ⟨by rfl, fun w' hw' => ?_⟩
            go_simp
            all_goals rfl
          try simp only [Act.put, List.setIfInBounds_toArray, List.set_cons_zero, List.set_cons_succ]
          refine later_one (i := 3) (by kernel_rfl) (fun oi K hoi hK => ?_)
          simp at hoi
          subst hoi
          refine ⟨by rfl, ?_⟩
          go_simp
          refine (placeOf_any _ _).mono ?_
          rw [hLf.out]
          rintro e wq ⟨rfl, rfl⟩
          go_simp
          refine hK.out _ _ (laterPre.refl _) ?_
          clear hK
          try simp only [Act.put, List.setIfInBounds_toArray, List.set_cons_zero, List.set_cons_succ]
          refine later_take (i := 4) (d := 15) (v := ?_) (by kernel_rfl) (by kernel_rfl) (by kernel_rfl) (by kernel_rfl) (fun _ _ _ h => h) (fun oi hoi => ?_) ?_
          rotate_left
          · simp at hoi
            subst hoi
            refine ⟨by rfl, fun w' hw' => ?_⟩
            go_simp
            all_goals rfl
          try simp only [Act.put, List.setIfInBounds_toArray, List.set_cons_zero, List.set_cons_succ]
          refine later_take (i := 5) (d := 16) (v := ?_) (by kernel_rfl) (by kernel_rfl) (by kernel_rfl) (by kernel_rfl) (fun _ _ _ h => h) (fun oi hoi => ?_) ?_
          rotate_left
          · simp at hoi
            subst hoi
            refine ⟨by rfl, fun w' hw' => ?_⟩
            have hx := (Below.cell hw' (cell_lt (w := wr.drew) hck)).trans hck
            go_simp
            all_goals rfl
          try simp only [Act.put, List.setIfInBounds_toArray, List.set_cons_zero, List.set_cons_succ]
          refine later_take (i := 6) (d := 17) (v := ?_) (by kernel_rfl) (by kernel_rfl) (by kernel_rfl) (by kernel_rfl) (fun _ _ _ h => h) (fun oi hoi => ?_) ?_
          rotate_left
          · simp at hoi
            subst hoi
            refine ⟨by rfl, fun w' hw' => ?_⟩
            go_simp
            all_goals rfl
          try simp only [Act.put, List.setIfInBounds_toArray, List.set_cons_zero, List.set_cons_succ]
          refine later_done (by kernel_rfl) ?_ _
          have hO2 := hide (OwnI.below (unhide hO) (Below.refl _ _).drew)
          go_wp2_with (at_builtin; refine wpList_append_own _ rfl _ _ 36 rfl (w.heap.size + 1) 3 i0 (.int .i64 0) 1 8 Try.underlying36 (unhide hI).1 (unhide hI).2.1 (unhide hI).2.2.1 (unhide hI).2.2.2 rfl (by decide) _ _ _ rfl ((unhide hO2).alloc _) ⟨wr.heap.size, 0, none⟩ 1 1 [.int .i64 (k : Int)] rfl rfl ?c1 ?c2 ?c3 ?c4 ?c5 ?_)
          case c1 =>
            intro j u hj
            match j, hj with
            | 0, hj => simp at hj; subst hj; simp [Addr.add]
          case c2 => intro u hu; simp at hu; subst hu; rfl
          case c3 => unfold maxLen; omega
          case c4 => omega
          case c5 => simp; omega
          intro v' w7 hown' hgrow _
          have R := OwnI.grow (unhide hO2) (Below.refl (w.heap.size + 1) wr.drew) (by show _ ≤ wr.heap.size; omega) hown' hgrow
          have R1 := hide R.1
          have hA7 : Hid (Boxed w7 w.heap.size 27 (.slice (some a) 15 cap)) := box_below0 (w := wr.drew) (unhide hA) R.2 (by omega)
          have R2 : Hid (Below w.heap.size w w7) := (unhide hB).drew.trans (R.2.mono (by omega))
          clear R hown' hgrow hO hO2 hA hB
          go_wp2_with fail
          go_roundw
          case rel => exact ⟨k + 1, by omega, by simp, by rw [hY.out]; exact unhide R1, hA7, R2⟩
          case measure => simp [intOf]; omega
      · have hlt2 : decide ((k : Int) < 8) = false := by simp; omega
        obtain rfl : k = 8 := by omega
        go_wp2_with fail
        go_ret
        exact ⟨_, rfl, by rw [HE.out]; exact row_lowB (unhide hO) (by omega), unhide hB⟩

#print axioms iTreIn_any
end Go.Proofs.Ytkcopldlobomhaa
