/-
  Where no own secret is too long for a key the program and the specification agree on who is ok. No Go function in it.
-/
import Derived.Test.YteiojanamkndmaaGreatFnExactMemJoinB8
import Derived.Test.YteiojanamkndmaaGreatFnExactMemJoinB11
import Derived.Test.YteiojanamkndmaaGreatFnExactMemJoinB9
import Derived.Test.YteiojanamkndmaaGreatFnExactMemJoinB6
import Derived.Test.YteiojanamkndmaaGreatFnExactMemJoinB7
import Derived.Test.YteiojanamkndmaaGreatFnExactMemJoinB5
namespace Go.Proofs.YteiojanamkndmaaGreat
open Go.RowKit Kw

theorem nodup_len {α : Type} [DecidableEq α] : ∀ (xs ys : List α), xs.Nodup → (∀ x ∈ xs, x ∈ ys) → xs.length ≤ ys.length
  | [], _, _, _ => Nat.zero_le _
  | x :: xs, ys, hn, hs => by
    have hx := hs x (by simp)
    have h1 := nodup_len xs (ys.erase x) (List.nodup_cons.1 hn).2 (fun z hz => by
      have hne : z ≠ x := fun e => (List.nodup_cons.1 hn).1 (e ▸ hz)
      exact (List.mem_erase_of_ne hne).2 (hs z (by simp [hz])))
    rw [List.length_erase_of_mem hx] at h1
    have : 0 < ys.length := List.length_pos_of_mem hx
    simp only [List.length_cons]
    omega
theorem all_below {J : List Nat} {n : Nat} (hn : J.Nodup) (hb : ∀ j ∈ J, j < n) (hl : J.length = n) : ∀ j, j < n → j ∈ J := by
  intro j hj
  apply Classical.byContradiction
  intro hno
  have h1 := nodup_len J ((List.range n).erase j) hn (fun z hz => by
    have hne : z ≠ j := fun e => hno (e ▸ hz)
    exact (List.mem_erase_of_ne hne).2 (List.mem_range.2 (hb z hz)))
  rw [List.length_erase_of_mem (List.mem_range.2 hj), List.length_range] at h1
  omega
theorem nodup_map {α β : Type} {f : α → β} : ∀ {xs : List α}, (∀ a ∈ xs, ∀ b ∈ xs, f a = f b → a = b) → xs.Nodup → (xs.map f).Nodup
  | [], _, _ => by simp
  | x :: xs, h, hn => by
    rw [List.map_cons, List.nodup_cons]
    refine ⟨fun hm => ?_, nodup_map (fun a ha b hb => h a (by simp [ha]) b (by simp [hb])) (List.nodup_cons.1 hn).2⟩
    obtain ⟨z, hz, e⟩ := List.mem_map.1 hm
    have := h z (by simp [hz]) x (by simp) e
    subst this
    exact (List.nodup_cons.1 hn).1 hz
theorem least_of (p : Nat → Prop) (h : ∃ i, p i) : ∃ i, p i ∧ ∀ z, z < i → ¬ p z := by
  obtain ⟨i, hi⟩ := h
  induction i using Nat.strongRecOn with
  | _ i ih =>
    by_cases q : ∃ z, z < i ∧ p z
    · obtain ⟨z, hz, hpz⟩ := q
      exact ih z hz hpz
    · exact ⟨i, hi, fun z hz hpz => q ⟨z, hz, hpz⟩⟩
theorem chain_nodup : ∀ k, k < 8 → ((7 + k) :: ups (7 + k)).Nodup := by decide
theorem chainC (k : Nat) (hk : k < 8) : chainOf (leafOf (k : Int)) = ((7 + k) :: ups (7 + k)).map (fun (p : Nat) => (p : Int)) := by
  have e : leafOf (k : Int) = ((7 + k : Nat) : Int) := by unfold leafOf; rw [if_pos (by omega)]; omega
  rw [e]
  unfold chainOf
  rw [if_pos (by omega), upOf_nat _ (by omega)]
  rfl
theorem ok_ne_empty {s : ByteArray} (h : Kw.ok s = true) : s ≠ ByteArray.empty := by
  intro e
  rw [e] at h
  exact absurd h (by decide)

theorem owns_agree (keys : List ByteArray) (own : List Mo) (k : Nat) (hk : k < 8) (hs : ∀ o ∈ own, Kw.ok o.2 = true → o.2.size < 300) :
    ownsOf keys own k = (fitsS keys own (chainOf (leafOf (k : Int))) && (hasS keys own (chainOf (leafOf (k : Int))) && decide (keys.getD (leafOf (k : Int)).toNat ByteArray.empty ≠ ByteArray.empty))) := by
  have e7 : (leafOf (k : Int)).toNat = 7 + k := by unfold leafOf; rw [if_pos (by omega)]; omega
  rw [chainC k hk, e7]
  have hnd := chain_nodup k hk
  unfold ownsOf
  generalize (7 + k) :: ups (7 + k) = P at hnd ⊢
  rw [Bool.eq_iff_iff]
  simp only [Bool.and_eq_true, decide_eq_true_eq, List.all_eq_true]
  constructor
  · rintro ⟨⟨hleaf, hfit⟩, hlen⟩
    have hat : ∀ p ∈ P, keys.getD p ByteArray.empty ≠ ByteArray.empty → mkKey (secAt own (p : Int)) = keys.getD p ByteArray.empty := by
      intro p hp hne
      have := hfit p hp
      unfold fitsAt at this
      simp only [Bool.or_eq_true, decide_eq_true_eq] at this
      rcases this with q | q
      · exact absurd q hne
      · exact q
    have hok : ∀ p ∈ P, keys.getD p ByteArray.empty ≠ ByteArray.empty → Kw.ok (secAt own (p : Int)) = true := fun p hp hne => key_okS (by rw [hat p hp hne]; exact hne)
    have hse : ∀ p ∈ P, keys.getD p ByteArray.empty ≠ ByteArray.empty → secAt own (p : Int) ≠ ByteArray.empty := fun p hp hne => ok_ne_empty (hok p hp hne)
    refine ⟨?_, ?_, hleaf⟩
    · -- each is the first of its place
      have hch : ∀ p ∈ P, keys.getD p ByteArray.empty ≠ ByteArray.empty → ∃ j, j < own.length ∧ (own.getD j noMo).1 = (p : Int) ∧ (own.getD j noMo).2 = secAt own (p : Int) ∧ ∀ i, i < j → (own.getD i noMo).1 ≠ (p : Int) := fun p hp hne => secAt_first own _ (hse p hp hne)
      let g : Nat → Nat := fun p => if h : secAt own (p : Int) ≠ ByteArray.empty then Classical.choose (secAt_first own (p : Int) h) else 0
      have hg : ∀ p ∈ P, keys.getD p ByteArray.empty ≠ ByteArray.empty → g p < own.length ∧ (own.getD (g p) noMo).1 = (p : Int) ∧ (own.getD (g p) noMo).2 = secAt own (p : Int) ∧ ∀ i, i < g p → (own.getD i noMo).1 ≠ (p : Int) := by
        intro p hp hne
        have h := hse p hp hne
        have e : g p = Classical.choose (secAt_first own (p : Int) h) := dif_pos h
        rw [e]
        exact Classical.choose_spec (secAt_first own (p : Int) h)
      let J := (P.filter fun p => decide (keys.getD p ByteArray.empty ≠ ByteArray.empty)).map g
      have hmem : ∀ p, p ∈ P.filter (fun p => decide (keys.getD p ByteArray.empty ≠ ByteArray.empty)) → p ∈ P ∧ keys.getD p ByteArray.empty ≠ ByteArray.empty := fun p hp => ⟨(List.mem_filter.1 hp).1, of_decide_eq_true (List.mem_filter.1 hp).2⟩
      have hJn : J.Nodup := by
        show (List.map g _).Nodup
        refine nodup_map ?_ (hnd.filter _)
        intro a ha b hb e
        obtain ⟨a1, a2⟩ := hmem a ha
        obtain ⟨b1, b2⟩ := hmem b hb
        have h1 := (hg a a1 a2).2.1
        have h2 := (hg b b1 b2).2.1
        rw [e, h2] at h1
        omega
      have hJl : J.length = own.length := by
        show (List.map g _).length = _
        rw [List.length_map, hlen]
        rfl
      have hJb : ∀ j ∈ J, j < own.length := by
        intro j hj
        obtain ⟨p, hp, rfl⟩ := List.mem_map.1 hj
        obtain ⟨a1, a2⟩ := hmem p hp
        exact (hg p a1 a2).1
      unfold fitsS
      rw [List.all_eq_true]
      intro j hj
      obtain ⟨p, hp, rfl⟩ := List.mem_map.1 (all_below hJn hJb hJl j (List.mem_range.1 hj))
      obtain ⟨a1, a2⟩ := hmem p hp
      obtain ⟨c1, c2, c3, c4⟩ := hg p a1 a2
      unfold fitJ
      rw [c2, c3, secAt_ahead own _ _ c4]
      simp only [Bool.and_eq_true, decide_eq_true_eq]
      exact ⟨⟨⟨List.mem_map.2 ⟨p, a1, rfl⟩, hok p a1 a2⟩, (hat p a1 a2).symm⟩, trivial⟩
    · unfold hasS
      rw [List.all_eq_true]
      intro z hz
      obtain ⟨p, hp, rfl⟩ := List.mem_map.1 hz
      simp only [Bool.or_eq_true, decide_eq_true_eq]
      by_cases q : keys.getD p ByteArray.empty = ByteArray.empty
      · exact .inl q
      · exact .inr (hse p hp q)
  · rintro ⟨hfit, hhas, hleaf⟩
    unfold fitsS at hfit
    rw [List.all_eq_true] at hfit
    unfold hasS at hhas
    rw [List.all_eq_true] at hhas
    have hJ : ∀ j, j < own.length → (∃ p ∈ P, (own.getD j noMo).1 = ((p : Nat) : Int) ∧ keys.getD p ByteArray.empty = mkKey (own.getD j noMo).2) ∧ Kw.ok (own.getD j noMo).2 = true ∧ secAt (own.take j) (own.getD j noMo).1 = ByteArray.empty := by
      intro j hj
      have := hfit j (List.mem_range.2 hj)
      unfold fitJ at this
      simp only [Bool.and_eq_true, decide_eq_true_eq] at this
      obtain ⟨⟨⟨h1, h2⟩, h3⟩, h4⟩ := this
      obtain ⟨p, hp, e⟩ := List.mem_map.1 h1
      refine ⟨⟨p, hp, e.symm, ?_⟩, h2, h4⟩
      rw [← e] at h3
      exact h3
    have hkey : ∀ j, j < own.length → mkKey (own.getD j noMo).2 ≠ ByteArray.empty := fun j hj => key_neS (hJ j hj).2.1 (hs _ (getM_mem hj) (hJ j hj).2.1)
    have hfirst : ∀ i j, i < j → j < own.length → (own.getD i noMo).1 ≠ (own.getD j noMo).1 := by
      intro i j hij hj e
      have h4 := (hJ j hj).2.2
      have hok := (hJ i (by omega)).2.1
      -- the first of that place among those ahead is a name
      have : secAt (own.take j) (own.getD j noMo).1 ≠ ByteArray.empty := by
        have hex : ∃ i, i < j ∧ (own.getD i noMo).1 = (own.getD j noMo).1 := ⟨i, hij, e⟩
        obtain ⟨i0, hi0, hmin0⟩ := least_of (fun i => i < j ∧ (own.getD i noMo).1 = (own.getD j noMo).1) hex
        have hmin : ∀ z, z < i0 → (own.getD z noMo).1 ≠ (own.getD j noMo).1 := fun z hz q => hmin0 z hz ⟨by have := hi0.1; omega, q⟩
        rw [secAt_at (own.take j) _ i0 (by rw [List.length_take]; omega) (fun z hz => by rw [take_getD own j z (by omega)]; exact hmin z hz) (by rw [take_getD own j i0 hi0.1]; exact hi0.2), take_getD own j i0 hi0.1]
        exact ok_ne_empty (hJ i0 (by omega)).2.1
      exact this h4
    refine ⟨⟨hleaf, ?_⟩, ?_⟩
    · intro p hp
      unfold fitsAt
      simp only [Bool.or_eq_true, decide_eq_true_eq]
      by_cases q : keys.getD p ByteArray.empty = ByteArray.empty
      · exact .inl q
      · right
        have := hhas (p : Int) (List.mem_map.2 ⟨p, hp, rfl⟩)
        simp only [Bool.or_eq_true, decide_eq_true_eq] at this
        rcases this with r | r
        · exact absurd r q
        · obtain ⟨j, j1, j2, j3, _⟩ := secAt_first own _ r
          obtain ⟨⟨p', hp', e1, e2⟩, _⟩ := hJ j j1
          rw [j2] at e1
          obtain rfl : p = p' := by omega
          rw [← j3, e2]
    · -- as many as there are keys
      refine Nat.le_antisymm ?_ ?_
      · have h1 := nodup_len (own.map (·.1)) ((P.filter fun p => decide (keys.getD p ByteArray.empty ≠ ByteArray.empty)).map (fun (p : Nat) => (p : Int))) ?_ ?_
        · simpa [keyedIn] using h1
        · rw [List.nodup_iff_pairwise_ne, List.pairwise_map, List.pairwise_iff_getElem]
          intro i j hi hj hij e
          refine hfirst i j hij hj ?_
          rw [List.getD_eq_getElem?_getD, List.getD_eq_getElem?_getD, List.getElem?_eq_getElem hi, List.getElem?_eq_getElem hj]
          exact e
        · intro z hz
          obtain ⟨o, ho, rfl⟩ := List.mem_map.1 hz
          obtain ⟨j, hj, rfl⟩ := List.mem_iff_getElem.1 ho
          obtain ⟨⟨p, hp, e1, e2⟩, _⟩ := hJ j hj
          have hk2 := hkey j hj
          have hq : own.getD j noMo = own[j] := by rw [List.getD_eq_getElem?_getD, List.getElem?_eq_getElem hj]; rfl
          rw [hq] at e1 e2 hk2
          rw [e1]
          exact List.mem_map.2 ⟨p, List.mem_filter.2 ⟨hp, decide_eq_true (by rw [e2]; exact hk2)⟩, rfl⟩
      · have h1 := nodup_len ((P.filter fun p => decide (keys.getD p ByteArray.empty ≠ ByteArray.empty)).map (fun (p : Nat) => (p : Int))) (own.map (·.1)) ?_ ?_
        · simpa [keyedIn] using h1
        · exact nodup_map (fun a _ b _ e => by omega) (hnd.filter _)
        · intro z hz
          obtain ⟨p, hp, rfl⟩ := List.mem_map.1 hz
          obtain ⟨a1, a2⟩ := List.mem_filter.1 hp
          have := hhas (p : Int) (List.mem_map.2 ⟨p, a1, rfl⟩)
          simp only [Bool.or_eq_true, decide_eq_true_eq] at this a2
          rcases this with r | r
          · exact absurd r a2
          · obtain ⟨j, j1, j2, _, _⟩ := secAt_first own _ r
            refine List.mem_map.2 ⟨own.getD j noMo, getM_mem j1, j2⟩
#print axioms owns_agree
end Go.Proofs.YteiojanamkndmaaGreat
/-
  Both sides' MemOk of one who is in none; both agree.
-/
namespace Go.Proofs.YteiojanamkndmaaGreat
open Go.RowKit

set_option maxRecDepth 100000 in
set_option maxHeartbeats 2000000 in
theorem sMemOk_out (who ep : Int) (ks os : Value) (keys : List ByteArray) (own : List Mo) (init tag : ByteArray) (w : World) (hK : SRow w ks keys) (hO : MRow w os own) :
    Calls Tryz.prog 23 #[.agg (memC false who ks os ep init tag)] w fun e w' => e = .returned (.bool (decide ((⟨false, who, keys, own, ep, init, tag⟩ : Mem) = Mem.none))) ∧ Below w.heap.size w w' := by
  obtain ⟨a1, p1, rfl, _, _, _⟩ := hK.form
  obtain ⟨a2, p2, rfl, _, _, _⟩ := hO
  clear hK
  have HNO : Hid (∀ b : Prop, ((⟨false, who, keys, own, ep, init, tag⟩ : Mem) = Mem.none → b) → ¬ b → decide ((⟨false, who, keys, own, ep, init, tag⟩ : Mem) = Mem.none) = false) := fun b h1 h2 => decide_eq_false (fun q => h2 (h1 q))
  have HYES : Hid (who = 0 → keys.length = 0 → own.length = 0 → ep = 0 → init = ByteArray.empty → tag = ByteArray.empty → decide ((⟨false, who, keys, own, ep, init, tag⟩ : Mem) = Mem.none) = true) := by
    intro e1 e2 e3 e4 e5 e6
    rw [e1, List.eq_nil_of_length_eq_zero e2, List.eq_nil_of_length_eq_zero e3, e4, e5, e6]
    rfl
  have HP : Hid ((⟨false, who, keys, own, ep, init, tag⟩ : Mem) = Mem.none → who = 0 ∧ keys.length = 0 ∧ own.length = 0 ∧ ep = 0 ∧ init = ByteArray.empty ∧ tag = ByteArray.empty) := by
    intro q
    simp only [Mem.none, Mem.mk.injEq] at q
    obtain ⟨_, q1, q2, q3, q4, q5, q6⟩ := q
    exact ⟨q1, by rw [q2]; rfl, by rw [q3]; rfl, q4, q5, q6⟩
  obtain ⟨res, hres⟩ : ∃ res, decide ((⟨false, who, keys, own, ep, init, tag⟩ : Mem) = Mem.none) = res := ⟨_, rfl⟩
  rw [hres] at HNO HYES ⊢
  clear hres
  generalize keys.length = kl at *
  generalize own.length = ol at *
  have HBX : Hid (∀ cs : Array Value, Below w.heap.size w (w.alloc (.cells cs 35))) := fun cs => (Below.refl _ _).alloc (Nat.le_refl _) _
  by_cases h1 : who = 0
  · have e0 := h1
    clear h1
    by_cases h1 : kl = 0
    · have e1 := h1
      clear h1
      by_cases h1 : ol = 0
      · have e2 := h1
        clear h1
        by_cases h1 : ep = 0
        · have e3 := h1
          clear h1
          by_cases h1 : init = ByteArray.empty
          · have e4 := h1
            clear h1
            by_cases h1 : tag = ByteArray.empty
            · have e5 := h1
              clear h1
              have HE := hide (HYES.out e0 e1 e2 e3 e4 e5)
              subst e0 e1 e2 e3 e4 e5
              have hzt : (ByteArray.empty).toList = [] := nil_text
              clear HNO HYES HP
              go_enter Tryz.func23, Tryz.ntmps23
              go_wp2_with fail
              go_ret
              exact ⟨ret_bool' HE.out.symm, HBX.out _⟩
            · have HE := hide (HNO.out _ (fun q => (HP.out q).2.2.2.2.2) h1)
              have hz : ¬ tag.toList = [] := no_text h1
              have hz2 : tag.toList.isEmpty = false := by simpa using no_text h1
              subst e0 e1 e2 e3 e4
              have hzt : (ByteArray.empty).toList = [] := nil_text
              clear HNO HYES HP h1
              go_enter Tryz.func23, Tryz.ntmps23
              go_wp2_with fail
              go_ret
              exact ⟨ret_bool' HE.out.symm, HBX.out _⟩
          · have HE := hide (HNO.out _ (fun q => (HP.out q).2.2.2.2.1) h1)
            have hz : ¬ init.toList = [] := no_text h1
            have hz2 : init.toList.isEmpty = false := by simpa using no_text h1
            subst e0 e1 e2 e3
            have hzt : (ByteArray.empty).toList = [] := nil_text
            clear HNO HYES HP h1
            go_enter Tryz.func23, Tryz.ntmps23
            go_wp2_with fail
            go_ret
            exact ⟨ret_bool' HE.out.symm, HBX.out _⟩
        · have HE := hide (HNO.out _ (fun q => (HP.out q).2.2.2.1) h1)
          have hz : (ep == 0) = false := by simpa using h1
          subst e0 e1 e2
          have hzt : (ByteArray.empty).toList = [] := nil_text
          clear HNO HYES HP h1
          go_enter Tryz.func23, Tryz.ntmps23
          go_wp2_with fail
          go_ret
          exact ⟨ret_bool' HE.out.symm, HBX.out _⟩
      · have HE := hide (HNO.out _ (fun q => (HP.out q).2.2.1) h1)
        have hz : ((ol : Int) == 0) = false := by simp; omega
        subst e0 e1
        have hzt : (ByteArray.empty).toList = [] := nil_text
        clear HNO HYES HP h1
        go_enter Tryz.func23, Tryz.ntmps23
        go_wp2_with fail
        go_ret
        exact ⟨ret_bool' HE.out.symm, HBX.out _⟩
    · have HE := hide (HNO.out _ (fun q => (HP.out q).2.1) h1)
      have hz : ((kl : Int) == 0) = false := by simp; omega
      subst e0
      have hzt : (ByteArray.empty).toList = [] := nil_text
      clear HNO HYES HP h1
      go_enter Tryz.func23, Tryz.ntmps23
      go_wp2_with fail
      go_ret
      exact ⟨ret_bool' HE.out.symm, HBX.out _⟩
  · have HE := hide (HNO.out _ (fun q => (HP.out q).1) h1)
    have hz : (who == 0) = false := by simpa using h1
    have hzt : (ByteArray.empty).toList = [] := nil_text
    clear HNO HYES HP h1
    go_enter Tryz.func23, Tryz.ntmps23
    go_wp2_with fail
    go_ret
    exact ⟨ret_bool' HE.out.symm, HBX.out _⟩

set_option maxRecDepth 100000 in
set_option maxHeartbeats 2000000 in
theorem hasNothing_any (who ep : Int) (ks os : Value) (keys : List ByteArray) (own : List Mo) (init tag : ByteArray) (w : World) (hK : SRow w ks keys) (hO : MRow w os own) :
    Calls Tryz.prog 88 #[.agg (memC false who ks os ep init tag)] w fun e w' => e = .returned (.bool (decide ((⟨false, who, keys, own, ep, init, tag⟩ : Mem) = Mem.none))) ∧ Below w.heap.size w w' := by
  obtain ⟨a1, p1, rfl, _, _, _⟩ := hK.form
  obtain ⟨a2, p2, rfl, _, _, _⟩ := hO
  clear hK
  have HNO : Hid (∀ b : Prop, ((⟨false, who, keys, own, ep, init, tag⟩ : Mem) = Mem.none → b) → ¬ b → decide ((⟨false, who, keys, own, ep, init, tag⟩ : Mem) = Mem.none) = false) := fun b h1 h2 => decide_eq_false (fun q => h2 (h1 q))
  have HYES : Hid (who = 0 → keys.length = 0 → own.length = 0 → ep = 0 → init = ByteArray.empty → tag = ByteArray.empty → decide ((⟨false, who, keys, own, ep, init, tag⟩ : Mem) = Mem.none) = true) := by
    intro e1 e2 e3 e4 e5 e6
    rw [e1, List.eq_nil_of_length_eq_zero e2, List.eq_nil_of_length_eq_zero e3, e4, e5, e6]
    rfl
  have HP : Hid ((⟨false, who, keys, own, ep, init, tag⟩ : Mem) = Mem.none → who = 0 ∧ keys.length = 0 ∧ own.length = 0 ∧ ep = 0 ∧ init = ByteArray.empty ∧ tag = ByteArray.empty) := by
    intro q
    simp only [Mem.none, Mem.mk.injEq] at q
    obtain ⟨_, q1, q2, q3, q4, q5, q6⟩ := q
    exact ⟨q1, by rw [q2]; rfl, by rw [q3]; rfl, q4, q5, q6⟩
  obtain ⟨res, hres⟩ : ∃ res, decide ((⟨false, who, keys, own, ep, init, tag⟩ : Mem) = Mem.none) = res := ⟨_, rfl⟩
  rw [hres] at HNO HYES ⊢
  clear hres
  generalize keys.length = kl at *
  generalize own.length = ol at *
  have HBX : Hid (∀ cs : Array Value, Below w.heap.size w (w.alloc (.cells cs 35))) := fun cs => (Below.refl _ _).alloc (Nat.le_refl _) _
  by_cases h1 : who = 0
  · have e0 := h1
    clear h1
    by_cases h1 : kl = 0
    · have e1 := h1
      clear h1
      by_cases h1 : ol = 0
      · have e2 := h1
        clear h1
        by_cases h1 : ep = 0
        · have e3 := h1
          clear h1
          by_cases h1 : init = ByteArray.empty
          · have e4 := h1
            clear h1
            by_cases h1 : tag = ByteArray.empty
            · have e5 := h1
              clear h1
              have HE := hide (HYES.out e0 e1 e2 e3 e4 e5)
              subst e0 e1 e2 e3 e4 e5
              have hzt : (ByteArray.empty).toList = [] := nil_text
              clear HNO HYES HP
              go_enter Tryz.func88, Tryz.ntmps88
              go_wp2_with fail
              go_ret
              exact ⟨ret_bool' HE.out.symm, HBX.out _⟩
            · have HE := hide (HNO.out _ (fun q => (HP.out q).2.2.2.2.2) h1)
              have hz : ¬ tag.toList = [] := no_text h1
              have hz2 : tag.toList.isEmpty = false := by simpa using no_text h1
              subst e0 e1 e2 e3 e4
              have hzt : (ByteArray.empty).toList = [] := nil_text
              clear HNO HYES HP h1
              go_enter Tryz.func88, Tryz.ntmps88
              go_wp2_with fail
              go_ret
              exact ⟨ret_bool' HE.out.symm, HBX.out _⟩
          · have HE := hide (HNO.out _ (fun q => (HP.out q).2.2.2.2.1) h1)
            have hz : ¬ init.toList = [] := no_text h1
            have hz2 : init.toList.isEmpty = false := by simpa using no_text h1
            subst e0 e1 e2 e3
            have hzt : (ByteArray.empty).toList = [] := nil_text
            clear HNO HYES HP h1
            go_enter Tryz.func88, Tryz.ntmps88
            go_wp2_with fail
            go_ret
            exact ⟨ret_bool' HE.out.symm, HBX.out _⟩
        · have HE := hide (HNO.out _ (fun q => (HP.out q).2.2.2.1) h1)
          have hz : (ep == 0) = false := by simpa using h1
          subst e0 e1 e2
          have hzt : (ByteArray.empty).toList = [] := nil_text
          clear HNO HYES HP h1
          go_enter Tryz.func88, Tryz.ntmps88
          go_wp2_with fail
          go_ret
          exact ⟨ret_bool' HE.out.symm, HBX.out _⟩
      · have HE := hide (HNO.out _ (fun q => (HP.out q).2.2.1) h1)
        have hz : ((ol : Int) == 0) = false := by simp; omega
        subst e0 e1
        have hzt : (ByteArray.empty).toList = [] := nil_text
        clear HNO HYES HP h1
        go_enter Tryz.func88, Tryz.ntmps88
        go_wp2_with fail
        go_ret
        exact ⟨ret_bool' HE.out.symm, HBX.out _⟩
    · have HE := hide (HNO.out _ (fun q => (HP.out q).2.1) h1)
      have hz : ((kl : Int) == 0) = false := by simp; omega
      subst e0
      have hzt : (ByteArray.empty).toList = [] := nil_text
      clear HNO HYES HP h1
      go_enter Tryz.func88, Tryz.ntmps88
      go_wp2_with fail
      go_ret
      exact ⟨ret_bool' HE.out.symm, HBX.out _⟩
  · have HE := hide (HNO.out _ (fun q => (HP.out q).1) h1)
    have hz : (who == 0) = false := by simpa using h1
    have hzt : (ByteArray.empty).toList = [] := nil_text
    clear HNO HYES HP h1
    go_enter Tryz.func88, Tryz.ntmps88
    go_wp2_with fail
    go_ret
    exact ⟨ret_bool' HE.out.symm, HBX.out _⟩

set_option maxRecDepth 100000 in
set_option maxHeartbeats 2000000 in
theorem iMemOk_out (who ep : Int) (ks os : Value) (keys : List ByteArray) (own : List Mo) (init tag : ByteArray) (w : World) (hK : SRow w ks keys) (hO : MRow w os own) :
    Calls Tryz.prog 67 #[.agg (memC false who ks os ep init tag)] w fun e w' => e = .returned (.bool (decide ((⟨false, who, keys, own, ep, init, tag⟩ : Mem) = Mem.none))) ∧ Below w.heap.size w w' := by
  have HK := hide hK
  have HO := hide hO
  obtain ⟨a1, p1, rfl, _, _, _⟩ := hK.form
  obtain ⟨a2, p2, rfl, _, _, _⟩ := hO
  clear hK
  have HB0 : Hid (Below w.heap.size w (w.alloc (.cells (memC false who (.slice a1 keys.length p1) (.slice a2 own.length p2) ep init tag) 35))) := (Below.refl _ _).alloc (Nat.le_refl _) _
  go_enter Tryz.func67, Tryz.ntmps67
  go_wp2_with fail
  refine (hasNothing_any who ep _ _ keys own init tag _ ((unhide HK).below (unhide HB0)) ((unhide HO).below (unhide HB0))).mono ?_
  rintro e w1 ⟨rfl, hb1⟩
  have HB1 := hide (HB0.out.trans (hb1.mono HB0.out.size))
  clear hb1
  go_wp2_with fail
  go_ret
  exact ⟨rfl, unhide HB1⟩

/-- Both sides agree on who is ok, where no own secret that is a name is too long for a key. -/
theorem mem_agree (m : Mem) (h : ∀ o ∈ m.own, Kw.ok o.2 = true → o.2.size < 300) : memOkI m = memOkS m := by
  obtain ⟨inn, who, keys, own, ep, init, tag⟩ := m
  unfold memOkI memOkS
  cases inn with
  | false => rfl
  | true =>
    simp only [if_true]
    by_cases hp : 0 ≤ who ∧ who ≤ 7
    · obtain ⟨k, rfl⟩ : ∃ k : Nat, who = (k : Int) := ⟨who.toNat, by omega⟩
      rw [show ((k : Int)).toNat = k from rfl, owns_agree keys own k (by omega) h]
      simp only [Bool.and_assoc]
    · rw [decide_eq_false hp]
      simp
theorem sMemOk_any (m : Mem) (ks os : Value) (w : World) (hK : SRow w ks m.keys) (hO : MRow w os m.own) (hkm : ∀ x ∈ m.keys, x.size ≤ maxLen) (hom : ∀ o ∈ m.own, o.2.size ≤ maxLen) (him : m.init.size ≤ maxLen) (htm : m.tag.size ≤ maxLen) :
    Calls Tryz.prog 23 #[.agg (m.cells ks os)] w fun e w' => e = .returned (.bool (memOkS m)) ∧ Below w.heap.size w w' := by
  obtain ⟨inn, who, keys, own, ep, init, tag⟩ := m
  cases inn with
  | true => exact sMemOk_in who ep ks os keys own init tag w hK hO hkm hom him htm
  | false => exact sMemOk_out who ep ks os keys own init tag w hK hO
theorem iMemOk_any (m : Mem) (ks os : Value) (w : World) (hK : SRow w ks m.keys) (hO : MRow w os m.own) (hkm : ∀ x ∈ m.keys, x.size ≤ maxLen) (hom : ∀ o ∈ m.own, o.2.size ≤ maxLen) (him : m.init.size ≤ maxLen) (htm : m.tag.size ≤ maxLen) :
    Calls Tryz.prog 67 #[.agg (m.cells ks os)] w fun e w' => e = .returned (.bool (memOkI m)) ∧ Below w.heap.size w w' := by
  obtain ⟨inn, who, keys, own, ep, init, tag⟩ := m
  cases inn with
  | true => exact iMemOk_in who ep ks os keys own init tag w hK hO hkm hom him htm
  | false => exact iMemOk_out who ep ks os keys own init tag w hK hO
#print axioms mem_agree
#print axioms sMemOk_any
#print axioms iMemOk_any
end Go.Proofs.YteiojanamkndmaaGreat
/-
  The spec's places: TreSide, TreMeet.
-/
namespace Go.Proofs.YteiojanamkndmaaGreat
open Go.RowKit

set_option maxHeartbeats 1000000 in
theorem sTreMeet_any (a b : Int) (w : World) :
    Calls Tryz.prog 20 #[.int .i64 a, .int .i64 b] w fun e w' => e = .returned (.int .i64 (meetOf a b)) ∧ w' = w := by
  by_cases h : (0 ≤ a ∧ a ≤ 14) ∧ 0 ≤ b ∧ b ≤ 14
  · obtain ⟨x, rfl⟩ : ∃ k : Nat, a = (k : Int) := ⟨a.toNat, by omega⟩
    obtain ⟨y, rfl⟩ : ∃ k : Nat, b = (k : Int) := ⟨b.toNat, by omega⟩
    have hx : x < 15 := by omega
    have hy : y < 15 := by omega
    have hl : meetOf (x : Int) (y : Int) = (meets x y : Int) := by unfold meetOf; rw [if_pos h]; rfl
    rw [hl]
    clear hl h
    go_enter Tryz.func20, Tryz.ntmps20
    go_wp2_with fail
    refine (l1In_yes _ _ _ _ (by omega) (by omega)).mono ?_
    rintro e w1 ⟨rfl, rfl⟩
    go_wp2_with fail
    refine (l1In_yes _ _ _ _ (by omega) (by omega)).mono ?_
    rintro e w1 ⟨rfl, rfl⟩
    go_wp2_with fail
    go_loopw [0, 1] (fun i j wr => ∃ a b : Nat, a < 15 ∧ b < 15 ∧ i = .int .i64 (a : Int) ∧ j = .int .i64 (b : Int) ∧ Hid (meets a b = meets x y) ∧ wr = w1) (fun i j _ => (intOf i).toNat + (intOf j).toNat)
    case atStart => exact ⟨x, y, hx, hy, rfl, rfl, rfl, rfl⟩
    case round =>
      obtain ⟨a, b, ha, hb, rfl, rfl, hm, rfl⟩ := hrel
      clear hx hy
      by_cases hab : a = b
      · subst hab
        have e : Hid (meets x y = a) := by show meets x y = a; rw [← hm.out, meets_self a ha]
        have e2 : ((a : Int) != (a : Int)) = false := by simp
        go_wp2_with fail
        go_ret
        exact ⟨by rw [e.out]; rfl, rfl⟩
      · have hne : ((a : Int) != (b : Int)) = true := by simp; omega
        have hne2 : ¬ ((a : Int) = (b : Int)) := by omega
        have hne3 : (!decide ((a : Int) = (b : Int))) = true := by simp; omega
        by_cases hlt : b < a
        · have h1 : (b : Int) < (a : Int) := by omega
          obtain ⟨i1, i2⟩ := half_wrap a (by omega) ha
          have hs : Hid (meets ((a - 1) / 2) b = meets x y) := by show _ = _; rw [← hm.out, meets_left a ha b hb hlt]
          have hp : (a - 1) / 2 < 15 := by omega
          have hpk : (a - 1) / 2 < a := by omega
          generalize (a - 1) / 2 = q at i2 hs hp hpk
          go_wp2_with fail
          go_roundw
          case rel => exact ⟨q, b, hp, hb, rfl, rfl, hs, trivial⟩
          case measure => simp [intOf]; omega
        · have h1 : decide ((b : Int) < (a : Int)) = false := by simp; omega
          obtain ⟨i1, i2⟩ := half_wrap b (by omega) hb
          have hs : Hid (meets a ((b - 1) / 2) = meets x y) := by show _ = _; rw [← hm.out, meets_right a ha b hb (by omega)]
          have hp : (b - 1) / 2 < 15 := by omega
          have hpk : (b - 1) / 2 < b := by omega
          generalize (b - 1) / 2 = q at i2 hs hp hpk
          go_wp2_with fail
          go_roundw
          case rel => exact ⟨a, q, ha, hp, rfl, rfl, hs, trivial⟩
          case measure => simp [intOf]; omega
  · have hl : meetOf a b = -1 := by unfold meetOf; rw [if_neg h]
    rw [hl]
    have hh := hide h
    clear hl h
    by_cases ha : 0 ≤ a ∧ a ≤ 14
    · go_enter Tryz.func20, Tryz.ntmps20
      go_wp2_with fail
      refine (l1In_yes _ _ _ _ (by omega) (by omega)).mono ?_
      rintro e w1 ⟨rfl, rfl⟩
      go_wp2_with fail
      refine (l1In_no _ _ _ _ (by have := hh.out; omega)).mono ?_
      rintro e w1 ⟨rfl, rfl⟩
      go_wp2_with fail
      go_ret
      exact ⟨rfl, rfl⟩
    · go_enter Tryz.func20, Tryz.ntmps20
      go_wp2_with fail
      refine (l1In_no _ _ _ _ (by have := hh.out; omega)).mono ?_
      rintro e w1 ⟨rfl, rfl⟩
      go_wp2_with fail
      go_ret
      exact ⟨rfl, rfl⟩
end Go.Proofs.YteiojanamkndmaaGreat
/-
  The specification's l4Path.
-/
namespace Go.Proofs.YteiojanamkndmaaGreat
open Go.RowKit Go.Shelf

theorem two_new (w : World) (x y : Value) (t : TypeId) : ∀ j u, [x, y][j]? = some u → (w.alloc (.cells #[x, y] t)).cell? (Addr.add ⟨w.heap.size, 0, none⟩ j) = some u := by
  intro j u hj
  match j, hj with
  | 0, hj => simp at hj; subst hj; simp [Addr.add, go_sem]
  | 1, hj => simp at hj; subst hj; simp [Addr.add, go_sem]

set_option maxRecDepth 100000 in
set_option maxHeartbeats 4000000 in
theorem l4Path_any (n : Nat) (hn : n < 15) (s : ByteArray) (hss : s.size ≤ 300) (w : World) :
    Calls Tryz.prog 19 #[.int .i64 (n : Int), .string s] w fun e w' => ∃ v, e = .returned v ∧ OwnM w.heap.size w' v (pathOf (chainOf (n : Int)) s) ∧ Below w.heap.size w w' := by
  obtain ⟨i0, hi, hz0, hz1, hz2⟩ := info_parts info_mo
  have hI := hide (And.intro hi (And.intro hz0 (And.intro hz1 hz2)))
  clear hi hz0 hz1 hz2
  have HCH : Hid (chainOf (n : Int) = (n : Int) :: upOf (n : Int)) := by show _ = _; unfold chainOf; rw [if_pos (by omega)]
  have HUL : Hid ((upOf (n : Int)).length ≤ 4) := by show _ ≤ _; rw [upOf_nat n hn, List.length_map]; have := ups_len n hn; omega
  have hO0 : Hid (OwnM w.heap.size (w.alloc (.cells #[.int .i64 (n : Int), .string s] 60)) (.slice (some ⟨w.heap.size, 0, none⟩) 1 1) (pathOf ((n : Int) :: (upOf (n : Int)).take 0) s)) := World.ownsRow_lit (base := w.heap.size) (e := 60) (size := 2) w #[.int .i64 (n : Int), .string s] 1 (Nat.le_refl _) (by unfold maxLen; omega) rfl
  have hB0 : Hid (Below w.heap.size w (w.alloc (.cells #[.int .i64 (n : Int), .string s] 60))) := (Below.refl _ _).alloc (Nat.le_refl _) _
  go_enter Tryz.func19, Tryz.ntmps19
  go_wp2_with fail
  refine (sTreUp_any _ _).mono ?_
  rintro e w2 ⟨u2, rfl, ho2, hb2⟩
  generalize upOf (n : Int) = N at *
  have U2 := hide ho2
  have O2 : Hid (OwnM w.heap.size w2 _ _) := own_below' (unhide hO0) hb2
  have HB2 := hide (hB0.out.trans (hb2.mono hB0.out.size))
  obtain ⟨uo, uc, rfl⟩ := row_form' ho2
  generalize (w.alloc (.cells #[.int .i64 (n : Int), .string s] 60)).heap.size = Bu at U2
  clear ho2 hb2 hO0 hB0
  go_wp2_with fail
  go_loopw [1, 5, 7] (fun sv o i wr => ∃ j : Nat, j ≤ N.length ∧ i = .int .i64 (j : Int) ∧ sv = .string (nextN s j) ∧ (∃ oo oc, o = .slice oo (j + 1) oc) ∧ Hid (OwnM w.heap.size wr o (pathOf ((n : Int) :: N.take j) s)) ∧ Hid (OwnI Bu wr (.slice uo N.length uc) N) ∧ Hid (Below w.heap.size w wr)) (fun _ _ i _ => N.length - (intOf i).toNat)
  case atStart => exact ⟨0, by omega, rfl, rfl, ⟨_, _, rfl⟩, O2, U2, HB2⟩
  case round =>
    clear O2 U2 HB2
    obtain ⟨j, hj, rfl, rfl, ⟨oo, oc, rfl⟩, hO, hU, hB⟩ := hrel
    by_cases hlt : j < N.length
    · have hlt2 : (j : Int) < (N.length : Int) := by omega
      have i3 : IntKind.i64.wrap ((j : Int) + 1) = (j : Int) + 1 := by have := HUL.out; simp [IntKind.wrap, IntKind.bits, IntKind.signed]; omega
      have hns := nextN_size s hss j
      have HNX : Hid (nextN s (j + 1) = mkNext (nextN s j)) := rfl
      have HTK : Hid (pathOf ((n : Int) :: N.take (j + 1)) s = pathOf ((n : Int) :: N.take j) s ++ [(N.getD j 0, nextN s (j + 1))]) := by
        show _ = _
        rw [List.take_succ_eq_append_getElem hlt, ← List.cons_append, pathOf_snoc, List.getD_eq_getElem?_getD, List.getElem?_eq_getElem hlt]
        simp [Nat.min_eq_left (Nat.le_of_lt hlt)]
      have HPL : Hid ((pathOf ((n : Int) :: N.take j) s).length = j + 1) := by show _ = _; rw [pathOf_len]; simp [Nat.min_eq_left (Nat.le_of_lt hlt)]
      generalize pathOf ((n : Int) :: N.take j) s = P at *
      generalize hsc : nextN s j = sc at *
      go_wp2_with fail
      refine (sMakNext_any sc _ (le_maxLen (by omega))).mono ?_
      rw [← HNX.out]
      rintro e wn ⟨rfl, hbn⟩
      have hUn := hide (own_below' (unhide hU) hbn)
      have hO1 : wn.ownsRow w.heap.size 60 2 (.slice oo (j + 1) oc) P.length (mcells P) := own_below' (unhide hO) hbn
      rw [HPL.out] at hO1
      have hOn := hide hO1
      have hBn := hide (hB.out.trans (hbn.mono hB.out.size))
      have hsz := hBn.out.size
      clear hbn hO hU hB hO1 HNX hsc
      obtain ⟨q0, q1, q2, _, _, q5⟩ := (OwnI.irow (unhide hUn)).form
      simp only [Value.slice.injEq] at q2
      obtain ⟨rfl, _, rfl⟩ := q2
      obtain ⟨ad, rfl, hck⟩ := q5 j hlt
      clear q5
      have HUL2 := HUL.out
      generalize N.getD j 0 = x at *
      generalize hsn : nextN s (j + 1) = sn at *
      have HSN := hide hsn
      clear hsn
      go_wp2_with (at_builtin; refine wpList_append_own _ rfl _ _ 33 rfl w.heap.size 60 i0 (.agg #[.int .i64 0, .string ⟨#[]⟩]) 2 24 underMo (unhide hI).1 (unhide hI).2.1 (unhide hI).2.2.1 (unhide hI).2.2.2 rfl (by decide) _ _ _ rfl (World.ownsRow.alloc (unhide hOn) _) ⟨wn.heap.size, 0, none⟩ 1 1 [.int .i64 x, .string sn] rfl rfl (two_new _ _ _ _) (by intro u hu; simp at hu; rcases hu with rfl | rfl <;> rfl) (by unfold maxLen; omega) (by omega) (by simp; omega) ?_)
      intro v' w3 hown' hgrow _
      have hU3 : Hid (OwnI Bu w3 (.slice (some ad) N.length uc) N) := World.ownsRow.kept (World.ownsRow.alloc (unhide hUn) (.cells #[.int .i64 x, .string sn] 60)) hgrow (row_apart (World.ownsRow.alloc (unhide hUn) (.cells #[.int .i64 x, .string sn] 60)) (World.ownsRow.alloc (unhide hOn) (.cells #[.int .i64 x, .string sn] 60)) (by decide))
      have hB3 : Hid (Below w.heap.size w w3) := ((unhide hBn).alloc hsz _).grown hgrow (by simp; omega) (fun k hk => (World.ownsRow.lt (unhide hOn) k hk).1)
      have hO3 : Hid (OwnM w.heap.size w3 v' (P ++ [(x, sn)])) := by
        show OwnM _ _ _ _
        unfold OwnM
        rw [List.length_append, HPL.out, mcells_snoc]
        exact hown'
      obtain ⟨vo, vc, rfl⟩ := row_form' hown'
      clear hown' hgrow hOn hUn hBn
      go_wp2_with fail
      go_roundw
      case rel => exact ⟨j + 1, by omega, by simp, by rw [HSN.out], ⟨_, _, rfl⟩, by rw [HTK.out]; exact unhide hO3, hU3, hB3⟩
      case measure => simp [intOf]; omega
    · have hlt2 : decide ((j : Int) < (N.length : Int)) = false := by simp; omega
      have hjn : j = N.length := by omega
      subst hjn
      go_wp2_with fail
      go_ret
      refine ⟨_, rfl, ?_, unhide hB⟩
      have q := unhide hO
      rw [List.take_length, ← HCH.out] at q
      exact q
#print axioms l4Path_any
end Go.Proofs.YteiojanamkndmaaGreat
/-
  Who comes by a commit, as plain words. No Go function in it.
-/
namespace Go.Proofs.YteiojanamkndmaaGreat
open Go.RowKit Kw

/-- What is asked of who comes. -/
def joinT (who : Int) (leaf key : ByteArray) (c : Cmt) : Bool := cmtOk c && (!decide (c.add < 0) && (decide (c.add = who) && (Kw.ok leaf && (Kw.ok key && (decide (mkKey leaf = c.leaf) && decide (mkKey key = c.wel.key))))))
/-- The secrets of who comes. -/
def joinOwn (who : Int) (leaf : ByteArray) (c : Cmt) : List Mo := (leafOf who, leaf) :: pathOf (chainOf (meetOf (leafOf who) (leafOf c.sender))) c.wel.ss
def joinM (who : Int) (leaf : ByteArray) (c : Cmt) : Mem := ⟨true, who, c.keys, joinOwn who leaf c, (countN c.tag : Int) + 1, c.wel.is, c.tag ++ c.name⟩
def joinB (who : Int) (leaf key : ByteArray) (c : Cmt) : Bool := joinT who leaf key c && (decide (c.wel.ss.size ≤ 292) && memOkS (joinM who leaf c))
def joinR (who : Int) (leaf key : ByteArray) (c : Cmt) : Mem := if joinB who leaf key c = true then joinM who leaf c else Mem.none

theorem joinB_eq (who : Int) (leaf key : ByteArray) (c : Cmt) : joinB who leaf key c = (cmtOk c && (!decide (c.add < 0) && (decide (c.add = who) && (Kw.ok leaf && (Kw.ok key && (decide (mkKey leaf = c.leaf) && (decide (mkKey key = c.wel.key) && (decide (c.wel.ss.size ≤ 292) && memOkS (joinM who leaf c))))))))) := by
  unfold joinB joinT
  simp only [Bool.and_assoc]
theorem cmtOk_sender {c : Cmt} (h : cmtOk c = true) : 0 ≤ c.sender ∧ c.sender ≤ 7 := by
  unfold cmtOk at h
  simp only [Bool.and_eq_true] at h
  have := h.1.1.1.1.1.1.1.1
  unfold oneB at this
  simpa using this
theorem cmtOk_add {c : Cmt} (h : cmtOk c = true) : -1 ≤ c.add ∧ c.add ≤ 7 ∧ c.add ≠ c.sender := by
  have hs := cmtOk_sender h
  unfold cmtOk at h
  simp only [Bool.and_eq_true] at h
  have := h.1.1.1.1.1.2
  unfold otherB oneB at this
  simp at this
  omega
theorem cmtOk_tag {c : Cmt} (h : cmtOk c = true) : c.tag.size + c.name.size ≤ 300 := by
  unfold cmtOk at h
  simp only [Bool.and_eq_true] at h
  simpa using h.1.1.1.1.1.1.2
theorem cmtOk_keys {c : Cmt} (h : cmtOk c = true) : treOk c.keys = true := by
  unfold cmtOk at h
  simp only [Bool.and_eq_true] at h
  exact h.1.1.1.2
theorem cmtOk_wel {c : Cmt} (h : cmtOk c = true) (ha : 0 ≤ c.add) : Kw.ok c.wel.is = true ∧ Kw.ok c.wel.ss = true := by
  unfold cmtOk at h
  simp only [Bool.and_eq_true] at h
  have := h.2
  unfold welB at this
  rw [if_neg (by omega)] at this
  simp only [Bool.and_eq_true] at this
  exact ⟨this.1.2, this.2⟩
/-- Where two of eight meet is a place. -/
theorem meet_place {a b : Int} (ha : 0 ≤ a ∧ a ≤ 7) (hb : 0 ≤ b ∧ b ≤ 7) : ∃ n : Nat, n < 15 ∧ meetOf (leafOf a) (leafOf b) = (n : Int) := by
  have e1 : leafOf a = 7 + a := by unfold leafOf; rw [if_pos ha]
  have e2 : leafOf b = 7 + b := by unfold leafOf; rw [if_pos hb]
  refine ⟨meets (7 + a).toNat (7 + b).toNat, ?_, ?_⟩
  · exact meets_lt _ (by omega) _ (by omega)
  · rw [e1, e2]; unfold meetOf; rw [if_pos (by omega)]

theorem next_le (s : ByteArray) : (mkNext s).size ≤ 300 := by
  unfold mkNext
  split
  · unfold cap
    split
    · assumption
    · show 0 ≤ 300; omega
  · show 0 ≤ 300; omega
theorem path_le : ∀ (ps : List Int) (s : ByteArray), s.size ≤ 300 → ∀ o ∈ pathOf ps s, o.2.size ≤ 300
  | [], _, _, o, ho => by cases ho
  | p :: ps, s, hs, o, ho => by
    rcases List.mem_cons.1 ho with rfl | q
    · exact hs
    · exact path_le ps (mkNext s) (next_le s) o q
theorem chain_len : ∀ n : Nat, n < 15 → (chainOf (n : Int)).length ≤ 4 := by decide
/-- A result in a block, and one in a slot. -/
theorem results_cs {P : Program} {fn : Func} {a t s : Nat} {tmps : Array Value} {w : World} {b : Addr} {v x : Value} (h : fn.results = #[.cell a t, .tmp s]) (hp : tmps.getD a undef = .pointer (some b)) (hx : tmps.getD s undef = x) (hl : (loadVar t b).run P w = .ok v w) : (results fn tmps).run P w = .ok (.tuple #[v, x]) w := by
  have hp' : tmps[a]?.getD undef = .pointer (some b) := by simpa using hp
  have hx' : tmps[s]?.getD undef = x := by simpa using hx
  simp [results, h, hp', hx', asAddr, hl]
end Go.Proofs.YteiojanamkndmaaGreat
