/-
  Proved: of every code: of boxes of which each one's key is that of what the one ahead of it has in it, whoever knows of what the first one's key is made knows all; whoever knows what the last one has in it knows no more. No condition.
-/
import Derived.Test.YtjdpabiodalfkaaFrame
import Derived.Test.YtjdpabiodalfkaaSmallM
import Derived.Test.YtjdpabiodalfkaaKeHas
import Derived.Test.YtjdpabiodalfkaaKeTexts
import Derived.Test.YtjdpabiodalfkaaClos
import Derived.Test.YtjdpabiodalfkaaMak
import Derived.Test.YtjdpabiodalfkaaNewI
import Derived.Test.YtjdpabiodalfkaaMade3
namespace Go.Proofs.Ytjdpabiodalfkaa
open Go.ChangeShapes Go.WideShapes Go.ChangeAt Go.RowKit
open Go.ChangeMaps (open_string shut_string)
set_option linter.unusedVariables false

/-- The n-th new secret of the first one. -/
def nw (i : Nat) : ByteArray := mkNew 0 (i : Int)
/-- The box whose key is that of one and that has the next one in it. -/
def bxc (k : Nat) : Bx := (mkKey (nw (1 + k)), nw (2 + k))

theorem nw_facts : ∀ i, i ≤ 14 → 1 ≤ i → Kw.ok (nw i) = true ∧ mOp (nw i) = 1 ∧ (nw i).size < 10 := by decide +kernel
theorem nw_inj : ∀ i, i ≤ 14 → ∀ j, j ≤ 14 → 1 ≤ i → 1 ≤ j → nw i = nw j → i = j := by decide +kernel

/-- The boxes, one behind the other, or the other way round. -/
def chain (n : Nat) (rev : Bool) : List Bx := (List.range n).map fun k => bxc (if rev then n - 1 - k else k)
theorem chain_mem {n : Nat} {rev : Bool} {k : Nat} (h : k < n) : bxc k ∈ chain n rev := by
  unfold chain
  rw [List.mem_map]
  cases rev with
  | false => exact ⟨k, by simpa using h, by simp⟩
  | true => exact ⟨n - 1 - k, by simp; omega, by simp; congr 1; omega⟩
theorem chain_get {n : Nat} {rev : Bool} {b : Bx} (h : b ∈ chain n rev) : ∃ k, k < n ∧ b = bxc k := by
  unfold chain at h
  rw [List.mem_map] at h
  obtain ⟨k, hk, rfl⟩ := h
  simp at hk
  cases rev with
  | false => exact ⟨k, hk, by simp⟩
  | true => exact ⟨n - 1 - k, by omega, by simp⟩
theorem chain_len (n : Nat) (rev : Bool) : (chain n rev).length = n := by unfold chain; simp

theorem key_facts {i : Nat} (h : i ≤ 14) (h1 : 1 ≤ i) : mkKey (nw i) = keyT (nw i) ∧ Kw.ok (mkKey (nw i)) = true ∧ mOp (mkKey (nw i)) = 3 ∧ mA (mkKey (nw i)) = nw i := by
  obtain ⟨k1, _, k3⟩ := nw_facts i h h1
  have e : mkKey (nw i) = keyT (nw i) := by unfold mkKey; rw [if_pos k1, cap_yes (by rw [key_size]; omega)]
  obtain ⟨t1, t2, _, _, t5, _⟩ := made_key k1 (by omega)
  rw [e]
  exact ⟨rfl, t1, t2, t5⟩

theorem chain_ok {n : Nat} (hn : n ≤ 12) (rev : Bool) : okBoxes (chain n rev) = true := okBoxes_iff.2 ⟨by rw [chain_len]; omega, fun b hb => by
  obtain ⟨k, hk, rfl⟩ := chain_get hb
  exact ⟨(key_facts (by omega) (by omega)).2.1, (nw_facts (2 + k) (by omega) (by omega)).1⟩⟩
theorem one_ok {i : Nat} (h : i ≤ 14) (h1 : 1 ≤ i) : okAll [nw i] = true := okAll_iff.2 ⟨by simp, fun x hx => by simp at hx; subst hx; exact (nw_facts i h h1).1⟩

theorem nodup_le : ∀ (l m : List ByteArray), l.Nodup → (∀ x ∈ l, x ∈ m) → l.length ≤ m.length
  | [], _, _, _ => Nat.zero_le _
  | x :: l, m, hn, hs => by
    rw [List.nodup_cons] at hn
    have h1 := nodup_le l (m.filter fun y => decide (y ≠ x)) hn.2 (fun y hy => by
      rw [List.mem_filter]
      refine ⟨hs y (by simp [hy]), ?_⟩
      have : y ≠ x := fun e => hn.1 (e ▸ hy)
      simpa using this)
    have h2 : (m.filter fun y => decide (y ≠ x)).length < m.length := by
      rw [List.length_filter_lt_length_iff_exists]
      exact ⟨x, hs x (by simp), by simp⟩
    simp only [List.length_cons]
    omega

theorem chain_all {n : Nat} (hn : n ≤ 12) (rev : Bool) : (∀ k, k ≤ n → nw (1 + k) ∈ openOf [nw 1] (chain n rev)) ∧ (openOf [nw 1] (chain n rev)).length = n + 1 := by
  have h1 : ∀ k, k ≤ n → nw (1 + k) ∈ openOf [nw 1] (chain n rev) := by
    intro k
    induction k with
    | zero => intro _; exact openOf_known (by simp)
    | succ k ih =>
      intro hk
      have hm := ih (by omega)
      have hb := openOf_shut [nw 1] (chain n rev) _ (chain_mem (rev := rev) (show k < n by omega))
      obtain ⟨e1, e2, e3, e4⟩ := key_facts (i := 1 + k) (by omega) (by omega)
      have := hb (can_iff.2 (.one e2 (by show mOp (mkKey (nw (1 + k))) ≠ 1; rw [e3]; omega) (by show mOp (mkKey (nw (1 + k))) ≠ 4; rw [e3]; omega) (by show Can _ (mA (mkKey (nw (1 + k)))); rw [e4]; exact .has hm)))
      show nw (1 + (k + 1)) ∈ _
      rw [show 1 + (k + 1) = 2 + k by omega]
      exact this
  refine ⟨h1, ?_⟩
  have hN : ((List.range (n + 1)).map fun k => nw (1 + k)).Nodup := by
    rw [List.Nodup, List.pairwise_map]
    refine List.Pairwise.imp_of_mem ?_ (List.nodup_range (n := n + 1))
    intro a b ha hb hab e
    simp at ha hb
    have := nw_inj (1 + a) (by omega) (1 + b) (by omega) (by omega) (by omega) e
    omega
  have q1 := nodup_le _ (openOf [nw 1] (chain n rev)) hN (fun x hx => by
    rw [List.mem_map] at hx
    obtain ⟨k, hk, rfl⟩ := hx
    simp at hk
    exact h1 k (by omega))
  have q2 := nodup_le _ ((List.range (n + 1)).map fun k => nw (1 + k)) (nodup_openOf [nw 1] (chain n rev)) (fun x hx => by
    rw [List.mem_map]
    rcases openOf_from hx with h | ⟨b, hb, h, _⟩
    · simp at h
      exact ⟨0, by simp, h.symm⟩
    · obtain ⟨k, hk, rfl⟩ := chain_get hb
      exact ⟨k + 1, by simp; omega, by rw [← h]; show nw (1 + (k + 1)) = nw (2 + k); congr 1; omega⟩)
  simp at q1 q2
  omega

theorem chain_last {n : Nat} (hn : n ≤ 12) (rev : Bool) : openOf [nw (1 + n)] (chain n rev) = [nw (1 + n)] := by
  have hsh : Shut (chain n rev) [nw (1 + n)] := by
    intro b hb hc
    exfalso
    obtain ⟨k, hk, rfl⟩ := chain_get hb
    obtain ⟨e1, e2, e3, e4⟩ := key_facts (i := 1 + k) (by omega) (by omega)
    have f1 := nw_facts (1 + n) (by omega) (by omega)
    have f2 := nw_facts (1 + k) (by omega) (by omega)
    have hcan := can_iff.1 hc
    change Can [nw (1 + n)] (mkKey (nw (1 + k))) at hcan
    cases hcan with
    | has h =>
      simp at h
      rw [h, f1.2.1] at e3
      omega
    | one _ _ _ h =>
      rw [e4] at h
      cases h with
      | has h =>
        simp at h
        have := nw_inj (1 + k) (by omega) (1 + n) (by omega) (by omega) (by omega) h
        omega
      | one _ q _ _ => exact q f2.2.1
      | two _ q _ _ => rw [f2.2.1] at q; omega
    | two _ q _ _ => rw [e3] at q; omega
  exact openOf_eq ⟨⟨0, rfl⟩, shut_fix hsh⟩

theorem chain_open {n : Nat} (hn : n ≤ 12) (rev : Bool) {i : Nat} (h : i ≤ 14) (h1 : 1 ≤ i) : knwOpen [nw i] (chain n rev) = openOf [nw i] (chain n rev) := by
  unfold knwOpen
  rw [one_ok h h1, chain_ok hn rev]; rfl
theorem srow_one' (w : World) (y : ByteArray) : SRow (w.alloc (.cells #[.string y] 9)) (.slice (some ⟨w.heap.size, 0, none⟩) 1 1) [y] :=
  .inr ⟨_, 1, rfl, by simp, by unfold maxLen; omega, fun i hi => by
    have : i = 0 := by simp at hi; omega
    subst this
    rw [Addr.add_lit, Nat.zero_add, cell_of_row _ _ _ _ _ _ (heap_alloc_new _ _)]; rfl⟩

set_option maxRecDepth 100000 in
set_option maxHeartbeats 2000000 in
theorem walk_FnKnwChain (a0 : Option Addr) (len cap : Nat) (zs : List Int) (w : World) (h : IsRow .u8 w a0 len cap zs) :
    Calls Try.prog 8 #[.slice a0 len cap] w fun e w' => e = .returned (.bool true) ∧ Below w.heap.size w w' := by
  have hlm : len ≤ 9223372036854775807 := by
    rcases h with ⟨_, rfl, _⟩ | ⟨x, _, h1, h2, _⟩
    · omega
    · unfold maxLen at h2; omega
  clear h
  by_cases hb : (1048576 : Int) < (len : Int)
  · go_enter Try.func8, Try.ntmps8
    go_wp2_with fail
    go_ret
    exact ⟨rfl, Below.refl _ _⟩
  have hb2 : decide ((1048576 : Int) < (len : Int)) = false := by simpa using hb
  have hlen : len ≤ 1048576 := by omega
  clear hb
  obtain ⟨j0, hi, hz0, hz1, hz2⟩ := info_parts info_bx
  have hJ := hide (And.intro hi (And.intro hz0 (And.intro hz1 hz2)))
  clear hi hz0 hz1 hz2
  have e12 : (len : Int).tmod 12 = ((len % 12 : Nat) : Int) := by rw [Int.tmod_eq_emod_of_nonneg (by omega)]; omega
  have e2 : (len : Int).tmod 2 = ((len % 2 : Nat) : Int) := by rw [Int.tmod_eq_emod_of_nonneg (by omega)]; omega
  have hm12 : len % 12 < 12 := Nat.mod_lt _ (by omega)
  obtain ⟨rev, hrev⟩ : ∃ rev : Bool, rev = decide (len % 2 = 0) := ⟨_, rfl⟩
  generalize hmm : len % 12 = m at *
  generalize hpp : len % 2 = p at *
  clear hmm hpp
  obtain ⟨n, hn⟩ : ∃ n : Nat, n = 1 + m := ⟨_, rfl⟩
  have hn12 : n ≤ 12 := by omega
  have hni : (1 : Int) + (m : Int) = (n : Int) := by omega
  clear hm12 hn
  go_enter Try.func8, Try.ntmps8
  go_wp2_with fail
  have hO0 : Hid (OwnB w.heap.size (w.alloc (.cells #[] 42)) (.slice (some ⟨w.heap.size, 0, none⟩) 0 0) ((chain n rev).take 0)) := by
    rw [List.take_zero]; exact World.ownsRow_made w #[] 0 (Nat.le_refl _) (by omega) rfl
  have hL0 : Hid (Below w.heap.size w (w.alloc (.cells #[] 42))) := (Below.refl _ _).alloc (Nat.le_refl _) _
  go_loopw [4, 5] (fun o i wr => ∃ k : Nat, k ≤ n ∧ i = .int .i64 (k : Int) ∧ Hid (OwnB w.heap.size wr o ((chain n rev).take k)) ∧ Hid (Below w.heap.size w wr)) (fun _ i _ => n - (intOf i).toNat)
  case atStart => exact ⟨0, by omega, rfl, hO0, hL0⟩
  case round =>
    clear hO0 hL0
    obtain ⟨k, hk, rfl, hO, hL⟩ := hrel
    have hle := hL.out.size
    have hcl := chain_len n rev
    by_cases hlt : k < n
    · have hlt2 : (k : Int) < (n : Int) := by omega
      have i3 : IntKind.i64.wrap ((k : Int) + 1) = (k : Int) + 1 := by simp [IntKind.wrap, IntKind.bits, IntKind.signed]; omega
      obtain ⟨vo, vc, hv⟩ := row_form' (unhide hO)
      have hstep0 : (chain n rev).take (k + 1) = (chain n rev).take k ++ [bxc (if rev then n - 1 - k else k)] := by
        rw [List.take_succ_eq_append_getElem (by omega)]
        congr 1
        unfold chain
        simp
      clear hv
      by_cases hp : p = 0
      · have hr : rev = true := by rw [hrev]; simpa using hp
        have hstep : Hid ((chain n rev).take (k + 1) = (chain n rev).take k ++ [bxc (n - 1 - k)]) := by show _ = _; rw [hstep0, hr]; rfl
        obtain ⟨t, ht⟩ : ∃ t : Nat, t = n - 1 - k := ⟨_, rfl⟩
        rw [← ht] at hstep
        have ht2 : (n : Int) - 1 - (k : Int) = (t : Int) := by omega
        have ht12 : t ≤ 11 := by omega
        clear hstep0 hr ht
        go_wp2_with fail
        refine (iMakNew_any 0 (1 + (t : Int)) _).mono ?_
        rw [show mkNew 0 (1 + (t : Int)) = nw (1 + t) by unfold nw; rw [show ((1 + t : Nat) : Int) = 1 + (t : Int) by omega]]
        rintro e w2 ⟨rfl, hb2⟩
        have hL2 := hide ((unhide hL).trans (hb2.mono hle))
        have hO2 : Hid (OwnB w.heap.size w2 _ ((chain n rev).take k)) := own_below' (unhide hO) hb2
        have hle2 := hL2.out.size
        clear hb2 hL hO
        have M1 : Hid ((nw (1 + t)).size ≤ maxLen) := okm (nw_facts (1 + t) (by omega) (by omega)).1
        go_wp2_with fail
        refine (iMakKey_any (nw (1 + t)) _ M1.out).mono ?_
        rintro e w3 ⟨rfl, hb3⟩
        have hL3 := hide ((unhide hL2).trans (hb3.mono hle2))
        have hO3 : Hid (OwnB w.heap.size w3 _ ((chain n rev).take k)) := own_below' (unhide hO2) hb3
        have hle3 := hL3.out.size
        clear hb3 hL2 hO2
        go_wp2_with fail
        refine (iMakNew_any 0 (2 + (t : Int)) _).mono ?_
        rw [show mkNew 0 (2 + (t : Int)) = nw (2 + t) by unfold nw; rw [show ((2 + t : Nat) : Int) = 2 + (t : Int) by omega]]
        rintro e w4 ⟨rfl, hb4⟩
        have hL4 := hide ((unhide hL3).trans (hb4.mono hle3))
        have hO4 : Hid (OwnB w.heap.size w4 _ ((chain n rev).take k)) := own_below' (unhide hO3) hb4
        have hle4 := hL4.out.size
        clear hb4 hL3 hO3
        have hlen4 : ((chain n rev).take k).length ≤ 12 := by rw [List.length_take]; omega
        generalize hck : (chain n rev).take k = ck at hO4 hstep hlen4
        clear hck
        go_wp2_with (at_builtin; refine wpList_append_own _ rfl _ _ 36 rfl w.heap.size 42 j0 (.agg #[.string ⟨#[]⟩, .string ⟨#[]⟩]) 2 32 underBx (unhide hJ).1 (unhide hJ).2.1 (unhide hJ).2.2.1 (unhide hJ).2.2.2 rfl (by decide) _ _ _ rfl (World.ownsRow.alloc (unhide hO4) _) ⟨w4.heap.size, 0, none⟩ 1 1 [.string (mkKey (nw (1 + t))), .string (nw (2 + t))] rfl rfl ?c1 ?c2 ?c3 ?c4 ?c5 ?_)
        case c1 =>
          intro j u hj
          match j, hj with
          | 0, hj => simp at hj; subst hj; simp [Addr.add]
          | 1, hj => simp at hj; subst hj; simp [Addr.add]
        case c2 => intro u hu; simp at hu; rcases hu with rfl | rfl <;> rfl
        case c3 => unfold maxLen; omega
        case c4 => omega
        case c5 => simp; omega
        intro v' w5 hown' hgrow _
        have R : Hid (OwnB w.heap.size w5 v' ((chain n rev).take (k + 1)) ∧ Below w.heap.size w w5) := by
          refine ⟨?_, ((unhide hL4).alloc hle4 _).grown hgrow (by simp; omega) (fun k hk => (World.ownsRow.lt (unhide hO4) k hk).1)⟩
          rw [hstep.out]
          unfold OwnB
          rw [List.length_append, bcells_snoc]
          exact hown'
        clear hown' hgrow hO4 hL4
        go_wp2_with fail
        go_roundw
        case rel => exact ⟨k + 1, by omega, by simp, R.out.1, R.out.2⟩
        case measure => simp [intOf]; omega
      · have hr : rev = false := by rw [hrev]; simpa using hp
        have hstep : Hid ((chain n rev).take (k + 1) = (chain n rev).take k ++ [bxc k]) := by show _ = _; rw [hstep0, hr]; rfl
        have hp2 : ((p : Int) == 0) = false := by simp; omega
        clear hstep0 hr
        go_wp2_with fail
        refine (iMakNew_any 0 (1 + (k : Int)) _).mono ?_
        rw [show mkNew 0 (1 + (k : Int)) = nw (1 + k) by unfold nw; rw [show ((1 + k : Nat) : Int) = 1 + (k : Int) by omega]]
        rintro e w2 ⟨rfl, hb2⟩
        have hL2 := hide ((unhide hL).trans (hb2.mono hle))
        have hO2 : Hid (OwnB w.heap.size w2 _ ((chain n rev).take k)) := own_below' (unhide hO) hb2
        have hle2 := hL2.out.size
        clear hb2 hL hO
        have M1 : Hid ((nw (1 + k)).size ≤ maxLen) := okm (nw_facts (1 + k) (by omega) (by omega)).1
        go_wp2_with fail
        refine (iMakKey_any (nw (1 + k)) _ M1.out).mono ?_
        rintro e w3 ⟨rfl, hb3⟩
        have hL3 := hide ((unhide hL2).trans (hb3.mono hle2))
        have hO3 : Hid (OwnB w.heap.size w3 _ ((chain n rev).take k)) := own_below' (unhide hO2) hb3
        have hle3 := hL3.out.size
        clear hb3 hL2 hO2
        go_wp2_with fail
        refine (iMakNew_any 0 (2 + (k : Int)) _).mono ?_
        rw [show mkNew 0 (2 + (k : Int)) = nw (2 + k) by unfold nw; rw [show ((2 + k : Nat) : Int) = 2 + (k : Int) by omega]]
        rintro e w4 ⟨rfl, hb4⟩
        have hL4 := hide ((unhide hL3).trans (hb4.mono hle3))
        have hO4 : Hid (OwnB w.heap.size w4 _ ((chain n rev).take k)) := own_below' (unhide hO3) hb4
        have hle4 := hL4.out.size
        clear hb4 hL3 hO3
        have hlen4 : ((chain n rev).take k).length ≤ 12 := by rw [List.length_take]; omega
        generalize hck : (chain n rev).take k = ck at hO4 hstep hlen4
        clear hck
        go_wp2_with (at_builtin; refine wpList_append_own _ rfl _ _ 36 rfl w.heap.size 42 j0 (.agg #[.string ⟨#[]⟩, .string ⟨#[]⟩]) 2 32 underBx (unhide hJ).1 (unhide hJ).2.1 (unhide hJ).2.2.1 (unhide hJ).2.2.2 rfl (by decide) _ _ _ rfl (World.ownsRow.alloc (unhide hO4) _) ⟨w4.heap.size, 0, none⟩ 1 1 [.string (mkKey (nw (1 + k))), .string (nw (2 + k))] rfl rfl ?c1 ?c2 ?c3 ?c4 ?c5 ?_)
        case c1 =>
          intro j u hj
          match j, hj with
          | 0, hj => simp at hj; subst hj; simp [Addr.add]
          | 1, hj => simp at hj; subst hj; simp [Addr.add]
        case c2 => intro u hu; simp at hu; rcases hu with rfl | rfl <;> rfl
        case c3 => unfold maxLen; omega
        case c4 => omega
        case c5 => simp; omega
        intro v' w5 hown' hgrow _
        have R : Hid (OwnB w.heap.size w5 v' ((chain n rev).take (k + 1)) ∧ Below w.heap.size w w5) := by
          refine ⟨?_, ((unhide hL4).alloc hle4 _).grown hgrow (by simp; omega) (fun k hk => (World.ownsRow.lt (unhide hO4) k hk).1)⟩
          rw [hstep.out]
          unfold OwnB
          rw [List.length_append, bcells_snoc]
          exact hown'
        clear hown' hgrow hO4 hL4
        go_wp2_with fail
        go_roundw
        case rel => exact ⟨k + 1, by omega, by simp, R.out.1, R.out.2⟩
        case measure => simp [intOf]; omega
    · have hlt2 : decide ((k : Int) < (n : Int)) = false := by simp; omega
      have hkn : k = n := by omega
      subst hkn
      rw [show (chain k rev).take k = chain k rev from List.take_of_length_le (by rw [hcl]; exact Nat.le_refl _)] at hO
      obtain ⟨vo, vc, hv⟩ := row_form' (unhide hO)
      rw [hcl] at hv
      subst hv
      have HU := hide (OwnB.brow (unhide hO))
      have HY : Hid (∀ b ∈ chain k rev, b.1.size ≤ maxLen ∧ b.2.size ≤ maxLen) := fun b hb => by
        have := (okBoxes_iff.1 (chain_ok hn12 rev)).2 b hb
        exact ⟨okm this.1, okm this.2⟩
      have A1 := hide (chain_open hn12 rev (i := 1) (by omega) (by omega))
      have A2 := hide (chain_open hn12 rev (i := 1 + k) (by omega) (by omega))
      have A3 := hide (chain_all hn12 rev)
      have A4 := hide (chain_last hn12 rev)
      have H1 : Hid (∀ x ∈ [nw 1], x.size ≤ maxLen) := fun x hx => by simp at hx; subst hx; exact okm (nw_facts 1 (by omega) (by omega)).1
      have H2 : Hid (∀ x ∈ [nw (1 + k)], x.size ≤ maxLen) := fun x hx => by simp at hx; subst hx; exact okm (nw_facts (1 + k) (by omega) (by omega)).1
      clear hO
      generalize chain k rev = ch at *
      go_wp2_with fail
      refine (iMakNew_any 0 1 _).mono ?_
      rw [show mkNew 0 1 = nw 1 from rfl]
      rintro e w2 ⟨rfl, hb2⟩
      have hL2 := hide ((unhide hL).trans (hb2.mono hle))
      have HU2 := hide (BRow.below (unhide HU) hb2)
      have hle2 := hL2.out.size
      clear hb2 hL HU
      go_wp2_with fail
      have hba2 : Hid (Below w2.heap.size w2 (w2.alloc (.cells #[.string (nw 1)] 9))) := (Below.refl _ _).alloc (Nat.le_refl _) _
      refine (iKnwOpen_any _ _ [nw 1] ch _ (srow_one' w2 (nw 1)) (BRow.below (unhide HU2) (unhide hba2)) (unhide H1) (unhide HY)).mono ?_
      rw [A1.out]
      rintro e w3 ⟨r3, rfl, ho3, hb3⟩
      obtain ⟨ro3, rc3, hr3⟩ := row_form' ho3
      rw [A3.out.2] at hr3
      subst hr3
      have HT3 := hide (Own.srow ho3)
      have hL3 := hide ((unhide hL2).trans (((unhide hba2).trans (hb3.mono (by simp))).mono hle2))
      have HU3 := hide (BRow.below (BRow.below (unhide HU2) (unhide hba2)) hb3)
      have hle3 := hL3.out.size
      clear ho3 hb3 HU2 hL2 hba2
      go_wp2_with fail
      refine (iMakNew_any 0 (1 + (k : Int)) _).mono ?_
      rw [show mkNew 0 (1 + (k : Int)) = nw (1 + k) by unfold nw; rw [show ((1 + k : Nat) : Int) = 1 + (k : Int) by omega]]
      rintro e w4 ⟨rfl, hb4⟩
      have HT4 := hide (SRow.below (unhide HT3) hb4)
      have hL4 := hide ((unhide hL3).trans (hb4.mono hle3))
      have HU4 := hide (BRow.below (unhide HU3) hb4)
      have hle4 := hL4.out.size
      clear hb4 HU3 hL3 HT3
      go_wp2_with fail
      have hba4 : Hid (Below w4.heap.size w4 (w4.alloc (.cells #[.string (nw (1 + k))] 9))) := (Below.refl _ _).alloc (Nat.le_refl _) _
      refine (iKnwOpen_any _ _ [nw (1 + k)] ch _ (srow_one' w4 (nw (1 + k))) (BRow.below (unhide HU4) (unhide hba4)) (unhide H2) (unhide HY)).mono ?_
      rw [A2.out, A4.out]
      rintro e w5 ⟨r5, rfl, ho5, hb5⟩
      obtain ⟨ro5, rc5, hr5⟩ := row_form' ho5
      rw [show [nw (1 + k)].length = 1 from rfl] at hr5
      subst hr5
      have HV5 := hide (Own.srow ho5)
      have HT5 := hide (SRow.below (SRow.below (unhide HT4) (unhide hba4)) hb5)
      have hL5 := hide ((unhide hL4).trans (((unhide hba4).trans (hb5.mono (by simp))).mono hle4))
      have HU5 := hide (BRow.below (BRow.below (unhide HU4) (unhide hba4)) hb5)
      have hle5 := hL5.out.size
      clear ho5 hb5 HU4 hL4 hba4 HT4
      go_wp2_with fail
      refine (iMakNew_any 0 1 _).mono ?_
      rw [show mkNew 0 1 = nw 1 from rfl]
      rintro e w6 ⟨rfl, hb6⟩
      have HV6 := hide (SRow.below (unhide HV5) hb6)
      have HT6 := hide (SRow.below (unhide HT5) hb6)
      have hL6 := hide ((unhide hL5).trans (hb6.mono hle5))
      have HU6 := hide (BRow.below (unhide HU5) hb6)
      have hle6 := hL6.out.size
      clear hb6 HU5 hL5 HT5 HV5
      go_wp2_with fail
      have hba6 : Hid (Below w6.heap.size w6 (w6.alloc (.cells #[.string (nw 1)] 9))) := (Below.refl _ _).alloc (Nat.le_refl _) _
      refine (sKnwOpen_any _ _ [nw 1] ch _ (srow_one' w6 (nw 1)) (BRow.below (unhide HU6) (unhide hba6)) (unhide H1) (unhide HY)).mono ?_
      rw [A1.out]
      rintro e w7 ⟨r7, rfl, ho7, hb7⟩
      have HW7 := hide (Own.srow ho7)
      have HV7 := hide (SRow.below (SRow.below (unhide HV6) (unhide hba6)) hb7)
      have HT7 := hide (SRow.below (SRow.below (unhide HT6) (unhide hba6)) hb7)
      have hL7 := hide ((unhide hL6).trans (((unhide hba6).trans (hb7.mono (by simp))).mono hle6))
      have hle7 := hL7.out.size
      clear ho7 hb7 HU6 hL6 hba6 HT6 HV6
      go_wp2_with fail
      refine (keTexts_any _ _ (openOf [nw 1] ch) (openOf [nw 1] ch) _ (unhide HT7) (unhide HW7)).mono ?_
      rw [show decide (openOf [nw 1] ch = openOf [nw 1] ch) = true by simp]
      rintro e w8 ⟨rfl, hb8⟩
      have HV8 := hide (SRow.below (unhide HV7) hb8)
      have HT8 := hide (SRow.below (unhide HT7) hb8)
      have hL8 := hide ((unhide hL7).trans (hb8.mono hle7))
      have hle8 := hL8.out.size
      have HI : Hid (∀ j, j ≤ k → has (openOf [nw 1] ch) (nw (1 + j)) = true) := fun j hj => has_iff.2 (A3.out.1 j hj)
      clear hb8 hL7 HT7 HV7 HW7 A1 A2 A3 A4
      generalize openOf [nw 1] ch = al at *
      go_wp2_with fail
      go_loopw [9] (fun i wr => ∃ j : Nat, j ≤ k + 1 ∧ i = .int .i64 (j : Int) ∧ Hid (Below w8.heap.size w8 wr)) (fun i _ => k + 1 - (intOf i).toNat)
      case atStart => exact ⟨0, by omega, rfl, Below.refl _ _⟩
      case round =>
        obtain ⟨j, hj, rfl, hLj⟩ := hrel
        have hleLj := hLj.out.size
        by_cases hltj : j ≤ k
        · have hltj2 : (j : Int) ≤ (k : Int) := by omega
          have i4 : IntKind.i64.wrap ((j : Int) + 1) = (j : Int) + 1 := by simp [IntKind.wrap, IntKind.bits, IntKind.signed]; omega
          have hin := hide (HI.out j hltj)
          go_wp2_with fail
          refine (iMakNew_any 0 (1 + (j : Int)) _).mono ?_
          rw [show mkNew 0 (1 + (j : Int)) = nw (1 + j) by unfold nw; rw [show ((1 + j : Nat) : Int) = 1 + (j : Int) by omega]]
          rintro e w9 ⟨rfl, hb9⟩
          have hL9 := hide ((unhide hLj).trans (hb9.mono hleLj))
          have hleL9 := hL9.out.size
          clear hb9 hLj
          generalize nw (1 + j) = y at hin ⊢
          go_wp2_with fail
          refine (keHas_any _ al y _ (SRow.below (unhide HT8) (unhide hL9))).mono ?_
          rw [hin.out]
          rintro e w10 ⟨rfl, hb10⟩
          have hL10 := hide ((unhide hL9).trans (hb10.mono hleL9))
          clear hb10 hL9
          go_wp2_with fail
          go_roundw
          case rel => exact ⟨j + 1, by omega, by simp, hL10⟩
          case measure => simp [intOf]; omega
        · have hltj2 : decide ((j : Int) ≤ (k : Int)) = false := by simp; omega
          have HB9 := hide ((unhide hL8).trans ((unhide hLj).mono hle8))
          have HV9 := hide (SRow.below (unhide HV8) (unhide hLj))
          have hle9 := HB9.out.size
          clear hLj HV8 HT8
          go_wp2_with fail
          refine (iMakNew_any 0 (1 + (k : Int)) _).mono ?_
          rw [show mkNew 0 (1 + (k : Int)) = nw (1 + k) by unfold nw; rw [show ((1 + k : Nat) : Int) = 1 + (k : Int) by omega]]
          rintro e w10 ⟨rfl, hb10⟩
          have HV10 := hide (SRow.below (unhide HV9) hb10)
          have HB10 := hide ((unhide HB9).trans (hb10.mono hle9))
          have hle10 := HB10.out.size
          clear hb10 HV9
          go_wp2_with fail
          have hba10 : Hid (Below w10.heap.size w10 (w10.alloc (.cells #[.string (nw (1 + k))] 9))) := (Below.refl _ _).alloc (Nat.le_refl _) _
          refine (keTexts_any _ _ [nw (1 + k)] [nw (1 + k)] _ (SRow.below (unhide HV10) (unhide hba10)) (srow_one' w10 (nw (1 + k)))).mono ?_
          rw [show decide ([nw (1 + k)] = [nw (1 + k)]) = true by simp]
          rintro e w11 ⟨rfl, hb11⟩
          have HB11 := hide ((unhide HB10).trans (((unhide hba10).trans (hb11.mono (by simp))).mono hle10))
          clear hb11
          go_wp2_with fail
          go_ret
          exact ⟨rfl, unhide HB11⟩

set_option maxRecDepth 100000 in
theorem lifted_FnKnwChain (os : Os) (started : os.Started) (H : Type) (enc : TypeId × Value → H) :
    ReturnsInHanded {} Try.checked os 8 .any (Rows.fnKnwChainSpec.pre6 enc Try.prog Try.f8 Rows.fnKnwChainRow.domain false) (Rows.fnKnwChainSpec.post enc Try.prog Try.f8 false true false false) := by
  refine returnsInHanded_of_change (C := Try.checked) own started (by kernel_rfl) Try.func8
    (ChangeSpec.witness6 (enc := enc) (C := Try.checked) false ⟨#[], #[.slice none 0 0], []⟩ 8 (by kernel_rfl) (by kernel_rfl) (by kernel_rfl) (by kernel_rfl)) ?_
  intro W base args ds gs before hval0 hW hcnd _
  have hval : ∀ (j : Nat) t v, Try.f8.params[j]? = some t → args[j]? = some v → Value.okWide Try.prog W .any base t v := hval0
  have hW' := hW
  obtain ⟨p, q, hA0, hV, rfl, hfz, hnd⟩ := hW
  have hA : DataW.TrodAll enc Try.prog W 0 (fun _ => true) true Try.f8.params.toList args.toList ds p := hA0
  rw [Try.params8] at hA hval
  obtain ⟨v0, vs0, d0, ds0, p0, q0, hargs, rfl, rfl, h0, r0⟩ := trodAll_cons hA
  obtain ⟨rfl, rfl, rfl⟩ := trodAll_nil r0
  obtain rfl : args = #[v0] := by cases args; simp_all
  obtain ⟨rfl, rfl⟩ := trodVars_none hV
  obtain ⟨a0, len0, cap0, rfl⟩ := okWide_slice Try.underlying22 (hval 0 22 v0 rfl rfl)
  have k0 := h0
  have lt0 : ∀ x ∈ p0, x.block < W.heap.size := by obtain ⟨m, hm⟩ := k0; exact DataW.trod_lt m _ _ _ hm
  obtain ⟨z0, w0⟩ : ∃ zs, IsRow .u8 W a0 len0 cap0 zs := by
    obtain ⟨fuel, hf⟩ := h0
    rcases open_ints Try.underlying22 Try.underlying5 (by kernel_rfl) hf with ⟨hcs, _⟩ | ⟨x, l, c, zs, hcs, _, hl, hm, hz, _, hcell, hwz⟩
    · simp [Value.cells] at hcs
      obtain ⟨rfl, rfl, rfl⟩ := hcs
      exact ⟨[], .inl ⟨rfl, rfl, rfl, rfl⟩⟩
    · simp [Value.cells] at hcs
      obtain ⟨rfl, rfl, rfl⟩ := hcs
      exact ⟨zs, .inr ⟨_, rfl, hl, hm, by simpa using hz, hcell, hwz⟩⟩
  clear hA0 hval0
  refine (walk_FnKnwChain a0 len0 cap0 z0 W w0).mono fun e W' ⟨he, bel⟩ => ?_
  subst he
  exact ⟨_, rfl, _, _, _, [], _, [], hW', trodAll_mk1 (shut_bool Try.underlying4 _), (trodAll_cons_mk (Below.trod laidOut (by kernel_rfl) (of_decide_eq_true (by kernel_rfl)) k0 bel lt0) trodAll_mk0), rfl, bel.frame _, fun h => by cases h⟩

theorem fnKnwChain_holds : Rows.FnKnwChainSaid :=
  OpenClaim.holds_of_wide 8 Try.f8 rfl rfl rfl rfl rfl rfl rfl ⟨rfl, rfl, rfl, rfl, rfl⟩ rfl rfl rfl rfl rfl (by kernel_rfl) Try.func8 (by kernel_rfl)
    (of_decide_eq_true (by kernel_rfl)) (by unfold Func.isWrapper; first | (rw [if_pos (by decide +kernel)]; kernel_rfl) | (rw [if_neg (by decide +kernel)]; exact ⟨rfl, rfl⟩))
    (fun os started H enc _ => lifted_FnKnwChain os started H enc)

#print axioms fnKnwChain_holds
end Go.Proofs.Ytjdpabiodalfkaa
