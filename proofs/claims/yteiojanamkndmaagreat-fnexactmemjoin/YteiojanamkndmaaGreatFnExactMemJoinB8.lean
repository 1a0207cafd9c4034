/-
  Contracts of MakNext, MakKey and MakEpoch, the program's and the specification's.
-/
import Derived.Test.YteiojanamkndmaaGreatFnExactMemJoinB2
import Derived.Test.YteiojanamkndmaaGreatFnExactMemJoinB3
import Derived.Test.YteiojanamkndmaaGreatFnExactMemJoinB6
import Derived.Test.YteiojanamkndmaaGreatFnExactMemJoinB7
import Derived.Test.YteiojanamkndmaaGreatFnExactMemJoinB5
import Derived.Shelf.RegionOpen
namespace Go.Proofs.YteiojanamkndmaaGreat
open Go.RowKit

theorem cap_yes {x : ByteArray} (h : x.size ≤ 300) : cap x = x := by unfold cap; rw [if_pos h]
theorem cap_no {x : ByteArray} (h : 300 < x.size) : cap x = ⟨#[]⟩ := by unfold cap; rw [if_neg (by omega)]

theorem method_next (x : Value) (w : World) : (method 288 133 x "loop.example/keyward/impl.name").run Tryz.prog w = .ok (137, x) w := by kernel_rfl
theorem method_key (x : Value) (w : World) : (method 288 117 x "loop.example/keyward/impl.name").run Tryz.prog w = .ok (136, x) w := by kernel_rfl
theorem method_epoch (x : Value) (w : World) : (method 288 143 x "loop.example/keyward/impl.name").run Tryz.prog w = .ok (154, x) w := by kernel_rfl

set_option maxHeartbeats 400000 in
theorem nextName_any (s : ByteArray) (w : World) (hs : s.size ≤ 300) :
    Calls Tryz.prog 137 #[.agg #[.string s]] w fun e w' => e = .returned (.string (nextT s)) ∧ Below w.heap.size w w' := by
  go_enter Tryz.func137, Tryz.ntmps137
  go_wp2
  go_ret
  exact ⟨ret_str rfl, (Below.refl _ _).alloc (Nat.le_refl _) _⟩

set_option maxHeartbeats 400000 in
theorem keyName_any (s : ByteArray) (w : World) (hs : s.size ≤ 300) :
    Calls Tryz.prog 136 #[.agg #[.string s]] w fun e w' => e = .returned (.string (keyT s)) ∧ Below w.heap.size w w' := by
  go_enter Tryz.func136, Tryz.ntmps136
  go_wp2
  go_ret
  exact ⟨ret_str rfl, (Below.refl _ _).alloc (Nat.le_refl _) _⟩

set_option maxHeartbeats 400000 in
theorem epochName_any (a b : ByteArray) (w : World) (ha : a.size ≤ 300) (hb : b.size ≤ 300) :
    Calls Tryz.prog 154 #[.agg #[.string a, .string b]] w fun e w' => e = .returned (.string (epochT a b)) ∧ Below w.heap.size w w' := by
  go_enter Tryz.func154, Tryz.ntmps154
  go_wp2
  go_ret
  exact ⟨ret_str rfl, (Below.refl _ _).alloc (Nat.le_refl _) _⟩

set_option maxRecDepth 100000 in
set_option maxHeartbeats 400000 in
theorem nameOf_next (s : ByteArray) (w : World) (hs : s.size ≤ 300) :
    Calls Tryz.prog 83 #[.iface 133 (.agg #[.string s])] w fun e w' => e = .returned (.string (cap (nextT s))) ∧ Below w.heap.size w w' := by
  have hm := method_next
  have hz := next_size s
  by_cases hc : (nextT s).size ≤ 300
  · rw [cap_yes hc]
    have hd : decide ((300 : Int) < ((nextT s).size : Int)) = false := by simp; omega
    clear hz hc
    go_enter Tryz.func83, Tryz.ntmps83
    go_wp2_with (go_at_call 137; refine (nextName_any _ _ hs).mono ?_; rintro e w' ⟨rfl, hb⟩)
    go_ret
    exact ⟨rfl, hb⟩
  · rw [cap_no (by omega)]
    have hd : (300 : Int) < ((nextT s).size : Int) := by omega
    clear hz hc
    go_enter Tryz.func83, Tryz.ntmps83
    go_wp2_with (go_at_call 137; refine (nextName_any _ _ hs).mono ?_; rintro e w' ⟨rfl, hb⟩)
    go_ret
    exact ⟨rfl, hb⟩

set_option maxHeartbeats 400000 in
theorem iMakNext_any (s : ByteArray) (w : World) (hm : s.size ≤ maxLen) :
    Calls Tryz.prog 85 #[.string s] w fun e w' => e = .returned (.string (mkNext s)) ∧ Below w.heap.size w w' := by
  have M := hide hm
  clear hm
  cases hk : Kw.ok s with
  | false =>
    rw [show mkNext s = ⟨#[]⟩ by unfold mkNext; rw [if_neg (by rw [hk]; simp)]]
    have K := hide hk
    clear hk
    go_enter Tryz.func85, Tryz.ntmps85
    go_wp2_with fail
    refine (iSecOk_any s _ M.out).mono ?_
    rw [K.out]
    rintro e w1 ⟨rfl, hb1⟩
    go_wp2_with fail
    go_ret
    exact ⟨rfl, hb1⟩
  | true =>
    rw [show mkNext s = cap (nextT s) by unfold mkNext; rw [if_pos hk]]
    have hs := (ok_facts hk).1
    have K := hide hk
    clear hk
    go_enter Tryz.func85, Tryz.ntmps85
    go_wp2_with fail
    refine (iSecOk_any s _ M.out).mono ?_
    rw [K.out]
    rintro e w1 ⟨rfl, hb1⟩
    go_wp2_with fail
    refine (nameOf_next s _ hs).mono ?_
    rintro e w2 ⟨rfl, hb2⟩
    go_wp2_with fail
    go_ret
    exact ⟨rfl, hb1.trans (hb2.mono hb1.size)⟩

set_option maxHeartbeats 400000 in
theorem sMakNext_any (s : ByteArray) (w : World) (hm : s.size ≤ maxLen) :
    Calls Tryz.prog 48 #[.string s] w fun e w' => e = .returned (.string (mkNext s)) ∧ Below w.heap.size w w' := by
  have M := hide hm
  clear hm
  cases hk : Kw.ok s with
  | false =>
    rw [show mkNext s = ⟨#[]⟩ by unfold mkNext; rw [if_neg (by rw [hk]; simp)]]
    have K := hide hk
    clear hk
    go_enter Tryz.func48, Tryz.ntmps48
    go_wp2_with fail
    refine (sSecOk_any s _ M.out).mono ?_
    rw [K.out]
    rintro e w1 ⟨rfl, hb1⟩
    go_wp2_with fail
    go_ret
    exact ⟨rfl, hb1⟩
  | true =>
    have hz := next_size s
    have hs := (ok_facts hk).1
    rw [show mkNext s = only (nextT s) by unfold mkNext; rw [if_pos hk, only_cap (by omega) (len_next hk)]]
    have M2 : Hid ((nextT s).size ≤ maxLen) := by show _ ≤ maxLen; unfold maxLen; omega
    have K := hide hk
    clear hk hz
    go_enter Tryz.func48, Tryz.ntmps48
    go_wp2_with fail
    refine (sSecOk_any s _ M.out).mono ?_
    rw [K.out]
    rintro e w1 ⟨rfl, hb1⟩
    go_wp2_with fail
    refine (l1Ok_any (nextT s) _ M2.out).mono ?_
    rintro e w2 ⟨rfl, hb2⟩
    go_wp2_with fail
    go_ret
    exact ⟨rfl, hb1.trans (hb2.mono hb1.size)⟩
set_option maxRecDepth 100000 in
set_option maxHeartbeats 400000 in
theorem nameOf_key (s : ByteArray) (w : World) (hs : s.size ≤ 300) :
    Calls Tryz.prog 83 #[.iface 117 (.agg #[.string s])] w fun e w' => e = .returned (.string (cap (keyT s))) ∧ Below w.heap.size w w' := by
  have hm := method_key
  have hz := key_size s
  by_cases hc : (keyT s).size ≤ 300
  · rw [cap_yes hc]
    have hd : decide ((300 : Int) < ((keyT s).size : Int)) = false := by simp; omega
    clear hz hc
    go_enter Tryz.func83, Tryz.ntmps83
    go_wp2_with (go_at_call 136; refine (keyName_any _ _ hs).mono ?_; rintro e w' ⟨rfl, hb⟩)
    go_ret
    exact ⟨rfl, hb⟩
  · rw [cap_no (by omega)]
    have hd : (300 : Int) < ((keyT s).size : Int) := by omega
    clear hz hc
    go_enter Tryz.func83, Tryz.ntmps83
    go_wp2_with (go_at_call 136; refine (keyName_any _ _ hs).mono ?_; rintro e w' ⟨rfl, hb⟩)
    go_ret
    exact ⟨rfl, hb⟩

set_option maxHeartbeats 400000 in
theorem iMakKey_any (s : ByteArray) (w : World) (hm : s.size ≤ maxLen) :
    Calls Tryz.prog 56 #[.string s] w fun e w' => e = .returned (.string (mkKey s)) ∧ Below w.heap.size w w' := by
  have M := hide hm
  clear hm
  cases hk : Kw.ok s with
  | false =>
    rw [show mkKey s = ⟨#[]⟩ by unfold mkKey; rw [if_neg (by rw [hk]; simp)]]
    have K := hide hk
    clear hk
    go_enter Tryz.func56, Tryz.ntmps56
    go_wp2_with fail
    refine (iSecOk_any s _ M.out).mono ?_
    rw [K.out]
    rintro e w1 ⟨rfl, hb1⟩
    go_wp2_with fail
    go_ret
    exact ⟨rfl, hb1⟩
  | true =>
    rw [show mkKey s = cap (keyT s) by unfold mkKey; rw [if_pos hk]]
    have hs := (ok_facts hk).1
    have K := hide hk
    clear hk
    go_enter Tryz.func56, Tryz.ntmps56
    go_wp2_with fail
    refine (iSecOk_any s _ M.out).mono ?_
    rw [K.out]
    rintro e w1 ⟨rfl, hb1⟩
    go_wp2_with fail
    refine (nameOf_key s _ hs).mono ?_
    rintro e w2 ⟨rfl, hb2⟩
    go_wp2_with fail
    go_ret
    exact ⟨rfl, hb1.trans (hb2.mono hb1.size)⟩

set_option maxHeartbeats 400000 in
theorem sMakKey_any (s : ByteArray) (w : World) (hm : s.size ≤ maxLen) :
    Calls Tryz.prog 18 #[.string s] w fun e w' => e = .returned (.string (mkKey s)) ∧ Below w.heap.size w w' := by
  have M := hide hm
  clear hm
  cases hk : Kw.ok s with
  | false =>
    rw [show mkKey s = ⟨#[]⟩ by unfold mkKey; rw [if_neg (by rw [hk]; simp)]]
    have K := hide hk
    clear hk
    go_enter Tryz.func18, Tryz.ntmps18
    go_wp2_with fail
    refine (sSecOk_any s _ M.out).mono ?_
    rw [K.out]
    rintro e w1 ⟨rfl, hb1⟩
    go_wp2_with fail
    go_ret
    exact ⟨rfl, hb1⟩
  | true =>
    have hz := key_size s
    have hs := (ok_facts hk).1
    rw [show mkKey s = only (keyT s) by unfold mkKey; rw [if_pos hk, only_cap (by omega) (len_key hk)]]
    have M2 : Hid ((keyT s).size ≤ maxLen) := by show _ ≤ maxLen; unfold maxLen; omega
    have K := hide hk
    clear hk hz
    go_enter Tryz.func18, Tryz.ntmps18
    go_wp2_with fail
    refine (sSecOk_any s _ M.out).mono ?_
    rw [K.out]
    rintro e w1 ⟨rfl, hb1⟩
    go_wp2_with fail
    refine (l1Ok_any (keyT s) _ M2.out).mono ?_
    rintro e w2 ⟨rfl, hb2⟩
    go_wp2_with fail
    go_ret
    exact ⟨rfl, hb1.trans (hb2.mono hb1.size)⟩
set_option maxRecDepth 100000 in
set_option maxHeartbeats 400000 in
theorem nameOf_epoch (a b : ByteArray) (w : World) (ha : a.size ≤ 300) (hb : b.size ≤ 300) :
    Calls Tryz.prog 83 #[.iface 143 (.agg #[.string a, .string b])] w fun e w' => e = .returned (.string (cap (epochT a b))) ∧ Below w.heap.size w w' := by
  have hm := method_epoch
  have hz := epoch_size a b
  by_cases hc : (epochT a b).size ≤ 300
  · rw [cap_yes hc]
    have hd : decide ((300 : Int) < ((epochT a b).size : Int)) = false := by simp; omega
    clear hz hc
    go_enter Tryz.func83, Tryz.ntmps83
    go_wp2_with (go_at_call 154; refine (epochName_any _ _ _ ha hb).mono ?_; rintro e w' ⟨rfl, hb⟩)
    go_ret
    exact ⟨rfl, hb⟩
  · rw [cap_no (by omega)]
    have hd : (300 : Int) < ((epochT a b).size : Int) := by omega
    have hd2 : ((epochT a b).size : Int) ≤ 1000 := by omega
    clear hz hc
    go_enter Tryz.func83, Tryz.ntmps83
    go_wp2_with (go_at_call 154; refine (epochName_any _ _ _ ha hb).mono ?_; rintro e w' ⟨rfl, hb⟩)
    go_ret
    exact ⟨rfl, hb⟩

#print axioms sMakNext_any
#print axioms sMakKey_any
end Go.Proofs.YteiojanamkndmaaGreat
/-
  The program's secretAt and ownsItsPlaces.
-/
namespace Go.Proofs.YteiojanamkndmaaGreat
open Go.RowKit Go.Shelf
attribute [local go_sem] Oper.semAt_some

/-- The first secret of a place. -/
def secAt : List Mo → Int → ByteArray
  | [], _ => ⟨#[]⟩
  | b :: bs, p => if b.1 = p then b.2 else secAt bs p
theorem secAt_none : ∀ (bs : List Mo) (p : Int), (∀ j, j < bs.length → (bs.getD j noMo).1 ≠ p) → secAt bs p = ⟨#[]⟩
  | [], _, _ => rfl
  | b :: bs, p, h => by
    unfold secAt
    rw [if_neg (show ¬ b.1 = p from h 0 (by simp))]
    exact secAt_none bs p (fun j hj => h (j + 1) (by simpa using hj))
theorem secAt_at : ∀ (bs : List Mo) (p : Int) (k : Nat), k < bs.length → (∀ j, j < k → (bs.getD j noMo).1 ≠ p) → (bs.getD k noMo).1 = p → secAt bs p = (bs.getD k noMo).2
  | [], _, _, h, _, _ => absurd h (Nat.not_lt_zero _)
  | b :: bs, p, 0, _, _, h => by unfold secAt; rw [if_pos (show b.1 = p from h)]; rfl
  | b :: bs, p, k + 1, hk, h, hp => by
    unfold secAt
    rw [if_neg (show ¬ b.1 = p from h 0 (by omega))]
    exact secAt_at bs p k (by simpa using hk) (fun j hj => h (j + 1) (by omega)) hp
theorem secAt_mem : ∀ (bs : List Mo) (p : Int), secAt bs p = ⟨#[]⟩ ∨ ∃ b ∈ bs, b.1 = p ∧ secAt bs p = b.2
  | [], _ => .inl rfl
  | b :: bs, p => by
    unfold secAt
    by_cases h : b.1 = p
    · rw [if_pos h]; exact .inr ⟨b, by simp, h, rfl⟩
    · rw [if_neg h]
      rcases secAt_mem bs p with q | ⟨c, q1, q2⟩
      · exact .inl q
      · exact .inr ⟨c, by simp [q1], q2⟩

set_option maxRecDepth 100000 in
set_option maxHeartbeats 2000000 in
theorem secretAt_any (v : Value) (bs : List Mo) (p : Int) (w : World) (h : MRow w v bs) :
    Calls Tryz.prog 100 #[v, .int .i64 p] w fun e w' => e = .returned (.string (secAt bs p)) ∧ Below w.heap.size w w' := by
  have hR := hide h
  obtain ⟨ao, cap, rfl, h1, h2, _⟩ := h
  unfold maxLen at h2
  go_enter Tryz.func100, Tryz.ntmps100
  go_wp2_with fail
  go_loopw [6, 9] (fun b i wr => ∃ k : Nat, k ≤ bs.length ∧ i = .int .i64 (k : Int) ∧ Hid (∀ j, j < k → (bs.getD j noMo).1 ≠ p) ∧ Hid (Below w.heap.size w wr)) (fun _ i _ => bs.length - (intOf i).toNat)
  case atStart => exact ⟨0, by omega, rfl, fun j hj => by omega, Below.refl _ _⟩
  case round =>
    obtain ⟨k, hk, rfl, hN, hL⟩ := hrel
    have hle := hL.out.size
    by_cases hlt : k < bs.length
    · have hlt2 : (k : Int) < (bs.length : Int) := by omega
      obtain ⟨ao', c1, q1, _, _, q2⟩ := (MRow.below (unhide hR) (unhide hL)).form
      simp only [Value.slice.injEq] at q1
      obtain ⟨rfl, z1, rfl⟩ := q1
      clear z1
      obtain ⟨a, rfl, hca, hcb⟩ := q2 k hlt
      clear q2
      have i3 : IntKind.i64.wrap ((k : Int) + 1) = (k : Int) + 1 := by simp [IntKind.wrap, IntKind.bits, IntKind.signed]; omega
      have HAT : Hid ((bs.getD k noMo).1 = p → secAt bs p = (bs.getD k noMo).2) := fun q => secAt_at bs p k hlt hN.out q
      have HNX : Hid ((bs.getD k noMo).1 ≠ p → ∀ j, j < k + 1 → (bs.getD j noMo).1 ≠ p) := fun q j hj => by
        by_cases e : j = k
        · subst e; exact q
        · exact hN.out j (by omega)
      generalize bs.getD k noMo = y at hca hcb HAT HNX
      have hLA : Hid (Below w.heap.size w (wr.alloc (.cells #[.int .i64 y.1, .string y.2] 60))) := (unhide hL).alloc hle _
      by_cases he : y.1 = p
      · have HE := hide (HAT.out he)
        have he2 : (y.1 == p) = true := by simpa using he
        clear HAT HNX he
        go_wp2_with fail
        go_ret
        exact ⟨congrArg (fun x => Ending.returned (.string x)) HE.out.symm, unhide hLA⟩
      · have HN1 := hide (HNX.out he)
        have he2 : (y.1 == p) = false := by simpa using he
        clear HAT HNX he
        go_wp2_with fail
        go_roundw
        case rel => exact ⟨k + 1, by omega, by simp, HN1, hLA⟩
        case measure => simp [intOf]; omega
    · have hlt2 : decide ((k : Int) < (bs.length : Int)) = false := by simp; omega
      have HE : Hid (secAt bs p = ⟨#[]⟩) := secAt_none bs p (fun j hj => hN.out j (by omega))
      go_wp2_with fail
      go_ret
      exact ⟨congrArg (fun x => Ending.returned (.string x)) HE.out.symm, unhide hL⟩

/-- Whether a place has no key, or the key of what is had there. -/
def fitsAt (keys : List ByteArray) (own : List Mo) (p : Nat) : Bool := decide (keys.getD p ByteArray.empty = ByteArray.empty) || decide (mkKey (secAt own (p : Int)) = keys.getD p ByteArray.empty)
/-- How many of some places have keys. -/
def keyedIn (keys : List ByteArray) (ps : List Nat) : Nat := (ps.filter fun p => decide (keys.getD p ByteArray.empty ≠ ByteArray.empty)).length
def ownsOf (keys : List ByteArray) (own : List Mo) (k : Nat) : Bool :=
  decide (keys.getD (7 + k) ByteArray.empty ≠ ByteArray.empty) && ((7 + k) :: ups (7 + k)).all (fitsAt keys own) && decide (own.length = keyedIn keys ((7 + k) :: ups (7 + k)))
theorem keyedIn_snoc (keys : List ByteArray) (ps : List Nat) (p : Nat) : keyedIn keys (ps ++ [p]) = keyedIn keys ps + if keys.getD p ByteArray.empty = ByteArray.empty then 0 else 1 := by
  unfold keyedIn
  rw [List.filter_append, List.length_append]
  by_cases h : keys.getD p ByteArray.empty = ByteArray.empty
  · rw [if_pos h]; simp [List.filter_cons]; exact h
  · have h2 : ¬ keys[p]?.getD ByteArray.empty = ByteArray.empty := h
    rw [if_neg h]; simp [h2]
theorem keyedIn_le (keys : List ByteArray) (ps : List Nat) : keyedIn keys ps ≤ ps.length := by unfold keyedIn; exact List.length_filter_le _ _
def valsF (ps : List (Fin 15)) : List Nat := ps.map (·.val)
theorem valsF_snoc (ps : List (Fin 15)) (x : Fin 15) : valsF (ps ++ [x]) = valsF ps ++ [x.val] := by simp [valsF]
theorem valsF_chain (k : Nat) (h : k < 8) : valsF (chainF (7 + (k : Int))) = (7 + k) :: ups (7 + k) := by
  rw [show (7 + (k : Int)) = ((7 + k : Nat) : Int) by omega, chainF_nat _ (by omega)]
  exact chainT_val ⟨7 + k, by omega⟩
theorem chainF_len (p : Int) : (chainF p).length ≤ 4 := by
  unfold chainF
  split
  · exact chainT_len _
  · simp
theorem blk_own {β : Type} (B : Nat) (t : TypeId) (f : β → Array Value) : _root_.Go.Own (fun s W => Blk W B t (f s)) := fun s X Y row hs hg hrow =>
  hs.kept hg (fun e' => by obtain ⟨o, ho, hc⟩ := hrow B e'.symm; rw [show X.heap[B]? = _ from hs] at ho; cases ho; cases hc)

theorem keepsOthers_belowO {w w' : World} (h : Below w.heap.size w w') : KeepsOthers w w' := ⟨h.size, fun k _ hk _ => (h.block k (Array.getElem?_eq_some_iff.1 hk).1).trans hk⟩
theorem blk_other {w : World} {b b' : Nat} {t : TypeId} {cs : Array Value} (h : Blk w b t cs) (hne : b ≠ b') (v : Value) : Blk (w.setCell ⟨b', 0, none⟩ v) b t cs := h.kept (grownBy_setCell' w b' v) (fun e => hne (by cases e; rfl))
/-- A part of the places at whose last one what is had does not fit. -/
def Misfit (keys : List ByteArray) (own : List Mo) (pre : List (Fin 15)) : Prop := ∃ x ∈ pre, fitsAt keys own x.val = false
set_option maxRecDepth 100000 in
set_option maxHeartbeats 8000000 in
theorem ownsItsPlaces_bare (inn : Bool) (k : Nat) (hk : k < 8) (ks os : Value) (keys : List ByteArray) (own : List Mo) (ep : Int) (init tag : ByteArray) (w : World) (hK : SRow w ks keys) (hO : MRow w os own) (hl : keys.length = 15) (hsm : ∀ o ∈ own, o.2.size ≤ maxLen) (hne : keys.getD (7 + k) ByteArray.empty = ByteArray.empty) :
    Calls Tryz.prog 89 #[.agg (memC inn (k : Int) ks os ep init tag)] w fun e W' => e = .returned (.bool (ownsOf keys own k)) ∧ Below w.heap.size w W' := by
  have HK := hide hK
  have HO := hide hO
  have HSM := hide hsm
  obtain ⟨a1, p1, rfl, g1, g2, g3⟩ := hK.form
  obtain ⟨a2, p2, rfl, g4, g5, _⟩ := hO
  have HL := hide hl
  rw [hl] at HK g1 g3 ⊢
  clear hl
  have HLF : Hid (leafOf (k : Int) = ((7 + k : Nat) : Int)) := by show _ = _; unfold leafOf; rw [if_pos (by omega)]; omega
  have HDEF : Hid (ownsOf keys own k = (decide (keys.getD (7 + k) ByteArray.empty ≠ ByteArray.empty) && (valsF (chainF ((7 + k : Nat) : Int))).all (fitsAt keys own) && decide (own.length = keyedIn keys (valsF (chainF ((7 + k : Nat) : Int)))))) := by
    show _ = _
    rw [show (((7 + k : Nat)) : Int) = 7 + (k : Int) by omega, valsF_chain k hk]
    rfl
  have hlf0 : 7 + k < 15 := by omega
  obtain ⟨lf, hlf⟩ : ∃ lf : Nat, lf = 7 + k := ⟨_, rfl⟩
  rw [← hlf] at HLF HDEF hlf0 hne
  clear hlf
  obtain ⟨ad, rfl, hc0⟩ := g3 lf (by omega)
  unfold maxLen at g2 g5
  clear g3 hK
  have j1 : (lf : Int) < 15 := by omega
  have al : Below w.heap.size w ((w.alloc (.cells (memC inn (k : Int) (.slice (some ad) 15 p1) (.slice a2 own.length p2) ep init tag) 35)).alloc (.cells #[.bool false] 4)) := ((Below.refl _ _).alloc (Nat.le_refl _) _).alloc (by simp) _
  have hc1 := (al.cell (cell_lt hc0)).trans hc0
  have A0 := hide ((Blk.new w 35 (memC inn (k : Int) (.slice (some ad) 15 p1) (.slice a2 own.length p2) ep init tag)).alloc (.cells #[.bool false] 4))
  have b0 := Boxed.new (w.alloc (.cells (memC inn (k : Int) (.slice (some ad) 15 p1) (.slice a2 own.length p2) ep init tag) 35)) 4 (.bool false)
  rw [World.size_alloc] at b0
  have B0 := hide b0
  have HB0 := hide al
  have hs0 : ((w.alloc (.cells (memC inn (k : Int) (.slice (some ad) 15 p1) (.slice a2 own.length p2) ep init tag) 35)).alloc (.cells #[.bool false] 4)).heap.size = w.heap.size + 2 := by simp
  have HPO : Hid (∀ u : World, Calls Tryz.prog 62 #[.int .i64 (k : Int)] u fun e w' => e = .returned (.int .i64 (lf : Int)) ∧ w' = u) := fun u => by have := placeOf_any (k : Int) u; rw [HLF.out] at this; exact this
  clear b0 al hc0
  have HE : Hid (ownsOf keys own k = false) := by show _ = _; rw [HDEF.out, hne]; simp
  rw [hne] at hc1
  go_enter Tryz.func89, Tryz.ntmps89
  go_wp2_with fail
  go_quiet ((go_at_call 62; exact Calls.quiet_of_same (HPO.out _)))
  have HB1 := hide (below_drewN (unhide HB0) nq)
  have B1 := box_below (unhide B0) (below_drewN (Below.refl _ _) nq)
  have HB2 := hide (below_box (unhide HB1) (b := w.heap.size + 1) (by omega) (.bool false))
  have l1 := B1.cell
  have l2 := B1.frozen
  have l3 := (B1.set (.bool false)).cell
  clear B1
  generalize (((w.alloc (.cells (memC inn (k : Int) (.slice (some ad) 15 p1) (.slice a2 own.length p2) ep init tag) 35)).alloc (.cells #[.bool false] 4)).drewN nq) = w1 at *
  go_wp2_with fail
  refine bodyPost_ret (v := .bool false) (by simp [results, Tryz.results89, go_sem, l3]) rfl ⟨by rw [HE.out], unhide HB2⟩

set_option maxRecDepth 100000 in
set_option maxHeartbeats 8000000 in
theorem ownsItsPlaces_in (n : Nat) (hn : 4 ≤ n) (inn : Bool) (k : Nat) (hk : k < 8) (ks os : Value) (keys : List ByteArray) (own : List Mo) (ep : Int) (init tag : ByteArray) (w : World) (hK : SRow w ks keys) (hO : MRow w os own) (hl : keys.length = 15) (hsm : ∀ o ∈ own, o.2.size ≤ maxLen) (hne : keys.getD (7 + k) ByteArray.empty ≠ ByteArray.empty) :
    CallsIn Fence.wide n Tryz.prog 89 #[.agg (memC inn (k : Int) ks os ep init tag)] w fun e W' => e = .returned (.bool (ownsOf keys own k)) ∧ Below w.heap.size w W' := by
  have h1 : 1 ≤ n := by omega
  have h2 : 1 ≤ n - 1 := by omega
  have hro : Fence.wide.round = none := rfl
  have HK := hide hK
  have HO := hide hO
  have HSM := hide hsm
  obtain ⟨a1, p1, rfl, g1, g2, g3⟩ := hK.form
  obtain ⟨a2, p2, rfl, g4, g5, _⟩ := hO
  have HL := hide hl
  rw [hl] at HK g1 g3 ⊢
  clear hl
  have HLF : Hid (leafOf (k : Int) = ((7 + k : Nat) : Int)) := by show _ = _; unfold leafOf; rw [if_pos (by omega)]; omega
  have HDEF : Hid (ownsOf keys own k = (decide (keys.getD (7 + k) ByteArray.empty ≠ ByteArray.empty) && (valsF (chainF ((7 + k : Nat) : Int))).all (fitsAt keys own) && decide (own.length = keyedIn keys (valsF (chainF ((7 + k : Nat) : Int)))))) := by
    show _ = _
    rw [show (((7 + k : Nat)) : Int) = 7 + (k : Int) by omega, valsF_chain k hk]
    rfl
  have hlf0 : 7 + k < 15 := by omega
  obtain ⟨lf, hlf⟩ : ∃ lf : Nat, lf = 7 + k := ⟨_, rfl⟩
  rw [← hlf] at HLF HDEF hlf0 hne
  clear hlf
  obtain ⟨ad, rfl, hc0⟩ := g3 lf (by omega)
  unfold maxLen at g2 g5
  clear g3 hK
  have j1 : (lf : Int) < 15 := by omega
  have al : Below w.heap.size w ((w.alloc (.cells (memC inn (k : Int) (.slice (some ad) 15 p1) (.slice a2 own.length p2) ep init tag) 35)).alloc (.cells #[.bool false] 4)) := ((Below.refl _ _).alloc (Nat.le_refl _) _).alloc (by simp) _
  have hc1 := (al.cell (cell_lt hc0)).trans hc0
  have A0 := hide ((Blk.new w 35 (memC inn (k : Int) (.slice (some ad) 15 p1) (.slice a2 own.length p2) ep init tag)).alloc (.cells #[.bool false] 4))
  have b0 := Boxed.new (w.alloc (.cells (memC inn (k : Int) (.slice (some ad) 15 p1) (.slice a2 own.length p2) ep init tag) 35)) 4 (.bool false)
  rw [World.size_alloc] at b0
  have B0 := hide b0
  have HB0 := hide al
  have hs0 : ((w.alloc (.cells (memC inn (k : Int) (.slice (some ad) 15 p1) (.slice a2 own.length p2) ep init tag) 35)).alloc (.cells #[.bool false] 4)).heap.size = w.heap.size + 2 := by simp
  have HPO : Hid (∀ u : World, Calls Tryz.prog 62 #[.int .i64 (k : Int)] u fun e w' => e = .returned (.int .i64 (lf : Int)) ∧ w' = u) := fun u => by have := placeOf_any (k : Int) u; rw [HLF.out] at this; exact this
  clear b0 al hc0
  have hnt : (keys.getD lf ByteArray.empty).toList.isEmpty = false := by simpa using no_text hne
  have HNE := hide hne
  clear hne
  generalize keys.getD lf ByteArray.empty = y0 at hc1 hnt
  refine callsIn_of_wp_marks Tryz.func89 rfl trivial ?_ hro
  simp only [Tryz.ntmps89, List.size_toArray, List.length_cons, List.length_nil, Nat.reduceAdd, Nat.reduceSub, Array.replicate_succ, Array.replicate_zero, List.push_toArray, List.append_toArray, List.nil_append, List.cons_append]
  gi_wp2
  refine wpIn_wide.2 ?_
  go_quiet ((go_at_call 62; exact Calls.quiet_of_same (HPO.out _)))
  have hb1 := below_drewN (Below.refl ((w.alloc (.cells (memC inn (k : Int) (.slice (some ad) 15 p1) (.slice a2 own.length p2) ep init tag) 35)).alloc (.cells #[.bool false] 4)).heap.size ((w.alloc (.cells (memC inn (k : Int) (.slice (some ad) 15 p1) (.slice a2 own.length p2) ep init tag) 35)).alloc (.cells #[.bool false] 4))) nq
  have A1 := (unhide A0).below hb1
  have B1 := hide (box_below (unhide B0) hb1)
  have HB1 := hide (below_drewN (unhide HB0) nq)
  have hs1 : (((w.alloc (.cells (memC inn (k : Int) (.slice (some ad) 15 p1) (.slice a2 own.length p2) ep init tag) 35)).alloc (.cells #[.bool false] 4)).drewN nq).heap.size = w.heap.size + 2 := hs0
  clear hb1 A0 B0 HB0 hs0
  generalize (((w.alloc (.cells (memC inn (k : Int) (.slice (some ad) 15 p1) (.slice a2 own.length p2) ep init tag) 35)).alloc (.cells #[.bool false] 4)).drewN nq) = w1 at *
  have A2 := A1.alloc (.cells #[.int .i64 0] 3)
  have c1 := A2.cell 1
  simp only [List.getElem?_toArray, List.getElem?_cons_succ, List.getElem?_cons_zero] at c1
  have HA1 := hide A1
  clear A1 A2
  gi_wp2_with (first
    | (refine ⟨trivial, ?_⟩; gi_at_call 62; refine (callsIn_wide.2 (HPO.out _)).mono ?_; rintro e wz ⟨rfl, rfl⟩)
    | (refine ⟨trivial, ?_⟩; gi_at_call 84; refine (upward_in _ _ _).mono ?_; rintro e wz ⟨rfl, rfl⟩))
  have bM := ((unhide HA1).alloc (.cells #[.int .i64 0] 3)).alloc (.cells #[.int .i64 (lf : Int)] 95)
  have bR := ((unhide B1).alloc (.cells #[.int .i64 0] 3)).alloc (.cells #[.int .i64 (lf : Int)] 95)
  have bC := (Boxed.new w1 3 (.int .i64 0)).alloc (.cells #[.int .i64 (lf : Int)] 95)
  have bN := Boxed.new (w1.alloc (.cells #[.int .i64 0] 3)) 95 (.int .i64 (lf : Int))
  rw [World.size_alloc, hs1] at bN
  rw [hs1] at bC
  have hB3 : Below w.heap.size w ((w1.alloc (.cells #[.int .i64 0] 3)).alloc (.cells #[.int .i64 (lf : Int)] 95)) := ((unhide HB1).alloc HB1.out.size _).alloc (by simp; have := HB1.out.size; omega) _
  have hsz : ((w1.alloc (.cells #[.int .i64 0] 3)).alloc (.cells #[.int .i64 (lf : Int)] 95)).heap.size = w.heap.size + 4 := by simp; omega
  obtain ⟨W0, hW0⟩ : ∃ W0, (w1.alloc (.cells #[.int .i64 0] 3)).alloc (.cells #[.int .i64 (lf : Int)] 95) = W0 := ⟨_, rfl⟩
  rw [hW0] at bM bR bC bN hB3 hsz ⊢
  have hcl := chainF_len (lf : Int)
  clear hW0 HA1 B1 HB1 c1
  refine wpIn_rangeFunc_ownG hro h1 (gf := 94) (lb := #[.pointer (some ⟨w.heap.size + 2 + 1, 0, none⟩)]) rfl trivial (enters_of Tryz.func94 (by kernel_rfl) rfl)
    (upwardF_stops (n - 1) h2 (w.heap.size + 2 + 1) w.heap.size (lf : Int) W0 (by omega) bN.cell) belowK_t (belowK_b (by omega)) (Below.refl _ _) (fun _ => rfl)
    (fun pre W => (((((∀ x ∈ pre, fitsAt keys own x.val = true) ∧ pre.length ≤ 4) ∧ Boxed W (w.heap.size + 2) 3 (.int .i64 ((keyedIn keys (valsF pre) : Nat) : Int))) ∧ Boxed W (w.heap.size + 1) 4 (.bool false)) ∧ Blk W w.heap.size 35 (memC inn (k : Int) (.slice (some ad) 15 p1) (.slice a2 own.length p2) ep init tag)) ∧ Below w.heap.size w W)
    (fun c pre W => ((c = .ret ∧ Misfit keys own pre) ∧ Boxed W (w.heap.size + 1) 4 (.bool false)) ∧ Below w.heap.size w W)
    (OwnFrom.and (OwnFrom.and (OwnFrom.and (OwnFrom.and (ownFrom_pure _ _) (Own.from (boxed_own _ _ (fun (pre : List (Fin 15)) => Value.int .i64 ((keyedIn keys (valsF pre) : Nat) : Int))) _)) (Own.from (boxed_own _ _ _) _)) (Own.from (blk_own _ _ _) _)) (ownFrom_below (Nat.le_refl _) (by omega)))
    (fun c => OwnFrom.and (OwnFrom.and (ownFrom_pure _ _) (Own.from (boxed_own _ _ _) _)) (ownFrom_below (Nat.le_refl _) (by omega)))
    ⟨⟨⟨⟨⟨by simp, by simp⟩, bC⟩, bR⟩, bM⟩, hB3⟩
    (fun x => { tmps := #[.agg (memC inn (k : Int) (.slice (some ad) 15 p1) (.slice a2 own.length p2) ep init tag), .pointer (some ⟨w.heap.size, 0, none⟩), .pointer (some ⟨w.heap.size + 1, 0, none⟩), .pointer (some ⟨w.heap.size + 2, 0, none⟩), .int .i64 ((x.val : Nat) : Int), undef, .pointer (some ⟨w.heap.size, 2, none⟩), .pointer (some ⟨w.heap.size, 2, none⟩), .slice (some ad) 15 p1, .pointer (some ⟨w.heap.size, 1, none⟩), .int .i64 (k : Int), .int .i64 (lf : Int), .pointer (some (ad.add lf)), .string y0, .bool false, .pointer (some ⟨w.heap.size, 1, none⟩), .int .i64 (k : Int), .int .i64 (lf : Int), .func (.func 94) #[] #[.pointer (some ⟨w.heap.size + 2 + 1, 0, none⟩)], .int .i64 ((x.val : Nat) : Int), undef, undef, undef, undef, undef, undef, undef, undef, undef, undef, undef, undef, undef, undef, undef, undef, undef, undef, undef, undef, undef, undef], defers := [] }) ?assign ?body ?done ?stop
  case assign =>
    intro l x W K hK
    gi_wp2
    exact hK
  case body =>
    rintro l pre x W ⟨⟨⟨⟨⟨hp, hpl⟩, hbC⟩, hbR⟩, hbM⟩, hB⟩ hlt
    have hj := x.isLt
    have j1 : ((x.val : Nat) : Int) < 15 := by omega
    have h3' : 1 ≤ n - 1 - 1 := by omega
    obtain ⟨ax, cx, qx, _, _, qy⟩ := ((unhide HK).below hB).form
    rw [HL.out] at qx qy
    simp only [Value.slice.injEq] at qx
    obtain ⟨rfl, _, rfl⟩ := qx
    obtain ⟨a', ha', hcx⟩ := qy x.val hj
    cases ha'
    clear qy
    have c2 := hbM.cell 2
    have c3 := hbM.cell 3
    simp only [List.getElem?_toArray, List.getElem?_cons_succ, List.getElem?_cons_zero] at c2 c3
    have HFT : Hid (fitsAt keys own x.val = (decide (keys.getD x.val ByteArray.empty = ByteArray.empty) || decide (mkKey (secAt own ((x.val : Nat) : Int)) = keys.getD x.val ByteArray.empty))) := rfl
    have HKI : Hid (keyedIn keys (valsF (pre ++ [x])) = keyedIn keys (valsF pre) + if keys.getD x.val ByteArray.empty = ByteArray.empty then 0 else 1) := by show _ = _; rw [valsF_snoc, keyedIn_snoc]
    have hkn : keyedIn keys (valsF pre) ≤ 4 := Nat.le_trans (keyedIn_le _ _) (by simpa [valsF] using hpl)
    have HBC := hide hbC
    have HBR := hide hbR
    have HBM := hide hbM
    have HBW := hide hB
    clear hbM
    generalize keys.getD x.val ByteArray.empty = y at hcx HFT HKI
    by_cases hy : y = ByteArray.empty
    · have hyt : y.toList.isEmpty = true := by rw [hy]; decide +kernel
      have HY := hide hy
      clear hy
      gi_wp2
      exact ⟨KeepsFrom.refl _ _, Below.refl _ _, ⟨⟨⟨⟨fun z hz => (List.mem_append.1 hz).elim (hp z) (fun e => by simp at e; subst e; rw [HFT.out, HY.out]; simp), by simp; omega⟩, by rw [HKI.out, HY.out]; exact unhide HBC⟩, unhide HBR⟩, unhide HBM⟩, unhide HBW⟩
    · have hyt : y.toList.isEmpty = false := by simpa using no_text hy
      have HY := hide hy
      clear hy
      have HSS : Hid ((secAt own ((x.val : Nat) : Int)).size ≤ maxLen) := by
        show _ ≤ _
        rcases secAt_mem own ((x.val : Nat) : Int) with q | ⟨b, q1, _, q2⟩
        · rw [q]; exact Nat.zero_le _
        · rw [q2]; exact HSM.out b q1
      generalize hsc : secAt own ((x.val : Nat) : Int) = sc at *
      have HSC := hide hsc
      clear hsc
      by_cases hm : mkKey sc = y
      · subst hm
        have i4 : IntKind.i64.wrap (((keyedIn keys (valsF pre) : Nat) : Int) + 1) = ((keyedIn keys (valsF pre) : Nat) : Int) + 1 := by simp [IntKind.wrap, IntKind.bits, IntKind.signed]; omega
        gi_wp2_with (first
          | (refine ⟨trivial, ?_⟩; gi_at_call 100; refine (CallsIn.inRound l (callsIn_wide.2 (secretAt_any _ own _ _ ((unhide HO).below (unhide HBW))))).mono ?_; rw [HSC.out]; rintro e w3 ⟨rfl, hb3⟩; have C3 := hide (box_below (unhide HBC) hb3); have R3 := hide (box_below (unhide HBR) hb3); have M3 := hide ((unhide HBM).below hb3); have B3 := hide hb3; clear hb3)
          | (refine ⟨trivial, ?_⟩; gi_at_call 56; refine (CallsIn.inRound l (callsIn_wide.2 (iMakKey_any sc _ HSS.out))).mono ?_; rintro e w4 ⟨rfl, hb4⟩; have C4 := hide (box_below (unhide C3) hb4); have R4 := hide (box_below (unhide R3) hb4); have M4 := hide ((unhide M3).below hb4); have B4 := hide ((unhide B3).trans (hb4.mono (unhide B3).size)); have l1 := (unhide C4).cell; have l2 := (unhide C4).frozen; have l3 := (unhide R4).cell; have l4 := (unhide R4).frozen; clear hb4))
        have KO := (keepsOthers_belowO (unhide B4)).trans (KeepsOthers.setCell w4 ⟨w.heap.size + 2, 0, none⟩ (.int .i64 (((keyedIn keys (valsF pre) : Nat) : Int) + 1)))
        have BW : Below w.heap.size W (w4.setCell ⟨w.heap.size + 2, 0, none⟩ (.int .i64 (((keyedIn keys (valsF pre) : Nat) : Int) + 1))) := ((unhide B4).mono hB.size).setCell (p := ⟨w.heap.size + 2, 0, none⟩) (by show w.heap.size ≤ w.heap.size + 2; omega) _
        refine ⟨KO.from _, BW, ⟨⟨⟨⟨fun z hz => (List.mem_append.1 hz).elim (hp z) (fun e => by simp at e; subst e; rw [HFT.out]; simp), by simp; omega⟩, ?_⟩, (unhide R4).other (by omega) _⟩, blk_other (unhide M4) (by omega) _⟩, hB.trans BW⟩
        rw [HKI.out, if_neg HY.out]
        exact (unhide C4).set _
      · have hnk : ((mkKey sc).toList == y.toList) = false := by
          cases q : ((mkKey sc).toList == y.toList) with
          | false => rfl
          | true => exact absurd (toList_eq.1 q) hm
        have HM := hide hm
        clear hm
        gi_wp2_with (first
          | (refine ⟨trivial, ?_⟩; gi_at_call 100; refine (CallsIn.inRound l (callsIn_wide.2 (secretAt_any _ own _ _ ((unhide HO).below (unhide HBW))))).mono ?_; rw [HSC.out]; rintro e w3 ⟨rfl, hb3⟩; have C3 := hide (box_below (unhide HBC) hb3); have R3 := hide (box_below (unhide HBR) hb3); have M3 := hide ((unhide HBM).below hb3); have B3 := hide hb3; clear hb3)
          | (refine ⟨trivial, ?_⟩; gi_at_call 56; refine (CallsIn.inRound l (callsIn_wide.2 (iMakKey_any sc _ HSS.out))).mono ?_; rintro e w4 ⟨rfl, hb4⟩; have C4 := hide (box_below (unhide C3) hb4); have R4 := hide (box_below (unhide R3) hb4); have M4 := hide ((unhide M3).below hb4); have B4 := hide ((unhide B3).trans (hb4.mono (unhide B3).size)); have l1 := (unhide C4).cell; have l2 := (unhide C4).frozen; have l3 := (unhide R4).cell; have l4 := (unhide R4).frozen; clear hb4))
        have KO := (keepsOthers_belowO (unhide B4)).trans (KeepsOthers.setCell w4 ⟨w.heap.size + 1, 0, none⟩ (.bool false))
        have BW : Below w.heap.size W (w4.setCell ⟨w.heap.size + 1, 0, none⟩ (.bool false)) := ((unhide B4).mono hB.size).setCell (p := ⟨w.heap.size + 1, 0, none⟩) (by show w.heap.size ≤ w.heap.size + 1; omega) _
        refine ⟨KO.from _, ⟨⟨rfl, x, by simp, ?_⟩, (unhide R4).set _⟩, hB.trans BW⟩
        rw [HFT.out]
        simp [HY.out, HM.out]
  case done =>
    rintro D ys W hD rfl ⟨⟨⟨⟨⟨hp, _⟩, hbC⟩, hbR⟩, hbM⟩, hB⟩ hK
    have c3 := hbM.cell 3
    simp only [List.getElem?_toArray, List.getElem?_cons_succ, List.getElem?_cons_zero] at c3
    have cC := hbC.cell
    have cR := hbR.cell
    have fR := hbR.frozen
    have HDD : Hid (ownsOf keys own k = decide (own.length = keyedIn keys (valsF (chainF (lf : Int))))) := by
      show _ = _
      have e1 : (valsF (chainF (lf : Int))).all (fitsAt keys own) = true := by
        rw [List.all_eq_true]
        intro p hp1
        unfold valsF at hp1
        obtain ⟨x, hx, rfl⟩ := List.mem_map.1 hp1
        exact hp x hx
      rw [HDEF.out, e1]
      simp
      intro _ q
      exact absurd q HNE.out
    generalize keyedIn keys (valsF (chainF (lf : Int))) = cnt at *
    by_cases he : own.length = cnt
    · have he2 : ((own.length : Int) == ((cnt : Nat) : Int)) = true := by rw [he]; simp
      have HE : Hid (ownsOf keys own k = true) := by show _ = _; rw [HDD.out]; simpa using he
      clear he
      gi_wp2
      have hK' := (KeepsOthers.setCell W ⟨w.heap.size + 1, 0, none⟩ (.bool true)).same D _ hK rfl
      refine ⟨by simp, .inl ⟨_, _, rfl, run_takeDeferred hK', ?_⟩⟩
      have hc5 := cell_kept (hbR.set (.bool true)).cell (grownBy_putObj' _ D (.deferred none)) (fun r e => by cases e; exact ⟨_, hK', rfl⟩)
      refine ⟨.bool true, ?_, by rw [HE.out], (hB.setCell (p := ⟨w.heap.size + 1, 0, none⟩) (by simp) _).trans (belowK_b (w := w) (Nat.le_refl _) _ D _ _ (by omega) hK' rfl rfl)⟩
      simp [results, Tryz.f89, go_sem, hc5]
    · have he2 : ((own.length : Int) == ((cnt : Nat) : Int)) = false := by simp; omega
      have HE : Hid (ownsOf keys own k = false) := by show _ = _; rw [HDD.out]; simpa using he
      clear he
      gi_wp2
      have hK' := (KeepsOthers.setCell W ⟨w.heap.size + 1, 0, none⟩ (.bool false)).same D _ hK rfl
      refine ⟨by simp, .inl ⟨_, _, rfl, run_takeDeferred hK', ?_⟩⟩
      have hc5 := cell_kept (hbR.set (.bool false)).cell (grownBy_putObj' _ D (.deferred none)) (fun r e => by cases e; exact ⟨_, hK', rfl⟩)
      refine ⟨.bool false, ?_, by rw [HE.out], (hB.setCell (p := ⟨w.heap.size + 1, 0, none⟩) (by simp) _).trans (belowK_b (w := w) (Nat.le_refl _) _ D _ _ (by omega) hK' rfl rfl)⟩
      simp [results, Tryz.f89, go_sem, hc5]
  case stop =>
    rintro D c pre W hD hpre ⟨⟨⟨rfl, x, hx, hxf⟩, hbR⟩, hB⟩ hK
    have HE : Hid (ownsOf keys own k = false) := by
      show _ = _
      have e1 : (valsF (chainF (lf : Int))).all (fitsAt keys own) = false := by
        rw [List.all_eq_false]
        exact ⟨x.val, by unfold valsF; exact List.mem_map.2 ⟨x, hpre.subset hx, rfl⟩, by rw [hxf]; simp⟩
      rw [HDEF.out, e1]
      simp
    gi_wp2
    refine ⟨by simp, .inl ⟨_, _, rfl, run_takeDeferred hK, ?_⟩⟩
    have hc5 := cell_kept hbR.cell (grownBy_putObj' _ D (.deferred none)) (fun r e => by cases e; exact ⟨_, hK, rfl⟩)
    refine ⟨.bool false, ?_, by rw [HE.out], hB.trans (belowK_b (w := w) (Nat.le_refl _) W D _ _ (by omega) hK rfl rfl)⟩
    simp [results, Tryz.f89, go_sem, hc5]

theorem ownsItsPlaces_any (inn : Bool) (k : Nat) (hk : k < 8) (ks os : Value) (keys : List ByteArray) (own : List Mo) (ep : Int) (init tag : ByteArray) (w : World) (hK : SRow w ks keys) (hO : MRow w os own) (hl : keys.length = 15) (hsm : ∀ o ∈ own, o.2.size ≤ maxLen) :
    Calls Tryz.prog 89 #[.agg (memC inn (k : Int) ks os ep init tag)] w fun e W' => e = .returned (.bool (ownsOf keys own k)) ∧ Below w.heap.size w W' := by
  by_cases hne : keys.getD (7 + k) ByteArray.empty = ByteArray.empty
  · exact ownsItsPlaces_bare inn k hk ks os keys own ep init tag w hK hO hl hsm hne
  · exact callsIn_wide.1 (ownsItsPlaces_in 4 (by omega) inn k hk ks os keys own ep init tag w hK hO hl hsm hne)
#print axioms ownsItsPlaces_any
#print axioms secretAt_any
end Go.Proofs.YteiojanamkndmaaGreat
/-
  The program's MemOk.
-/
namespace Go.Proofs.YteiojanamkndmaaGreat
open Go.RowKit

/-- Whether one is ok, as the program has it. -/
def memOkI (m : Mem) : Bool :=
  if m.inn then decide (0 ≤ m.who ∧ m.who ≤ 7) && treOk m.keys && ownsOf m.keys m.own m.who.toNat && decide (0 ≤ m.ep ∧ m.ep ≤ 12) && Kw.ok m.init && decide (m.tag.size ≤ 300)
  else decide (m = Mem.none)

set_option maxRecDepth 100000 in
set_option maxHeartbeats 4000000 in
theorem iMemOk_in (who ep : Int) (ks os : Value) (keys : List ByteArray) (own : List Mo) (init tag : ByteArray) (w : World) (hK : SRow w ks keys) (hO : MRow w os own)
    (hkm : ∀ x ∈ keys, x.size ≤ maxLen) (hom : ∀ o ∈ own, o.2.size ≤ maxLen) (him : init.size ≤ maxLen) (htm : tag.size ≤ maxLen) :
    Calls Tryz.prog 67 #[.agg (memC true who ks os ep init tag)] w fun e w' => e = .returned (.bool (memOkI ⟨true, who, keys, own, ep, init, tag⟩)) ∧ Below w.heap.size w w' := by
  have HK := hide hK
  have HO := hide hO
  have HKM := hide hkm
  have HOM := hide hom
  have HIM := hide him
  unfold maxLen at htm
  obtain ⟨a1, p1, rfl, _, _, _⟩ := hK.form
  obtain ⟨a2, p2, rfl, _, _, _⟩ := hO
  clear hK hkm hom him
  obtain ⟨kl, hkl⟩ : ∃ kl, keys.length = kl := ⟨_, rfl⟩
  rw [hkl] at HK ⊢
  have HKL := hide hkl
  clear hkl
  have A0 := hide (Blk.new w 35 (memC true who (.slice a1 kl p1) (.slice a2 own.length p2) ep init tag))
  have HB0 : Hid (Below w.heap.size w (w.alloc (.cells (memC true who (.slice a1 kl p1) (.slice a2 own.length p2) ep init tag) 35))) := (Below.refl _ _).alloc (Nat.le_refl _) _
  have HDEF : Hid (memOkI ⟨true, who, keys, own, ep, init, tag⟩ = (decide (0 ≤ who ∧ who ≤ 7) && treOk keys && ownsOf keys own who.toNat && decide (0 ≤ ep ∧ ep ≤ 12) && Kw.ok init && decide (tag.size ≤ 300))) := rfl
  by_cases hp : 0 ≤ who ∧ who ≤ 7
  · obtain ⟨k, rfl⟩ : ∃ k : Nat, who = (k : Int) := ⟨who.toNat, by omega⟩
    have hk8 : k < 8 := by omega
    have HW : Hid (decide (0 ≤ (k : Int) ∧ (k : Int) ≤ 7) = true) := by show _ = _; simp; omega
    clear hp
    go_enter Tryz.func67, Tryz.ntmps67
    go_wp2_with fail
    refine (isOne_yes _ _ (by omega) (by omega)).mono ?_
    rintro e wa ⟨rfl, rfl⟩
    go_wp2_with fail
    refine (iTreOk_any _ keys _ ((unhide HK).below (unhide HB0)) (unhide HKM)).mono ?_
    rintro e w1 ⟨rfl, hb1⟩
    have A1 := hide ((unhide A0).below hb1)
    have HB1 := hide (HB0.out.trans (hb1.mono HB0.out.size))
    clear hb1 A0 HB0
    cases hto : treOk keys with
    | false =>
      have HE : Hid (memOkI ⟨true, (k : Int), keys, own, ep, init, tag⟩ = false) := by show _ = _; rw [HDEF.out, hto]; simp
      clear hto
      go_wp2_with fail
      go_ret
      exact ⟨ret_bool' HE.out.symm, unhide HB1⟩
    | true =>
      have HTO := hide hto
      have HL : Hid (keys.length = 15) := (treOk_iff.1 hto).1
      clear hto
      have c0 := (unhide A1).cell 0
      have c1 := (unhide A1).cell 1
      have c2 := (unhide A1).cell 2
      have c3 := (unhide A1).cell 3
      have c4 := (unhide A1).cell 4
      have c5 := (unhide A1).cell 5
      have c6 := (unhide A1).cell 6
      simp only [List.getElem?_toArray, List.getElem?_cons_succ, List.getElem?_cons_zero] at c0 c1 c2 c3 c4 c5 c6
      go_wp2_with fail
      refine (ownsItsPlaces_any true k hk8 _ _ keys own ep init tag _ ((unhide HK).below (unhide HB1)) ((unhide HO).below (unhide HB1)) HL.out (unhide HOM)).mono ?_
      rintro e w2 ⟨rfl, hb2⟩
      have A2 := hide ((unhide A1).below hb2)
      have HB2 := hide (HB1.out.trans (hb2.mono HB1.out.size))
      clear hb2 A1 HB1 c0 c1 c2 c3 c4 c5 c6
      have c4 := (unhide A2).cell 4
      have c5 := (unhide A2).cell 5
      simp only [List.getElem?_toArray, List.getElem?_cons_succ, List.getElem?_cons_zero] at c4 c5
      cases how : ownsOf keys own k with
      | false =>
        have HE : Hid (memOkI ⟨true, (k : Int), keys, own, ep, init, tag⟩ = false) := by show _ = _; rw [HDEF.out, show ((k : Int)).toNat = k from rfl, how]; simp
        clear how
        go_wp2_with fail
        go_ret
        exact ⟨ret_bool' HE.out.symm, unhide HB2⟩
      | true =>
        have HOW := hide how
        clear how
        by_cases he0 : 0 ≤ ep
        · by_cases he1 : ep ≤ 12
          · go_wp2_with fail
            refine (iSecOk_any init _ HIM.out).mono ?_
            rintro e w3 ⟨rfl, hb3⟩
            have A3 := hide ((unhide A2).below hb3)
            have HB3 := hide (HB2.out.trans (hb3.mono HB2.out.size))
            clear hb3 A2 HB2 c4 c5
            have c6 := (unhide A3).cell 6
            simp only [List.getElem?_toArray, List.getElem?_cons_succ, List.getElem?_cons_zero] at c6
            cases hok : Kw.ok init with
            | false =>
              have HE : Hid (memOkI ⟨true, (k : Int), keys, own, ep, init, tag⟩ = false) := by show _ = _; rw [HDEF.out, hok]; simp
              clear hok
              go_wp2_with fail
              go_ret
              exact ⟨ret_bool' HE.out.symm, unhide HB3⟩
            | true =>
              have HE0 : Hid (memOkI ⟨true, (k : Int), keys, own, ep, init, tag⟩ = decide (tag.size ≤ 300)) := by
                show _ = _
                rw [HDEF.out, HW.out, HTO.out, show ((k : Int)).toNat = k from rfl, HOW.out, hok, decide_eq_true (And.intro he0 he1)]
                rfl
              clear hok
              by_cases htg : tag.size ≤ 300
              · have htg2 : (tag.size : Int) ≤ 300 := by omega
                have HE : Hid (memOkI ⟨true, (k : Int), keys, own, ep, init, tag⟩ = true) := by show _ = _; rw [HE0.out]; simpa using htg
                go_wp2_with fail
                go_ret
                exact ⟨ret_bool' HE.out.symm, unhide HB3⟩
              · have htg2 : decide ((tag.size : Int) ≤ 300) = false := by simp; omega
                have HE : Hid (memOkI ⟨true, (k : Int), keys, own, ep, init, tag⟩ = false) := by show _ = _; rw [HE0.out]; simpa using htg
                go_wp2_with fail
                go_ret
                exact ⟨ret_bool' HE.out.symm, unhide HB3⟩
          · have he2 : decide (ep ≤ 12) = false := by simpa using he1
            have HE : Hid (memOkI ⟨true, (k : Int), keys, own, ep, init, tag⟩ = false) := by show _ = _; rw [HDEF.out, decide_eq_false (fun (q : 0 ≤ ep ∧ ep ≤ 12) => he1 q.2)]; simp
            clear he1
            go_wp2_with fail
            go_ret
            exact ⟨ret_bool' HE.out.symm, unhide HB2⟩
        · have he2 : decide (0 ≤ ep) = false := by simpa using he0
          have HE : Hid (memOkI ⟨true, (k : Int), keys, own, ep, init, tag⟩ = false) := by show _ = _; rw [HDEF.out, decide_eq_false (fun (q : 0 ≤ ep ∧ ep ≤ 12) => he0 q.1)]; simp
          clear he0
          go_wp2_with fail
          go_ret
          exact ⟨ret_bool' HE.out.symm, unhide HB2⟩
  · have HE : Hid (memOkI ⟨true, who, keys, own, ep, init, tag⟩ = false) := by show _ = _; rw [HDEF.out, decide_eq_false hp]; simp
    have HP := hide hp
    clear hp
    go_enter Tryz.func67, Tryz.ntmps67
    go_wp2_with fail
    refine (isOne_no _ _ (by have := HP.out; omega)).mono ?_
    rintro e wa ⟨rfl, rfl⟩
    go_wp2_with fail
    go_ret
    exact ⟨ret_bool' HE.out.symm, unhide HB0⟩
end Go.Proofs.YteiojanamkndmaaGreat
/-
  Whether one is ok, as the specification has it; where no own secret is too long for a key both sides agree. No Go function in it.
-/
namespace Go.Proofs.YteiojanamkndmaaGreat
open Go.RowKit Kw

/-- Whether a secret that one has fits: of its place or above, a name, of the tree's key, none of that place ahead of it. -/
def fitJ (keys : List ByteArray) (own : List Mo) (C : List Int) (j : Nat) : Bool :=
  decide ((own.getD j noMo).1 ∈ C) && Kw.ok (own.getD j noMo).2 && decide (keys.getD (own.getD j noMo).1.toNat ByteArray.empty = mkKey (own.getD j noMo).2) && decide (secAt (own.take j) (own.getD j noMo).1 = ByteArray.empty)
def fitsS (keys : List ByteArray) (own : List Mo) (C : List Int) : Bool := (List.range own.length).all (fitJ keys own C)
/-- Whether one has a secret of each place with a key. -/
def hasS (keys : List ByteArray) (own : List Mo) (C : List Int) : Bool := C.all fun p => decide (keys.getD p.toNat ByteArray.empty = ByteArray.empty) || decide (secAt own p ≠ ByteArray.empty)
def memOkS (m : Mem) : Bool :=
  if m.inn then decide (0 ≤ m.who ∧ m.who ≤ 7) && treOk m.keys && fitsS m.keys m.own (chainOf (leafOf m.who)) && (hasS m.keys m.own (chainOf (leafOf m.who)) && decide (m.keys.getD (leafOf m.who).toNat ByteArray.empty ≠ ByteArray.empty)) && decide (0 ≤ m.ep ∧ m.ep ≤ 12) && Kw.ok m.init && decide (m.tag.size ≤ 300)
  else decide (m = Mem.none)

theorem key_neS {s : ByteArray} (hs : Kw.ok s = true) (h : s.size < 300) : mkKey s ≠ ByteArray.empty := by
  intro q
  have h1 : (mkKey s).size = s.size + 1 := by
    unfold mkKey
    rw [if_pos hs]
    unfold cap
    have e : (keyT s).size = 1 + s.size := by unfold keyT; rw [ByteArray.size_append]; rfl
    rw [if_pos (by omega), e]
    omega
  rw [q] at h1
  have : ByteArray.empty.size = 0 := rfl
  omega
theorem key_okS {s : ByteArray} (h : mkKey s ≠ ByteArray.empty) : Kw.ok s = true := by
  cases q : Kw.ok s with
  | true => rfl
  | false =>
    refine absurd ?_ h
    unfold mkKey
    rw [q]
    rfl
/-- The first of a place: where it stands. -/
theorem secAt_first : ∀ (own : List Mo) (p : Int), secAt own p ≠ ByteArray.empty → ∃ j, j < own.length ∧ (own.getD j noMo).1 = p ∧ (own.getD j noMo).2 = secAt own p ∧ ∀ i, i < j → (own.getD i noMo).1 ≠ p
  | [], p, h => absurd rfl h
  | b :: bs, p, h => by
    by_cases e : b.1 = p
    · refine ⟨0, by simp, e, ?_, fun i hi => absurd hi (Nat.not_lt_zero _)⟩
      show b.2 = secAt (b :: bs) p
      unfold secAt
      rw [if_pos e]
    · have h2 : secAt (b :: bs) p = secAt bs p := by
        show (if b.1 = p then b.2 else secAt bs p) = secAt bs p
        rw [if_neg e]
      rw [h2] at h ⊢
      obtain ⟨j, h3, h4, h5, h6⟩ := secAt_first bs p h
      refine ⟨j + 1, by simpa using h3, h4, h5, fun i hi => ?_⟩
      cases i with
      | zero => exact e
      | succ i => exact h6 i (by omega)
theorem secAt_here (own : List Mo) (j : Nat) (hj : j < own.length) (h : ∀ i, i < j → (own.getD i noMo).1 ≠ (own.getD j noMo).1) : secAt own (own.getD j noMo).1 = (own.getD j noMo).2 := secAt_at own _ j hj h rfl
theorem take_getD (own : List Mo) (j i : Nat) (h : i < j) : (own.take j).getD i noMo = own.getD i noMo := by
  rw [List.getD_eq_getElem?_getD, List.getD_eq_getElem?_getD, List.getElem?_take_of_lt h]
theorem secAt_ahead (own : List Mo) (j : Nat) (p : Int) (h : ∀ i, i < j → (own.getD i noMo).1 ≠ p) : secAt (own.take j) p = ByteArray.empty :=
  secAt_none _ _ (fun i hi => by
    have : i < j := by rw [List.length_take] at hi; omega
    rw [take_getD own j i this]
    exact h i this)
#print axioms secAt_first
end Go.Proofs.YteiojanamkndmaaGreat
/-
  The specification's l4Own and l4In.
-/
namespace Go.Proofs.YteiojanamkndmaaGreat
open Go.RowKit

set_option maxRecDepth 100000 in
set_option maxHeartbeats 2000000 in
theorem l4Own_any (inn : Bool) (who ep : Int) (ks os : Value) (own : List Mo) (init tag : ByteArray) (p : Int) (w : World) (h : MRow w os own) (hks : ∃ a l c, ks = .slice a l c) :
    Calls Tryz.prog 75 #[.agg (memC inn who ks os ep init tag), .int .i64 p] w fun e w' => e = .returned (.string (secAt own p)) ∧ Below w.heap.size w w' := by
  have hR := hide h
  obtain ⟨ao, cap, rfl, h1, h2, _⟩ := h
  obtain ⟨ka, kl, kc, rfl⟩ := hks
  unfold maxLen at h2
  have A0 := hide (Blk.new w 35 (memC inn who (.slice ka kl kc) (.slice ao own.length cap) ep init tag))
  have HB0 : Hid (Below w.heap.size w (w.alloc (.cells (memC inn who (.slice ka kl kc) (.slice ao own.length cap) ep init tag) 35))) := (Below.refl _ _).alloc (Nat.le_refl _) _
  go_enter Tryz.func75, Tryz.ntmps75
  go_wp2_with fail
  go_loop [5] (fun i => ∃ k : Nat, k ≤ own.length ∧ i = .int .i64 (k : Int) ∧ Hid (∀ j, j < k → (own.getD j noMo).1 ≠ p)) (fun i => own.length - (intOf i).toNat)
  case atStart => exact ⟨0, by omega, rfl, fun j hj => by omega⟩
  case round =>
    obtain ⟨k, hk, rfl, hN⟩ := hrel
    by_cases hlt : k < own.length
    · have hlt2 : (k : Int) < (own.length : Int) := by omega
      obtain ⟨ao', c1, q1, _, _, q2⟩ := (MRow.below (unhide hR) (unhide HB0)).form
      simp only [Value.slice.injEq] at q1
      obtain ⟨rfl, z1, rfl⟩ := q1
      clear z1
      obtain ⟨a, rfl, hca, hcb⟩ := q2 k hlt
      clear q2
      have i3 : IntKind.i64.wrap ((k : Int) + 1) = (k : Int) + 1 := by simp [IntKind.wrap, IntKind.bits, IntKind.signed]; omega
      have HAT : Hid ((own.getD k noMo).1 = p → secAt own p = (own.getD k noMo).2) := fun q => secAt_at own p k hlt hN.out q
      have HNX : Hid ((own.getD k noMo).1 ≠ p → ∀ j, j < k + 1 → (own.getD j noMo).1 ≠ p) := fun q j hj => by
        by_cases e : j = k
        · subst e; exact q
        · exact hN.out j (by omega)
      generalize own.getD k noMo = y at hca hcb HAT HNX
      by_cases he : y.1 = p
      · have HE := hide (HAT.out he)
        have he2 : (y.1 == p) = true := by simpa using he
        clear HAT HNX he
        go_wp2_with fail
        go_ret
        exact ⟨congrArg (fun x => Ending.returned (.string x)) HE.out.symm, unhide HB0⟩
      · have HN1 := hide (HNX.out he)
        have he2 : (y.1 == p) = false := by simpa using he
        clear HAT HNX he
        go_wp2_with fail
        go_round
        case rel => exact ⟨k + 1, by omega, by simp, HN1⟩
        case measure => simp [intOf]; omega
    · have hlt2 : decide ((k : Int) < (own.length : Int)) = false := by simp; omega
      have HE : Hid (secAt own p = ⟨#[]⟩) := secAt_none own p (fun j hj => hN.out j (by omega))
      go_wp2_with fail
      go_ret
      exact ⟨congrArg (fun x => Ending.returned (.string x)) HE.out.symm, unhide HB0⟩

set_option maxHeartbeats 1000000 in
theorem l4In_any (v : Value) (xs : List Int) (n : Int) (w : World) (h : IRow w v xs) :
    Calls Tryz.prog 74 #[v, .int .i64 n] w fun e w' => e = .returned (.bool (decide (n ∈ xs))) ∧ w' = w := by
  obtain ⟨ao, cap, rfl, h1, h2, hc⟩ := h.form
  unfold maxLen at h2
  have HC := hide hc
  clear h hc
  go_enter Tryz.func74, Tryz.ntmps74
  go_wp2_with fail
  go_loop [5] (fun i => ∃ k : Nat, k ≤ xs.length ∧ i = .int .i64 (k : Int) ∧ Hid (∀ j, j < k → xs.getD j 0 ≠ n)) (fun i => xs.length - (intOf i).toNat)
  case atStart => exact ⟨0, by omega, rfl, fun j hj => by omega⟩
  case round =>
    obtain ⟨k, hk, rfl, hN⟩ := hrel
    by_cases hlt : k < xs.length
    · have hlt2 : (k : Int) < (xs.length : Int) := by omega
      obtain ⟨a, rfl, hck⟩ := HC.out k hlt
      have i3 : IntKind.i64.wrap ((k : Int) + 1) = (k : Int) + 1 := by simp [IntKind.wrap, IntKind.bits, IntKind.signed]; omega
      have HYES : Hid (xs.getD k 0 = n → decide (n ∈ xs) = true) := by
        intro e
        rw [decide_eq_true_eq, ← e, List.getD_eq_getElem?_getD, List.getElem?_eq_getElem hlt]
        exact List.getElem_mem _
      have HNX : Hid (xs.getD k 0 ≠ n → ∀ j, j < k + 1 → xs.getD j 0 ≠ n) := fun q j hj => by
        by_cases e : j = k
        · subst e; exact q
        · exact hN.out j (by omega)
      generalize xs.getD k 0 = y at hck HYES HNX
      by_cases he : y = n
      · have HE := hide (HYES.out he)
        have he2 : (y == n) = true := by simpa using he
        clear HYES HNX he
        go_wp2_with fail
        go_ret
        exact ⟨ret_bool' HE.out.symm, rfl⟩
      · have HN1 := hide (HNX.out he)
        have he2 : (y == n) = false := by simpa using he
        clear HYES HNX he
        go_wp2_with fail
        go_round
        case rel => exact ⟨k + 1, by omega, by simp, HN1⟩
        case measure => simp [intOf]; omega
    · have hlt2 : decide ((k : Int) < (xs.length : Int)) = false := by simp; omega
      have HE : Hid (decide (n ∈ xs) = false) := by
        show _ = _
        rw [decide_eq_false_iff_not]
        intro hm
        obtain ⟨j, hj, e⟩ := List.mem_iff_getElem.1 hm
        refine hN.out j (by omega) ?_
        rw [List.getD_eq_getElem?_getD, List.getElem?_eq_getElem hj]
        exact e
      go_wp2_with fail
      go_ret
      exact ⟨ret_bool' HE.out.symm, rfl⟩
#print axioms l4Own_any
#print axioms l4In_any
end Go.Proofs.YteiojanamkndmaaGreat
