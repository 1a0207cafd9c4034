/-
  The spec's places: TreLeaf, TreSide, TreMeet, TreUp.
-/
import Derived.Test.YtkcopldlobomhaaFnExactMemFirstB3
import Derived.Test.YtkcopldlobomhaaFnExactMemFirstB2
import Derived.Deep.RegionHeld3
import Derived.Test.YtkcopldlobomhaaFnExactMemFirstB4
import Derived.Laws.OwnMore
import Derived.Lib.AppendZeros
import Derived.Test.YtkcopldlobomhaaFnExactMemFirstB1
import Derived.OrdersHeld
namespace Go.Proofs.Ytkcopldlobomhaa
open Go.RowKit

set_option maxHeartbeats 400000 in
theorem sTreLeaf_any (who : Int) (w : World) :
    Calls Try.prog 35 #[.int .i64 who] w fun e w' => e = .returned (.int .i64 (leafOf who)) ∧ w' = w := by
  by_cases h : 0 ≤ who ∧ who ≤ 7
  · obtain ⟨h1, h2⟩ := h
    have hl : leafOf who = 7 + who := by unfold leafOf; rw [if_pos ⟨h1, h2⟩]
    rw [hl]
    have HH := hide hl
    clear hl
    have i3 : IntKind.i64.wrap (7 + who) = 7 + who := by simp [IntKind.wrap, IntKind.bits, IntKind.signed]; omega
    go_enter Try.func35, Try.ntmps35
    go_wp2_with fail
    refine (l1In_yes _ _ _ _ (by omega) (by omega)).mono ?_
    rintro e w1 ⟨rfl, rfl⟩
    go_wp2_with fail
    go_ret
    exact ⟨rfl, rfl⟩
  · have hl : leafOf who = -1 := by unfold leafOf; rw [if_neg h]
    rw [hl]
    have HH := hide h
    clear hl h
    go_enter Try.func35, Try.ntmps35
    go_wp2_with fail
    refine (l1In_no _ _ _ _ (by have := HH.out; omega)).mono ?_
    rintro e w1 ⟨rfl, rfl⟩
    go_wp2_with fail
    go_ret
    exact ⟨rfl, rfl⟩

theorem half_wrap (x : Nat) (h0 : 0 < x) (h : x < 15) : IntKind.i64.wrap ((x : Int) - 1) = (x : Int) - 1 ∧ IntKind.i64.wrap (((x : Int) - 1).tdiv 2) = (((x - 1) / 2 : Nat) : Int) := by
  constructor
  · simp [IntKind.wrap, IntKind.bits, IntKind.signed]; omega
  · rw [show ((x : Int) - 1) = ((x - 1 : Nat) : Int) by omega, Int.tdiv_eq_ediv_of_nonneg (by omega)]
    have : ((x - 1 : Nat) : Int) / 2 = (((x - 1) / 2 : Nat) : Int) := by omega
    rw [this]
    simp [IntKind.wrap, IntKind.bits, IntKind.signed]
    omega

set_option maxRecDepth 100000 in
set_option maxHeartbeats 4000000 in
theorem sTreUp_any (n : Int) (w : World) :
    Calls Try.prog 56 #[.int .i64 n] w fun e w' => ∃ v, e = .returned v ∧ OwnI w.heap.size w' v (upOf n) ∧ Below w.heap.size w w' := by
  obtain ⟨i0, hi, hz0, hz1, hz2⟩ := info_parts info_int2
  have hI := hide (And.intro hi (And.intro hz0 (And.intro hz1 hz2)))
  clear hi hz0 hz1 hz2
  have hO0 : Hid (OwnI w.heap.size (w.alloc (Obj.cells #[] 3)) (.slice (some ⟨w.heap.size, 0, none⟩) 0 0) []) := by
    have h := World.ownsRow_lit (base := w.heap.size) (e := 3) (size := 1) w #[] 0 (Nat.le_refl _) (by unfold maxLen; omega) rfl
    exact h
  have hL0 := hide ((Below.refl w.heap.size w).alloc (Nat.le_refl _) (Obj.cells #[] 3))
  by_cases h : 0 ≤ n ∧ n ≤ 14
  · obtain ⟨x, rfl⟩ : ∃ k : Nat, n = (k : Int) := ⟨n.toNat, by omega⟩
    have hx : x < 15 := by omega
    have hl : Hid (upOf (x : Int) = (ups x).map (fun (k : Nat) => (k : Int))) := by show upOf (x : Int) = _; unfold upOf; rw [if_pos h]; rfl
    clear h
    go_enter Try.func56, Try.ntmps56
    go_wp2_with fail
    refine (l1In_yes _ _ _ _ (by omega) (by omega)).mono ?_
    rintro e w1 ⟨rfl, rfl⟩
    go_wp2_with fail
    go_loopw [3, 4] (fun o i wr => ∃ (k : Nat) (out : List Int), k < 15 ∧ i = .int .i64 (k : Int) ∧ Hid (OwnI w.heap.size wr o out) ∧ Hid (Below w.heap.size w wr) ∧ Hid (out ++ (ups k).map (fun (k : Nat) => (k : Int)) = (ups x).map (fun (k : Nat) => (k : Int)))) (fun _ i _ => (intOf i).toNat)
    case atStart => exact ⟨x, [], hx, rfl, hO0, hL0, rfl⟩
    case round =>
      clear hO0 hL0
      obtain ⟨k, out, hk, rfl, hO, hL, hU⟩ := hrel
      have hle := hL.out.size
      have hol : out.length ≤ 3 := by
        have q := congrArg List.length hU.out
        rw [List.length_append, List.length_map, List.length_map] at q
        have := ups_len x hx
        omega
      by_cases h0 : 0 < k
      · have h02 : (0 : Int) < (k : Int) := by omega
        obtain ⟨i1, i2⟩ := half_wrap k h0 hk
        have hs := hide (ups_step k hk h0)
        have hp : (k - 1) / 2 < 15 := by omega
        have hpk : (k - 1) / 2 < k := by omega
        generalize (k - 1) / 2 = p at i2 hs hp hpk
        go_wp2_with (at_builtin; refine wpList_append_own _ rfl _ _ 36 rfl w.heap.size 3 i0 (.int .i64 0) 1 8 Try.underlying36 (unhide hI).1 (unhide hI).2.1 (unhide hI).2.2.1 (unhide hI).2.2.2 rfl (by decide) _ _ _ rfl ((unhide hO).alloc _) ⟨wr.heap.size, 0, none⟩ 1 1 [.int .i64 (p : Int)] rfl rfl ?c1 ?c2 ?c3 ?c4 ?c5 ?_)
        case c1 =>
          intro j u hj
          match j, hj with
          | 0, hj => simp at hj; subst hj; simp [Addr.add]
        case c2 => intro u hu; simp at hu; subst hu; rfl
        case c3 => unfold maxLen; omega
        case c4 => omega
        case c5 => simp; omega
        intro v' w7 hown' hgrow _
        have R := OwnI.grow (unhide hO) (unhide hL) (Nat.le_refl _) hown' hgrow
        have R1 := hide R.1
        have R2 := hide R.2
        have R3 : Hid ((out ++ [(p : Int)]) ++ (ups p).map (fun (k : Nat) => (k : Int)) = (ups x).map (fun (k : Nat) => (k : Int))) := by
          show (out ++ [(p : Int)]) ++ _ = _
          rw [← hU.out, hs.out, List.map_cons, List.append_assoc]
          rfl
        clear R hown' hgrow hO hL hU
        go_wp2_with fail
        go_roundw
        case rel => exact ⟨p, out ++ [(p : Int)], hp, rfl, R1, R2, R3⟩
        case measure => simp [intOf]; omega
      · have h02 : decide ((0 : Int) < (k : Int)) = false := by simp; omega
        have hk0 : k = 0 := by omega
        subst hk0
        have hU2 : Hid (out = upOf (x : Int)) := by
          show out = _
          have q := hU.out
          rw [ups_zero, List.map_nil, List.append_nil] at q
          rw [hl.out]
          exact q
        clear hU h0 hk
        go_wp2_with fail
        go_ret
        exact ⟨_, rfl, by rw [← hU2.out]; exact unhide hO, unhide hL⟩
  · have hl : Hid (upOf n = []) := by show upOf n = []; unfold upOf; rw [if_neg h]
    have HH := hide h
    clear h
    go_enter Try.func56, Try.ntmps56
    go_wp2_with fail
    refine (l1In_no _ _ _ _ (by have := HH.out; omega)).mono ?_
    rintro e w1 ⟨rfl, rfl⟩
    go_wp2_with fail
    go_ret
    exact ⟨_, rfl, by rw [hl.out]; exact unhide hO0, unhide hL0⟩
#print axioms sTreUp_any
end Go.Proofs.Ytkcopldlobomhaa
/-
  Contracts of MakNext, MakKey and MakEpoch, the program's and the specification's.
-/
namespace Go.Proofs.Ytkcopldlobomhaa
open Go.RowKit

theorem cap_yes {x : ByteArray} (h : x.size ≤ 300) : cap x = x := by unfold cap; rw [if_pos h]
theorem cap_no {x : ByteArray} (h : 300 < x.size) : cap x = ⟨#[]⟩ := by unfold cap; rw [if_neg (by omega)]

theorem method_next (x : Value) (w : World) : (method 245 92 x "loop.example/keyward/impl.name").run Try.prog w = .ok (104, x) w := by kernel_rfl
theorem method_key (x : Value) (w : World) : (method 245 61 x "loop.example/keyward/impl.name").run Try.prog w = .ok (103, x) w := by kernel_rfl
theorem method_epoch (x : Value) (w : World) : (method 245 105 x "loop.example/keyward/impl.name").run Try.prog w = .ok (105, x) w := by kernel_rfl

set_option maxHeartbeats 400000 in
theorem nextName_any (s : ByteArray) (w : World) (hs : s.size ≤ 300) :
    Calls Try.prog 104 #[.agg #[.string s]] w fun e w' => e = .returned (.string (nextT s)) ∧ Below w.heap.size w w' := by
  go_enter Try.func104, Try.ntmps104
  go_wp2
  go_ret
  exact ⟨ret_str rfl, (Below.refl _ _).alloc (Nat.le_refl _) _⟩

set_option maxHeartbeats 400000 in
theorem keyName_any (s : ByteArray) (w : World) (hs : s.size ≤ 300) :
    Calls Try.prog 103 #[.agg #[.string s]] w fun e w' => e = .returned (.string (keyT s)) ∧ Below w.heap.size w w' := by
  go_enter Try.func103, Try.ntmps103
  go_wp2
  go_ret
  exact ⟨ret_str rfl, (Below.refl _ _).alloc (Nat.le_refl _) _⟩

set_option maxHeartbeats 400000 in
theorem epochName_any (a b : ByteArray) (w : World) (ha : a.size ≤ 300) (hb : b.size ≤ 300) :
    Calls Try.prog 105 #[.agg #[.string a, .string b]] w fun e w' => e = .returned (.string (epochT a b)) ∧ Below w.heap.size w w' := by
  go_enter Try.func105, Try.ntmps105
  go_wp2
  go_ret
  exact ⟨ret_str rfl, (Below.refl _ _).alloc (Nat.le_refl _) _⟩

set_option maxRecDepth 100000 in
set_option maxHeartbeats 400000 in
theorem nameOf_next (s : ByteArray) (w : World) (hs : s.size ≤ 300) :
    Calls Try.prog 39 #[.iface 92 (.agg #[.string s])] w fun e w' => e = .returned (.string (cap (nextT s))) ∧ Below w.heap.size w w' := by
  have hm := method_next
  have hz := next_size s
  by_cases hc : (nextT s).size ≤ 300
  · rw [cap_yes hc]
    have hd : decide ((300 : Int) < ((nextT s).size : Int)) = false := by simp; omega
    clear hz hc
    go_enter Try.func39, Try.ntmps39
    go_wp2_with (go_at_call 104; refine (nextName_any _ _ hs).mono ?_; rintro e w' ⟨rfl, hb⟩)
    go_ret
    exact ⟨rfl, hb⟩
  · rw [cap_no (by omega)]
    have hd : (300 : Int) < ((nextT s).size : Int) := by omega
    clear hz hc
    go_enter Try.func39, Try.ntmps39
    go_wp2_with (go_at_call 104; refine (nextName_any _ _ hs).mono ?_; rintro e w' ⟨rfl, hb⟩)
    go_ret
    exact ⟨rfl, hb⟩

set_option maxHeartbeats 400000 in
theorem iMakNext_any (s : ByteArray) (w : World) (hm : s.size ≤ maxLen) :
    Calls Try.prog 52 #[.string s] w fun e w' => e = .returned (.string (mkNext s)) ∧ Below w.heap.size w w' := by
  have M := hide hm
  clear hm
  cases hk : Kw.ok s with
  | false =>
    rw [show mkNext s = ⟨#[]⟩ by unfold mkNext; rw [if_neg (by rw [hk]; simp)]]
    have K := hide hk
    clear hk
    go_enter Try.func52, Try.ntmps52
    go_wp2_with fail
    refine (iSecOk_any s _ M.out).mono ?_
    rw [K.out]
    rintro e w1 ⟨rfl, hb1⟩
    go_wp2_with fail
    go_ret
    exact ⟨rfl, hb1⟩
  | true =>
    rw [show mkNext s = cap (nextT s) by unfold mkNext; rw [if_pos hk]]
    have hs := (ok_facts hk).1
    have K := hide hk
    clear hk
    go_enter Try.func52, Try.ntmps52
    go_wp2_with fail
    refine (iSecOk_any s _ M.out).mono ?_
    rw [K.out]
    rintro e w1 ⟨rfl, hb1⟩
    go_wp2_with fail
    refine (nameOf_next s _ hs).mono ?_
    rintro e w2 ⟨rfl, hb2⟩
    go_wp2_with fail
    go_ret
    exact ⟨rfl, hb1.trans (hb2.mono hb1.size)⟩

set_option maxHeartbeats 400000 in
theorem sMakNext_any (s : ByteArray) (w : World) (hm : s.size ≤ maxLen) :
    Calls Try.prog 57 #[.string s] w fun e w' => e = .returned (.string (mkNext s)) ∧ Below w.heap.size w w' := by
  have M := hide hm
  clear hm
  cases hk : Kw.ok s with
  | false =>
    rw [show mkNext s = ⟨#[]⟩ by unfold mkNext; rw [if_neg (by rw [hk]; simp)]]
    have K := hide hk
    clear hk
    go_enter Try.func57, Try.ntmps57
    go_wp2_with fail
    refine (sSecOk_any s _ M.out).mono ?_
    rw [K.out]
    rintro e w1 ⟨rfl, hb1⟩
    go_wp2_with fail
    go_ret
    exact ⟨rfl, hb1⟩
  | true =>
    have hz := next_size s
    have hs := (ok_facts hk).1
    rw [show mkNext s = only (nextT s) by unfold mkNext; rw [if_pos hk, only_cap (by omega) (len_next hk)]]
    have M2 : Hid ((nextT s).size ≤ maxLen) := by show _ ≤ maxLen; unfold maxLen; omega
    have K := hide hk
    clear hk hz
    go_enter Try.func57, Try.ntmps57
    go_wp2_with fail
    refine (sSecOk_any s _ M.out).mono ?_
    rw [K.out]
    rintro e w1 ⟨rfl, hb1⟩
    go_wp2_with fail
    refine (l1Ok_any (nextT s) _ M2.out).mono ?_
    rintro e w2 ⟨rfl, hb2⟩
    go_wp2_with fail
    go_ret
    exact ⟨rfl, hb1.trans (hb2.mono hb1.size)⟩
set_option maxRecDepth 100000 in
set_option maxHeartbeats 400000 in
theorem nameOf_key (s : ByteArray) (w : World) (hs : s.size ≤ 300) :
    Calls Try.prog 39 #[.iface 61 (.agg #[.string s])] w fun e w' => e = .returned (.string (cap (keyT s))) ∧ Below w.heap.size w w' := by
  have hm := method_key
  have hz := key_size s
  by_cases hc : (keyT s).size ≤ 300
  · rw [cap_yes hc]
    have hd : decide ((300 : Int) < ((keyT s).size : Int)) = false := by simp; omega
    clear hz hc
    go_enter Try.func39, Try.ntmps39
    go_wp2_with (go_at_call 103; refine (keyName_any _ _ hs).mono ?_; rintro e w' ⟨rfl, hb⟩)
    go_ret
    exact ⟨rfl, hb⟩
  · rw [cap_no (by omega)]
    have hd : (300 : Int) < ((keyT s).size : Int) := by omega
    clear hz hc
    go_enter Try.func39, Try.ntmps39
    go_wp2_with (go_at_call 103; refine (keyName_any _ _ hs).mono ?_; rintro e w' ⟨rfl, hb⟩)
    go_ret
    exact ⟨rfl, hb⟩

set_option maxHeartbeats 400000 in
theorem iMakKey_any (s : ByteArray) (w : World) (hm : s.size ≤ maxLen) :
    Calls Try.prog 14 #[.string s] w fun e w' => e = .returned (.string (mkKey s)) ∧ Below w.heap.size w w' := by
  have M := hide hm
  clear hm
  cases hk : Kw.ok s with
  | false =>
    rw [show mkKey s = ⟨#[]⟩ by unfold mkKey; rw [if_neg (by rw [hk]; simp)]]
    have K := hide hk
    clear hk
    go_enter Try.func14, Try.ntmps14
    go_wp2_with fail
    refine (iSecOk_any s _ M.out).mono ?_
    rw [K.out]
    rintro e w1 ⟨rfl, hb1⟩
    go_wp2_with fail
    go_ret
    exact ⟨rfl, hb1⟩
  | true =>
    rw [show mkKey s = cap (keyT s) by unfold mkKey; rw [if_pos hk]]
    have hs := (ok_facts hk).1
    have K := hide hk
    clear hk
    go_enter Try.func14, Try.ntmps14
    go_wp2_with fail
    refine (iSecOk_any s _ M.out).mono ?_
    rw [K.out]
    rintro e w1 ⟨rfl, hb1⟩
    go_wp2_with fail
    refine (nameOf_key s _ hs).mono ?_
    rintro e w2 ⟨rfl, hb2⟩
    go_wp2_with fail
    go_ret
    exact ⟨rfl, hb1.trans (hb2.mono hb1.size)⟩

set_option maxHeartbeats 400000 in
theorem sMakKey_any (s : ByteArray) (w : World) (hm : s.size ≤ maxLen) :
    Calls Try.prog 55 #[.string s] w fun e w' => e = .returned (.string (mkKey s)) ∧ Below w.heap.size w w' := by
  have M := hide hm
  clear hm
  cases hk : Kw.ok s with
  | false =>
    rw [show mkKey s = ⟨#[]⟩ by unfold mkKey; rw [if_neg (by rw [hk]; simp)]]
    have K := hide hk
    clear hk
    go_enter Try.func55, Try.ntmps55
    go_wp2_with fail
    refine (sSecOk_any s _ M.out).mono ?_
    rw [K.out]
    rintro e w1 ⟨rfl, hb1⟩
    go_wp2_with fail
    go_ret
    exact ⟨rfl, hb1⟩
  | true =>
    have hz := key_size s
    have hs := (ok_facts hk).1
    rw [show mkKey s = only (keyT s) by unfold mkKey; rw [if_pos hk, only_cap (by omega) (len_key hk)]]
    have M2 : Hid ((keyT s).size ≤ maxLen) := by show _ ≤ maxLen; unfold maxLen; omega
    have K := hide hk
    clear hk hz
    go_enter Try.func55, Try.ntmps55
    go_wp2_with fail
    refine (sSecOk_any s _ M.out).mono ?_
    rw [K.out]
    rintro e w1 ⟨rfl, hb1⟩
    go_wp2_with fail
    refine (l1Ok_any (keyT s) _ M2.out).mono ?_
    rintro e w2 ⟨rfl, hb2⟩
    go_wp2_with fail
    go_ret
    exact ⟨rfl, hb1.trans (hb2.mono hb1.size)⟩
set_option maxRecDepth 100000 in
set_option maxHeartbeats 400000 in
theorem nameOf_epoch (a b : ByteArray) (w : World) (ha : a.size ≤ 300) (hb : b.size ≤ 300) :
    Calls Try.prog 39 #[.iface 105 (.agg #[.string a, .string b])] w fun e w' => e = .returned (.string (cap (epochT a b))) ∧ Below w.heap.size w w' := by
  have hm := method_epoch
  have hz := epoch_size a b
  by_cases hc : (epochT a b).size ≤ 300
  · rw [cap_yes hc]
    have hd : decide ((300 : Int) < ((epochT a b).size : Int)) = false := by simp; omega
    clear hz hc
    go_enter Try.func39, Try.ntmps39
    go_wp2_with (go_at_call 105; refine (epochName_any _ _ _ ha hb).mono ?_; rintro e w' ⟨rfl, hb⟩)
    go_ret
    exact ⟨rfl, hb⟩
  · rw [cap_no (by omega)]
    have hd : (300 : Int) < ((epochT a b).size : Int) := by omega
    have hd2 : ((epochT a b).size : Int) ≤ 1000 := by omega
    clear hz hc
    go_enter Try.func39, Try.ntmps39
    go_wp2_with (go_at_call 105; refine (epochName_any _ _ _ ha hb).mono ?_; rintro e w' ⟨rfl, hb⟩)
    go_ret
    exact ⟨rfl, hb⟩

set_option maxHeartbeats 400000 in
theorem sMakEpoch_any (a b : ByteArray) (w : World) (hm : a.size ≤ maxLen) (hn : b.size ≤ maxLen) :
    Calls Try.prog 66 #[.string a, .string b] w fun e w' => e = .returned (.string (mkEpoch a b)) ∧ Below w.heap.size w w' := by
  have M := hide hm
  have N := hide hn
  clear hm hn
  cases hk : Kw.ok a with
  | false =>
    rw [show mkEpoch a b = ⟨#[]⟩ by unfold mkEpoch; rw [if_neg (by rw [hk]; simp)]]
    have K := hide hk
    clear hk
    go_enter Try.func66, Try.ntmps66
    go_wp2_with fail
    refine (sSecOk_any a _ M.out).mono ?_
    rw [K.out]
    rintro e w1 ⟨rfl, hb1⟩
    go_wp2_with fail
    go_ret
    exact ⟨rfl, hb1⟩
  | true =>
    cases hj : Kw.ok b with
    | false =>
      rw [show mkEpoch a b = ⟨#[]⟩ by unfold mkEpoch; rw [if_neg (by rw [hj]; simp)]]
      have K := hide hk
      have J := hide hj
      clear hk hj
      go_enter Try.func66, Try.ntmps66
      go_wp2_with fail
      refine (sSecOk_any a _ M.out).mono ?_
      rw [K.out]
      rintro e w1 ⟨rfl, hb1⟩
      go_wp2_with fail
      refine (sSecOk_any b _ N.out).mono ?_
      rw [J.out]
      rintro e w2 ⟨rfl, hb2⟩
      go_wp2_with fail
      go_ret
      exact ⟨rfl, hb1.trans (hb2.mono hb1.size)⟩
    | true =>
      have ha := (ok_facts hk).1
      have hb := (ok_facts hj).1
      have hz := epoch_size a b
      rw [show mkEpoch a b = only (epochT a b) by unfold mkEpoch; rw [if_pos ⟨hk, hj⟩, only_cap (by omega) (len_epoch hk hj)]]
      have M2 : Hid ((epochT a b).size ≤ maxLen) := by show _ ≤ maxLen; unfold maxLen; omega
      have K := hide hk
      have J := hide hj
      clear hk hj hz
      go_enter Try.func66, Try.ntmps66
      go_wp2_with fail
      refine (sSecOk_any a _ M.out).mono ?_
      rw [K.out]
      rintro e w1 ⟨rfl, hb1⟩
      go_wp2_with fail
      refine (sSecOk_any b _ N.out).mono ?_
      rw [J.out]
      rintro e w2 ⟨rfl, hb2⟩
      go_wp2_with fail
      refine (l1Ok_any (epochT a b) _ M2.out).mono ?_
      rintro e w3 ⟨rfl, hb3⟩
      go_wp2_with fail
      go_ret
      have hb12 := hb1.trans (hb2.mono hb1.size)
      exact ⟨rfl, hb12.trans (hb3.mono hb12.size)⟩

#print axioms sMakNext_any
#print axioms sMakKey_any
#print axioms sMakEpoch_any
end Go.Proofs.Ytkcopldlobomhaa
/-
  The specification's l4Path.
-/
namespace Go.Proofs.Ytkcopldlobomhaa
open Go.RowKit Go.Shelf

theorem two_new (w : World) (x y : Value) (t : TypeId) : ∀ j u, [x, y][j]? = some u → (w.alloc (.cells #[x, y] t)).cell? (Addr.add ⟨w.heap.size, 0, none⟩ j) = some u := by
  intro j u hj
  match j, hj with
  | 0, hj => simp at hj; subst hj; simp [Addr.add, go_sem]
  | 1, hj => simp at hj; subst hj; simp [Addr.add, go_sem]

set_option maxRecDepth 100000 in
set_option maxHeartbeats 4000000 in
theorem l4Path_any (n : Nat) (hn : n < 15) (s : ByteArray) (hss : s.size ≤ 300) (w : World) :
    Calls Try.prog 34 #[.int .i64 (n : Int), .string s] w fun e w' => ∃ v, e = .returned v ∧ OwnM w.heap.size w' v (pathOf (chainOf (n : Int)) s) ∧ Below w.heap.size w w' := by
  obtain ⟨i0, hi, hz0, hz1, hz2⟩ := info_parts info_mo
  have hI := hide (And.intro hi (And.intro hz0 (And.intro hz1 hz2)))
  clear hi hz0 hz1 hz2
  have HCH : Hid (chainOf (n : Int) = (n : Int) :: upOf (n : Int)) := by show _ = _; unfold chainOf; rw [if_pos (by omega)]
  have HUL : Hid ((upOf (n : Int)).length ≤ 4) := by show _ ≤ _; rw [upOf_nat n hn, List.length_map]; have := ups_len n hn; omega
  have hO0 : Hid (OwnM w.heap.size (w.alloc (.cells #[.int .i64 (n : Int), .string s] 55)) (.slice (some ⟨w.heap.size, 0, none⟩) 1 1) (pathOf ((n : Int) :: (upOf (n : Int)).take 0) s)) := World.ownsRow_lit (base := w.heap.size) (e := 55) (size := 2) w #[.int .i64 (n : Int), .string s] 1 (Nat.le_refl _) (by unfold maxLen; omega) rfl
  have hB0 : Hid (Below w.heap.size w (w.alloc (.cells #[.int .i64 (n : Int), .string s] 55))) := (Below.refl _ _).alloc (Nat.le_refl _) _
  go_enter Try.func34, Try.ntmps34
  go_wp2_with fail
  refine (sTreUp_any _ _).mono ?_
  rintro e w2 ⟨u2, rfl, ho2, hb2⟩
  generalize upOf (n : Int) = N at *
  have U2 := hide ho2
  have O2 : Hid (OwnM w.heap.size w2 _ _) := own_below' (unhide hO0) hb2
  have HB2 := hide (hB0.out.trans (hb2.mono hB0.out.size))
  obtain ⟨uo, uc, rfl⟩ := row_form' ho2
  generalize (w.alloc (.cells #[.int .i64 (n : Int), .string s] 55)).heap.size = Bu at U2
  clear ho2 hb2 hO0 hB0
  go_wp2_with fail
  go_loopw [1, 5, 7] (fun sv o i wr => ∃ j : Nat, j ≤ N.length ∧ i = .int .i64 (j : Int) ∧ sv = .string (nextN s j) ∧ (∃ oo oc, o = .slice oo (j + 1) oc) ∧ Hid (OwnM w.heap.size wr o (pathOf ((n : Int) :: N.take j) s)) ∧ Hid (OwnI Bu wr (.slice uo N.length uc) N) ∧ Hid (Below w.heap.size w wr)) (fun _ _ i _ => N.length - (intOf i).toNat)
  case atStart => exact ⟨0, by omega, rfl, rfl, ⟨_, _, rfl⟩, O2, U2, HB2⟩
  case round =>
    clear O2 U2 HB2
    obtain ⟨j, hj, rfl, rfl, ⟨oo, oc, rfl⟩, hO, hU, hB⟩ := hrel
    by_cases hlt : j < N.length
    · have hlt2 : (j : Int) < (N.length : Int) := by omega
      have i3 : IntKind.i64.wrap ((j : Int) + 1) = (j : Int) + 1 := by have := HUL.out; simp [IntKind.wrap, IntKind.bits, IntKind.signed]; omega
      have hns := nextN_size s hss j
      have HNX : Hid (nextN s (j + 1) = mkNext (nextN s j)) := rfl
      have HTK : Hid (pathOf ((n : Int) :: N.take (j + 1)) s = pathOf ((n : Int) :: N.take j) s ++ [(N.getD j 0, nextN s (j + 1))]) := by
        show _ = _
        rw [List.take_succ_eq_append_getElem hlt, ← List.cons_append, pathOf_snoc, List.getD_eq_getElem?_getD, List.getElem?_eq_getElem hlt]
        simp [Nat.min_eq_left (Nat.le_of_lt hlt)]
      have HPL : Hid ((pathOf ((n : Int) :: N.take j) s).length = j + 1) := by show _ = _; rw [pathOf_len]; simp [Nat.min_eq_left (Nat.le_of_lt hlt)]
      generalize pathOf ((n : Int) :: N.take j) s = P at *
      generalize hsc : nextN s j = sc at *
      go_wp2_with fail
      refine (sMakNext_any sc _ (le_maxLen (by omega))).mono ?_
      rw [← HNX.out]
      rintro e wn ⟨rfl, hbn⟩
      have hUn := hide (own_below' (unhide hU) hbn)
      have hO1 : wn.ownsRow w.heap.size 55 2 (.slice oo (j + 1) oc) P.length (mcells P) := own_below' (unhide hO) hbn
      rw [HPL.out] at hO1
      have hOn := hide hO1
      have hBn := hide (hB.out.trans (hbn.mono hB.out.size))
      have hsz := hBn.out.size
      clear hbn hO hU hB hO1 HNX hsc
      obtain ⟨q0, q1, q2, _, _, q5⟩ := (OwnI.irow (unhide hUn)).form
      simp only [Value.slice.injEq] at q2
      obtain ⟨rfl, _, rfl⟩ := q2
      obtain ⟨ad, rfl, hck⟩ := q5 j hlt
      clear q5
      have HUL2 := HUL.out
      generalize N.getD j 0 = x at *
      generalize hsn : nextN s (j + 1) = sn at *
      have HSN := hide hsn
      clear hsn
      go_wp2_with (at_builtin; refine wpList_append_own _ rfl _ _ 28 rfl w.heap.size 55 i0 (.agg #[.int .i64 0, .string ⟨#[]⟩]) 2 24 underMo (unhide hI).1 (unhide hI).2.1 (unhide hI).2.2.1 (unhide hI).2.2.2 rfl (by decide) _ _ _ rfl (World.ownsRow.alloc (unhide hOn) _) ⟨wn.heap.size, 0, none⟩ 1 1 [.int .i64 x, .string sn] rfl rfl (two_new _ _ _ _) (by intro u hu; simp at hu; rcases hu with rfl | rfl <;> rfl) (by unfold maxLen; omega) (by omega) (by simp; omega) ?_)
      intro v' w3 hown' hgrow _
      have hU3 : Hid (OwnI Bu w3 (.slice (some ad) N.length uc) N) := World.ownsRow.kept (World.ownsRow.alloc (unhide hUn) (.cells #[.int .i64 x, .string sn] 55)) hgrow (row_apart (World.ownsRow.alloc (unhide hUn) (.cells #[.int .i64 x, .string sn] 55)) (World.ownsRow.alloc (unhide hOn) (.cells #[.int .i64 x, .string sn] 55)) (by decide))
      have hB3 : Hid (Below w.heap.size w w3) := ((unhide hBn).alloc hsz _).grown hgrow (by simp; omega) (fun k hk => (World.ownsRow.lt (unhide hOn) k hk).1)
      have hO3 : Hid (OwnM w.heap.size w3 v' (P ++ [(x, sn)])) := by
        show OwnM _ _ _ _
        unfold OwnM
        rw [List.length_append, HPL.out, mcells_snoc]
        exact hown'
      obtain ⟨vo, vc, rfl⟩ := row_form' hown'
      clear hown' hgrow hOn hUn hBn
      go_wp2_with fail
      go_roundw
      case rel => exact ⟨j + 1, by omega, by simp, by rw [HSN.out], ⟨_, _, rfl⟩, by rw [HTK.out]; exact unhide hO3, hU3, hB3⟩
      case measure => simp [intOf]; omega
    · have hlt2 : decide ((j : Int) < (N.length : Int)) = false := by simp; omega
      have hjn : j = N.length := by omega
      subst hjn
      go_wp2_with fail
      go_ret
      refine ⟨_, rfl, ?_, unhide hB⟩
      have q := unhide hO
      rw [List.take_length, ← HCH.out] at q
      exact q
#print axioms l4Path_any
end Go.Proofs.Ytkcopldlobomhaa
/-
  append of all of one row onto a slice of the call's own, whatever the row is, none too. No Go function in it.
-/
namespace Go.Proofs.Ytkcopldlobomhaa
open Go.RowKit

section
variable {P : Program} (w : World)
theorem grownBy_refl (r : Option Nat) : w.grownBy w r := ⟨rfl, rfl, rfl, Nat.le_refl _, fun _ _ _ => rfl⟩
theorem wpList_append_row {ops : Array Oper} {rest : List Oper} {o : Oper} {a : Act} {Q : Exit → Act → World → Prop} (hgd : o.guard = none) (s x : Operand) (t : TypeId)
    (ho : o.op = .call { callee := .builtin .append, args := #[s, x], argTypes := #[t, t] })
    (base : Nat) (e : TypeId) (i : TypeInfo) (z : Value) (size bytes : Nat) (ht : P.underlying t = some (.slice e)) (hi : P.info? e = some i) (hz : i.zero = some z)
    (hsize : i.size = size) (hby : i.bytes = bytes) (hzs : z.cells.size = size) (hsz : 0 < size)
    (v : Value) (n : Nat) (xs : List Value) (hs : a.eval s = v) (hown : w.ownsRow base e size v n xs)
    (y : Value) (m : Nat) (news : List Value) (hx : a.eval x = y)
    (hy : (y = .slice none 0 0 ∧ m = 0 ∧ news = []) ∨ ∃ ad c, y = .slice (some ad) m c ∧ news.length = m * size ∧ ∀ j u, news[j]? = some u → w.cell? (ad.add j) = some u) (h1 : ∀ u ∈ news, u.oneCell' = true)
    (h63 : n + m ≤ maxLen) (hbytes : (n + m) * bytes ≤ 140737488355328) (hbase : base ≤ w.heap.size)
    (h : ∀ v' w', w'.ownsRow base e size v' (n + m) (xs ++ news) → w.grownBy w' v.ownBlock → wpList P ops Q rest (a.put o.dst v') w') : wpList P ops Q (o :: rest) a w := by
  rcases hy with ⟨rfl, rfl, rfl⟩ | ⟨ad, c, rfl, hl, hnews⟩
  · refine wpList_plain hgd fun _ hK => ?_
    refine Go.Lib.wp_append_run w s x t t ho v (.slice none 0 0) hs hx v w (run_append_owned_none _ base t o.type e i size ht hi v n xs hown) (hK _ _ (h v w (by simpa using hown) (grownBy_refl w _)))
  · exact wpList_append_own _ hgd s x t ho base e i z size bytes ht hi hz hsize hby hzs hsz v n xs hs hown ad m c news hx hl hnews h1 h63 hbytes hbase (fun v' w' h2 h3 _ => h v' w' h2 h3)
end

section
variable {P : Program} (w : World)
theorem wp_append_row {o : Oper} {a : Act} {K : Act → World → Prop} {Q : Exit → Act → World → Prop} (s x : Operand) (t : TypeId)
    (ho : o.op = .call { callee := .builtin .append, args := #[s, x], argTypes := #[t, t] })
    (base : Nat) (e : TypeId) (i : TypeInfo) (z : Value) (size bytes : Nat) (ht : P.underlying t = some (.slice e)) (hi : P.info? e = some i) (hz : i.zero = some z)
    (hsize : i.size = size) (hby : i.bytes = bytes) (hzs : z.cells.size = size) (hsz : 0 < size)
    (v : Value) (n : Nat) (xs : List Value) (hs : a.eval s = v) (hown : w.ownsRow base e size v n xs)
    (y : Value) (m : Nat) (news : List Value) (hx : a.eval x = y)
    (hy : (y = .slice none 0 0 ∧ m = 0 ∧ news = []) ∨ ∃ ad c, y = .slice (some ad) m c ∧ news.length = m * size ∧ ∀ j u, news[j]? = some u → w.cell? (ad.add j) = some u) (h1 : ∀ u ∈ news, u.oneCell' = true)
    (h63 : n + m ≤ maxLen) (hbytes : (n + m) * bytes ≤ 140737488355328) (hbase : base ≤ w.heap.size)
    (h : ∀ v' w', w'.ownsRow base e size v' (n + m) (xs ++ news) → w.grownBy w' v.ownBlock → K (a.put o.dst v') w') : o.wp P a w K Q := by
  rcases hy with ⟨rfl, rfl, rfl⟩ | ⟨ad, c, rfl, hl, hnews⟩
  · exact Go.Lib.wp_append_run w s x t t ho v (.slice none 0 0) hs hx v w (run_append_owned_none _ base t o.type e i size ht hi v n xs hown) (h v w (by simpa using hown) (grownBy_refl w _))
  · exact wp_append_own w s x t ho base e i z size bytes ht hi hz hsize hby hzs hsz v n xs hs hown ad m c news hx hl hnews h1 h63 hbytes hbase (fun v' w' h2 h3 _ => h v' w' h2 h3)
end

/-- A row of numbers as what is appended. -/
theorem IRow.news {w : World} {v : Value} {xs : List Int} (h : IRow w v xs) :
    (v = .slice none 0 0 ∧ xs.length = 0 ∧ xs.map (Value.int .i64) = []) ∨ ∃ ad c, v = .slice (some ad) xs.length c ∧ (xs.map (Value.int .i64)).length = xs.length * 1 ∧ ∀ j u, (xs.map (Value.int .i64))[j]? = some u → w.cell? (ad.add j) = some u := by
  rcases h with ⟨rfl, rfl⟩ | ⟨a, cap, rfl, h1, h2, h3⟩
  · exact .inl ⟨rfl, rfl, rfl⟩
  · refine .inr ⟨a, cap, rfl, by simp, fun j u hj => ?_⟩
    rw [List.getElem?_map] at hj
    cases hx : xs[j]? with
    | none => rw [hx] at hj; cases hj
    | some x =>
      rw [hx] at hj
      have hlt := (List.getElem?_eq_some_iff.1 hx).1
      rw [h3 j hlt, List.getD_eq_getElem?_getD, hx]
      simpa using hj
/-- A row of texts as what is appended. -/
theorem SRow.news {w : World} {v : Value} {xs : List ByteArray} (h : SRow w v xs) :
    (v = .slice none 0 0 ∧ xs.length = 0 ∧ xs.map Value.string = []) ∨ ∃ ad c, v = .slice (some ad) xs.length c ∧ (xs.map Value.string).length = xs.length * 1 ∧ ∀ j u, (xs.map Value.string)[j]? = some u → w.cell? (ad.add j) = some u := by
  rcases h with ⟨rfl, rfl⟩ | ⟨a, cap, rfl, h1, h2, h3⟩
  · exact .inl ⟨rfl, rfl, rfl⟩
  · refine .inr ⟨a, cap, rfl, by simp, fun j u hj => ?_⟩
    rw [List.getElem?_map] at hj
    cases hx : xs[j]? with
    | none => rw [hx] at hj; cases hj
    | some x =>
      rw [hx] at hj
      have hlt := (List.getElem?_eq_some_iff.1 hx).1
      rw [h3 j hlt, List.getD_eq_getElem?_getD, hx]
      simpa using hj
theorem texts_one (xs : List ByteArray) : ∀ u ∈ xs.map Value.string, u.oneCell' = true := by
  intro u hu
  obtain ⟨x, _, rfl⟩ := List.mem_map.1 hu
  rfl
theorem ints_one (xs : List Int) : ∀ u ∈ xs.map (Value.int .i64), u.oneCell' = true := by
  intro u hu
  obtain ⟨x, _, rfl⟩ := List.mem_map.1 hu
  rfl
#print axioms IRow.news
end Go.Proofs.Ytkcopldlobomhaa
/-
  A region that draws its order: whatever yields its value in every later world may be taken first; so what makes or writes memory alone comes up, one by one; what waits for all others may write what it likes.
-/
namespace Go.Proofs.Ytkcopldlobomhaa
open Go.RowKit

/-- An order of worlds. -/
structure Pre (R : World → World → Prop) : Prop where
  refl : ∀ w, R w w
  trans : ∀ u v w, R u v → R v w → R u w

section
variable {P : Program} {ops : Array Oper} {Q : Exit → Act → World → Prop} {md : Region.Mode} {R : World → World → Prop}

/-- Operation j waits for all others. -/
def waitsB (md : Region.Mode) (ops : Array Oper) (j : Nat) : Bool :=
  (List.range ops.size).all fun k => k == j || ((ops[j]?).map (fun o => o.after.any fun e => Region.binds md e && e.on == k)).getD false

/-- Whatever order is picked from here on, and each operation leads from a world to a later one, but one that waits for all others. -/
def wpAnyR (P : Program) (md : Region.Mode) (ops : Array Oper) (Q : Exit → Act → World → Prop) (R : World → World → Prop) : Nat → Array Bool → Act → World → Prop
  | 0, listed, a, w => Region.ready md ops listed = [] ∧ Q .normal a w
  | fuel + 1, listed, a, w =>
    (Region.ready md ops listed = [] → Q .normal a w) ∧
    ∀ i ∈ Region.ready md ops listed, wpOp P ops Q i (fun a' w' => (waitsB md ops i = true ∧ Region.ready md ops (listed.setIfInBounds i true) = [] ∧ Q .normal a' w') ∨ (R w w' ∧ wpAnyR P md ops Q R fuel (listed.setIfInBounds i true) a' w')) a w

theorem wpAny_of_R : ∀ (fuel : Nat) (listed : Array Bool) (a : Act) (w : World), wpAnyR P md ops Q R fuel listed a w → wpAny P md ops Q fuel listed a w
  | 0, _, _, _, h => h
  | fuel + 1, _, _, _, h => ⟨h.1, fun i hi => wpOp_mono (fun a' w' h' => by
      rcases h' with ⟨_, h1, h2⟩ | h'
      · cases fuel with
        | zero => exact ⟨h1, h2⟩
        | succ f => exact ⟨fun _ => h2, by rw [h1]; simp⟩
      · exact wpAny_of_R fuel _ a' w' h'.2) (h.2 i hi)⟩

theorem YieldsIf.later {S S' : World → Prop} {o : Oper} {v : Value} {a : Act} (h : YieldsIf P ops S o v a) (hs : ∀ w, S' w → S w) : YieldsIf P ops S' o v a :=
  h.imp (fun ⟨hw, hv⟩ => ⟨hw, fun w hS => hv w (hs w hS)⟩) id

theorem waits_spec {j i : Nat} {oj : Oper} (hj : ops[j]? = some oj) (h : waitsB md ops j = true) (hi : i < ops.size) (hne : i ≠ j) : ∃ e ∈ oj.after, Region.binds md e = true ∧ e.on = i := by
  unfold waitsB at h
  rw [List.all_eq_true] at h
  have h1 := h i (by rw [List.mem_range]; exact hi)
  rw [hj] at h1
  simp only [Option.map_some, Option.getD_some, Bool.or_eq_true, beq_iff_eq, hne, false_or, Array.any_eq_true', Bool.and_eq_true] at h1
  exact h1

theorem wpAnyR_first (hP : Pre R) {i : Nat} {oi : Oper} {v : Value} (hi : ops[i]? = some oi) (hsel : ∀ (j : Nat) (o : Oper) cs b, ops[j]? = some o → o.op ≠ .select cs b)
    (hQ : ∀ c a w, Q (.panic c) (a.put oi.dst v) w → Q (.panic c) a w) :
    ∀ (fuel : Nat) (listed : Array Bool) (a : Act) (w : World),
      (∀ j oj, ops[j]? = some oj → j ≠ i → listed.getD j true = false → (∀ e ∈ oj.after, Region.binds md e = true → e.on ≠ i) → oi.apart ops oj = true) →
      i ∈ Region.ready md ops listed → YieldsIf P ops (R w) oi v a →
      wpAnyR P md ops Q R fuel (listed.setIfInBounds i true) (a.put oi.dst v) w → wpAnyR P md ops Q R (fuel + 1) listed a w := by
  intro fuel
  induction fuel with
  | zero =>
    intro listed a w _ hr hy H
    refine ⟨fun h => (by rw [h] at hr; cases hr), fun j hj => ?_⟩
    by_cases hji : j = i
    · subst hji; exact hy.wpOp hi (hP.refl w) (.inr ⟨hP.refl w, H⟩)
    · have := ready_mono hj hji
      rw [H.1] at this
      cases this
  | succ fuel ih =>
    intro listed a w hfree hr hy H
    refine ⟨fun h => (by rw [h] at hr; cases hr), fun j hj => ?_⟩
    by_cases hji : j = i
    · subst hji; exact hy.wpOp hi (hP.refl w) (.inr ⟨hP.refl w, H⟩)
    · have h1 := H.2 j (ready_mono hj hji)
      obtain ⟨hjun, oj, hoj, hall⟩ := mem_ready.1 hj
      have hnot : ∀ e ∈ oj.after, Region.binds md e = true → e.on ≠ i := fun e he hb heq => by
        have h1 := hall e he hb
        have h0 := (mem_ready.1 hr).1
        rw [heq] at h1
        rcases Nat.lt_or_ge i listed.size with h' | h'
        · simp [h'] at h0 h1; rw [h0] at h1; cases h1
        · simp [Array.getElem?_eq_none h'] at h1
      have hnw : ¬ waitsB md ops j = true := fun q => by
        obtain ⟨e, he, hb, heq⟩ := waits_spec hoj q (Array.getElem?_eq_some_iff.1 hi).1 (Ne.symm hji)
        exact hnot e he hb heq
      have h2 := wpOp_putIf hoj (hfree j oj hoj hji hjun hnot) (fun cs b => hsel i oi cs b hi) (fun cs b => hsel j oj cs b hoj) hQ hy h1
      have hfree' : ∀ k ok, ops[k]? = some ok → k ≠ i → (listed.setIfInBounds j true).getD k true = false →
          (∀ e ∈ ok.after, Region.binds md e = true → e.on ≠ i) → oi.apart ops ok = true := fun k ok hk hki hun hno => by
        refine hfree k ok hk hki ?_ hno
        by_cases hjk : j = k
        · subst hjk; exact hjun
        · rw [getD_set_ne true hjk] at hun; exact hun
      refine wpOp_mono (fun a' w' h3 => ?_) h2
      rcases h3.2 with ⟨q, _⟩ | ⟨h4, h5⟩
      · exact absurd q hnw
      refine .inr ⟨h4, ih (listed.setIfInBounds j true) a' w' hfree' (ready_mono hr (Ne.symm hji)) (YieldsIf.later h3.1 (fun u hu => hP.trans _ _ _ h4 hu)) ?_⟩
      rw [Array.setIfInBounds_comm _ _ hji]
      exact h5

/-- Take number i first: it yields v in every later world. -/
theorem ord_take (hP : Pre R) {i d : Nat} {v : Value} {fuel : Nat} {listed : Array Bool} {a : Act} {w : World}
    (hs : Region.noSelect ops = true) (hf : Region.free md ops listed i = true) (hr : (Region.ready md ops listed).contains i = true) (hd : (ops[i]?).bind (·.dst) = some d)
    (hQ : ∀ c a w, Q (.panic c) (a.put (some d) v) w → Q (.panic c) a w)
    (hy : ∀ oi, ops[i]? = some oi → Region.wanted oi (yielded ops a.tmps) = true ∧ ∀ w', R w w' → (execOp a.eval oi).run P w' = .ok (.value v) w')
    (h : wpAnyR P md ops Q R fuel (listed.setIfInBounds i true) (a.put (some d) v) w) : wpAnyR P md ops Q R (fuel + 1) listed a w := by
  cases hi : ops[i]? with
  | none => rw [hi] at hd; cases hd
  | some oi =>
    rw [hi] at hd
    have hd' : oi.dst = some d := hd
    rw [← hd'] at h hQ
    exact wpAnyR_first hP hi (Region.noSelect_spec hs) hQ fuel listed a w (Region.free_spec hi hf) (by simpa using hr) (.inl (hy oi hi)) h
/-- Take number i first: it is not wanted. -/
theorem ord_skip (hP : Pre R) {i d : Nat} {fuel : Nat} {listed : Array Bool} {a : Act} {w : World}
    (hs : Region.noSelect ops = true) (hf : Region.free md ops listed i = true) (hr : (Region.ready md ops listed).contains i = true) (hd : (ops[i]?).bind (·.dst) = some d)
    (hQ : ∀ c a w, Q (.panic c) (a.put (some d) undef) w → Q (.panic c) a w)
    (hy : ((ops[i]?).map fun oi => Region.wanted oi (yielded ops a.tmps)) = some false)
    (h : wpAnyR P md ops Q R fuel (listed.setIfInBounds i true) (a.put (some d) undef) w) : wpAnyR P md ops Q R (fuel + 1) listed a w := by
  cases hi : ops[i]? with
  | none => rw [hi] at hd; cases hd
  | some oi =>
    rw [hi] at hd hy
    have hd' : oi.dst = some d := hd
    rw [← hd'] at h hQ
    exact wpAnyR_first hP hi (Region.noSelect_spec hs) hQ fuel listed a w (Region.free_spec hi hf) (by simpa using hr) (.inr ⟨by simpa using hy, rfl⟩) h
/-- Number i alone comes up. -/
theorem ord_one {i : Nat} {fuel : Nat} {listed : Array Bool} {a : Act} {w : World} (hr : Region.ready md ops listed = [i])
    (h : ∀ oi K, ops[i]? = some oi → Shut (∀ a' w', R w w' → wpAnyR P md ops Q R fuel (listed.setIfInBounds i true) a' w' → K a' w') → Region.wanted oi (yielded ops a.tmps) = true ∧ oi.wp P a w K Q) : wpAnyR P md ops Q R (fuel + 1) listed a w := by
  refine ⟨fun h0 => (by rw [hr] at h0; cases h0), fun j hj => ?_⟩
  rw [hr] at hj
  obtain rfl : j = i := by simpa using hj
  unfold wpOp
  cases hi : ops[j]? with
  | none =>
    have : j ∈ Region.ready md ops listed := by rw [hr]; simp
    obtain ⟨_, o, ho, _⟩ := mem_ready.1 this
    rw [hi] at ho
    cases ho
  | some oi =>
    obtain ⟨hw, hwp⟩ := h oi (fun a' w' => (waitsB md ops j = true ∧ Region.ready md ops (listed.setIfInBounds j true) = [] ∧ Q .normal a' w') ∨ (R w w' ∧ wpAnyR P md ops Q R fuel (listed.setIfInBounds j true) a' w')) hi (fun a' w' hl hk => .inr (And.intro hl hk))
    simp only [hw, if_true]
    exact .inl hwp
/-- Number i comes up last: it waits for all others. -/
theorem ord_last {i : Nat} {fuel : Nat} {listed : Array Bool} {a : Act} {w : World} (hr : Region.ready md ops listed = [i]) (hwt : waitsB md ops i = true) (he : Region.ready md ops (listed.setIfInBounds i true) = [])
    (h : ∀ oi K, ops[i]? = some oi → Shut (∀ a' w', Q .normal a' w' → K a' w') → Region.wanted oi (yielded ops a.tmps) = true ∧ oi.wp P a w K Q) : wpAnyR P md ops Q R (fuel + 1) listed a w := by
  refine ⟨fun h0 => (by rw [hr] at h0; cases h0), fun j hj => ?_⟩
  rw [hr] at hj
  obtain rfl : j = i := by simpa using hj
  unfold wpOp
  cases hi : ops[j]? with
  | none =>
    have : j ∈ Region.ready md ops listed := by rw [hr]; simp
    obtain ⟨_, o, ho, _⟩ := mem_ready.1 this
    rw [hi] at ho
    cases ho
  | some oi =>
    obtain ⟨hw, hwp⟩ := h oi (fun a' w' => (waitsB md ops j = true ∧ Region.ready md ops (listed.setIfInBounds j true) = [] ∧ Q .normal a' w') ∨ (R w w' ∧ wpAnyR P md ops Q R fuel (listed.setIfInBounds j true) a' w')) hi (fun a' w' hl => .inl ⟨hwt, he, hl⟩)
    simp only [hw, if_true]
    exact .inl hwp
/-- All have come up. -/
theorem later_done {listed : Array Bool} {a : Act} {w : World} (hr : Region.ready md ops listed = []) (h : Q .normal a w) : ∀ fuel, wpAnyR P md ops Q R fuel listed a w
  | 0 => ⟨hr, h⟩
  | _ + 1 => ⟨fun _ => h, by rw [hr]; simp⟩
/-- The beginning. -/
theorem wp_region_ord (R : World → World → Prop) {id : Nat} {a : Act} {w : World} (hm : P.follows .mixedOrders = true)
    (h : wpAnyR P .any ops Q R ops.size (Array.replicate ops.size false) a w.drew) : (Code.region id ops true).wp P Q a w :=
  wp_region_any hm (wpAny_of_R _ _ _ _ h)
end

/-- Later worlds: what was there is as it was. -/
def Later (w w' : World) : Prop := Below w.heap.size w w'
theorem laterPre : Pre Later := ⟨fun _ => Below.refl _ _, fun _ _ _ h k => Below.trans h (Below.mono k h.size)⟩
/-- Worlds in which what lay below B is as it was. -/
theorem belowPre (B : Nat) : Pre (Below B) := ⟨fun _ => Below.refl _ _, fun _ _ _ h k => Below.trans h k⟩

section
variable {P : Program} {ops : Array Oper} {Q : Exit → Act → World → Prop} {md : Region.Mode}
theorem later_take {i d : Nat} {v : Value} {fuel : Nat} {listed : Array Bool} {a : Act} {w : World}
    (hs : Region.noSelect ops = true) (hf : Region.free md ops listed i = true) (hr : (Region.ready md ops listed).contains i = true) (hd : (ops[i]?).bind (·.dst) = some d)
    (hQ : ∀ c a w, Q (.panic c) (a.put (some d) v) w → Q (.panic c) a w)
    (hy : ∀ oi, ops[i]? = some oi → Region.wanted oi (yielded ops a.tmps) = true ∧ ∀ w', Later w w' → (execOp a.eval oi).run P w' = .ok (.value v) w')
    (h : wpAnyR P md ops Q Later fuel (listed.setIfInBounds i true) (a.put (some d) v) w) : wpAnyR P md ops Q Later (fuel + 1) listed a w := ord_take laterPre hs hf hr hd hQ hy h
theorem later_skip {i d : Nat} {fuel : Nat} {listed : Array Bool} {a : Act} {w : World}
    (hs : Region.noSelect ops = true) (hf : Region.free md ops listed i = true) (hr : (Region.ready md ops listed).contains i = true) (hd : (ops[i]?).bind (·.dst) = some d)
    (hQ : ∀ c a w, Q (.panic c) (a.put (some d) undef) w → Q (.panic c) a w)
    (hy : ((ops[i]?).map fun oi => Region.wanted oi (yielded ops a.tmps)) = some false)
    (h : wpAnyR P md ops Q Later fuel (listed.setIfInBounds i true) (a.put (some d) undef) w) : wpAnyR P md ops Q Later (fuel + 1) listed a w := ord_skip laterPre hs hf hr hd hQ hy h
theorem later_one {i : Nat} {fuel : Nat} {listed : Array Bool} {a : Act} {w : World} (hr : Region.ready md ops listed = [i])
    (h : ∀ oi K, ops[i]? = some oi → Shut (∀ a' w', Later w w' → wpAnyR P md ops Q Later fuel (listed.setIfInBounds i true) a' w' → K a' w') → Region.wanted oi (yielded ops a.tmps) = true ∧ oi.wp P a w K Q) : wpAnyR P md ops Q Later (fuel + 1) listed a w := ord_one hr h
theorem wp_region_later {id : Nat} {a : Act} {w : World} (hm : P.follows .mixedOrders = true)
    (h : wpAnyR P .any ops Q Later ops.size (Array.replicate ops.size false) a w.drew) : (Code.region id ops true).wp P Q a w := wp_region_ord Later hm h
end
#print axioms wp_region_later
end Go.Proofs.Ytkcopldlobomhaa
/-
  The specification's TreClear.
-/
namespace Go.Proofs.Ytkcopldlobomhaa
open Go.RowKit

end Go.Proofs.Ytkcopldlobomhaa
/-
  The specification's TreSet.
-/
namespace Go.Proofs.Ytkcopldlobomhaa
open Go.RowKit

set_option maxRecDepth 100000 in
set_option maxHeartbeats 4000000 in
theorem l3Set_any (B g c : Nat) (xs : List ByteArray) (hl : xs.length = 15) (k : Nat) (hk : k < 8) (s : ByteArray) (hss : s.size ≤ 300) (w : World) (h : w.ownsRow B 9 1 (.slice (some ⟨g, 0, none⟩) 15 c) 15 (xs.map Value.string)) :
    Calls Try.prog 32 #[.agg #[.slice (some ⟨g, 0, none⟩) 15 c], .int .i64 (k : Int), .string s] w fun e w' => e = .returned (.agg #[.slice (some ⟨g, 0, none⟩) 15 c]) ∧ w'.ownsRow B 9 1 (.slice (some ⟨g, 0, none⟩) 15 c) 15 ((setKeys xs k s).map Value.string) ∧ w.grownBy w' (some g) := by
  obtain ⟨_, _, e0, hg1, hg2, hg3, hg4⟩ := row15 h
  simp only [Value.slice.injEq, Option.some.injEq, Addr.mk.injEq, true_and, and_true] at e0
  obtain ⟨rfl, rfl⟩ := e0
  have hLf : Hid (leafOf (k : Int) = ((7 + k : Nat) : Int)) := by show _ = _; unfold leafOf; rw [if_pos (by omega)]; omega
  have HUP : Hid (upOf ((7 + k : Nat) : Int) = ints (ups (7 + k))) := by show upOf _ = _; unfold upOf; rw [if_pos (by omega)]; rfl
  have hul := ups_len (7 + k) (by omega)
  have hult := ups_lt (7 + k) (by omega)
  have HEND : Hid (setKeys xs k s = fill xs s ([7 + k] ++ (ups (7 + k)).take (ups (7 + k)).length)) := by show _ = _; rw [List.take_length]; rfl
  generalize hN : ups (7 + k) = N at *
  clear hN
  obtain ⟨lf, hlf⟩ : ∃ lf : Nat, lf = 7 + k := ⟨_, rfl⟩
  rw [← hlf] at hLf HUP HEND
  have hlf2 : lf < 15 := by omega
  have jl : (lf : Int) < 15 := by omega
  clear hlf
  have hrW : Hid _ := own_below' (own_below' h ((Below.refl _ _).alloc (Nat.le_refl _) (.cells #[.slice (some ⟨g, 0, none⟩) 15 c] 27))) ((Below.refl _ _).alloc (Nat.le_refl _) (.cells #[.slice none 0 0] 27))
  have bA : Hid _ := (Boxed.new w 27 (.slice (some ⟨g, 0, none⟩) 15 c)).alloc (.cells #[.slice none 0 0] 27)
  have bR := Boxed.new (w.alloc (.cells #[.slice (some ⟨g, 0, none⟩) 15 c] 27)) 27 (.slice none 0 0)
  rw [World.size_alloc] at bR
  have bR1 := hide bR
  have hgW : Hid (w.grownBy ((w.alloc (.cells #[.slice (some ⟨g, 0, none⟩) 15 c] 27)).alloc (.cells #[.slice none 0 0] 27)) (some g)) := (World.grownBy_alloc w _ _).trans (World.grownBy_alloc _ _ _)
  have hWs : ((w.alloc (.cells #[.slice (some ⟨g, 0, none⟩) 15 c] 27)).alloc (.cells #[.slice none 0 0] 27)).heap.size = w.heap.size + 2 := by simp
  have HL := hide hl
  clear h bR hl
  go_enter Try.func32, Try.ntmps32
  go_wp2_with fail
  refine (sTreLeaf_any _ _).mono ?_
  rw [hLf.out]
  rintro e wz ⟨rfl, rfl⟩
  go_wp2_with fail
  refine wp_region_later (by kernel_rfl) ?_
  refine later_take (i := 0) (d := 12) (v := ?_) (by kernel_rfl) (by kernel_rfl) (by kernel_rfl) (by kernel_rfl) (fun _ _ _ h => h) (fun oi hoi => ?_) ?_
  rotate_left
  · simp at hoi
    subst hoi
    refine ⟨by rfl, fun w' hw' => ?_⟩
    go_simp
    all_goals rfl
  try simp only [Act.put, List.setIfInBounds_toArray, List.set_cons_zero, List.set_cons_succ]
  refine later_take (i := 1) (d := 13) (v := ?_) (by kernel_rfl) (by kernel_rfl) (by kernel_rfl) (by kernel_rfl) (fun _ _ _ h => h) (fun oi hoi => ?_) ?_
  rotate_left
  · simp at hoi
    subst hoi
    refine ⟨by rfl, fun w' hw' => ?_⟩
    have hx := (box_below (w := ((w.alloc (.cells #[.slice (some ⟨g, 0, none⟩) 15 c] 27)).alloc (.cells #[.slice none 0 0] 27)).drew) (unhide bA) hw').cell
    go_simp
    all_goals rfl
  try simp only [Act.put, List.setIfInBounds_toArray, List.set_cons_zero, List.set_cons_succ]
  refine later_take (i := 2) (d := 14) (v := ?_) (by kernel_rfl) (by kernel_rfl) (by kernel_rfl) (by kernel_rfl) (fun _ _ _ h => h) (fun oi hoi => ?_) ?_
  rotate_left
  · simp at hoi
    subst hoi
    refine ⟨by rfl, fun w' hw' => ?_⟩
    go_simp
    all_goals rfl
  try simp only [Act.put, List.setIfInBounds_toArray, List.set_cons_zero, List.set_cons_succ]
  refine later_take (i := 3) (d := 15) (v := ?_) (by kernel_rfl) (by kernel_rfl) (by kernel_rfl) (by kernel_rfl) (fun _ _ _ h => h) (fun oi hoi => ?_) ?_
  rotate_left
  · simp at hoi
    subst hoi
    refine ⟨by rfl, fun w' hw' => ?_⟩
    go_simp
    all_goals rfl
  try simp only [Act.put, List.setIfInBounds_toArray, List.set_cons_zero, List.set_cons_succ]
  refine later_one (i := 4) (by kernel_rfl) (fun oi K hoi hK => ?_)
  simp at hoi
  subst hoi
  refine ⟨by rfl, ?_⟩
  go_simp
  refine (sMakKey_any s _ (le_maxLen (by omega))).mono ?_
  rintro e wk ⟨rfl, hbk⟩
  go_simp
  refine hK.out _ _ hbk ?_
  clear hK
  have o1 := own_below' (w := ((w.alloc (.cells #[.slice (some ⟨g, 0, none⟩) 15 c] 27)).alloc (.cells #[.slice none 0 0] 27)).drew) (unhide hrW) hbk
  obtain ⟨s1, s2, s3, s4⟩ := row15_set HL.out o1 lf hlf2 (mkKey s)
  have A1 := hide (box_grown (box_below (w := ((w.alloc (.cells #[.slice (some ⟨g, 0, none⟩) 15 c] 27)).alloc (.cells #[.slice none 0 0] 27)).drew) (unhide bA) hbk) o1 (by decide) s4)
  have R1 := hide (box_grown (box_below (w := ((w.alloc (.cells #[.slice (some ⟨g, 0, none⟩) 15 c] 27)).alloc (.cells #[.slice none 0 0] 27)).drew) (unhide bR1) hbk) o1 (by decide) s4)
  have S3 := hide s3
  have hks : w.heap.size + 2 ≤ wk.heap.size := by have := hbk.size; simp at this; omega
  have G1 := hide ((grown_below0 (grown_drew (unhide hgW)) hbk).trans s4)
  generalize xs.getD lf ByteArray.empty = old at s1
  clear o1 s3 s4 hbk
  try simp only [Act.put, List.setIfInBounds_toArray, List.set_cons_zero, List.set_cons_succ]
  refine later_take (i := 5) (d := 17) (v := ?_) (by kernel_rfl) (by kernel_rfl) (by kernel_rfl) (by kernel_rfl) (fun _ _ _ h => h) (fun oi hoi => ?_) ?_
  rotate_left
  · simp at hoi
    subst hoi
    refine ⟨by rfl, fun w' hw' => ?_⟩
    go_simp
    all_goals rfl
  try simp only [Act.put, List.setIfInBounds_toArray, List.set_cons_zero, List.set_cons_succ]
  refine ord_last (i := 6) (by kernel_rfl) (by kernel_rfl) (by kernel_rfl) (fun oi K hoi hK => ?_)
  simp at hoi
  subst hoi
  refine ⟨by rfl, ?_⟩
  go_simp
  refine hK.out _ _ ?_
  clear hK
  try simp only [Act.put, List.setIfInBounds_toArray, List.set_cons_zero, List.set_cons_succ]
  go_wp2_with fail
  refine (sTreUp_any _ _).mono ?_
  rw [HUP.out]
  rintro e w2 ⟨u2, rfl, ho2, hb2⟩
  have U2 := hide (IIn.of ho2)
  have hs2 := hb2.size
  have A2 := hide (box_below (unhide A1) hb2)
  have R2 := hide (box_below (unhide R1) hb2)
  have O2 : Hid (w2.ownsRow B 9 1 (.slice (some ⟨g, 0, none⟩) 15 c) 15 ((fill xs s ([lf] ++ N.take 0)).map Value.string)) := own_below' (unhide S3) hb2
  have G2 : Hid (w.grownBy w2 (some g)) := grown_below0 (unhide G1) hb2
  have hgs : (wk.setCell ⟨g, lf, none⟩ (.string (mkKey s))).heap.size = wk.heap.size := by simp [World.setCell]
  rw [hgs] at U2 hs2
  obtain ⟨uo, uc, hu⟩ := row_form' ho2
  subst hu
  rw [show (ints N).length = N.length by simp [ints]] at *
  clear ho2 hb2 A1 R1 S3 G1 hgs
  go_wp2_with fail
  go_loopw [2, 9] (fun sv i wr => ∃ j : Nat, j ≤ N.length ∧ i = .int .i64 (j : Int) ∧ sv = .string (nextN s j) ∧ Hid (wr.ownsRow B 9 1 (.slice (some ⟨g, 0, none⟩) 15 c) 15 ((fill xs s ([lf] ++ N.take j)).map Value.string)) ∧ Hid (IIn wk.heap.size w2.heap.size wr (.slice uo N.length uc) (ints N)) ∧ Hid (Boxed wr w.heap.size 27 (.slice (some ⟨g, 0, none⟩) 15 c)) ∧ Hid (Boxed wr (w.heap.size + 1) 27 (.slice none 0 0)) ∧ Hid (w.grownBy wr (some g))) (fun _ i _ => N.length - (intOf i).toNat)
  case atStart => exact ⟨0, by omega, rfl, rfl, O2, U2, A2, R2, G2⟩
  case round =>
    clear O2 U2 A2 R2 G2
    obtain ⟨j, hj, rfl, rfl, hO, hU, hA, hR, hG⟩ := hrel
    by_cases hlt : j < N.length
    · have hlt2 : (j : Int) < (N.length : Int) := by omega
      have i3 : IntKind.i64.wrap ((j : Int) + 1) = (j : Int) + 1 := by simp [IntKind.wrap, IntKind.bits, IntKind.signed]; omega
      have hns := nextN_size s hss j
      have HNX : Hid (nextN s (j + 1) = mkNext (nextN s j)) := rfl
      have hns1 := nextN_size s hss (j + 1)
      generalize hsc : nextN s j = sc at *
      go_wp2_with fail
      refine (sMakNext_any sc _ (le_maxLen (by omega))).mono ?_
      rw [← HNX.out]
      rintro e wn ⟨rfl, hbn⟩
      have hOn := hide (own_below' (unhide hO) hbn)
      have hUn := hide ((unhide hU).below hbn)
      have hAn := hide (box_below (unhide hA) hbn)
      have hRn := hide (box_below (unhide hR) hbn)
      have hGn := hide (grown_below0 (unhide hG) hbn)
      clear hbn hO hU hA hR hG
      obtain ⟨q0, q1, q2, _, _, q5⟩ := (unhide hUn).irow.form
      rw [show (ints N).length = N.length by simp [ints]] at q2 q5
      simp only [Value.slice.injEq] at q2
      obtain ⟨rfl, _, rfl⟩ := q2
      obtain ⟨ad, rfl, hck⟩ := q5 j hlt
      have hnj : (ints N).getD j 0 = ((N.getD j 0 : Nat) : Int) := by
        unfold ints
        rw [List.getD_eq_getElem?_getD, List.getElem?_map, List.getD_eq_getElem?_getD, List.getElem?_eq_getElem hlt]
        rfl
      rw [hnj] at hck
      have hnl : N.getD j 0 < 7 := hult _ (by rw [List.getD_eq_getElem?_getD, List.getElem?_eq_getElem hlt]; exact List.getElem_mem hlt)
      have HTK : Hid (fill xs s ([lf] ++ N.take (j + 1)) = (fill xs s ([lf] ++ N.take j)).set (N.getD j 0) (mkKey (nextN s (j + 1)))) := by
        show _ = _
        rw [List.take_succ_eq_append_getElem hlt, ← List.append_assoc, fill_snoc, List.getD_eq_getElem?_getD, List.getElem?_eq_getElem hlt]
        simp
        congr 2
        rw [Nat.min_eq_left (by omega)]
      generalize N.getD j 0 = q at hck hnl HTK
      have hq2 : (q : Int) < 15 := by omega
      generalize hsn : nextN s (j + 1) = sn at *
      have HSN := hide hsn
      clear q5 hsc HNX hsn
      go_wp2_with fail
      refine wp_region_later (by kernel_rfl) ?_
      refine later_take (i := 0) (d := 28) (v := ?_) (by kernel_rfl) (by kernel_rfl) (by kernel_rfl) (by kernel_rfl) (fun _ _ _ h => h) (fun oi hoi => ?_) ?_
      rotate_left
      · simp at hoi
        subst hoi
        refine ⟨by rfl, fun w' hw' => ?_⟩
        go_simp
        all_goals rfl
      try simp only [Act.put, List.setIfInBounds_toArray, List.set_cons_zero, List.set_cons_succ]
      refine later_take (i := 1) (d := 29) (v := ?_) (by kernel_rfl) (by kernel_rfl) (by kernel_rfl) (by kernel_rfl) (fun _ _ _ h => h) (fun oi hoi => ?_) ?_
      rotate_left
      · simp at hoi
        subst hoi
        refine ⟨by rfl, fun w' hw' => ?_⟩
        have hx := (box_below (w := wn.drew) (unhide hAn) hw').cell
        go_simp
        all_goals rfl
      try simp only [Act.put, List.setIfInBounds_toArray, List.set_cons_zero, List.set_cons_succ]
      refine later_take (i := 2) (d := 30) (v := ?_) (by kernel_rfl) (by kernel_rfl) (by kernel_rfl) (by kernel_rfl) (fun _ _ _ h => h) (fun oi hoi => ?_) ?_
      rotate_left
      · simp at hoi
        subst hoi
        refine ⟨by rfl, fun w' hw' => ?_⟩
        go_simp
        all_goals rfl
      try simp only [Act.put, List.setIfInBounds_toArray, List.set_cons_zero, List.set_cons_succ]
      refine later_take (i := 3) (d := 31) (v := ?_) (by kernel_rfl) (by kernel_rfl) (by kernel_rfl) (by kernel_rfl) (fun _ _ _ h => h) (fun oi hoi => ?_) ?_
      rotate_left
      · simp at hoi
        subst hoi
        refine ⟨by rfl, fun w' hw' => ?_⟩
        go_simp
        all_goals rfl
      try simp only [Act.put, List.setIfInBounds_toArray, List.set_cons_zero, List.set_cons_succ]
      refine later_take (i := 4) (d := 32) (v := ?_) (by kernel_rfl) (by kernel_rfl) (by kernel_rfl) (by kernel_rfl) (fun _ _ _ h => h) (fun oi hoi => ?_) ?_
      rotate_left
      · simp at hoi
        subst hoi
        refine ⟨by rfl, fun w' hw' => ?_⟩
        go_simp
        all_goals rfl
      try simp only [Act.put, List.setIfInBounds_toArray, List.set_cons_zero, List.set_cons_succ]
      refine later_take (i := 5) (d := 33) (v := ?_) (by kernel_rfl) (by kernel_rfl) (by kernel_rfl) (by kernel_rfl) (fun _ _ _ h => h) (fun oi hoi => ?_) ?_
      rotate_left
      · simp at hoi
        subst hoi
        refine ⟨by rfl, fun w' hw' => ?_⟩
        have hx := (Below.cell hw' (cell_lt (w := wn.drew) hck)).trans hck
        go_simp
        all_goals rfl
      try simp only [Act.put, List.setIfInBounds_toArray, List.set_cons_zero, List.set_cons_succ]
      refine later_take (i := 6) (d := 34) (v := ?_) (by kernel_rfl) (by kernel_rfl) (by kernel_rfl) (by kernel_rfl) (fun _ _ _ h => h) (fun oi hoi => ?_) ?_
      rotate_left
      · simp at hoi
        subst hoi
        refine ⟨by rfl, fun w' hw' => ?_⟩
        go_simp
        all_goals rfl
      try simp only [Act.put, List.setIfInBounds_toArray, List.set_cons_zero, List.set_cons_succ]
      refine later_one (i := 7) (by kernel_rfl) (fun oi K hoi hK => ?_)
      simp at hoi
      subst hoi
      refine ⟨by rfl, ?_⟩
      go_simp
      refine (sMakKey_any sn _ (le_maxLen (by omega))).mono ?_
      rintro e wm ⟨rfl, hbm⟩
      go_simp
      refine hK.out _ _ hbm ?_
      clear hK
      have o1 := own_below' (w := wn.drew) (unhide hOn) hbm
      obtain ⟨s1, s2, s3, s4⟩ := row15_set (by rw [fill_len]; exact HL.out) o1 q (by omega) (mkKey sn)
      have S3 := hide s3
      have A3 := hide (box_grown (box_below (w := wn.drew) (unhide hAn) hbm) o1 (by decide) s4)
      have R3 := hide (box_grown (box_below (w := wn.drew) (unhide hRn) hbm) o1 (by decide) s4)
      have U3 : Hid (IIn wk.heap.size w2.heap.size (wm.setCell ⟨g, q, none⟩ (.string (mkKey sn))) (.slice (some ad) N.length uc) (ints N)) := RowIn.grown (RowIn.below (w := wn.drew) (unhide hUn) hbm) s4 (fun z hz => .inl (by cases hz; omega))
      have G3 := hide ((grown_below0 (grown_drew (unhide hGn)) hbm).trans s4)
      generalize (fill xs s ([lf] ++ N.take j)).getD q ByteArray.empty = old2 at s1
      clear o1 s3 s4 hbm
      try simp only [Act.put, List.setIfInBounds_toArray, List.set_cons_zero, List.set_cons_succ]
      refine later_take (i := 8) (d := 36) (v := ?_) (by kernel_rfl) (by kernel_rfl) (by kernel_rfl) (by kernel_rfl) (fun _ _ _ h => h) (fun oi hoi => ?_) ?_
      rotate_left
      · simp at hoi
        subst hoi
        refine ⟨by rfl, fun w' hw' => ?_⟩
        go_simp
        all_goals rfl
      try simp only [Act.put, List.setIfInBounds_toArray, List.set_cons_zero, List.set_cons_succ]
      refine ord_last (i := 9) (by kernel_rfl) (by kernel_rfl) (by kernel_rfl) (fun oi K hoi hK => ?_)
      simp at hoi
      subst hoi
      refine ⟨by rfl, ?_⟩
      go_simp
      refine hK.out _ _ ?_
      clear hK
      try simp only [Act.put, List.setIfInBounds_toArray, List.set_cons_zero, List.set_cons_succ]
      go_wp2_with fail
      go_roundw
      case rel => exact ⟨j + 1, by omega, by simp, by rw [HSN.out], by rw [HTK.out]; exact unhide S3, U3, A3, R3, G3⟩
      case measure => simp [intOf]; omega
    · have hlt2 : decide ((j : Int) < (N.length : Int)) = false := by simp; omega
      obtain rfl : j = N.length := by omega
      have l1 := (unhide hA).cell
      have l2 := (unhide hR).cell
      have l3 := (unhide hR).frozen
      have l4 := ((unhide hR).set (.slice (some ⟨g, 0, none⟩) 15 c)).cell
      have O4 : Hid _ := row_box (unhide hO) (unhide hR) (by decide) (.slice (some ⟨g, 0, none⟩) 15 c)
      have G4 : Hid (w.grownBy (wr.setCell ⟨w.heap.size + 1, 0, none⟩ (.slice (some ⟨g, 0, none⟩) 15 c)) (some g)) := by
        have q := unhide hG
        refine ⟨q.os, q.tape, q.output, by simpa [World.setCell] using q.size, fun z hz hr => ?_⟩
        rw [Below.heap_setCell wr ⟨w.heap.size + 1, 0, none⟩ _ z (by show z ≠ w.heap.size + 1; omega)]
        exact q.block z hz hr
      go_wp2_with fail
      refine bodyPost_ret (v := .agg #[.slice (some ⟨g, 0, none⟩) 15 c]) (by simp [results, Try.results32, go_sem, l4]) rfl ⟨rfl, ?_, unhide G4⟩
      rw [HEND.out]
      exact unhide O4
#print axioms l3Set_any

end Go.Proofs.Ytkcopldlobomhaa
