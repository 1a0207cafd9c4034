/-
  The program's faults: one that is told unless something holds; and the tests of a commit by themselves.
-/
import Derived.Test.YteiojanamkndmaaFnExactCmtOkB5
import Derived.Test.YteiojanamkndmaaFnExactCmtOkB2
import Derived.Test.YteiojanamkndmaaFnExactCmtOkB6
import Derived.Test.YteiojanamkndmaaFnExactCmtOkB4
import Derived.Test.YteiojanamkndmaaFnExactCmtOkB1
import Derived.OrdersHeld
import Derived.Deep.RegionHeld3
namespace Go.Proofs.Yteiojanamkndmaa
open Go.RowKit

/-- No fault where something holds; else a fault that lies at a block. -/
def errV : Bool → Nat → Value
  | true, _ => .nilIface
  | false, p => .iface 77 (.pointer (some ⟨p, 0, none⟩))

set_option maxHeartbeats 400000 in
theorem nothingUnless_any (b : Bool) (s : ByteArray) (w : World) :
    Calls Try.prog 29 #[.bool b, .string s] w fun e w' => e = .returned (errV b w.heap.size) ∧ Below w.heap.size w w' ∧ (b = false → Blk w' w.heap.size 80 #[.int .i64 1, .string s]) := by
  cases b with
  | true =>
    go_enter Try.func29, Try.ntmps29
    go_wp2_with fail
    go_ret
    exact ⟨rfl, Below.refl _ _, fun h => by cases h⟩
  | false =>
    go_enter Try.func29, Try.ntmps29
    go_wp2_with fail
    go_ret
    exact ⟨rfl, (Below.refl _ _).alloc (Nat.le_refl _) _, fun _ => Blk.new w _ _⟩

theorem isOne_any (n : Int) (w : World) : Calls Try.prog 30 #[.int .i64 n] w fun e w' => e = .returned (.bool (oneB n)) ∧ w' = w := by
  by_cases h : 0 ≤ n ∧ n ≤ 7
  · rw [show oneB n = true by unfold oneB; simp [h.1, h.2]]
    exact isOne_yes n w h.1 (by omega)
  · rw [show oneB n = false by unfold oneB; simp; omega]
    exact isOne_no n w (by omega)

set_option maxHeartbeats 400000 in
theorem isNobodyOrOther_any (n s : Int) (w : World) :
    Calls Try.prog 32 #[.int .i64 n, .int .i64 s] w fun e w' => e = .returned (.bool (otherB n s)) ∧ w' = w := by
  have HD : Hid (otherB n s = (decide (n = -1) || (oneB n && decide (n ≠ s)))) := rfl
  obtain ⟨r, hr⟩ : ∃ r, otherB n s = r := ⟨_, rfl⟩
  rw [hr] at HD ⊢
  clear hr
  by_cases h1 : n = -1
  · have hF : Hid (r = true) := by show _ = _; rw [HD.out]; simp [h1]
    have h2 : (n == -1) = true := by simpa using h1
    clear HD h1
    go_enter Try.func32, Try.ntmps32
    go_wp2_with fail
    go_ret
    exact ⟨ret_bool' hF.out.symm, rfl⟩
  · have h2 : (n == -1) = false := by simpa using h1
    rw [show decide (n = -1) = false by simpa using h1, Bool.false_or] at HD
    clear h1
    go_enter Try.func32, Try.ntmps32
    go_wp2_with fail
    refine (isOne_any n _).mono ?_
    generalize oneB n = b at *
    cases b with
    | false =>
      rintro e wz ⟨rfl, rfl⟩
      go_wp2_with fail
      go_ret
      exact ⟨ret_bool' HD.out.symm, rfl⟩
    | true =>
      rintro e wz ⟨rfl, rfl⟩
      by_cases h3 : n = s
      · have hF : Hid (r = false) := by show _ = _; rw [HD.out]; simp [h3]
        have h4 : (n == s) = true := by simpa using h3
        have h5 : (n != s) = false := by simpa using h3
        clear HD h3
        go_wp2_with fail
        go_ret
        exact ⟨ret_bool' hF.out.symm, rfl⟩
      · have hF : Hid (r = true) := by show _ = _; rw [HD.out]; simp [h3]
        have h4 : (n == s) = false := by simpa using h3
        have h5 : (n != s) = true := by simpa using h3
        clear HD h3
        go_wp2_with fail
        go_ret
        exact ⟨ret_bool' hF.out.symm, rfl⟩

set_option maxRecDepth 100000 in
set_option maxHeartbeats 1000000 in
theorem areKeysOf_any (add : Int) (leaf key : ByteArray) (w : World) (h1 : leaf.size ≤ maxLen) (h2 : key.size ≤ maxLen) :
    Calls Try.prog 35 #[.int .i64 add, .string leaf, .string key] w fun e w' => e = .returned (.bool (keysOfB add leaf key)) ∧ Below w.heap.size w w' := by
  have M : Hid (leaf.size ≤ maxLen ∧ key.size ≤ maxLen) := ⟨h1, h2⟩
  clear h1 h2
  have HD : Hid (keysOfB add leaf key = if add = -1 then decide (leaf = ByteArray.empty) && decide (key = ByteArray.empty) else decide (mOp leaf = 3) && decide (mOp key = 3) && decide (leaf ≠ key)) := rfl
  obtain ⟨r, hr⟩ : ∃ r, keysOfB add leaf key = r := ⟨_, rfl⟩
  rw [hr] at HD ⊢
  clear hr
  by_cases ha : add = -1
  · rw [if_pos ha] at HD
    have h2 : (add == -1) = true := by simpa using ha
    clear ha
    go_enter Try.func35, Try.ntmps35
    go_wp2_with fail
    all_goals
      go_ret
      refine ⟨ret_bool' ?_, Below.refl _ _⟩
      rw [HD.out]
      simp [text_nil, *]
      try (cases key.toList <;> simp)
  · rw [if_neg ha] at HD
    have h2 : (add == -1) = false := by simpa using ha
    clear ha
    go_enter Try.func35, Try.ntmps35
    go_wp2_with fail
    refine (isKey_any leaf _ M.out.1).mono ?_
    generalize decide (mOp leaf = 3) = b1 at *
    cases b1 with
    | false =>
      rintro e w1 ⟨rfl, hb⟩
      have HB := hide hb
      clear hb
      go_wp2_with fail
      go_ret
      exact ⟨ret_bool' HD.out.symm, unhide HB⟩
    | true =>
      rintro e w1 ⟨rfl, hb⟩
      have HB := hide hb
      clear hb
      go_wp2_with fail
      refine (isKey_any key _ M.out.2).mono ?_
      generalize decide (mOp key = 3) = b2 at *
      cases b2 with
      | false =>
        rintro e w2 ⟨rfl, hb⟩
        replace HB := hide (HB.out.trans (hb.mono HB.out.size))
        clear hb
        go_wp2_with fail
        go_ret
        exact ⟨ret_bool' HD.out.symm, unhide HB⟩
      | true =>
        rintro e w2 ⟨rfl, hb⟩
        replace HB := hide (HB.out.trans (hb.mono HB.out.size))
        clear hb
        by_cases hc : leaf = key
        · have hq : (leaf.toList == key.toList) = true := toList_eq.2 hc
          have hF : Hid (r = false) := by show _ = _; rw [HD.out]; simp [hc]
          clear hc HD
          go_wp2_with fail
          go_ret
          exact ⟨ret_bool' hF.out.symm, unhide HB⟩
        · have hq : (leaf.toList == key.toList) = false := by rw [str_dec]; simpa using hc
          have hF : Hid (r = true) := by show _ = _; rw [HD.out]; simp [hc]
          clear hc HD
          go_wp2_with fail
          go_ret
          exact ⟨ret_bool' hF.out.symm, unhide HB⟩

set_option maxRecDepth 100000 in
set_option maxHeartbeats 2000000 in
theorem isWelcomeOf_any (add : Int) (x : Wel) (w : World) (h1 : x.is.size ≤ maxLen) (h2 : x.ss.size ≤ maxLen) :
    Calls Try.prog 36 #[.int .i64 add, .agg #[.string x.key, .string x.ik, .string x.is, .string x.sk, .string x.ss]] w fun e w' => e = .returned (.bool (welB add x)) ∧ Below w.heap.size w w' := by
  have M : Hid (x.is.size ≤ maxLen ∧ x.ss.size ≤ maxLen) := ⟨h1, h2⟩
  clear h1 h2
  have HD : Hid (welB add x = if add = -1 then decide (x = Wel.none) else decide (x.ik = x.key) && decide (x.sk = x.key) && Kw.ok x.is && Kw.ok x.ss) := rfl
  obtain ⟨wk, ik, is, sk, ss⟩ := x
  simp only at M HD ⊢
  obtain ⟨r, hr⟩ : ∃ r, welB add ⟨wk, ik, is, sk, ss⟩ = r := ⟨_, rfl⟩
  rw [hr] at HD ⊢
  clear hr
  have HB0 : Hid (Below w.heap.size w (w.alloc (.cells #[.string wk, .string ik, .string is, .string sk, .string ss] 35))) := (Below.refl _ _).alloc (Nat.le_refl _) _
  have A0 := hide (Blk.new w 35 #[.string wk, .string ik, .string is, .string sk, .string ss])
  by_cases ha : add = -1
  · rw [if_pos ha, wel_dec] at HD
    have h2 : (add == -1) = true := by simpa using ha
    clear ha
    go_enter Try.func36, Try.ntmps36
    go_wp2_with fail
    all_goals
      go_ret
      refine ⟨ret_bool' ?_, unhide HB0⟩
      rw [HD.out]
      simp [*]
  · rw [if_neg ha] at HD
    have h2 : (add == -1) = false := by simpa using ha
    clear ha
    by_cases h3 : ik = wk
    rotate_left
    · have hq : (ik.toList == wk.toList) = false := by rw [str_dec]; simpa using h3
      have hF : Hid (r = false) := by show _ = _; rw [HD.out]; simp [h3]
      clear HD h3
      go_enter Try.func36, Try.ntmps36
      go_wp2_with fail
      go_ret
      exact ⟨ret_bool' hF.out.symm, unhide HB0⟩
    have hq : (ik.toList == wk.toList) = true := toList_eq.2 h3
    rw [show decide (ik = wk) = true by simpa using h3, Bool.true_and] at HD
    clear h3
    by_cases h3 : sk = wk
    rotate_left
    · have hq : (sk.toList == wk.toList) = false := by rw [str_dec]; simpa using h3
      have hF : Hid (r = false) := by show _ = _; rw [HD.out]; simp [h3]
      clear HD h3
      go_enter Try.func36, Try.ntmps36
      go_wp2_with fail
      go_ret
      exact ⟨ret_bool' hF.out.symm, unhide HB0⟩
    have hq2 : (sk.toList == wk.toList) = true := toList_eq.2 h3
    rw [show decide (sk = wk) = true by simpa using h3, Bool.true_and] at HD
    clear h3
    go_enter Try.func36, Try.ntmps36
    go_wp2_with fail
    refine (iSecOk_any is _ M.out.1).mono ?_
    generalize Kw.ok is = b1 at *
    cases b1 with
    | false =>
      rintro e w1 ⟨rfl, hb⟩
      have HB := hide (HB0.out.trans (hb.mono HB0.out.size))
      clear hb
      go_wp2_with fail
      go_ret
      exact ⟨ret_bool' HD.out.symm, unhide HB⟩
    | true =>
      rintro e w1 ⟨rfl, hb⟩
      have HB := hide (HB0.out.trans (hb.mono HB0.out.size))
      have c4 := ((unhide A0).below hb).cell 4
      simp only [List.getElem?_toArray, List.getElem?_cons_succ, List.getElem?_cons_zero] at c4
      clear hb
      go_wp2_with fail
      refine (iSecOk_any ss _ M.out.2).mono ?_
      rw [Bool.true_and] at HD
      rw [← HD.out]
      rintro e w2 ⟨rfl, hb⟩
      replace HB := hide (HB.out.trans (hb.mono HB.out.size))
      clear hb
      go_wp2_with fail
      go_ret
      exact ⟨rfl, unhide HB⟩
#print axioms areKeysOf_any
#print axioms isWelcomeOf_any
end Go.Proofs.Yteiojanamkndmaa
/-
  errors.Join: none, if all are none; else one that holds all that are not.
-/
namespace Go.Proofs.Yteiojanamkndmaa
open Go.RowKit

/-- Whether a fault is one. -/
def isF : Value → Bool
  | .nilIface => false
  | _ => true
/-- A value of type error. -/
def ErrV (v : Value) : Prop := v = .nilIface ∨ ∃ t x, v = .iface t x
def anyF (es : List Value) : Bool := es.any isF
/-- A slice holds these faults. -/
def ERow (w : World) (v : Value) (es : List Value) : Prop :=
  ∃ (a : Addr) (cap : Nat), v = .slice (some a) es.length cap ∧ es.length ≤ cap ∧ cap ≤ maxLen ∧ ∀ i, i < es.length → w.cell? (a.add i) = some (es.getD i .nilIface)
theorem ERow.below {w w' : World} {v : Value} {xs : List Value} (h : ERow w v xs) (hb : Below w.heap.size w w') : ERow w' v xs := by
  obtain ⟨a, cap, h1, h2, h3, h4⟩ := h
  exact ⟨a, cap, h1, h2, h3, fun i hi => (hb.cell (p := a.add i) (cell_lt (h4 i hi))).trans (h4 i hi)⟩
/-- How many of the first are faults, and which. -/
def cntF (es : List Value) (k : Nat) : Nat := ((es.take k).filter isF).length
theorem cntF_le (es : List Value) (k : Nat) : cntF es k ≤ k := by
  unfold cntF
  have h1 := List.length_filter_le isF (es.take k)
  have h2 := List.length_take_le k es
  omega
theorem takeF {es : List Value} {k : Nat} (h : k < es.length) : (es.take (k + 1)).filter isF = (es.take k).filter isF ++ (if isF (es.getD k .nilIface) then [es.getD k .nilIface] else []) := by
  rw [List.take_succ_eq_append_getElem h, List.filter_append]
  have hq : es.getD k .nilIface = es[k] := by rw [List.getD_eq_getElem?_getD, List.getElem?_eq_getElem h]; rfl
  rw [hq]
  cases hb : isF es[k] <;> simp [hb]
theorem cntF_yes {es : List Value} {k : Nat} (h : k < es.length) (hf : isF (es.getD k .nilIface) = true) : cntF es (k + 1) = cntF es k + 1 := by
  unfold cntF; rw [takeF h, if_pos hf]; simp
theorem cntF_no {es : List Value} {k : Nat} (h : k < es.length) (hf : isF (es.getD k .nilIface) = false) : cntF es (k + 1) = cntF es k := by
  unfold cntF; rw [takeF h, if_neg (by rw [hf]; simp)]; simp
theorem anyF_cnt (es : List Value) : anyF es = decide (0 < cntF es es.length) := by
  unfold anyF cntF
  rw [List.take_length, Bool.eq_iff_iff, decide_eq_true_eq, List.length_pos_iff_exists_mem, List.any_eq_true]
  simp [List.mem_filter]
theorem info_err : (Try.prog.info? 57).map (fun i => (i.zero, i.size, i.bytes)) = some (some .nilIface, 1, 16) := by kernel_rfl
theorem info_partsE {t : TypeId} {z : Value} {s b : Nat} (h : (Try.prog.info? t).map (fun i => (i.zero, i.size, i.bytes)) = some (some z, s, b)) : ∃ i0, Try.prog.info? t = some i0 ∧ i0.zero = some z ∧ i0.size = s ∧ i0.bytes = b := by
  cases hi : Try.prog.info? t with
  | none => rw [hi] at h; cases h
  | some i0 => rw [hi] at h; simp at h; exact ⟨i0, rfl, h.1, h.2.1, h.2.2⟩

theorem one_newS' (w : World) (x : Value) (t : TypeId) : ∀ j u, [x][j]? = some u → (w.alloc (.cells #[x] t)).cell? (Addr.add ⟨w.heap.size, 0, none⟩ j) = some u := by
  intro j u hj
  match j, hj with
  | 0, hj => simp at hj; subst hj; simp [Addr.add, go_sem]
/-- What Join answers. -/
def JoinPost (w : World) (es : List Value) (e : Ending) (w' : World) : Prop :=
  Below w.heap.size w w' ∧ ((anyF es = false ∧ e = .returned .nilIface) ∨ (anyF es = true ∧ ∃ p sl, e = .returned (.iface 74 (.pointer (some ⟨p, 0, none⟩))) ∧ w.heap.size ≤ p ∧ Boxed w' p 76 sl ∧ w'.ownsRow w.heap.size 57 1 sl (cntF es es.length) (es.filter isF)))

set_option maxRecDepth 100000 in
set_option maxHeartbeats 2000000 in
theorem join_any (v : Value) (es : List Value) (w : World) (h : ERow w v es) (hx : ∀ x ∈ es, ErrV x) (hl : es.length ≤ 1000) :
    Calls Try.prog 28 #[v] w fun e w' => JoinPost w es e w' := by
  have hR := hide h
  have hX := hide hx
  obtain ⟨a, cap, rfl, h1, h2, h3⟩ := h
  unfold maxLen at h2
  clear hx h3
  obtain ⟨i0, hi, hz0, hz1, hz2⟩ := info_partsE info_err
  have hI := hide (And.intro hi (And.intro hz0 (And.intro hz1 hz2)))
  clear hi hz0 hz1 hz2
  go_enter Try.func28, Try.ntmps28
  go_wp2_with fail
  go_loop [3, 5, 11] (fun n _ i => ∃ k : Nat, k ≤ es.length ∧ i = .int .i64 (k : Int) ∧ n = .int .i64 ((cntF es k : Nat) : Int)) (fun _ _ i => es.length - (intOf i).toNat)
  case atStart => exact ⟨0, by omega, rfl, rfl⟩
  case round =>
    obtain ⟨k, hk, rfl, rfl⟩ := hrel
    have hcl := cntF_le es k
    by_cases hlt : k < es.length
    · have hlt2 : (k : Int) < (es.length : Int) := by omega
      have i3 : IntKind.i64.wrap ((k : Int) + 1) = (k : Int) + 1 := by simp [IntKind.wrap, IntKind.bits, IntKind.signed]; omega
      have i4 : IntKind.i64.wrap ((cntF es k : Int) + 1) = (cntF es k : Int) + 1 := by simp [IntKind.wrap, IntKind.bits, IntKind.signed]; omega
      obtain ⟨a', c1, q1, _, _, q2⟩ := unhide hR
      simp only [Value.slice.injEq, Option.some.injEq] at q1
      obtain ⟨rfl, _, rfl⟩ := q1
      have hck := q2 k hlt
      clear q2
      have hmem : es.getD k .nilIface ∈ es := by
        rw [List.getD_eq_getElem?_getD, List.getElem?_eq_getElem hlt]; exact List.getElem_mem hlt
      have hE := hide (hX.out _ hmem)
      have HY : Hid (isF (es.getD k .nilIface) = true → cntF es (k + 1) = cntF es k + 1) := cntF_yes hlt
      have HN : Hid (isF (es.getD k .nilIface) = false → cntF es (k + 1) = cntF es k) := cntF_no hlt
      clear hmem
      generalize es.getD k .nilIface = y at hck hE HY HN
      rcases unhide hE with rfl | ⟨t, x, rfl⟩
      · have HC := hide (HN.out rfl)
        clear HY HN hE
        go_wp2_with fail
        go_round
        case rel => exact ⟨k + 1, by omega, by simp, by rw [HC.out]⟩
        case measure => simp [intOf]; omega
      · have HC := hide (HY.out rfl)
        clear HY HN hE
        go_wp2_with fail
        go_round
        case rel => exact ⟨k + 1, by omega, by simp, by rw [HC.out]; simp⟩
        case measure => simp [intOf]; omega
    · have hlt2 : decide ((k : Int) < (es.length : Int)) = false := by simp; omega
      obtain rfl : k = es.length := by omega
      have HA := hide (anyF_cnt es)
      by_cases hz : cntF es es.length = 0
      · have hF : Hid (anyF es = false) := by show _ = _; rw [HA.out, hz]; rfl
        rw [hz] at hcl ⊢
        clear HA hz
        go_wp2_with fail
        go_ret
        exact ⟨Below.refl _ _, .inl ⟨hF.out, rfl⟩⟩
      · have hF : Hid (anyF es = true) := by show _ = _; rw [HA.out]; simp; omega
        obtain ⟨n, hn⟩ : ∃ n, cntF es es.length = n := ⟨_, rfl⟩
        have HN := hide hn
        rw [hn] at hcl hz ⊢
        clear hn HA
        have hz1 : ((n : Int) == 0) = false := by simp; omega
        have hB2 : Hid (i0.bytes * n ≤ 281474976710656) := by show _ ≤ _; rw [hI.out.2.2.2]; omega
        go_wp2_with (at_make; refine wpList_make_own _ rfl _ _ 73 rfl w.heap.size 57 i0 .nilIface 1 Try.underlying73 (unhide hI).1 (unhide hI).2.1 (unhide hI).2.2.1 _ _ _ n rfl rfl rfl (unhide hB2) (by unfold maxLen; omega) (Nat.le_refl _) ?_)
        intro w1 hown hgrow
        have B1 := hide (Boxed.new w1 76 (.slice (some ⟨w.heap.size, 0, none⟩) 0 n))
        have R1 := hide (World.ownsRow.alloc hown (.cells #[.slice (some ⟨w.heap.size, 0, none⟩) 0 n] 76))
        have L0 : Below w.heap.size w w1 := (Below.refl _ _).grown hgrow (Nat.le_refl _) (fun k hk => by cases hk)
        have hs1 := L0.size
        have L1 := hide (L0.alloc hs1 (.cells #[.slice (some ⟨w.heap.size, 0, none⟩) 0 n] 76))
        have HP : Hid (w.heap.size ≤ w1.heap.size) := hs1
        clear hown hgrow L0
        go_wp2_with fail
        go_loopw [8, 28] (fun _ i wr => ∃ (k : Nat) (sl : Value), k ≤ es.length ∧ i = .int .i64 (k : Int) ∧ Hid (wr.ownsRow w.heap.size 57 1 sl (cntF es k) ((es.take k).filter isF)) ∧ Hid (Boxed wr w1.heap.size 76 sl) ∧ Hid (Below w.heap.size w wr)) (fun _ i _ => es.length - (intOf i).toNat)
        case atStart => exact ⟨0, _, by omega, rfl, R1, B1, L1⟩
        case round =>
          clear R1 B1 L1
          obtain ⟨k, sl, hk, rfl, hR2, hB, hL⟩ := hrel
          have hle := hL.out.size
          by_cases hlt : k < es.length
          · have hlt2 : (k : Int) < (es.length : Int) := by omega
            have i3 : IntKind.i64.wrap ((k : Int) + 1) = (k : Int) + 1 := by simp [IntKind.wrap, IntKind.bits, IntKind.signed]; omega
            obtain ⟨a', c1, q1, _, _, q2⟩ := (unhide hR).below (unhide hL)
            simp only [Value.slice.injEq, Option.some.injEq] at q1
            obtain ⟨rfl, _, rfl⟩ := q1
            have hck := q2 k hlt
            clear q2
            have hmem : es.getD k .nilIface ∈ es := by
              rw [List.getD_eq_getElem?_getD, List.getElem?_eq_getElem hlt]; exact List.getElem_mem hlt
            have hE := hide (hX.out _ hmem)
            have HY : Hid (isF (es.getD k .nilIface) = true → cntF es (k + 1) = cntF es k + 1) := cntF_yes hlt
            have HN2 : Hid (isF (es.getD k .nilIface) = false → cntF es (k + 1) = cntF es k) := cntF_no hlt
            have HT := hide (takeF hlt)
            clear hmem
            generalize es.getD k .nilIface = y at hck hE HY HN2 HT
            rcases unhide hE with rfl | ⟨t, x, rfl⟩
            · have HC := hide (HN2.out rfl)
              have HT2 : Hid ((es.take (k + 1)).filter isF = (es.take k).filter isF) := by show _ = _; rw [HT.out]; simp [isF]
              clear HY HN2 hE HT
              go_wp2_with fail
              go_roundw
              case rel => exact ⟨k + 1, sl, by omega, by simp, by rw [HC.out, HT2.out]; exact hR2, hB, hL⟩
              case measure => simp [intOf]; omega
            · have HC := hide (HY.out rfl)
              have HT2 : Hid ((es.take (k + 1)).filter isF = (es.take k).filter isF ++ [.iface t x]) := by show _ = _; rw [HT.out]; simp [isF]
              clear HY HN2 hE HT
              have c0 := hB.out.cell
              obtain ⟨so, sc, rfl⟩ := row_form' hR2.out
              have hcl2 := cntF_le es k
              go_wp2_with (at_builtin; refine wpList_append_own _ rfl _ _ 73 rfl w.heap.size 57 i0 .nilIface 1 16 Try.underlying73 (unhide hI).1 (unhide hI).2.1 (unhide hI).2.2.1 (unhide hI).2.2.2 rfl (by decide) _ _ _ rfl (World.ownsRow.alloc (unhide hR2) _) ⟨wr.heap.size, 0, none⟩ 1 1 [.iface t x] rfl rfl (one_newS' _ _ _) (by simp [Value.oneCell']) (by unfold maxLen; omega) (by omega) (by simp; omega) ?_)
              intro v' w3 hown' hgrow _
              have b2 := box_grown ((unhide hB).alloc (.cells #[.iface t x] 57)) (World.ownsRow.alloc (unhide hR2) (.cells #[.iface t x] 57)) (by decide) hgrow
              have c1 := b2.cell
              have f1 := b2.frozen
              have l3 : Below w.heap.size w w3 := ((unhide hL).alloc hle _).grown hgrow (by simp; omega) (fun k hk => (World.ownsRow.lt (unhide hR2) k hk).1)
              obtain ⟨vo, vc, rfl⟩ := row_form' hown'
              have R3 := hide (row_box hown' b2 (by decide) (.slice vo (cntF es k + 1) vc))
              have B3 := hide (Boxed.set (.slice vo (cntF es k + 1) vc) b2)
              have L3 := hide (below_box l3 HP.out (.slice vo (cntF es k + 1) vc))
              clear hown' hgrow b2 l3 hR2 hB hL c0
              go_wp2_with fail
              go_roundw
              case rel => exact ⟨k + 1, _, by omega, by simp, by rw [HC.out, HT2.out]; exact R3, B3, L3⟩
              case measure => simp [intOf]; omega
          · have hlt2 : decide ((k : Int) < (es.length : Int)) = false := by simp; omega
            obtain rfl : k = es.length := by omega
            rw [List.take_length] at hR2
            go_wp2_with fail
            go_ret
            exact ⟨unhide hL, .inr ⟨hF.out, _, _, rfl, HP.out, unhide hB, unhide hR2⟩⟩
#print axioms join_any
end Go.Proofs.Yteiojanamkndmaa
/-
  A slice of faults that a call makes.
-/
namespace Go.Proofs.Yteiojanamkndmaa
open Go.RowKit

theorem ErrV.cells {v : Value} (h : ErrV v) : v.cells = #[v] := by rcases h with rfl | ⟨t, x, rfl⟩ <;> rfl
theorem fill_ones : ∀ (parts : List (Nat × Value)) (cells : Array Value), (∀ p ∈ parts, ErrV p.2 ∧ p.1 < cells.size) →
    Instr.fill (fun i => some (i * 1, 1)) cells parts = some (parts.foldl (fun cs p => cs.setIfInBounds p.1 p.2) cells)
  | [], _, _ => rfl
  | (i, v) :: rest, cells, h => by
    have h1 := h (i, v) (by simp)
    have hc := h1.1.cells
    have h2 := h1.2
    simp only at hc h2
    rw [Instr.fill]
    simp only [hc]
    rw [if_neg (by simp; omega)]
    have e : (#[v].zipIdx.foldl (fun cs (x : Value × Nat) => cs.setIfInBounds (i * 1 + x.2) x.1) cells) = cells.setIfInBounds i v := by simp
    rw [e, fill_ones rest _ (fun p hp => by
      have := h p (by simp [hp])
      simpa using this)]
    rfl
theorem run_errs (n : Nat) (hn : n < 1000) (parts : Array (Nat × Value)) (cells : Array Value) (w : World) (h : Instr.fill (fun i => some (i * 1, 1)) (Array.replicate n .nilIface) parts.toList = some cells) (h0 : 0 < n) :
    (Instr.buildSlice 73 n parts).run Try.prog w = .ok (.slice (some ⟨w.heap.size, 0, none⟩) n n) (w.alloc (.cells cells 57)) := by
  have hr : (Array.map (fun x => [Value.nilIface][x % 1]?.getD default) (Array.range n)) = Array.replicate n .nilIface := by
    apply Array.ext
    · simp
    · intro i h1 h2; simp [Nat.mod_one]
  simp only [Nat.mul_one] at h
  unfold Instr.buildSlice
  simp [go_sem]
  rw [if_neg (by omega), if_neg (by omega), hr, h]
  simp [go_sem]
theorem wp_build {P : Program} {o : Oper} {a : Act} {w w' : World} {K : Act → World → Prop} {Q : Exit → Act → World → Prop} {t n : Nat} {parts : Array (Nat × Operand)} {ps : Array (Nat × Value)} {v : Value}
    (ho : o.op = .buildSlice t n parts) (hp : (parts.map fun (x : Nat × Operand) => (x.1, a.eval x.2)) = ps) (hr : (Instr.buildSlice t n ps).run P w = .ok v w') (hK : K (a.put o.dst v) w') : o.wp P a w K Q := by
  unfold Oper.wp execOp
  simp only [ho, hp, Sem.run_bind, Sem.run_pure, Result.andThen_ok, hr]
  exact hK
theorem run_errs2 {v1 v2 : Value} (h1 : ErrV v1) (h2 : ErrV v2) (w : World) : (Instr.buildSlice 73 2 #[(0, v1), (1, v2)]).run Try.prog w = .ok (.slice (some ⟨w.heap.size, 0, none⟩) 2 2) (w.alloc (.cells #[v1, v2] 57)) := by
  refine run_errs 2 (by omega) _ #[v1, v2] w ?_ (by omega)
  have e := fill_ones [(0, v1), (1, v2)] (Array.replicate 2 .nilIface) (by
    simp only [List.mem_cons, List.not_mem_nil, or_false, forall_eq_or_imp, forall_eq, Array.size_replicate]
    exact ⟨⟨h1, by omega⟩, ⟨h2, by omega⟩⟩)
  refine e.trans (congrArg some ?_)
  simp only [List.foldl_cons, List.foldl_nil]
  simp [Array.replicate_succ]
theorem erow2 {v1 v2 : Value} (w : World) : ERow (w.alloc (.cells #[v1, v2] 57)) (.slice (some ⟨w.heap.size, 0, none⟩) 2 2) [v1, v2] :=
  ⟨_, 2, rfl, Nat.le_refl _, by unfold maxLen; omega, fun i hi => by
    have := (Blk.new w 57 #[v1, v2]).cell i
    rw [Addr.add_lit, Nat.zero_add, this]
    rw [List.getD_eq_getElem?_getD, List.getElem?_eq_getElem hi]
    simp ⟩
theorem run_errs4 {v1 v2 v3 v4 : Value} (h1 : ErrV v1) (h2 : ErrV v2) (h3 : ErrV v3) (h4 : ErrV v4) (w : World) : (Instr.buildSlice 73 4 #[(0, v1), (1, v2), (2, v3), (3, v4)]).run Try.prog w = .ok (.slice (some ⟨w.heap.size, 0, none⟩) 4 4) (w.alloc (.cells #[v1, v2, v3, v4] 57)) := by
  refine run_errs 4 (by omega) _ #[v1, v2, v3, v4] w ?_ (by omega)
  have e := fill_ones [(0, v1), (1, v2), (2, v3), (3, v4)] (Array.replicate 4 .nilIface) (by
    simp only [List.mem_cons, List.not_mem_nil, or_false, forall_eq_or_imp, forall_eq, Array.size_replicate]
    exact ⟨⟨h1, by omega⟩, ⟨h2, by omega⟩, ⟨h3, by omega⟩, ⟨h4, by omega⟩⟩)
  refine e.trans (congrArg some ?_)
  simp only [List.foldl_cons, List.foldl_nil]
  simp [Array.replicate_succ]
theorem erow4 {v1 v2 v3 v4 : Value} (w : World) : ERow (w.alloc (.cells #[v1, v2, v3, v4] 57)) (.slice (some ⟨w.heap.size, 0, none⟩) 4 4) [v1, v2, v3, v4] :=
  ⟨_, 4, rfl, Nat.le_refl _, by unfold maxLen; omega, fun i hi => by
    have := (Blk.new w 57 #[v1, v2, v3, v4]).cell i
    rw [Addr.add_lit, Nat.zero_add, this]
    rw [List.getD_eq_getElem?_getD, List.getElem?_eq_getElem hi]
    simp ⟩
theorem run_errs6 {v1 v2 v3 v4 v5 v6 : Value} (h1 : ErrV v1) (h2 : ErrV v2) (h3 : ErrV v3) (h4 : ErrV v4) (h5 : ErrV v5) (h6 : ErrV v6) (w : World) : (Instr.buildSlice 73 6 #[(0, v1), (1, v2), (2, v3), (3, v4), (4, v5), (5, v6)]).run Try.prog w = .ok (.slice (some ⟨w.heap.size, 0, none⟩) 6 6) (w.alloc (.cells #[v1, v2, v3, v4, v5, v6] 57)) := by
  refine run_errs 6 (by omega) _ #[v1, v2, v3, v4, v5, v6] w ?_ (by omega)
  have e := fill_ones [(0, v1), (1, v2), (2, v3), (3, v4), (4, v5), (5, v6)] (Array.replicate 6 .nilIface) (by
    simp only [List.mem_cons, List.not_mem_nil, or_false, forall_eq_or_imp, forall_eq, Array.size_replicate]
    exact ⟨⟨h1, by omega⟩, ⟨h2, by omega⟩, ⟨h3, by omega⟩, ⟨h4, by omega⟩, ⟨h5, by omega⟩, ⟨h6, by omega⟩⟩)
  refine e.trans (congrArg some ?_)
  simp only [List.foldl_cons, List.foldl_nil]
  simp [Array.replicate_succ]
theorem erow6 {v1 v2 v3 v4 v5 v6 : Value} (w : World) : ERow (w.alloc (.cells #[v1, v2, v3, v4, v5, v6] 57)) (.slice (some ⟨w.heap.size, 0, none⟩) 6 6) [v1, v2, v3, v4, v5, v6] :=
  ⟨_, 6, rfl, Nat.le_refl _, by unfold maxLen; omega, fun i hi => by
    have := (Blk.new w 57 #[v1, v2, v3, v4, v5, v6]).cell i
    rw [Addr.add_lit, Nat.zero_add, this]
    rw [List.getD_eq_getElem?_getD, List.getElem?_eq_getElem hi]
    simp ⟩
theorem run_errs9 {v1 v2 v3 v4 v5 v6 v7 v8 v9 : Value} (h1 : ErrV v1) (h2 : ErrV v2) (h3 : ErrV v3) (h4 : ErrV v4) (h5 : ErrV v5) (h6 : ErrV v6) (h7 : ErrV v7) (h8 : ErrV v8) (h9 : ErrV v9) (w : World) : (Instr.buildSlice 73 9 #[(0, v1), (1, v2), (2, v3), (3, v4), (4, v5), (5, v6), (6, v7), (7, v8), (8, v9)]).run Try.prog w = .ok (.slice (some ⟨w.heap.size, 0, none⟩) 9 9) (w.alloc (.cells #[v1, v2, v3, v4, v5, v6, v7, v8, v9] 57)) := by
  refine run_errs 9 (by omega) _ #[v1, v2, v3, v4, v5, v6, v7, v8, v9] w ?_ (by omega)
  have e := fill_ones [(0, v1), (1, v2), (2, v3), (3, v4), (4, v5), (5, v6), (6, v7), (7, v8), (8, v9)] (Array.replicate 9 .nilIface) (by
    simp only [List.mem_cons, List.not_mem_nil, or_false, forall_eq_or_imp, forall_eq, Array.size_replicate]
    exact ⟨⟨h1, by omega⟩, ⟨h2, by omega⟩, ⟨h3, by omega⟩, ⟨h4, by omega⟩, ⟨h5, by omega⟩, ⟨h6, by omega⟩, ⟨h7, by omega⟩, ⟨h8, by omega⟩, ⟨h9, by omega⟩⟩)
  refine e.trans (congrArg some ?_)
  simp only [List.foldl_cons, List.foldl_nil]
  simp [Array.replicate_succ]
theorem erow9 {v1 v2 v3 v4 v5 v6 v7 v8 v9 : Value} (w : World) : ERow (w.alloc (.cells #[v1, v2, v3, v4, v5, v6, v7, v8, v9] 57)) (.slice (some ⟨w.heap.size, 0, none⟩) 9 9) [v1, v2, v3, v4, v5, v6, v7, v8, v9] :=
  ⟨_, 9, rfl, Nat.le_refl _, by unfold maxLen; omega, fun i hi => by
    have := (Blk.new w 57 #[v1, v2, v3, v4, v5, v6, v7, v8, v9]).cell i
    rw [Addr.add_lit, Nat.zero_add, this]
    rw [List.getD_eq_getElem?_getD, List.getElem?_eq_getElem hi]
    simp ⟩
#print axioms run_errs
end Go.Proofs.Yteiojanamkndmaa
/-
  The program's test of boxes.
-/
namespace Go.Proofs.Yteiojanamkndmaa
open Go.RowKit

set_option maxRecDepth 100000 in
set_option maxHeartbeats 2000000 in
theorem areBoxes_any (v : Value) (bs : List Bx) (w : World) (h : BRow w v bs) (hx : ∀ b ∈ bs, b.1.size ≤ maxLen ∧ b.2.size ≤ maxLen) :
    Calls Try.prog 34 #[v] w fun e w' => e = .returned (.bool (okBoxes bs)) ∧ Below w.heap.size w w' := by
  have hR := hide h
  have hX := hide hx
  obtain ⟨ao, cap, rfl, h1, h2, _⟩ := h
  unfold maxLen at h2
  clear hx
  by_cases hmost : 400 < bs.length
  · have h1 : (400 : Int) < (bs.length : Int) := by omega
    have he : okBoxes bs = false := by
      cases q : okBoxes bs with
      | false => rfl
      | true => have := (okBoxes_iff.1 q).1; omega
    go_enter Try.func34, Try.ntmps34
    go_wp2_with fail
    go_ret
    exact ⟨ret_bool' he.symm, Below.refl _ _⟩
  have h1 : decide ((400 : Int) < (bs.length : Int)) = false := by simp; omega
  go_enter Try.func34, Try.ntmps34
  go_wp2_with fail
  go_loopw [10] (fun i wr => ∃ k : Nat, k ≤ bs.length ∧ i = .int .i64 (k : Int) ∧ Hid (∀ j, j < k → Kw.ok (bs.getD j noBx).1 = true ∧ Kw.ok (bs.getD j noBx).2 = true) ∧ Hid (Below w.heap.size w wr)) (fun i _ => bs.length - (intOf i).toNat)
  case atStart => exact ⟨0, by omega, rfl, fun j hj => by omega, Below.refl _ _⟩
  case round =>
    obtain ⟨k, hk, rfl, hN, hL⟩ := hrel
    by_cases hlt : k < bs.length
    · have hlt2 : (k : Int) < (bs.length : Int) := by omega
      obtain ⟨ao', c1, q1, _, _, q2⟩ := BRow.below (unhide hR) (unhide hL)
      simp only [Value.slice.injEq] at q1
      obtain ⟨rfl, z1, rfl⟩ := q1
      clear z1
      obtain ⟨a, rfl, hca, hcb⟩ := q2 k hlt
      rw [add_one] at hcb
      clear q2
      have hmem := getB_mem hlt
      have M : Hid ((bs.getD k noBx).1.size ≤ maxLen ∧ (bs.getD k noBx).2.size ≤ maxLen) := hX.out _ hmem
      have hle := hL.out.size
      have i3 : IntKind.i64.wrap ((k : Int) + 1) = (k : Int) + 1 := by simp [IntKind.wrap, IntKind.bits, IntKind.signed]; omega
      have hNo : Hid (Kw.ok (bs.getD k noBx).1 = false ∨ Kw.ok (bs.getD k noBx).2 = false → okBoxes bs = false) := by
        intro hf
        cases q : okBoxes bs with
        | false => rfl
        | true =>
          have := (okBoxes_iff.1 q).2 _ hmem
          rcases hf with hf | hf
          · rw [hf] at this; cases this.1
          · rw [hf] at this; cases this.2
      have hYes : Hid (Kw.ok (bs.getD k noBx).1 = true → Kw.ok (bs.getD k noBx).2 = true → ∀ j, j < k + 1 → Kw.ok (bs.getD j noBx).1 = true ∧ Kw.ok (bs.getD j noBx).2 = true) := by
        intro ha hb j hj
        by_cases hjk : j = k
        · subst hjk; exact ⟨ha, hb⟩
        · exact hN j (by omega)
      clear hmem
      generalize bs.getD k noBx = y at hca hcb M hNo hYes
      have HBX : Hid (Below w.heap.size w (wr.alloc (.cells #[.string y.1, .string y.2] 33))) := (unhide hL).alloc hle _
      go_wp2_with fail
      refine (iSecOk_any y.1 _ M.out.1).mono ?_
      cases hy : Kw.ok y.1 with
      | false =>
        have he := hNo.out (.inl hy)
        rintro e w1 ⟨rfl, hb1⟩
        have hL1 := hide ((unhide HBX).trans (hb1.mono (by simp; omega)))
        clear hb1 hy
        go_wp2_with fail
        go_ret
        exact ⟨ret_bool' he.symm, unhide hL1⟩
      | true =>
        have HY := hide hy
        rintro e w1 ⟨rfl, hb1⟩
        have hcb1 := keep1 (b := wr.heap.size) (o := 1) (v := .string y.2) hb1 (by simp [go_sem]) (by simp)
        have hL1 := hide ((unhide HBX).trans (hb1.mono (by simp; omega)))
        have hle1 := hL1.out.size
        clear hb1 hy hca hcb
        go_wp2_with fail
        refine (iSecOk_any y.2 _ M.out.2).mono ?_
        cases hz : Kw.ok y.2 with
        | false =>
          have he := hNo.out (.inr hz)
          rintro e w2 ⟨rfl, hb2⟩
          have hL2 := hide ((unhide hL1).trans (hb2.mono hle1))
          clear hb2 hz
          go_wp2_with fail
          go_ret
          exact ⟨ret_bool' he.symm, unhide hL2⟩
        | true =>
          have hN1 := hide (hYes.out HY.out hz)
          rintro e w2 ⟨rfl, hb2⟩
          have hL2 := hide ((unhide hL1).trans (hb2.mono hle1))
          clear hb2 hz
          go_wp2_with fail
          go_roundw
          case rel => exact ⟨k + 1, by omega, by simp, hN1, hL2⟩
          case measure => simp [intOf]; omega
    · have hlt2 : decide ((k : Int) < (bs.length : Int)) = false := by simp; omega
      have he : okBoxes bs = true := okBoxes_iff.2 ⟨by omega, fun b hb => by
        obtain ⟨j, hj, e⟩ := List.getElem_of_mem hb
        have := hN.out j (by omega)
        rw [List.getD_eq_getElem?_getD, List.getElem?_eq_getElem hj] at this
        rw [← e]; exact this⟩
      go_wp2_with fail
      go_ret
      exact ⟨ret_bool' he.symm, unhide hL⟩

end Go.Proofs.Yteiojanamkndmaa
/-
  A region that draws its order: whatever yields its value in every later world may be taken first; so what makes or writes memory alone comes up, one by one; what waits for all others may write what it likes.
-/
namespace Go.Proofs.Yteiojanamkndmaa
open Go.RowKit

/-- An order of worlds. -/
structure Pre (R : World → World → Prop) : Prop where
  refl : ∀ w, R w w
  trans : ∀ u v w, R u v → R v w → R u w

section
variable {P : Program} {ops : Array Oper} {Q : Exit → Act → World → Prop} {md : Region.Mode} {R : World → World → Prop}

/-- Operation j waits for all others. -/
def waitsB (md : Region.Mode) (ops : Array Oper) (j : Nat) : Bool :=
  (List.range ops.size).all fun k => k == j || ((ops[j]?).map (fun o => o.after.any fun e => Region.binds md e && e.on == k)).getD false

/-- Whatever order is picked from here on, and each operation leads from a world to a later one, but one that waits for all others. -/
def wpAnyR (P : Program) (md : Region.Mode) (ops : Array Oper) (Q : Exit → Act → World → Prop) (R : World → World → Prop) : Nat → Array Bool → Act → World → Prop
  | 0, listed, a, w => Region.ready md ops listed = [] ∧ Q .normal a w
  | fuel + 1, listed, a, w =>
    (Region.ready md ops listed = [] → Q .normal a w) ∧
    ∀ i ∈ Region.ready md ops listed, wpOp P ops Q i (fun a' w' => (waitsB md ops i = true ∧ Region.ready md ops (listed.setIfInBounds i true) = [] ∧ Q .normal a' w') ∨ (R w w' ∧ wpAnyR P md ops Q R fuel (listed.setIfInBounds i true) a' w')) a w

theorem wpAny_of_R : ∀ (fuel : Nat) (listed : Array Bool) (a : Act) (w : World), wpAnyR P md ops Q R fuel listed a w → wpAny P md ops Q fuel listed a w
  | 0, _, _, _, h => h
  | fuel + 1, _, _, _, h => ⟨h.1, fun i hi => wpOp_mono (fun a' w' h' => by
      rcases h' with ⟨_, h1, h2⟩ | h'
      · cases fuel with
        | zero => exact ⟨h1, h2⟩
        | succ f => exact ⟨fun _ => h2, by rw [h1]; simp⟩
      · exact wpAny_of_R fuel _ a' w' h'.2) (h.2 i hi)⟩

theorem YieldsIf.later {S S' : World → Prop} {o : Oper} {v : Value} {a : Act} (h : YieldsIf P ops S o v a) (hs : ∀ w, S' w → S w) : YieldsIf P ops S' o v a :=
  h.imp (fun ⟨hw, hv⟩ => ⟨hw, fun w hS => hv w (hs w hS)⟩) id

theorem waits_spec {j i : Nat} {oj : Oper} (hj : ops[j]? = some oj) (h : waitsB md ops j = true) (hi : i < ops.size) (hne : i ≠ j) : ∃ e ∈ oj.after, Region.binds md e = true ∧ e.on = i := by
  unfold waitsB at h
  rw [List.all_eq_true] at h
  have h1 := h i (by rw [List.mem_range]; exact hi)
  rw [hj] at h1
  simp only [Option.map_some, Option.getD_some, Bool.or_eq_true, beq_iff_eq, hne, false_or, Array.any_eq_true', Bool.and_eq_true] at h1
  exact h1

theorem wpAnyR_first (hP : Pre R) {i : Nat} {oi : Oper} {v : Value} (hi : ops[i]? = some oi) (hsel : ∀ (j : Nat) (o : Oper) cs b, ops[j]? = some o → o.op ≠ .select cs b)
    (hQ : ∀ c a w, Q (.panic c) (a.put oi.dst v) w → Q (.panic c) a w) :
    ∀ (fuel : Nat) (listed : Array Bool) (a : Act) (w : World),
      (∀ j oj, ops[j]? = some oj → j ≠ i → listed.getD j true = false → (∀ e ∈ oj.after, Region.binds md e = true → e.on ≠ i) → oi.apart ops oj = true) →
      i ∈ Region.ready md ops listed → YieldsIf P ops (R w) oi v a →
      wpAnyR P md ops Q R fuel (listed.setIfInBounds i true) (a.put oi.dst v) w → wpAnyR P md ops Q R (fuel + 1) listed a w := by
  intro fuel
  induction fuel with
  | zero =>
    intro listed a w _ hr hy H
    refine ⟨fun h => (by rw [h] at hr; cases hr), fun j hj => ?_⟩
    by_cases hji : j = i
    · subst hji; exact hy.wpOp hi (hP.refl w) (.inr ⟨hP.refl w, H⟩)
    · have := ready_mono hj hji
      rw [H.1] at this
      cases this
  | succ fuel ih =>
    intro listed a w hfree hr hy H
    refine ⟨fun h => (by rw [h] at hr; cases hr), fun j hj => ?_⟩
    by_cases hji : j = i
    · subst hji; exact hy.wpOp hi (hP.refl w) (.inr ⟨hP.refl w, H⟩)
    · have h1 := H.2 j (ready_mono hj hji)
      obtain ⟨hjun, oj, hoj, hall⟩ := mem_ready.1 hj
      have hnot : ∀ e ∈ oj.after, Region.binds md e = true → e.on ≠ i := fun e he hb heq => by
        have h1 := hall e he hb
        have h0 := (mem_ready.1 hr).1
        rw [heq] at h1
        rcases Nat.lt_or_ge i listed.size with h' | h'
        · simp [h'] at h0 h1; rw [h0] at h1; cases h1
        · simp [Array.getElem?_eq_none h'] at h1
      have hnw : ¬ waitsB md ops j = true := fun q => by
        obtain ⟨e, he, hb, heq⟩ := waits_spec hoj q (Array.getElem?_eq_some_iff.1 hi).1 (Ne.symm hji)
        exact hnot e he hb heq
      have h2 := wpOp_putIf hoj (hfree j oj hoj hji hjun hnot) (fun cs b => hsel i oi cs b hi) (fun cs b => hsel j oj cs b hoj) hQ hy h1
      have hfree' : ∀ k ok, ops[k]? = some ok → k ≠ i → (listed.setIfInBounds j true).getD k true = false →
          (∀ e ∈ ok.after, Region.binds md e = true → e.on ≠ i) → oi.apart ops ok = true := fun k ok hk hki hun hno => by
        refine hfree k ok hk hki ?_ hno
        by_cases hjk : j = k
        · subst hjk; exact hjun
        · rw [getD_set_ne true hjk] at hun; exact hun
      refine wpOp_mono (fun a' w' h3 => ?_) h2
      rcases h3.2 with ⟨q, _⟩ | ⟨h4, h5⟩
      · exact absurd q hnw
      refine .inr ⟨h4, ih (listed.setIfInBounds j true) a' w' hfree' (ready_mono hr (Ne.symm hji)) (YieldsIf.later h3.1 (fun u hu => hP.trans _ _ _ h4 hu)) ?_⟩
      rw [Array.setIfInBounds_comm _ _ hji]
      exact h5

/-- Take number i first: it yields v in every later world. -/
theorem ord_take (hP : Pre R) {i d : Nat} {v : Value} {fuel : Nat} {listed : Array Bool} {a : Act} {w : World}
    (hs : Region.noSelect ops = true) (hf : Region.free md ops listed i = true) (hr : (Region.ready md ops listed).contains i = true) (hd : (ops[i]?).bind (·.dst) = some d)
    (hQ : ∀ c a w, Q (.panic c) (a.put (some d) v) w → Q (.panic c) a w)
    (hy : ∀ oi, ops[i]? = some oi → Region.wanted oi (yielded ops a.tmps) = true ∧ ∀ w', R w w' → (execOp a.eval oi).run P w' = .ok (.value v) w')
    (h : wpAnyR P md ops Q R fuel (listed.setIfInBounds i true) (a.put (some d) v) w) : wpAnyR P md ops Q R (fuel + 1) listed a w := by
  cases hi : ops[i]? with
  | none => rw [hi] at hd; cases hd
  | some oi =>
    rw [hi] at hd
    have hd' : oi.dst = some d := hd
    rw [← hd'] at h hQ
    exact wpAnyR_first hP hi (Region.noSelect_spec hs) hQ fuel listed a w (Region.free_spec hi hf) (by simpa using hr) (.inl (hy oi hi)) h
/-- Take number i first: it is not wanted. -/
theorem ord_skip (hP : Pre R) {i d : Nat} {fuel : Nat} {listed : Array Bool} {a : Act} {w : World}
    (hs : Region.noSelect ops = true) (hf : Region.free md ops listed i = true) (hr : (Region.ready md ops listed).contains i = true) (hd : (ops[i]?).bind (·.dst) = some d)
    (hQ : ∀ c a w, Q (.panic c) (a.put (some d) undef) w → Q (.panic c) a w)
    (hy : ((ops[i]?).map fun oi => Region.wanted oi (yielded ops a.tmps)) = some false)
    (h : wpAnyR P md ops Q R fuel (listed.setIfInBounds i true) (a.put (some d) undef) w) : wpAnyR P md ops Q R (fuel + 1) listed a w := by
  cases hi : ops[i]? with
  | none => rw [hi] at hd; cases hd
  | some oi =>
    rw [hi] at hd hy
    have hd' : oi.dst = some d := hd
    rw [← hd'] at h hQ
    exact wpAnyR_first hP hi (Region.noSelect_spec hs) hQ fuel listed a w (Region.free_spec hi hf) (by simpa using hr) (.inr ⟨by simpa using hy, rfl⟩) h
/-- Number i alone comes up. -/
theorem ord_one {i : Nat} {fuel : Nat} {listed : Array Bool} {a : Act} {w : World} (hr : Region.ready md ops listed = [i])
    (h : ∀ oi K, ops[i]? = some oi → Shut (∀ a' w', R w w' → wpAnyR P md ops Q R fuel (listed.setIfInBounds i true) a' w' → K a' w') → Region.wanted oi (yielded ops a.tmps) = true ∧ oi.wp P a w K Q) : wpAnyR P md ops Q R (fuel + 1) listed a w := by
  refine ⟨fun h0 => (by rw [hr] at h0; cases h0), fun j hj => ?_⟩
  rw [hr] at hj
  obtain rfl : j = i := by simpa using hj
  unfold wpOp
  cases hi : ops[j]? with
  | none =>
    have : j ∈ Region.ready md ops listed := by rw [hr]; simp
    obtain ⟨_, o, ho, _⟩ := mem_ready.1 this
    rw [hi] at ho
    cases ho
  | some oi =>
    obtain ⟨hw, hwp⟩ := h oi (fun a' w' => (waitsB md ops j = true ∧ Region.ready md ops (listed.setIfInBounds j true) = [] ∧ Q .normal a' w') ∨ (R w w' ∧ wpAnyR P md ops Q R fuel (listed.setIfInBounds j true) a' w')) hi (fun a' w' hl hk => .inr (And.intro hl hk))
    simp only [hw, if_true]
    exact .inl hwp
/-- Number i comes up last: it waits for all others. -/
theorem ord_last {i : Nat} {fuel : Nat} {listed : Array Bool} {a : Act} {w : World} (hr : Region.ready md ops listed = [i]) (hwt : waitsB md ops i = true) (he : Region.ready md ops (listed.setIfInBounds i true) = [])
    (h : ∀ oi K, ops[i]? = some oi → Shut (∀ a' w', Q .normal a' w' → K a' w') → Region.wanted oi (yielded ops a.tmps) = true ∧ oi.wp P a w K Q) : wpAnyR P md ops Q R (fuel + 1) listed a w := by
  refine ⟨fun h0 => (by rw [hr] at h0; cases h0), fun j hj => ?_⟩
  rw [hr] at hj
  obtain rfl : j = i := by simpa using hj
  unfold wpOp
  cases hi : ops[j]? with
  | none =>
    have : j ∈ Region.ready md ops listed := by rw [hr]; simp
    obtain ⟨_, o, ho, _⟩ := mem_ready.1 this
    rw [hi] at ho
    cases ho
  | some oi =>
    obtain ⟨hw, hwp⟩ := h oi (fun a' w' => (waitsB md ops j = true ∧ Region.ready md ops (listed.setIfInBounds j true) = [] ∧ Q .normal a' w') ∨ (R w w' ∧ wpAnyR P md ops Q R fuel (listed.setIfInBounds j true) a' w')) hi (fun a' w' hl => .inl ⟨hwt, he, hl⟩)
    simp only [hw, if_true]
    exact .inl hwp
/-- All have come up. -/
theorem later_done {listed : Array Bool} {a : Act} {w : World} (hr : Region.ready md ops listed = []) (h : Q .normal a w) : ∀ fuel, wpAnyR P md ops Q R fuel listed a w
  | 0 => ⟨hr, h⟩
  | _ + 1 => ⟨fun _ => h, by rw [hr]; simp⟩
/-- The beginning. -/
theorem wp_region_ord (R : World → World → Prop) {id : Nat} {a : Act} {w : World} (hm : P.follows .mixedOrders = true)
    (h : wpAnyR P .any ops Q R ops.size (Array.replicate ops.size false) a w.drew) : (Code.region id ops true).wp P Q a w :=
  wp_region_any hm (wpAny_of_R _ _ _ _ h)
end

/-- Later worlds: what was there is as it was. -/
def Later (w w' : World) : Prop := Below w.heap.size w w'
theorem laterPre : Pre Later := ⟨fun _ => Below.refl _ _, fun _ _ _ h k => Below.trans h (Below.mono k h.size)⟩
/-- Worlds in which what lay below B is as it was. -/
theorem belowPre (B : Nat) : Pre (Below B) := ⟨fun _ => Below.refl _ _, fun _ _ _ h k => Below.trans h k⟩

section
variable {P : Program} {ops : Array Oper} {Q : Exit → Act → World → Prop} {md : Region.Mode}
theorem later_take {i d : Nat} {v : Value} {fuel : Nat} {listed : Array Bool} {a : Act} {w : World}
    (hs : Region.noSelect ops = true) (hf : Region.free md ops listed i = true) (hr : (Region.ready md ops listed).contains i = true) (hd : (ops[i]?).bind (·.dst) = some d)
    (hQ : ∀ c a w, Q (.panic c) (a.put (some d) v) w → Q (.panic c) a w)
    (hy : ∀ oi, ops[i]? = some oi → Region.wanted oi (yielded ops a.tmps) = true ∧ ∀ w', Later w w' → (execOp a.eval oi).run P w' = .ok (.value v) w')
    (h : wpAnyR P md ops Q Later fuel (listed.setIfInBounds i true) (a.put (some d) v) w) : wpAnyR P md ops Q Later (fuel + 1) listed a w := ord_take laterPre hs hf hr hd hQ hy h
theorem later_skip {i d : Nat} {fuel : Nat} {listed : Array Bool} {a : Act} {w : World}
    (hs : Region.noSelect ops = true) (hf : Region.free md ops listed i = true) (hr : (Region.ready md ops listed).contains i = true) (hd : (ops[i]?).bind (·.dst) = some d)
    (hQ : ∀ c a w, Q (.panic c) (a.put (some d) undef) w → Q (.panic c) a w)
    (hy : ((ops[i]?).map fun oi => Region.wanted oi (yielded ops a.tmps)) = some false)
    (h : wpAnyR P md ops Q Later fuel (listed.setIfInBounds i true) (a.put (some d) undef) w) : wpAnyR P md ops Q Later (fuel + 1) listed a w := ord_skip laterPre hs hf hr hd hQ hy h
theorem later_one {i : Nat} {fuel : Nat} {listed : Array Bool} {a : Act} {w : World} (hr : Region.ready md ops listed = [i])
    (h : ∀ oi K, ops[i]? = some oi → Shut (∀ a' w', Later w w' → wpAnyR P md ops Q Later fuel (listed.setIfInBounds i true) a' w' → K a' w') → Region.wanted oi (yielded ops a.tmps) = true ∧ oi.wp P a w K Q) : wpAnyR P md ops Q Later (fuel + 1) listed a w := ord_one hr h
theorem wp_region_later {id : Nat} {a : Act} {w : World} (hm : P.follows .mixedOrders = true)
    (h : wpAnyR P .any ops Q Later ops.size (Array.replicate ops.size false) a w.drew) : (Code.region id ops true).wp P Q a w := wp_region_ord Later hm h
end
#print axioms wp_region_later
end Go.Proofs.Yteiojanamkndmaa
/-
  A region that draws its order: two that make memory may come up, one ahead of the other.
-/
namespace Go.Proofs.Yteiojanamkndmaa
open Go.RowKit
section
variable {P : Program} {ops : Array Oper} {Q : Exit → Act → World → Prop} {md : Region.Mode} {R : World → World → Prop}
theorem ord_two {i j : Nat} {fuel : Nat} {listed : Array Bool} {a : Act} {w : World} (hr : Region.ready md ops listed = [i, j])
    (h : ∀ oi K, ops[i]? = some oi → Shut (∀ a' w', R w w' → wpAnyR P md ops Q R fuel (listed.setIfInBounds i true) a' w' → K a' w') → Region.wanted oi (yielded ops a.tmps) = true ∧ oi.wp P a w K Q)
    (k : ∀ oi K, ops[j]? = some oi → Shut (∀ a' w', R w w' → wpAnyR P md ops Q R fuel (listed.setIfInBounds j true) a' w' → K a' w') → Region.wanted oi (yielded ops a.tmps) = true ∧ oi.wp P a w K Q) : wpAnyR P md ops Q R (fuel + 1) listed a w := by
  refine ⟨fun h0 => (by rw [hr] at h0; cases h0), fun z hz => ?_⟩
  have step : ∀ z, z ∈ Region.ready md ops listed → (∀ oi K, ops[z]? = some oi → Shut (∀ a' w', R w w' → wpAnyR P md ops Q R fuel (listed.setIfInBounds z true) a' w' → K a' w') → Region.wanted oi (yielded ops a.tmps) = true ∧ oi.wp P a w K Q) →
      wpOp P ops Q z (fun a' w' => (waitsB md ops z = true ∧ Region.ready md ops (listed.setIfInBounds z true) = [] ∧ Q .normal a' w') ∨ (R w w' ∧ wpAnyR P md ops Q R fuel (listed.setIfInBounds z true) a' w')) a w := by
    intro z hm hh
    unfold wpOp
    cases hi : ops[z]? with
    | none =>
      obtain ⟨_, o, ho, _⟩ := mem_ready.1 hm
      rw [hi] at ho
      cases ho
    | some oi =>
      obtain ⟨hw, hwp⟩ := hh oi (fun a' w' => (waitsB md ops z = true ∧ Region.ready md ops (listed.setIfInBounds z true) = [] ∧ Q .normal a' w') ∨ (R w w' ∧ wpAnyR P md ops Q R fuel (listed.setIfInBounds z true) a' w')) hi (fun a' w' hl hk => .inr (And.intro hl hk))
      simp only [hw, if_true]
      exact .inl hwp
  rw [hr] at hz
  rcases (by simpa using hz : z = i ∨ z = j) with rfl | rfl
  · exact step z (by rw [hr]; simp) h
  · exact step z (by rw [hr]; simp) k
theorem later_two {i j : Nat} {fuel : Nat} {listed : Array Bool} {a : Act} {w : World} (hr : Region.ready md ops listed = [i, j])
    (h : ∀ oi K, ops[i]? = some oi → Shut (∀ a' w', Later w w' → wpAnyR P md ops Q Later fuel (listed.setIfInBounds i true) a' w' → K a' w') → Region.wanted oi (yielded ops a.tmps) = true ∧ oi.wp P a w K Q)
    (k : ∀ oi K, ops[j]? = some oi → Shut (∀ a' w', Later w w' → wpAnyR P md ops Q Later fuel (listed.setIfInBounds j true) a' w' → K a' w') → Region.wanted oi (yielded ops a.tmps) = true ∧ oi.wp P a w K Q) : wpAnyR P md ops Q Later (fuel + 1) listed a w := ord_two hr h k
end
end Go.Proofs.Yteiojanamkndmaa
