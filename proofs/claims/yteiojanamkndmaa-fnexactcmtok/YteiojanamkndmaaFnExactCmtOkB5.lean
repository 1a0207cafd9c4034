/-
  TreOk of both sides.
-/
import Derived.Test.YteiojanamkndmaaFnExactCmtOkB4
import Derived.Test.YteiojanamkndmaaFnExactCmtOkB3
import Derived.Test.YteiojanamkndmaaFnExactCmtOkB1
import Derived.Test.YteiojanamkndmaaFnExactCmtOkB2
import Derived.Deep.RegionHeld3
import Derived.Deep.MidRow
namespace Go.Proofs.Yteiojanamkndmaa
open Go.RowKit Kw

theorem keyOk_op (y : ByteArray) : keyOk y = (decide (y = ByteArray.empty) || decide (mOp y = 3)) := by
  unfold keyOk
  cases h : Kw.ok y with
  | true => simp
  | false =>
    have : mOp y = 0 := by unfold mOp; rw [if_neg (by rw [h]; simp)]
    rw [this]
    simp
theorem treOk_short {xs : List ByteArray} (h : xs.length ≠ 15) : treOk xs = false := by unfold treOk; simp [h]
theorem treOk_bad {xs : List ByteArray} {k : Nat} (hk : k < xs.length) (h : keyOk (xs.getD k ByteArray.empty) = false) : treOk xs = false := by
  cases q : treOk xs with
  | false => rfl
  | true => rw [(treOk_iff.1 q).2 k hk] at h; cases h
theorem treOk_good {xs : List ByteArray} (hl : xs.length = 15) (h : ∀ j, j < 15 → keyOk (xs.getD j ByteArray.empty) = true) : treOk xs = true := treOk_iff.2 ⟨hl, fun k hk => h k (by omega)⟩

theorem how_field (a b c : Int) (d e : ByteArray) : howV a b c d e = .agg #[.int .i64 a, .int .i64 b, .int .i64 c, .string d, .string e] := rfl

theorem field_op (a b c : Int) (d e : ByteArray) (w : World) : (Instr.field 47 (.agg #[.int .i64 a, .int .i64 b, .int .i64 c, .string d, .string e]) 0).run Try.prog w = .ok (.int .i64 a) w := by kernel_rfl

set_option maxRecDepth 100000 in
set_option maxHeartbeats 400000 in
theorem isKey_any (s : ByteArray) (w : World) (hm : s.size ≤ maxLen) :
    Calls Try.prog 42 #[.string s] w fun e w' => e = .returned (.bool (decide (mOp s = 3))) ∧ Below w.heap.size w w' := by
  have M := hide hm
  clear hm
  go_enter Try.func42, Try.ntmps42
  go_wp2_with fail
  refine (iSecMade_any s _ M.out).mono ?_
  rw [how_field]
  rintro e w1 ⟨rfl, hb1⟩
  have hfl := field_op
  go_wp2_with fail
  go_ret
  refine ⟨ret_bool' ?_, hb1⟩
  rw [Bool.eq_iff_iff]
  simp

set_option maxRecDepth 100000 in
set_option maxHeartbeats 2000000 in
theorem iTreOk_any (v : Value) (xs : List ByteArray) (w : World) (h : SRow w v xs) (hx : ∀ x ∈ xs, x.size ≤ maxLen) :
    Calls Try.prog 33 #[.agg #[v]] w fun e w' => e = .returned (.bool (treOk xs)) ∧ Below w.heap.size w w' := by
  obtain ⟨ao, cap, rfl, h1, h2, _⟩ := h.form
  have HX := hide hx
  have hR : Hid (SRow (w.alloc (.cells #[.slice ao xs.length cap] 51)) (.slice ao xs.length cap) xs) := h.below ((Below.refl _ _).alloc (Nat.le_refl _) _)
  have hW : Hid (Below w.heap.size w (w.alloc (.cells #[.slice ao xs.length cap] 51))) := (Below.refl _ _).alloc (Nat.le_refl _) _
  unfold maxLen at h2
  clear h hx
  by_cases hl : xs.length = 15
  · rw [hl] at hR hW h1 ⊢
    have HL := hide hl
    clear hl
    go_enter Try.func33, Try.ntmps33
    go_wp2_with fail
    go_loopw [12] (fun i wr => ∃ k : Nat, k ≤ 15 ∧ i = .int .i64 (k : Int) ∧ Hid (∀ j, j < k → keyOk (xs.getD j ByteArray.empty) = true) ∧ Hid (Below (w.heap.size + 1) (w.alloc (.cells #[.slice ao 15 cap] 51)) wr)) (fun i _ => 15 - (intOf i).toNat)
    case atStart => exact ⟨0, by omega, rfl, fun j hj => by omega, Below.refl _ _⟩
    case round =>
      obtain ⟨k, hk, rfl, hN, hL⟩ := hrel
      have hle := hL.out.size
      rw [World.size_alloc] at hle
      by_cases hlt : k < 15
      · have hlt2 : (k : Int) < 15 := by omega
        have i3 : IntKind.i64.wrap ((k : Int) + 1) = (k : Int) + 1 := by simp [IntKind.wrap, IntKind.bits, IntKind.signed]; omega
        obtain ⟨ao', c1, q1, _, _, q2⟩ := (SRow.below (unhide hR) (by rw [World.size_alloc]; exact unhide hL)).form
        rw [HL.out] at q1 q2
        simp only [Value.slice.injEq] at q1
        obtain ⟨rfl, _, rfl⟩ := q1
        obtain ⟨a, rfl, hck⟩ := q2 k hlt
        clear q2
        have hsz : Hid ((xs.getD k ByteArray.empty).size ≤ maxLen) := HX.out _ (getD_mem (by have := HL.out; omega))
        have hYes : Hid (keyOk (xs.getD k ByteArray.empty) = true → ∀ j, j < k + 1 → keyOk (xs.getD j ByteArray.empty) = true) := by
          intro ht j hj
          by_cases hjk : j = k
          · subst hjk; exact ht
          · exact hN j (by omega)
        have hNo : Hid (keyOk (xs.getD k ByteArray.empty) = false → treOk xs = false) := treOk_bad (by have := HL.out; omega)
        have hKO := hide (keyOk_op (xs.getD k ByteArray.empty))
        generalize xs.getD k ByteArray.empty = y at hck hsz hYes hNo hKO
        by_cases hy : y = ByteArray.empty
        · have hN1 := hide (hYes.out (by rw [hKO.out]; simp [hy]))
          have hne : y.toList = [] := by rw [hy]; exact nil_text
          have hne2 : y.toList.isEmpty = true := by rw [hne]; rfl
          clear hy hYes hNo hKO
          go_wp2_with fail
          go_roundw
          case rel => exact ⟨k + 1, by omega, by simp, hN1, hL⟩
          case measure => simp [intOf]; omega
        · have hne : ¬ y.toList = [] := no_text hy
          have hne2 : y.toList.isEmpty = false := by simpa using hne
          have HY := hide hy
          clear hy
          go_wp2_with fail
          refine (isKey_any y _ hsz.out).mono ?_
          cases hd : decide (mOp y = 3) with
          | true =>
            rintro e w1 ⟨rfl, hb1⟩
            have hN1 := hide (hYes.out (by rw [hKO.out, hd]; simp))
            have hL1 := hide ((unhide hL).trans (hb1.mono hle))
            clear hd hb1 hL hYes hNo hKO
            go_wp2_with fail
            go_roundw
            case rel => exact ⟨k + 1, by omega, by simp, hN1, hL1⟩
            case measure => simp [intOf]; omega
          | false =>
            rintro e w1 ⟨rfl, hb1⟩
            have hF := hide (hNo.out (by rw [hKO.out, hd]; simpa using HY.out))
            have hL1 := hide ((unhide hL).trans (hb1.mono hle))
            clear hd hb1 hL hYes hNo hKO
            go_wp2_with fail
            go_ret
            exact ⟨ret_bool' hF.out.symm, (unhide hW).trans ((unhide hL1).mono (by omega))⟩
      · have hlt2 : decide ((k : Int) < 15) = false := by simp; omega
        have hF : Hid (treOk xs = true) := treOk_good HL.out (fun j hj => hN j (by omega))
        go_wp2_with fail
        go_ret
        exact ⟨ret_bool' hF.out.symm, (unhide hW).trans ((unhide hL).mono (by omega))⟩
  · have hl2 : ((xs.length : Int) == 15) = false := by simp; omega
    have hF : Hid (treOk xs = false) := treOk_short hl
    clear hl
    go_enter Try.func33, Try.ntmps33
    go_wp2_with fail
    go_ret
    exact ⟨ret_bool' hF.out.symm, unhide hW⟩

set_option maxRecDepth 100000 in
set_option maxHeartbeats 2000000 in
theorem sTreOk_any (v : Value) (xs : List ByteArray) (w : World) (h : SRow w v xs) (hx : ∀ x ∈ xs, x.size ≤ maxLen) :
    Calls Try.prog 15 #[.agg #[v]] w fun e w' => e = .returned (.bool (treOk xs)) ∧ Below w.heap.size w w' := by
  obtain ⟨ao, cap, rfl, h1, h2, _⟩ := h.form
  have HX := hide hx
  have hR : Hid (SRow (w.alloc (.cells #[.slice ao xs.length cap] 51)) (.slice ao xs.length cap) xs) := h.below ((Below.refl _ _).alloc (Nat.le_refl _) _)
  have hW : Hid (Below w.heap.size w (w.alloc (.cells #[.slice ao xs.length cap] 51))) := (Below.refl _ _).alloc (Nat.le_refl _) _
  have hbx : Hid ((w.alloc (.cells #[.slice ao xs.length cap] 51)).cell? ⟨w.heap.size, 0, none⟩ = some (.slice ao xs.length cap)) := by show _ = _; simp [go_sem]
  unfold maxLen at h2
  clear h hx
  by_cases hl : xs.length = 15
  · rw [hl] at hR hW h1 hbx ⊢
    have HL := hide hl
    clear hl
    go_enter Try.func15, Try.ntmps15
    go_wp2_with fail
    go_loopw [3] (fun i wr => ∃ k : Nat, k ≤ 15 ∧ i = .int .i64 (k : Int) ∧ Hid (∀ j, j < k → keyOk (xs.getD j ByteArray.empty) = true) ∧ Hid (Below (w.heap.size + 1) (w.alloc (.cells #[.slice ao 15 cap] 51)) wr)) (fun i _ => 15 - (intOf i).toNat)
    case atStart => exact ⟨0, by omega, rfl, fun j hj => by omega, Below.refl _ _⟩
    case round =>
      obtain ⟨k, hk, rfl, hN, hL⟩ := hrel
      have hle := hL.out.size
      rw [World.size_alloc] at hle
      have hb0 : wr.cell? ⟨w.heap.size, 0, none⟩ = some (.slice ao 15 cap) := ((unhide hL).cell (p := ⟨w.heap.size, 0, none⟩) (by simp)).trans hbx.out
      by_cases hlt : k < 15
      · have hlt2 : (k : Int) < 15 := by omega
        have i3 : IntKind.i64.wrap ((k : Int) + 1) = (k : Int) + 1 := by simp [IntKind.wrap, IntKind.bits, IntKind.signed]; omega
        obtain ⟨ao', c1, q1, _, _, q2⟩ := (SRow.below (unhide hR) (by rw [World.size_alloc]; exact unhide hL)).form
        rw [HL.out] at q1 q2
        simp only [Value.slice.injEq] at q1
        obtain ⟨rfl, _, rfl⟩ := q1
        obtain ⟨a, rfl, hck⟩ := q2 k hlt
        clear q2
        have hsz : Hid ((xs.getD k ByteArray.empty).size ≤ maxLen) := HX.out _ (getD_mem (by have := HL.out; omega))
        have hYes : Hid (keyOk (xs.getD k ByteArray.empty) = true → ∀ j, j < k + 1 → keyOk (xs.getD j ByteArray.empty) = true) := by
          intro ht j hj
          by_cases hjk : j = k
          · subst hjk; exact ht
          · exact hN j (by omega)
        have hNo : Hid (keyOk (xs.getD k ByteArray.empty) = false → treOk xs = false) := treOk_bad (by have := HL.out; omega)
        have hKO := hide (keyOk_op (xs.getD k ByteArray.empty))
        have hKD : Hid (keyOk (xs.getD k ByteArray.empty) = (decide (xs.getD k ByteArray.empty = ByteArray.empty) || (Kw.ok (xs.getD k ByteArray.empty) && decide (mOp (xs.getD k ByteArray.empty) = 3)))) := rfl
        generalize xs.getD k ByteArray.empty = y at hck hsz hYes hNo hKO hKD
        by_cases hy : y = ByteArray.empty
        · have hN1 := hide (hYes.out (by rw [hKO.out]; simp [hy]))
          have hne : y.toList = [] := by rw [hy]; exact nil_text
          have hne2 : y.toList.isEmpty = true := by rw [hne]; rfl
          clear hy hYes hNo hKO hKD
          go_wp2_with fail
          go_roundw
          case rel => exact ⟨k + 1, by omega, by simp, hN1, hL⟩
          case measure => simp [intOf]; omega
        · have hne : ¬ y.toList = [] := no_text hy
          have hne2 : y.toList.isEmpty = false := by simpa using hne
          have HY := hide hy
          clear hy
          go_wp2_with fail
          refine (sSecOk_any y _ hsz.out).mono ?_
          cases hd : Kw.ok y with
          | false =>
            rintro e w1 ⟨rfl, hb1⟩
            have hF := hide (hNo.out (by rw [hKD.out, hd]; simpa using HY.out))
            have hL1 := hide ((unhide hL).trans (hb1.mono hle))
            clear hd hb1 hL hYes hNo hKO hKD hb0 hck
            go_wp2_with fail
            go_ret
            exact ⟨ret_bool' hF.out.symm, (unhide hW).trans ((unhide hL1).mono (by omega))⟩
          | true =>
            rintro e w1 ⟨rfl, hb1⟩
            have HD := hide hd
            have hL1 := hide ((unhide hL).trans (hb1.mono hle))
            have hle1 := Nat.le_trans hle hb1.size
            have hb2 := (hb1.cell (p := ⟨w.heap.size, 0, none⟩) (by show w.heap.size < _; omega)).trans hb0
            have hck2 := (hb1.cell (cell_lt hck)).trans hck
            clear hd hb1 hL hb0 hck
            go_wp2_with fail
            refine (l1How_any y _ HD.out).mono ?_
            rw [how_field]
            rintro e w2 ⟨rfl, hb3⟩
            have hL2 := hide ((unhide hL1).trans (hb3.mono hle1))
            have hKD2 : Hid (keyOk y = decide (mOp y = 3)) := by show _ = _; rw [hKO.out]; simp [HY.out]
            clear hb3 hL1 hb2 hck2 hKO hKD
            generalize mOp y = z at hKD2
            have hfl := field_op
            by_cases hz : z = 3
            · have hN1 := hide (hYes.out (by rw [hKD2.out]; simpa using hz))
              subst hz
              clear hYes hNo hKD2
              go_wp2_with fail
              go_roundw
              case rel => exact ⟨k + 1, by omega, by simp, hN1, hL2⟩
              case measure => simp [intOf]; omega
            · have hF := hide (hNo.out (by rw [hKD2.out]; simpa using hz))
              have hz2 : (z != 3) = true := by simpa using hz
              have hz3 : (z == 3) = false := by simpa using hz
              clear hYes hNo hKD2
              go_wp2_with fail
              go_ret
              exact ⟨ret_bool' hF.out.symm, (unhide hW).trans ((unhide hL2).mono (by omega))⟩
      · have hlt2 : decide ((k : Int) < 15) = false := by simp; omega
        have hF : Hid (treOk xs = true) := treOk_good HL.out (fun j hj => hN j (by omega))
        go_wp2_with fail
        go_ret
        exact ⟨ret_bool' hF.out.symm, (unhide hW).trans ((unhide hL).mono (by omega))⟩
  · have hl2 : ((xs.length : Int) == 15) = false := by simp; omega
    have hF : Hid (treOk xs = false) := treOk_short hl
    clear hl
    go_enter Try.func15, Try.ntmps15
    go_wp2_with fail
    go_ret
    exact ⟨ret_bool' hF.out.symm, unhide hW⟩
#print axioms sTreOk_any
end Go.Proofs.Yteiojanamkndmaa
/-
  The specification's l4Key.
-/
namespace Go.Proofs.Yteiojanamkndmaa
open Go.RowKit

/-- Whether a text is a key. -/
def keyB (s : ByteArray) : Bool := Kw.ok s && decide (mOp s = 3)

set_option maxRecDepth 100000 in
set_option maxHeartbeats 400000 in
theorem l4Key_any (s : ByteArray) (w : World) (hm : s.size ≤ maxLen) :
    Calls Try.prog 17 #[.string s] w fun e w' => e = .returned (.bool (keyB s)) ∧ Below w.heap.size w w' := by
  have M := hide hm
  clear hm
  have HD : Hid (keyB s = (Kw.ok s && decide (mOp s = 3))) := rfl
  go_enter Try.func17, Try.ntmps17
  go_wp2_with fail
  refine (sSecOk_any s _ M.out).mono ?_
  cases hd : Kw.ok s with
  | false =>
    rintro e w1 ⟨rfl, hb1⟩
    have HE : Hid (keyB s = false) := by show _ = _; rw [HD.out, hd]; rfl
    clear hd
    go_wp2_with fail
    go_ret
    exact ⟨ret_bool' HE.out.symm, hb1⟩
  | true =>
    rintro e w1 ⟨rfl, hb1⟩
    have HB1 := hide hb1
    have HK := hide hd
    have HE : Hid (keyB s = decide (mOp s = 3)) := by show _ = _; rw [HD.out, hd]; rfl
    clear hd hb1
    go_wp2_with fail
    refine (l1How_any s _ HK.out).mono ?_
    rw [how_field]
    rintro e w2 ⟨rfl, hb2⟩
    have HB2 := hide (HB1.out.trans (hb2.mono HB1.out.size))
    have hfl := field_op
    clear hb2
    go_wp2_with fail
    go_ret
    refine ⟨ret_bool' ?_, unhide HB2⟩
    rw [HE.out, Bool.eq_iff_iff]
    simp
#print axioms l4Key_any
end Go.Proofs.Yteiojanamkndmaa
/-
  A commit, as a value and in memory; whether it is ok by itself, as plain words.
-/
namespace Go.Proofs.Yteiojanamkndmaa
open Go.RowKit

/-- What one who comes is told. -/
structure Wel where
  key : ByteArray
  ik : ByteArray
  is : ByteArray
  sk : ByteArray
  ss : ByteArray
deriving DecidableEq
def Wel.none : Wel := ⟨⟨#[]⟩, ⟨#[]⟩, ⟨#[]⟩, ⟨#[]⟩, ⟨#[]⟩⟩
/-- A commit. -/
structure Cmt where
  sender : Int
  tag : ByteArray
  name : ByteArray
  add : Int
  rem : Int
  leaf : ByteArray
  keys : List ByteArray
  boxes : List Bx
  wel : Wel
deriving DecidableEq
def Cmt.none : Cmt := ⟨0, ⟨#[]⟩, ⟨#[]⟩, 0, 0, ⟨#[]⟩, [], [], Wel.none⟩

abbrev cmtC (se : Int) (tag name : ByteArray) (add rem : Int) (leaf : ByteArray) (ks bs : Value) (k ik is sk ss : ByteArray) : Array Value :=
  #[.int .i64 se, .string tag, .string name, .int .i64 add, .int .i64 rem, .string leaf, ks, bs, .string k, .string ik, .string is, .string sk, .string ss]
abbrev Cmt.cells (c : Cmt) (ks bs : Value) : Array Value := cmtC c.sender c.tag c.name c.add c.rem c.leaf ks bs c.wel.key c.wel.ik c.wel.is c.wel.sk c.wel.ss
abbrev noCmt : Array Value := cmtC 0 ⟨#[]⟩ ⟨#[]⟩ 0 0 ⟨#[]⟩ (.slice none 0 0) (.slice none 0 0) ⟨#[]⟩ ⟨#[]⟩ ⟨#[]⟩ ⟨#[]⟩ ⟨#[]⟩
/-- A value is a commit, its rows to be read. -/
def CmtR (w : World) (v : Value) (c : Cmt) : Prop := ∃ ks bs, v = .agg (c.cells ks bs) ∧ SRow w ks c.keys ∧ BRow w bs c.boxes
theorem CmtR.below {w w' : World} {v : Value} {c : Cmt} (h : CmtR w v c) (hb : Below w.heap.size w w') : CmtR w' v c := by
  obtain ⟨ks, bs, h1, h2, h3⟩ := h
  exact ⟨ks, bs, h1, h2.below hb, h3.below hb⟩

/-- Whether it is one of eight. -/
def oneB (n : Int) : Bool := decide (0 ≤ n) && decide (n ≤ 7)
/-- Whether it is nobody, or another one than who sends. -/
def otherB (n s : Int) : Bool := decide (n = -1) || (oneB n && decide (n ≠ s))
/-- Whether two texts are keys of who comes. -/
def keysOfB (add : Int) (leaf key : ByteArray) : Bool := if add = -1 then decide (leaf = ByteArray.empty) && decide (key = ByteArray.empty) else decide (mOp leaf = 3) && decide (mOp key = 3) && decide (leaf ≠ key)
/-- Whether who comes is told what it needs. -/
def welB (add : Int) (x : Wel) : Bool := if add = -1 then decide (x = Wel.none) else decide (x.ik = x.key) && decide (x.sk = x.key) && Kw.ok x.is && Kw.ok x.ss
/-- Whether a commit is ok by itself. -/
def cmtOk (c : Cmt) : Bool :=
  oneB c.sender && decide (mOp c.name = 1) && decide (c.tag.size + c.name.size ≤ 300) && otherB c.add c.sender && otherB c.rem c.sender && treOk c.keys && (decide (c.boxes.length ≤ 20) && okBoxes c.boxes) && keysOfB c.add c.leaf c.wel.key && welB c.add c.wel

theorem info_cm : (Try.prog.info? 37).map (·.size) = some 13 := by kernel_rfl
theorem load_cm {w : World} {b : Nat} {cs : Array Value} (h : Blk w b 37 cs) (hc : cs.size = 13) : (loadVar 37 ⟨b, 0, none⟩).run Try.prog w = .ok (.agg cs) w :=
  run_loadVar_row w b _ _ cs (0, 0) _ h Try.underlying37 rfl (by rw [hc]; exact info_cm)
end Go.Proofs.Yteiojanamkndmaa
/-
  A commit that came in: what it holds.
-/
namespace Go.Proofs.Yteiojanamkndmaa
open Go.ChangeShapes Go.WideShapes Go.ChangeAt Go.RowKit

theorem open_srow1 {H : Type} {enc : TypeId × Value → H} {W : World} {held : Bool} {fuel : Nat} {c : Value} {x : DataW H × List MemPlace}
    (hf : DataW.trod enc Try.prog W 0 (fun _ => true) held fuel 22 [c] = some x) : ∃ zs, SRow W c zs ∧ ∀ y ∈ zs, y.size ≤ maxLen := by
  rcases open_strings Try.underlying22 Try.underlying9 (by kernel_rfl) hf with ⟨hcs, _⟩ | ⟨p, l, c', ss, hcs, _⟩
  · simp at hcs
    subst hcs
    exact open_srow (a := none) (len := 0) (cap := 0) (by simpa [Value.cells] using hf)
  · simp at hcs
    subst hcs
    exact open_srow (a := some p) (len := l) (cap := c') (by simpa [Value.cells] using hf)
theorem open_brow1 {H : Type} {enc : TypeId × Value → H} {W : World} {held : Bool} {fuel : Nat} {c : Value} {x : DataW H × List MemPlace}
    (hf : DataW.trod enc Try.prog W 0 (fun _ => true) held fuel 23 [c] = some x) : ∃ zs, BRow W c zs ∧ ∀ y ∈ zs, y.1.size ≤ maxLen ∧ y.2.size ≤ maxLen := by
  rcases Deep.open_slice underLB hf with ⟨hcs, _⟩ | ⟨p, l, c', m, n, D, Pl, hcs, _⟩
  · simp at hcs
    subst hcs
    exact open_brow (a := none) (len := 0) (cap := 0) (by simpa [Value.cells] using hf)
  · simp at hcs
    subst hcs
    exact open_brow (a := some p) (len := l) (cap := c') (by simpa [Value.cells] using hf)

/-- A field, read. -/
theorem field_at {H : Type} {enc : TypeId × Value → H} {W : World} {held : Bool} {n : Nat} {cs : List Value} {fs : Array Field}
    (hf : ∀ (i : Nat) (f : Field), fs[i]? = some f → ∃ y, DataW.trod enc Try.prog W 0 (fun _ => true) held n f.type ((cs.drop f.offset).take (Try.prog.cellsOf f.type)) = some y)
    {i T o z : Nat} (hi : (fs[i]?).map (fun f => (f.type, f.offset)) = some (T, o)) (hz : Try.prog.cellsOf T = z) : ∃ y, DataW.trod enc Try.prog W 0 (fun _ => true) held n T ((cs.drop o).take z) = some y := by
  cases h : fs[i]? with
  | none => rw [h] at hi; cases hi
  | some f =>
    rw [h] at hi
    simp at hi
    obtain ⟨y, hy⟩ := hf i f h
    rw [hi.1, hi.2, hz] at hy
    exact ⟨y, hy⟩
theorem fields_of {H : Type} {enc : TypeId × Value → H} {W : World} {held : Bool} {fuel t : Nat} {cs : List Value} {fs : Array Field} {x : DataW H × List MemPlace} (ht : Try.prog.underlying t = some (.struct fs)) (h : DataW.trod enc Try.prog W 0 (fun _ => true) held fuel t cs = some x) :
    ∃ n, ∀ (i : Nat) (f : Field), fs[i]? = some f → ∃ y, DataW.trod enc Try.prog W 0 (fun _ => true) held n f.type ((cs.drop f.offset).take (Try.prog.cellsOf f.type)) = some y := by
  obtain ⟨xs, n, _, _, _, hlen, hf⟩ := DataW.trod_struct ht h
  refine ⟨n, fun i f hi => ?_⟩
  have hlt : i < xs.length := by rw [hlen]; exact (Array.getElem?_eq_some_iff.1 hi).1
  exact ⟨xs[i], by rw [hf i f hi, List.getElem?_eq_getElem hlt]⟩

theorem cellsI3 : Try.prog.cellsOf 3 = 1 := by kernel_rfl
theorem cellsSS1 : Try.prog.cellsOf 22 = 1 := by kernel_rfl
theorem cellsBB1 : Try.prog.cellsOf 23 = 1 := by kernel_rfl
theorem cellsLC : Try.prog.cellsOf 29 = 13 := by kernel_rfl
theorem cellsLW : Try.prog.cellsOf 27 = 5 := by kernel_rfl
theorem underI3 : Try.prog.underlying 3 = some (.int .i64) := by kernel_rfl

theorem open_int1 {H : Type} {enc : TypeId × Value → H} {W : World} {held : Bool} {fuel : Nat} {c : Value} {x : DataW H × List MemPlace} (hf : DataW.trod enc Try.prog W 0 (fun _ => true) held fuel 3 [c] = some x) : ∃ n, c = .int .i64 n := by
  obtain ⟨n, h, _⟩ := DataW.trod_int underI3 hf
  exact ⟨n, by simpa using h⟩
theorem open_str1 {H : Type} {enc : TypeId × Value → H} {W : World} {held : Bool} {fuel : Nat} {c : Value} {x : DataW H × List MemPlace} (hf : DataW.trod enc Try.prog W 0 (fun _ => true) held fuel 9 [c] = some x) : ∃ s : ByteArray, c = .string s ∧ s.size ≤ maxLen := by
  obtain ⟨s, h, _, hz⟩ := DataW.trod_string underS9 hf
  exact ⟨s, by simpa using h, hz⟩
theorem open_box1 {H : Type} {enc : TypeId × Value → H} {W : World} {held : Bool} {fuel : Nat} {c d : Value} {x : DataW H × List MemPlace} (hf : DataW.trod enc Try.prog W 0 (fun _ => true) held fuel 25 [c, d] = some x) : ∃ s u : ByteArray, c = .string s ∧ d = .string u ∧ s.size ≤ maxLen ∧ u.size ≤ maxLen := by
  obtain ⟨f0, f1, s0, s1, s2, s3, s4⟩ := structLB
  obtain ⟨y0, y1, n', _, _, t0, t1⟩ := trod_struct2 s0 hf
  rw [s1, s3, cellsS9] at t0
  rw [s2, s4, cellsS9] at t1
  simp at t0 t1
  obtain ⟨b0, rfl, z0⟩ := open_str1 t0
  obtain ⟨b1, rfl, z1⟩ := open_str1 t1
  exact ⟨b0, b1, rfl, rfl, z0, z1⟩
theorem open_wel {H : Type} {enc : TypeId × Value → H} {W : World} {held : Bool} {fuel : Nat} {c0 c1 c2 c3 c4 : Value} {x : DataW H × List MemPlace} (hf : DataW.trod enc Try.prog W 0 (fun _ => true) held fuel 27 [c0, c1, c2, c3, c4] = some x) :
    ∃ y : Wel, c0 = .string y.key ∧ c1 = .string y.ik ∧ c2 = .string y.is ∧ c3 = .string y.sk ∧ c4 = .string y.ss ∧ y.key.size ≤ maxLen ∧ y.ik.size ≤ maxLen ∧ y.is.size ≤ maxLen ∧ y.sk.size ≤ maxLen ∧ y.ss.size ≤ maxLen := by
  obtain ⟨n, hh⟩ := fields_of Try.underlying27 hf
  obtain ⟨y0, t0⟩ := field_at hh (i := 0) (T := 9) (o := 0) rfl cellsS9
  obtain ⟨y1, t1⟩ := field_at hh (i := 1) (T := 25) (o := 1) rfl cellsLB
  obtain ⟨y2, t2⟩ := field_at hh (i := 2) (T := 25) (o := 3) rfl cellsLB
  simp at t0 t1 t2
  obtain ⟨b0, rfl, z0⟩ := open_str1 t0
  obtain ⟨b1, b2, rfl, rfl, z1, z2⟩ := open_box1 t1
  obtain ⟨b3, b4, rfl, rfl, z3, z4⟩ := open_box1 t2
  exact ⟨⟨b0, b1, b2, b3, b4⟩, rfl, rfl, rfl, rfl, rfl, z0, z1, z2, z3, z4⟩

/-- All texts of a commit are such as there are. -/
def CmtFit (c : Cmt) : Prop := (∀ x ∈ c.keys, x.size ≤ maxLen) ∧ (∀ b ∈ c.boxes, b.1.size ≤ maxLen ∧ b.2.size ≤ maxLen) ∧ c.tag.size ≤ maxLen ∧ c.name.size ≤ maxLen ∧ c.leaf.size ≤ maxLen ∧ c.wel.key.size ≤ maxLen ∧ c.wel.ik.size ≤ maxLen ∧ c.wel.is.size ≤ maxLen ∧ c.wel.sk.size ≤ maxLen ∧ c.wel.ss.size ≤ maxLen
theorem open_commit {H : Type} {enc : TypeId × Value → H} {W : World} {held : Bool} {fuel : Nat} {cs : Array Value} {x : DataW H × List MemPlace} (hs : cs.size = Try.prog.cellsOf 29)
    (hf : DataW.trod enc Try.prog W 0 (fun _ => true) held fuel 29 (Value.cells (.agg cs)).toList = some x) : ∃ (c : Cmt) (ks bs : Value), cs = c.cells ks bs ∧ SRow W ks c.keys ∧ BRow W bs c.boxes ∧ CmtFit c := by
  rw [cellsLC] at hs
  obtain ⟨l⟩ := cs
  match l, hs with
  | [c0, c1, c2, c3, c4, c5, c6, c7, c8, c9, c10, c11, c12], _ =>
    obtain ⟨n, hh⟩ := fields_of Try.underlying29 hf
    obtain ⟨y0, t0⟩ := field_at hh (i := 0) (T := 3) (o := 0) rfl cellsI3
    obtain ⟨y1, t1⟩ := field_at hh (i := 1) (T := 9) (o := 1) rfl cellsS9
    obtain ⟨y2, t2⟩ := field_at hh (i := 2) (T := 9) (o := 2) rfl cellsS9
    obtain ⟨y3, t3⟩ := field_at hh (i := 3) (T := 3) (o := 3) rfl cellsI3
    obtain ⟨y4, t4⟩ := field_at hh (i := 4) (T := 3) (o := 4) rfl cellsI3
    obtain ⟨y5, t5⟩ := field_at hh (i := 5) (T := 9) (o := 5) rfl cellsS9
    obtain ⟨y6, t6⟩ := field_at hh (i := 6) (T := 22) (o := 6) rfl cellsSS1
    obtain ⟨y7, t7⟩ := field_at hh (i := 7) (T := 23) (o := 7) rfl cellsBB1
    obtain ⟨y8, t8⟩ := field_at hh (i := 8) (T := 27) (o := 8) rfl cellsLW
    simp [Value.cells] at t0 t1 t2 t3 t4 t5 t6 t7 t8
    obtain ⟨i0, rfl⟩ := open_int1 t0
    obtain ⟨s1, rfl, z1⟩ := open_str1 t1
    obtain ⟨s2, rfl, z2⟩ := open_str1 t2
    obtain ⟨i3, rfl⟩ := open_int1 t3
    obtain ⟨i4, rfl⟩ := open_int1 t4
    obtain ⟨s5, rfl, z5⟩ := open_str1 t5
    obtain ⟨zs, r6, z6⟩ := open_srow1 t6
    obtain ⟨bs, r7, z7⟩ := open_brow1 t7
    obtain ⟨y, rfl, rfl, rfl, rfl, rfl, w1, w2, w3, w4, w5⟩ := open_wel t8
    exact ⟨⟨i0, s1, s2, i3, i4, s5, zs, bs, y⟩, c6, c7, rfl, r6, r7, z6, z7, z1, z2, z5, w1, w2, w3, w4, w5⟩
#print axioms open_commit
end Go.Proofs.Yteiojanamkndmaa
/-
  Boxes of the call's own, cell by cell.
-/
namespace Go.Proofs.Yteiojanamkndmaa
open Go.RowKit

theorem info_bx : (Try.prog.info? 33).map (fun i => (i.zero, i.size, i.bytes)) = some (some (.agg #[.string ⟨#[]⟩, .string ⟨#[]⟩]), 2, 32) := by kernel_rfl
theorem underBx : Try.prog.underlying 32 = some (.slice 33) := by kernel_rfl

/-- Boxes, cell by cell. -/
def bcells (bs : List Bx) : List Value := bs.flatMap fun b => [.string b.1, .string b.2]
theorem bcells_snoc (bs : List Bx) (b : Bx) : bcells (bs ++ [b]) = bcells bs ++ [.string b.1, .string b.2] := by simp [bcells]
theorem bcells_get : ∀ (bs : List Bx) (i : Nat), i < bs.length → (bcells bs)[i * 2]? = some (.string (bs.getD i noBx).1) ∧ (bcells bs)[i * 2 + 1]? = some (.string (bs.getD i noBx).2)
  | [], i, h => absurd h (Nat.not_lt_zero _)
  | b :: bs, 0, _ => by simp [bcells]
  | b :: bs, i + 1, h => by
    have := bcells_get bs i (by simpa using h)
    rw [show (i + 1) * 2 = i * 2 + 1 + 1 by omega]
    simpa [bcells] using this

/-- A slice of the call's own holds these boxes. -/
def OwnB (B : Nat) (w : World) (v : Value) (bs : List Bx) : Prop := w.ownsRow B 33 2 v bs.length (bcells bs)
theorem OwnB.brow {B : Nat} {w : World} {v : Value} {bs : List Bx} (h : OwnB B w v bs) : BRow w v bs := by
  rcases h.2 with ⟨h1, h2⟩ | ⟨g, cap, cur, h1, h2, h3, h4, h5, _⟩
  · exact ⟨none, 0, by rw [h1, h2], by omega, by omega, fun i hi => by omega⟩
  · refine ⟨some ⟨g, 0, none⟩, cap, h1, h4, h5, fun i hi => ?_⟩
    have hc := World.ownsRow.cells h (g := g) (by rw [h1]; rfl)
    obtain ⟨p1, p2⟩ := bcells_get bs i hi
    refine ⟨_, rfl, hc _ _ p1, ?_⟩
    rw [Addr.add_lit, Addr.add_lit, Nat.zero_add]
    have := hc _ _ p2
    rw [Addr.add_lit, Nat.zero_add] at this
    exact this

theorem strs_one (xs : List ByteArray) : ∀ u ∈ xs.map Value.string, u.oneCell' = true := by
  intro u hu
  obtain ⟨x, _, rfl⟩ := List.mem_map.1 hu
  rfl
theorem bcells_one (bs : List Bx) : ∀ u ∈ bcells bs, u.oneCell' = true := by
  intro u hu
  unfold bcells at hu
  obtain ⟨b, _, hb⟩ := List.mem_flatMap.1 hu
  simp at hb
  rcases hb with rfl | rfl <;> rfl
theorem bcells_len (bs : List Bx) : (bcells bs).length = bs.length * 2 := by
  induction bs with
  | nil => rfl
  | cons b bs ih => simp [bcells] at ih ⊢; omega
theorem own_empty (B : Nat) (w : World) (h : B ≤ w.heap.size) : Own B (w.alloc (Obj.cells #[] 9)) (.slice (some ⟨w.heap.size, 0, none⟩) 0 0) [] :=
  World.ownsRow_made w #[] 0 h (by omega) rfl
end Go.Proofs.Yteiojanamkndmaa
/-
  The laws' own helpers over rows of boxes: how great one is, a copy of one, whether two are the same.
-/
namespace Go.Proofs.Yteiojanamkndmaa
open Go.RowKit

def bv (b : Bx) : Value := .agg #[.string b.1, .string b.2]

set_option maxHeartbeats 400000 in
theorem szKnwBox_any (b : Bx) (left : Int) (w : World) (h1 : b.1.size ≤ maxLen) (h2 : b.2.size ≤ maxLen) (hl : 0 ≤ left) (hl2 : left ≤ 1048576) :
    Calls Try.prog 25 #[.agg #[.string b.1, .string b.2], .int .i64 left] w fun e w' => ∃ r : Int, e = .returned (.int .i64 r) ∧ r ≤ left ∧ (0 ≤ r → (b.1.size : Int) ≤ left ∧ (b.2.size : Int) ≤ left) ∧ Below w.heap.size w w' := by
  unfold maxLen at h1 h2
  have HBA : Hid (Below w.heap.size w (w.alloc (.cells #[.string b.1, .string b.2] 25))) := (Below.refl _ _).alloc (Nat.le_refl _) _
  by_cases hn : left - (b.1.size : Int) < 0
  · go_enter Try.func25, Try.ntmps25
    go_wp2_with fail
    go_ret
    exact ⟨-1, rfl, by omega, by omega, unhide HBA⟩
  have hn2 : decide (left - (b.1.size : Int) < 0) = false := by simpa using hn
  by_cases hm : left - (b.1.size : Int) - (b.2.size : Int) < 0
  · go_enter Try.func25, Try.ntmps25
    go_wp2_with fail
    go_ret
    exact ⟨-1, rfl, by omega, by omega, unhide HBA⟩
  have hm2 : decide (left - (b.1.size : Int) - (b.2.size : Int) < 0) = false := by simpa using hm
  go_enter Try.func25, Try.ntmps25
  go_wp2_with fail
  go_ret
  exact ⟨_, rfl, by omega, fun _ => by omega, unhide HBA⟩

set_option maxHeartbeats 1000000 in
theorem szKnwBoxS_any (v : Value) (bs : List Bx) (left : Int) (w : World) (h : BRow w v bs) (hx : ∀ b ∈ bs, b.1.size ≤ maxLen ∧ b.2.size ≤ maxLen) (hl : 0 ≤ left) (hl2 : left ≤ 1048576) :
    Calls Try.prog 10 #[v, .int .i64 left] w fun e w' => ∃ r : Int, e = .returned (.int .i64 r) ∧ r ≤ left ∧ (0 ≤ r → (bs.length : Int) ≤ left) ∧ Below w.heap.size w w' := by
  have hR := hide h
  have HX := hide hx
  obtain ⟨ao, cap, rfl, h1, h2, _⟩ := h
  unfold maxLen at h2
  clear hx
  by_cases hn : left - (bs.length : Int) < 0
  · go_enter Try.func10, Try.ntmps10
    go_wp2_with fail
    go_ret
    exact ⟨-1, rfl, by omega, by omega, Below.refl _ _⟩
  have hn2 : decide (left - (bs.length : Int) < 0) = false := by simpa using hn
  go_enter Try.func10, Try.ntmps10
  go_wp2_with fail
  go_loopw [1, 5] (fun l i wr => ∃ (k : Nat) (L : Int), k ≤ bs.length ∧ i = .int .i64 (k : Int) ∧ l = .int .i64 L ∧ 0 ≤ L ∧ L ≤ left ∧ Hid (Below w.heap.size w wr)) (fun _ i _ => bs.length - (intOf i).toNat)
  case atStart => exact ⟨0, left - bs.length, by omega, rfl, rfl, by omega, by omega, Below.refl _ _⟩
  case round =>
    obtain ⟨k, L, hk, rfl, rfl, hL0, hL1, hB⟩ := hrel
    have hle := hB.out.size
    by_cases hlt : k < bs.length
    · have hlt2 : (k : Int) < (bs.length : Int) := by omega
      obtain ⟨bo', c1, q1, _, _, q2⟩ := BRow.below (unhide hR) (unhide hB)
      simp only [Value.slice.injEq] at q1
      obtain ⟨rfl, z1, rfl⟩ := q1
      clear z1
      obtain ⟨a, rfl, hca, hcb⟩ := q2 k hlt
      rw [add_one] at hcb
      clear q2
      have M : Hid ((bs.getD k noBx).1.size ≤ maxLen ∧ (bs.getD k noBx).2.size ≤ maxLen) := HX.out _ (getB_mem hlt)
      have i3 : IntKind.i64.wrap ((k : Int) + 1) = (k : Int) + 1 := by simp [IntKind.wrap, IntKind.bits, IntKind.signed]; omega
      generalize bs.getD k noBx = y at hca hcb M
      go_wp2_with fail
      refine (szKnwBox_any y L _ M.out.1 M.out.2 hL0 (by omega)).mono ?_
      rintro e w1 ⟨r, rfl, hr1, _, hb1⟩
      have hB1 := hide ((unhide hB).trans (hb1.mono hle))
      clear hb1 hB hca hcb
      by_cases hneg : r < 0
      · go_wp2_with fail
        go_ret
        exact ⟨-1, rfl, by omega, by omega, unhide hB1⟩
      · have hneg2 : decide (r < 0) = false := by simpa using hneg
        go_wp2_with fail
        go_roundw
        case rel => exact ⟨k + 1, r, by omega, by simp, rfl, by omega, by omega, hB1⟩
        case measure => simp [intOf]; omega
    · have hlt2 : decide ((k : Int) < (bs.length : Int)) = false := by simp; omega
      go_wp2_with fail
      go_ret
      exact ⟨L, rfl, by omega, fun _ => by omega, unhide hB⟩

set_option maxRecDepth 100000 in
set_option maxHeartbeats 400000 in
theorem toKnwBox_any (b : Bx) (w : World) : Calls Try.prog 27 #[.agg #[.string b.1, .string b.2]] w fun e w' => e = .returned (.agg #[.string b.1, .string b.2]) ∧ Below w.heap.size w w' := by
  go_enter Try.func27, Try.ntmps27
  go_wp2_with fail
  refine bodyPost_ret (v := .agg #[.string b.1, .string b.2]) (by simp [results, Try.results27, go_sem]) rfl ⟨rfl, ?_⟩
  exact (((Below.refl w.heap.size w).alloc (Nat.le_refl _) _).alloc (by simp) _).alloc (by simp; omega) _

set_option maxHeartbeats 400000 in
theorem eqKnwBox_any (b c : Bx) (w : World) : Calls Try.prog 37 #[.agg #[.string b.1, .string b.2], .agg #[.string c.1, .string c.2]] w fun e w' => e = .returned (.bool (decide (b = c))) ∧ Below w.heap.size w w' := by
  have HBA : Hid (Below w.heap.size w ((w.alloc (.cells #[.string b.1, .string b.2] 33)).alloc (.cells #[.string c.1, .string c.2] 33))) := ((Below.refl _ _).alloc (Nat.le_refl _) _).alloc (by simp) _
  obtain ⟨b1, b2⟩ := b
  obtain ⟨c1, c2⟩ := c
  simp only
  by_cases h1 : b1 = c1
  · subst h1
    by_cases h2 : b2 = c2
    · subst h2
      have hE : decide ((b1, b2) = (b1, b2)) = true := by simp
      go_enter Try.func37, Try.ntmps37
      go_wp2_with fail
      go_ret
      exact ⟨by first | exact ret_bool' hE.symm | rfl, unhide HBA⟩
    · have hE : decide ((b1, b2) = (b1, c2)) = false := by simp [h2]
      have hnk : (b2.toList == c2.toList) = false := by
        cases q : (b2.toList == c2.toList) with
        | false => rfl
        | true => exact absurd (toList_eq.1 q) h2
      go_enter Try.func37, Try.ntmps37
      go_wp2_with fail
      go_ret
      exact ⟨by first | exact ret_bool' hE.symm | rfl, unhide HBA⟩
  · have hE : decide ((b1, b2) = (c1, c2)) = false := by simp [h1]
    have hnk : (b1.toList == c1.toList) = false := by
      cases q : (b1.toList == c1.toList) with
      | false => rfl
      | true => exact absurd (toList_eq.1 q) h1
    go_enter Try.func37, Try.ntmps37
    go_wp2_with fail
    go_ret
    exact ⟨by first | exact ret_bool' hE.symm | rfl, unhide HBA⟩

#print axioms szKnwBoxS_any
#print axioms eqKnwBox_any
end Go.Proofs.Yteiojanamkndmaa
/-
  The laws' own helpers over rows of boxes: a copy of a row, whether two rows are the same.
-/
namespace Go.Proofs.Yteiojanamkndmaa
open Go.RowKit

/-- The first k boxes, cell by cell, and as many empty ones as there are more. -/
def partB (bs : List Bx) (k : Nat) : List Value := bcells (bs.take k) ++ bcells (List.replicate (bs.length - k) (⟨#[]⟩, ⟨#[]⟩))
theorem partB_all (bs : List Bx) : partB bs bs.length = bcells bs := by unfold partB; simp [bcells]
theorem partB_eq (bs : List Bx) (k : Nat) : partB bs k = bcells (bs.take k ++ List.replicate (bs.length - k) (⟨#[]⟩, ⟨#[]⟩)) := by unfold partB; simp [bcells]
theorem bcells_set : ∀ (cs : List Bx) (k : Nat) (b : Bx), k < cs.length → ((bcells cs).set (k * 2) (.string b.1)).set (k * 2 + 1) (.string b.2) = bcells (cs.set k b)
  | [], k, _, h => absurd h (Nat.not_lt_zero _)
  | c :: cs, 0, b, _ => by simp [bcells]
  | c :: cs, k + 1, b, h => by
    have := bcells_set cs k b (by simpa using h)
    rw [show (k + 1) * 2 = k * 2 + 1 + 1 by omega]
    simpa [bcells] using this
theorem part_set2 (bs : List Bx) (k : Nat) (h : k < bs.length) : (bs.take k ++ List.replicate (bs.length - k) ((⟨#[]⟩, ⟨#[]⟩) : Bx)).set k (bs.getD k noBx) = bs.take (k + 1) ++ List.replicate (bs.length - (k + 1)) (⟨#[]⟩, ⟨#[]⟩) := by
  apply List.ext_getElem?
  intro i
  rw [List.getElem?_set]
  simp only [List.length_append, List.length_take, List.length_replicate]
  by_cases hik : k = i
  · subst hik
    rw [if_pos rfl, if_pos (by omega), List.getElem?_append_left (by simp; omega)]
    simp [h]
  · rw [if_neg hik]
    by_cases hlt : i < k
    · rw [List.getElem?_append_left (by simp; omega), List.getElem?_append_left (by simp; omega)]
      simp [hlt, show i < k + 1 by omega]
    · rw [List.getElem?_append_right (by simp; omega), List.getElem?_append_right (by simp; omega)]
      simp only [List.length_take, List.getElem?_replicate]
      congr 1
      simp
      omega
theorem partB_set (bs : List Bx) (k : Nat) (h : k < bs.length) : ((partB bs k).set (k * 2) (.string (bs.getD k noBx).1)).set (k * 2 + 1) (.string (bs.getD k noBx).2) = partB bs (k + 1) := by
  rw [partB_eq, partB_eq, bcells_set _ _ _ (by simp; omega), part_set2 bs k h]
theorem partB_at (bs : List Bx) (k : Nat) (h : k < bs.length) : (partB bs k)[k * 2]? = some (.string ⟨#[]⟩) ∧ (partB bs k)[k * 2 + 1]? = some (.string ⟨#[]⟩) := by
  rw [partB_eq]
  have := bcells_get (bs.take k ++ List.replicate (bs.length - k) (⟨#[]⟩, ⟨#[]⟩)) k (by simp; omega)
  have e : (bs.take k ++ List.replicate (bs.length - k) ((⟨#[]⟩, ⟨#[]⟩) : Bx)).getD k noBx = (⟨#[]⟩, ⟨#[]⟩) := by
    rw [List.getD_eq_getElem?_getD, List.getElem?_append_right (by simp; omega)]
    simp only [List.length_take, List.getElem?_replicate]
    rw [if_pos (by omega)]; rfl
  rw [e] at this
  exact this

theorem made_part (bs : List Bx) : (madeCells #[Value.string ⟨#[]⟩, Value.string ⟨#[]⟩] (bs.length * 2)).toList = partB bs 0 := by
  have e : ∀ n, bcells (List.replicate n ((⟨#[]⟩, ⟨#[]⟩) : Bx)) = List.replicate (n * 2) (Value.string ⟨#[]⟩) := by
    intro n
    induction n with
    | zero => rfl
    | succ n ih =>
      rw [List.replicate_succ, show (n + 1) * 2 = n * 2 + 1 + 1 by omega, List.replicate_succ, List.replicate_succ, ← ih]; rfl
  unfold partB
  rw [List.take_zero, Nat.sub_zero, e, show bcells [] = [] from rfl, List.nil_append]
  apply List.ext_getElem?
  intro i
  simp [madeCells]
  by_cases hi : i < bs.length * 2
  · rcases Nat.mod_two_eq_zero_or_one i with h | h <;> simp [hi, h]
  · simp [hi]

set_option maxRecDepth 100000 in
set_option maxHeartbeats 2000000 in
theorem toKnwBoxS_any (v : Value) (bs : List Bx) (w : World) (h : BRow w v bs) (hl : bs.length ≤ 1048576) :
    Calls Try.prog 19 #[v] w fun e w' => ∃ v' : Value, e = .returned v' ∧ OwnB w.heap.size w' v' bs ∧ Below w.heap.size w w' := by
  have hR := hide h
  obtain ⟨ao, cap, rfl, h1, h2, _⟩ := h
  unfold maxLen at h2
  obtain ⟨i0, hi, hz0, hz1, hz2⟩ := info_parts info_bx
  have hI := hide (And.intro hi (And.intro hz0 (And.intro hz1 hz2)))
  have hB2 : Hid (i0.bytes * bs.length ≤ 281474976710656) := by show _ ≤ _; rw [hz2]; omega
  clear hi hz0 hz1 hz2
  go_enter Try.func19, Try.ntmps19
  go_wp2_with (at_make; refine wpList_make_full _ rfl _ _ 32 rfl w.heap.size 33 i0 (.agg #[.string ⟨#[]⟩, .string ⟨#[]⟩]) 2 underBx (unhide hI).1 (unhide hI).2.1 (unhide hI).2.2.1 _ _ _ _ bs.length rfl rfl rfl rfl (unhide hB2) (by unfold maxLen; omega) (Nat.le_refl _) ?_)
  intro w1 hown hgrow
  have hO1 : Hid (w1.ownsRow w.heap.size 33 2 (.slice (some ⟨w.heap.size, 0, none⟩) bs.length bs.length) bs.length (partB bs 0)) := by
    rw [← made_part]
    exact hown
  have hL1 : Hid (Below w.heap.size w w1) := (Below.refl _ _).grown hgrow (Nat.le_refl _) (fun k hk => by cases hk)
  clear hown hgrow
  go_wp2_with fail
  go_loopw [4] (fun i wr => ∃ k : Nat, k ≤ bs.length ∧ i = .int .i64 (k : Int) ∧ Hid (wr.ownsRow w.heap.size 33 2 (.slice (some ⟨w.heap.size, 0, none⟩) bs.length bs.length) bs.length (partB bs k)) ∧ Hid (Below w.heap.size w wr)) (fun i _ => bs.length - (intOf i).toNat)
  case atStart => exact ⟨0, by omega, rfl, hO1, hL1⟩
  case round =>
    clear hO1 hL1
    obtain ⟨k, hk, rfl, hO, hL⟩ := hrel
    have hle := hL.out.size
    by_cases hlt : k < bs.length
    · have hlt2 : (k : Int) < (bs.length : Int) := by omega
      obtain ⟨bo', c1, q1, _, _, q2⟩ := BRow.below (unhide hR) (unhide hL)
      simp only [Value.slice.injEq] at q1
      obtain ⟨rfl, z1, rfl⟩ := q1
      clear z1
      obtain ⟨a, rfl, hca, hcb⟩ := q2 k hlt
      rw [add_one] at hcb
      clear q2
      have i3 : IntKind.i64.wrap ((k : Int) + 1) = (k : Int) + 1 := by simp [IntKind.wrap, IntKind.bits, IntKind.signed]; omega
      have hps := hide (partB_set bs k hlt)
      have hpa := hide (partB_at bs k hlt)
      generalize bs.getD k noBx = y at hca hcb hps
      go_wp2_with fail
      refine (toKnwBox_any y _).mono ?_
      rintro e w2 ⟨rfl, hb2⟩
      have hO2 := own_below' (unhide hO) hb2
      have hL2 := (unhide hL).trans (hb2.mono hle)
      have hle2 := hL2.size
      have f0 := hO2.frozenAt (k * 2)
      have f1 := hO2.frozenAt (k * 2 + 1)
      have e0 : w2.cell? ⟨w.heap.size, k * 2, none⟩ = some (.string ⟨#[]⟩) := (hO2.cellAt (k * 2) (by omega)).trans hpa.out.1
      have e1 : w2.cell? ⟨w.heap.size, k * 2 + 1, none⟩ = some (.string ⟨#[]⟩) := (hO2.cellAt (k * 2 + 1) (by omega)).trans hpa.out.2
      obtain ⟨s1, s2⟩ := hO2.stored (k * 2) (.string y.1)
      obtain ⟨s3, s4⟩ := s1.stored (k * 2 + 1) (.string y.2)
      rw [hps.out] at s3
      have HS3 := hide s3
      have HL3 : Hid (Below w.heap.size w (((w2.setCell ⟨w.heap.size, k * 2, none⟩ (.string y.1)).setCell ⟨w.heap.size, k * 2 + 1, none⟩ (.string y.2)))) :=
        ((hL2.setCell (p := ⟨w.heap.size, k * 2, none⟩) (Nat.le_refl _) _).setCell (p := ⟨w.heap.size, k * 2 + 1, none⟩) (Nat.le_refl _) _)
      clear s1 s2 s3 s4 hO2 hL2 hb2 hca hcb hO hL
      go_wp2_with fail
      go_roundw
      case rel => exact ⟨k + 1, by omega, by simp, HS3, HL3⟩
      case measure => simp [intOf]; omega
    · have hlt2 : decide ((k : Int) < (bs.length : Int)) = false := by simp; omega
      have hkn : k = bs.length := by omega
      subst hkn
      rw [partB_all] at hO
      go_wp2_with fail
      go_ret
      exact ⟨_, rfl, unhide hO, unhide hL⟩

theorem boxes_eq {bs cs : List Bx} (hl : bs.length = cs.length) (h : ∀ j, j < bs.length → bs.getD j noBx = cs.getD j noBx) : bs = cs := by
  apply List.ext_getElem hl
  intro i h1 h2
  have := h i h1
  rw [List.getD_eq_getElem?_getD, List.getElem?_eq_getElem h1, List.getD_eq_getElem?_getD, List.getElem?_eq_getElem h2] at this
  exact this

set_option maxRecDepth 100000 in
set_option maxHeartbeats 2000000 in
theorem eqKnwBoxS_any (v u : Value) (bs : List Bx) (w : World) (h : BRow w v bs) (k : BRow w u bs) :
    Calls Try.prog 23 #[v, u] w fun e w' => e = .returned (.bool true) ∧ Below w.heap.size w w' := by
  have hR := hide h
  have hS := hide k
  obtain ⟨ao, cap, rfl, h1, h2, _⟩ := h
  obtain ⟨bo, cap', rfl, h1', h2', _⟩ := k
  unfold maxLen at h2 h2'
  go_enter Try.func23, Try.ntmps23
  go_wp2_with fail
  go_loopw [5] (fun i wr => ∃ k : Nat, k ≤ bs.length ∧ i = .int .i64 (k : Int) ∧ Hid (Below w.heap.size w wr)) (fun i _ => bs.length - (intOf i).toNat)
  case atStart => exact ⟨0, by omega, rfl, Below.refl _ _⟩
  case round =>
    obtain ⟨k, hk, rfl, hL⟩ := hrel
    have hle := hL.out.size
    by_cases hlt : k < bs.length
    · have hlt2 : (k : Int) < (bs.length : Int) := by omega
      obtain ⟨ao', c1, q1, _, _, q2⟩ := BRow.below (unhide hR) (unhide hL)
      simp only [Value.slice.injEq] at q1
      obtain ⟨rfl, z1, rfl⟩ := q1
      obtain ⟨bo', c2, q3, _, _, q4⟩ := BRow.below (unhide hS) (unhide hL)
      simp only [Value.slice.injEq] at q3
      obtain ⟨rfl, z3, rfl⟩ := q3
      clear z1 z3
      obtain ⟨a, rfl, hca, hcb⟩ := q2 k hlt
      obtain ⟨b, rfl, hda, hdb⟩ := q4 k hlt
      rw [add_one] at hcb hdb
      clear q2 q4
      have i3 : IntKind.i64.wrap ((k : Int) + 1) = (k : Int) + 1 := by simp [IntKind.wrap, IntKind.bits, IntKind.signed]; omega
      generalize bs.getD k noBx = y at hca hcb hda hdb
      go_wp2_with fail
      go_region_held3 (fun w' => w'.cell? (a.add (k * 2)) = some (.string y.1) ∧ w'.cell? ⟨(a.add (k * 2)).block, (a.add (k * 2)).off + 1, none⟩ = some (.string y.2) ∧ w'.cell? (b.add (k * 2)) = some (.string y.1) ∧ w'.cell? ⟨(b.add (k * 2)).block, (b.add (k * 2)).off + 1, none⟩ = some (.string y.2))
        ((first | exact ⟨hca, hcb, hda, hdb⟩ | exact ⟨pca, pcb, pda, pdb⟩))
        ((go_at_call 37; refine (eqKnwBox_any y y wr.drew).mono ?_; rw [show decide (y = y) = true by simp]; rintro e w2 ⟨rfl, hb2⟩; have pca := (hb2.cell (cell_lt hca)).trans hca; have pcb := (hb2.cell (cell_lt hcb)).trans hcb; have pda := (hb2.cell (cell_lt hda)).trans hda; have pdb := (hb2.cell (cell_lt hdb)).trans hdb; have hL2 : Hid (Below w.heap.size w w2) := ((unhide hL).drew).trans (hb2.mono hle); clear hb2))
      go_wp2_with fail
      go_roundw
      case rel => exact ⟨k + 1, by omega, by simp, hL2⟩
      case measure => simp [intOf]; omega
    · have hlt2 : decide ((k : Int) < (bs.length : Int)) = false := by simp; omega
      go_wp2_with fail
      go_ret
      exact ⟨rfl, unhide hL⟩
#print axioms toKnwBoxS_any
#print axioms eqKnwBoxS_any
end Go.Proofs.Yteiojanamkndmaa
/-
  Several cells out of and into the middle of a block that a call made. No Go function in it.
-/
namespace Go.Proofs.Yteiojanamkndmaa
open Go.RowKit

theorem heap_setAt {w : World} {b i : Nat} {t : TypeId} {cs : Array Value} (h : Blk w b t cs) (v : Value) : Blk (w.setCell ⟨b, i, none⟩ v) b t (cs.setIfInBounds i v) := by
  unfold Blk
  rw [heap_setCell_same w b i _ _ v h]
theorem Blk.otherC {w : World} {b b' i : Nat} {t : TypeId} {cs : Array Value} (h : Blk w b t cs) (hne : b ≠ b') (v : Value) : Blk (w.setCell ⟨b', i, none⟩ v) b t cs := by
  unfold Blk
  rw [Below.heap_setCell _ _ _ _ hne]
  exact h
theorem grown_setC (w : World) (b i : Nat) (v : Value) : w.grownBy (w.setCell ⟨b, i, none⟩ v) (some b) :=
  ⟨rfl, rfl, rfl, by simp [World.setCell], fun k _ hk => Below.heap_setCell _ _ _ _ (fun e => hk (by rw [e]))⟩
theorem row_setC {B : Nat} {w : World} {e t : TypeId} {size n b i : Nat} {v : Value} {xs : List Value} {cs : Array Value} (h : w.ownsRow B e size v n xs) (hx : Blk w b t cs) (hte : t ≠ e) (x : Value) : (w.setCell ⟨b, i, none⟩ x).ownsRow B e size v n xs :=
  h.kept (grown_setC w b i x) (.inr (hx.not_row hte h).symm)

/-- These cells, from a place on, in others' stead. -/
def setAll : Array Value → Nat → List Value → Array Value
  | cs, _, [] => cs
  | cs, o, v :: r => setAll (cs.setIfInBounds o v) (o + 1) r
theorem Blk.setCells {b : Nat} {t : TypeId} : ∀ (vs : List Value) (o : Nat) {w : World} {cs : Array Value}, Blk w b t cs → Blk (w.setCells b o vs) b t (setAll cs o vs)
  | [], _, _, _, h => h
  | v :: r, o, _, _, h => Blk.setCells r (o + 1) (heap_setAt h v)
theorem grown_trans {u v w : World} {b : Nat} (h : u.grownBy v (some b)) (k : v.grownBy w (some b)) : u.grownBy w (some b) :=
  ⟨k.os.trans h.os, k.tape.trans h.tape, k.output.trans h.output, Nat.le_trans h.size k.size, fun z hz hne => (k.block z (Nat.lt_of_lt_of_le hz h.size) hne).trans (h.block z hz hne)⟩
theorem grown_setCells (b : Nat) : ∀ (vs : List Value) (o : Nat) (w : World), w.grownBy (w.setCells b o vs) (some b)
  | [], _, _ => ⟨rfl, rfl, rfl, Nat.le_refl _, fun _ _ _ => rfl⟩
  | v :: r, o, w => grown_trans (grown_setC w b o v) (grown_setCells b r (o + 1) _)
theorem Blk.there {w : World} {b : Nat} {t : TypeId} {cs : Array Value} (h : Blk w b t cs) {o n : Nat} (hn : o + n ≤ cs.size) : w.there b o n := fun j hj => by
  rw [h.cell, h.frozen]
  refine ⟨?_, rfl⟩
  rw [Array.getElem?_eq_getElem (by omega)]
  rfl
theorem Blk.range {w : World} {b : Nat} {t : TypeId} {cs : Array Value} (h : Blk w b t cs) {o : Nat} {vs : List Value} (hv : ∀ j v, vs[j]? = some v → cs[o + j]? = some v) : w.rangeAt b o vs := fun j v hj => by
  rw [h.cell]; exact hv j v hj
theorem Blk.otherCs {w : World} {b b' o : Nat} {t : TypeId} {cs : Array Value} (h : Blk w b t cs) (hne : b ≠ b') (vs : List Value) : Blk (w.setCells b' o vs) b t cs := h.kept (grown_setCells b' vs o w) (fun e => hne (by cases e; rfl))
theorem row_setCs {B : Nat} {w : World} {e t : TypeId} {size n b o : Nat} {v : Value} {xs : List Value} {cs : Array Value} (h : w.ownsRow B e size v n xs) (hx : Blk w b t cs) (hte : t ≠ e) (vs : List Value) : (w.setCells b o vs).ownsRow B e size v n xs :=
  h.kept (grown_setCells b vs o w) (.inr (hx.not_row hte h).symm)
theorem below_setCs {B : Nat} {w w' : World} {b o : Nat} (h : Below B w w') (hb : B ≤ b) (hs : B ≤ w'.heap.size) (vs : List Value) : Below B w (w'.setCells b o vs) := h.grown (grown_setCells b vs o w') hs (fun k hk => by cases hk; exact hb)
end Go.Proofs.Yteiojanamkndmaa
