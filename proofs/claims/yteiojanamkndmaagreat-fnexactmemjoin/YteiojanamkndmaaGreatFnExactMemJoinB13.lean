/-
  The specification's CmtOk.
-/
import Derived.Test.YteiojanamkndmaaGreatFnExactMemJoinB5
import Derived.Test.YteiojanamkndmaaGreatFnExactMemJoinB3
import Derived.Test.YteiojanamkndmaaGreatFnExactMemJoinB2
import Derived.Test.YteiojanamkndmaaGreatFnExactMemJoinB4
namespace Go.Proofs.YteiojanamkndmaaGreat
open Go.RowKit

def inB (lo hi n : Int) : Bool := decide (lo ≤ n) && decide (n ≤ hi)
theorem l1In_any (n lo hi : Int) (w : World) :
    Calls Tryz.prog 40 #[.int .i64 n, .int .i64 lo, .int .i64 hi] w fun e w' => e = .returned (.bool (inB lo hi n)) ∧ w' = w := by
  by_cases h : lo ≤ n ∧ n ≤ hi
  · rw [show inB lo hi n = true by unfold inB; simp [h.1, h.2]]
    exact l1In_yes n lo hi w h.1 h.2
  · rw [show inB lo hi n = false by unfold inB; simp; omega]
    exact l1In_no n lo hi w (by omega)

/-- What stands behind all names: of nobody who comes, nothing; else keys, and what it is told. -/
def tailS (c : Cmt) : Bool := if c.add < 0 then decide (c.leaf = ByteArray.empty) && decide (c.wel = Wel.none) else keyB c.leaf && (keyB c.wel.key && (decide (c.leaf ≠ c.wel.key) && (decide (c.wel.ik = c.wel.key) && (decide (c.wel.sk = c.wel.key) && (Kw.ok c.wel.is && Kw.ok c.wel.ss)))))
theorem tailS_eq (c : Cmt) : tailS c = if c.add < 0 then decide (c.leaf = ByteArray.empty) && decide (c.wel = Wel.none) else keyB c.leaf && (keyB c.wel.key && (decide (c.leaf ≠ c.wel.key) && (decide (c.wel.ik = c.wel.key) && (decide (c.wel.sk = c.wel.key) && (Kw.ok c.wel.is && Kw.ok c.wel.ss))))) := rfl
theorem mOp_ok {s : ByteArray} {n : Int} (h : mOp s = n) (hn : n ≠ 0) : Kw.ok s = true := by
  cases q : Kw.ok s with
  | true => rfl
  | false => exact absurd (by rw [← h]; unfold mOp; rw [if_neg (by rw [q]; simp)]) hn
theorem keyB_op (s : ByteArray) : keyB s = decide (mOp s = 3) := by
  unfold keyB
  by_cases h : mOp s = 3
  · rw [mOp_ok h (by decide)]; simp [h]
  · simp [h]
theorem tail_plain (c : Cmt) (h : -1 ≤ c.add) : tailS c = (keysOfB c.add c.leaf c.wel.key && welB c.add c.wel) := by
  unfold tailS keysOfB welB
  by_cases ha : c.add < 0
  · rw [if_pos ha, if_pos (by omega), if_pos (by omega)]
    by_cases hw : c.wel = Wel.none
    · rw [hw]; simp [Wel.none]
      intro _
      rfl
    · simp [hw]
  · rw [if_neg ha, if_neg (by omega), if_neg (by omega), keyB_op, keyB_op]
    simp only [Bool.and_assoc]
theorem text_nil {x : ByteArray} : x = ByteArray.empty ↔ x.toList = [] := ⟨fun h => by rw [h]; exact nil_text, fun h => Classical.byContradiction fun q => no_text q h⟩
theorem wel_dec (wk ik is sk ss : ByteArray) : decide ((⟨wk, ik, is, sk, ss⟩ : Wel) = Wel.none) = (decide (wk.toList = []) && (decide (ik.toList = []) && (decide (is.toList = []) && (decide (sk.toList = []) && decide (ss.toList = []))))) := by
  have e : (⟨#[]⟩ : ByteArray) = ByteArray.empty := rfl
  rw [Bool.eq_iff_iff]
  simp only [Wel.none, Wel.mk.injEq, e, text_nil, decide_eq_true_eq, Bool.and_eq_true]
theorem str_dec (x y : ByteArray) : (x.toList == y.toList) = decide (x = y) := by
  rw [Bool.eq_iff_iff, toList_eq]; simp
theorem cmtOk_spec (c : Cmt) : cmtOk c = (inB 0 7 c.sender && (Kw.ok c.name && (decide (mOp c.name = 1) && (decide (c.tag.size + c.name.size ≤ 300) && (inB (-1) 7 c.add && (inB (-1) 7 c.rem && (decide (c.add ≠ c.sender) && (decide (c.rem ≠ c.sender) && (treOk c.keys && (okBoxes c.boxes && (decide (c.boxes.length ≤ 20) && tailS c))))))))))) := by
  by_cases h1 : inB 0 7 c.sender = true
  · have hs : 0 ≤ c.sender ∧ c.sender ≤ 7 := by unfold inB at h1; simpa using h1
    by_cases h2 : inB (-1) 7 c.add = true
    · have ha : -1 ≤ c.add ∧ c.add ≤ 7 := by unfold inB at h2; simpa using h2
      rw [tail_plain c ha.1]
      have e1 : otherB c.add c.sender = decide (c.add ≠ c.sender) := by
        unfold otherB oneB; rw [Bool.eq_iff_iff]; simp; omega
      have e2 : otherB c.rem c.sender = (inB (-1) 7 c.rem && decide (c.rem ≠ c.sender)) := by
        unfold otherB oneB inB; rw [Bool.eq_iff_iff]; simp; omega
      have e3 : (Kw.ok c.name && decide (mOp c.name = 1)) = decide (mOp c.name = 1) := by
        by_cases h : mOp c.name = 1
        · rw [mOp_ok h (by decide)]; simp
        · simp [h]
      unfold cmtOk
      rw [show oneB c.sender = inB 0 7 c.sender from rfl, h1, h2, e1, e2, ← e3]
      generalize Kw.ok c.name = b1
      generalize decide (mOp c.name = 1) = b2
      generalize decide (c.tag.size + c.name.size ≤ 300) = b3
      generalize inB (-1) 7 c.rem = b4
      generalize decide (c.add ≠ c.sender) = b5
      generalize decide (c.rem ≠ c.sender) = b6
      generalize treOk c.keys = b7
      generalize okBoxes c.boxes = b8
      generalize decide (c.boxes.length ≤ 20) = b9
      generalize keysOfB c.add c.leaf c.wel.key = b10
      generalize welB c.add c.wel = b11
      cases b1 <;> cases b2 <;> cases b3 <;> cases b4 <;> cases b5 <;> cases b6 <;> cases b7 <;> simp
      all_goals (cases b8 <;> cases b9 <;> cases b10 <;> cases b11 <;> rfl)
    · have e1 : otherB c.add c.sender = false := by
        unfold inB at h2
        simp at h2
        unfold otherB oneB; rw [Bool.eq_false_iff]; simp; omega
      unfold cmtOk
      rw [e1, show inB (-1) 7 c.add = false by simpa using h2]
      simp
  · have e1 : inB 0 7 c.sender = false := by simpa using h1
    unfold cmtOk
    rw [show oneB c.sender = inB 0 7 c.sender from rfl, e1]
    simp

set_option maxRecDepth 100000 in
set_option maxHeartbeats 8000000 in
theorem sCmtOk_any (c : Cmt) (ks bs : Value) (w : World) (hK : SRow w ks c.keys) (hO : BRow w bs c.boxes) (hkm : ∀ x ∈ c.keys, x.size ≤ maxLen) (hbm : ∀ b ∈ c.boxes, b.1.size ≤ maxLen ∧ b.2.size ≤ maxLen)
    (hnm : c.name.size ≤ 2000000) (htm : c.tag.size ≤ 2000000) (hlm : c.leaf.size ≤ maxLen) (h1m : c.wel.key.size ≤ maxLen) (h2m : c.wel.is.size ≤ maxLen) (h3m : c.wel.ss.size ≤ maxLen) :
    Calls Tryz.prog 16 #[.agg (c.cells ks bs)] w fun e w' => e = .returned (.bool (cmtOk c)) ∧ Below w.heap.size w w' := by
  have HE0 : Hid (cmtOk c = _) := cmtOk_spec c
  have HTL : Hid (tailS c = _) := tailS_eq c
  obtain ⟨se, tag, name, add, rem, leaf, keys, boxes, wk, ik, is, sk, ss⟩ := c
  simp only at hK hO hkm hbm hnm htm hlm h1m h2m h3m HE0 HTL ⊢
  have HK := hide hK
  have HO := hide hO
  have HKM := hide hkm
  have HBM := hide hbm
  have M : Hid (name.size ≤ maxLen ∧ leaf.size ≤ maxLen ∧ wk.size ≤ maxLen ∧ is.size ≤ maxLen ∧ ss.size ≤ maxLen) := ⟨Nat.le_trans hnm (by unfold maxLen; omega), hlm, h1m, h2m, h3m⟩
  obtain ⟨a1, p1, rfl, _, _, _⟩ := hK.form
  obtain ⟨a2, p2, rfl, _, _, _⟩ := hO
  have hsum : IntKind.i64.wrap ((tag.size : Int) + (name.size : Int)) = (tag.size : Int) + (name.size : Int) := by simp [IntKind.wrap, IntKind.bits, IntKind.signed]; rw [if_neg (by omega), Int.emod_eq_of_lt (by omega) (by omega)]
  clear hK hkm hbm hnm htm hlm h1m h2m h3m
  obtain ⟨r, hr⟩ : ∃ r, cmtOk ⟨se, tag, name, add, rem, leaf, keys, boxes, wk, ik, is, sk, ss⟩ = r := ⟨_, rfl⟩
  rw [hr] at HE0 ⊢
  clear hr
  obtain ⟨tl, htl⟩ : ∃ tl, tailS ⟨se, tag, name, add, rem, leaf, keys, boxes, wk, ik, is, sk, ss⟩ = tl := ⟨_, rfl⟩
  rw [htl] at HE0 HTL
  clear htl
  have A := hide (Blk.new w 43 (cmtC se tag name add rem leaf (.slice a1 keys.length p1) (.slice a2 boxes.length p2) wk ik is sk ss))
  have HB : Hid (Below w.heap.size w (w.alloc (.cells (cmtC se tag name add rem leaf (.slice a1 keys.length p1) (.slice a2 boxes.length p2) wk ik is sk ss) 43))) := (Below.refl _ _).alloc (Nat.le_refl _) _
  generalize keys.length = kl at *
  generalize hbl : boxes.length = bl at *
  have HBL := hide hbl
  clear hbl
  go_enter Tryz.func16, Tryz.ntmps16
  go_wp2_with fail
  refine (l1In_any se 0 7 _).mono ?_
  obtain ⟨b1, hb1⟩ : ∃ b1, inB 0 7 se = b1 := ⟨_, rfl⟩
  rw [hb1] at HE0 ⊢
  have HB1 := hide hb1
  clear hb1
  cases b1 with
  | false =>
    rintro e wz ⟨rfl, rfl⟩
    have HF : Hid (r = false) := by show _ = _; rw [HE0.out]; rfl
    clear HE0 HTL
    go_wp2_with fail
    go_ret
    exact ⟨ret_bool' HF.out.symm, unhide HB⟩
  | true =>
    rintro e wz ⟨rfl, rfl⟩
    simp only [Bool.true_and] at HE0
    have c2 := (unhide A).cell 2
    simp only [List.getElem?_toArray, List.getElem?_cons_succ, List.getElem?_cons_zero] at c2
    go_wp2_with fail
    clear c2
    refine (sSecOk_any name _ M.out.1).mono ?_
    obtain ⟨b2, hb2⟩ : ∃ b2, Kw.ok name = b2 := ⟨_, rfl⟩
    rw [hb2] at HE0 ⊢
    have HB2 := hide hb2
    clear hb2
    cases b2 with
    | false =>
      rintro e w1 ⟨rfl, hb⟩
      replace A := hide ((unhide A).below hb)
      replace HB := hide (HB.out.trans (hb.mono HB.out.size))
      clear hb
      have HF : Hid (r = false) := by show _ = _; rw [HE0.out]; rfl
      clear HE0 HTL
      go_wp2_with fail
      go_ret
      exact ⟨ret_bool' HF.out.symm, unhide HB⟩
    | true =>
      rintro e w1 ⟨rfl, hb⟩
      replace A := hide ((unhide A).below hb)
      replace HB := hide (HB.out.trans (hb.mono HB.out.size))
      clear hb
      simp only [Bool.true_and] at HE0
      have c2 := (unhide A).cell 2
      simp only [List.getElem?_toArray, List.getElem?_cons_succ, List.getElem?_cons_zero] at c2
      go_wp2_with fail
      clear c2
      refine (l1How_any name _ HB2.out).mono ?_
      rw [how_field]
      rintro e w1 ⟨rfl, hb⟩
      replace A := hide ((unhide A).below hb)
      replace HB := hide (HB.out.trans (hb.mono HB.out.size))
      clear hb
      have hfl := field_op
      generalize mOp name = op at *
      by_cases hc : op = 1
      rotate_left
      · rw [show decide (op = 1) = false by simpa using hc] at HE0
        have hz : (op != 1) = true := by simpa using hc
        have hz2 : (op == 1) = false := by simpa using hc
        have hz3 : ¬ op = 1 := hc
        clear hc
        have c0 := (unhide A).cell 0
        have c1 := (unhide A).cell 1
        have c2 := (unhide A).cell 2
        have c3 := (unhide A).cell 3
        have c4 := (unhide A).cell 4
        simp only [List.getElem?_toArray, List.getElem?_cons_succ, List.getElem?_cons_zero] at c0 c1 c2 c3 c4
        have HF : Hid (r = false) := by show _ = _; rw [HE0.out]; rfl
        clear HE0 HTL
        go_wp2_with fail
        go_ret
        exact ⟨ret_bool' HF.out.symm, unhide HB⟩
      rw [show decide (op = 1) = true by simpa using hc] at HE0
      simp only [Bool.true_and] at HE0
      subst hc
      by_cases hc : tag.size + name.size ≤ 300
      rotate_left
      · rw [show decide (tag.size + name.size ≤ 300) = false by simpa using hc] at HE0
        have hz : (300 : Int) < (tag.size : Int) + (name.size : Int) := by omega
        clear hc
        have c0 := (unhide A).cell 0
        have c1 := (unhide A).cell 1
        have c2 := (unhide A).cell 2
        have c3 := (unhide A).cell 3
        have c4 := (unhide A).cell 4
        simp only [List.getElem?_toArray, List.getElem?_cons_succ, List.getElem?_cons_zero] at c0 c1 c2 c3 c4
        have HF : Hid (r = false) := by show _ = _; rw [HE0.out]; rfl
        clear HE0 HTL
        go_wp2_with fail
        go_ret
        exact ⟨ret_bool' HF.out.symm, unhide HB⟩
      rw [show decide (tag.size + name.size ≤ 300) = true by simpa using hc] at HE0
      simp only [Bool.true_and] at HE0
      have hz1 : decide ((300 : Int) < (tag.size : Int) + (name.size : Int)) = false := by simp; omega
      clear hc
      have c1 := (unhide A).cell 1
      have c2 := (unhide A).cell 2
      have c3 := (unhide A).cell 3
      simp only [List.getElem?_toArray, List.getElem?_cons_succ, List.getElem?_cons_zero] at c1 c2 c3
      go_wp2_with fail
      clear c1 c2 c3
      refine (l1In_any add (-1) 7 _).mono ?_
      obtain ⟨b3, hb3⟩ : ∃ b3, inB (-1) 7 add = b3 := ⟨_, rfl⟩
      rw [hb3] at HE0 ⊢
      have HB3 := hide hb3
      clear hb3
      cases b3 with
      | false =>
        rintro e wz ⟨rfl, rfl⟩
        have HF : Hid (r = false) := by show _ = _; rw [HE0.out]; rfl
        clear HE0 HTL
        go_wp2_with fail
        go_ret
        exact ⟨ret_bool' HF.out.symm, unhide HB⟩
      | true =>
        rintro e wz ⟨rfl, rfl⟩
        simp only [Bool.true_and] at HE0
        have c4 := (unhide A).cell 4
        simp only [List.getElem?_toArray, List.getElem?_cons_succ, List.getElem?_cons_zero] at c4
        go_wp2_with fail
        clear c4
        refine (l1In_any rem (-1) 7 _).mono ?_
        obtain ⟨b4, hb4⟩ : ∃ b4, inB (-1) 7 rem = b4 := ⟨_, rfl⟩
        rw [hb4] at HE0 ⊢
        have HB4 := hide hb4
        clear hb4
        cases b4 with
        | false =>
          rintro e wz ⟨rfl, rfl⟩
          have HF : Hid (r = false) := by show _ = _; rw [HE0.out]; rfl
          clear HE0 HTL
          go_wp2_with fail
          go_ret
          exact ⟨ret_bool' HF.out.symm, unhide HB⟩
        | true =>
          rintro e wz ⟨rfl, rfl⟩
          simp only [Bool.true_and] at HE0
          by_cases hc : add ≠ se
          rotate_left
          · rw [show decide (add ≠ se) = false by simpa using hc] at HE0
            simp only [ne_eq, Classical.not_not] at hc
            have hz : (add == se) = true := by simpa using hc
            clear hc
            have c0 := (unhide A).cell 0
            have c3 := (unhide A).cell 3
            have c4 := (unhide A).cell 4
            simp only [List.getElem?_toArray, List.getElem?_cons_succ, List.getElem?_cons_zero] at c0 c3 c4
            have HF : Hid (r = false) := by show _ = _; rw [HE0.out]; rfl
            clear HE0 HTL
            go_wp2_with fail
            go_ret
            exact ⟨ret_bool' HF.out.symm, unhide HB⟩
          rw [show decide (add ≠ se) = true by simpa using hc] at HE0
          simp only [Bool.true_and] at HE0
          have hz2 : (add == se) = false := by simpa using hc
          clear hc
          by_cases hc : rem ≠ se
          rotate_left
          · rw [show decide (rem ≠ se) = false by simpa using hc] at HE0
            simp only [ne_eq, Classical.not_not] at hc
            have hz : (rem == se) = true := by simpa using hc
            clear hc
            have c0 := (unhide A).cell 0
            have c3 := (unhide A).cell 3
            have c4 := (unhide A).cell 4
            simp only [List.getElem?_toArray, List.getElem?_cons_succ, List.getElem?_cons_zero] at c0 c3 c4
            have HF : Hid (r = false) := by show _ = _; rw [HE0.out]; rfl
            clear HE0 HTL
            go_wp2_with fail
            go_ret
            exact ⟨ret_bool' HF.out.symm, unhide HB⟩
          rw [show decide (rem ≠ se) = true by simpa using hc] at HE0
          simp only [Bool.true_and] at HE0
          have hz3 : (rem == se) = false := by simpa using hc
          clear hc
          have c0 := (unhide A).cell 0
          have c3 := (unhide A).cell 3
          have c4 := (unhide A).cell 4
          have c6 := (unhide A).cell 6
          simp only [List.getElem?_toArray, List.getElem?_cons_succ, List.getElem?_cons_zero] at c0 c3 c4 c6
          go_wp2_with fail
          clear c0 c3 c4 c6
          refine (sTreOk_any _ keys _ ((unhide HK).below (unhide HB)) (unhide HKM)).mono ?_
          obtain ⟨b5, hb5⟩ : ∃ b5, treOk keys = b5 := ⟨_, rfl⟩
          rw [hb5] at HE0 ⊢
          have HB5 := hide hb5
          clear hb5
          cases b5 with
          | false =>
            rintro e w1 ⟨rfl, hb⟩
            replace A := hide ((unhide A).below hb)
            replace HB := hide (HB.out.trans (hb.mono HB.out.size))
            clear hb
            have HF : Hid (r = false) := by show _ = _; rw [HE0.out]; rfl
            clear HE0 HTL
            go_wp2_with fail
            go_ret
            exact ⟨ret_bool' HF.out.symm, unhide HB⟩
          | true =>
            rintro e w1 ⟨rfl, hb⟩
            replace A := hide ((unhide A).below hb)
            replace HB := hide (HB.out.trans (hb.mono HB.out.size))
            clear hb
            simp only [Bool.true_and] at HE0
            have c7 := (unhide A).cell 7
            simp only [List.getElem?_toArray, List.getElem?_cons_succ, List.getElem?_cons_zero] at c7
            go_wp2_with fail
            clear c7
            refine (l2Boxes_any _ boxes _ ((unhide HO).below (unhide HB)) (unhide HBM)).mono ?_
            obtain ⟨b6, hb6⟩ : ∃ b6, okBoxes boxes = b6 := ⟨_, rfl⟩
            rw [hb6] at HE0 ⊢
            have HB6 := hide hb6
            clear hb6
            cases b6 with
            | false =>
              rintro e w1 ⟨rfl, hb⟩
              replace A := hide ((unhide A).below hb)
              replace HB := hide (HB.out.trans (hb.mono HB.out.size))
              clear hb
              have HF : Hid (r = false) := by show _ = _; rw [HE0.out]; rfl
              clear HE0 HTL
              go_wp2_with fail
              go_ret
              exact ⟨ret_bool' HF.out.symm, unhide HB⟩
            | true =>
              rintro e w1 ⟨rfl, hb⟩
              replace A := hide ((unhide A).below hb)
              replace HB := hide (HB.out.trans (hb.mono HB.out.size))
              clear hb
              simp only [Bool.true_and] at HE0
              by_cases hc : bl ≤ 20
              rotate_left
              · rw [show decide (bl ≤ 20) = false by simpa using hc] at HE0
                have hz : (20 : Int) < (bl : Int) := by omega
                clear hc
                have c7 := (unhide A).cell 7
                simp only [List.getElem?_toArray, List.getElem?_cons_succ, List.getElem?_cons_zero] at c7
                have HF : Hid (r = false) := by show _ = _; rw [HE0.out]; rfl
                clear HE0 HTL
                go_wp2_with fail
                go_ret
                exact ⟨ret_bool' HF.out.symm, unhide HB⟩
              rw [show decide (bl ≤ 20) = true by simpa using hc] at HE0
              simp only [Bool.true_and] at HE0
              have hz4 : decide ((20 : Int) < (bl : Int)) = false := by simp; omega
              clear hc
              by_cases ha : add < 0
              · rw [if_pos ha] at HTL
                replace HE0 : Hid (r = _) := HE0.out.trans HTL.out
                clear HTL
                by_cases hlf : leaf = ByteArray.empty
                rotate_left
                · rw [show decide (leaf = ByteArray.empty) = false by simpa using hlf] at HE0
                  have hz : ¬ leaf.toList = [] := no_text hlf
                  have hz2 : leaf.toList.isEmpty = false := by simpa using no_text hlf
                  clear hlf
                  have HTL : Hid True := trivial
                  have c3 := (unhide A).cell 3
                  have c5 := (unhide A).cell 5
                  have c7 := (unhide A).cell 7
                  simp only [List.getElem?_toArray, List.getElem?_cons_succ, List.getElem?_cons_zero] at c3 c5 c7
                  have HF : Hid (r = false) := by show _ = _; rw [HE0.out]; rfl
                  clear HE0 HTL
                  go_wp2_with fail
                  go_ret
                  exact ⟨ret_bool' HF.out.symm, unhide HB⟩
                subst hlf
                have hz5 : (ByteArray.empty).toList = [] := nil_text
                have c3 := (unhide A).cell 3
                have c5 := (unhide A).cell 5
                have c7 := (unhide A).cell 7
                have c8 := (unhide A).cell 8
                have c9 := (unhide A).cell 9
                have c10 := (unhide A).cell 10
                have c11 := (unhide A).cell 11
                have c12 := (unhide A).cell 12
                simp only [List.getElem?_toArray, List.getElem?_cons_succ, List.getElem?_cons_zero] at c3 c5 c7 c8 c9 c10 c11 c12
                go_wp2_with fail
                all_goals
                  go_ret
                  refine ⟨ret_bool' ?_, unhide HB⟩
                  rw [HE0.out, wel_dec]
                  simp [*]
              · rw [if_neg ha] at HTL
                replace HE0 : Hid (r = _) := HE0.out.trans HTL.out
                clear HTL
                have HTL : Hid True := trivial
                have ha2 : decide (add < 0) = false := by simpa using ha
                clear ha
                have c3 := (unhide A).cell 3
                have c7 := (unhide A).cell 7
                have c8 := (unhide A).cell 8
                have c9 := (unhide A).cell 9
                have c10 := (unhide A).cell 10
                have c11 := (unhide A).cell 11
                have c12 := (unhide A).cell 12
                simp only [List.getElem?_toArray, List.getElem?_cons_succ, List.getElem?_cons_zero] at c3 c7 c8 c9 c10 c11 c12
                have B := hide (Blk.new w1 41 #[.string wk, .string ik, .string is, .string sk, .string ss])
                replace A := hide ((unhide A).alloc (.cells #[.string wk, .string ik, .string is, .string sk, .string ss] 41))
                have HBS := HB.out.size
                replace HB := hide (HB.out.alloc HBS (.cells #[.string wk, .string ik, .string is, .string sk, .string ss] 41))
                have c5 := (unhide A).cell 5
                simp only [List.getElem?_toArray, List.getElem?_cons_succ, List.getElem?_cons_zero] at c5
                go_wp2_with fail
                clear c3 c7 c8 c9 c10 c11 c12 c5
                refine (l4Key_any leaf _ M.out.2.1).mono ?_
                obtain ⟨b7, hb7⟩ : ∃ b7, keyB leaf = b7 := ⟨_, rfl⟩
                rw [hb7] at HE0 ⊢
                have HB7 := hide hb7
                clear hb7
                cases b7 with
                | false =>
                  rintro e w2 ⟨rfl, hb⟩
                  replace B := hide ((unhide B).below hb)
                  replace A := hide ((unhide A).below hb)
                  replace HB := hide (HB.out.trans (hb.mono HB.out.size))
                  clear hb
                  have HF : Hid (r = false) := by show _ = _; rw [HE0.out]; rfl
                  clear HE0 HTL
                  go_wp2_with fail
                  go_ret
                  exact ⟨ret_bool' HF.out.symm, unhide HB⟩
                | true =>
                  rintro e w2 ⟨rfl, hb⟩
                  replace B := hide ((unhide B).below hb)
                  replace A := hide ((unhide A).below hb)
                  replace HB := hide (HB.out.trans (hb.mono HB.out.size))
                  clear hb
                  simp only [Bool.true_and] at HE0
                  have d0 := (unhide B).cell 0
                  simp only [List.getElem?_toArray, List.getElem?_cons_zero] at d0
                  go_wp2_with fail
                  clear d0
                  refine (l4Key_any wk _ M.out.2.2.1).mono ?_
                  obtain ⟨b8, hb8⟩ : ∃ b8, keyB wk = b8 := ⟨_, rfl⟩
                  rw [hb8] at HE0 ⊢
                  have HB8 := hide hb8
                  clear hb8
                  cases b8 with
                  | false =>
                    rintro e w2 ⟨rfl, hb⟩
                    replace B := hide ((unhide B).below hb)
                    replace A := hide ((unhide A).below hb)
                    replace HB := hide (HB.out.trans (hb.mono HB.out.size))
                    clear hb
                    have HF : Hid (r = false) := by show _ = _; rw [HE0.out]; rfl
                    clear HE0 HTL
                    go_wp2_with fail
                    go_ret
                    exact ⟨ret_bool' HF.out.symm, unhide HB⟩
                  | true =>
                    rintro e w2 ⟨rfl, hb⟩
                    replace B := hide ((unhide B).below hb)
                    replace A := hide ((unhide A).below hb)
                    replace HB := hide (HB.out.trans (hb.mono HB.out.size))
                    clear hb
                    simp only [Bool.true_and] at HE0
                    by_cases hc : leaf ≠ wk
                    rotate_left
                    · rw [show decide (leaf ≠ wk) = false by simpa using hc] at HE0
                      simp only [ne_eq, Classical.not_not] at hc
                      have hq : (leaf.toList == wk.toList) = true := toList_eq.2 hc
                      clear hc
                      have c5 := (unhide A).cell 5
                      simp only [List.getElem?_toArray, List.getElem?_cons_succ, List.getElem?_cons_zero] at c5
                      have d0 := (unhide B).cell 0
                      have d1 := (unhide B).cell 1
                      have d2 := (unhide B).cell 2
                      have d3 := (unhide B).cell 3
                      have d4 := (unhide B).cell 4
                      simp only [List.getElem?_toArray, List.getElem?_cons_succ, List.getElem?_cons_zero] at d0 d1 d2 d3 d4
                      have HF : Hid (r = false) := by show _ = _; rw [HE0.out]; rfl
                      clear HE0 HTL
                      go_wp2_with fail
                      go_ret
                      exact ⟨ret_bool' HF.out.symm, unhide HB⟩
                    rw [show decide (leaf ≠ wk) = true by simpa using hc] at HE0
                    simp only [Bool.true_and] at HE0
                    have hq9 : (leaf.toList == wk.toList) = false := by rw [str_dec]; simpa using hc
                    clear hc
                    by_cases hc : ik = wk
                    rotate_left
                    · rw [show decide (ik = wk) = false by simpa using hc] at HE0
                      have hq : (ik.toList == wk.toList) = false := by rw [str_dec]; simpa using hc
                      clear hc
                      have c5 := (unhide A).cell 5
                      simp only [List.getElem?_toArray, List.getElem?_cons_succ, List.getElem?_cons_zero] at c5
                      have d0 := (unhide B).cell 0
                      have d1 := (unhide B).cell 1
                      have d2 := (unhide B).cell 2
                      have d3 := (unhide B).cell 3
                      have d4 := (unhide B).cell 4
                      simp only [List.getElem?_toArray, List.getElem?_cons_succ, List.getElem?_cons_zero] at d0 d1 d2 d3 d4
                      have HF : Hid (r = false) := by show _ = _; rw [HE0.out]; rfl
                      clear HE0 HTL
                      go_wp2_with fail
                      go_ret
                      exact ⟨ret_bool' HF.out.symm, unhide HB⟩
                    rw [show decide (ik = wk) = true by simpa using hc] at HE0
                    simp only [Bool.true_and] at HE0
                    have hq10 : (ik.toList == wk.toList) = true := by rw [str_dec]; simpa using hc
                    clear hc
                    by_cases hc : sk = wk
                    rotate_left
                    · rw [show decide (sk = wk) = false by simpa using hc] at HE0
                      have hq : (sk.toList == wk.toList) = false := by rw [str_dec]; simpa using hc
                      clear hc
                      have c5 := (unhide A).cell 5
                      simp only [List.getElem?_toArray, List.getElem?_cons_succ, List.getElem?_cons_zero] at c5
                      have d0 := (unhide B).cell 0
                      have d1 := (unhide B).cell 1
                      have d2 := (unhide B).cell 2
                      have d3 := (unhide B).cell 3
                      have d4 := (unhide B).cell 4
                      simp only [List.getElem?_toArray, List.getElem?_cons_succ, List.getElem?_cons_zero] at d0 d1 d2 d3 d4
                      have HF : Hid (r = false) := by show _ = _; rw [HE0.out]; rfl
                      clear HE0 HTL
                      go_wp2_with fail
                      go_ret
                      exact ⟨ret_bool' HF.out.symm, unhide HB⟩
                    rw [show decide (sk = wk) = true by simpa using hc] at HE0
                    simp only [Bool.true_and] at HE0
                    have hq11 : (sk.toList == wk.toList) = true := by rw [str_dec]; simpa using hc
                    clear hc
                    have c5 := (unhide A).cell 5
                    simp only [List.getElem?_toArray, List.getElem?_cons_succ, List.getElem?_cons_zero] at c5
                    have d0 := (unhide B).cell 0
                    have d1 := (unhide B).cell 1
                    have d2 := (unhide B).cell 2
                    have d3 := (unhide B).cell 3
                    simp only [List.getElem?_toArray, List.getElem?_cons_succ, List.getElem?_cons_zero] at d0 d1 d2 d3
                    go_wp2_with fail
                    clear c5 d0 d1 d2 d3
                    refine (sSecOk_any is _ M.out.2.2.2.1).mono ?_
                    obtain ⟨b12, hb12⟩ : ∃ b12, Kw.ok is = b12 := ⟨_, rfl⟩
                    rw [hb12] at HE0 ⊢
                    have HB12 := hide hb12
                    clear hb12
                    cases b12 with
                    | false =>
                      rintro e w2 ⟨rfl, hb⟩
                      replace B := hide ((unhide B).below hb)
                      replace A := hide ((unhide A).below hb)
                      replace HB := hide (HB.out.trans (hb.mono HB.out.size))
                      clear hb
                      have HF : Hid (r = false) := by show _ = _; rw [HE0.out]; rfl
                      clear HE0 HTL
                      go_wp2_with fail
                      go_ret
                      exact ⟨ret_bool' HF.out.symm, unhide HB⟩
                    | true =>
                      rintro e w2 ⟨rfl, hb⟩
                      replace B := hide ((unhide B).below hb)
                      replace A := hide ((unhide A).below hb)
                      replace HB := hide (HB.out.trans (hb.mono HB.out.size))
                      clear hb
                      simp only [Bool.true_and] at HE0
                      have d4 := (unhide B).cell 4
                      simp only [List.getElem?_toArray, List.getElem?_cons_succ, List.getElem?_cons_zero] at d4
                      go_wp2_with fail
                      clear d4
                      refine (sSecOk_any ss _ M.out.2.2.2.2).mono ?_
                      rw [← HE0.out]
                      rintro e w2 ⟨rfl, hb⟩
                      replace B := hide ((unhide B).below hb)
                      replace A := hide ((unhide A).below hb)
                      replace HB := hide (HB.out.trans (hb.mono HB.out.size))
                      clear hb
                      go_wp2_with fail
                      go_ret
                      exact ⟨rfl, unhide HB⟩
#print axioms sCmtOk_any
end Go.Proofs.YteiojanamkndmaaGreat
/-
  The program's faults: one that is told unless something holds; and the tests of a commit by themselves.
-/
namespace Go.Proofs.YteiojanamkndmaaGreat
open Go.RowKit

/-- No fault where something holds; else a fault that lies at a block. -/
def errV : Bool → Nat → Value
  | true, _ => .nilIface
  | false, p => .iface 111 (.pointer (some ⟨p, 0, none⟩))

set_option maxHeartbeats 400000 in
theorem nothingUnless_any (b : Bool) (s : ByteArray) (w : World) :
    Calls Tryz.prog 54 #[.bool b, .string s] w fun e w' => e = .returned (errV b w.heap.size) ∧ Below w.heap.size w w' ∧ (b = false → Blk w' w.heap.size 114 #[.int .i64 1, .string s]) := by
  cases b with
  | true =>
    go_enter Tryz.func54, Tryz.ntmps54
    go_wp2_with fail
    go_ret
    exact ⟨rfl, Below.refl _ _, fun h => by cases h⟩
  | false =>
    go_enter Tryz.func54, Tryz.ntmps54
    go_wp2_with fail
    go_ret
    exact ⟨rfl, (Below.refl _ _).alloc (Nat.le_refl _) _, fun _ => Blk.new w _ _⟩

theorem isOne_any (n : Int) (w : World) : Calls Tryz.prog 55 #[.int .i64 n] w fun e w' => e = .returned (.bool (oneB n)) ∧ w' = w := by
  by_cases h : 0 ≤ n ∧ n ≤ 7
  · rw [show oneB n = true by unfold oneB; simp [h.1, h.2]]
    exact isOne_yes n w h.1 (by omega)
  · rw [show oneB n = false by unfold oneB; simp; omega]
    exact isOne_no n w (by omega)

set_option maxHeartbeats 400000 in
theorem isNobodyOrOther_any (n s : Int) (w : World) :
    Calls Tryz.prog 77 #[.int .i64 n, .int .i64 s] w fun e w' => e = .returned (.bool (otherB n s)) ∧ w' = w := by
  have HD : Hid (otherB n s = (decide (n = -1) || (oneB n && decide (n ≠ s)))) := rfl
  obtain ⟨r, hr⟩ : ∃ r, otherB n s = r := ⟨_, rfl⟩
  rw [hr] at HD ⊢
  clear hr
  by_cases h1 : n = -1
  · have hF : Hid (r = true) := by show _ = _; rw [HD.out]; simp [h1]
    have h2 : (n == -1) = true := by simpa using h1
    clear HD h1
    go_enter Tryz.func77, Tryz.ntmps77
    go_wp2_with fail
    go_ret
    exact ⟨ret_bool' hF.out.symm, rfl⟩
  · have h2 : (n == -1) = false := by simpa using h1
    rw [show decide (n = -1) = false by simpa using h1, Bool.false_or] at HD
    clear h1
    go_enter Tryz.func77, Tryz.ntmps77
    go_wp2_with fail
    refine (isOne_any n _).mono ?_
    generalize oneB n = b at *
    cases b with
    | false =>
      rintro e wz ⟨rfl, rfl⟩
      go_wp2_with fail
      go_ret
      exact ⟨ret_bool' HD.out.symm, rfl⟩
    | true =>
      rintro e wz ⟨rfl, rfl⟩
      by_cases h3 : n = s
      · have hF : Hid (r = false) := by show _ = _; rw [HD.out]; simp [h3]
        have h4 : (n == s) = true := by simpa using h3
        have h5 : (n != s) = false := by simpa using h3
        clear HD h3
        go_wp2_with fail
        go_ret
        exact ⟨ret_bool' hF.out.symm, rfl⟩
      · have hF : Hid (r = true) := by show _ = _; rw [HD.out]; simp [h3]
        have h4 : (n == s) = false := by simpa using h3
        have h5 : (n != s) = true := by simpa using h3
        clear HD h3
        go_wp2_with fail
        go_ret
        exact ⟨ret_bool' hF.out.symm, rfl⟩

set_option maxRecDepth 100000 in
set_option maxHeartbeats 1000000 in
theorem areKeysOf_any (add : Int) (leaf key : ByteArray) (w : World) (h1 : leaf.size ≤ maxLen) (h2 : key.size ≤ maxLen) :
    Calls Tryz.prog 80 #[.int .i64 add, .string leaf, .string key] w fun e w' => e = .returned (.bool (keysOfB add leaf key)) ∧ Below w.heap.size w w' := by
  have M : Hid (leaf.size ≤ maxLen ∧ key.size ≤ maxLen) := ⟨h1, h2⟩
  clear h1 h2
  have HD : Hid (keysOfB add leaf key = if add = -1 then decide (leaf = ByteArray.empty) && decide (key = ByteArray.empty) else decide (mOp leaf = 3) && decide (mOp key = 3) && decide (leaf ≠ key)) := rfl
  obtain ⟨r, hr⟩ : ∃ r, keysOfB add leaf key = r := ⟨_, rfl⟩
  rw [hr] at HD ⊢
  clear hr
  by_cases ha : add = -1
  · rw [if_pos ha] at HD
    have h2 : (add == -1) = true := by simpa using ha
    clear ha
    go_enter Tryz.func80, Tryz.ntmps80
    go_wp2_with fail
    all_goals
      go_ret
      refine ⟨ret_bool' ?_, Below.refl _ _⟩
      rw [HD.out]
      simp [text_nil, *]
      try (cases key.toList <;> simp)
  · rw [if_neg ha] at HD
    have h2 : (add == -1) = false := by simpa using ha
    clear ha
    go_enter Tryz.func80, Tryz.ntmps80
    go_wp2_with fail
    refine (isKey_any leaf _ M.out.1).mono ?_
    generalize decide (mOp leaf = 3) = b1 at *
    cases b1 with
    | false =>
      rintro e w1 ⟨rfl, hb⟩
      have HB := hide hb
      clear hb
      go_wp2_with fail
      go_ret
      exact ⟨ret_bool' HD.out.symm, unhide HB⟩
    | true =>
      rintro e w1 ⟨rfl, hb⟩
      have HB := hide hb
      clear hb
      go_wp2_with fail
      refine (isKey_any key _ M.out.2).mono ?_
      generalize decide (mOp key = 3) = b2 at *
      cases b2 with
      | false =>
        rintro e w2 ⟨rfl, hb⟩
        replace HB := hide (HB.out.trans (hb.mono HB.out.size))
        clear hb
        go_wp2_with fail
        go_ret
        exact ⟨ret_bool' HD.out.symm, unhide HB⟩
      | true =>
        rintro e w2 ⟨rfl, hb⟩
        replace HB := hide (HB.out.trans (hb.mono HB.out.size))
        clear hb
        by_cases hc : leaf = key
        · have hq : (leaf.toList == key.toList) = true := toList_eq.2 hc
          have hF : Hid (r = false) := by show _ = _; rw [HD.out]; simp [hc]
          clear hc HD
          go_wp2_with fail
          go_ret
          exact ⟨ret_bool' hF.out.symm, unhide HB⟩
        · have hq : (leaf.toList == key.toList) = false := by rw [str_dec]; simpa using hc
          have hF : Hid (r = true) := by show _ = _; rw [HD.out]; simp [hc]
          clear hc HD
          go_wp2_with fail
          go_ret
          exact ⟨ret_bool' hF.out.symm, unhide HB⟩

set_option maxRecDepth 100000 in
set_option maxHeartbeats 2000000 in
theorem isWelcomeOf_any (add : Int) (x : Wel) (w : World) (h1 : x.is.size ≤ maxLen) (h2 : x.ss.size ≤ maxLen) :
    Calls Tryz.prog 81 #[.int .i64 add, .agg #[.string x.key, .string x.ik, .string x.is, .string x.sk, .string x.ss]] w fun e w' => e = .returned (.bool (welB add x)) ∧ Below w.heap.size w w' := by
  have M : Hid (x.is.size ≤ maxLen ∧ x.ss.size ≤ maxLen) := ⟨h1, h2⟩
  clear h1 h2
  have HD : Hid (welB add x = if add = -1 then decide (x = Wel.none) else decide (x.ik = x.key) && decide (x.sk = x.key) && Kw.ok x.is && Kw.ok x.ss) := rfl
  obtain ⟨wk, ik, is, sk, ss⟩ := x
  simp only at M HD ⊢
  obtain ⟨r, hr⟩ : ∃ r, welB add ⟨wk, ik, is, sk, ss⟩ = r := ⟨_, rfl⟩
  rw [hr] at HD ⊢
  clear hr
  have HB0 : Hid (Below w.heap.size w (w.alloc (.cells #[.string wk, .string ik, .string is, .string sk, .string ss] 41))) := (Below.refl _ _).alloc (Nat.le_refl _) _
  have A0 := hide (Blk.new w 41 #[.string wk, .string ik, .string is, .string sk, .string ss])
  by_cases ha : add = -1
  · rw [if_pos ha, wel_dec] at HD
    have h2 : (add == -1) = true := by simpa using ha
    clear ha
    go_enter Tryz.func81, Tryz.ntmps81
    go_wp2_with fail
    all_goals
      go_ret
      refine ⟨ret_bool' ?_, unhide HB0⟩
      rw [HD.out]
      simp [*]
  · rw [if_neg ha] at HD
    have h2 : (add == -1) = false := by simpa using ha
    clear ha
    by_cases h3 : ik = wk
    rotate_left
    · have hq : (ik.toList == wk.toList) = false := by rw [str_dec]; simpa using h3
      have hF : Hid (r = false) := by show _ = _; rw [HD.out]; simp [h3]
      clear HD h3
      go_enter Tryz.func81, Tryz.ntmps81
      go_wp2_with fail
      go_ret
      exact ⟨ret_bool' hF.out.symm, unhide HB0⟩
    have hq : (ik.toList == wk.toList) = true := toList_eq.2 h3
    rw [show decide (ik = wk) = true by simpa using h3, Bool.true_and] at HD
    clear h3
    by_cases h3 : sk = wk
    rotate_left
    · have hq : (sk.toList == wk.toList) = false := by rw [str_dec]; simpa using h3
      have hF : Hid (r = false) := by show _ = _; rw [HD.out]; simp [h3]
      clear HD h3
      go_enter Tryz.func81, Tryz.ntmps81
      go_wp2_with fail
      go_ret
      exact ⟨ret_bool' hF.out.symm, unhide HB0⟩
    have hq2 : (sk.toList == wk.toList) = true := toList_eq.2 h3
    rw [show decide (sk = wk) = true by simpa using h3, Bool.true_and] at HD
    clear h3
    go_enter Tryz.func81, Tryz.ntmps81
    go_wp2_with fail
    refine (iSecOk_any is _ M.out.1).mono ?_
    generalize Kw.ok is = b1 at *
    cases b1 with
    | false =>
      rintro e w1 ⟨rfl, hb⟩
      have HB := hide (HB0.out.trans (hb.mono HB0.out.size))
      clear hb
      go_wp2_with fail
      go_ret
      exact ⟨ret_bool' HD.out.symm, unhide HB⟩
    | true =>
      rintro e w1 ⟨rfl, hb⟩
      have HB := hide (HB0.out.trans (hb.mono HB0.out.size))
      have c4 := ((unhide A0).below hb).cell 4
      simp only [List.getElem?_toArray, List.getElem?_cons_succ, List.getElem?_cons_zero] at c4
      clear hb
      go_wp2_with fail
      refine (iSecOk_any ss _ M.out.2).mono ?_
      rw [Bool.true_and] at HD
      rw [← HD.out]
      rintro e w2 ⟨rfl, hb⟩
      replace HB := hide (HB.out.trans (hb.mono HB.out.size))
      clear hb
      go_wp2_with fail
      go_ret
      exact ⟨rfl, unhide HB⟩
#print axioms areKeysOf_any
#print axioms isWelcomeOf_any
end Go.Proofs.YteiojanamkndmaaGreat
/-
  errors.Join: none, if all are none; else one that holds all that are not.
-/
namespace Go.Proofs.YteiojanamkndmaaGreat
open Go.RowKit

/-- Whether a fault is one. -/
def isF : Value → Bool
  | .nilIface => false
  | _ => true
/-- A value of type error. -/
def ErrV (v : Value) : Prop := v = .nilIface ∨ ∃ t x, v = .iface t x
def anyF (es : List Value) : Bool := es.any isF
/-- A slice holds these faults. -/
def ERow (w : World) (v : Value) (es : List Value) : Prop :=
  ∃ (a : Addr) (cap : Nat), v = .slice (some a) es.length cap ∧ es.length ≤ cap ∧ cap ≤ maxLen ∧ ∀ i, i < es.length → w.cell? (a.add i) = some (es.getD i .nilIface)
theorem ERow.below {w w' : World} {v : Value} {xs : List Value} (h : ERow w v xs) (hb : Below w.heap.size w w') : ERow w' v xs := by
  obtain ⟨a, cap, h1, h2, h3, h4⟩ := h
  exact ⟨a, cap, h1, h2, h3, fun i hi => (hb.cell (p := a.add i) (cell_lt (h4 i hi))).trans (h4 i hi)⟩
/-- How many of the first are faults, and which. -/
def cntF (es : List Value) (k : Nat) : Nat := ((es.take k).filter isF).length
theorem cntF_le (es : List Value) (k : Nat) : cntF es k ≤ k := by
  unfold cntF
  have h1 := List.length_filter_le isF (es.take k)
  have h2 := List.length_take_le k es
  omega
theorem takeF {es : List Value} {k : Nat} (h : k < es.length) : (es.take (k + 1)).filter isF = (es.take k).filter isF ++ (if isF (es.getD k .nilIface) then [es.getD k .nilIface] else []) := by
  rw [List.take_succ_eq_append_getElem h, List.filter_append]
  have hq : es.getD k .nilIface = es[k] := by rw [List.getD_eq_getElem?_getD, List.getElem?_eq_getElem h]; rfl
  rw [hq]
  cases hb : isF es[k] <;> simp [hb]
theorem cntF_yes {es : List Value} {k : Nat} (h : k < es.length) (hf : isF (es.getD k .nilIface) = true) : cntF es (k + 1) = cntF es k + 1 := by
  unfold cntF; rw [takeF h, if_pos hf]; simp
theorem cntF_no {es : List Value} {k : Nat} (h : k < es.length) (hf : isF (es.getD k .nilIface) = false) : cntF es (k + 1) = cntF es k := by
  unfold cntF; rw [takeF h, if_neg (by rw [hf]; simp)]; simp
theorem anyF_cnt (es : List Value) : anyF es = decide (0 < cntF es es.length) := by
  unfold anyF cntF
  rw [List.take_length, Bool.eq_iff_iff, decide_eq_true_eq, List.length_pos_iff_exists_mem, List.any_eq_true]
  simp [List.mem_filter]
theorem info_err : (Tryz.prog.info? 67).map (fun i => (i.zero, i.size, i.bytes)) = some (some .nilIface, 1, 16) := by kernel_rfl
theorem info_partsE {t : TypeId} {z : Value} {s b : Nat} (h : (Tryz.prog.info? t).map (fun i => (i.zero, i.size, i.bytes)) = some (some z, s, b)) : ∃ i0, Tryz.prog.info? t = some i0 ∧ i0.zero = some z ∧ i0.size = s ∧ i0.bytes = b := by
  cases hi : Tryz.prog.info? t with
  | none => rw [hi] at h; cases h
  | some i0 => rw [hi] at h; simp at h; exact ⟨i0, rfl, h.1, h.2.1, h.2.2⟩

theorem one_newS' (w : World) (x : Value) (t : TypeId) : ∀ j u, [x][j]? = some u → (w.alloc (.cells #[x] t)).cell? (Addr.add ⟨w.heap.size, 0, none⟩ j) = some u := by
  intro j u hj
  match j, hj with
  | 0, hj => simp at hj; subst hj; simp [Addr.add, go_sem]
/-- What Join answers. -/
def JoinPost (w : World) (es : List Value) (e : Ending) (w' : World) : Prop :=
  Below w.heap.size w w' ∧ ((anyF es = false ∧ e = .returned .nilIface) ∨ (anyF es = true ∧ ∃ p sl, e = .returned (.iface 105 (.pointer (some ⟨p, 0, none⟩))) ∧ w.heap.size ≤ p ∧ Boxed w' p 107 sl ∧ w'.ownsRow w.heap.size 67 1 sl (cntF es es.length) (es.filter isF)))

set_option maxRecDepth 100000 in
set_option maxHeartbeats 2000000 in
theorem join_any (v : Value) (es : List Value) (w : World) (h : ERow w v es) (hx : ∀ x ∈ es, ErrV x) (hl : es.length ≤ 1000) :
    Calls Tryz.prog 52 #[v] w fun e w' => JoinPost w es e w' := by
  have hR := hide h
  have hX := hide hx
  obtain ⟨a, cap, rfl, h1, h2, h3⟩ := h
  unfold maxLen at h2
  clear hx h3
  obtain ⟨i0, hi, hz0, hz1, hz2⟩ := info_partsE info_err
  have hI := hide (And.intro hi (And.intro hz0 (And.intro hz1 hz2)))
  clear hi hz0 hz1 hz2
  go_enter Tryz.func52, Tryz.ntmps52
  go_wp2_with fail
  go_loop [3, 5, 11] (fun n _ i => ∃ k : Nat, k ≤ es.length ∧ i = .int .i64 (k : Int) ∧ n = .int .i64 ((cntF es k : Nat) : Int)) (fun _ _ i => es.length - (intOf i).toNat)
  case atStart => exact ⟨0, by omega, rfl, rfl⟩
  case round =>
    obtain ⟨k, hk, rfl, rfl⟩ := hrel
    have hcl := cntF_le es k
    by_cases hlt : k < es.length
    · have hlt2 : (k : Int) < (es.length : Int) := by omega
      have i3 : IntKind.i64.wrap ((k : Int) + 1) = (k : Int) + 1 := by simp [IntKind.wrap, IntKind.bits, IntKind.signed]; omega
      have i4 : IntKind.i64.wrap ((cntF es k : Int) + 1) = (cntF es k : Int) + 1 := by simp [IntKind.wrap, IntKind.bits, IntKind.signed]; omega
      obtain ⟨a', c1, q1, _, _, q2⟩ := unhide hR
      simp only [Value.slice.injEq, Option.some.injEq] at q1
      obtain ⟨rfl, _, rfl⟩ := q1
      have hck := q2 k hlt
      clear q2
      have hmem : es.getD k .nilIface ∈ es := by
        rw [List.getD_eq_getElem?_getD, List.getElem?_eq_getElem hlt]; exact List.getElem_mem hlt
      have hE := hide (hX.out _ hmem)
      have HY : Hid (isF (es.getD k .nilIface) = true → cntF es (k + 1) = cntF es k + 1) := cntF_yes hlt
      have HN : Hid (isF (es.getD k .nilIface) = false → cntF es (k + 1) = cntF es k) := cntF_no hlt
      clear hmem
      generalize es.getD k .nilIface = y at hck hE HY HN
      rcases unhide hE with rfl | ⟨t, x, rfl⟩
      · have HC := hide (HN.out rfl)
        clear HY HN hE
        go_wp2_with fail
        go_round
        case rel => exact ⟨k + 1, by omega, by simp, by rw [HC.out]⟩
        case measure => simp [intOf]; omega
      · have HC := hide (HY.out rfl)
        clear HY HN hE
        go_wp2_with fail
        go_round
        case rel => exact ⟨k + 1, by omega, by simp, by rw [HC.out]; simp⟩
        case measure => simp [intOf]; omega
    · have hlt2 : decide ((k : Int) < (es.length : Int)) = false := by simp; omega
      obtain rfl : k = es.length := by omega
      have HA := hide (anyF_cnt es)
      by_cases hz : cntF es es.length = 0
      · have hF : Hid (anyF es = false) := by show _ = _; rw [HA.out, hz]; rfl
        rw [hz] at hcl ⊢
        clear HA hz
        go_wp2_with fail
        go_ret
        exact ⟨Below.refl _ _, .inl ⟨hF.out, rfl⟩⟩
      · have hF : Hid (anyF es = true) := by show _ = _; rw [HA.out]; simp; omega
        obtain ⟨n, hn⟩ : ∃ n, cntF es es.length = n := ⟨_, rfl⟩
        have HN := hide hn
        rw [hn] at hcl hz ⊢
        clear hn HA
        have hz1 : ((n : Int) == 0) = false := by simp; omega
        have hB2 : Hid (i0.bytes * n ≤ 281474976710656) := by show _ ≤ _; rw [hI.out.2.2.2]; omega
        go_wp2_with (at_make; refine wpList_make_own _ rfl _ _ 104 rfl w.heap.size 67 i0 .nilIface 1 Tryz.underlying104 (unhide hI).1 (unhide hI).2.1 (unhide hI).2.2.1 _ _ _ n rfl rfl rfl (unhide hB2) (by unfold maxLen; omega) (Nat.le_refl _) ?_)
        intro w1 hown hgrow
        have B1 := hide (Boxed.new w1 107 (.slice (some ⟨w.heap.size, 0, none⟩) 0 n))
        have R1 := hide (World.ownsRow.alloc hown (.cells #[.slice (some ⟨w.heap.size, 0, none⟩) 0 n] 107))
        have L0 : Below w.heap.size w w1 := (Below.refl _ _).grown hgrow (Nat.le_refl _) (fun k hk => by cases hk)
        have hs1 := L0.size
        have L1 := hide (L0.alloc hs1 (.cells #[.slice (some ⟨w.heap.size, 0, none⟩) 0 n] 107))
        have HP : Hid (w.heap.size ≤ w1.heap.size) := hs1
        clear hown hgrow L0
        go_wp2_with fail
        go_loopw [8, 28] (fun _ i wr => ∃ (k : Nat) (sl : Value), k ≤ es.length ∧ i = .int .i64 (k : Int) ∧ Hid (wr.ownsRow w.heap.size 67 1 sl (cntF es k) ((es.take k).filter isF)) ∧ Hid (Boxed wr w1.heap.size 107 sl) ∧ Hid (Below w.heap.size w wr)) (fun _ i _ => es.length - (intOf i).toNat)
        case atStart => exact ⟨0, _, by omega, rfl, R1, B1, L1⟩
        case round =>
          clear R1 B1 L1
          obtain ⟨k, sl, hk, rfl, hR2, hB, hL⟩ := hrel
          have hle := hL.out.size
          by_cases hlt : k < es.length
          · have hlt2 : (k : Int) < (es.length : Int) := by omega
            have i3 : IntKind.i64.wrap ((k : Int) + 1) = (k : Int) + 1 := by simp [IntKind.wrap, IntKind.bits, IntKind.signed]; omega
            obtain ⟨a', c1, q1, _, _, q2⟩ := (unhide hR).below (unhide hL)
            simp only [Value.slice.injEq, Option.some.injEq] at q1
            obtain ⟨rfl, _, rfl⟩ := q1
            have hck := q2 k hlt
            clear q2
            have hmem : es.getD k .nilIface ∈ es := by
              rw [List.getD_eq_getElem?_getD, List.getElem?_eq_getElem hlt]; exact List.getElem_mem hlt
            have hE := hide (hX.out _ hmem)
            have HY : Hid (isF (es.getD k .nilIface) = true → cntF es (k + 1) = cntF es k + 1) := cntF_yes hlt
            have HN2 : Hid (isF (es.getD k .nilIface) = false → cntF es (k + 1) = cntF es k) := cntF_no hlt
            have HT := hide (takeF hlt)
            clear hmem
            generalize es.getD k .nilIface = y at hck hE HY HN2 HT
            rcases unhide hE with rfl | ⟨t, x, rfl⟩
            · have HC := hide (HN2.out rfl)
              have HT2 : Hid ((es.take (k + 1)).filter isF = (es.take k).filter isF) := by show _ = _; rw [HT.out]; simp [isF]
              clear HY HN2 hE HT
              go_wp2_with fail
              go_roundw
              case rel => exact ⟨k + 1, sl, by omega, by simp, by rw [HC.out, HT2.out]; exact hR2, hB, hL⟩
              case measure => simp [intOf]; omega
            · have HC := hide (HY.out rfl)
              have HT2 : Hid ((es.take (k + 1)).filter isF = (es.take k).filter isF ++ [.iface t x]) := by show _ = _; rw [HT.out]; simp [isF]
              clear HY HN2 hE HT
              have c0 := hB.out.cell
              obtain ⟨so, sc, rfl⟩ := row_form' hR2.out
              have hcl2 := cntF_le es k
              go_wp2_with (at_builtin; refine wpList_append_own _ rfl _ _ 104 rfl w.heap.size 67 i0 .nilIface 1 16 Tryz.underlying104 (unhide hI).1 (unhide hI).2.1 (unhide hI).2.2.1 (unhide hI).2.2.2 rfl (by decide) _ _ _ rfl (World.ownsRow.alloc (unhide hR2) _) ⟨wr.heap.size, 0, none⟩ 1 1 [.iface t x] rfl rfl (one_newS' _ _ _) (by simp [Value.oneCell']) (by unfold maxLen; omega) (by omega) (by simp; omega) ?_)
              intro v' w3 hown' hgrow _
              have b2 := box_grown ((unhide hB).alloc (.cells #[.iface t x] 67)) (World.ownsRow.alloc (unhide hR2) (.cells #[.iface t x] 67)) (by decide) hgrow
              have c1 := b2.cell
              have f1 := b2.frozen
              have l3 : Below w.heap.size w w3 := ((unhide hL).alloc hle _).grown hgrow (by simp; omega) (fun k hk => (World.ownsRow.lt (unhide hR2) k hk).1)
              obtain ⟨vo, vc, rfl⟩ := row_form' hown'
              have R3 := hide (row_box hown' b2 (by decide) (.slice vo (cntF es k + 1) vc))
              have B3 := hide (Boxed.set (.slice vo (cntF es k + 1) vc) b2)
              have L3 := hide (below_box l3 HP.out (.slice vo (cntF es k + 1) vc))
              clear hown' hgrow b2 l3 hR2 hB hL c0
              go_wp2_with fail
              go_roundw
              case rel => exact ⟨k + 1, _, by omega, by simp, by rw [HC.out, HT2.out]; exact R3, B3, L3⟩
              case measure => simp [intOf]; omega
          · have hlt2 : decide ((k : Int) < (es.length : Int)) = false := by simp; omega
            obtain rfl : k = es.length := by omega
            rw [List.take_length] at hR2
            go_wp2_with fail
            go_ret
            exact ⟨unhide hL, .inr ⟨hF.out, _, _, rfl, HP.out, unhide hB, unhide hR2⟩⟩
#print axioms join_any
end Go.Proofs.YteiojanamkndmaaGreat
/-
  A slice of faults that a call makes.
-/
namespace Go.Proofs.YteiojanamkndmaaGreat
open Go.RowKit

theorem ErrV.cells {v : Value} (h : ErrV v) : v.cells = #[v] := by rcases h with rfl | ⟨t, x, rfl⟩ <;> rfl
theorem fill_ones : ∀ (parts : List (Nat × Value)) (cells : Array Value), (∀ p ∈ parts, ErrV p.2 ∧ p.1 < cells.size) →
    Instr.fill (fun i => some (i * 1, 1)) cells parts = some (parts.foldl (fun cs p => cs.setIfInBounds p.1 p.2) cells)
  | [], _, _ => rfl
  | (i, v) :: rest, cells, h => by
    have h1 := h (i, v) (by simp)
    have hc := h1.1.cells
    have h2 := h1.2
    simp only at hc h2
    rw [Instr.fill]
    simp only [hc]
    rw [if_neg (by simp; omega)]
    have e : (#[v].zipIdx.foldl (fun cs (x : Value × Nat) => cs.setIfInBounds (i * 1 + x.2) x.1) cells) = cells.setIfInBounds i v := by simp
    rw [e, fill_ones rest _ (fun p hp => by
      have := h p (by simp [hp])
      simpa using this)]
    rfl
theorem run_errs (n : Nat) (hn : n < 1000) (parts : Array (Nat × Value)) (cells : Array Value) (w : World) (h : Instr.fill (fun i => some (i * 1, 1)) (Array.replicate n .nilIface) parts.toList = some cells) (h0 : 0 < n) :
    (Instr.buildSlice 104 n parts).run Tryz.prog w = .ok (.slice (some ⟨w.heap.size, 0, none⟩) n n) (w.alloc (.cells cells 67)) := by
  have hr : (Array.map (fun x => [Value.nilIface][x % 1]?.getD default) (Array.range n)) = Array.replicate n .nilIface := by
    apply Array.ext
    · simp
    · intro i h1 h2; simp [Nat.mod_one]
  simp only [Nat.mul_one] at h
  unfold Instr.buildSlice
  simp [go_sem]
  rw [if_neg (by omega), if_neg (by omega), hr, h]
  simp [go_sem]
theorem wp_build {P : Program} {o : Oper} {a : Act} {w w' : World} {K : Act → World → Prop} {Q : Exit → Act → World → Prop} {t n : Nat} {parts : Array (Nat × Operand)} {ps : Array (Nat × Value)} {v : Value}
    (ho : o.op = .buildSlice t n parts) (hp : (parts.map fun (x : Nat × Operand) => (x.1, a.eval x.2)) = ps) (hr : (Instr.buildSlice t n ps).run P w = .ok v w') (hK : K (a.put o.dst v) w') : o.wp P a w K Q := by
  unfold Oper.wp execOp
  simp only [ho, hp, Sem.run_bind, Sem.run_pure, Result.andThen_ok, hr]
  exact hK
theorem run_errs2 {v1 v2 : Value} (h1 : ErrV v1) (h2 : ErrV v2) (w : World) : (Instr.buildSlice 104 2 #[(0, v1), (1, v2)]).run Tryz.prog w = .ok (.slice (some ⟨w.heap.size, 0, none⟩) 2 2) (w.alloc (.cells #[v1, v2] 67)) := by
  refine run_errs 2 (by omega) _ #[v1, v2] w ?_ (by omega)
  have e := fill_ones [(0, v1), (1, v2)] (Array.replicate 2 .nilIface) (by
    simp only [List.mem_cons, List.not_mem_nil, or_false, forall_eq_or_imp, forall_eq, Array.size_replicate]
    exact ⟨⟨h1, by omega⟩, ⟨h2, by omega⟩⟩)
  refine e.trans (congrArg some ?_)
  simp only [List.foldl_cons, List.foldl_nil]
  simp [Array.replicate_succ]
theorem erow2 {v1 v2 : Value} (w : World) : ERow (w.alloc (.cells #[v1, v2] 67)) (.slice (some ⟨w.heap.size, 0, none⟩) 2 2) [v1, v2] :=
  ⟨_, 2, rfl, Nat.le_refl _, by unfold maxLen; omega, fun i hi => by
    have := (Blk.new w 67 #[v1, v2]).cell i
    rw [Addr.add_lit, Nat.zero_add, this]
    rw [List.getD_eq_getElem?_getD, List.getElem?_eq_getElem hi]
    simp ⟩
theorem run_errs4 {v1 v2 v3 v4 : Value} (h1 : ErrV v1) (h2 : ErrV v2) (h3 : ErrV v3) (h4 : ErrV v4) (w : World) : (Instr.buildSlice 104 4 #[(0, v1), (1, v2), (2, v3), (3, v4)]).run Tryz.prog w = .ok (.slice (some ⟨w.heap.size, 0, none⟩) 4 4) (w.alloc (.cells #[v1, v2, v3, v4] 67)) := by
  refine run_errs 4 (by omega) _ #[v1, v2, v3, v4] w ?_ (by omega)
  have e := fill_ones [(0, v1), (1, v2), (2, v3), (3, v4)] (Array.replicate 4 .nilIface) (by
    simp only [List.mem_cons, List.not_mem_nil, or_false, forall_eq_or_imp, forall_eq, Array.size_replicate]
    exact ⟨⟨h1, by omega⟩, ⟨h2, by omega⟩, ⟨h3, by omega⟩, ⟨h4, by omega⟩⟩)
  refine e.trans (congrArg some ?_)
  simp only [List.foldl_cons, List.foldl_nil]
  simp [Array.replicate_succ]
theorem erow4 {v1 v2 v3 v4 : Value} (w : World) : ERow (w.alloc (.cells #[v1, v2, v3, v4] 67)) (.slice (some ⟨w.heap.size, 0, none⟩) 4 4) [v1, v2, v3, v4] :=
  ⟨_, 4, rfl, Nat.le_refl _, by unfold maxLen; omega, fun i hi => by
    have := (Blk.new w 67 #[v1, v2, v3, v4]).cell i
    rw [Addr.add_lit, Nat.zero_add, this]
    rw [List.getD_eq_getElem?_getD, List.getElem?_eq_getElem hi]
    simp ⟩
theorem run_errs6 {v1 v2 v3 v4 v5 v6 : Value} (h1 : ErrV v1) (h2 : ErrV v2) (h3 : ErrV v3) (h4 : ErrV v4) (h5 : ErrV v5) (h6 : ErrV v6) (w : World) : (Instr.buildSlice 104 6 #[(0, v1), (1, v2), (2, v3), (3, v4), (4, v5), (5, v6)]).run Tryz.prog w = .ok (.slice (some ⟨w.heap.size, 0, none⟩) 6 6) (w.alloc (.cells #[v1, v2, v3, v4, v5, v6] 67)) := by
  refine run_errs 6 (by omega) _ #[v1, v2, v3, v4, v5, v6] w ?_ (by omega)
  have e := fill_ones [(0, v1), (1, v2), (2, v3), (3, v4), (4, v5), (5, v6)] (Array.replicate 6 .nilIface) (by
    simp only [List.mem_cons, List.not_mem_nil, or_false, forall_eq_or_imp, forall_eq, Array.size_replicate]
    exact ⟨⟨h1, by omega⟩, ⟨h2, by omega⟩, ⟨h3, by omega⟩, ⟨h4, by omega⟩, ⟨h5, by omega⟩, ⟨h6, by omega⟩⟩)
  refine e.trans (congrArg some ?_)
  simp only [List.foldl_cons, List.foldl_nil]
  simp [Array.replicate_succ]
theorem erow6 {v1 v2 v3 v4 v5 v6 : Value} (w : World) : ERow (w.alloc (.cells #[v1, v2, v3, v4, v5, v6] 67)) (.slice (some ⟨w.heap.size, 0, none⟩) 6 6) [v1, v2, v3, v4, v5, v6] :=
  ⟨_, 6, rfl, Nat.le_refl _, by unfold maxLen; omega, fun i hi => by
    have := (Blk.new w 67 #[v1, v2, v3, v4, v5, v6]).cell i
    rw [Addr.add_lit, Nat.zero_add, this]
    rw [List.getD_eq_getElem?_getD, List.getElem?_eq_getElem hi]
    simp ⟩
theorem run_errs9 {v1 v2 v3 v4 v5 v6 v7 v8 v9 : Value} (h1 : ErrV v1) (h2 : ErrV v2) (h3 : ErrV v3) (h4 : ErrV v4) (h5 : ErrV v5) (h6 : ErrV v6) (h7 : ErrV v7) (h8 : ErrV v8) (h9 : ErrV v9) (w : World) : (Instr.buildSlice 104 9 #[(0, v1), (1, v2), (2, v3), (3, v4), (4, v5), (5, v6), (6, v7), (7, v8), (8, v9)]).run Tryz.prog w = .ok (.slice (some ⟨w.heap.size, 0, none⟩) 9 9) (w.alloc (.cells #[v1, v2, v3, v4, v5, v6, v7, v8, v9] 67)) := by
  refine run_errs 9 (by omega) _ #[v1, v2, v3, v4, v5, v6, v7, v8, v9] w ?_ (by omega)
  have e := fill_ones [(0, v1), (1, v2), (2, v3), (3, v4), (4, v5), (5, v6), (6, v7), (7, v8), (8, v9)] (Array.replicate 9 .nilIface) (by
    simp only [List.mem_cons, List.not_mem_nil, or_false, forall_eq_or_imp, forall_eq, Array.size_replicate]
    exact ⟨⟨h1, by omega⟩, ⟨h2, by omega⟩, ⟨h3, by omega⟩, ⟨h4, by omega⟩, ⟨h5, by omega⟩, ⟨h6, by omega⟩, ⟨h7, by omega⟩, ⟨h8, by omega⟩, ⟨h9, by omega⟩⟩)
  refine e.trans (congrArg some ?_)
  simp only [List.foldl_cons, List.foldl_nil]
  simp [Array.replicate_succ]
theorem erow9 {v1 v2 v3 v4 v5 v6 v7 v8 v9 : Value} (w : World) : ERow (w.alloc (.cells #[v1, v2, v3, v4, v5, v6, v7, v8, v9] 67)) (.slice (some ⟨w.heap.size, 0, none⟩) 9 9) [v1, v2, v3, v4, v5, v6, v7, v8, v9] :=
  ⟨_, 9, rfl, Nat.le_refl _, by unfold maxLen; omega, fun i hi => by
    have := (Blk.new w 67 #[v1, v2, v3, v4, v5, v6, v7, v8, v9]).cell i
    rw [Addr.add_lit, Nat.zero_add, this]
    rw [List.getD_eq_getElem?_getD, List.getElem?_eq_getElem hi]
    simp ⟩
#print axioms run_errs
end Go.Proofs.YteiojanamkndmaaGreat
