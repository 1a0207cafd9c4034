/-
  The program opens all boxes that can be opened: the contract.
-/
import Derived.Test.YtjdpabiodalfkaaRnd2
import Derived.Test.YtjdpabiodalfkaaOpen3
namespace Go.Proofs.Ytjdpabiodalfkaa
open Go.RowKit

/-- What the slots of the statement hold that puts one box into the queue. -/
def TBox (xb : Nat) (key secret : ByteArray) (d : Nat) (u : Value) (w : World) : Prop :=
  match d with
  | 17 => u = .pointer (some ⟨xb, 0, none⟩)
  | 18 => u = .string key
  | 19 => ∃ f, u = .agg #[.string key, f] ∧ Item.ok w ⟨key, f, secret⟩
  | 20 => u = .pointer (some ⟨xb, 1, none⟩)
  | 21 => u = .string secret
  | 22 => ∃ f, u = .agg #[.string key, f, .string secret] ∧ Item.ok w ⟨key, f, secret⟩
  | _ => True
theorem TBox.below {xb : Nat} {key secret : ByteArray} {d : Nat} {u : Value} {w w' : World} (h : TBox xb key secret d u w) (hb : Below w.heap.size w w') : TBox xb key secret d u w' := by
  unfold TBox at *
  split at h
  all_goals first
    | exact h
    | (obtain ⟨f, h1, h2⟩ := h; exact ⟨f, h1, h2.below hb⟩)

/-- Nothing that was there has turned. -/
def JBox (wx : World) (_ : Bool) (u : World) : Prop := Below wx.heap.size wx u

theorem okm {s : ByteArray} (h : Kw.ok s = true) : s.size ≤ maxLen := by
  have := (ok_facts h).1
  unfold maxLen; omega

/-- The set and the queue, and a block of the call's own that is not theirs, while boxes are put into the queue. -/
def Fill (w : World) (ab bm qb : Nat) (u : Value) (L : List ByteArray) (bs : List Bx) (k : Nat) (wr : World) : Prop :=
  ∃ v xs, SetAt (w.heap.size + 1) wr ab bm u L ∧ QAt (w.heap.size + 1) wr qb v xs ∧ xs.map bx = bs.take k ∧ wr.heap[w.heap.size]? = some (.cells #[.map none, .slice none 0 0] 66 (0, 0)) ∧ Below w.heap.size w wr ∧ w.heap.size + 1 ≤ ab ∧ w.heap.size + 1 ≤ qb

def AllPost (xs : List ByteArray) (bs : List Bx) (w : World) (e : Ending) (w' : World) : Prop := ∃ bm v L, e = .returned (.agg #[.map (some bm), v]) ∧ SetV w.heap.size w' bm v L ∧ Opened xs bs L ∧ Below w.heap.size w w'

/-- How long the set's list is. -/
def setLen (ab : Nat) (w : World) : Nat := match w.cell? ⟨ab, 1, none⟩ with | some v => lenOf v | none => 0
theorem SetAt.len {B : Nat} {w : World} {ab bm : Nat} {v : Value} {L : List ByteArray} (h : SetAt B w ab bm v L) : setLen ab w = L.length := by
  unfold setLen
  rw [h.c1]
  exact h.2.own.len

/-- What holds while rounds go on. -/
def Runs (w : World) (ab bm qb : Nat) (xs : List ByteArray) (bs : List Bx) (wr : World) : Prop :=
  ∃ u v L ys N, SetAt (w.heap.size + 1) wr ab bm u L ∧ QAt (w.heap.size + 1) wr qb v ys ∧ L = Nat.repeat (bfold bs) N (dedup xs) ∧ Drops L (ys.map bx) bs ∧ L.length + missing bs L ≤ 800 ∧ ys.length ≤ 400 ∧ (∀ y ∈ ys, Kw.ok y.key = true ∧ y.secret.size ≤ maxLen) ∧
    wr.heap[w.heap.size]? = some (.cells #[.map none, .slice none 0 0] 66 (0, 0)) ∧ Below w.heap.size w wr ∧ w.heap.size + 1 ≤ ab ∧ w.heap.size + 1 ≤ qb

theorem items_ok {ys : List Item} {bs : List Bx} (h : ys.map bx = bs) (hb : okBoxes bs = true) : ∀ y ∈ ys, Kw.ok y.key = true ∧ y.secret.size ≤ maxLen := by
  intro y hy
  have hm : bx y ∈ bs := by rw [← h]; exact List.mem_map_of_mem hy
  have := (okBoxes_iff.1 hb).2 _ hm
  exact ⟨this.1, okm this.2⟩

set_option maxRecDepth 100000 in
set_option maxHeartbeats 4000000 in
theorem openAll_any (v0 v1 : Value) (xs : List ByteArray) (bs : List Bx) (w : World) (h : SRow w v0 xs) (hB : BRow w v1 bs) (hx : okAll xs = true) (hbs : okBoxes bs = true) :
    Calls Try.prog 60 #[v0, v1] w (AllPost xs bs w) := by
  have HR := hide h
  have HB := hide hB
  have HX := hide hx
  have HBS := hide hbs
  obtain ⟨bo, cap, hv1, _, _, _⟩ := hB
  subst hv1
  clear h hx hbs
  go_enter Try.func60, Try.ntmps60
  go_wp2_with fail
  have hba : Below w.heap.size w (w.alloc (.cells #[.map none, .slice none 0 0] 66)) := (Below.refl _ _).alloc (Nat.le_refl _) _
  have hres : (w.alloc (.cells #[.map none, .slice none 0 0] 66)).heap[w.heap.size]? = some (.cells #[.map none, .slice none 0 0] 66 (0, 0)) := heap_alloc_new _ _
  have HBA := hide (And.intro hba hres)
  clear hba hres
  refine (setOf_any v0 xs _ (SRow.below (unhide HR) HBA.out.1) (fun x hx => okm ((okAll_iff.1 HX.out).2 x hx)) (okAll_iff.1 HX.out).1).mono ?_
  rintro e w1 ⟨bm, u, rfl, hV, hb1⟩
  have hle1 : w.heap.size + 1 ≤ w1.heap.size := by have := hb1.size; simpa using this
  obtain ⟨uo, uc, hu⟩ := hV.own.form
  have hF0 : Hid (Fill w w1.heap.size bm (w1.heap.size + 1) u (dedup xs) bs 0 ((w1.alloc (.cells #[.map (some bm), u] 66)).alloc (.cells #[.slice none 0 0] 114))) := by
    have hb2 : Below w1.heap.size w1 ((w1.alloc (.cells #[.map (some bm), u] 66)).alloc (.cells #[.slice none 0 0] 114)) := ((Below.refl _ _).alloc (Nat.le_refl _) _).alloc (by simp) _
    have hV' : SetV (w.heap.size + 1) w1 bm u (dedup xs) := by simpa using hV
    refine ⟨.slice none 0 0, [], ⟨(two_new _ _ _).2, hV'.below hb2⟩, ⟨(two_new _ _ _).1, ownsAt_nil _ _ _ _, fun x hx => by cases hx⟩, rfl, ?_, ?_, hle1, by omega⟩
    · rw [hb2.block _ (by omega), hb1.block _ (by simp)]; exact HBA.out.2
    · exact (HBA.out.1.trans (hb1.mono (by simp))).trans (hb2.mono (by omega))
  subst hu
  have hbl := (okBoxes_iff.1 HBS.out).1
  clear hV hb1
  go_wp2_with fail
  go_loopw [13] (fun i wr => ∃ k : Nat, k ≤ bs.length ∧ i = .int .i64 (k : Int) ∧ Hid (Fill w w1.heap.size bm (w1.heap.size + 1) (.slice uo (dedup xs).length uc) (dedup xs) bs k wr)) (fun i _ => bs.length - (intOf i).toNat)
  case atStart => exact ⟨0, by omega, rfl, hF0⟩
  case round =>
    clear hF0
    obtain ⟨k, hk, rfl, hF⟩ := hrel
    by_cases hlt : k < bs.length
    · have hlt2 : (k : Int) < (bs.length : Int) := by omega
      have i3 : IntKind.i64.wrap ((k : Int) + 1) = (k : Int) + 1 := by simp [IntKind.wrap, IntKind.bits, IntKind.signed]; omega
      obtain ⟨v, ys, f1, f2, f3, f4, f5, f6, f7⟩ := hF.out
      obtain ⟨bo', c1, q1, _, _, q2⟩ := BRow.below (unhide HB) f5
      simp only [Value.slice.injEq] at q1
      obtain ⟨rfl, z1, rfl⟩ := q1
      clear z1
      obtain ⟨a, rfl, hca, hcb⟩ := q2 k hlt
      rw [add_one] at hcb
      clear q2
      have hbk : Hid (Kw.ok (bs.getD k noBx).1 = true ∧ Kw.ok (bs.getD k noBx).2 = true) := (okBoxes_iff.1 HBS.out).2 _ (getB_mem hlt)
      have htk : Hid (bs.take (k + 1) = bs.take k ++ [bs.getD k noBx]) := by
        show _ = _
        rw [List.take_succ_eq_append_getElem hlt, List.getD_eq_getElem?_getD, List.getElem?_eq_getElem hlt]; rfl
      have hyl : ys.length ≤ 1000 := by
        have := congrArg List.length f3
        simp at this; omega
      generalize bs.getD k noBx = y at hca hcb hbk htk
      have H1 := hide f1
      have H2 := hide f2
      have H3 := hide f3
      have H4 := hide f4
      have H5 := hide f5
      have hsz5 := f5.size
      have hq1 := f1.lt
      have hq2 := f2.lt
      clear f1 f2 f3 f4 f5 hF
      go_wp2_with fail
      have HBX : Hid (Below wr.heap.size wr (wr.alloc (.cells #[.string y.1, .string y.2] 42))) := (Below.refl _ _).alloc (Nat.le_refl _) _
      have HN : Hid ((wr.alloc (.cells #[.string y.1, .string y.2] 42)).heap[wr.heap.size]? = some (.cells #[.string y.1, .string y.2] 42 (0, 0))) := heap_alloc_new _ _
      have hszx : (wr.alloc (.cells #[.string y.1, .string y.2] 42)).heap.size = wr.heap.size + 1 := by simp
      generalize wr.alloc (.cells #[.string y.1, .string y.2] 42) = wx at *
      refine wp_region_end (by kernel_rfl) (TBox wr.heap.size y.1 y.2) (JBox wx) 27 0 (by kernel_rfl) (by kernel_rfl) (by kernel_rfl) (by decide) (by kernel_rfl) rfl (by decide) ?_ ?hops ?hlast
      · exact ⟨rfl, rfl, rfl, Nat.le_refl _, fun _ _ => rfl⟩
      case hops =>
        intro i o ac w2 b hi ho hKB hJ' _ hdep
        have hJ : Below wx.heap.size wx w2 := hJ'
        have hs2 := hJ.size
        have hi6 : i < 6 := hi
        have k8 : ac.tmps.getD 8 undef = .pointer (some ⟨wr.heap.size, 0, none⟩) := hKB.2.2 8 (by kernel_rfl)
        have hblk : w2.heap[wr.heap.size]? = some (.cells #[.string y.1, .string y.2] 42 (0, 0)) := by rw [hJ.block _ (by omega)]; exact HN.out
        have e0 : w2.cell? ⟨wr.heap.size, 0, none⟩ = some (.string y.1) := by rw [cell_of_row _ _ _ _ _ _ hblk]; rfl
        have e1 : w2.cell? ⟨wr.heap.size, 1, none⟩ = some (.string y.2) := by rw [cell_of_row _ _ _ _ _ _ hblk]; rfl
        have hJJ : Hid (JBox wx b w2) := hJ'
        clear hi hKB hJ hJ' hblk hca hcb
        match i, ho with
        | 0, ho =>
          simp at ho
          subst ho
          clear hdep
          go_simp
          exact ⟨_, rfl, rfl, unhide hJJ⟩
        | 1, ho =>
          simp at ho
          subst ho
          have t17 : ac.tmps.getD 17 undef = .pointer (some ⟨wr.heap.size, 0, none⟩) := hdep { on := 0, ground := .data } (by simp) rfl _ 17 rfl rfl
          clear hdep
          go_simp
          exact ⟨_, rfl, rfl, unhide hJJ⟩
        | 2, ho =>
          simp at ho
          subst ho
          have t18 : ac.tmps.getD 18 undef = .string y.1 := hdep { on := 1, ground := .data } (by simp) rfl _ 18 rfl rfl
          clear hdep
          go_simp
          refine (makingOf_any y.1.size y.1 (Nat.le_refl _) hbk.out.1 _).mono ?_
          rintro e w3 ⟨f, rfl, hf, hb3⟩
          go_simp
          exact ⟨_, rfl, ⟨f, rfl, _, _, hf, Nat.le_refl _⟩, fun d x _ h => h.below hb3, Below.trans (unhide hJJ) (hb3.mono hs2)⟩
        | 3, ho =>
          simp at ho
          subst ho
          clear hdep
          go_simp
          exact ⟨_, rfl, rfl, unhide hJJ⟩
        | 4, ho =>
          simp at ho
          subst ho
          have t20 : ac.tmps.getD 20 undef = .pointer (some ⟨wr.heap.size, 1, none⟩) := hdep { on := 3, ground := .data } (by simp) rfl _ 20 rfl rfl
          clear hdep
          go_simp
          exact ⟨_, rfl, rfl, unhide hJJ⟩
        | 5, ho =>
          simp at ho
          subst ho
          obtain ⟨f, t19, hfo⟩ : TBox wr.heap.size y.1 y.2 19 (ac.tmps.getD 19 undef) w2 := hdep { on := 2, ground := .data } (by simp) rfl _ 19 rfl rfl
          have t21 : ac.tmps.getD 21 undef = .string y.2 := hdep { on := 4, ground := .data } (by simp) rfl _ 21 rfl rfl
          obtain ⟨fo, fn, fc, hff⟩ := hfo.form
          simp only at hff
          subst hff
          have HFO := hide hfo
          clear hdep hfo
          have t19' : ac.tmps[19]?.getD undef = .agg #[.string y.1, .slice fo fn fc] := by rw [← t19]; simp
          have t21' : ac.tmps[21]?.getD undef = .string y.2 := by rw [← t21]; simp
          clear t19 t21
          go_simp
          exact ⟨_, rfl, ⟨_, rfl, unhide HFO⟩, unhide hJJ⟩
        | n + 6, ho => omega
      case hlast =>
        intro o ac w2 ho hKB hJ' hall
        have hJ : Below wx.heap.size wx w2 := hJ'
        clear hJ'
        obtain ⟨f, t22, hfo⟩ : TBox wr.heap.size y.1 y.2 22 (ac.tmps.getD 22 undef) w2 := hall 5 _ 22 (by decide) rfl rfl
        obtain ⟨fo, fn, fc, hff⟩ := hfo.form
        simp only at hff
        subst hff
        clear hall
        obtain ⟨h27, hdf, hkk⟩ := hKB
        have g0 : ac.tmps.getD 0 undef = v0 := hkk 0 (by kernel_rfl)
        have g1 : ac.tmps.getD 1 undef = .slice (some a) bs.length cap := hkk 1 (by kernel_rfl)
        have g2 : ac.tmps.getD 2 undef = undef := hkk 2 (by kernel_rfl)
        have g3 : ac.tmps.getD 3 undef = undef := hkk 3 (by kernel_rfl)
        have g4 : ac.tmps.getD 4 undef = .pointer (some ⟨w.heap.size, 0, none⟩) := hkk 4 (by kernel_rfl)
        have g5 : ac.tmps.getD 5 undef = .pointer (some ⟨w1.heap.size, 0, none⟩) := hkk 5 (by kernel_rfl)
        have g6 : ac.tmps.getD 6 undef = .pointer (some ⟨w1.heap.size + 1, 0, none⟩) := hkk 6 (by kernel_rfl)
        have g7 : ac.tmps.getD 7 undef = undef := hkk 7 (by kernel_rfl)
        have g9 : ac.tmps.getD 9 undef = v0 := hkk 9 (by kernel_rfl)
        have g10 : ac.tmps.getD 10 undef = .agg #[.map (some bm), .slice uo (dedup xs).length uc] := hkk 10 (by kernel_rfl)
        have g11 : ac.tmps.getD 11 undef = .slice (some a) bs.length cap := hkk 11 (by kernel_rfl)
        have g12 : ac.tmps.getD 12 undef = .int .i64 (bs.length : Int) := hkk 12 (by kernel_rfl)
        have g13 : ac.tmps.getD 13 undef = .int .i64 (k : Int) := hkk 13 (by kernel_rfl)
        have g25 : ac.tmps.getD 25 undef = undef := hkk 25 (by kernel_rfl)
        have g26 : ac.tmps.getD 26 undef = undef := hkk 26 (by kernel_rfl)
        clear hkk
        simp at ho
        subst ho
        obtain ⟨tmps, dfs⟩ := ac
        have hx := arr_expl 27 tmps h27
        simp only [List.range, List.range.loop, List.map] at hx
        change dfs = [] at hdf
        subst hdf
        change tmps.getD 0 undef = _ at g0
        change tmps.getD 1 undef = _ at g1
        change tmps.getD 2 undef = _ at g2
        change tmps.getD 3 undef = _ at g3
        change tmps.getD 4 undef = _ at g4
        change tmps.getD 5 undef = _ at g5
        change tmps.getD 6 undef = _ at g6
        change tmps.getD 7 undef = _ at g7
        change tmps.getD 9 undef = _ at g9
        change tmps.getD 10 undef = _ at g10
        change tmps.getD 11 undef = _ at g11
        change tmps.getD 12 undef = _ at g12
        change tmps.getD 13 undef = _ at g13
        change tmps.getD 25 undef = _ at g25
        change tmps.getD 26 undef = _ at g26
        change tmps.getD 22 undef = _ at t22
        rw [g0, g1, g2, g3, g4, g5, g6, g7, g9, g10, g11, g12, g13, g25, g26, t22] at hx
        rw [hx]
        clear g0 g1 g2 g3 g4 g5 g6 g7 g9 g10 g11 g12 g13 g25 g26 t22 h27
        generalize tmps.getD 8 undef = x8, tmps.getD 14 undef = x14, tmps.getD 15 undef = x15, tmps.getD 16 undef = x16, tmps.getD 17 undef = x17, tmps.getD 18 undef = x18, tmps.getD 19 undef = x19, tmps.getD 20 undef = x20, tmps.getD 21 undef = x21, tmps.getD 23 undef = x23, tmps.getD 24 undef = x24
        clear hx tmps
        have hbw2 : Below wr.heap.size wr w2 := (unhide HBX).trans (hJ.mono (by omega))
        have hs2 := hbw2.size
        have HQ2 := hide ((unhide H2).below hbw2)
        have HP : Hid (SetAt (w.heap.size + 1) w2 w1.heap.size bm (.slice uo (dedup xs).length uc) (dedup xs) ∧ w2.heap[w.heap.size]? = some (.cells #[.map none, .slice none 0 0] 66 (0, 0)) ∧ Below w.heap.size w w2) :=
          ⟨(unhide H1).below hbw2, (hbw2.block _ (by omega)).trans H4.out, (unhide H5).trans (hbw2.mono (by omega))⟩
        have HFO := hide hfo
        clear hfo hJ hbw2 H1 H2 H4 H5 hca hcb
        go_simp
        refine (put_any ⟨y.1, .slice fo fn fc, y.2⟩ (unhide HQ2) f7 (unhide HFO) hyl).mono ?_
        rintro e w3 ⟨v3, rfl, r1, r2, r3⟩
        have hFF : Hid (Fill w w1.heap.size bm (w1.heap.size + 1) (.slice uo (dedup xs).length uc) (dedup xs) bs (k + 1) w3) := by
          refine ⟨v3, _, HP.out.1.keep r3 noQ_set noQ_str (fun _ _ => trivial), r1, ?_, (r2.block _ (by omega)).trans HP.out.2.1, HP.out.2.2.trans (r2.mono (by omega)), f6, f7⟩
          rw [htk.out, List.map_append, H3.out]; rfl
        clear r1 r2 r3 HP HQ2
        go_simp
        go_wp2_with fail
        go_roundw
        case rel => exact ⟨k + 1, by omega, by simp, hFF⟩
        case measure => simp [intOf]; omega
    · have hlt2 : decide ((k : Int) < (bs.length : Int)) = false := by simp; omega
      have hkn : k = bs.length := by omega
      subst hkn
      obtain ⟨v, ys, f1, f2, f3, f4, f5, f6, f7⟩ := hF.out
      rw [List.take_length] at f3
      have hR0 : Hid (Runs w w1.heap.size bm (w1.heap.size + 1) xs bs wr) := by
        refine ⟨_, v, dedup xs, ys, 0, f1, f2, rfl, by rw [f3]; exact Drops.refl _ _, ?_, ?_, items_ok f3 HBS.out, f4, f5, f6, f7⟩
        · have q1 := dedup_len xs xs.length (Nat.le_refl _)
          rw [List.take_length] at q1
          have q2 := missing_most bs (dedup xs)
          have q3 := (okAll_iff.1 HX.out).1
          omega
        · have := congrArg List.length f3
          simp at this; omega
      clear hF f1 f2 f3 f4 f5
      go_wp2_with fail
      go_loopw [25] (fun _ wq => Hid (Runs w w1.heap.size bm (w1.heap.size + 1) xs bs wq)) (fun _ wq => 801 - setLen w1.heap.size wq)
      case atStart => exact hR0
      case round =>
        clear hR0
        obtain ⟨u2, v2, L, zs, N, g1, g2, g3, g4, g5, g6, g7, g8, g9, g10, g11⟩ := hrel.out
        have hset := hide g1.len
        have G1 := hide g1
        have G2 := hide g2
        have G3 := hide g3
        have G4 := hide g4
        have G7 := hide g7
        have G8 := hide g8
        have G9 := hide g9
        have hlt1 := g1.lt
        clear g1 g2 g3 g4 g7 g8 g9 hrel
        go_wp2_with fail
        refine (openRound_any (unhide G1) (unhide G2) g10 g11 G7.out (by omega) g6).mono ?_
        rintro e w3 ⟨u3, v3, rfl, r1, r2, r3⟩
        have hfold : bfold (zs.map bx) L = bfold bs L := by have := G4.out.fold []; simpa using this
        rw [hfold] at r1 ⊢
        have hbb := bfold_bound (bs := bs) bs L (fun c hc => hc)
        have h8 : w3.heap[w.heap.size]? = some (.cells #[.map none, .slice none 0 0] 66 (0, 0)) := (r3.block _ (by omega)).trans G8.out
        have h9 : Below w.heap.size w w3 := (unhide G9).trans (r3.mono (by omega))
        by_cases hgr : L.length < (bfold bs L).length
        · have hR1 : Hid (Runs w w1.heap.size bm (w1.heap.size + 1) xs bs w3) := by
            refine ⟨u3, v3, bfold bs L, kept zs L, N + 1, r1, r2, by rw [G3.out]; rfl, ?_, by omega, by have := kept_len zs L; omega, fun y hy => G7.out y (kept_mem zs L y hy), h8, h9, g10, g11⟩
            obtain ⟨t, ht⟩ := bfold_pre bs L
            have k1 := G4.out.more t
            rw [← ht] at k1
            have k2 := kept_drops zs L
            rw [hfold] at k2
            exact k1.trans k2
          have hml : Hid (setLen w1.heap.size w3 = (bfold bs L).length) := r1.len
          rw [show decide (L.length < (bfold bs L).length) = true by simpa using hgr]
          clear r1 r2 r3 h8 h9 hfold
          go_wp2_with fail
          go_roundw
          case rel => exact hR1
          case measure =>
            rw [hml.out, hset.out]
            omega
        · have hsame : bfold bs L = L := bfold_same (by omega)
          rw [show decide (L.length < (bfold bs L).length) = false by simpa using hgr]
          rw [hsame] at r1
          obtain ⟨vo, vc, hv⟩ := r1.2.own.form
          subst hv
          have c0 := r1.c0
          have c1 := r1.c1
          have d0 : w3.cell? ⟨w.heap.size, 0, none⟩ = some (.map none) := by rw [cell_of_row _ _ _ _ _ _ h8]; rfl
          have d1 : w3.cell? ⟨w.heap.size, 1, none⟩ = some (.slice none 0 0) := by rw [cell_of_row _ _ _ _ _ _ h8]; rfl
          have z0 := frozen_of_row w3 w.heap.size 0 _ _ h8
          have z1 := frozen_of_row w3 w.heap.size 1 _ _ h8
          have hO : Hid (Opened xs bs L) := ⟨⟨N, G3.out⟩, hsame⟩
          have HR1 := hide r1
          have H9 := hide h9
          clear r1 r2 r3 h8 h9 hfold hsame hgr hbb
          go_wp2_with fail
          refine bodyPost_ret (v := .agg #[.map (some bm), .slice vo L.length vc]) (by simp [results, Try.results60, go_sem, d0, d1]) rfl ⟨_, _, L, rfl, ?_, hO.out, ?_⟩
          · refine SetV.mono (B := w.heap.size + 1) ?_ (by omega)
            have hsm : ∀ (j : Nat), w.heap.size + 1 ≤ j → ((w3.setCell ⟨w.heap.size, 0, none⟩ (.map (some bm))).setCell ⟨w.heap.size, 1, none⟩ (.slice vo L.length vc)).heap[j]? = w3.heap[j]? := by
              intro j hj
              rw [Below.heap_setCell _ _ _ _ (by show j ≠ w.heap.size; omega), Below.heap_setCell _ _ _ _ (by show j ≠ w.heap.size; omega)]
            exact ⟨row_same (unhide HR1).2.own (Nat.le_refl _) (fun j cur _ hj hc => (hsm j hj).trans hc), (unhide HR1).2.map.keep (hsm _ (unhide HR1).2.base), (unhide HR1).2.base⟩
          · exact ((unhide H9).setCell (p := ⟨w.heap.size, 0, none⟩) (Nat.le_refl _) _).setCell (p := ⟨w.heap.size, 1, none⟩) (Nat.le_refl _) _
#print axioms openAll_any
end Go.Proofs.Ytjdpabiodalfkaa
