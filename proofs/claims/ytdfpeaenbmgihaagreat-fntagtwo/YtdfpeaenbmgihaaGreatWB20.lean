/-
  A played world's sizes, and that they stay. No Go function in it.
-/
import Derived.Test.YtdfpeaenbmgihaaGreatWB19
namespace Go.Proofs.YtdfpeaenbmgihaaGreat
set_option maxHeartbeats 64000000
set_option maxRecDepth 100000
open Go.RowKit Kw
structure PlayZ (W : Wld) : Prop where
  seats : W.seats.length = 8
  fresh : W.fresh.length = 8
  said : W.said.length = 8
  wins : W.wins.length = 8
  log : W.log.length ≤ 16
  waits : W.waits.length ≤ W.log.length
  stolen : W.stolen.length ≤ 12
  spy : W.spy.length ≤ 101 * W.stolen.length
  frames : W.frames.length ≤ 40
  told : W.told.length ≤ 320
  freshN : ∀ x ∈ W.fresh, 0 ≤ x ∧ x ≤ 99
  saidN : ∀ x ∈ W.said, 0 ≤ x ∧ x ≤ 999
  seat : ∀ m ∈ W.seats, SeatZ m
  who : ∀ j : Nat, (W.seats.getD j Mem.none).inn = true → (W.seats.getD j Mem.none).who = (j : Int)
  cmt : ∀ c ∈ W.log, LogZ c
  wait : ∀ x ∈ W.waits, x.leaf.size ≤ 300 ∧ x.key.size ≤ 300 ∧ 0 ≤ x.who ∧ x.who < 8
  frame : ∀ f ∈ W.frames, f.key.size ≤ 300 ∧ f.text.size ≤ 300 ∧ 0 ≤ f.n ∧ f.n ≤ 1000
  win : ∀ l ∈ W.wins, l.length ≤ W.told.length ∧ ∀ x ∈ l, x.seen.length ≤ W.told.length ∧ 0 ≤ x.top ∧ x.top ≤ 1000
theorem getD_all {α : Type} {P : α → Prop} {l : List α} {d : α} (hd : P d) (h : ∀ x ∈ l, P x) (k : Nat) : P (l.getD k d) := by
 rw [List.getD_eq_getElem?_getD]
 cases q : l[k]? with
 | none => exact hd
 | some x => exact h x (List.mem_of_getElem? q)
theorem set_all {α : Type} {P : α → Prop} {l : List α} {a : α} (ha : P a) (h : ∀ x ∈ l, P x) (k : Nat) : ∀ x ∈ l.set k a, P x := fun x hx => by
  rcases List.mem_or_eq_of_mem_set hx with q | rfl
  · exact h x q
  · exact ha
theorem app_all {α : Type} {P : α → Prop} {l : List α} {a : α} (ha : P a) (h : ∀ x ∈ l, P x) : ∀ x ∈ l ++ [a], P x := fun x hx => by
  rcases List.mem_append.1 hx with q | q
  · exact h x q
  · rw [List.mem_singleton.1 q]; exact ha
theorem PlayZ.seatD {W : Wld} (h : PlayZ W) (k : Nat) : SeatZ (W.seats.getD k Mem.none) := getD_all seatZ_none h.seat k
theorem PlayZ.cmtD {W : Wld} (h : PlayZ W) (k : Nat) : LogZ (W.log.getD k Cmt.none) := getD_all logZ_none h.cmt k
theorem PlayZ.freshD {W : Wld} (h : PlayZ W) (k : Nat) : 0 ≤ W.fresh.getD k 0 ∧ W.fresh.getD k 0 ≤ 99 := getD_all (P := fun x : Int => 0 ≤ x ∧ x ≤ 99) ⟨by omega, by omega⟩ h.freshN k
theorem PlayZ.saidD {W : Wld} (h : PlayZ W) (k : Nat) : 0 ≤ W.said.getD k 0 ∧ W.said.getD k 0 ≤ 999 := getD_all (P := fun x : Int => 0 ≤ x ∧ x ≤ 999) ⟨by omega, by omega⟩ h.saidN k
theorem PlayZ.stepZ {W : Wld} (h : PlayZ W) : StepZ W := by
 (have big : 300 ≤ maxLen := by unfold maxLen; omega); have hw := h.waits; have hl := h.log; have hs := h.spy; have ht := h.stolen; have hto := h.told; refine ⟨h.seats, by omega, hl, h.fresh, by omega, ht, h.frames, h.said, h.wins, hto, h.freshD, h.saidD, fun j => (h.seatD j).memZ, fun j => (h.seatD j).k15, fun j => (h.cmtD j).cmtZ, fun x hx => ⟨Nat.le_trans (h.wait x hx).1 big, Nat.le_trans (h.wait x hx).2.1 big⟩, fun j => ?_, fun j => ?_⟩
 · refine getD_all (P := FraZ) ⟨Nat.zero_le _, Nat.zero_le _, by show (-1000000 : Int) ≤ 0; omega, by show (0 : Int) ≤ 1000000; omega⟩ (fun f hf => ?_) j; obtain ⟨h1, h2, h3, h4⟩ := h.frame f hf; exact ⟨Nat.le_trans h1 big, Nat.le_trans h2 big, by omega, by omega⟩
 · refine getD_all (P := WinsZ) ⟨Nat.zero_le _, fun x hx => by cases hx⟩ (fun l hl => ?_) j; obtain ⟨h1, h2⟩ := h.win l hl; exact ⟨by omega, fun x hx => by obtain ⟨h3, h4, h5⟩ := h2 x hx; exact ⟨by omega, by omega, by omega⟩⟩
theorem PlayZ.wldZ {W : Wld} (h : PlayZ W) : WldZ W := by
 have hw := h.waits; have hl := h.log; have hs := h.spy; have ht := h.stolen; have hto := h.told; have hf := h.frames; have h1 := h.seats; have h2 := h.fresh; have h3 := h.said; have h4 := h.wins; refine ⟨by omega, by omega, by omega, ⟨by omega, by omega⟩, by omega, by omega, by omega, ⟨by omega, by omega⟩, by omega, by omega, fun m hm => ?_, fun c hc => ?_, fun l hl => ?_⟩
 · have q := h.seat m hm; refine ⟨?_, by have := q.own; omega, q.k0⟩
   cases e : m.inn with
   | true => rw [q.k15 e]; omega
   | false => rw [q.k0 e]; exact Nat.zero_le _
 · have q := h.cmt c hc; exact ⟨by have := q.keys; omega, by have := q.boxes; omega⟩
 · obtain ⟨q1, q2⟩ := h.win l hl; exact ⟨by omega, fun x hx => by have := (q2 x hx).1; omega⟩
theorem who_set {l : List Mem} {k : Nat} {x : Mem} (h : ∀ j : Nat, (l.getD j Mem.none).inn = true → (l.getD j Mem.none).who = (j : Int)) (hx : x.inn = true → x.who = (k : Int)) : ∀ j : Nat, ((l.set k x).getD j Mem.none).inn = true → ((l.set k x).getD j Mem.none).who = (j : Int) := by
 intro j; rw [List.getD_eq_getElem?_getD, List.getElem?_set]; split
 · rename_i e; subst e; split
   · exact hx
   · intro q; cases q
 · have := h j; rw [List.getD_eq_getElem?_getD] at this; exact this
theorem commit_who {m : Mem} {fresh : ByteArray} {add rem : Int} {leaf key : ByteArray} {k : Nat} (hw : m.inn = true → m.who = (k : Int)) : (commitX m fresh add rem leaf key).inn = true → (commitX m fresh add rem leaf key).who = (k : Int) := by
 unfold commitX; split
 · rename_i hb; rw [commitB_eq] at hb; simp only [Bool.and_eq_true] at hb; exact fun _ => hw (may_facts hb.2.2.2.1).1
 · intro q; cases q
theorem play_goA {W : Wld} (h : PlayZ W) (k : Nat) (add rem : Int) : PlayZ (goA W k add rem) := by
 unfold goA; split
 · exact h
 · rename_i hn; split
   · have hf := new_300 (k : Int) (W.fresh.getD k 0 + 1); have hfk := h.freshD k; have hlog := h.log; have hw := h.waits; have z0 : (⟨#[]⟩ : ByteArray).size ≤ 300 := Nat.zero_le _; exact ⟨by rw [List.length_set]; exact h.seats, by rw [List.length_set]; exact h.fresh, h.said, h.wins, by rw [List.length_append, List.length_singleton]; omega, by rw [List.length_append, List.length_singleton]; show W.waits.length ≤ _; omega, h.stolen, h.spy, h.frames, h.told, set_all (by omega) h.freshN k, h.saidN, set_all (commit_seat (h.seatD k) hf z0) h.seat k, who_set h.who (commit_who (h.who k)), app_all (commit_log (h.seatD k) hf z0 z0) h.cmt, h.wait, h.frame, h.win⟩
   · exact h
theorem play_goB {W : Wld} (h : PlayZ W) (k a : Nat) (rem : Int) (ha : a < 8) : PlayZ (goB W k a rem) := by
 unfold goB; split
 · exact h
 · rename_i hn; split
   · rename_i hb; have hf := new_300 (k : Int) (W.fresh.getD k 0 + 1); have hfk := h.freshD k; have hfa := h.freshD a; have hlog := h.log; have hw := h.waits; (have hak : k ≠ a := by rw [commitB_eq] at hb; simp only [Bool.and_eq_true] at hb; have hm := hb.2.2.2.1; have hi := (may_facts hm).1; rw [mayB_eq] at hm; simp only [Bool.and_eq_true, decide_eq_true_eq] at hm; have hne := hm.2.2.2.2.1; rw [h.who k hi] at hne; intro e; exact hne (by rw [e])); (have hga : (W.fresh.set k (W.fresh.getD k 0 + 1)).getD a 0 = W.fresh.getD a 0 := by rw [List.getD_eq_getElem?_getD, List.getElem?_set_ne hak, ← List.getD_eq_getElem?_getD]); exact ⟨by rw [List.length_set]; exact h.seats, by rw [List.length_set, List.length_set]; exact h.fresh, h.said, h.wins, by rw [List.length_append, List.length_singleton]; omega, by rw [List.length_append, List.length_append, List.length_singleton, List.length_singleton]; omega, h.stolen, h.spy, h.frames, h.told, set_all (by rw [hga]; omega) (set_all (by omega) h.freshN k) a, h.saidN, set_all (commit_seat (h.seatD k) hf (key_300 _)) h.seat k, who_set h.who (commit_who (h.who k)), app_all (commit_log (h.seatD k) hf (key_300 _) (key_300 _)) h.cmt, app_all ⟨new_300 _ _, new_300 _ _, by show (0 : Int) ≤ (a : Int); omega, by show (a : Int) < 8; omega⟩ h.wait, h.frame, h.win⟩
   · exact h
theorem play_hear {W : Wld} (h : PlayZ W) (k z : Nat) : PlayZ (hearW W k z) := by
 rw [hearW_eq]; split
 · rename_i hy; refine ⟨by rw [List.length_set]; exact h.seats, h.fresh, h.said, h.wins, h.log, h.waits, h.stolen, h.spy, h.frames, h.told, h.freshN, h.saidN, set_all (hear_seat (h.seatD k) (h.cmtD z) hy) h.seat k, who_set h.who (fun q => ?_), h.cmt, h.wait, h.frame, h.win⟩; have hy2 := hy; rw [hearY_eq] at hy2; simp only [Bool.and_eq_true] at hy2; obtain ⟨⟨h1, h2⟩, h3, h4⟩ := hy2; rw [hearX_eq, if_pos (by rw [h1, h2]; rfl), if_pos h3] at q ⊢; rw [takesB_eq] at h3; simp only [Bool.and_eq_true] at h3; have hk := h.who k h3.1; split at q
   · cases q
   · rename_i hr; rw [if_neg hr]; split at q
     · rename_i hb; rw [if_pos hb]; exact hk
     · rename_i hb; rw [if_neg hb]; exact hk
 · exact h
theorem play_join {W : Wld} (h : PlayZ W) (k z : Nat) (hk : k < 8) : PlayZ (joinW W k z) := by
 unfold joinW; split
 · exact h
 · split
   · rename_i j hj; have hwt := getD_all (P := fun x : Wt => x.leaf.size ≤ 300 ∧ x.key.size ≤ 300 ∧ 0 ≤ x.who ∧ x.who < 8) (d := Wt.none) ⟨Nat.zero_le _, Nat.zero_le _, by show (0 : Int) ≤ 0; omega, by show (0 : Int) < 8; omega⟩ h.wait j; have hwl := h.waits; have hel := List.length_eraseIdx_le W.waits j; refine ⟨by show (W.seats.set k _).length = 8; rw [List.length_set]; exact h.seats, h.fresh, h.said, h.wins, h.log, by show (W.waits.eraseIdx j).length ≤ W.log.length; omega, h.stolen, h.spy, h.frames, h.told, h.freshN, h.saidN, set_all (join_seat (by omega) hwt.1 (h.cmtD z)) h.seat k, who_set h.who (fun q => ?_), h.cmt, fun x hx => h.wait x (List.mem_of_mem_eraseIdx hx), h.frame, h.win⟩; unfold joinR at q ⊢; split at q
     · rename_i hb; rw [if_pos hb]; rfl
     · cases q
   · exact h
theorem play_steal {W : Wld} (h : PlayZ W) (k : Nat) : PlayZ (stealW W k) := by
 rw [stealW_eq]; split
 · exact h
 · rename_i hn; have hs := h.spy; have ht := h.stolen; have ho := (h.seatD k).own
   have hkn : (knowsOf (memOkS (W.seats.getD k Mem.none)) (W.seats.getD k Mem.none)).length ≤ 101 := by
    unfold knowsOf; split
    · rw [List.length_append, List.length_map, List.length_singleton]; omega
    · exact Nat.zero_le _
   exact ⟨h.seats, h.fresh, h.said, h.wins, h.log, h.waits, by rw [List.length_append, List.length_singleton]; omega, by rw [List.length_append, List.length_append, List.length_singleton]; omega, h.frames, h.told, h.freshN, h.saidN, h.seat, h.who, h.cmt, h.wait, h.frame, h.win⟩
theorem say_300 (s : ByteArray) (n : Int) : (mkSay s n).size ≤ 300 := by
 unfold mkSay; split
 · unfold cap; split
   · assumption
   · show 0 ≤ 300; omega
 · show 0 ≤ 300; omega
theorem play_say {W : Wld} (h : PlayZ W) (k : Nat) (text : ByteArray) (ht : text.size ≤ 300) : PlayZ (sayW W k text) := by
 rw [sayW_eq]; split
 · exact h
 · rename_i hn; split
   · rename_i hb; have hd := h.saidD k; have hf := h.frames; (have e : (makeS (W.seats.getD k Mem.none) (W.said.getD k 0 + 1) text).1 = ⟨(W.seats.getD k Mem.none).who, mkSay (W.seats.getD k Mem.none).init (W.seats.getD k Mem.none).who, W.said.getD k 0 + 1, text⟩ := by unfold makeS; rw [if_pos hb]); exact ⟨h.seats, h.fresh, by rw [List.length_set]; exact h.said, h.wins, h.log, h.waits, h.stolen, h.spy, by rw [List.length_append, List.length_singleton]; omega, h.told, h.freshN, set_all (by omega) h.saidN k, h.seat, h.who, h.cmt, h.wait, app_all (by rw [e]; exact ⟨say_300 _ _, ht, by show (0 : Int) ≤ W.said.getD k 0 + 1; omega, by show W.said.getD k 0 + 1 ≤ (1000 : Int); omega⟩) h.frame, h.win⟩
   · exact h
theorem seen_grow (n lim : Int) : ∀ (xs : List Int) (st : Bool × List Int), (xs.foldl (seenStep n lim) st).2.length + (if (xs.foldl (seenStep n lim) st).1 = true then 0 else 1) ≤ st.2.length + xs.length + (if st.1 = true then 0 else 1)
  | [], st => Nat.le_refl _
  | x :: xs, st => by
    rw [List.foldl_cons]
    have ih := seen_grow n lim xs (seenStep n lim st x)
    refine Nat.le_trans ih ?_
    have key : (seenStep n lim st x).2.length + (if (seenStep n lim st x).1 = true then 0 else 1) ≤ st.2.length + 1 + (if st.1 = true then 0 else 1) := by
      unfold seenStep seenOne
      obtain ⟨f, l⟩ := st
      cases f <;> by_cases h1 : lim < x <;> by_cases h2 : x < n <;> simp [h1, h2]
    rw [List.length_cons]
    omega
theorem seenOf_grow (n lim : Int) (xs : List Int) : (seenOf n lim xs).length ≤ xs.length + 1 := by
 unfold seenOf seenTo; rw [List.take_length]; have h := seen_grow n lim xs (false, []); split
 · rename_i q; rw [if_pos q] at h; simp at h ⊢; omega
 · rename_i q; rw [if_neg q] at h; rw [List.length_append]; simp at h ⊢; omega
theorem play_got {W : Wld} (h : PlayZ W) (k z : Nat) : PlayZ (gotW W k z) := by
 unfold gotW; split
 · exact h
 · rename_i hn; split
   · rename_i hb; have hto := h.told; have hl := getD_all (P := fun l : List Win => l.length ≤ W.told.length ∧ ∀ x ∈ l, x.seen.length ≤ W.told.length ∧ 0 ≤ x.top ∧ x.top ≤ 1000) (d := []) ⟨Nat.zero_le _, fun x hx => by cases hx⟩ h.win k; have hf := getD_all (P := fun f : Fra => f.key.size ≤ 300 ∧ f.text.size ≤ 300 ∧ 0 ≤ f.n ∧ f.n ≤ 1000) (d := Fra.none) ⟨Nat.zero_le _, Nat.zero_le _, by show (0 : Int) ≤ 0; omega, by show (0 : Int) ≤ 1000; omega⟩ h.frame z; generalize W.wins.getD k [] = l at *; generalize W.frames.getD z Fra.none = f at *
     have key : (getO (W.seats.getD k Mem.none) l f).1.length ≤ W.told.length + 1 ∧ ∀ x ∈ (getO (W.seats.getD k Mem.none) l f).1, x.seen.length ≤ W.told.length + 1 ∧ 0 ≤ x.top ∧ x.top ≤ 1000 := by
      (have old : ∀ x ∈ l, x.seen.length ≤ W.told.length + 1 ∧ 0 ≤ x.top ∧ x.top ≤ 1000 := fun x hx => by obtain ⟨p1, p2, p3⟩ := hl.2 x hx; exact ⟨by omega, p2, p3⟩); unfold getO; split
      · split
        · refine ⟨by show (l ++ [_]).length ≤ _; rw [List.length_append, List.length_singleton]; omega, app_all ⟨?_, hf.2.2⟩ old⟩; show ([f.n] : List Int).length ≤ _; rw [List.length_singleton]; omega
        · refine ⟨by show (l.set _ _).length ≤ _; rw [List.length_set]; omega, set_all ?_ old _⟩; have ho := getD_all (P := fun x : Win => x.seen.length ≤ W.told.length ∧ 0 ≤ x.top ∧ x.top ≤ 1000) (d := Win.none) ⟨Nat.zero_le _, by show (0 : Int) ≤ 0; omega, by show (0 : Int) ≤ 1000; omega⟩ hl.2 (getAt l f.key).toNat; generalize l.getD (getAt l f.key).toNat Win.none = y at *; unfold takeW; split
          · exact ⟨by show y.seen.length ≤ _; omega, ho.2⟩
          · have hs := seenOf_grow f.n (max y.top f.n - 8) y.seen; refine ⟨?_, ?_⟩
            · show (seenOf f.n (max y.top f.n - 8) y.seen).length ≤ _; omega
            · show 0 ≤ max y.top f.n ∧ max y.top f.n ≤ 1000; omega
      · exact ⟨by show l.length ≤ _; omega, old⟩
     refine ⟨h.seats, h.fresh, h.said, by rw [List.length_set]; exact h.wins, h.log, h.waits, h.stolen, h.spy, h.frames, by rw [List.length_append, List.length_singleton]; omega, h.freshN, h.saidN, h.seat, h.who, h.cmt, h.wait, h.frame, ?_⟩; (have e1 : (W.told ++ [(⟨(k : Int), (z : Int)⟩ : Td)]).length = W.told.length + 1 := by rw [List.length_append, List.length_singleton]); show ∀ l' ∈ W.wins.set k (getO (W.seats.getD k Mem.none) l f).1, l'.length ≤ (W.told ++ [(⟨(k : Int), (z : Int)⟩ : Td)]).length ∧ ∀ x ∈ l', x.seen.length ≤ (W.told ++ [(⟨(k : Int), (z : Int)⟩ : Td)]).length ∧ 0 ≤ x.top ∧ x.top ≤ 1000; rw [e1]; refine set_all (P := fun l' : List Win => l'.length ≤ W.told.length + 1 ∧ ∀ x ∈ l', x.seen.length ≤ W.told.length + 1 ∧ 0 ≤ x.top ∧ x.top ≤ 1000) key (fun l' hl' => ?_) k; obtain ⟨q1, q2⟩ := h.win l' hl'; exact ⟨by omega, fun x hx => by obtain ⟨p1, p2, p3⟩ := q2 x hx; exact ⟨by omega, p2, p3⟩⟩
   · exact h
theorem play_step {W : Wld} (h : PlayZ W) (kd : Int) (k : Nat) (add rem pos : Int) (text : ByteArray) (hk : k < 8) (ht : text.size ≤ 300) : PlayZ (stepW W kd k add rem pos text) := by
 unfold stepW; split
 · unfold goW; split
   · exact play_goB h k _ rem (by omega)
   · exact play_goA h k add rem
 · split
   · exact play_steal h k
   · split
     · exact play_say h k text ht
     · split
       · split
         · exact play_hear h k _
         · exact h
       · split
         · split
           · exact play_join h k _ hk
           · exact h
         · split
           · split
             · exact play_got h k _
             · exact h
           · exact h
theorem play_new (who : Nat) (hw : who < 8) : PlayZ (newW who) := by
 have hl := newN_len who 8; have hf := first_seat who hw (new_300 (who : Int) 1) (new_300 (who : Int) 2); refine ⟨hl.1, hl.2.1, hl.2.2.1, hl.2.2.2, Nat.zero_le _, Nat.zero_le _, Nat.zero_le _, Nat.zero_le _, Nat.zero_le _, Nat.zero_le _, ?_, ?_, ?_, ?_, fun x hx => (by cases hx), fun x hx => (by cases hx), fun x hx => (by cases hx), ?_⟩
 · intro x hx; obtain ⟨j, _, rfl⟩ := List.mem_map.1 (show x ∈ (List.range 8).map (fun k => if k = who then (2 : Int) else 0) from hx); split <;> omega
 · intro x hx; obtain ⟨j, _, rfl⟩ := List.mem_map.1 (show x ∈ (List.range 8).map (fun _ => (0 : Int)) from hx); omega
 · intro m hm; obtain ⟨j, _, rfl⟩ := List.mem_map.1 (show m ∈ (List.range 8).map (fun k => if k = who then fstOf (who : Int) (mkNew (who : Int) 1) (mkNew (who : Int) 2) else Mem.none) from hm); split
   · exact hf
   · exact seatZ_none
 · intro j
   have e : (newW who).seats.getD j Mem.none = if j < 8 then (if j = who then fstOf (who : Int) (mkNew (who : Int) 1) (mkNew (who : Int) 2) else Mem.none) else Mem.none := by
    show ((List.range 8).map (fun k => if k = who then fstOf (who : Int) (mkNew (who : Int) 1) (mkNew (who : Int) 2) else Mem.none)).getD j Mem.none = _; rw [List.getD_eq_getElem?_getD, List.getElem?_map]; by_cases hj : j < 8
    · rw [List.getElem?_range hj, if_pos hj]; rfl
    · rw [List.getElem?_eq_none (by simpa using hj), if_neg hj]; rfl
   rw [e]; intro q; split at q
   · rename_i h8; rw [if_pos h8]; split at q
     · rename_i e3; rw [if_pos e3]; unfold fstOf at q ⊢; split at q
       · rename_i e2; rw [if_pos e2, e3]
       · cases q
     · cases q
   · cases q
 · intro l hl2; obtain ⟨j, _, rfl⟩ := List.mem_map.1 (show l ∈ (List.range 8).map (fun _ => ([] : List Win)) from hl2); exact ⟨Nat.zero_le _, fun x hx => by cases hx⟩
open Go.RowKit
theorem info_ev : (Tryz.prog.info? 69).map (·.size) = some 6 := by kernel_rfl
theorem l7Step_any (X L : List Nat) (B : Nat) (s0 s1 s2 s3 s4 s5 s6 s7 s8 s9 : Value) (W : Wld) (k : Nat) (kd add rem po : Int) (text : ByteArray) (w : World) (q : Rows X L B w (rowsOf s0 s1 s2 s3 s4 s5 s6 s7 s8 s9 W)) (hB : B ≤ w.heap.size) (hk : k < 8) (hz : StepZ W) : Calls Tryz.prog 20 #[.agg (wldC s0 s1 s2 s3 s4 s5 s6 s7 s8 s9), .agg (evC kd (k : Int) add rem po text)] w fun e w' => ∃ X' t0 t1 t2 t3 t4 t5 t6 t7 t8 t9, e = .returned (.agg (wldC t0 t1 t2 t3 t4 t5 t6 t7 t8 t9)) ∧ Rows X' L B w' (rowsOf t0 t1 t2 t3 t4 t5 t6 t7 t8 t9 (stepW W kd k add rem po text)) ∧ KeepR (rowsOf s0 s1 s2 s3 s4 s5 s6 s7 s8 s9 W) w w' := by
 have HE : Hid (stepW W kd k add rem po text = _) := hide (stepW.eq_1 W kd k add rem po text); obtain ⟨⟨a0, p0, rfl⟩, ⟨a1, p1, rfl⟩, ⟨a2, p2, rfl⟩, ⟨a3, p3, rfl⟩, ⟨a4, p4, rfl⟩, ⟨a5, p5, rfl⟩, ⟨a6, p6, rfl⟩, ⟨a7, p7, rfl⟩, ⟨a8, p8, rfl⟩, ⟨a9, p9, rfl⟩⟩ := q.forms; obtain ⟨HZ, HB0, HW, HK⟩ := hd4 hz hB q hk; (have hk2 : inB 0 7 (k : Int) = true := by unfold inB; simp; omega); obtain ⟨nl, e2⟩ : ∃ n, W.log.length = n := ⟨_, rfl⟩; obtain ⟨nf, e6⟩ : ∃ n, W.frames.length = n := ⟨_, rfl⟩; have HNL : Hid (W.log.length = nl ∧ W.frames.length = nf ∧ nl ≤ 16 ∧ nf ≤ 40) := hide ⟨e2, e6, e2 ▸ hz.log, e6 ▸ hz.frames⟩; rw [e2, e6] at HE; (have i1 : IntKind.i64.wrap ((nl : Int) - 1) = (nl : Int) - 1 := by have q := HNL.out; simp [IntKind.wrap, IntKind.bits, IntKind.signed]; omega); (have i2 : IntKind.i64.wrap ((nf : Int) - 1) = (nf : Int) - 1 := by have q := HNL.out; simp [IntKind.wrap, IntKind.bits, IntKind.signed]; omega); simp only [e2, e6] at HW ⊢; generalize W.seats.length = n0 at *; generalize W.waits.length = n1 at *; generalize W.fresh.length = n3 at *; generalize W.spy.length = n4 at *; generalize W.stolen.length = n5 at *; generalize W.said.length = n7 at *; generalize W.wins.length = n8 at *; generalize W.told.length = n9 at *; clear q hB hk hz e2 e6; have HB : Hid (Below B w w) := Below.refl _ _; have HR : Hid (KeepR (rowsOf (.slice a0 n0 p0) (.slice a1 n1 p1) (.slice a2 nl p2) (.slice a3 n3 p3) (.slice a4 n4 p4) (.slice a5 n5 p5) (.slice a6 nf p6) (.slice a7 n7 p7) (.slice a8 n8 p8) (.slice a9 n9 p9) W) w w) := KeepR.refl _ _; have HN : Hid (True) := trivial; go_enter Tryz.func20, Tryz.ntmps20; (repeat ((fail_if_success (refine pl_id ?_)); go_step)); refine w_i ?_; refine w_a (wldC (.slice a0 n0 p0) (.slice a1 n1 p1) (.slice a2 nl p2) (.slice a3 n3 p3) (.slice a4 n4 p4) (.slice a5 n5 p5) (.slice a6 nf p6) (.slice a7 n7 p7) (.slice a8 n8 p8) (.slice a9 n9 p9)) 41 (fun bA wc A hb hbn => ?_); refine cy1 HR ?_; clear HR; intro HR; obtain ⟨X2, HW2, hm2⟩ := HW.out.more2 hb hbn; replace HW := hide HW2; clear HW2 hm2; refine cy2 HB HN ?_; clear HB HN; intro HB HN; clear hb hbn; refine w_a (evC kd (k : Int) add rem po text) 69 (fun bE wc E hb hbn => ?_); refine cy2 A HR ?_; clear A HR; intro A HR; obtain ⟨X2, HW2, hm2⟩ := HW.out.more2 hb hbn; replace HW := hide HW2; clear HW2 hm2; refine cy2 HB HN ?_; clear HB HN; intro HB HN; clear hb hbn; refine w_a noWld 41 (fun bR wc R hb hbn => ?_); refine cy3 A E HR ?_; clear A E HR; intro A E HR; obtain ⟨X2, HW2, hm2⟩ := HW.out.more2 hb hbn; replace HW := hide HW2; clear HW2 hm2; refine cy2 HB HN ?_; clear HB HN; intro HB HN; clear hb hbn; refine w_e ?_; (repeat ((fail_if_success (refine pl_id ?_)); go_step)); refine w_i ?_; refine w_q ?_; refine w_b E 1 ?_; refine w_k (l1In_any (k : Int) 0 7 _) ?_; rw [hk2]; rintro e wz ⟨rfl, hz⟩; replace hz := hz.symm; subst hz; refine s_k ?_; refine w_q ?_; refine w_e ?_; (repeat ((fail_if_success (refine pl_id ?_)); go_step)); refine w_i ?_; refine w_q ?_; refine w_b E 0 ?_; refine w_e ?_; by_cases h1 : kd = 1
 · (have b1 : (kd == 1) = true := by simpa using h1); (have d1 : decide (kd = 1) = true := by simpa using h1); have H1 := hide h1; clear h1; (have HF : Hid (stepW W kd k add rem po text = goW W k add rem) := by show _ = _; rw [HE.out, if_pos H1.out]); (repeat ((fail_if_success (refine pl_id ?_)); go_step)); refine w_i ?_; refine w_q ?_; refine w_q ?_; refine w_e ?_; (repeat ((fail_if_success (refine pl_id ?_)); go_step)); refine w_i ?_; refine w_c A ?_; refine w_c E ?_; refine w_k (l7Commit_any _ _ B _ _ _ _ _ _ _ _ _ _ W k add kd rem po text _ HW.out (Nat.le_trans HB0.out HB.out.size) HK.out HZ.out) ?_; rintro e w5 ⟨X3, e1, f1, rfl, HW3, HK3⟩; refine s_k ?_; have R5 := R.out.keepR HK3 HW.out (by simp); have HR5 := HR.out.trans HK3; have hnb := HN.out; refine w_1 (fun K hK => ?_); refine op_row 41 (.tmp 4) (.tmp 16) rfl bR (wldC (.slice a0 n0 p0) e1 f1 (.slice a3 n3 p3) (.slice a4 n4 p4) (.slice a5 n5 p5) (.slice a6 nf p6) (.slice a7 n7 p7) (.slice a8 n8 p8) (.slice a9 n9 p9)) _ 41 rfl rfl R5 info_wld rfl (one_wld HW3) (fun w6 NEW hg hs => ?_); refine sh hK ?_; clear hK; have HW6 := HW3.other hg (by simp); have HR6 := HR5.new hg (by omega); refine w_e ?_; have l1 := load_wld NEW rfl; (go_wp2_with fail); refine bodyPost_ret (v := .agg (wldC (.slice a0 n0 p0) e1 f1 (.slice a3 n3 p3) (.slice a4 n4 p4) (.slice a5 n5 p5) (.slice a6 nf p6) (.slice a7 n7 p7) (.slice a8 n8 p8) (.slice a9 n9 p9))) (results_cell rfl rfl l1) rfl ?_; rw [HF.out]; exact ⟨_, _, _, _, _, _, _, _, _, _, _, rfl, HW6.less (by simp +contextual), HR6⟩
 (have b1 : (kd == 1) = false := by simpa using h1); (have d1 : decide (kd = 1) = false := by simpa using h1); (repeat ((fail_if_success (refine pl_id ?_)); go_step)); refine w_i ?_; refine w_q ?_; refine w_q ?_; refine w_e ?_; by_cases h4 : kd = 4
 · (have b4 : (kd == 4) = true := by simpa using h4); (have d4 : decide (kd = 4) = true := by simpa using h4); have H4 := hide h4; clear h4; (have HF : Hid (stepW W kd k add rem po text = stealW W k) := by show _ = _; rw [HE.out, if_neg h1, if_pos H4.out]); (repeat ((fail_if_success (refine pl_id ?_)); go_step)); refine w_i ?_; refine w_q ?_; refine w_q ?_; refine w_e ?_; (repeat ((fail_if_success (refine pl_id ?_)); go_step)); refine w_i ?_; refine w_c A ?_; refine w_q ?_; refine w_b E 1 ?_; refine w_k (l7Steal_any _ _ B _ _ _ _ _ _ _ _ _ _ W k _ HW.out (Nat.le_trans HB0.out HB.out.size) HK.out HZ.out.seats HZ.out.spy HZ.out.stolen (HZ.out.seat k)) ?_; rintro e w5 ⟨X3, e1, f1, rfl, HW3, HK3⟩; refine s_k ?_; have R5 := R.out.keepR HK3 HW.out (by simp); have HR5 := HR.out.trans HK3; have hnb := HN.out; refine w_1 (fun K hK => ?_); refine op_row 41 (.tmp 4) (.tmp 22) rfl bR (wldC (.slice a0 n0 p0) (.slice a1 n1 p1) (.slice a2 nl p2) (.slice a3 n3 p3) e1 f1 (.slice a6 nf p6) (.slice a7 n7 p7) (.slice a8 n8 p8) (.slice a9 n9 p9)) _ 41 rfl rfl R5 info_wld rfl (one_wld HW3) (fun w6 NEW hg hs => ?_); refine sh hK ?_; clear hK; have HW6 := HW3.other hg (by simp); have HR6 := HR5.new hg (by omega); refine w_e ?_; have l1 := load_wld NEW rfl; (go_wp2_with fail); refine bodyPost_ret (v := .agg (wldC (.slice a0 n0 p0) (.slice a1 n1 p1) (.slice a2 nl p2) (.slice a3 n3 p3) e1 f1 (.slice a6 nf p6) (.slice a7 n7 p7) (.slice a8 n8 p8) (.slice a9 n9 p9))) (results_cell rfl rfl l1) rfl ?_; rw [HF.out]; exact ⟨_, _, _, _, _, _, _, _, _, _, _, rfl, HW6.less (by simp +contextual), HR6⟩
 (have b4 : (kd == 4) = false := by simpa using h4); (have d4 : decide (kd = 4) = false := by simpa using h4); (repeat ((fail_if_success (refine pl_id ?_)); go_step)); refine w_i ?_; refine w_q ?_; refine w_q ?_; refine w_e ?_; by_cases h5 : kd = 5
 · (have b5 : (kd == 5) = true := by simpa using h5); (have d5 : decide (kd = 5) = true := by simpa using h5); have H5 := hide h5; clear h5; (have HF : Hid (stepW W kd k add rem po text = sayW W k text) := by show _ = _; rw [HE.out, if_neg h1, if_neg h4, if_pos H5.out]); have hm := HZ.out.seat k; (repeat ((fail_if_success (refine pl_id ?_)); go_step)); refine w_i ?_; refine w_q ?_; refine w_q ?_; refine w_e ?_; (repeat ((fail_if_success (refine pl_id ?_)); go_step)); refine w_i ?_; refine w_c A ?_; refine w_q ?_; refine w_b E 1 ?_; refine w_q ?_; refine w_b E 5 ?_; refine w_k (l7Say_any _ _ B _ _ _ _ _ _ _ _ _ _ W k text _ HW.out (Nat.le_trans HB0.out HB.out.size) HK.out HZ.out.seats HZ.out.said HZ.out.frames (HZ.out.saidN k) ⟨hm.2.2.1, hm.2.2.2.1, hm.2.2.2.2.1, hm.2.2.2.2.2⟩) ?_; rintro e w5 ⟨X3, e1, f1, rfl, HW3, HK3⟩; refine s_k ?_; have R5 := R.out.keepR HK3 HW.out (by simp); have HR5 := HR.out.trans HK3; have hnb := HN.out; refine w_1 (fun K hK => ?_); refine op_row 41 (.tmp 4) (.tmp 30) rfl bR (wldC (.slice a0 n0 p0) (.slice a1 n1 p1) (.slice a2 nl p2) (.slice a3 n3 p3) (.slice a4 n4 p4) (.slice a5 n5 p5) e1 f1 (.slice a8 n8 p8) (.slice a9 n9 p9)) _ 41 rfl rfl R5 info_wld rfl (one_wld HW3) (fun w6 NEW hg hs => ?_); refine sh hK ?_; clear hK; have HW6 := HW3.other hg (by simp); have HR6 := HR5.new hg (by omega); refine w_e ?_; have l1 := load_wld NEW rfl; (go_wp2_with fail); refine bodyPost_ret (v := .agg (wldC (.slice a0 n0 p0) (.slice a1 n1 p1) (.slice a2 nl p2) (.slice a3 n3 p3) (.slice a4 n4 p4) (.slice a5 n5 p5) e1 f1 (.slice a8 n8 p8) (.slice a9 n9 p9))) (results_cell rfl rfl l1) rfl ?_; rw [HF.out]; exact ⟨_, _, _, _, _, _, _, _, _, _, _, rfl, HW6.less (by simp +contextual), HR6⟩
 (have b5 : (kd == 5) = false := by simpa using h5); (have d5 : decide (kd = 5) = false := by simpa using h5); (repeat ((fail_if_success (refine pl_id ?_)); go_step)); refine w_i ?_; refine w_q ?_; refine w_q ?_; refine w_e ?_; by_cases h2 : kd = 2
 · (have b2 : (kd == 2) = true := by simpa using h2); (have d2 : decide (kd = 2) = true := by simpa using h2); have H2 := hide h2; clear h2; (repeat ((fail_if_success (refine pl_id ?_)); go_step)); refine w_i ?_; refine w_q ?_; refine w_q ?_; refine w_e ?_; by_cases hpo : 0 ≤ po ∧ po < (nl : Int); rotate_left
   · (have hin : inB 0 ((nl : Int) - 1) po = false := by unfold inB; simp; omega); (have HF : Hid (stepW W kd k add rem po text = W) := by show _ = _; rw [HE.out, if_neg h1, if_neg h4, if_neg h5, if_pos H2.out, if_neg hpo]); (repeat ((fail_if_success (refine pl_id ?_)); go_step)); refine w_i ?_; refine w_q ?_; refine w_b E 4 ?_; refine w_q ?_; refine w_b A 2 ?_; refine w_q ?_; refine w_q ?_; refine w_k (l1In_any po 0 ((nl : Int) - 1) _) ?_; rw [hin]; rintro e wz ⟨rfl, hz⟩; replace hz := hz.symm; subst hz; refine s_k ?_; refine w_q ?_; refine w_e ?_; (repeat ((fail_if_success (refine pl_id ?_)); go_step)); refine w_i ?_; refine w_c A ?_; refine w_s R (wldC (.slice a0 n0 p0) (.slice a1 n1 p1) (.slice a2 nl p2) (.slice a3 n3 p3) (.slice a4 n4 p4) (.slice a5 n5 p5) (.slice a6 nf p6) (.slice a7 n7 p7) (.slice a8 n8 p8) (.slice a9 n9 p9)) ?_; clear R; intro wc OLD R hg hs; refine gy6 A E HR HW HB HN ?_; clear A E HR HW HB HN; intro A E HR HW HB HN; clear hg hs OLD; refine w_e ?_; have l1 := load_wld R.out rfl; (go_wp2_with fail); refine bodyPost_ret (v := .agg (wldC (.slice a0 n0 p0) (.slice a1 n1 p1) (.slice a2 nl p2) (.slice a3 n3 p3) (.slice a4 n4 p4) (.slice a5 n5 p5) (.slice a6 nf p6) (.slice a7 n7 p7) (.slice a8 n8 p8) (.slice a9 n9 p9))) (results_cell rfl rfl l1) rfl ?_; rw [HF.out]; exact ⟨_, _, _, _, _, _, _, _, _, _, _, rfl, HW.out.less (by simp +contextual), unhide HR⟩
   (have hin : inB 0 ((nl : Int) - 1) po = true := by unfold inB; simp; omega); obtain ⟨z, rfl⟩ : ∃ z : Nat, po = (z : Int) := ⟨po.toNat, by omega⟩; (have hzl : z < W.log.length := by have q := HNL.out; omega); (have HF : Hid (stepW W kd k add rem (z : Int) text = hearW W k z) := by show _ = _; rw [HE.out, if_neg h1, if_neg h4, if_neg h5, if_pos H2.out, if_pos hpo, Int.toNat_natCast]); (repeat ((fail_if_success (refine pl_id ?_)); go_step)); refine w_i ?_; refine w_q ?_; refine w_b E 4 ?_; refine w_q ?_; refine w_b A 2 ?_; refine w_q ?_; refine w_q ?_; refine w_k (l1In_any (z : Int) 0 ((nl : Int) - 1) _) ?_; rw [hin]; rintro e wz ⟨rfl, hz⟩; replace hz := hz.symm; subst hz; refine s_k ?_; refine w_q ?_; refine w_e ?_; (repeat ((fail_if_success (refine pl_id ?_)); go_step)); refine w_i ?_; refine w_q ?_; refine w_b E 0 ?_; refine w_q ?_; refine w_e ?_; (repeat ((fail_if_success (refine pl_id ?_)); go_step)); refine w_i ?_; refine w_c A ?_; refine w_q ?_; refine w_b E 1 ?_; refine w_q ?_; refine w_b E 4 ?_; refine w_k (l7Hear_any _ _ B _ _ _ _ _ _ _ _ _ _ W k z _ HW.out (Nat.le_trans HB0.out HB.out.size) HK.out HZ.out.seats hzl (HZ.out.seat k) (HZ.out.cmt z)) ?_; rintro e w5 ⟨X3, rfl, HW3, HK3⟩; refine s_k ?_; have R5 := R.out.keepR HK3 HW.out (by simp); have HR5 := HR.out.trans HK3; have hnb := HN.out; refine w_1 (fun K hK => ?_); refine op_row 41 (.tmp 4) (.tmp 51) rfl bR (wldC (.slice a0 n0 p0) (.slice a1 n1 p1) (.slice a2 nl p2) (.slice a3 n3 p3) (.slice a4 n4 p4) (.slice a5 n5 p5) (.slice a6 nf p6) (.slice a7 n7 p7) (.slice a8 n8 p8) (.slice a9 n9 p9)) _ 41 rfl rfl R5 info_wld rfl (one_wld HW3) (fun w6 NEW hg hs => ?_); refine sh hK ?_; clear hK; have HW6 := HW3.other hg (by simp); have HR6 := HR5.new hg (by omega); refine w_e ?_; have l1 := load_wld NEW rfl; (go_wp2_with fail); refine bodyPost_ret (v := .agg (wldC (.slice a0 n0 p0) (.slice a1 n1 p1) (.slice a2 nl p2) (.slice a3 n3 p3) (.slice a4 n4 p4) (.slice a5 n5 p5) (.slice a6 nf p6) (.slice a7 n7 p7) (.slice a8 n8 p8) (.slice a9 n9 p9))) (results_cell rfl rfl l1) rfl ?_; rw [HF.out]; exact ⟨_, _, _, _, _, _, _, _, _, _, _, rfl, HW6.less (by simp +contextual), HR6⟩
 (have b2 : (kd == 2) = false := by simpa using h2); (have d2 : decide (kd = 2) = false := by simpa using h2); (repeat ((fail_if_success (refine pl_id ?_)); go_step)); refine w_i ?_; refine w_q ?_; refine w_q ?_; refine w_e ?_; by_cases h3 : kd = 3
 · (have b3 : (kd == 3) = true := by simpa using h3); (have d3 : decide (kd = 3) = true := by simpa using h3); have H3 := hide h3; clear h3; (repeat ((fail_if_success (refine pl_id ?_)); go_step)); refine w_i ?_; refine w_q ?_; refine w_q ?_; refine w_e ?_; by_cases hpo : 0 ≤ po ∧ po < (nl : Int); rotate_left
   · (have hin : inB 0 ((nl : Int) - 1) po = false := by unfold inB; simp; omega); (have HF : Hid (stepW W kd k add rem po text = W) := by show _ = _; rw [HE.out, if_neg h1, if_neg h4, if_neg h5, if_neg h2, if_pos H3.out, if_neg hpo]); (repeat ((fail_if_success (refine pl_id ?_)); go_step)); refine w_i ?_; refine w_q ?_; refine w_b E 4 ?_; refine w_q ?_; refine w_b A 2 ?_; refine w_q ?_; refine w_q ?_; refine w_k (l1In_any po 0 ((nl : Int) - 1) _) ?_; rw [hin]; rintro e wz ⟨rfl, hz⟩; replace hz := hz.symm; subst hz; refine s_k ?_; refine w_q ?_; refine w_e ?_; (repeat ((fail_if_success (refine pl_id ?_)); go_step)); refine w_i ?_; refine w_c A ?_; refine w_s R (wldC (.slice a0 n0 p0) (.slice a1 n1 p1) (.slice a2 nl p2) (.slice a3 n3 p3) (.slice a4 n4 p4) (.slice a5 n5 p5) (.slice a6 nf p6) (.slice a7 n7 p7) (.slice a8 n8 p8) (.slice a9 n9 p9)) ?_; clear R; intro wc OLD R hg hs; refine gy6 A E HR HW HB HN ?_; clear A E HR HW HB HN; intro A E HR HW HB HN; clear hg hs OLD; refine w_e ?_; have l1 := load_wld R.out rfl; (go_wp2_with fail); refine bodyPost_ret (v := .agg (wldC (.slice a0 n0 p0) (.slice a1 n1 p1) (.slice a2 nl p2) (.slice a3 n3 p3) (.slice a4 n4 p4) (.slice a5 n5 p5) (.slice a6 nf p6) (.slice a7 n7 p7) (.slice a8 n8 p8) (.slice a9 n9 p9))) (results_cell rfl rfl l1) rfl ?_; rw [HF.out]; exact ⟨_, _, _, _, _, _, _, _, _, _, _, rfl, HW.out.less (by simp +contextual), unhide HR⟩
   (have hin : inB 0 ((nl : Int) - 1) po = true := by unfold inB; simp; omega); obtain ⟨z, rfl⟩ : ∃ z : Nat, po = (z : Int) := ⟨po.toNat, by omega⟩; (have hzl : z < W.log.length := by have q := HNL.out; omega); (have HF : Hid (stepW W kd k add rem (z : Int) text = joinW W k z) := by show _ = _; rw [HE.out, if_neg h1, if_neg h4, if_neg h5, if_neg h2, if_pos H3.out, if_pos hpo, Int.toNat_natCast]); (repeat ((fail_if_success (refine pl_id ?_)); go_step)); refine w_i ?_; refine w_q ?_; refine w_b E 4 ?_; refine w_q ?_; refine w_b A 2 ?_; refine w_q ?_; refine w_q ?_; refine w_k (l1In_any (z : Int) 0 ((nl : Int) - 1) _) ?_; rw [hin]; rintro e wz ⟨rfl, hz⟩; replace hz := hz.symm; subst hz; refine s_k ?_; refine w_q ?_; refine w_e ?_; (repeat ((fail_if_success (refine pl_id ?_)); go_step)); refine w_i ?_; refine w_q ?_; refine w_b E 0 ?_; refine w_q ?_; refine w_e ?_; (repeat ((fail_if_success (refine pl_id ?_)); go_step)); refine w_i ?_; refine w_c A ?_; refine w_q ?_; refine w_b E 1 ?_; refine w_q ?_; refine w_b E 4 ?_; refine w_k (l7Join_any _ _ B _ _ _ _ _ _ _ _ _ _ W k z _ HW.out (Nat.le_trans HB0.out HB.out.size) HK.out HZ.out.seats hzl HZ.out.waits HZ.out.wait (HZ.out.cmt z)) ?_; rintro e w5 ⟨X3, e1, rfl, HW3, HK3⟩; refine s_k ?_; have R5 := R.out.keepR HK3 HW.out (by simp); have HR5 := HR.out.trans HK3; have hnb := HN.out; refine w_1 (fun K hK => ?_); refine op_row 41 (.tmp 4) (.tmp 57) rfl bR (wldC (.slice a0 n0 p0) e1 (.slice a2 nl p2) (.slice a3 n3 p3) (.slice a4 n4 p4) (.slice a5 n5 p5) (.slice a6 nf p6) (.slice a7 n7 p7) (.slice a8 n8 p8) (.slice a9 n9 p9)) _ 41 rfl rfl R5 info_wld rfl (one_wld HW3) (fun w6 NEW hg hs => ?_); refine sh hK ?_; clear hK; have HW6 := HW3.other hg (by simp); have HR6 := HR5.new hg (by omega); refine w_e ?_; have l1 := load_wld NEW rfl; (go_wp2_with fail); refine bodyPost_ret (v := .agg (wldC (.slice a0 n0 p0) e1 (.slice a2 nl p2) (.slice a3 n3 p3) (.slice a4 n4 p4) (.slice a5 n5 p5) (.slice a6 nf p6) (.slice a7 n7 p7) (.slice a8 n8 p8) (.slice a9 n9 p9))) (results_cell rfl rfl l1) rfl ?_; rw [HF.out]; exact ⟨_, _, _, _, _, _, _, _, _, _, _, rfl, HW6.less (by simp +contextual), HR6⟩
 (have b3 : (kd == 3) = false := by simpa using h3); (have d3 : decide (kd = 3) = false := by simpa using h3); (repeat ((fail_if_success (refine pl_id ?_)); go_step)); refine w_i ?_; refine w_q ?_; refine w_q ?_; refine w_e ?_; by_cases h6 : kd = 6
 · (have b6 : (kd == 6) = true := by simpa using h6); (have d6 : decide (kd = 6) = true := by simpa using h6); have H6 := hide h6; clear h6; (repeat ((fail_if_success (refine pl_id ?_)); go_step)); refine w_i ?_; refine w_q ?_; refine w_q ?_; refine w_e ?_; by_cases hpo : 0 ≤ po ∧ po < (nf : Int); rotate_left
   · (have hin : inB 0 ((nf : Int) - 1) po = false := by unfold inB; simp; omega); (have HF : Hid (stepW W kd k add rem po text = W) := by show _ = _; rw [HE.out, if_neg h1, if_neg h4, if_neg h5, if_neg h2, if_neg h3, if_pos H6.out, if_neg hpo]); (repeat ((fail_if_success (refine pl_id ?_)); go_step)); refine w_i ?_; refine w_q ?_; refine w_b E 4 ?_; refine w_q ?_; refine w_b A 6 ?_; refine w_q ?_; refine w_q ?_; refine w_k (l1In_any po 0 ((nf : Int) - 1) _) ?_; rw [hin]; rintro e wz ⟨rfl, hz⟩; replace hz := hz.symm; subst hz; refine s_k ?_; refine w_e ?_; (repeat ((fail_if_success (refine pl_id ?_)); go_step)); refine w_i ?_; refine w_c A ?_; refine w_s R (wldC (.slice a0 n0 p0) (.slice a1 n1 p1) (.slice a2 nl p2) (.slice a3 n3 p3) (.slice a4 n4 p4) (.slice a5 n5 p5) (.slice a6 nf p6) (.slice a7 n7 p7) (.slice a8 n8 p8) (.slice a9 n9 p9)) ?_; clear R; intro wc OLD R hg hs; refine gy6 A E HR HW HB HN ?_; clear A E HR HW HB HN; intro A E HR HW HB HN; clear hg hs OLD; refine w_e ?_; have l1 := load_wld R.out rfl; (go_wp2_with fail); refine bodyPost_ret (v := .agg (wldC (.slice a0 n0 p0) (.slice a1 n1 p1) (.slice a2 nl p2) (.slice a3 n3 p3) (.slice a4 n4 p4) (.slice a5 n5 p5) (.slice a6 nf p6) (.slice a7 n7 p7) (.slice a8 n8 p8) (.slice a9 n9 p9))) (results_cell rfl rfl l1) rfl ?_; rw [HF.out]; exact ⟨_, _, _, _, _, _, _, _, _, _, _, rfl, HW.out.less (by simp +contextual), unhide HR⟩
   (have hin : inB 0 ((nf : Int) - 1) po = true := by unfold inB; simp; omega); obtain ⟨z, rfl⟩ : ∃ z : Nat, po = (z : Int) := ⟨po.toNat, by omega⟩; (have hzl : z < W.frames.length := by have q := HNL.out; omega); (have HF : Hid (stepW W kd k add rem (z : Int) text = gotW W k z) := by show _ = _; rw [HE.out, if_neg h1, if_neg h4, if_neg h5, if_neg h2, if_neg h3, if_pos H6.out, if_pos hpo, Int.toNat_natCast]); (repeat ((fail_if_success (refine pl_id ?_)); go_step)); refine w_i ?_; refine w_q ?_; refine w_b E 4 ?_; refine w_q ?_; refine w_b A 6 ?_; refine w_q ?_; refine w_q ?_; refine w_k (l1In_any (z : Int) 0 ((nf : Int) - 1) _) ?_; rw [hin]; rintro e wz ⟨rfl, hz⟩; replace hz := hz.symm; subst hz; refine s_k ?_; refine w_e ?_; (repeat ((fail_if_success (refine pl_id ?_)); go_step)); refine w_i ?_; refine w_c A ?_; refine w_q ?_; refine w_b E 1 ?_; refine w_q ?_; refine w_b E 4 ?_; refine w_k (l7Get_any _ _ B _ _ _ _ _ _ _ _ _ _ W k z _ HW.out (Nat.le_trans HB0.out HB.out.size) HK.out HZ.out.seats HZ.out.wins hzl HZ.out.told (HZ.out.seat k) (HZ.out.seat15 k) (HZ.out.frame z) (HZ.out.win k)) ?_; rintro e w5 ⟨X3, e1, rfl, HW3, HK3⟩; refine s_k ?_; have R5 := R.out.keepR HK3 HW.out (by simp); have HR5 := HR.out.trans HK3; have hnb := HN.out; refine w_1 (fun K hK => ?_); refine op_row 41 (.tmp 4) (.tmp 72) rfl bR (wldC (.slice a0 n0 p0) (.slice a1 n1 p1) (.slice a2 nl p2) (.slice a3 n3 p3) (.slice a4 n4 p4) (.slice a5 n5 p5) (.slice a6 nf p6) (.slice a7 n7 p7) (.slice a8 n8 p8) e1) _ 41 rfl rfl R5 info_wld rfl (one_wld HW3) (fun w6 NEW hg hs => ?_); refine sh hK ?_; clear hK; have HW6 := HW3.other hg (by simp); have HR6 := HR5.new hg (by omega); refine w_e ?_; have l1 := load_wld NEW rfl; (go_wp2_with fail); refine bodyPost_ret (v := .agg (wldC (.slice a0 n0 p0) (.slice a1 n1 p1) (.slice a2 nl p2) (.slice a3 n3 p3) (.slice a4 n4 p4) (.slice a5 n5 p5) (.slice a6 nf p6) (.slice a7 n7 p7) (.slice a8 n8 p8) e1)) (results_cell rfl rfl l1) rfl ?_; rw [HF.out]; exact ⟨_, _, _, _, _, _, _, _, _, _, _, rfl, HW6.less (by simp +contextual), HR6⟩
 (have b6 : (kd == 6) = false := by simpa using h6); (have d6 : decide (kd = 6) = false := by simpa using h6); (have HF : Hid (stepW W kd k add rem po text = W) := by show _ = _; rw [HE.out, if_neg h1, if_neg h4, if_neg h5, if_neg h2, if_neg h3, if_neg h6]); (repeat ((fail_if_success (refine pl_id ?_)); go_step)); refine w_i ?_; refine w_q ?_; refine w_q ?_; refine w_e ?_; (repeat ((fail_if_success (refine pl_id ?_)); go_step)); refine w_i ?_; refine w_c A ?_; refine w_s R (wldC (.slice a0 n0 p0) (.slice a1 n1 p1) (.slice a2 nl p2) (.slice a3 n3 p3) (.slice a4 n4 p4) (.slice a5 n5 p5) (.slice a6 nf p6) (.slice a7 n7 p7) (.slice a8 n8 p8) (.slice a9 n9 p9)) ?_; clear R; intro wc OLD R hg hs; refine gy6 A E HR HW HB HN ?_; clear A E HR HW HB HN; intro A E HR HW HB HN; clear hg hs OLD; refine w_e ?_; have l1 := load_wld R.out rfl; (go_wp2_with fail); refine bodyPost_ret (v := .agg (wldC (.slice a0 n0 p0) (.slice a1 n1 p1) (.slice a2 nl p2) (.slice a3 n3 p3) (.slice a4 n4 p4) (.slice a5 n5 p5) (.slice a6 nf p6) (.slice a7 n7 p7) (.slice a8 n8 p8) (.slice a9 n9 p9))) (results_cell rfl rfl l1) rfl ?_; rw [HF.out]; exact ⟨_, _, _, _, _, _, _, _, _, _, _, rfl, HW.out.less (by simp +contextual), unhide HR⟩
structure Ex (b : Nat) (w w' : World) : Prop where
  os : w'.os = w.os
  tape : w'.tape = w.tape
  output : w'.output = w.output
  size : w.heap.size ≤ w'.heap.size
  block : ∀ k, k < w.heap.size → k ≠ b → w'.heap[k]? = w.heap[k]?
theorem Ex.refl (b : Nat) (w : World) : Ex b w w := ⟨rfl, rfl, rfl, Nat.le_refl _, fun _ _ _ => rfl⟩
theorem Ex.trans {b : Nat} {u v w : World} (h : Ex b u v) (k : Ex b v w) : Ex b u w := ⟨k.os.trans h.os, k.tape.trans h.tape, k.output.trans h.output, Nat.le_trans h.size k.size, fun i hi hn => (k.block i (Nat.lt_of_lt_of_le hi h.size) hn).trans (h.block i hi hn)⟩
theorem Ex.of_below (b : Nat) {w w' : World} (h : Below w.heap.size w w') : Ex b w w' := ⟨h.os, h.tape, h.output, h.size, fun k hk _ => h.block k hk⟩
theorem Ex.set {b : Nat} {u w : World} (h : Ex b u w) (o : Nat) (v : Value) : Ex b u (w.setCell ⟨b, o, none⟩ v) :=
  h.trans ⟨rfl, rfl, rfl, by simp [World.setCell], fun k _ hn => Below.heap_setCell _ _ _ _ hn⟩
theorem Ex.drewN {b : Nat} {u w : World} (h : Ex b u w) (n : Nat) : Ex b u (w.drewN n) := h.trans ⟨rfl, rfl, rfl, Nat.le_refl _, fun _ _ _ => rfl⟩
theorem Ex.drew {b : Nat} {u w : World} (h : Ex b u w) : Ex b u w.drew := h.trans ⟨rfl, rfl, rfl, Nat.le_refl _, fun _ _ _ => rfl⟩
theorem Ex.alloc {b : Nat} {u w : World} (h : Ex b u w) (o : Obj) : Ex b u (w.alloc o) := h.trans ⟨rfl, rfl, rfl, by simp, fun k hk _ => Below.heap_alloc _ _ _ hk⟩
theorem Ex.below {b : Nat} {w w' : World} (h : Ex b w w') {B : Nat} (hB : B ≤ b) (hw : B ≤ w.heap.size) : Below B w w' := ⟨h.os, h.tape, h.output, h.size, fun k hk => h.block k (by omega) (by omega)⟩
theorem Ex.cell {b : Nat} {w w' : World} (h : Ex b w w') {p : Addr} (hp : p.block < w.heap.size) (hn : p.block ≠ b) : w'.cell? p = w.cell? p := World.cell?_of_block (w := w) (h.block p.block hp hn)
theorem Ex.frozen {b : Nat} {w w' : World} (h : Ex b w w') {p : Addr} (hp : p.block < w.heap.size) (hn : p.block ≠ b) : w'.frozen? p = w.frozen? p := World.frozen?_of_block (w := w) (h.block p.block hp hn)
structure Dr (b : Nat) (a : Option Addr) (len cap : Nat) (z : Nat → Int) (p : Nat) (w : World) : Prop where
  c0 : w.cell? ⟨b, 0, none⟩ = some (.slice a len cap)
  c1 : w.cell? ⟨b, 1, none⟩ = some (.int .i64 (p : Int))
  f1 : w.frozen? ⟨b, 1, none⟩ = false
  lt : b < w.heap.size
  le : len ≤ 2000
  row : len = 0 ∨ ∃ x : Addr, a = some x ∧ x.block < b ∧ ∀ i, i < len → w.cell? (x.add i) = some (.int .u8 (z i)) ∧ 0 ≤ z i ∧ z i ≤ 255
theorem cell_other {w : World} {b : Nat} {q : Addr} {u : Value} (h : w.cell? q = some u) (hq : q.block < b) (v : Value) : (w.setCell ⟨b, 1, none⟩ v).cell? q = some u := by rw [World.cell?_of_block (w := w) (Below.heap_setCell w ⟨b, 1, none⟩ v q.block (by show q.block ≠ b; omega))]; exact h
theorem add_block (x : Addr) (i : Nat) : (x.add i).block = x.block := by unfold Addr.add; split <;> rfl
theorem cell_row {w : World} {b : Nat} {x : Addr} {i : Nat} {u : Value} (h : w.cell? (x.add i) = some u) (hx : x.block < b) (v : Value) : (w.setCell ⟨b, 1, none⟩ v).cell? (x.add i) = some u :=
  cell_other h (by rw [add_block]; exact hx) v
theorem Dr.step {b : Nat} {a : Option Addr} {len cap : Nat} {z : Nat → Int} {p : Nat} {w : World} (h : Dr b a len cap z p w) (n p' : Nat) (v : Value) (hv : v = .int .i64 (p' : Int)) : Dr b a len cap z p' ((w.drewN n).setCell ⟨b, 1, none⟩ v) ∧ Ex b w ((w.drewN n).setCell ⟨b, 1, none⟩ v) := by
 obtain ⟨c0, c1, f1, lt, le, row⟩ := h; subst hv; refine ⟨⟨by simp [go_sem, c0], by simp [go_sem, c1], by simp [go_sem, f1], by simpa [World.setCell] using lt, le, ?_⟩, ((Ex.refl b w).drewN n).set 1 _⟩; rcases row with h0 | ⟨x, hx, hxb, hr⟩
 · exact .inl h0
 · exact .inr ⟨x, hx, hxb, fun i hi => ⟨cell_row (w := w.drewN n) (hr i hi).1 hxb _, (hr i hi).2⟩⟩
theorem Dr.step0 {b : Nat} {a : Option Addr} {len cap : Nat} {z : Nat → Int} {p : Nat} {w : World} (h : Dr b a len cap z p w) (n p' : Nat) (v : Value) (hv : v = .int .i64 (p' : Int)) : Dr b a len cap z p' ((w.setCell ⟨b, 1, none⟩ v).drewN n) ∧ Ex b w ((w.setCell ⟨b, 1, none⟩ v).drewN n) := h.step n p' v hv
theorem bits_xor_i64_nat (a b : Nat) (ha : a < 4611686018427387904) (hb : b < 4611686018427387904) : bits .xor .i64 (a : Int) (b : Int) = ((a ^^^ b : Nat) : Int) := by have hx : a ^^^ b < 2 ^ 62 := Nat.xor_lt_two_pow (by omega) (by omega); (have h1 : (BitVec.ofInt 64 (a : Int)).toNat = a := by rw [BitVec.ofInt_natCast, BitVec.toNat_ofNat]; exact Nat.mod_eq_of_lt (by omega)); (have h2 : (BitVec.ofInt 64 (b : Int)).toNat = b := by rw [BitVec.ofInt_natCast, BitVec.toNat_ofNat]; exact Nat.mod_eq_of_lt (by omega)); show IntKind.i64.wrap ((BitVec.ofInt 64 (a : Int) ^^^ BitVec.ofInt 64 (b : Int)).toNat : Int) = _; rw [BitVec.toNat_xor, h1, h2]; simp [IntKind.wrap, IntKind.bits, IntKind.signed]; omega
theorem ret_nat {a : Int} {b : Nat} (h : a = (b : Int)) : Ending.returned (.int .i64 a) = .returned (.int .i64 (b : Int)) := by rw [h]
theorem mix_nat {X : Int} {n : Nat} (h0 : 0 ≤ X) (h1 : X < 4611686018427387904) (hn : 1 ≤ n) : ∃ v : Nat, (bits BinOp.xor IntKind.i64 X (X / 64)).tmod (n : Int) = (v : Int) ∧ v < n := by obtain ⟨k, rfl⟩ := Int.eq_ofNat_of_zero_le h0; (have e : ((k : Int) / 64) = ((k / 64 : Nat) : Int) := by omega); rw [e, bits_xor_i64_nat k (k / 64) (by omega) (by omega)]; exact ⟨(k ^^^ (k / 64)) % n, rfl, Nat.mod_lt _ (by omega)⟩
theorem pick_row (b : Nat) (x : Addr) (len cap : Nat) (z : Nat → Int) (p n : Nat) (w : World) (h : Dr b (some x) len cap z p w) (hn : 1 ≤ n) (hn2 : n ≤ 1000) (hp : p ≤ 1000000) (hl : len ≠ 0) : Calls Tryz.prog 15 #[.pointer (some ⟨b, 0, none⟩), .int .i64 (n : Int)] w fun e w' => ∃ v : Nat, e = .returned (.int .i64 (v : Int)) ∧ v < n ∧ Dr b (some x) len cap z (p + 1) w' ∧ Ex b w w' := by
 have hD := hide h; obtain ⟨c0, c1, f1, lt, le, row⟩ := h; (have hn3 : decide ((n : Int) < 1) = false := by simp; omega); (have hl3 : ((len : Int) == 0) = false := by simp; omega); obtain ⟨x', hx, hxb, hrow⟩ := row.resolve_left hl; simp only [Option.some.injEq] at hx; subst hx; by_cases hlt : p < len
 · obtain ⟨r1, r2, r3⟩ := hrow p hlt; have r4 : ∀ v, (w.setCell ⟨b, 1, none⟩ v).cell? (x.add p) = some (.int .u8 (z p)) := fun v => cell_row r1 hxb v; (have hn4 : ((n : Int) == 0) = false := by simp; omega); clear hrow row r1; go_enter Tryz.func15, Tryz.ntmps15; (go_wp2_with fail); go_ret; obtain ⟨d1, d2⟩ := hD.out.step 0 (p + 1) (.int .i64 ((p : Int) + 1)) (by simp); have w1 := Int.emod_nonneg (z p) (show (n : Int) ≠ 0 by omega); have w2 := Int.emod_lt_of_pos (z p) (show (0 : Int) < (n : Int) by omega); exact ⟨(z p % (n : Int)).toNat, ret_nat (by omega), by omega, d1, d2⟩
 · (have hd : decide ((p : Int) < (len : Int)) = false := by simp; omega); obtain ⟨k1, t1, m1⟩ : ∃ k1 : Nat, (p : Int).tmod (len : Int) = (k1 : Int) ∧ k1 < len := ⟨p % len, rfl, Nat.mod_lt _ (by omega)⟩; obtain ⟨k2, t2, m2⟩ : ∃ k2 : Nat, ((p : Int) * 7 + 3).tmod (len : Int) = (k2 : Int) ∧ k2 < len := ⟨(p * 7 + 3) % len, rfl, Nat.mod_lt _ (by omega)⟩; obtain ⟨k3, t3, m3⟩ : ∃ k3 : Nat, (p : Int).tdiv (len : Int) = (k3 : Int) ∧ k3 ≤ 1000000 := ⟨p / len, rfl, by have := Nat.div_le_self p len; omega⟩; obtain ⟨r1, r2, r3⟩ := hrow _ m1; obtain ⟨q1, q2, q3⟩ := hrow _ m2; have r4 : ∀ v, (w.setCell ⟨b, 1, none⟩ v).cell? (x.add k1) = some (.int .u8 (z k1)) := fun v => cell_row r1 hxb v; have q4 : ∀ v, (w.setCell ⟨b, 1, none⟩ v).cell? (x.add k2) = some (.int .u8 (z k2)) := fun v => cell_row q1 hxb v; (have m1' : (k1 : Int) < (len : Int) := by omega); (have m2' : (k2 : Int) < (len : Int) := by omega); (have hn4 : ((n : Int) == 0) = false := by simp; omega); generalize z k1 = z1 at *; generalize z k2 = z2 at *; clear hrow row r1 q1; go_enter Tryz.func15, Tryz.ntmps15; (go_wp2_with fail); go_quiet (fail); (go_wp2_with fail); go_ret; obtain ⟨d1, d2⟩ := hD.out.step0 nq (p + 1) (.int .i64 ((p : Int) + 1)) (by simp); obtain ⟨v, hv1, hv2⟩ := mix_nat (X := z1 * 131 + z2 * 1117 + (p : Int) * 29 + (k3 : Int) * 53) (by omega) (by omega) hn; exact ⟨v, ret_nat hv1, hv2, d1, d2⟩
structure Code where
  a : Option Addr
  len : Nat
  cap : Nat
  z : Nat → Int
def DrC (b : Nat) (C : Code) (p : Nat) (w : World) : Prop := Dr b C.a C.len C.cap C.z p w
theorem DrC.lt {b : Nat} {C : Code} {p : Nat} {w : World} (h : DrC b C p w) : b < w.heap.size := Dr.lt h
theorem DrC.below {b : Nat} {C : Code} {p : Nat} {w w' : World} (h : DrC b C p w) (hb : Below w.heap.size w w') : DrC b C p w' := by
 obtain ⟨c0, c1, f1, lt, le, row⟩ := h; refine ⟨(hb.cell (p := ⟨b, 0, none⟩) lt).trans c0, (hb.cell (p := ⟨b, 1, none⟩) lt).trans c1, (hb.frozen (p := ⟨b, 1, none⟩) lt).trans f1, Nat.lt_of_lt_of_le lt hb.size, le, ?_⟩; rcases row with h0 | ⟨x, hx, hxb, hr⟩
 · exact .inl h0
 · exact .inr ⟨x, hx, hxb, fun i hi => ⟨(hb.cell (p := x.add i) (by rw [add_block]; omega)).trans (hr i hi).1, (hr i hi).2⟩⟩
theorem DrC.alloc {b : Nat} {C : Code} {p : Nat} {w : World} (h : DrC b C p w) (o : Obj) : DrC b C p (w.alloc o) := h.below ((Below.refl _ _).alloc (Nat.le_refl _) _)
theorem DrC.drew {b : Nat} {C : Code} {p : Nat} {w : World} (h : DrC b C p w) : DrC b C p w.drew := h.below (Below.refl _ _).drew
theorem DrC.drewN {b : Nat} {C : Code} {p : Nat} {w : World} (h : DrC b C p w) (n : Nat) : DrC b C p (w.drewN n) := h.below (below_drewN (Below.refl _ _) n)
def PickPost (b : Nat) (C : Code) (p n : Nat) (w : World) (e : Ending) (w' : World) : Prop :=
  ∃ v : Nat, e = .returned (.int .i64 (v : Int)) ∧ v < n ∧ DrC b C (p + 1) w' ∧ Ex b w w'
theorem pick_any (b : Nat) (C : Code) (p n : Nat) (m : Int) (hm : m = (n : Int)) (w : World) (h : DrC b C p w) (hn : 1 ≤ n) (hn2 : n ≤ 1000) (hp : p ≤ 1000000) : Calls Tryz.prog 15 #[.pointer (some ⟨b, 0, none⟩), .int .i64 m] w (PickPost b C p n w) := by
 subst hm; obtain ⟨a, len, cap, z⟩ := C; by_cases hl : len = 0
 · have hD : Hid (Dr b a len cap z p w) := h; obtain ⟨c0, c1, f1, lt, le, row⟩ := h; simp only at c0; subst hl; (have hn3 : decide ((n : Int) < 1) = false := by simp; omega); clear row; go_enter Tryz.func15, Tryz.ntmps15; (go_wp2_with fail); go_ret; obtain ⟨d1, d2⟩ := hD.out.step 0 (p + 1) (.int .i64 ((p : Int) + 1)) (by simp); exact ⟨0, rfl, by omega, d1, d2⟩
 · have h2 : Dr b a len cap z p w := h; obtain ⟨x, hx, _⟩ := h2.row.resolve_left hl; subst hx; exact pick_row b x len cap z p n w h2 hn hn2 hp hl
theorem row_ex {b B : Nat} {w w' : World} {e : TypeId} {size : Nat} {v : Value} {n : Nat} {xs : List Value} (h : w.ownsRow B e size v n xs) (x : Ex b w w') (hb : b < B) : w'.ownsRow B e size v n xs := by refine ⟨h.1, h.2.imp id ?_⟩; rintro ⟨g, cap, cur, h1, h2, h3, h4⟩; exact ⟨g, cap, cur, h1, h2, (x.block g (Array.getElem?_eq_some_iff.1 h3).1 (by omega)).trans h3, h4⟩
theorem Own.ex {b B : Nat} {w w' : World} {v : Value} {xs : List ByteArray} (h : Own B w v xs) (x : Ex b w w') (hb : b < B) : Own B w' v xs := row_ex h x hb
theorem DrC.grown {b : Nat} {C : Code} {p : Nat} {w w' : World} {r : Option Nat} (h : DrC b C p w) (hg : w.grownBy w' r) (hr : ∀ k, r = some k → b < k) : DrC b C p w' := by
 have hblk : ∀ k, k ≤ b → k < w.heap.size → w'.heap[k]? = w.heap[k]? := fun k hk hl => hg.block k hl (fun e => by have := hr k e.symm; omega); obtain ⟨c0, c1, f1, lt, le, row⟩ := h; have hb := hblk b (Nat.le_refl _) lt; refine ⟨(World.cell?_of_block (a := ⟨b, 0, none⟩) hb).trans c0, (World.cell?_of_block (a := ⟨b, 1, none⟩) hb).trans c1, (World.frozen?_of_block (a := ⟨b, 1, none⟩) hb).trans f1, Nat.lt_of_lt_of_le lt hg.size, le, ?_⟩; rcases row with h0 | ⟨x, hx, hxb, hrw⟩
 · exact .inl h0
 · refine .inr ⟨x, hx, hxb, fun i hi => ⟨?_, (hrw i hi).2⟩⟩; (have : (x.add i).block < b := by rw [add_block]; exact hxb); exact (World.cell?_of_block (a := x.add i) (hblk _ (by omega) (by omega))).trans (hrw i hi).1
theorem Ex.grown {b : Nat} {w0 w w' : World} {r : Option Nat} (h : Ex b w0 w) (hg : w.grownBy w' r) (hr : ∀ k, r = some k → w0.heap.size ≤ k) : Ex b w0 w' :=
  ⟨hg.os.trans h.os, hg.tape.trans h.tape, hg.output.trans h.output, Nat.le_trans h.size hg.size, fun k hk hn => (hg.block k (Nat.lt_of_lt_of_le hk h.size) (fun e => by have := hr k e.symm; omega)).trans (h.block k hk hn)⟩
theorem Ex.gb {b : Nat} {w w' : World} (h : Ex b w w') : w.grownBy w' (some b) := ⟨h.os, h.tape, h.output, h.size, fun k hk hne => h.block k hk (fun e => hne (by rw [e]))⟩
def EvPost (b : Nat) (C : Code) (p : Nat) (w : World) (e : Ending) (w' : World) : Prop :=
  ∃ (kd : Int) (k : Nat) (add rem po : Int) (text : ByteArray) (q : Nat), e = .returned (.agg (evC kd (k : Int) add rem po text)) ∧ k < 8 ∧ (1 ≤ kd ∧ kd ≤ 6) ∧ text.size ≤ 3 ∧ q ≤ p + 10 ∧ DrC b C q w' ∧ Ex b w w'
theorem load_ev {w : World} {b : Nat} {cs : Array Value} (h : Blk w b 69 cs) (hc : cs.size = 6) : (loadVar 69 ⟨b, 0, Option.none⟩).run Tryz.prog w = .ok (.agg cs) w :=
  run_loadVar_row w b _ _ cs (0, 0) _ h Tryz.underlying69 rfl (by rw [hc]; exact info_ev)
theorem one_ev (a b c d e : Int) (t : ByteArray) : (evC a b c d e t).all (·.oneCell') = true := by simp [Value.oneCell']
end Go.Proofs.YtdfpeaenbmgihaaGreat
