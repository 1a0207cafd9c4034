/-
  The recursive descent over names, over the landed program: what reading a name at a place comes to.
-/
import Derived.Shelf.LaysM
import Derived.Shelf.Strconv.Clone
import Derived.Deep.RegionWith
import Derived.BigRegion
import Derived.Test.YtdfpeaenbmgihaaGreatWB3
namespace Go.Proofs.YtdfpeaenbmgihaaGreat
set_option maxHeartbeats 64000000
set_option maxRecDepth 100000
open Go.RowKit
def secV (s : ByteArray) (a : Nat) : Value :=
  if Kw.g s a = 110 then .iface 94 (.agg #[.string (s.extract (a + 1) (a + 1 + Kw.len s (a + 1)))])
  else if Kw.g s a = 107 then .iface 95 (.agg #[.string (s.extract (a + 1) (a + 1 + Kw.len s (a + 1)))])
  else if Kw.g s a = 101 then .iface 121 (.agg #[.string (s.extract (a + 1) (a + 1 + Kw.len s (a + 1))), .string (s.extract (a + 1 + Kw.len s (a + 1)) (a + 1 + Kw.len s (a + 1) + Kw.len s (a + 1 + Kw.len s (a + 1))))])
  else if Kw.g s a = 109 then .iface 125 (.agg #[.string (s.extract (a + 2) (a + 2 + Kw.len s (a + 2))), .int .i64 ((Kw.g s (a + 1) : Int) - 65)])
  else if Kw.g s a = 114 then .iface 128 (.agg #[.string (s.extract (a + 2) (a + 2 + Kw.len s (a + 2))), .int .i64 ((Kw.g s (a + 1) - 48 : Nat) : Int)])
  else .iface 130 (.agg #[.int .i64 ((Kw.g s a : Int) - 65), .int .i64 (Kw.nv s a : Int)])
def Post (b : Nat) (s : ByteArray) (a k : Nat) (v : Value) (w : World) (e : Ending) (w' : World) : Prop :=
  Below b w w' ∧ ((k ≠ 0 ∧ e = .returned (.tuple #[v, .bool true]) ∧ Rd b s (a + k) w') ∨ (k = 0 ∧ (∃ u, e = .returned (.tuple #[u, .bool false])) ∧ ∃ a1, Rd b s a1 w'))
theorem Post.yes {b : Nat} {s : ByteArray} {a k : Nat} {v : Value} {w : World} {e : Ending} {w' : World} (h : Post b s a k v w e w') (hk : k ≠ 0) : e = .returned (.tuple #[v, .bool true]) ∧ Rd b s (a + k) w' ∧ Below b w w' := by
 obtain ⟨h1, ⟨_, h2, h3⟩ | ⟨h2, _⟩⟩ := h
 · exact ⟨h2, h3, h1⟩
 · exact absurd h2 hk
theorem Post.no {b : Nat} {s : ByteArray} {a k : Nat} {v : Value} {w : World} {e : Ending} {w' : World} (h : Post b s a k v w e w') (hk : k = 0) : ∃ u, e = .returned (.tuple #[u, .bool false]) ∧ (∃ a1, Rd b s a1 w') ∧ Below b w w' := by
 obtain ⟨h1, ⟨h2, _⟩ | ⟨_, ⟨u, h2⟩, h3⟩⟩ := h
 · exact absurd hk h2
 · exact ⟨u, h2, h3, h1⟩
def PostN (b : Nat) (s : ByteArray) (a k : Nat) (v : Value) (w : World) (e : Ending) (w' : World) : Prop :=
  Below b w w' ∧ ((k ≠ 0 ∧ e = .returned (.tuple #[v, .bool true]) ∧ Rd b s (a + k) w') ∨ (k = 0 ∧ e = .returned (.tuple #[.string ⟨#[]⟩, .bool false]) ∧ ∃ a1, Rd b s a1 w'))
theorem PostN.yes {b : Nat} {s : ByteArray} {a k : Nat} {v : Value} {w : World} {e : Ending} {w' : World} (h : PostN b s a k v w e w') (hk : k ≠ 0) : e = .returned (.tuple #[v, .bool true]) ∧ Rd b s (a + k) w' ∧ Below b w w' := by
 obtain ⟨h1, ⟨_, h2, h3⟩ | ⟨h2, _⟩⟩ := h
 · exact ⟨h2, h3, h1⟩
 · exact absurd h2 hk
theorem PostN.no {b : Nat} {s : ByteArray} {a k : Nat} {v : Value} {w : World} {e : Ending} {w' : World} (h : PostN b s a k v w e w') (hk : k = 0) : e = .returned (.tuple #[.string ⟨#[]⟩, .bool false]) ∧ (∃ a1, Rd b s a1 w') ∧ Below b w w' := by
 obtain ⟨h1, ⟨h2, _⟩ | ⟨_, h2, h3⟩⟩ := h
 · exact absurd hk h2
 · exact ⟨h2, h3, h1⟩
theorem readNew_any (b : Nat) (s : ByteArray) (a : Nat) (w : World) (hs : s.size ≤ 300) (h : Rd b s a w) (ha : a ≤ s.size) : Calls Tryz.prog 40 #[.pointer (some ⟨b, 0, none⟩)] w (Post b s a (Kw.fresh s a) (.iface 130 (.agg #[.int .i64 ((Kw.g s a : Int) - 65), .int .i64 (Kw.nv s a : Int)])) w) := by
 have hr := hide h; clear h; by_cases hf : Kw.fresh s a = 0
 · by_cases hl : Kw.g s a < 65 ∨ 72 < Kw.g s a
   · have hf' := hide hf; clear hf; go_enter Tryz.func40, Tryz.ntmps40; (go_wp2_with fail); refine (readLetter_no b s a _ hs hr.out hl).mono ?_; rintro e w1 ⟨v1, rfl, r1, hb1⟩; (go_wp2_with fail); go_ret2; exact ⟨hb1, .inr ⟨hf'.out, ⟨_, rfl⟩, r1⟩⟩
   · have hn := Kw.fresh_no hf (by omega) (by omega); have ha2 : a < s.size := Kw.g_lt.1 (by omega); have hf' := hide hf; clear hf; rcases hn with hn | ⟨n, a1, hn, h59, ha1⟩
     · have hN := hide hn; clear hn; go_enter Tryz.func40, Tryz.ntmps40; (go_wp2_with fail); refine (readLetter_yes b s a _ hs hr.out (by omega) (by omega)).mono ?_; rintro e w1 ⟨rfl, r1, hb1⟩; (go_wp2_with fail); refine (readNumber_no b s (a + 1) _ 99 rfl _ hs r1 (by omega) (by omega) hN).mono ?_; rintro e w2 ⟨rfl, r2, hb2⟩; (go_wp2_with fail); go_ret2; exact ⟨hb1.trans hb2, .inr ⟨hf'.out, ⟨_, rfl⟩, r2⟩⟩
     · have hN := hide hn; clear hn; by_cases ha3 : a1 < s.size
       · (have hne : ((Kw.g s a1 : Int) == 59) = false := by simp; omega); have hg := Kw.g_lt.2 ha3; clear h59; go_enter Tryz.func40, Tryz.ntmps40; (go_wp2_with fail); refine (readLetter_yes b s a _ hs hr.out (by omega) (by omega)).mono ?_; rintro e w1 ⟨rfl, r1, hb1⟩; (go_wp2_with fail); refine (readNumber_yes b s (a + 1) _ 99 rfl _ hs r1 (by omega) (by omega) hN).mono ?_; rintro e w2 ⟨rfl, r2, hb2⟩; (go_wp2_with fail); refine (readSign_in b s a1 _ hs r2 ha3).mono ?_; rintro e w3 ⟨rfl, r3, hb3⟩; (go_wp2_with fail); go_ret2; exact ⟨(hb1.trans hb2).trans hb3, .inr ⟨hf'.out, ⟨_, rfl⟩, ⟨_, r3⟩⟩⟩
       · clear h59; go_enter Tryz.func40, Tryz.ntmps40; (go_wp2_with fail); refine (readLetter_yes b s a _ hs hr.out (by omega) (by omega)).mono ?_; rintro e w1 ⟨rfl, r1, hb1⟩; (go_wp2_with fail); refine (readNumber_yes b s (a + 1) _ 99 rfl _ hs r1 (by omega) (by omega) hN).mono ?_; rintro e w2 ⟨rfl, r2, hb2⟩; (go_wp2_with fail); refine (readSign_out b s a1 _ r2 (by omega)).mono ?_; rintro e w3 ⟨rfl, r3, hb3⟩; (go_wp2_with fail); go_ret2; exact ⟨(hb1.trans hb2).trans hb3, .inr ⟨hf'.out, ⟨_, rfl⟩, ⟨_, r3⟩⟩⟩
 · obtain ⟨p1, p2, p3, p4, p5⟩ := Kw.fresh_yes hf; have ple := Kw.fresh_le hf; have hN := hide p3; have hf' := hide hf; (have ha3 : a + Kw.fresh s a - 1 < s.size := by omega); have heq : Kw.g s (a + Kw.fresh s a - 1) = 59 := p4; (have hpos : a + Kw.fresh s a - 1 + 1 = a + Kw.fresh s a := by omega); have hpos' := hide hpos; generalize hq : a + Kw.fresh s a - 1 = q at *; clear p3 hf p4 hpos; have hq' := hide hq; clear hq; go_enter Tryz.func40, Tryz.ntmps40; (go_wp2_with fail); refine (readLetter_yes b s a _ hs hr.out p1 p2).mono ?_; rintro e w1 ⟨rfl, r1, hb1⟩; (go_wp2_with fail); refine (readNumber_yes b s (a + 1) _ 99 rfl _ hs r1 (by omega) (by omega) hN).mono ?_; rintro e w2 ⟨rfl, r2, hb2⟩; (go_wp2_with fail); refine (readSign_in b s q _ hs r2 ha3).mono ?_; rintro e w3 ⟨rfl, r3, hb3⟩; (go_wp2_with fail); go_ret2; exact ⟨(hb1.trans hb2).trans hb3, .inl ⟨hf'.out, rfl, by rw [hpos'.out] at r3; exact r3⟩⟩
def HowAt (b : Nat) (s : ByteArray) (a : Nat) : Prop := ∀ w, Rd b s a w → Calls Tryz.prog 22 #[.pointer (some ⟨b, 0, none⟩)] w (Post b s a (Kw.len s a) (secV s a) w)
def NameAt (b : Nat) (s : ByteArray) (a : Nat) : Prop := ∀ w, Rd b s a w → Calls Tryz.prog 36 #[.pointer (some ⟨b, 0, none⟩)] w (PostN b s a (Kw.len s a) (.string (s.extract a (a + Kw.len s a))) w)
theorem readName_of (b : Nat) (s : ByteArray) (a : Nat) (H : HowAt b s a) : NameAt b s a := by
 intro w h; have hr := hide h; have hh := hide h; obtain ⟨t, p, f, lt⟩ := h; by_cases hl : Kw.len s a = 0
 · have hl' := hide hl; clear hl; go_enter Tryz.func36, Tryz.ntmps36; (go_wp2_with fail); refine (H _ hr.out).mono ?_; rintro e w1 h1; obtain ⟨u, rfl, r1, hb1⟩ := h1.no hl'.out; clear h1; (go_wp2_with fail); go_ret2; exact ⟨hb1, .inr ⟨hl'.out, rfl, r1⟩⟩
 · have hle := Kw.len_le hl; have hl' := hide hl; clear hl; go_enter Tryz.func36, Tryz.ntmps36; (go_wp2_with fail); refine (H _ hr.out).mono ?_; rintro e w1 h1; obtain ⟨rfl, r1, hb1⟩ := h1.yes hl'.out; clear h1; have hr1 := hide r1; clear t p f lt; obtain ⟨t, p, f, lt⟩ := r1; generalize Kw.len s a = k at *; (have i0 : a ≤ a + k := by omega); generalize hk : a + k = m at *; have hk' := hide hk; clear hk; (have i1 : (a : Int) ≤ (m : Int) := by omega); (have i2 : (m : Int) ≤ (s.size : Int) := by omega); (go_wp2_with fail); go_quiet (fail); (go_wp2_with fail); go_ret2; obtain ⟨r2, hb2⟩ := hr1.out.drewN nq; exact ⟨hb1.trans hb2, .inl ⟨hl'.out, rfl, by rw [hk'.out]; exact r2⟩⟩
theorem readEpoch_of (b : Nat) (s : ByteArray) (a : Nat) (H : NameAt b s a) (H2 : Kw.len s a ≠ 0 → NameAt b s (a + Kw.len s a)) (w : World) (h : Rd b s a w) : Calls Tryz.prog 37 #[.pointer (some ⟨b, 0, none⟩)] w (Post b s a (Kw.epLen s a) (.iface 121 (.agg #[.string (s.extract a (a + Kw.len s a)), .string (s.extract (a + Kw.len s a) (a + Kw.len s a + Kw.len s (a + Kw.len s a)))])) w) := by
 have hr := hide h; clear h; by_cases hl : Kw.len s a = 0
 · have hl' := hide hl; clear hl; go_enter Tryz.func37, Tryz.ntmps37; (go_wp2_with fail); refine (H _ hr.out).mono ?_; rintro e w1 h1; obtain ⟨rfl, r1, hb1⟩ := h1.no hl'.out; clear h1; (go_wp2_with fail); go_ret2; exact ⟨hb1, .inr ⟨by unfold Kw.epLen; rw [if_pos hl'.out], ⟨_, rfl⟩, r1⟩⟩
 · have H3 := H2 hl; clear H2; have hl' := hide hl; clear hl; generalize hm : a + Kw.len s a = m at *; have hm' := hide hm; clear hm; by_cases hk : Kw.len s m = 0
   · have hk' := hide hk; clear hk; go_enter Tryz.func37, Tryz.ntmps37; (go_wp2_with fail); refine (H _ hr.out).mono ?_; rintro e w1 h1; obtain ⟨rfl, r1, hb1⟩ := h1.yes hl'.out; rw [hm'.out] at r1; clear h1; (go_wp2_with fail); refine (H3 _ r1).mono ?_; rintro e w2 h2; obtain ⟨rfl, r2, hb2⟩ := h2.no hk'.out; clear h2; (go_wp2_with fail); go_ret2; exact ⟨hb1.trans hb2, .inr ⟨by unfold Kw.epLen; rw [if_neg hl'.out, hm'.out, Kw.more_zero hk'.out], ⟨_, rfl⟩, r2⟩⟩
   · have hk' := hide hk; clear hk; go_enter Tryz.func37, Tryz.ntmps37; (go_wp2_with fail); refine (H _ hr.out).mono ?_; rintro e w1 h1; obtain ⟨rfl, r1, hb1⟩ := h1.yes hl'.out; rw [hm'.out] at r1 ⊢; clear h1; (go_wp2_with fail); refine (H3 _ r1).mono ?_; rintro e w2 h2; obtain ⟨rfl, r2, hb2⟩ := h2.yes hk'.out; clear h2; (go_wp2_with fail); go_ret2; (have e2 : Kw.epLen s a = Kw.len s a + Kw.len s m := by unfold Kw.epLen; rw [if_neg hl'.out, hm'.out, Kw.more_pos hk'.out]); refine ⟨hb1.trans hb2, .inl ⟨by rw [e2]; have := hk'.out; omega, rfl, ?_⟩⟩; rw [e2, ← Nat.add_assoc, hm'.out]; exact r2
theorem readSay_of (b : Nat) (s : ByteArray) (a : Nat) (hs : s.size ≤ 300) (H : a < s.size → NameAt b s (a + 1)) (w : World) (h : Rd b s a w) : Calls Tryz.prog 38 #[.pointer (some ⟨b, 0, none⟩)] w (Post b s a (Kw.sayLen s a) (.iface 125 (.agg #[.string (s.extract (a + 1) (a + 1 + Kw.len s (a + 1))), .int .i64 ((Kw.g s a : Int) - 65)])) w) := by
 have hr := hide h; clear h; by_cases hl : Kw.g s a < 65 ∨ 72 < Kw.g s a
 · clear H; go_enter Tryz.func38, Tryz.ntmps38; (go_wp2_with fail); refine (readLetter_no b s a _ hs hr.out hl).mono ?_; rintro e w1 ⟨v1, rfl, r1, hb1⟩; (go_wp2_with fail); go_ret2; exact ⟨hb1, .inr ⟨by unfold Kw.sayLen; rw [if_neg (by omega)], ⟨_, rfl⟩, r1⟩⟩
 · (have h1 : 65 ≤ Kw.g s a := by omega); (have h2 : Kw.g s a ≤ 72 := by omega); have H1 := H (Kw.g_lt.1 (by omega)); clear H hl; by_cases hk : Kw.len s (a + 1) = 0
   · have hk' := hide hk; clear hk; go_enter Tryz.func38, Tryz.ntmps38; (go_wp2_with fail); refine (readLetter_yes b s a _ hs hr.out h1 h2).mono ?_; rintro e w1 ⟨rfl, r1, hb1⟩; (go_wp2_with fail); refine (H1 _ r1).mono ?_; rintro e w2 h3; obtain ⟨rfl, r2, hb2⟩ := h3.no hk'.out; clear h3; (go_wp2_with fail); go_ret2; exact ⟨hb1.trans hb2, .inr ⟨by unfold Kw.sayLen; rw [if_pos ⟨h1, h2⟩, Kw.more_zero hk'.out], ⟨_, rfl⟩, r2⟩⟩
   · have hk' := hide hk; clear hk; go_enter Tryz.func38, Tryz.ntmps38; (go_wp2_with fail); refine (readLetter_yes b s a _ hs hr.out h1 h2).mono ?_; rintro e w1 ⟨rfl, r1, hb1⟩; (go_wp2_with fail); refine (H1 _ r1).mono ?_; rintro e w2 h3; obtain ⟨rfl, r2, hb2⟩ := h3.yes hk'.out; clear h3; (go_wp2_with fail); go_ret2; (have e2 : Kw.sayLen s a = 1 + Kw.len s (a + 1) := by unfold Kw.sayLen; rw [if_pos ⟨h1, h2⟩, Kw.more_pos hk'.out]); refine ⟨hb1.trans hb2, .inl ⟨by rw [e2]; omega, rfl, ?_⟩⟩; rw [e2, ← Nat.add_assoc]; exact r2
theorem readRoom_of (b : Nat) (s : ByteArray) (a : Nat) (hs : s.size ≤ 300) (ha : a ≤ s.size) (H : a < s.size → NameAt b s (a + 1)) (w : World) (h : Rd b s a w) : Calls Tryz.prog 39 #[.pointer (some ⟨b, 0, none⟩)] w (Post b s a (Kw.roomLen s a) (.iface 128 (.agg #[.string (s.extract (a + 1) (a + 1 + Kw.len s (a + 1))), .int .i64 ((Kw.g s a - 48 : Nat) : Int)])) w) := by
 have hr := hide h; clear h
 have key : (Kw.num s 9 a = none ∧ Kw.roomLen s a = 0) ∨ (Kw.num s 9 a = some (Kw.g s a - 48, a + 1) ∧ 49 ≤ Kw.g s a ∧ Kw.g s a ≤ 57) := by
  by_cases hg : 49 ≤ Kw.g s a ∧ Kw.g s a ≤ 57
  · by_cases hk : Kw.len s (a + 1) = 0
    · rcases Kw.room_no hg with h | h
      · exact .inl ⟨h, by unfold Kw.roomLen; rw [if_pos hg, Kw.more_zero hk]⟩
      · exact .inr ⟨h, hg⟩
    · exact .inr ⟨Kw.room_yes hg hk, hg⟩
  · exact .inl ⟨Kw.num_zero (by omega), by unfold Kw.roomLen; rw [if_neg hg]⟩
 rcases key with ⟨hn, he⟩ | ⟨hn, h1, h2⟩
 · have hN := hide hn; have hE := hide he; clear hn he H; go_enter Tryz.func39, Tryz.ntmps39; (go_wp2_with fail); refine (readNumber_no b s a _ 9 rfl _ hs hr.out ha (by omega) hN).mono ?_; rintro e w1 ⟨rfl, r1, hb1⟩; (go_wp2_with fail); go_ret2; exact ⟨hb1, .inr ⟨hE.out, ⟨_, rfl⟩, r1⟩⟩
 · have hN := hide hn; clear hn; have H1 := H (Kw.g_lt.1 (by omega)); clear H; by_cases hk : Kw.len s (a + 1) = 0
   · have hk' := hide hk; clear hk; go_enter Tryz.func39, Tryz.ntmps39; (go_wp2_with fail); refine (readNumber_yes b s a _ 9 rfl _ hs hr.out ha (by omega) hN).mono ?_; rintro e w1 ⟨rfl, r1, hb1⟩; (go_wp2_with fail); refine (H1 _ r1).mono ?_; rintro e w2 h3; obtain ⟨rfl, r2, hb2⟩ := h3.no hk'.out; clear h3; (go_wp2_with fail); go_ret2; exact ⟨hb1.trans hb2, .inr ⟨by unfold Kw.roomLen; rw [if_pos ⟨h1, h2⟩, Kw.more_zero hk'.out], ⟨_, rfl⟩, r2⟩⟩
   · have hk' := hide hk; clear hk; go_enter Tryz.func39, Tryz.ntmps39; (go_wp2_with fail); refine (readNumber_yes b s a _ 9 rfl _ hs hr.out ha (by omega) hN).mono ?_; rintro e w1 ⟨rfl, r1, hb1⟩; (go_wp2_with fail); refine (H1 _ r1).mono ?_; rintro e w2 h3; obtain ⟨rfl, r2, hb2⟩ := h3.yes hk'.out; clear h3; (go_wp2_with fail); go_ret2; (have e2 : Kw.roomLen s a = 1 + Kw.len s (a + 1) := by unfold Kw.roomLen; rw [if_pos ⟨h1, h2⟩, Kw.more_pos hk'.out]); refine ⟨hb1.trans hb2, .inl ⟨by rw [e2]; omega, rfl, ?_⟩⟩; rw [e2, ← Nat.add_assoc]; exact r2
theorem Rd.back {b : Nat} {s : ByteArray} {a : Nat} {w : World} (h : Rd b s (a + 1) w) (v : Value) (hv : v = .int .i64 (a : Int)) : Rd b s a (w.setCell ⟨b, 1, none⟩ v) ∧ Below b w (w.setCell ⟨b, 1, none⟩ v) := by obtain ⟨t, p, f, lt⟩ := h; subst hv; refine ⟨⟨by simp [go_sem, t], by simp [go_sem, p], by simp [go_sem, f], by simpa [World.setCell] using lt⟩, ?_⟩; exact (Below.refl b w).setCell (p := ⟨b, 1, none⟩) (Nat.le_refl _) _
theorem Post.form {b : Nat} {s : ByteArray} {a k : Nat} {v : Value} {w : World} {e : Ending} {w' : World} (h : Post b s a k v w e w') : ∃ u c, e = .returned (.tuple #[u, .bool c]) ∧ Post b s a k v w (.returned (.tuple #[u, .bool c])) w' := by
 have h0 := h; obtain ⟨h1, ⟨h2, h3, h4⟩ | ⟨h2, ⟨u, h3⟩, h4⟩⟩ := h
 · exact ⟨_, _, h3, by rw [← h3]; exact h0⟩
 · exact ⟨_, _, h3, by rw [← h3]; exact h0⟩
theorem PostN.form {b : Nat} {s : ByteArray} {a k : Nat} {x : ByteArray} {w : World} {e : Ending} {w' : World} (h : PostN b s a k (.string x) w e w') : ∃ u c, e = .returned (.tuple #[.string u, .bool c]) ∧ PostN b s a k (.string x) w (.returned (.tuple #[.string u, .bool c])) w' := by
 have h0 := h; obtain ⟨h1, ⟨h2, h3, h4⟩ | ⟨h2, h3, h4⟩⟩ := h
 · exact ⟨_, _, h3, by rw [← h3]; exact h0⟩
 · exact ⟨_, _, h3, by rw [← h3]; exact h0⟩
theorem Post.lift {b : Nat} {s : ByteArray} {a k : Nat} {v : Value} {w w1 : World} {e : Ending} {w' : World} (h : Post b s (a + 1) k v w1 e w') (hb : Below b w w1) (hl : Kw.len s a = Kw.more 1 k) (hv : secV s a = v) : Post b s a (Kw.len s a) (secV s a) w e w' := by
 rw [hv]; obtain ⟨h1, ⟨h2, h3, h4⟩ | ⟨h2, h3, h4⟩⟩ := h
 · rw [hl, Kw.more_pos h2]; exact ⟨hb.trans h1, .inl ⟨by omega, h3, by rw [← Nat.add_assoc]; exact h4⟩⟩
 · rw [hl, Kw.more_zero h2]; exact ⟨hb.trans h1, .inr ⟨rfl, h3, h4⟩⟩
theorem PostN.lift {b : Nat} {s : ByteArray} {a k t : Nat} {x u : ByteArray} {c : Bool} {w w1 : World} {w' : World} (h : PostN b s (a + 1) k (.string x) w1 (.returned (.tuple #[.string u, .bool c])) w') (hb : Below b w w1) (hl : Kw.len s a = Kw.more 1 k) (hv : secV s a = .iface t (.agg #[.string x])) : Post b s a (Kw.len s a) (secV s a) w (.returned (.tuple #[.iface t (.agg #[.string u]), .bool c])) w' := by
 rw [hv]; obtain ⟨h1, ⟨h2, h3, h4⟩ | ⟨h2, h3, h4⟩⟩ := h
 · simp at h3; obtain ⟨rfl, rfl⟩ := h3; rw [hl, Kw.more_pos h2]; exact ⟨hb.trans h1, .inl ⟨by omega, rfl, by rw [← Nat.add_assoc]; exact h4⟩⟩
 · simp at h3; obtain ⟨rfl, rfl⟩ := h3; rw [hl, Kw.more_zero h2]; exact ⟨hb.trans h1, .inr ⟨rfl, ⟨_, rfl⟩, h4⟩⟩
theorem Post.lift0 {b : Nat} {s : ByteArray} {a : Nat} {v : Value} {w w1 : World} {e : Ending} {w' : World} (h : Post b s a (Kw.fresh s a) v w1 e w') (hb : Below b w w1) (hl : Kw.len s a = Kw.fresh s a) (hv : secV s a = v) : Post b s a (Kw.len s a) (secV s a) w e w' := by rw [hv, hl]; exact ⟨hb.trans h.1, h.2⟩
theorem readHow_step (b : Nat) (s : ByteArray) (hs : s.size ≤ 300) (a : Nat) (ha : a < s.size) (ih : ∀ m, a < m → m ≤ s.size → HowAt b s m) : HowAt b s a := by
 intro w h; have hr := hide h; clear h; have hN1 : NameAt b s (a + 1) := readName_of b s (a + 1) (ih _ (by omega) (by omega)); have hg := Kw.g_lt.2 ha; by_cases c1 : Kw.g s a = 110
 · (have e1 : ((Kw.g s a : Int) == 110) = true := by simp; omega); have C1 := hide c1; clear c1; go_enter Tryz.func22, Tryz.ntmps22; (go_wp2_with fail); refine (readSign_in b s a _ hs hr.out ha).mono ?_; rintro e w1 ⟨rfl, r1, hb1⟩; (go_wp2_with fail); refine (hN1 _ r1).mono ?_; rintro e w2 h2; obtain ⟨u, c, rfl, hp⟩ := h2.form; clear h2; (go_wp2_with fail); go_ret2; exact hp.lift hb1 (Kw.len_nk (.inl C1.out)) (by unfold secV; rw [if_pos C1.out])
 (have e1 : ((Kw.g s a : Int) == 110) = false := by simp; omega); by_cases c2 : Kw.g s a = 107
 · (have e2 : ((Kw.g s a : Int) == 107) = true := by simp; omega); have C2 := hide c2; have C1 := hide c1; clear c2 c1; go_enter Tryz.func22, Tryz.ntmps22; (go_wp2_with fail); refine (readSign_in b s a _ hs hr.out ha).mono ?_; rintro e w1 ⟨rfl, r1, hb1⟩; (go_wp2_with fail); refine (hN1 _ r1).mono ?_; rintro e w2 h2; obtain ⟨u, c, rfl, hp⟩ := h2.form; clear h2; (go_wp2_with fail); go_ret2; exact hp.lift hb1 (Kw.len_nk (.inr C2.out)) (by unfold secV; rw [if_neg C1.out, if_pos C2.out])
 (have e2 : ((Kw.g s a : Int) == 107) = false := by simp; omega); by_cases c3 : Kw.g s a = 101
 · (have e3 : ((Kw.g s a : Int) == 101) = true := by simp; omega); have C3 := hide c3; have C2 := hide c2; have C1 := hide c1; have hN2 : Kw.len s (a + 1) ≠ 0 → NameAt b s (a + 1 + Kw.len s (a + 1)) := fun hl => readName_of b s _ (ih _ (by omega) (Kw.len_le hl)); have HN2 := hide hN2; clear c3 c2 c1 hN2; go_enter Tryz.func22, Tryz.ntmps22; (go_wp2_with fail); refine (readSign_in b s a _ hs hr.out ha).mono ?_; rintro e w1 ⟨rfl, r1, hb1⟩; (go_wp2_with fail); refine (readEpoch_of b s (a + 1) hN1 HN2.out _ r1).mono ?_; rintro e w2 h2; obtain ⟨u, c, rfl, hp⟩ := h2.form; clear h2; (go_wp2_with fail); go_ret2; exact hp.lift hb1 (Kw.len_e C3.out) (by unfold secV; rw [if_neg C1.out, if_neg C2.out, if_pos C3.out])
 (have e3 : ((Kw.g s a : Int) == 101) = false := by simp; omega); have hN2 : a + 1 < s.size → NameAt b s (a + 1 + 1) := fun hl => readName_of b s _ (ih _ (by omega) (by omega)); have HN2 := hide hN2; clear hN2; by_cases c4 : Kw.g s a = 109
 · (have e4 : ((Kw.g s a : Int) == 109) = true := by simp; omega); have C4 := hide c4; have C3 := hide c3; have C2 := hide c2; have C1 := hide c1; clear c4 c3 c2 c1; go_enter Tryz.func22, Tryz.ntmps22; (go_wp2_with fail); refine (readSign_in b s a _ hs hr.out ha).mono ?_; rintro e w1 ⟨rfl, r1, hb1⟩; (go_wp2_with fail); refine (readSay_of b s (a + 1) hs HN2.out _ r1).mono ?_; rintro e w2 h2; obtain ⟨u, c, rfl, hp⟩ := h2.form; clear h2; (go_wp2_with fail); go_ret2; exact hp.lift hb1 (Kw.len_m C4.out) (by unfold secV; rw [if_neg C1.out, if_neg C2.out, if_neg C3.out, if_pos C4.out])
 (have e4 : ((Kw.g s a : Int) == 109) = false := by simp; omega); by_cases c5 : Kw.g s a = 114
 · (have e5 : ((Kw.g s a : Int) == 114) = true := by simp; omega); have C5 := hide c5; have C4 := hide c4; have C3 := hide c3; have C2 := hide c2; have C1 := hide c1; clear c5 c4 c3 c2 c1; go_enter Tryz.func22, Tryz.ntmps22; (go_wp2_with fail); refine (readSign_in b s a _ hs hr.out ha).mono ?_; rintro e w1 ⟨rfl, r1, hb1⟩; (go_wp2_with fail); refine (readRoom_of b s (a + 1) hs (by omega) HN2.out _ r1).mono ?_; rintro e w2 h2; obtain ⟨u, c, rfl, hp⟩ := h2.form; clear h2; (go_wp2_with fail); go_ret2; exact hp.lift hb1 (Kw.len_r C5.out) (by unfold secV; rw [if_neg C1.out, if_neg C2.out, if_neg C3.out, if_neg C4.out, if_pos C5.out])
 (have e5 : ((Kw.g s a : Int) == 114) = false := by simp; omega); have C5 := hide c5; have C4 := hide c4; have C3 := hide c3; have C2 := hide c2; have C1 := hide c1; clear c5 c4 c3 c2 c1 HN2 hN1; go_enter Tryz.func22, Tryz.ntmps22; (go_wp2_with fail); refine (readSign_in b s a _ hs hr.out ha).mono ?_; rintro e w1 ⟨rfl, r1, hb1⟩; have R1 := hide r1; obtain ⟨t, p, f, lt⟩ := r1; (go_wp2_with fail); obtain ⟨r2, hb2⟩ := R1.out.back (.int .i64 (a : Int)) rfl; refine (readNew_any b s a _ hs r2 (by omega)).mono ?_; rintro e w2 h2; obtain ⟨u, c, rfl, hp⟩ := h2.form; clear h2; (go_wp2_with fail); go_ret2; exact hp.lift0 (hb1.trans hb2) (Kw.len_else C1.out C2.out C4.out C5.out C3.out) (by unfold secV; rw [if_neg C1.out, if_neg C2.out, if_neg C3.out, if_neg C4.out, if_neg C5.out])
theorem readHow_out (b : Nat) (s : ByteArray) (a : Nat) (ha : s.size ≤ a) : HowAt b s a := by intro w h; have hr := hide h; clear h; go_enter Tryz.func22, Tryz.ntmps22; (go_wp2_with fail); refine (readSign_out b s a _ hr.out ha).mono ?_; rintro e w1 ⟨rfl, r1, hb1⟩; (go_wp2_with fail); go_ret2; exact ⟨hb1, .inr ⟨Kw.len_out ha, ⟨_, rfl⟩, ⟨_, r1⟩⟩⟩
theorem readHow_all (b : Nat) (s : ByteArray) (hs : s.size ≤ 300) : ∀ f a, s.size - a ≤ f → HowAt b s a := by
 intro f
 induction f with
 | zero => intro a h; exact readHow_out b s a (by omega)
 | succ f ih =>
  intro a h; by_cases ha : a < s.size
  · exact readHow_step b s hs a ha (fun m h1 h2 => ih m (by omega))
  · exact readHow_out b s a (by omega)
def ReadPost (s : ByteArray) (w : World) (e : Ending) (w' : World) : Prop :=
  Below w.heap.size w w' ∧ ((Kw.ok s = true ∧ e = .returned (.tuple #[secV s 0, .bool true])) ∨ (Kw.ok s = false ∧ e = .returned (.tuple #[.nilIface, .bool false])))
theorem Rd.start (s : ByteArray) (w : World) : Rd w.heap.size s 0 (w.alloc (.cells #[.string s, .int .i64 0] 74)) :=
  ⟨by simp [go_sem], by simp [go_sem], by simp [go_sem], by simp⟩
theorem readSecret_any (s : ByteArray) (w : World) (hm : s.size ≤ maxLen) : Calls Tryz.prog 17 #[.string s] w (ReadPost s w) := by
 unfold maxLen at hm; by_cases hs : s.size ≤ 300
 · have H := readHow_all w.heap.size s hs s.size 0 (by omega); have hb0 : Below w.heap.size w (w.alloc (.cells #[.string s, .int .i64 0] 74)) := (Below.refl _ _).alloc (Nat.le_refl _) _; by_cases hl : Kw.len s 0 = 0
   · have L := hide hl; clear hl; go_enter Tryz.func17, Tryz.ntmps17; (go_wp2_with fail); refine (H _ (Rd.start s w)).mono ?_; rintro e w1 h1; obtain ⟨u, rfl, r1, hb1⟩ := h1.no L.out; clear h1; (go_wp2_with fail); go_ret2; exact ⟨hb0.trans hb1, .inr ⟨ok_none L.out, rfl⟩⟩
   · have hle := Kw.len_le hl; have L := hide hl; clear hl; by_cases hq : Kw.len s 0 = s.size
     · have Q := hide hq; clear hq; go_enter Tryz.func17, Tryz.ntmps17; (go_wp2_with fail); refine (H _ (Rd.start s w)).mono ?_; rintro e w1 h1; obtain ⟨rfl, r1, hb1⟩ := h1.yes L.out; clear h1; rw [Nat.zero_add, Q.out] at r1; obtain ⟨t, p, f, lt⟩ := r1; (go_wp2_with fail); go_ret2; exact ⟨hb0.trans hb1, .inl ⟨ok_yes hs L.out Q.out, rfl⟩⟩
     · have Q := hide hq; (have hne : ((Kw.len s 0 : Int) != (s.size : Int)) = true := by simp; omega); clear hq; go_enter Tryz.func17, Tryz.ntmps17; (go_wp2_with fail); refine (H _ (Rd.start s w)).mono ?_; rintro e w1 h1; obtain ⟨rfl, r1, hb1⟩ := h1.yes L.out; clear h1; rw [Nat.zero_add] at r1; obtain ⟨t, p, f, lt⟩ := r1; (go_wp2_with fail); go_ret2; exact ⟨hb0.trans hb1, .inr ⟨ok_part Q.out, rfl⟩⟩
 · (have hs2 : 300 < s.size := by omega); go_enter Tryz.func17, Tryz.ntmps17; (go_wp2_with fail); go_ret2; exact ⟨Below.refl _ _, .inr ⟨ok_long hs2, rfl⟩⟩
theorem ReadPost.form {s : ByteArray} {w : World} {e : Ending} {w' : World} (h : ReadPost s w e w') : ∃ u, e = .returned (.tuple #[u, .bool (Kw.ok s)]) ∧ Below w.heap.size w w' := by
 obtain ⟨h1, ⟨h2, h3⟩ | ⟨h2, h3⟩⟩ := h
 · exact ⟨_, by rw [h2]; exact h3, h1⟩
 · exact ⟨_, by rw [h2]; exact h3, h1⟩
theorem iSecOk_any (s : ByteArray) (w : World) (hm : s.size ≤ maxLen) : Calls Tryz.prog 13 #[.string s] w fun e w' => e = .returned (.bool (Kw.ok s)) ∧ Below w.heap.size w w' := by have M := hide hm; clear hm; go_enter Tryz.func13, Tryz.ntmps13; (go_wp2_with fail); refine (readSecret_any s _ M.out).mono ?_; rintro e w1 h1; obtain ⟨u, rfl, hb1⟩ := h1.form; clear h1; (go_wp2_with fail); go_ret; exact ⟨rfl, hb1⟩
open Go.Shelf Go.RowKit
def howV (op who n : Int) (a b : ByteArray) : Value := .agg #[.int .i64 op, .int .i64 who, .int .i64 n, .string a, .string b]
structure Res5 (b : Nat) (w : World) : Prop where
  c0 : w.cell? ⟨b, 0, none⟩ = some (.int .i64 0)
  c1 : w.cell? ⟨b, 1, none⟩ = some (.int .i64 0)
  c2 : w.cell? ⟨b, 2, none⟩ = some (.int .i64 0)
  c3 : w.cell? ⟨b, 3, none⟩ = some (.string ⟨#[]⟩)
  c4 : w.cell? ⟨b, 4, none⟩ = some (.string ⟨#[]⟩)
  z0 : w.frozen? ⟨b, 0, none⟩ = false
  z1 : w.frozen? ⟨b, 1, none⟩ = false
  z2 : w.frozen? ⟨b, 2, none⟩ = false
  z3 : w.frozen? ⟨b, 3, none⟩ = false
  z4 : w.frozen? ⟨b, 4, none⟩ = false
theorem Res5.keep {b : Nat} {W w1 : World} (h : Res5 b W) (hb : Below W.heap.size W w1) (hlt : b < W.heap.size) : Res5 b w1 := ⟨(hb.cell (p := ⟨b, 0, none⟩) hlt).trans h.c0, (hb.cell (p := ⟨b, 1, none⟩) hlt).trans h.c1, (hb.cell (p := ⟨b, 2, none⟩) hlt).trans h.c2, (hb.cell (p := ⟨b, 3, none⟩) hlt).trans h.c3, (hb.cell (p := ⟨b, 4, none⟩) hlt).trans h.c4, (hb.frozen (p := ⟨b, 0, none⟩) hlt).trans h.z0, (hb.frozen (p := ⟨b, 1, none⟩) hlt).trans h.z1, (hb.frozen (p := ⟨b, 2, none⟩) hlt).trans h.z2, (hb.frozen (p := ⟨b, 3, none⟩) hlt).trans h.z3, (hb.frozen (p := ⟨b, 4, none⟩) hlt).trans h.z4⟩
theorem below5 {B : Nat} {w w1 : World} (h : Below B w w1) {b : Nat} (hb : B ≤ b) (v0 v1 v2 v3 v4 : Value) : Below B w (((((w1.setCell ⟨b, 0, none⟩ v0).setCell ⟨b, 1, none⟩ v1).setCell ⟨b, 2, none⟩ v2).setCell ⟨b, 3, none⟩ v3).setCell ⟨b, 4, none⟩ v4) := ((((h.setCell (p := ⟨b, 0, none⟩) hb v0).setCell (p := ⟨b, 1, none⟩) hb v1).setCell (p := ⟨b, 2, none⟩) hb v2).setCell (p := ⟨b, 3, none⟩) hb v3).setCell (p := ⟨b, 4, none⟩) hb v4
open Kw (g len nv ok)
def mOp (s : ByteArray) : Int := if ok s = true then (if g s 0 = 110 then 2 else if g s 0 = 107 then 3 else if g s 0 = 101 then 4 else if g s 0 = 109 then 5 else if g s 0 = 114 then 6 else 1) else 0
def mWho (s : ByteArray) : Int := if ok s = true then (if g s 0 = 110 then 0 else if g s 0 = 107 then 0 else if g s 0 = 101 then 0 else if g s 0 = 109 then (g s 1 : Int) - 65 else if g s 0 = 114 then 0 else (g s 0 : Int) - 65) else 0
def mN (s : ByteArray) : Int := if ok s = true then (if g s 0 = 110 then 0 else if g s 0 = 107 then 0 else if g s 0 = 101 then 0 else if g s 0 = 109 then 0 else if g s 0 = 114 then ((g s 1 - 48 : Nat) : Int) else (nv s 0 : Int)) else 0
def mA (s : ByteArray) : ByteArray := if ok s = true then (if g s 0 = 110 then s.extract 1 s.size else if g s 0 = 107 then s.extract 1 s.size else if g s 0 = 101 then s.extract 1 (1 + len s 1) else if g s 0 = 109 then s.extract 2 s.size else if g s 0 = 114 then s.extract 2 s.size else ⟨#[]⟩) else ⟨#[]⟩
def mB (s : ByteArray) : ByteArray := if ok s = true then (if g s 0 = 110 then ⟨#[]⟩ else if g s 0 = 107 then ⟨#[]⟩ else if g s 0 = 101 then s.extract (1 + len s 1) s.size else ⟨#[]⟩) else ⟨#[]⟩
theorem l1In_yes (n lo hi : Int) (w : World) (h0 : lo ≤ n) (h1 : n ≤ hi) : Calls Tryz.prog 23 #[.int .i64 n, .int .i64 lo, .int .i64 hi] w fun e w' => e = .returned (.bool true) ∧ w' = w := by go_enter Tryz.func23, Tryz.ntmps23; go_wp2; go_ret; exact ⟨rfl, rfl⟩
theorem l1In_no (n lo hi : Int) (w : World) (h : n < lo ∨ hi < n) : Calls Tryz.prog 23 #[.int .i64 n, .int .i64 lo, .int .i64 hi] w fun e w' => e = .returned (.bool false) ∧ w' = w := by
 by_cases h0 : lo ≤ n
 · (have h2 : decide (n ≤ hi) = false := by simp; omega); clear h; go_enter Tryz.func23, Tryz.ntmps23; go_wp2; go_ret; exact ⟨rfl, rfl⟩
 · (have h2 : decide (lo ≤ n) = false := by simp; omega); clear h; go_enter Tryz.func23, Tryz.ntmps23; go_wp2; go_ret; exact ⟨rfl, rfl⟩
theorem conv1 (W : World) (a : Addr) (n : Int) (h : W.cell? a = some (.int .u8 n)) : (convert 22 9 (.slice (some a) 1 1)).run Tryz.prog W = .ok (.string (by1 n.toNat)) W := by
 rw [run_convert_bytes_string W 22 9 5 _ _ _ Tryz.underlying22 Tryz.underlying5 Tryz.underlying9]; rw [run_bytesToString W a 1 1 [n] ?_]
 · rfl
 · exact run_loadCells_list W a [.int .u8 n] (fun j v hj => by
     match j, hj with
     | 0, hj => simp at hj; subst hj; simpa [Addr.add] using h)
theorem ret_by1 {a b : Nat} (h : a = b) : Ending.returned (.string (by1 a)) = .returned (.string (by1 b)) := by rw [h]
theorem l1Who_any (n : Int) (w : World) (h0 : 0 ≤ n) (h1 : n < 8) : Calls Tryz.prog 46 #[.int .i64 n] w fun e w' => e = .returned (.string (by1 (65 + n.toNat))) ∧ Below w.heap.size w w' := by have hc := conv1; go_enter Tryz.func46, Tryz.ntmps46; go_wp2; go_ret; exact ⟨ret_by1 (by omega), (Below.refl _ _).alloc (Nat.le_refl _) _⟩
theorem l1Plain_any (n : Int) (w : World) (h0 : 0 ≤ n) (h1 : n < 100) : Calls Tryz.prog 47 #[.int .i64 n] w fun e w' => e = .returned (.string (dec n.toNat)) ∧ Below w.heap.size w w' := by
 have hc := conv1; have hs := by1_size; go_enter Tryz.func47, Tryz.ntmps47; go_wp2; go_loopw [0, 3] (fun m out wr => Below w.heap.size w wr ∧ ((m = .int .i64 n ∧ out = .string ⟨#[]⟩) ∨ (10 ≤ n ∧ m = .int .i64 (n / 10) ∧ out = .string (by1 (48 + n % 10).toNat)))) (fun m _ _ => (intOf m).toNat)
 case atStart => exact ⟨Below.refl _ _, .inl ⟨rfl, rfl⟩⟩
 case round =>
  obtain ⟨hb, ⟨rfl, rfl⟩ | ⟨h2, rfl, rfl⟩⟩ := hrel
  · by_cases h3 : n ≤ 9
    · go_wp2; go_ret; exact ⟨ret_str (by rw [dec_one _ (by omega), app_nil, show (48 + n).toNat = 48 + n.toNat by omega]), hb.alloc hb.size _⟩
    · go_wp2; exact ⟨⟨hb.alloc hb.size _, .inr ⟨by omega, rfl, by rw [app_nil]⟩⟩, by simp [intOf]; omega⟩
  · go_wp2; go_ret; exact ⟨ret_str (by rw [dec_two _ (by omega), show (48 + n / 10).toNat = 48 + n.toNat / 10 by omega, show (48 + n % 10).toNat = 48 + n.toNat % 10 by omega]), hb.alloc hb.size _⟩
theorem sMakNew_any (who n : Int) (w : World) : Calls Tryz.prog 25 #[.int .i64 who, .int .i64 n] w fun e w' => e = .returned (.string (mkNew who n)) ∧ Below w.heap.size w w' := by
 by_cases h1 : who < 0 ∨ 7 < who
 · (have e1 : mkNew who n = ⟨#[]⟩ := by unfold mkNew; rw [if_neg (by omega)]); rw [e1]; go_enter Tryz.func25, Tryz.ntmps25; (go_wp2_with (go_at_call 23; refine (l1In_no _ _ _ _ h1).mono ?_; rintro e w' ⟨rfl, rfl⟩)); go_ret; exact ⟨rfl, Below.refl _ _⟩
 (have g0 : 0 ≤ who := by omega); (have g1 : who ≤ 7 := by omega); by_cases h2 : n < 1 ∨ 99 < n
 · (have e1 : mkNew who n = ⟨#[]⟩ := by unfold mkNew; rw [if_neg (by omega)]); rw [e1]; clear h1; go_enter Tryz.func25, Tryz.ntmps25; (go_wp2_with fail); refine (l1In_yes _ _ _ _ g0 g1).mono ?_; rintro e w' ⟨rfl, rfl⟩; (go_wp2_with fail); refine (l1In_no _ _ _ _ h2).mono ?_; rintro e w' ⟨rfl, rfl⟩; (go_wp2_with fail); go_ret; exact ⟨rfl, Below.refl _ _⟩
 (have e1 : mkNew who n = newName who.toNat n.toNat := by unfold mkNew; rw [if_pos (by omega)]); rw [e1]; (have g2 : 1 ≤ n := by omega); (have g3 : n ≤ 99 := by omega); (have g4 : 0 ≤ n := by omega); (have g5 : n < 100 := by omega); (have g6 : who < 8 := by omega); clear h1 h2 e1; have s1 : (by1 (65 + who.toNat)).size = 1 := rfl; rcases dec_sizes n.toNat with s2 | s2; all_goals (go_enter Tryz.func25, Tryz.ntmps25; (go_wp2_with fail); refine (l1In_yes _ _ _ _ g0 g1).mono ?_; rintro e w' ⟨rfl, rfl⟩; (go_wp2_with fail); refine (l1In_yes _ _ _ _ g2 g3).mono ?_; rintro e w' ⟨rfl, rfl⟩; (go_wp2_with fail); refine (l1Who_any _ _ g0 g6).mono ?_; rintro e w1 ⟨rfl, hb1⟩; (go_wp2_with fail); refine (l1Plain_any _ _ g4 g5).mono ?_; rintro e w2 ⟨rfl, hb2⟩; (go_wp2_with fail); go_ret; exact ⟨rfl, hb1.trans (hb2.mono hb1.size)⟩)
theorem l1More_any (n m : Nat) (x y : Int) (hx : x = (n : Int)) (hy : y = (m : Int)) (hn : n ≤ 1000) (hm : m ≤ 1000) (w : World) : Calls Tryz.prog 78 #[.int .i64 x, .int .i64 y] w fun e w' => e = .returned (.int .i64 (Kw.more n m : Int)) ∧ w' = w := by
 subst hx hy; by_cases h : m = 0
 · subst h; rw [Kw.more_zero rfl]; go_enter Tryz.func78, Tryz.ntmps78; go_wp2; go_ret; exact ⟨rfl, rfl⟩
 · rw [Kw.more_pos h]; (have e : ((m : Int) == 0) = false := by simp; omega); clear h; go_enter Tryz.func78, Tryz.ntmps78; go_wp2; go_ret; exact ⟨rfl, rfl⟩
theorem ret_i64 {a b : Int} (h : a = b) : Ending.returned (.int .i64 a) = .returned (.int .i64 b) := by rw [h]
theorem list_ne {x y : ByteArray} (h : (!x.toList == y.toList) = true) : x ≠ y := by intro e; subst e; simp at h
theorem list_eq {x y : ByteArray} (h : (!x.toList == y.toList) = false) : x = y := by (have h1 : x.toList = y.toList := by simpa using h); have h2 := congrArg (fun l => (⟨l.toArray⟩ : ByteArray)) h1; exact ByteArray.ext (by simpa [ByteArray.toList_eq] using h2)
theorem fr_round {s : ByteArray} {a j d m : Nat} (hj : Hid (j = a + 1 + d)) (hlt : j < s.size) (hm : Hid (m = dv s (a + 1) d)) (hall : Hid (∀ i, i < d → 48 ≤ Kw.g s (a + 1 + i) ∧ Kw.g s (a + 1 + i) ≤ 57)) (hg : Hid (Kw.g s j = s[j].toNat)) (hb : Hid (m < 10 ^ d)) (h48 : (48 : Int) ≤ (s[j].toNat : Int)) (h57 : (s[j].toNat : Int) ≤ 57) (hd : (j : Int) < (a : Int) + 4) : (∃ m' j' d' : Nat, j' = a + 1 + d' ∧ d' ≤ 3 ∧ Value.int IntKind.i64 ((j : Int) + 1) = .int .i64 (j' : Int) ∧ Value.int IntKind.i64 ((m : Int) * 10 + ((s[j].toNat : Int) - 48)) = .int .i64 (m' : Int) ∧ j' ≤ s.size ∧ m' < 10 ^ d' ∧ Hid (m' = dv s (a + 1) d') ∧ Hid (∀ i, i < d' → 48 ≤ Kw.g s (a + 1 + i) ∧ Kw.g s (a + 1 + i) ≤ 57)) ∧ ((a : Int) + 4 - intOf (Value.int IntKind.i64 ((j : Int) + 1))).toNat < ((a : Int) + 4 - intOf (Value.int IntKind.i64 (j : Int))).toNat := by
 have e1 := hj.out; have e2 := hm.out; have e3 := hall.out; have e4 := hg.out; have e5 := hb.out; refine ⟨⟨m * 10 + (s[j].toNat - 48), j + 1, d + 1, by omega, by omega, by simp, ?_, by omega, ?_, ?_, ?_⟩, by simp [intOf]; omega⟩
 · congr 1; omega
 · rw [Nat.pow_succ]; omega
 · show _ = dv s (a + 1) d * 10 + (Kw.g s (a + 1 + d) - 48); rw [← e1, e4, ← e2]
 · intro i hi; by_cases hid : i < d
   · exact e3 i hid
   · (have : i = d := by omega); subst this; rw [← e1, e4]; omega
theorem l1Fresh_any (s : ByteArray) (a : Nat) (x : Int) (hx : x = (a : Int)) (hs : s.size ≤ 300) (ha : a < s.size) (w : World) : Calls Tryz.prog 79 #[.string s, .int .i64 x] w fun e w' => e = .returned (.int .i64 (Kw.fresh s a : Int)) ∧ Below w.heap.size w w' := by
 subst hx; (have ha2 : (a : Int) < (s.size : Int) := by omega); have hga : Hid (Kw.g s a = s[a].toNat) := Kw.g_in ha; by_cases h65 : (s[a].toNat : Int) < 65
 · (have hf : Hid (Kw.fresh s a = 0) := by unfold Kw.fresh; exact if_neg (by rw [hga.out]; omega)); go_enter Tryz.func79, Tryz.ntmps79; (go_wp2_with fail); go_ret; exact ⟨ret_i64 (by rw [hf.out]; rfl), Below.refl _ _⟩
 · (have d65 : decide ((s[a].toNat : Int) < 65) = false := by simp; omega); by_cases h72 : (72 : Int) < (s[a].toNat : Int)
   · (have hf : Hid (Kw.fresh s a = 0) := by unfold Kw.fresh; exact if_neg (by rw [hga.out]; omega)); go_enter Tryz.func79, Tryz.ntmps79; (go_wp2_with fail); go_ret; exact ⟨ret_i64 (by rw [hf.out]; rfl), Below.refl _ _⟩
   · (have d72 : decide ((72 : Int) < (s[a].toNat : Int)) = false := by simp; omega); go_enter Tryz.func79, Tryz.ntmps79; (go_wp2_with fail); go_loop [5, 6] (fun n k => ∃ m j d : Nat, j = a + 1 + d ∧ d ≤ 3 ∧ k = .int .i64 (j : Int) ∧ n = .int .i64 (m : Int) ∧ j ≤ s.size ∧ m < 10 ^ d ∧ Hid (m = dv s (a + 1) d) ∧ Hid (∀ i, i < d → 48 ≤ Kw.g s (a + 1 + i) ∧ Kw.g s (a + 1 + i) ≤ 57)) (fun _ k => ((a : Int) + 4 - intOf k).toNat)
     case atStart => exact ⟨0, a + 1, 0, by omega, by omega, by simp, rfl, by omega, by simp, rfl, fun i hi => by omega⟩
     case round =>
      obtain ⟨m, j, d, hj0, hd, rfl, rfl, hle, hb0, hm, hall⟩ := hrel; have hj := hide hj0; (have hj1 : a < j := by omega); have hj3 : j ≤ a + 4 := by omega
      have hb : m ≤ 999 := by
       match d, hd, hb0 with
       | 0, _, h => omega
       | 1, _, h => omega
       | 2, _, h => omega
       | 3, _, h => omega
      have hb1 := hide hb0; clear hj0 hb0; by_cases hlt : j < s.size
      · (have hlt2 : (j : Int) < (s.size : Int) := by omega); have hgj : Hid (Kw.g s j = s[j].toNat) := Kw.g_in hlt; (have hnd : decide ((s.size : Int) ≤ (j : Int)) = false := by simp; omega); (have hnd2 : decide (s.size ≤ j) = false := by simp; omega); by_cases h59 : (s[j].toNat : Int) = 59
        · (have hne : ((s[j].toNat : Int) != 59) = false := by simp; omega); (have h57 : decide ((s[j].toNat : Int) ≤ 57) = false := by simp; omega); (have h48 : (48 : Int) ≤ (s[j].toNat : Int) := by omega); (have h65' : (65 : Int) ≤ (s[a].toNat : Int) := by omega); (have h72' : (s[a].toNat : Int) ≤ 72 := by omega); (have i1 : (a : Int) ≤ (j : Int) + 1 := by omega); (have i2 : (j : Int) + 1 ≤ (s.size : Int) := by omega); (have i3 : IntKind.i64.wrap ((j : Int) + 1) = (j : Int) + 1 := by simp [IntKind.wrap, IntKind.bits, IntKind.signed]; omega); (have i4 : (0 : Int) ≤ (a : Int) := by omega); (have i5 : (0 : Int) ≤ (j : Int) + 1 := by omega); (have v1 : IntKind.u8.wrap ((s[a].toNat : Int) - 65) = (s[a].toNat : Int) - 65 := by simp [IntKind.wrap, IntKind.bits, IntKind.signed]; omega); (have v2 : IntKind.i64.wrap ((s[a].toNat : Int) - 65) = (s[a].toNat : Int) - 65 := by simp [IntKind.wrap, IntKind.bits, IntKind.signed]; omega); (have H59 : Hid (Kw.g s j = 59) := by show Kw.g s j = 59; rw [hgj.out]; omega); clear h59; (go_wp2_with fail); go_region_held3 (fun _ => True) (trivial) ((go_at_call 25; refine (sMakNew_any _ _ _).mono ?_; rintro e w' ⟨rfl, hb⟩)); go_wp2_with fail
          · go_ret; rename_i hx; rw [← hga.out] at hx; exact ⟨ret_i64 (by rw [fr_ne hj.out hlt hm.out hall.out H59.out (by rw [hga.out]; omega) (by rw [hga.out]; omega) (list_ne hx)]; rfl), (Below.drew (Below.refl w.heap.size w)).trans hb⟩
          · go_ret; rename_i hx; rw [← hga.out] at hx; refine ⟨ret_i64 (by rw [fr_eq hj.out hd hlt hm.out hall.out H59.out (by rw [hga.out]; omega) (by rw [hga.out]; omega) (list_eq hx)]; omega), (Below.drew (Below.refl w.heap.size w)).trans hb⟩
        · (have hne : ((s[j].toNat : Int) != 59) = true := by simp; omega); (have H59 : Hid (Kw.g s j ≠ 59) := by show Kw.g s j ≠ 59; rw [hgj.out]; omega); clear h59; go_wp2_with fail
          case roundEnd =>
           (have q48 : (48 : Int) ≤ (s[j].toNat : Int) := by assumption); (have q57 : (s[j].toNat : Int) ≤ 57 := by assumption); (have qd : (j : Int) < (a : Int) + 4 := by assumption); exact fr_round hj hlt hm hall hgj hb1 q48 q57 qd
          all_goals (go_quiet (fail); (go_wp2_with fail); go_ret; exact ⟨ret_i64 (by rw [fr_no hj.out hd hall.out H59.out (by rw [hgj.out]; have := hj.out; omega)]; rfl), below_drewN (Below.refl _ _) _⟩)
      · have H59 : Hid (Kw.g s j = 256) := Kw.g_out (by omega); (have hge : decide ((s.size : Int) ≤ (j : Int)) = true := by simp; omega); (have hge2 : decide (s.size ≤ j) = true := by simp; omega); (have hge3 : s.size ≤ j := by omega); (go_wp2_with fail); go_quiet (fail); (go_wp2_with fail); go_ret; exact ⟨ret_i64 (by rw [fr_no hj.out hd hall.out (by rw [H59.out]; omega) (by rw [H59.out]; omega)]; rfl), below_drewN (Below.refl _ _) _⟩
def SizeAt (s : ByteArray) (a : Nat) : Prop := ∀ (x : Int) (w : World), x = (a : Int) →
    Calls Tryz.prog 59 #[.string s, .int .i64 x] w fun e w' => e = .returned (.int .i64 (Kw.len s a : Int)) ∧ Below w.heap.size w w'
theorem ret_len {a b : Nat} (h : a = b) : Ending.returned (.int .i64 (a : Int)) = .returned (.int .i64 (b : Int)) := by rw [h]
theorem l1Size_out (s : ByteArray) (a : Nat) (ha : s.size ≤ a) : SizeAt s a := by intro x w hx; subst hx; have hl : Hid (Kw.len s a = 0) := Kw.len_out ha; go_enter Tryz.func59, Tryz.ntmps59; (go_wp2_with fail); go_ret; exact ⟨ret_i64 (by rw [hl.out]; rfl), Below.refl _ _⟩
theorem len_300 {s : ByteArray} (hs : s.size ≤ 300) (a : Nat) : Kw.len s a ≤ 300 := by
 by_cases h : Kw.len s a = 0
 · omega
 · have := Kw.len_le h; omega
theorem l1Size_step (s : ByteArray) (hs : s.size ≤ 300) (a : Nat) (ha : a < s.size) (ih : ∀ m, a < m → SizeAt s m) : SizeAt s a := by
 intro x w hx; subst hx; (have ha2 : (a : Int) < (s.size : Int) := by omega); have hga : Hid (Kw.g s a = s[a].toNat) := Kw.g_in ha; have hl1 := len_300 hs (a + 1); have hl2 := len_300 hs (a + 2); have I1 := ih (a + 1) (by omega); have I2 := ih (a + 2) (by omega); have IH := hide ih; clear ih; by_cases c1 : s[a].toNat = 110
 · (have e1 : ((s[a].toNat : Int) == 110) = true := by simp; omega); have hl : Hid (Kw.len s a = Kw.more 1 (Kw.len s (a + 1))) := Kw.len_nk (.inl (by rw [hga.out]; exact c1)); clear c1; go_enter Tryz.func59, Tryz.ntmps59; (go_wp2_with fail); refine (I1 _ _ (by omega)).mono ?_; rintro e w1 ⟨rfl, hb1⟩; (go_wp2_with fail); refine (l1More_any 1 (Kw.len s (a + 1)) _ _ rfl rfl (by omega) (by omega) _).mono ?_; rintro e w2 ⟨rfl, rfl⟩; (go_wp2_with fail); go_ret; exact ⟨ret_len hl.out.symm, hb1⟩
 (have e1 : ((s[a].toNat : Int) == 110) = false := by simp; omega); by_cases c2 : s[a].toNat = 107
 · (have e2 : ((s[a].toNat : Int) == 107) = true := by simp; omega); have hl : Hid (Kw.len s a = Kw.more 1 (Kw.len s (a + 1))) := Kw.len_nk (.inr (by rw [hga.out]; exact c2)); clear c1 c2; go_enter Tryz.func59, Tryz.ntmps59; (go_wp2_with fail); refine (I1 _ _ (by omega)).mono ?_; rintro e w1 ⟨rfl, hb1⟩; (go_wp2_with fail); refine (l1More_any 1 (Kw.len s (a + 1)) _ _ rfl rfl (by omega) (by omega) _).mono ?_; rintro e w2 ⟨rfl, rfl⟩; (go_wp2_with fail); go_ret; exact ⟨ret_len hl.out.symm, hb1⟩
 (have e2 : ((s[a].toNat : Int) == 107) = false := by simp; omega); by_cases c3 : s[a].toNat = 109
 · (have e3 : ((s[a].toNat : Int) == 109) = true := by simp; omega); have hu := Kw.len_unfold s a; rw [hga.out, if_neg (by omega), if_pos c3] at hu; clear c1 c2 c3; by_cases d1 : a + 1 < s.size
   · (have d2 : decide ((s.size : Int) ≤ (a : Int) + 1) = false := by simp; omega); have hg1 := Kw.g_in d1; by_cases d3 : 65 ≤ s[a + 1].toNat ∧ s[a + 1].toNat ≤ 72
     · (have hl : Hid (Kw.len s a = Kw.more 2 (Kw.len s (a + 2))) := by show Kw.len s a = _; rw [hu, hg1, if_pos d3]); (have d4 : decide ((s[a + 1].toNat : Int) < 65) = false := by simp; omega); (have d5 : decide ((72 : Int) < (s[a + 1].toNat : Int)) = false := by simp; omega); clear hu hg1 d3; go_enter Tryz.func59, Tryz.ntmps59; (go_wp2_with fail); refine (I2 _ _ (by omega)).mono ?_; rintro e w1 ⟨rfl, hb1⟩; (go_wp2_with fail); refine (l1More_any 2 (Kw.len s (a + 2)) _ _ rfl rfl (by omega) (by omega) _).mono ?_; rintro e w2 ⟨rfl, rfl⟩; (go_wp2_with fail); go_ret; exact ⟨ret_len hl.out.symm, hb1⟩
     · (have hl : Hid (Kw.len s a = 0) := by show Kw.len s a = _; rw [hu, hg1, if_neg d3]); clear hu hg1; by_cases d4 : (s[a + 1].toNat : Int) < 65
       · clear d3; go_enter Tryz.func59, Tryz.ntmps59; (go_wp2_with fail); go_ret; exact ⟨ret_i64 (by rw [hl.out]; rfl), Below.refl _ _⟩
       · (have d5 : decide ((s[a + 1].toNat : Int) < 65) = false := by simp; omega); (have d6 : (72 : Int) < (s[a + 1].toNat : Int) := by omega); clear d3; go_enter Tryz.func59, Tryz.ntmps59; (go_wp2_with fail); go_ret; exact ⟨ret_i64 (by rw [hl.out]; rfl), Below.refl _ _⟩
   · (have d2 : (s.size : Int) ≤ (a : Int) + 1 := by omega); (have hl : Hid (Kw.len s a = 0) := by show Kw.len s a = _; rw [hu, Kw.g_out (by omega), if_neg (by omega)]); clear hu; go_enter Tryz.func59, Tryz.ntmps59; (go_wp2_with fail); go_ret; exact ⟨ret_i64 (by rw [hl.out]; rfl), Below.refl _ _⟩
 (have e3 : ((s[a].toNat : Int) == 109) = false := by simp; omega); by_cases c4 : s[a].toNat = 114
 · (have e4 : ((s[a].toNat : Int) == 114) = true := by simp; omega); have hu := Kw.len_unfold s a; rw [hga.out, if_neg (by omega), if_neg c3, if_pos c4] at hu; clear c1 c2 c3 c4; by_cases d1 : a + 1 < s.size
   · (have d2 : decide ((s.size : Int) ≤ (a : Int) + 1) = false := by simp; omega); have hg1 := Kw.g_in d1; by_cases d3 : 49 ≤ s[a + 1].toNat ∧ s[a + 1].toNat ≤ 57
     · (have hl : Hid (Kw.len s a = Kw.more 2 (Kw.len s (a + 2))) := by show Kw.len s a = _; rw [hu, hg1, if_pos d3]); (have d4 : decide ((s[a + 1].toNat : Int) < 49) = false := by simp; omega); (have d5 : decide ((57 : Int) < (s[a + 1].toNat : Int)) = false := by simp; omega); clear hu hg1 d3; go_enter Tryz.func59, Tryz.ntmps59; (go_wp2_with fail); refine (I2 _ _ (by omega)).mono ?_; rintro e w1 ⟨rfl, hb1⟩; (go_wp2_with fail); refine (l1More_any 2 (Kw.len s (a + 2)) _ _ rfl rfl (by omega) (by omega) _).mono ?_; rintro e w2 ⟨rfl, rfl⟩; (go_wp2_with fail); go_ret; exact ⟨ret_len hl.out.symm, hb1⟩
     · (have hl : Hid (Kw.len s a = 0) := by show Kw.len s a = _; rw [hu, hg1, if_neg d3]); clear hu hg1; by_cases d4 : (s[a + 1].toNat : Int) < 49
       · clear d3; go_enter Tryz.func59, Tryz.ntmps59; (go_wp2_with fail); go_ret; exact ⟨ret_i64 (by rw [hl.out]; rfl), Below.refl _ _⟩
       · (have d5 : decide ((s[a + 1].toNat : Int) < 49) = false := by simp; omega); (have d6 : (57 : Int) < (s[a + 1].toNat : Int) := by omega); clear d3; go_enter Tryz.func59, Tryz.ntmps59; (go_wp2_with fail); go_ret; exact ⟨ret_i64 (by rw [hl.out]; rfl), Below.refl _ _⟩
   · (have d2 : (s.size : Int) ≤ (a : Int) + 1 := by omega); (have hl : Hid (Kw.len s a = 0) := by show Kw.len s a = _; rw [hu, Kw.g_out (by omega), if_neg (by omega)]); clear hu; go_enter Tryz.func59, Tryz.ntmps59; (go_wp2_with fail); go_ret; exact ⟨ret_i64 (by rw [hl.out]; rfl), Below.refl _ _⟩
 (have e4 : ((s[a].toNat : Int) == 114) = false := by simp; omega); by_cases c5 : s[a].toNat = 101
 · (have e5 : ((s[a].toNat : Int) == 101) = true := by simp; omega); have hu := Kw.len_unfold s a; rw [hga.out, if_neg (by omega), if_neg c3, if_neg c4, if_pos c5] at hu; clear c1 c2 c3 c4 c5; by_cases d1 : Kw.len s (a + 1) = 0
   · (have hl : Hid (Kw.len s a = 0) := by show Kw.len s a = _; rw [hu, if_pos d1]); (have d2 : ((Kw.len s (a + 1) : Int) == 0) = true := by simp; omega); clear hu d1; go_enter Tryz.func59, Tryz.ntmps59; (go_wp2_with fail); refine (I1 _ _ (by omega)).mono ?_; rintro e w1 ⟨rfl, hb1⟩; (go_wp2_with fail); go_ret; exact ⟨ret_i64 (by rw [hl.out]; rfl), hb1⟩
   · (have hl : Hid (Kw.len s a = Kw.more (1 + Kw.len s (a + 1)) (Kw.len s (a + 1 + Kw.len s (a + 1)))) := by show Kw.len s a = _; rw [hu, if_neg d1]); (have d2 : ((Kw.len s (a + 1) : Int) == 0) = false := by simp; omega); have I3 := IH.out (a + 1 + Kw.len s (a + 1)) (by omega); have hl3 := len_300 hs (a + 1 + Kw.len s (a + 1)); clear hu d1; go_enter Tryz.func59, Tryz.ntmps59; (go_wp2_with fail); refine (I1 _ _ (by omega)).mono ?_; rintro e w1 ⟨rfl, hb1⟩; (go_wp2_with fail); refine (I3 _ _ (by omega)).mono ?_; rintro e w2 ⟨rfl, hb2⟩; (go_wp2_with fail); refine (l1More_any (1 + Kw.len s (a + 1)) (Kw.len s (a + 1 + Kw.len s (a + 1))) _ _ (by omega) rfl (by omega) (by omega) _).mono ?_; rintro e w3 ⟨rfl, rfl⟩; (go_wp2_with fail); go_ret; exact ⟨ret_len hl.out.symm, hb1.trans (hb2.mono hb1.size)⟩
 (have e5 : ((s[a].toNat : Int) == 101) = false := by simp; omega); have hl : Hid (Kw.len s a = Kw.fresh s a) := Kw.len_else (by rw [hga.out]; exact c1) (by rw [hga.out]; exact c2) (by rw [hga.out]; exact c3) (by rw [hga.out]; exact c4) (by rw [hga.out]; exact c5); clear c1 c2 c3 c4 c5; go_enter Tryz.func59, Tryz.ntmps59; (go_wp2_with fail); refine (l1Fresh_any s a _ rfl hs ha _).mono ?_; rintro e w1 ⟨rfl, hb1⟩; (go_wp2_with fail); go_ret; exact ⟨ret_len hl.out.symm, hb1⟩
theorem l1Size_all (s : ByteArray) (hs : s.size ≤ 300) : ∀ f a, s.size - a ≤ f → SizeAt s a := by
 intro f
 induction f with
 | zero => intro a h; exact l1Size_out s a (by omega)
 | succ f ih =>
  intro a h; by_cases ha : a < s.size
  · exact l1Size_step s hs a ha (fun m h1 => ih m (by omega))
  · exact l1Size_out s a (by omega)
theorem ret_bool {a b : Bool} (h : a = b) : Ending.returned (.bool a) = .returned (.bool b) := by rw [h]
theorem isEmpty_no {s : ByteArray} (h : s.size ≠ 0) : s.toList.isEmpty = false := by rw [List.isEmpty_eq_false_iff]; intro e; apply h; have := congrArg List.length e; simpa [ByteArray.toList_eq] using this
theorem sSecOk_any (s : ByteArray) (w : World) (hm : s.size ≤ maxLen) : Calls Tryz.prog 41 #[.string s] w fun e w' => e = .returned (.bool (Kw.ok s)) ∧ Below w.heap.size w w' := by
 unfold maxLen at hm; by_cases h0 : s.size = 0
 · obtain rfl := empty_of h0; rw [ok_empty]; clear hm h0; go_enter Tryz.func41, Tryz.ntmps41; (go_wp2_with fail); go_ret; exact ⟨rfl, Below.refl _ _⟩
 have he := isEmpty_no h0; by_cases hs : s.size ≤ 300
 · have H := l1Size_all s hs s.size 0 (by omega); have hk : Hid (Kw.ok s = ((Kw.len s 0 : Int) == (s.size : Int))) := ok_eq hs h0; clear h0; go_enter Tryz.func41, Tryz.ntmps41; (go_wp2_with fail); refine (H _ _ rfl).mono ?_; rintro e w1 ⟨rfl, hb1⟩; (go_wp2_with fail); go_ret; exact ⟨ret_bool hk.out.symm, hb1⟩
 · have hk : Hid (Kw.ok s = false) := ok_long (by omega); (have hd : decide ((s.size : Int) ≤ 300) = false := by simp; omega); clear h0 hs; go_enter Tryz.func41, Tryz.ntmps41; (go_wp2_with fail); go_ret; exact ⟨ret_bool hk.out.symm, Below.refl _ _⟩
theorem l1Ok_any (s : ByteArray) (w : World) (hm : s.size ≤ maxLen) : Calls Tryz.prog 62 #[.string s] w fun e w' => e = .returned (.string (only s)) ∧ Below w.heap.size w w' := by
 have M := hide hm; clear hm
 cases hk : Kw.ok s with
 | true =>
  rw [show only s = s by unfold only; rw [if_pos hk]]; have K := hide hk; clear hk; go_enter Tryz.func62, Tryz.ntmps62; (go_wp2_with fail); refine (sSecOk_any s _ M.out).mono ?_; rw [K.out]; rintro e w1 ⟨rfl, hb1⟩; (go_wp2_with fail); go_ret; exact ⟨rfl, hb1⟩
 | false =>
  rw [show only s = ⟨#[]⟩ by unfold only; rw [if_neg (by rw [hk]; simp)]]; have K := hide hk; clear hk; go_enter Tryz.func62, Tryz.ntmps62; (go_wp2_with fail); refine (sSecOk_any s _ M.out).mono ?_; rw [K.out]; rintro e w1 ⟨rfl, hb1⟩; (go_wp2_with fail); go_ret; exact ⟨rfl, hb1⟩
open Kw (g len nv ok)
theorem new_parts {s : ByteArray} (hf : Kw.fresh s 0 = s.size) (h0 : s.size ≠ 0) : 65 ≤ g s 0 ∧ g s 0 ≤ 72 ∧ (∀ i, 1 ≤ i → i < s.size - 1 → 48 ≤ g s i ∧ g s i ≤ 57) ∧ (3 ≤ s.size ∧ s.size ≤ 4) ∧ nv s 0 = dv s 1 (s.size - 2) := by
 by_cases h1 : 65 ≤ g s 0 ∧ g s 0 ≤ 72 ∧ 49 ≤ g s (0 + 1) ∧ g s (0 + 1) ≤ 57
 · obtain ⟨p1, p2, p3, p4⟩ := h1; rw [Nat.zero_add] at p3 p4; by_cases h2 : g s (0 + 2) = 59
   · (have e : Kw.fresh s 0 = 3 := by unfold Kw.fresh; rw [if_pos ⟨p1, p2, p3, p4⟩, if_pos h2]); (have e2 : nv s 0 = g s (0 + 1) - 48 := by unfold nv; rw [if_pos h2]); (have e3 : s.size = 3 := by omega); refine ⟨p1, p2, ?_, by omega, ?_⟩
     · intro i h1 h2; (have : i = 1 := by omega); subst this; omega
     · rw [e2, e3]; show g s 1 - 48 = 0 * 10 + (g s (1 + 0) - 48); simp
   · by_cases h3 : 48 ≤ g s (0 + 2) ∧ g s (0 + 2) ≤ 57 ∧ g s (0 + 3) = 59
     · (have e : Kw.fresh s 0 = 4 := by unfold Kw.fresh; rw [if_pos ⟨p1, p2, p3, p4⟩, if_neg h2, if_pos h3]); (have e2 : nv s 0 = (g s (0 + 1) - 48) * 10 + (g s (0 + 2) - 48) := by unfold nv; rw [if_neg h2]); (have e3 : s.size = 4 := by omega); obtain ⟨r1, r2, _⟩ := h3; rw [Nat.zero_add] at r1 r2; refine ⟨p1, p2, ?_, by omega, ?_⟩
       · intro i h1 h2; (have : i = 1 ∨ i = 2 := by omega); rcases this with rfl | rfl <;> omega
       · rw [e2, e3]; show (g s 1 - 48) * 10 + (g s 2 - 48) = (0 * 10 + (g s (1 + 0) - 48)) * 10 + (g s (1 + 1) - 48); simp
     · exfalso; apply h0; rw [← hf]; unfold Kw.fresh; rw [if_pos ⟨p1, p2, p3, p4⟩, if_neg h2, if_neg h3]
 · exfalso; apply h0; rw [← hf]; unfold Kw.fresh; rw [if_neg h1]
theorem l1How_any (s : ByteArray) (w : World) (hk : ok s = true) : Calls Tryz.prog 64 #[.string s] w fun e w' => e = .returned (howV (mOp s) (mWho s) (mN s) (mA s) (mB s)) ∧ Below w.heap.size w w' := by
 obtain ⟨h1, h2, h3⟩ := ok_facts hk; (have p0 : 0 < s.size := by omega); (have p0' : (0 : Int) < (s.size : Int) := by omega); have g0 := Kw.g_in p0; unfold mOp mWho mN mA mB; simp only [if_pos hk]; by_cases c1 : g s 0 = 110
 · simp only [if_pos c1]; (have e1 : ((s[0].toNat : Int) == 110) = true := by simp; omega); clear h2 h3 g0 c1; have hk' := hide hk; clear hk; go_enter Tryz.func64, Tryz.ntmps64; (go_wp2_with fail); refine bodyPost_ret (v := howV 2 0 0 (s.extract 1 s.size) ⟨#[]⟩) (by simp [results, Tryz.results64, go_sem, howV]) rfl ⟨rfl, ?_⟩; exact (Below.refl _ _).alloc (Nat.le_refl _) _
 simp only [if_neg c1]; (have e1 : ((s[0].toNat : Int) == 110) = false := by simp; omega); by_cases c2 : g s 0 = 107
 · simp only [if_pos c2]; (have e2 : ((s[0].toNat : Int) == 107) = true := by simp; omega); clear h2 h3 g0 c1 c2; have hk' := hide hk; clear hk; go_enter Tryz.func64, Tryz.ntmps64; (go_wp2_with fail); refine bodyPost_ret (v := howV 3 0 0 (s.extract 1 s.size) ⟨#[]⟩) (by simp [results, Tryz.results64, go_sem, howV]) rfl ⟨rfl, ?_⟩; exact (Below.refl _ _).alloc (Nat.le_refl _) _
 simp only [if_neg c2]; (have e2 : ((s[0].toNat : Int) == 107) = false := by simp; omega); by_cases c3 : g s 0 = 101
 · simp only [if_pos c3]; (have e3 : ((s[0].toNat : Int) == 101) = true := by simp; omega); (have e4 : ((s[0].toNat : Int) == 109) = false := by simp; omega); (have e5 : ((s[0].toNat : Int) == 114) = false := by simp; omega); obtain ⟨q1, q2, q3⟩ := parts_e hk c3; have H := l1Size_all s h1 s.size 1 (by omega); (have p1' : (1 : Int) + (len s 1 : Int) ≤ (s.size : Int) := by omega); (have p2' : (1 : Int) ≤ (s.size : Int) := by omega); (have p3' : (1 : Int) ≤ 1 + (len s 1 : Int) := by omega); (have i3 : IntKind.i64.wrap (1 + (len s 1 : Int)) = 1 + (len s 1 : Int) := by simp [IntKind.wrap, IntKind.bits, IntKind.signed]; omega); (have i5 : (0 : Int) ≤ 1 + (len s 1 : Int) := by omega); clear h2 h3 g0 c1 c2 c3 q1 q2 q3; have hk' := hide hk; clear hk; go_enter Tryz.func64, Tryz.ntmps64; (go_wp2_with fail); refine (H _ _ rfl).mono ?_; rintro e w1 ⟨rfl, hb1⟩; obtain ⟨k0, k1, k2, k3, k4, z0, z1, z2, z3, z4⟩ := Res5.keep (b := w.heap.size) (by constructor <;> simp [go_sem]) hb1 (by simp); have hbb : Below w.heap.size w w1 := ((Below.refl w.heap.size w).alloc (Nat.le_refl _) _).trans (hb1.mono (by simp)); clear hb1; (go_wp2_with fail); go_region; (all_goals go_wp2_with fail); (all_goals refine bodyPost_ret (v := howV 4 0 0 (s.extract 1 (1 + len s 1)) (s.extract (1 + len s 1) s.size)) (by simp [results, Tryz.results64, go_sem, howV, k0, k1, k2, k3, k4]) rfl ⟨rfl, ?_⟩); all_goals exact (below5 hbb (Nat.le_refl _) _ _ _ _ _).drew
 simp only [if_neg c3]; (have e3 : ((s[0].toNat : Int) == 101) = false := by simp; omega); by_cases c4 : g s 0 = 109
 · simp only [if_pos c4]; (have e4 : ((s[0].toNat : Int) == 109) = true := by simp; omega); obtain ⟨q1, q2, q3, q4⟩ := parts_m hk c4; (have p1 : 1 < s.size := by omega); (have p1' : (1 : Int) < (s.size : Int) := by omega); (have p2' : (2 : Int) ≤ (s.size : Int) := by omega); rw [Kw.g_in p1] at q1 q2 ⊢; (have b1 : (65 : Int) ≤ (s[1].toNat : Int) := by omega); (have b2 : (s[1].toNat : Int) ≤ 72 := by omega); clear h2 h3 g0 c1 c2 c3 c4 q1 q2 q3 q4; have hk' := hide hk; clear hk; go_enter Tryz.func64, Tryz.ntmps64; (go_wp2_with fail); go_region; (all_goals go_wp2_with fail); (all_goals refine bodyPost_ret (v := howV 5 ((s[1].toNat : Int) - 65) 0 (s.extract 2 s.size) ⟨#[]⟩) (by simp [results, Tryz.results64, go_sem, howV]) rfl ⟨rfl, ?_⟩); all_goals exact ((Below.refl _ _).alloc (Nat.le_refl _) _).drew
 simp only [if_neg c4]; (have e4 : ((s[0].toNat : Int) == 109) = false := by simp; omega); by_cases c5 : g s 0 = 114
 · simp only [if_pos c5]; (have e5 : ((s[0].toNat : Int) == 114) = true := by simp; omega); obtain ⟨q1, q2, q3, q4⟩ := parts_r hk c5; (have p1 : 1 < s.size := by omega); (have p1' : (1 : Int) < (s.size : Int) := by omega); (have p2' : (2 : Int) ≤ (s.size : Int) := by omega); rw [Kw.g_in p1] at q1 q2 ⊢; (have b1 : (48 : Int) ≤ (s[1].toNat : Int) := by omega); (have b2 : (s[1].toNat : Int) ≤ 57 := by omega); (have b3 : ((s[1].toNat - 48 : Nat) : Int) = (s[1].toNat : Int) - 48 := by omega); rw [b3]; clear h2 h3 g0 c1 c2 c3 c4 c5 q1 q2 q3 q4 b3; have hk' := hide hk; clear hk; go_enter Tryz.func64, Tryz.ntmps64; (go_wp2_with fail); go_region; (all_goals go_wp2_with fail); (all_goals refine bodyPost_ret (v := howV 6 0 ((s[1].toNat : Int) - 48) (s.extract 2 s.size) ⟨#[]⟩) (by simp [results, Tryz.results64, go_sem, howV]) rfl ⟨rfl, ?_⟩); all_goals exact ((Below.refl _ _).alloc (Nat.le_refl _) _).drew
 simp only [if_neg c5]; (have e5 : ((s[0].toNat : Int) == 114) = false := by simp; omega); have hfr := parts_new hk c1 c2 c3 c4 c5; obtain ⟨q1, q2, q3, q4⟩ := new_parts hfr h2; rw [g0] at q1 q2 ⊢; (have b1 : (65 : Int) ≤ (s[0].toNat : Int) := by omega); (have b2 : (s[0].toNat : Int) ≤ 72 := by omega); have q3' := hide q3; have q4' := hide q4.2; (have hsz3 : 3 ≤ s.size := by omega); (have hsz4 : s.size ≤ 4 := by omega); clear h2 h3 g0 c1 c2 c3 c4 c5 q1 q2 q3 q4 hfr; have hk' := hide hk; clear hk; go_enter Tryz.func64, Tryz.ntmps64; (go_wp2_with fail); go_loop [4, 5] (fun n k => ∃ m j : Nat, k = .int .i64 (j : Int) ∧ n = .int .i64 (m : Int) ∧ 1 ≤ j ∧ j + 1 ≤ s.size ∧ m < 10 ^ (j - 1) ∧ Hid (m = dv s 1 (j - 1))) (fun _ k => s.size - (intOf k).toNat)
 case atStart => exact ⟨0, 1, rfl, rfl, by omega, by omega, by simp, rfl⟩
 case round =>
  obtain ⟨m, j, rfl, rfl, hj1, hj2, hm0, hm⟩ := hrel
  have hm1 : m ≤ 999 := by
   match j, hj1, hj2, hm0 with
   | 1, _, _, h => omega
   | 2, _, _, h => simp at h; omega
   | 3, _, _, h => simp at h; omega
   | j + 4, _, h4, _ => omega
  have hmm := hide hm0; clear hm0; by_cases hlt : j < s.size - 1
  · (have hlt2 : (j : Int) < (s.size : Int) - 1 := by omega); (have hlt3 : j < s.size := by omega); (have hlt4 : (j : Int) < (s.size : Int) := by omega); have hd := q3'.out j hj1 hlt; rw [Kw.g_in hlt3] at hd; (have b3 : (48 : Int) ≤ (s[j].toNat : Int) := by omega); (have b4 : (s[j].toNat : Int) ≤ 57 := by omega); have hG : Hid (g s j = s[j].toNat) := Kw.g_in hlt3; clear hd; (go_wp2_with fail); refine ⟨⟨m * 10 + (s[j].toNat - 48), j + 1, by simp, ?_, by omega, by omega, ?_, ?_⟩, by simp [intOf]; omega⟩
    · congr 1; omega
    · have := hmm.out; rw [show j + 1 - 1 = (j - 1) + 1 by omega, Nat.pow_succ]; omega
    · show _ = dv s 1 (j + 1 - 1); rw [show j + 1 - 1 = (j - 1) + 1 by omega]; show _ = dv s 1 (j - 1) * 10 + (g s (1 + (j - 1)) - 48); rw [show 1 + (j - 1) = j by omega, hG.out, ← hm.out]
  · (have hge : decide ((j : Int) < (s.size : Int) - 1) = false := by simp; omega); (have hjj : Hid (j = s.size - 1) := by show j = s.size - 1; omega); clear hlt; (go_wp2_with fail); (have hN : (nv s 0 : Int) = (m : Int) := by rw [q4'.out, hm.out, hjj.out, show s.size - 1 - 1 = s.size - 2 by omega]); rw [hN]; refine bodyPost_ret (v := howV 1 ((s[0].toNat : Int) - 65) (m : Int) ⟨#[]⟩ ⟨#[]⟩) (by simp [results, Tryz.results64, go_sem, howV]) rfl ⟨rfl, ?_⟩; exact (Below.refl _ _).alloc (Nat.le_refl _) _
abbrev Bx := ByteArray × ByteArray
def noBx : Bx := (ByteArray.empty, ByteArray.empty)
def BRow (w : World) (v : Value) (bs : List Bx) : Prop :=
  ∃ (ao : Option Addr) (cap : Nat), v = .slice ao bs.length cap ∧ bs.length ≤ cap ∧ cap ≤ maxLen ∧ ∀ i, i < bs.length → ∃ a, ao = some a ∧ w.cell? (a.add (i * 2)) = some (.string (bs.getD i noBx).1) ∧ w.cell? ((a.add (i * 2)).add 1) = some (.string (bs.getD i noBx).2)
theorem BRow.below {w w' : World} {v : Value} {bs : List Bx} (h : BRow w v bs) (hb : Below w.heap.size w w') : BRow w' v bs := by obtain ⟨ao, cap, h1, h2, h3, h4⟩ := h; refine ⟨ao, cap, h1, h2, h3, fun i hi => ?_⟩; obtain ⟨a, q1, q2, q3⟩ := h4 i hi; exact ⟨a, q1, (hb.cell (cell_lt q2)).trans q2, (hb.cell (cell_lt q3)).trans q3⟩
theorem add_one (x : Addr) : x.add 1 = ⟨x.block, x.off + 1, none⟩ := Addr.add_succ' x 0
def okBoxes (bs : List Bx) : Bool := decide (bs.length ≤ 400) && bs.all fun b => Kw.ok b.1 && Kw.ok b.2
theorem okBoxes_iff {bs : List Bx} : okBoxes bs = true ↔ bs.length ≤ 400 ∧ ∀ b ∈ bs, Kw.ok b.1 = true ∧ Kw.ok b.2 = true := by unfold okBoxes; simp
theorem getB_mem {bs : List Bx} {k : Nat} (h : k < bs.length) : bs.getD k noBx ∈ bs := by rw [List.getD_eq_getElem?_getD, List.getElem?_eq_getElem h]; exact List.getElem_mem h
theorem l2Boxes_any (v : Value) (bs : List Bx) (w : World) (h : BRow w v bs) (hx : ∀ b ∈ bs, b.1.size ≤ maxLen ∧ b.2.size ≤ maxLen) : Calls Tryz.prog 88 #[v] w fun e w' => e = .returned (.bool (okBoxes bs)) ∧ Below w.heap.size w w' := by
 have hR := hide h; have hX := hide hx; obtain ⟨ao, cap, rfl, h1, h2, _⟩ := h; unfold maxLen at h2; clear hx; by_cases hmost : 400 < bs.length
 · have h1 : (400 : Int) < (bs.length : Int) := by omega
   have he : okBoxes bs = false := by
    cases q : okBoxes bs with
    | false => rfl
    | true => have := (okBoxes_iff.1 q).1; omega
   go_enter Tryz.func88, Tryz.ntmps88; (go_wp2_with fail); go_ret; exact ⟨ret_bool' he.symm, Below.refl _ _⟩
 (have h1 : decide ((400 : Int) < (bs.length : Int)) = false := by simp; omega); go_enter Tryz.func88, Tryz.ntmps88; (go_wp2_with fail); go_loopw [3] (fun i wr => ∃ k : Nat, k ≤ bs.length ∧ i = .int .i64 (k : Int) ∧ Hid (∀ j, j < k → Kw.ok (bs.getD j noBx).1 = true ∧ Kw.ok (bs.getD j noBx).2 = true) ∧ Hid (Below w.heap.size w wr)) (fun i _ => bs.length - (intOf i).toNat)
 case atStart => exact ⟨0, by omega, rfl, fun j hj => by omega, Below.refl _ _⟩
 case round =>
  obtain ⟨k, hk, rfl, hN, hL⟩ := hrel; by_cases hlt : k < bs.length
  · (have hlt2 : (k : Int) < (bs.length : Int) := by omega); obtain ⟨ao', c1, q1, _, _, q2⟩ := BRow.below hR.out hL.out; simp only [Value.slice.injEq] at q1; obtain ⟨rfl, z1, rfl⟩ := q1; clear z1; obtain ⟨a, rfl, hca, hcb⟩ := q2 k hlt; clear q2; have hmem := getB_mem hlt; have M : Hid ((bs.getD k noBx).1.size ≤ maxLen ∧ (bs.getD k noBx).2.size ≤ maxLen) := hX.out _ hmem; have hle := hL.out.size; have i3 : IntKind.i64.wrap ((k : Int) + 1) = (k : Int) + 1 := by simp [IntKind.wrap, IntKind.bits, IntKind.signed]; omega
    have hNo : Hid (Kw.ok (bs.getD k noBx).1 = false ∨ Kw.ok (bs.getD k noBx).2 = false → okBoxes bs = false) := by
     intro hf
     cases q : okBoxes bs with
     | false => rfl
     | true =>
      have := (okBoxes_iff.1 q).2 _ hmem; rcases hf with hf | hf
      · rw [hf] at this; cases this.1
      · rw [hf] at this; cases this.2
    have hYes : Hid (Kw.ok (bs.getD k noBx).1 = true → Kw.ok (bs.getD k noBx).2 = true → ∀ j, j < k + 1 → Kw.ok (bs.getD j noBx).1 = true ∧ Kw.ok (bs.getD j noBx).2 = true) := by
     intro ha hb j hj; by_cases hjk : j = k
     · subst hjk; exact ⟨ha, hb⟩
     · exact hN j (by omega)
    clear hmem; generalize bs.getD k noBx = y at hca hcb M hNo hYes; (go_wp2_with fail); refine (sSecOk_any y.1 _ M.out.1).mono ?_
    cases hy : Kw.ok y.1 with
    | false =>
     have he := hNo.out (.inl hy); rintro e w1 ⟨rfl, hb1⟩; have hL1 := hide (hL.out.trans (hb1.mono hle)); clear hb1 hy; (go_wp2_with fail); go_ret; exact ⟨ret_bool' he.symm, unhide hL1⟩
    | true =>
     have HY := hide hy; rintro e w1 ⟨rfl, hb1⟩; have hcb1 := (hb1.cell (cell_lt hcb)).trans hcb; rw [add_one] at hcb1; have hL1 := hide (hL.out.trans (hb1.mono hle)); have hle1 := hL1.out.size; clear hb1 hy hca hcb; (go_wp2_with fail); refine (sSecOk_any y.2 _ M.out.2).mono ?_
     cases hz : Kw.ok y.2 with
     | false =>
      have he := hNo.out (.inr hz); rintro e w2 ⟨rfl, hb2⟩; have hL2 := hide (hL1.out.trans (hb2.mono hle1)); clear hb2 hz; (go_wp2_with fail); go_ret; exact ⟨ret_bool' he.symm, unhide hL2⟩
     | true =>
      have hN1 := hide (hYes.out HY.out hz); rintro e w2 ⟨rfl, hb2⟩; have hL2 := hide (hL1.out.trans (hb2.mono hle1)); clear hb2 hz; (go_wp2_with fail); go_roundw
      case rel => exact ⟨k + 1, by omega, by simp, hN1, hL2⟩
      case measure => simp [intOf]; omega
  · have hlt2 : decide ((k : Int) < (bs.length : Int)) = false := by simp; omega
    have he : okBoxes bs = true := okBoxes_iff.2 ⟨by omega, fun b hb => by
      obtain ⟨j, hj, e⟩ := List.getElem_of_mem hb
      have := hN.out j (by omega)
      rw [List.getD_eq_getElem?_getD, List.getElem?_eq_getElem hj] at this
      rw [← e]; exact this⟩
    (go_wp2_with fail); go_ret; exact ⟨ret_bool' he.symm, unhide hL⟩
theorem info_bx : (Tryz.prog.info? 53).map (fun i => (i.zero, i.size, i.bytes)) = some (some (.agg #[.string ⟨#[]⟩, .string ⟨#[]⟩]), 2, 32) := by kernel_rfl
theorem underBx : Tryz.prog.underlying 51 = some (.slice 53) := by kernel_rfl
def bcells (bs : List Bx) : List Value := bs.flatMap fun b => [.string b.1, .string b.2]
theorem bcells_snoc (bs : List Bx) (b : Bx) : bcells (bs ++ [b]) = bcells bs ++ [.string b.1, .string b.2] := by simp [bcells]
theorem bcells_get : ∀ (bs : List Bx) (i : Nat), i < bs.length → (bcells bs)[i * 2]? = some (.string (bs.getD i noBx).1) ∧ (bcells bs)[i * 2 + 1]? = some (.string (bs.getD i noBx).2)
  | [], i, h => absurd h (Nat.not_lt_zero _)
  | b :: bs, 0, _ => by simp [bcells]
  | b :: bs, i + 1, h => by
    have := bcells_get bs i (by simpa using h)
    rw [show (i + 1) * 2 = i * 2 + 1 + 1 by omega]
    simpa [bcells] using this
def OwnB (B : Nat) (w : World) (v : Value) (bs : List Bx) : Prop := w.ownsRow B 53 2 v bs.length (bcells bs)
theorem OwnB.brow {B : Nat} {w : World} {v : Value} {bs : List Bx} (h : OwnB B w v bs) : BRow w v bs := by
 rcases h.2 with ⟨h1, h2⟩ | ⟨g, cap, cur, h1, h2, h3, h4, h5, _⟩
 · exact ⟨none, 0, by rw [h1, h2], by omega, by omega, fun i hi => by omega⟩
 · refine ⟨some ⟨g, 0, none⟩, cap, h1, h4, h5, fun i hi => ?_⟩; have hc := World.ownsRow.cells h (g := g) (by rw [h1]; rfl); obtain ⟨p1, p2⟩ := bcells_get bs i hi; refine ⟨_, rfl, hc _ _ p1, ?_⟩; rw [Addr.add_lit, Addr.add_lit, Nat.zero_add]; have := hc _ _ p2; rw [Addr.add_lit, Nat.zero_add] at this; exact this
theorem bcells_len (bs : List Bx) : (bcells bs).length = bs.length * 2 := by
 induction bs with
 | nil => rfl
 | cons b bs ih => simp [bcells] at ih ⊢; omega
theorem own_empty (B : Nat) (w : World) (h : B ≤ w.heap.size) : Own B (w.alloc (Obj.cells #[] 9)) (.slice (some ⟨w.heap.size, 0, none⟩) 0 0) [] :=
  World.ownsRow_made w #[] 0 h (by omega) rfl
def IIn (lo hi : Nat) (w : World) (v : Value) (xs : List Int) : Prop := RowIn lo hi 3 1 w v xs.length (xs.map (Value.int .i64))
theorem IIn.of {lo : Nat} {w : World} {v : Value} {xs : List Int} (h : OwnI lo w v xs) : IIn lo w.heap.size w v xs := RowIn.of h
theorem IIn.irow {lo hi : Nat} {w : World} {v : Value} {xs : List Int} (h : IIn lo hi w v xs) : IRow w v xs := OwnI.irow h.1
theorem IIn.below {lo hi : Nat} {w w' : World} {v : Value} {xs : List Int} (h : IIn lo hi w v xs) (hb : Below w.heap.size w w') : IIn lo hi w' v xs := RowIn.below h hb
theorem IIn.grown {lo hi : Nat} {w w' : World} {v : Value} {xs : List Int} {r : Option Nat} (h : IIn lo hi w v xs) (hg : w.grownBy w' r) (hr : ∀ k, r = some k → k < lo ∨ hi ≤ k) : IIn lo hi w' v xs := RowIn.grown h hg hr
theorem IIn.drew {lo hi : Nat} {w : World} {v : Value} {xs : List Int} (h : IIn lo hi w v xs) : IIn lo hi w.drew v xs := h.below (Below.refl _ _).drew
theorem how_field (a b c : Int) (d e : ByteArray) : howV a b c d e = .agg #[.int .i64 a, .int .i64 b, .int .i64 c, .string d, .string e] := rfl
theorem field_op (a b c : Int) (d e : ByteArray) (w : World) : (Instr.field 137 (.agg #[.int .i64 a, .int .i64 b, .int .i64 c, .string d, .string e]) 0).run Tryz.prog w = .ok (.int .i64 a) w := by kernel_rfl
theorem field_who (a b c : Int) (d e : ByteArray) (w : World) : (Instr.field 137 (.agg #[.int .i64 a, .int .i64 b, .int .i64 c, .string d, .string e]) 1).run Tryz.prog w = .ok (.int .i64 b) w := by kernel_rfl
def keyOk (x : ByteArray) : Bool := decide (x = ByteArray.empty) || (Kw.ok x && decide (mOp x = 3))
def treOk (xs : List ByteArray) : Bool := decide (xs.length = 15) && xs.all keyOk
def fill : List ByteArray → ByteArray → List Nat → List ByteArray
  | xs, _, [] => xs
  | xs, s, p :: ps => fill (xs.set p (mkKey s)) (mkNext s) ps
def setKeys (xs : List ByteArray) (who : Nat) (s : ByteArray) : List ByteArray := fill xs s ((7 + who) :: ups (7 + who))
open Kw
end Go.Proofs.YtdfpeaenbmgihaaGreat
