/-
  The recursive descent over names, over the landed program: what reading a name at a place comes to.
-/
import Derived.Test.YtgdhlnfigcaepaaFnExactWinTakeB2
import Derived.Shelf.LaysM
import Derived.Shelf.Strconv.Clone
import Derived.Test.YtgdhlnfigcaepaaRows
import Derived.WalkKit
import Derived.Deep.RegionWith
import Derived.Test.YtgdhlnfigcaepaaFnExactWinTakeB1
namespace Go.Proofs.Ytgdhlnfigcaepaa
open Go.RowKit

/-- The value that tells how the secret at a place was made. -/
def secV (s : ByteArray) (a : Nat) : Value :=
  if Kw.g s a = 110 then .iface 99 (.agg #[.string (s.extract (a + 1) (a + 1 + Kw.len s (a + 1)))])
  else if Kw.g s a = 107 then .iface 100 (.agg #[.string (s.extract (a + 1) (a + 1 + Kw.len s (a + 1)))])
  else if Kw.g s a = 101 then .iface 102 (.agg #[.string (s.extract (a + 1) (a + 1 + Kw.len s (a + 1))), .string (s.extract (a + 1 + Kw.len s (a + 1)) (a + 1 + Kw.len s (a + 1) + Kw.len s (a + 1 + Kw.len s (a + 1))))])
  else if Kw.g s a = 109 then .iface 83 (.agg #[.string (s.extract (a + 2) (a + 2 + Kw.len s (a + 2))), .int .i64 ((Kw.g s (a + 1) : Int) - 65)])
  else if Kw.g s a = 114 then .iface 104 (.agg #[.string (s.extract (a + 2) (a + 2 + Kw.len s (a + 2))), .int .i64 ((Kw.g s (a + 1) - 48 : Nat) : Int)])
  else .iface 97 (.agg #[.int .i64 ((Kw.g s a : Int) - 65), .int .i64 (Kw.nv s a : Int)])

/-- What reading comes to, of a text that is a name from a place on, so many bytes, or of one that is none. -/
def Post (b : Nat) (s : ByteArray) (a k : Nat) (v : Value) (w : World) (e : Ending) (w' : World) : Prop :=
  Below b w w' ∧ ((k ≠ 0 ∧ e = .returned (.tuple #[v, .bool true]) ∧ Rd b s (a + k) w') ∨ (k = 0 ∧ (∃ u, e = .returned (.tuple #[u, .bool false])) ∧ ∃ a1, Rd b s a1 w'))

theorem Post.yes {b : Nat} {s : ByteArray} {a k : Nat} {v : Value} {w : World} {e : Ending} {w' : World} (h : Post b s a k v w e w') (hk : k ≠ 0) : e = .returned (.tuple #[v, .bool true]) ∧ Rd b s (a + k) w' ∧ Below b w w' := by
  obtain ⟨h1, ⟨_, h2, h3⟩ | ⟨h2, _⟩⟩ := h
  · exact ⟨h2, h3, h1⟩
  · exact absurd h2 hk
theorem Post.no {b : Nat} {s : ByteArray} {a k : Nat} {v : Value} {w : World} {e : Ending} {w' : World} (h : Post b s a k v w e w') (hk : k = 0) : ∃ u, e = .returned (.tuple #[u, .bool false]) ∧ (∃ a1, Rd b s a1 w') ∧ Below b w w' := by
  obtain ⟨h1, ⟨h2, _⟩ | ⟨_, ⟨u, h2⟩, h3⟩⟩ := h
  · exact absurd hk h2
  · exact ⟨u, h2, h3, h1⟩

/-- The same, where nothing is handed back of a text that is none. -/
def PostN (b : Nat) (s : ByteArray) (a k : Nat) (v : Value) (w : World) (e : Ending) (w' : World) : Prop :=
  Below b w w' ∧ ((k ≠ 0 ∧ e = .returned (.tuple #[v, .bool true]) ∧ Rd b s (a + k) w') ∨ (k = 0 ∧ e = .returned (.tuple #[.string ⟨#[]⟩, .bool false]) ∧ ∃ a1, Rd b s a1 w'))
theorem PostN.yes {b : Nat} {s : ByteArray} {a k : Nat} {v : Value} {w : World} {e : Ending} {w' : World} (h : PostN b s a k v w e w') (hk : k ≠ 0) : e = .returned (.tuple #[v, .bool true]) ∧ Rd b s (a + k) w' ∧ Below b w w' := by
  obtain ⟨h1, ⟨_, h2, h3⟩ | ⟨h2, _⟩⟩ := h
  · exact ⟨h2, h3, h1⟩
  · exact absurd h2 hk
theorem PostN.no {b : Nat} {s : ByteArray} {a k : Nat} {v : Value} {w : World} {e : Ending} {w' : World} (h : PostN b s a k v w e w') (hk : k = 0) : e = .returned (.tuple #[.string ⟨#[]⟩, .bool false]) ∧ (∃ a1, Rd b s a1 w') ∧ Below b w w' := by
  obtain ⟨h1, ⟨h2, _⟩ | ⟨_, h2, h3⟩⟩ := h
  · exact absurd hk h2
  · exact ⟨h2, h3, h1⟩

set_option maxHeartbeats 400000 in
theorem readNew_any (b : Nat) (s : ByteArray) (a : Nat) (w : World) (hs : s.size ≤ 300) (h : Rd b s a w) (ha : a ≤ s.size) :
    Calls Try.prog 89 #[.pointer (some ⟨b, 0, none⟩)] w (Post b s a (Kw.fresh s a) (.iface 97 (.agg #[.int .i64 ((Kw.g s a : Int) - 65), .int .i64 (Kw.nv s a : Int)])) w) := by
  have hr := hide h
  clear h
  by_cases hf : Kw.fresh s a = 0
  · by_cases hl : Kw.g s a < 65 ∨ 72 < Kw.g s a
    · have hf' := hide hf
      clear hf
      go_enter Try.func89, Try.ntmps89
      go_wp2_with fail
      refine (readLetter_no b s a _ hs (unhide hr) hl).mono ?_
      rintro e w1 ⟨v1, rfl, r1, hb1⟩
      go_wp2_with fail
      go_ret2
      exact ⟨hb1, .inr ⟨hf'.out, ⟨_, rfl⟩, r1⟩⟩
    · have hn := Kw.fresh_no hf (by omega) (by omega)
      have ha2 : a < s.size := Kw.g_lt.1 (by omega)
      have hf' := hide hf
      clear hf
      rcases hn with hn | ⟨n, a1, hn, h59, ha1⟩
      · have hN := hide hn
        clear hn
        go_enter Try.func89, Try.ntmps89
        go_wp2_with fail
        refine (readLetter_yes b s a _ hs (unhide hr) (by omega) (by omega)).mono ?_
        rintro e w1 ⟨rfl, r1, hb1⟩
        go_wp2_with fail
        refine (readNumber_no b s (a + 1) _ 99 rfl _ hs r1 (by omega) (by omega) hN).mono ?_
        rintro e w2 ⟨rfl, r2, hb2⟩
        go_wp2_with fail
        go_ret2
        exact ⟨hb1.trans hb2, .inr ⟨hf'.out, ⟨_, rfl⟩, r2⟩⟩
      · have hN := hide hn
        clear hn
        by_cases ha3 : a1 < s.size
        · have hne : ((Kw.g s a1 : Int) == 59) = false := by simp; omega
          have hg := Kw.g_lt.2 ha3
          clear h59
          go_enter Try.func89, Try.ntmps89
          go_wp2_with fail
          refine (readLetter_yes b s a _ hs (unhide hr) (by omega) (by omega)).mono ?_
          rintro e w1 ⟨rfl, r1, hb1⟩
          go_wp2_with fail
          refine (readNumber_yes b s (a + 1) _ 99 rfl _ hs r1 (by omega) (by omega) hN).mono ?_
          rintro e w2 ⟨rfl, r2, hb2⟩
          go_wp2_with fail
          refine (readSign_in b s a1 _ hs r2 ha3).mono ?_
          rintro e w3 ⟨rfl, r3, hb3⟩
          go_wp2_with fail
          go_ret2
          exact ⟨(hb1.trans hb2).trans hb3, .inr ⟨hf'.out, ⟨_, rfl⟩, ⟨_, r3⟩⟩⟩
        · clear h59
          go_enter Try.func89, Try.ntmps89
          go_wp2_with fail
          refine (readLetter_yes b s a _ hs (unhide hr) (by omega) (by omega)).mono ?_
          rintro e w1 ⟨rfl, r1, hb1⟩
          go_wp2_with fail
          refine (readNumber_yes b s (a + 1) _ 99 rfl _ hs r1 (by omega) (by omega) hN).mono ?_
          rintro e w2 ⟨rfl, r2, hb2⟩
          go_wp2_with fail
          refine (readSign_out b s a1 _ r2 (by omega)).mono ?_
          rintro e w3 ⟨rfl, r3, hb3⟩
          go_wp2_with fail
          go_ret2
          exact ⟨(hb1.trans hb2).trans hb3, .inr ⟨hf'.out, ⟨_, rfl⟩, ⟨_, r3⟩⟩⟩
  · obtain ⟨p1, p2, p3, p4, p5⟩ := Kw.fresh_yes hf
    have ple := Kw.fresh_le hf
    have hN := hide p3
    have hf' := hide hf
    have ha3 : a + Kw.fresh s a - 1 < s.size := by omega
    have heq : Kw.g s (a + Kw.fresh s a - 1) = 59 := p4
    have hpos : a + Kw.fresh s a - 1 + 1 = a + Kw.fresh s a := by omega
    have hpos' := hide hpos
    generalize hq : a + Kw.fresh s a - 1 = q at *
    clear p3 hf p4 hpos
    have hq' := hide hq
    clear hq
    go_enter Try.func89, Try.ntmps89
    go_wp2_with fail
    refine (readLetter_yes b s a _ hs (unhide hr) p1 p2).mono ?_
    rintro e w1 ⟨rfl, r1, hb1⟩
    go_wp2_with fail
    refine (readNumber_yes b s (a + 1) _ 99 rfl _ hs r1 (by omega) (by omega) hN).mono ?_
    rintro e w2 ⟨rfl, r2, hb2⟩
    go_wp2_with fail
    refine (readSign_in b s q _ hs r2 ha3).mono ?_
    rintro e w3 ⟨rfl, r3, hb3⟩
    go_wp2_with fail
    go_ret2
    exact ⟨(hb1.trans hb2).trans hb3, .inl ⟨hf'.out, rfl, by rw [hpos'.out] at r3; exact r3⟩⟩

/-- Reading how the secret at place a was made is done as it must be. -/
def HowAt (b : Nat) (s : ByteArray) (a : Nat) : Prop := ∀ w, Rd b s a w → Calls Try.prog 73 #[.pointer (some ⟨b, 0, none⟩)] w (Post b s a (Kw.len s a) (secV s a) w)
/-- Reading the name at place a is done as it must be. -/
def NameAt (b : Nat) (s : ByteArray) (a : Nat) : Prop := ∀ w, Rd b s a w → Calls Try.prog 85 #[.pointer (some ⟨b, 0, none⟩)] w (PostN b s a (Kw.len s a) (.string (s.extract a (a + Kw.len s a))) w)

set_option maxHeartbeats 400000 in
theorem readName_of (b : Nat) (s : ByteArray) (a : Nat) (H : HowAt b s a) : NameAt b s a := by
  intro w h
  have hr := hide h
  have hh := hide h
  obtain ⟨t, p, f, lt⟩ := h
  by_cases hl : Kw.len s a = 0
  · have hl' := hide hl
    clear hl
    go_enter Try.func85, Try.ntmps85
    go_wp2_with fail
    refine (H _ (unhide hr)).mono ?_
    rintro e w1 h1
    obtain ⟨u, rfl, r1, hb1⟩ := h1.no hl'.out
    clear h1
    go_wp2_with fail
    go_ret2
    exact ⟨hb1, .inr ⟨hl'.out, rfl, r1⟩⟩
  · have hle := Kw.len_le hl
    have hl' := hide hl
    clear hl
    go_enter Try.func85, Try.ntmps85
    go_wp2_with fail
    refine (H _ (unhide hr)).mono ?_
    rintro e w1 h1
    obtain ⟨rfl, r1, hb1⟩ := h1.yes hl'.out
    clear h1
    have hr1 := hide r1
    clear t p f lt
    obtain ⟨t, p, f, lt⟩ := r1
    generalize Kw.len s a = k at *
    have i0 : a ≤ a + k := by omega
    generalize hk : a + k = m at *
    have hk' := hide hk
    clear hk
    have i1 : (a : Int) ≤ (m : Int) := by omega
    have i2 : (m : Int) ≤ (s.size : Int) := by omega
    go_wp2_with fail
    go_quiet (fail)
    go_wp2_with fail
    go_ret2
    obtain ⟨r2, hb2⟩ := (unhide hr1).drewN nq
    exact ⟨hb1.trans hb2, .inl ⟨hl'.out, rfl, by rw [hk'.out]; exact r2⟩⟩

set_option maxHeartbeats 400000 in
theorem readEpoch_of (b : Nat) (s : ByteArray) (a : Nat) (H : NameAt b s a) (H2 : Kw.len s a ≠ 0 → NameAt b s (a + Kw.len s a)) (w : World) (h : Rd b s a w) :
    Calls Try.prog 86 #[.pointer (some ⟨b, 0, none⟩)] w (Post b s a (Kw.epLen s a)
      (.iface 102 (.agg #[.string (s.extract a (a + Kw.len s a)), .string (s.extract (a + Kw.len s a) (a + Kw.len s a + Kw.len s (a + Kw.len s a)))])) w) := by
  have hr := hide h
  clear h
  by_cases hl : Kw.len s a = 0
  · have hl' := hide hl
    clear hl
    go_enter Try.func86, Try.ntmps86
    go_wp2_with fail
    refine (H _ (unhide hr)).mono ?_
    rintro e w1 h1
    obtain ⟨rfl, r1, hb1⟩ := h1.no hl'.out
    clear h1
    go_wp2_with fail
    go_ret2
    exact ⟨hb1, .inr ⟨by unfold Kw.epLen; rw [if_pos hl'.out], ⟨_, rfl⟩, r1⟩⟩
  · have H3 := H2 hl
    clear H2
    have hl' := hide hl
    clear hl
    generalize hm : a + Kw.len s a = m at *
    have hm' := hide hm
    clear hm
    by_cases hk : Kw.len s m = 0
    · have hk' := hide hk
      clear hk
      go_enter Try.func86, Try.ntmps86
      go_wp2_with fail
      refine (H _ (unhide hr)).mono ?_
      rintro e w1 h1
      obtain ⟨rfl, r1, hb1⟩ := h1.yes hl'.out
      rw [hm'.out] at r1
      clear h1
      go_wp2_with fail
      refine (H3 _ r1).mono ?_
      rintro e w2 h2
      obtain ⟨rfl, r2, hb2⟩ := h2.no hk'.out
      clear h2
      go_wp2_with fail
      go_ret2
      exact ⟨hb1.trans hb2, .inr ⟨by unfold Kw.epLen; rw [if_neg hl'.out, hm'.out, Kw.more_zero hk'.out], ⟨_, rfl⟩, r2⟩⟩
    · have hk' := hide hk
      clear hk
      go_enter Try.func86, Try.ntmps86
      go_wp2_with fail
      refine (H _ (unhide hr)).mono ?_
      rintro e w1 h1
      obtain ⟨rfl, r1, hb1⟩ := h1.yes hl'.out
      rw [hm'.out] at r1 ⊢
      clear h1
      go_wp2_with fail
      refine (H3 _ r1).mono ?_
      rintro e w2 h2
      obtain ⟨rfl, r2, hb2⟩ := h2.yes hk'.out
      clear h2
      go_wp2_with fail
      go_ret2
      have e2 : Kw.epLen s a = Kw.len s a + Kw.len s m := by unfold Kw.epLen; rw [if_neg hl'.out, hm'.out, Kw.more_pos hk'.out]
      refine ⟨hb1.trans hb2, .inl ⟨by rw [e2]; have := hk'.out; omega, rfl, ?_⟩⟩
      rw [e2, ← Nat.add_assoc, hm'.out]
      exact r2

set_option maxHeartbeats 400000 in
theorem readSay_of (b : Nat) (s : ByteArray) (a : Nat) (hs : s.size ≤ 300) (H : a < s.size → NameAt b s (a + 1)) (w : World) (h : Rd b s a w) :
    Calls Try.prog 87 #[.pointer (some ⟨b, 0, none⟩)] w (Post b s a (Kw.sayLen s a)
      (.iface 83 (.agg #[.string (s.extract (a + 1) (a + 1 + Kw.len s (a + 1))), .int .i64 ((Kw.g s a : Int) - 65)])) w) := by
  have hr := hide h
  clear h
  by_cases hl : Kw.g s a < 65 ∨ 72 < Kw.g s a
  · clear H
    go_enter Try.func87, Try.ntmps87
    go_wp2_with fail
    refine (readLetter_no b s a _ hs (unhide hr) hl).mono ?_
    rintro e w1 ⟨v1, rfl, r1, hb1⟩
    go_wp2_with fail
    go_ret2
    exact ⟨hb1, .inr ⟨by unfold Kw.sayLen; rw [if_neg (by omega)], ⟨_, rfl⟩, r1⟩⟩
  · have h1 : 65 ≤ Kw.g s a := by omega
    have h2 : Kw.g s a ≤ 72 := by omega
    have H1 := H (Kw.g_lt.1 (by omega))
    clear H hl
    by_cases hk : Kw.len s (a + 1) = 0
    · have hk' := hide hk
      clear hk
      go_enter Try.func87, Try.ntmps87
      go_wp2_with fail
      refine (readLetter_yes b s a _ hs (unhide hr) h1 h2).mono ?_
      rintro e w1 ⟨rfl, r1, hb1⟩
      go_wp2_with fail
      refine (H1 _ r1).mono ?_
      rintro e w2 h3
      obtain ⟨rfl, r2, hb2⟩ := h3.no hk'.out
      clear h3
      go_wp2_with fail
      go_ret2
      exact ⟨hb1.trans hb2, .inr ⟨by unfold Kw.sayLen; rw [if_pos ⟨h1, h2⟩, Kw.more_zero hk'.out], ⟨_, rfl⟩, r2⟩⟩
    · have hk' := hide hk
      clear hk
      go_enter Try.func87, Try.ntmps87
      go_wp2_with fail
      refine (readLetter_yes b s a _ hs (unhide hr) h1 h2).mono ?_
      rintro e w1 ⟨rfl, r1, hb1⟩
      go_wp2_with fail
      refine (H1 _ r1).mono ?_
      rintro e w2 h3
      obtain ⟨rfl, r2, hb2⟩ := h3.yes hk'.out
      clear h3
      go_wp2_with fail
      go_ret2
      have e2 : Kw.sayLen s a = 1 + Kw.len s (a + 1) := by unfold Kw.sayLen; rw [if_pos ⟨h1, h2⟩, Kw.more_pos hk'.out]
      refine ⟨hb1.trans hb2, .inl ⟨by rw [e2]; omega, rfl, ?_⟩⟩
      rw [e2, ← Nat.add_assoc]
      exact r2

set_option maxHeartbeats 400000 in
theorem readRoom_of (b : Nat) (s : ByteArray) (a : Nat) (hs : s.size ≤ 300) (ha : a ≤ s.size) (H : a < s.size → NameAt b s (a + 1)) (w : World) (h : Rd b s a w) :
    Calls Try.prog 88 #[.pointer (some ⟨b, 0, none⟩)] w (Post b s a (Kw.roomLen s a)
      (.iface 104 (.agg #[.string (s.extract (a + 1) (a + 1 + Kw.len s (a + 1))), .int .i64 ((Kw.g s a - 48 : Nat) : Int)])) w) := by
  have hr := hide h
  clear h
  have key : (Kw.num s 9 a = none ∧ Kw.roomLen s a = 0) ∨ (Kw.num s 9 a = some (Kw.g s a - 48, a + 1) ∧ 49 ≤ Kw.g s a ∧ Kw.g s a ≤ 57) := by
    by_cases hg : 49 ≤ Kw.g s a ∧ Kw.g s a ≤ 57
    · by_cases hk : Kw.len s (a + 1) = 0
      · rcases Kw.room_no hg with h | h
        · exact .inl ⟨h, by unfold Kw.roomLen; rw [if_pos hg, Kw.more_zero hk]⟩
        · exact .inr ⟨h, hg⟩
      · exact .inr ⟨Kw.room_yes hg hk, hg⟩
    · exact .inl ⟨Kw.num_zero (by omega), by unfold Kw.roomLen; rw [if_neg hg]⟩
  rcases key with ⟨hn, he⟩ | ⟨hn, h1, h2⟩
  · have hN := hide hn
    have hE := hide he
    clear hn he H
    go_enter Try.func88, Try.ntmps88
    go_wp2_with fail
    refine (readNumber_no b s a _ 9 rfl _ hs (unhide hr) ha (by omega) hN).mono ?_
    rintro e w1 ⟨rfl, r1, hb1⟩
    go_wp2_with fail
    go_ret2
    exact ⟨hb1, .inr ⟨hE.out, ⟨_, rfl⟩, r1⟩⟩
  · have hN := hide hn
    clear hn
    have H1 := H (Kw.g_lt.1 (by omega))
    clear H
    by_cases hk : Kw.len s (a + 1) = 0
    · have hk' := hide hk
      clear hk
      go_enter Try.func88, Try.ntmps88
      go_wp2_with fail
      refine (readNumber_yes b s a _ 9 rfl _ hs (unhide hr) ha (by omega) hN).mono ?_
      rintro e w1 ⟨rfl, r1, hb1⟩
      go_wp2_with fail
      refine (H1 _ r1).mono ?_
      rintro e w2 h3
      obtain ⟨rfl, r2, hb2⟩ := h3.no hk'.out
      clear h3
      go_wp2_with fail
      go_ret2
      exact ⟨hb1.trans hb2, .inr ⟨by unfold Kw.roomLen; rw [if_pos ⟨h1, h2⟩, Kw.more_zero hk'.out], ⟨_, rfl⟩, r2⟩⟩
    · have hk' := hide hk
      clear hk
      go_enter Try.func88, Try.ntmps88
      go_wp2_with fail
      refine (readNumber_yes b s a _ 9 rfl _ hs (unhide hr) ha (by omega) hN).mono ?_
      rintro e w1 ⟨rfl, r1, hb1⟩
      go_wp2_with fail
      refine (H1 _ r1).mono ?_
      rintro e w2 h3
      obtain ⟨rfl, r2, hb2⟩ := h3.yes hk'.out
      clear h3
      go_wp2_with fail
      go_ret2
      have e2 : Kw.roomLen s a = 1 + Kw.len s (a + 1) := by unfold Kw.roomLen; rw [if_pos ⟨h1, h2⟩, Kw.more_pos hk'.out]
      refine ⟨hb1.trans hb2, .inl ⟨by rw [e2]; omega, rfl, ?_⟩⟩
      rw [e2, ← Nat.add_assoc]
      exact r2
end Go.Proofs.Ytgdhlnfigcaepaa
/-
  The program's SecOk and readSecret: at every text they answer as the plain function on names does.
-/
namespace Go.Proofs.Ytgdhlnfigcaepaa
open Go.RowKit

theorem Rd.back {b : Nat} {s : ByteArray} {a : Nat} {w : World} (h : Rd b s (a + 1) w) (v : Value) (hv : v = .int .i64 (a : Int)) :
    Rd b s a (w.setCell ⟨b, 1, none⟩ v) ∧ Below b w (w.setCell ⟨b, 1, none⟩ v) := by
  obtain ⟨t, p, f, lt⟩ := h
  subst hv
  refine ⟨⟨by simp [go_sem, t], by simp [go_sem, p], by simp [go_sem, f], by simpa [World.setCell] using lt⟩, ?_⟩
  exact (Below.refl b w).setCell (p := ⟨b, 1, none⟩) (Nat.le_refl _) _

theorem Post.form {b : Nat} {s : ByteArray} {a k : Nat} {v : Value} {w : World} {e : Ending} {w' : World} (h : Post b s a k v w e w') :
    ∃ u c, e = .returned (.tuple #[u, .bool c]) ∧ Post b s a k v w (.returned (.tuple #[u, .bool c])) w' := by
  have h0 := h
  obtain ⟨h1, ⟨h2, h3, h4⟩ | ⟨h2, ⟨u, h3⟩, h4⟩⟩ := h
  · exact ⟨_, _, h3, by rw [← h3]; exact h0⟩
  · exact ⟨_, _, h3, by rw [← h3]; exact h0⟩

theorem PostN.form {b : Nat} {s : ByteArray} {a k : Nat} {x : ByteArray} {w : World} {e : Ending} {w' : World} (h : PostN b s a k (.string x) w e w') :
    ∃ u c, e = .returned (.tuple #[.string u, .bool c]) ∧ PostN b s a k (.string x) w (.returned (.tuple #[.string u, .bool c])) w' := by
  have h0 := h
  obtain ⟨h1, ⟨h2, h3, h4⟩ | ⟨h2, h3, h4⟩⟩ := h
  · exact ⟨_, _, h3, by rw [← h3]; exact h0⟩
  · exact ⟨_, _, h3, by rw [← h3]; exact h0⟩

theorem Post.lift {b : Nat} {s : ByteArray} {a k : Nat} {v : Value} {w w1 : World} {e : Ending} {w' : World} (h : Post b s (a + 1) k v w1 e w') (hb : Below b w w1) (hl : Kw.len s a = Kw.more 1 k) (hv : secV s a = v) :
    Post b s a (Kw.len s a) (secV s a) w e w' := by
  rw [hv]
  obtain ⟨h1, ⟨h2, h3, h4⟩ | ⟨h2, h3, h4⟩⟩ := h
  · rw [hl, Kw.more_pos h2]
    exact ⟨hb.trans h1, .inl ⟨by omega, h3, by rw [← Nat.add_assoc]; exact h4⟩⟩
  · rw [hl, Kw.more_zero h2]
    exact ⟨hb.trans h1, .inr ⟨rfl, h3, h4⟩⟩

theorem PostN.lift {b : Nat} {s : ByteArray} {a k t : Nat} {x u : ByteArray} {c : Bool} {w w1 : World} {w' : World} (h : PostN b s (a + 1) k (.string x) w1 (.returned (.tuple #[.string u, .bool c])) w') (hb : Below b w w1) (hl : Kw.len s a = Kw.more 1 k)
    (hv : secV s a = .iface t (.agg #[.string x])) : Post b s a (Kw.len s a) (secV s a) w (.returned (.tuple #[.iface t (.agg #[.string u]), .bool c])) w' := by
  rw [hv]
  obtain ⟨h1, ⟨h2, h3, h4⟩ | ⟨h2, h3, h4⟩⟩ := h
  · simp at h3
    obtain ⟨rfl, rfl⟩ := h3
    rw [hl, Kw.more_pos h2]
    exact ⟨hb.trans h1, .inl ⟨by omega, rfl, by rw [← Nat.add_assoc]; exact h4⟩⟩
  · simp at h3
    obtain ⟨rfl, rfl⟩ := h3
    rw [hl, Kw.more_zero h2]
    exact ⟨hb.trans h1, .inr ⟨rfl, ⟨_, rfl⟩, h4⟩⟩

theorem Post.lift0 {b : Nat} {s : ByteArray} {a : Nat} {v : Value} {w w1 : World} {e : Ending} {w' : World} (h : Post b s a (Kw.fresh s a) v w1 e w') (hb : Below b w w1) (hl : Kw.len s a = Kw.fresh s a) (hv : secV s a = v) :
    Post b s a (Kw.len s a) (secV s a) w e w' := by
  rw [hv, hl]
  exact ⟨hb.trans h.1, h.2⟩

set_option maxHeartbeats 1000000 in
theorem readHow_step (b : Nat) (s : ByteArray) (hs : s.size ≤ 300) (a : Nat) (ha : a < s.size) (ih : ∀ m, a < m → m ≤ s.size → HowAt b s m) : HowAt b s a := by
  intro w h
  have hr := hide h
  clear h
  have hN1 : NameAt b s (a + 1) := readName_of b s (a + 1) (ih _ (by omega) (by omega))
  have hg := Kw.g_lt.2 ha
  by_cases c1 : Kw.g s a = 110
  · have e1 : ((Kw.g s a : Int) == 110) = true := by simp; omega
    have C1 := hide c1
    clear c1
    go_enter Try.func73, Try.ntmps73
    go_wp2_with fail
    refine (readSign_in b s a _ hs (unhide hr) ha).mono ?_
    rintro e w1 ⟨rfl, r1, hb1⟩
    go_wp2_with fail
    refine (hN1 _ r1).mono ?_
    rintro e w2 h2
    obtain ⟨u, c, rfl, hp⟩ := h2.form
    clear h2
    go_wp2_with fail
    go_ret2
    exact hp.lift hb1 (Kw.len_nk (.inl C1.out)) (by unfold secV; rw [if_pos C1.out])
  have e1 : ((Kw.g s a : Int) == 110) = false := by simp; omega
  by_cases c2 : Kw.g s a = 107
  · have e2 : ((Kw.g s a : Int) == 107) = true := by simp; omega
    have C2 := hide c2
    have C1 := hide c1
    clear c2 c1
    go_enter Try.func73, Try.ntmps73
    go_wp2_with fail
    refine (readSign_in b s a _ hs (unhide hr) ha).mono ?_
    rintro e w1 ⟨rfl, r1, hb1⟩
    go_wp2_with fail
    refine (hN1 _ r1).mono ?_
    rintro e w2 h2
    obtain ⟨u, c, rfl, hp⟩ := h2.form
    clear h2
    go_wp2_with fail
    go_ret2
    exact hp.lift hb1 (Kw.len_nk (.inr C2.out)) (by unfold secV; rw [if_neg C1.out, if_pos C2.out])
  have e2 : ((Kw.g s a : Int) == 107) = false := by simp; omega
  by_cases c3 : Kw.g s a = 101
  · have e3 : ((Kw.g s a : Int) == 101) = true := by simp; omega
    have C3 := hide c3
    have C2 := hide c2
    have C1 := hide c1
    have hN2 : Kw.len s (a + 1) ≠ 0 → NameAt b s (a + 1 + Kw.len s (a + 1)) := fun hl => readName_of b s _ (ih _ (by omega) (Kw.len_le hl))
    have HN2 := hide hN2
    clear c3 c2 c1 hN2
    go_enter Try.func73, Try.ntmps73
    go_wp2_with fail
    refine (readSign_in b s a _ hs (unhide hr) ha).mono ?_
    rintro e w1 ⟨rfl, r1, hb1⟩
    go_wp2_with fail
    refine (readEpoch_of b s (a + 1) hN1 (unhide HN2) _ r1).mono ?_
    rintro e w2 h2
    obtain ⟨u, c, rfl, hp⟩ := h2.form
    clear h2
    go_wp2_with fail
    go_ret2
    exact hp.lift hb1 (Kw.len_e C3.out) (by unfold secV; rw [if_neg C1.out, if_neg C2.out, if_pos C3.out])
  have e3 : ((Kw.g s a : Int) == 101) = false := by simp; omega
  have hN2 : a + 1 < s.size → NameAt b s (a + 1 + 1) := fun hl => readName_of b s _ (ih _ (by omega) (by omega))
  have HN2 := hide hN2
  clear hN2
  by_cases c4 : Kw.g s a = 109
  · have e4 : ((Kw.g s a : Int) == 109) = true := by simp; omega
    have C4 := hide c4
    have C3 := hide c3
    have C2 := hide c2
    have C1 := hide c1
    clear c4 c3 c2 c1
    go_enter Try.func73, Try.ntmps73
    go_wp2_with fail
    refine (readSign_in b s a _ hs (unhide hr) ha).mono ?_
    rintro e w1 ⟨rfl, r1, hb1⟩
    go_wp2_with fail
    refine (readSay_of b s (a + 1) hs (unhide HN2) _ r1).mono ?_
    rintro e w2 h2
    obtain ⟨u, c, rfl, hp⟩ := h2.form
    clear h2
    go_wp2_with fail
    go_ret2
    exact hp.lift hb1 (Kw.len_m C4.out) (by unfold secV; rw [if_neg C1.out, if_neg C2.out, if_neg C3.out, if_pos C4.out])
  have e4 : ((Kw.g s a : Int) == 109) = false := by simp; omega
  by_cases c5 : Kw.g s a = 114
  · have e5 : ((Kw.g s a : Int) == 114) = true := by simp; omega
    have C5 := hide c5
    have C4 := hide c4
    have C3 := hide c3
    have C2 := hide c2
    have C1 := hide c1
    clear c5 c4 c3 c2 c1
    go_enter Try.func73, Try.ntmps73
    go_wp2_with fail
    refine (readSign_in b s a _ hs (unhide hr) ha).mono ?_
    rintro e w1 ⟨rfl, r1, hb1⟩
    go_wp2_with fail
    refine (readRoom_of b s (a + 1) hs (by omega) (unhide HN2) _ r1).mono ?_
    rintro e w2 h2
    obtain ⟨u, c, rfl, hp⟩ := h2.form
    clear h2
    go_wp2_with fail
    go_ret2
    exact hp.lift hb1 (Kw.len_r C5.out) (by unfold secV; rw [if_neg C1.out, if_neg C2.out, if_neg C3.out, if_neg C4.out, if_pos C5.out])
  have e5 : ((Kw.g s a : Int) == 114) = false := by simp; omega
  have C5 := hide c5
  have C4 := hide c4
  have C3 := hide c3
  have C2 := hide c2
  have C1 := hide c1
  clear c5 c4 c3 c2 c1 HN2 hN1
  go_enter Try.func73, Try.ntmps73
  go_wp2_with fail
  refine (readSign_in b s a _ hs (unhide hr) ha).mono ?_
  rintro e w1 ⟨rfl, r1, hb1⟩
  have R1 := hide r1
  obtain ⟨t, p, f, lt⟩ := r1
  go_wp2_with fail
  obtain ⟨r2, hb2⟩ := (unhide R1).back (.int .i64 (a : Int)) rfl
  refine (readNew_any b s a _ hs r2 (by omega)).mono ?_
  rintro e w2 h2
  obtain ⟨u, c, rfl, hp⟩ := h2.form
  clear h2
  go_wp2_with fail
  go_ret2
  exact hp.lift0 (hb1.trans hb2) (Kw.len_else C1.out C2.out C4.out C5.out C3.out) (by unfold secV; rw [if_neg C1.out, if_neg C2.out, if_neg C3.out, if_neg C4.out, if_neg C5.out])

set_option maxHeartbeats 400000 in
theorem readHow_out (b : Nat) (s : ByteArray) (a : Nat) (ha : s.size ≤ a) : HowAt b s a := by
  intro w h
  have hr := hide h
  clear h
  go_enter Try.func73, Try.ntmps73
  go_wp2_with fail
  refine (readSign_out b s a _ (unhide hr) ha).mono ?_
  rintro e w1 ⟨rfl, r1, hb1⟩
  go_wp2_with fail
  go_ret2
  exact ⟨hb1, .inr ⟨Kw.len_out ha, ⟨_, rfl⟩, ⟨_, r1⟩⟩⟩

theorem readHow_all (b : Nat) (s : ByteArray) (hs : s.size ≤ 300) : ∀ f a, s.size - a ≤ f → HowAt b s a := by
  intro f
  induction f with
  | zero => intro a h; exact readHow_out b s a (by omega)
  | succ f ih =>
    intro a h
    by_cases ha : a < s.size
    · exact readHow_step b s hs a ha (fun m h1 h2 => ih m (by omega))
    · exact readHow_out b s a (by omega)

/-- What reading a whole text comes to. -/
def ReadPost (s : ByteArray) (w : World) (e : Ending) (w' : World) : Prop :=
  Below w.heap.size w w' ∧ ((Kw.ok s = true ∧ e = .returned (.tuple #[secV s 0, .bool true])) ∨ (Kw.ok s = false ∧ e = .returned (.tuple #[.nilIface, .bool false])))

theorem Rd.start (s : ByteArray) (w : World) : Rd w.heap.size s 0 (w.alloc (.cells #[.string s, .int .i64 0] 94)) :=
  ⟨by simp [go_sem], by simp [go_sem], by simp [go_sem], by simp⟩

set_option maxHeartbeats 400000 in
theorem readSecret_any (s : ByteArray) (w : World) (hm : s.size ≤ maxLen) :
    Calls Try.prog 56 #[.string s] w (ReadPost s w) := by
  unfold maxLen at hm
  by_cases hs : s.size ≤ 300
  · have H := readHow_all w.heap.size s hs s.size 0 (by omega)
    have hb0 : Below w.heap.size w (w.alloc (.cells #[.string s, .int .i64 0] 94)) := (Below.refl _ _).alloc (Nat.le_refl _) _
    by_cases hl : Kw.len s 0 = 0
    · have L := hide hl
      clear hl
      go_enter Try.func56, Try.ntmps56
      go_wp2_with fail
      refine (H _ (Rd.start s w)).mono ?_
      rintro e w1 h1
      obtain ⟨u, rfl, r1, hb1⟩ := h1.no L.out
      clear h1
      go_wp2_with fail
      go_ret2
      exact ⟨hb0.trans hb1, .inr ⟨ok_none L.out, rfl⟩⟩
    · have hle := Kw.len_le hl
      have L := hide hl
      clear hl
      by_cases hq : Kw.len s 0 = s.size
      · have Q := hide hq
        clear hq
        go_enter Try.func56, Try.ntmps56
        go_wp2_with fail
        refine (H _ (Rd.start s w)).mono ?_
        rintro e w1 h1
        obtain ⟨rfl, r1, hb1⟩ := h1.yes L.out
        clear h1
        rw [Nat.zero_add, Q.out] at r1
        obtain ⟨t, p, f, lt⟩ := r1
        go_wp2_with fail
        go_ret2
        exact ⟨hb0.trans hb1, .inl ⟨ok_yes hs L.out Q.out, rfl⟩⟩
      · have Q := hide hq
        have hne : ((Kw.len s 0 : Int) != (s.size : Int)) = true := by simp; omega
        clear hq
        go_enter Try.func56, Try.ntmps56
        go_wp2_with fail
        refine (H _ (Rd.start s w)).mono ?_
        rintro e w1 h1
        obtain ⟨rfl, r1, hb1⟩ := h1.yes L.out
        clear h1
        rw [Nat.zero_add] at r1
        obtain ⟨t, p, f, lt⟩ := r1
        go_wp2_with fail
        go_ret2
        exact ⟨hb0.trans hb1, .inr ⟨ok_part Q.out, rfl⟩⟩
  · have hs2 : 300 < s.size := by omega
    go_enter Try.func56, Try.ntmps56
    go_wp2_with fail
    go_ret2
    exact ⟨Below.refl _ _, .inr ⟨ok_long hs2, rfl⟩⟩

theorem ReadPost.form {s : ByteArray} {w : World} {e : Ending} {w' : World} (h : ReadPost s w e w') : ∃ u, e = .returned (.tuple #[u, .bool (Kw.ok s)]) ∧ Below w.heap.size w w' := by
  obtain ⟨h1, ⟨h2, h3⟩ | ⟨h2, h3⟩⟩ := h
  · exact ⟨_, by rw [h2]; exact h3, h1⟩
  · exact ⟨_, by rw [h2]; exact h3, h1⟩

set_option maxHeartbeats 400000 in
theorem iSecOk_any (s : ByteArray) (w : World) (hm : s.size ≤ maxLen) :
    Calls Try.prog 54 #[.string s] w fun e w' => e = .returned (.bool (Kw.ok s)) ∧ Below w.heap.size w w' := by
  have M := hide hm
  clear hm
  go_enter Try.func54, Try.ntmps54
  go_wp2_with fail
  refine (readSecret_any s _ M.out).mono ?_
  rintro e w1 h1
  obtain ⟨u, rfl, hb1⟩ := h1.form
  clear h1
  go_wp2_with fail
  go_ret
  exact ⟨rfl, hb1⟩
#print axioms iSecOk_any
end Go.Proofs.Ytgdhlnfigcaepaa
/-
  The library's Clone of a text hands back the same bytes: the library's own contract, laid at this program.
-/
namespace Go.Proofs.Ytgdhlnfigcaepaa
open Go.Shelf Go.RowKit

def clone_ren : Go.Shelf.Ren := ⟨fun | 316 => 68 | n => n, fun | 9 => 9 | 3 => 3 | 4 => 4 | 37 => 43 | 0 => 0 | 127 => 108 | 5 => 5 | n => n, fun | n => n⟩
theorem clone_lays : Go.Proofs.LaysM.n316 Try.prog clone_ren := {
  mixed := by kernel_rfl
  f316 := Try.func68.trans (congrArg some (by kernel_rfl))
  t0 := Try.underlying0
  a0 := Try.isAgg0
  z0 := Try.sizeOf0
  v0 := Try.zeroValue0
  t3 := Try.underlying3
  a3 := Try.isAgg3
  z3 := Try.sizeOf3
  v3 := Try.zeroValue3
  t4 := Try.underlying4
  a4 := Try.isAgg4
  z4 := Try.sizeOf4
  v4 := Try.zeroValue4
  t9 := Try.underlying9
  a9 := Try.isAgg9
  z9 := Try.sizeOf9
  v9 := Try.zeroValue9
  t37 := Try.underlying43
  a37 := Try.isAgg43
  z37 := Try.sizeOf43
  v37 := Try.zeroValue43
  t127 := Try.underlying108
  a127 := Try.isAgg108
  z127 := Try.sizeOf108
  v127 := Try.zeroValue108
  t5 := Try.underlying5
  a5 := Try.isAgg5
  z5 := Try.sizeOf5
  v5 := Try.zeroValue5
  i0 := by kernel_rfl
  i3 := by kernel_rfl
  i4 := by kernel_rfl
  i5 := by kernel_rfl
  i9 := by kernel_rfl
  i37 := by kernel_rfl
  i127 := by kernel_rfl }

theorem slClone_any (s : ByteArray) (w : World) (h : s.size ≤ 1000000) :
    Calls Try.prog 68 #[.string s] w fun e w' => e = .returned (.string s) ∧ Below w.heap.size w w' := Any.stringslite_Clone clone_lays s w (by omega)

set_option maxHeartbeats 400000 in
theorem clone_any (s : ByteArray) (w : World) (h : s.size ≤ 1000000) :
    Calls Try.prog 48 #[.string s] w fun e w' => e = .returned (.string s) ∧ Below w.heap.size w w' := by
  go_enter Try.func48, Try.ntmps48
  go_wp2_with (go_at_call 68; refine (slClone_any _ _ h).mono ?_; rintro e w' ⟨rfl, hb⟩)
  go_ret
  exact ⟨rfl, hb⟩
#print axioms clone_any
end Go.Proofs.Ytgdhlnfigcaepaa
/-
  The program's SecMade: what it answers, as a plain function of the text.
-/
namespace Go.Proofs.Ytgdhlnfigcaepaa
open Go.RowKit

theorem bcell {W w1 : World} (hb : Below W.heap.size W w1) : (∀ b o, b < W.heap.size → w1.cell? ⟨b, o, none⟩ = W.cell? ⟨b, o, none⟩) ∧ (∀ b o, b < W.heap.size → w1.frozen? ⟨b, o, none⟩ = W.frozen? ⟨b, o, none⟩) :=
  ⟨fun b o h => hb.cell (p := ⟨b, o, none⟩) h, fun b o h => hb.frozen (p := ⟨b, o, none⟩) h⟩

/-- A struct that tells how a secret was made. -/
def howV (op who n : Int) (a b : ByteArray) : Value := .agg #[.int .i64 op, .int .i64 who, .int .i64 n, .string a, .string b]

theorem ta_new (x : Value) (w : World) : (Instr.typeAssert (.iface 97 x) 76 97 true).run Try.prog w = .ok (.tuple #[x, .bool true]) w := by kernel_rfl
theorem ta_next (x : Value) (w : World) : (Instr.typeAssert (.iface 99 x) 76 99 true).run Try.prog w = .ok (.tuple #[x, .bool true]) w := by kernel_rfl
theorem ta_key (x : Value) (w : World) : (Instr.typeAssert (.iface 100 x) 76 100 true).run Try.prog w = .ok (.tuple #[x, .bool true]) w := by kernel_rfl
theorem ta_epoch (x : Value) (w : World) : (Instr.typeAssert (.iface 102 x) 76 102 true).run Try.prog w = .ok (.tuple #[x, .bool true]) w := by kernel_rfl
theorem ta_say (x : Value) (w : World) : (Instr.typeAssert (.iface 83 x) 76 83 true).run Try.prog w = .ok (.tuple #[x, .bool true]) w := by kernel_rfl
theorem ta_room (x : Value) (w : World) : (Instr.typeAssert (.iface 104 x) 76 104 true).run Try.prog w = .ok (.tuple #[x, .bool true]) w := by kernel_rfl
theorem ta_next_new (x : Value) (w : World) : (Instr.typeAssert (.iface 99 x) 76 97 true).run Try.prog w = .ok (.tuple #[.agg #[.int .i64 0, .int .i64 0], .bool false]) w := by kernel_rfl
theorem ta_key_new (x : Value) (w : World) : (Instr.typeAssert (.iface 100 x) 76 97 true).run Try.prog w = .ok (.tuple #[.agg #[.int .i64 0, .int .i64 0], .bool false]) w := by kernel_rfl
theorem ta_key_next (x : Value) (w : World) : (Instr.typeAssert (.iface 100 x) 76 99 true).run Try.prog w = .ok (.tuple #[.agg #[.string ⟨#[]⟩], .bool false]) w := by kernel_rfl
theorem ta_epoch_new (x : Value) (w : World) : (Instr.typeAssert (.iface 102 x) 76 97 true).run Try.prog w = .ok (.tuple #[.agg #[.int .i64 0, .int .i64 0], .bool false]) w := by kernel_rfl
theorem ta_epoch_next (x : Value) (w : World) : (Instr.typeAssert (.iface 102 x) 76 99 true).run Try.prog w = .ok (.tuple #[.agg #[.string ⟨#[]⟩], .bool false]) w := by kernel_rfl
theorem ta_epoch_key (x : Value) (w : World) : (Instr.typeAssert (.iface 102 x) 76 100 true).run Try.prog w = .ok (.tuple #[.agg #[.string ⟨#[]⟩], .bool false]) w := by kernel_rfl
theorem ta_say_new (x : Value) (w : World) : (Instr.typeAssert (.iface 83 x) 76 97 true).run Try.prog w = .ok (.tuple #[.agg #[.int .i64 0, .int .i64 0], .bool false]) w := by kernel_rfl
theorem ta_say_next (x : Value) (w : World) : (Instr.typeAssert (.iface 83 x) 76 99 true).run Try.prog w = .ok (.tuple #[.agg #[.string ⟨#[]⟩], .bool false]) w := by kernel_rfl
theorem ta_say_key (x : Value) (w : World) : (Instr.typeAssert (.iface 83 x) 76 100 true).run Try.prog w = .ok (.tuple #[.agg #[.string ⟨#[]⟩], .bool false]) w := by kernel_rfl
theorem ta_say_epoch (x : Value) (w : World) : (Instr.typeAssert (.iface 83 x) 76 102 true).run Try.prog w = .ok (.tuple #[.agg #[.string ⟨#[]⟩, .string ⟨#[]⟩], .bool false]) w := by kernel_rfl
theorem ta_room_new (x : Value) (w : World) : (Instr.typeAssert (.iface 104 x) 76 97 true).run Try.prog w = .ok (.tuple #[.agg #[.int .i64 0, .int .i64 0], .bool false]) w := by kernel_rfl
theorem ta_room_next (x : Value) (w : World) : (Instr.typeAssert (.iface 104 x) 76 99 true).run Try.prog w = .ok (.tuple #[.agg #[.string ⟨#[]⟩], .bool false]) w := by kernel_rfl
theorem ta_room_key (x : Value) (w : World) : (Instr.typeAssert (.iface 104 x) 76 100 true).run Try.prog w = .ok (.tuple #[.agg #[.string ⟨#[]⟩], .bool false]) w := by kernel_rfl
theorem ta_room_epoch (x : Value) (w : World) : (Instr.typeAssert (.iface 104 x) 76 102 true).run Try.prog w = .ok (.tuple #[.agg #[.string ⟨#[]⟩, .string ⟨#[]⟩], .bool false]) w := by kernel_rfl
theorem ta_room_say (x : Value) (w : World) : (Instr.typeAssert (.iface 104 x) 76 83 true).run Try.prog w = .ok (.tuple #[.agg #[.string ⟨#[]⟩, .int .i64 0], .bool false]) w := by kernel_rfl

/-- A block of the call's own that holds a struct as it begins. -/
structure Res5 (b : Nat) (w : World) : Prop where
  c0 : w.cell? ⟨b, 0, none⟩ = some (.int .i64 0)
  c1 : w.cell? ⟨b, 1, none⟩ = some (.int .i64 0)
  c2 : w.cell? ⟨b, 2, none⟩ = some (.int .i64 0)
  c3 : w.cell? ⟨b, 3, none⟩ = some (.string ⟨#[]⟩)
  c4 : w.cell? ⟨b, 4, none⟩ = some (.string ⟨#[]⟩)
  z0 : w.frozen? ⟨b, 0, none⟩ = false
  z1 : w.frozen? ⟨b, 1, none⟩ = false
  z2 : w.frozen? ⟨b, 2, none⟩ = false
  z3 : w.frozen? ⟨b, 3, none⟩ = false
  z4 : w.frozen? ⟨b, 4, none⟩ = false
theorem Res5.keep {b : Nat} {W w1 : World} (h : Res5 b W) (hb : Below W.heap.size W w1) (hlt : b < W.heap.size) : Res5 b w1 :=
  ⟨(hb.cell (p := ⟨b, 0, none⟩) hlt).trans h.c0, (hb.cell (p := ⟨b, 1, none⟩) hlt).trans h.c1, (hb.cell (p := ⟨b, 2, none⟩) hlt).trans h.c2, (hb.cell (p := ⟨b, 3, none⟩) hlt).trans h.c3, (hb.cell (p := ⟨b, 4, none⟩) hlt).trans h.c4,
   (hb.frozen (p := ⟨b, 0, none⟩) hlt).trans h.z0, (hb.frozen (p := ⟨b, 1, none⟩) hlt).trans h.z1, (hb.frozen (p := ⟨b, 2, none⟩) hlt).trans h.z2, (hb.frozen (p := ⟨b, 3, none⟩) hlt).trans h.z3, (hb.frozen (p := ⟨b, 4, none⟩) hlt).trans h.z4⟩
theorem keep1 {W w1 : World} {b o : Nat} {v : Value} (hb : Below W.heap.size W w1) (h : W.cell? ⟨b, o, none⟩ = some v) (hlt : b < W.heap.size) : w1.cell? ⟨b, o, none⟩ = some v := (hb.cell (p := ⟨b, o, none⟩) hlt).trans h

theorem below5 {B : Nat} {w w1 : World} (h : Below B w w1) {b : Nat} (hb : B ≤ b) (v0 v1 v2 v3 v4 : Value) :
    Below B w (((((w1.setCell ⟨b, 0, none⟩ v0).setCell ⟨b, 1, none⟩ v1).setCell ⟨b, 2, none⟩ v2).setCell ⟨b, 3, none⟩ v3).setCell ⟨b, 4, none⟩ v4) :=
  ((((h.setCell (p := ⟨b, 0, none⟩) hb v0).setCell (p := ⟨b, 1, none⟩) hb v1).setCell (p := ⟨b, 2, none⟩) hb v2).setCell (p := ⟨b, 3, none⟩) hb v3).setCell (p := ⟨b, 4, none⟩) hb v4

set_option maxRecDepth 100000 in
set_option maxHeartbeats 400000 in
theorem howOf_new (who n : Int) (w : World) :
    Calls Try.prog 57 #[.iface 97 (.agg #[.int .i64 who, .int .i64 n])] w fun e w' => e = .returned (howV 1 who n ⟨#[]⟩ ⟨#[]⟩) ∧ Below w.heap.size w w' := by
  have fy := ta_new
  go_enter Try.func57, Try.ntmps57
  go_wp2_with fail
  refine bodyPost_ret (v := howV 1 who n ⟨#[]⟩ ⟨#[]⟩) (by simp [results, Try.results57, go_sem, howV]) rfl ⟨rfl, ?_⟩
  exact ((Below.refl _ _).alloc (Nat.le_refl _) _).alloc (by simp) _

set_option maxRecDepth 100000 in
set_option maxHeartbeats 400000 in
theorem howOf_next (x : ByteArray) (hx : x.size ≤ 300) (w : World) :
    Calls Try.prog 57 #[.iface 99 (.agg #[.string x])] w fun e w' => e = .returned (howV 2 0 0 x ⟨#[]⟩) ∧ Below w.heap.size w w' := by
  have f0 := ta_next_new
  have fy := ta_next
  go_enter Try.func57, Try.ntmps57
  go_wp2_with fail
  refine (clone_any x _ (by omega)).mono ?_
  rintro e w1 ⟨rfl, hb1⟩
  obtain ⟨c0, c1, c2, c3, c4, z0, z1, z2, z3, z4⟩ := Res5.keep (b := w.heap.size) (by constructor <;> simp [go_sem]) hb1 (by simp; omega)
  have hbb : Below w.heap.size w w1 := (((Below.refl w.heap.size w).alloc (Nat.le_refl _) _).alloc (by simp) _).trans (hb1.mono (by simp; omega))
  clear hb1
  go_wp2_with fail
  refine bodyPost_ret (v := howV 2 0 0 x ⟨#[]⟩) (by simp [results, Try.results57, go_sem, howV, c0, c1, c2, c3, c4]) rfl ⟨rfl, ?_⟩
  exact below5 hbb (Nat.le_refl _) _ _ _ _ _

set_option maxRecDepth 100000 in
set_option maxHeartbeats 400000 in
theorem howOf_key (x : ByteArray) (hx : x.size ≤ 300) (w : World) :
    Calls Try.prog 57 #[.iface 100 (.agg #[.string x])] w fun e w' => e = .returned (howV 3 0 0 x ⟨#[]⟩) ∧ Below w.heap.size w w' := by
  have f0 := ta_key_new
  have f1 := ta_key_next
  have fy := ta_key
  go_enter Try.func57, Try.ntmps57
  go_wp2_with fail
  refine (clone_any x _ (by omega)).mono ?_
  rintro e w1 ⟨rfl, hb1⟩
  obtain ⟨c0, c1, c2, c3, c4, z0, z1, z2, z3, z4⟩ := Res5.keep (b := w.heap.size) (by constructor <;> simp [go_sem]) hb1 (by simp; omega)
  have hbb : Below w.heap.size w w1 := (((Below.refl w.heap.size w).alloc (Nat.le_refl _) _).alloc (by simp) _).trans (hb1.mono (by simp; omega))
  clear hb1
  go_wp2_with fail
  refine bodyPost_ret (v := howV 3 0 0 x ⟨#[]⟩) (by simp [results, Try.results57, go_sem, howV, c0, c1, c2, c3, c4]) rfl ⟨rfl, ?_⟩
  exact below5 hbb (Nat.le_refl _) _ _ _ _ _

set_option maxRecDepth 100000 in
set_option maxHeartbeats 1000000 in
theorem howOf_say (x : ByteArray) (n : Int) (hx : x.size ≤ 300) (w : World) :
    Calls Try.prog 57 #[.iface 83 (.agg #[.string x, .int .i64 n])] w fun e w' => e = .returned (howV 5 n 0 x ⟨#[]⟩) ∧ Below w.heap.size w w' := by
  have f0 := ta_say_new
  have f1 := ta_say_next
  have f2 := ta_say_key
  have f3 := ta_say_epoch
  have fy := ta_say
  have hx2 : x.size ≤ 1000000 := by omega
  go_enter Try.func57, Try.ntmps57
  go_wp2_with fail
  go_region_with (go_at_call 48; refine (clone_any x _ hx2).mono ?_; rintro e w1 ⟨rfl, hb1⟩; obtain ⟨c0, c1, c2, c3, c4, z0, z1, z2, z3, z4⟩ := Res5.keep (b := w.heap.size) (by constructor <;> simp [go_sem]) hb1 (by simp; omega); have d1 := keep1 (b := w.heap.size + 1) (o := 1) (v := .int .i64 n) hb1 (by simp [go_sem]) (by simp); have hbb : Below w.heap.size w w1 := (((Below.refl w.heap.size w).alloc (Nat.le_refl _) _).alloc (by simp) _).drew.trans (hb1.mono (by simp; omega)); clear hb1)
  all_goals go_wp2_with fail
  all_goals exact bodyPost_ret (v := howV 5 n 0 x ⟨#[]⟩) (by simp [results, Try.results57, go_sem, howV, c0, c1, c2, c3, c4]) rfl ⟨rfl, below5 hbb (Nat.le_refl _) _ _ _ _ _⟩

set_option maxRecDepth 100000 in
set_option maxHeartbeats 1000000 in
theorem howOf_room (x : ByteArray) (n : Int) (hx : x.size ≤ 300) (w : World) :
    Calls Try.prog 57 #[.iface 104 (.agg #[.string x, .int .i64 n])] w fun e w' => e = .returned (howV 6 0 n x ⟨#[]⟩) ∧ Below w.heap.size w w' := by
  have f0 := ta_room_new
  have f1 := ta_room_next
  have f2 := ta_room_key
  have f3 := ta_room_epoch
  have f4 := ta_room_say
  have fy := ta_room
  have hx2 : x.size ≤ 1000000 := by omega
  go_enter Try.func57, Try.ntmps57
  go_wp2_with fail
  go_region_with (go_at_call 48; refine (clone_any x _ hx2).mono ?_; rintro e w1 ⟨rfl, hb1⟩; obtain ⟨c0, c1, c2, c3, c4, z0, z1, z2, z3, z4⟩ := Res5.keep (b := w.heap.size) (by constructor <;> simp [go_sem]) hb1 (by simp; omega); have d1 := keep1 (b := w.heap.size + 1) (o := 1) (v := .int .i64 n) hb1 (by simp [go_sem]) (by simp); have hbb : Below w.heap.size w w1 := (((Below.refl w.heap.size w).alloc (Nat.le_refl _) _).alloc (by simp) _).drew.trans (hb1.mono (by simp; omega)); clear hb1)
  all_goals go_wp2_with fail
  all_goals exact bodyPost_ret (v := howV 6 0 n x ⟨#[]⟩) (by simp [results, Try.results57, go_sem, howV, c0, c1, c2, c3, c4]) rfl ⟨rfl, below5 hbb (Nat.le_refl _) _ _ _ _ _⟩

set_option maxRecDepth 100000 in
set_option maxHeartbeats 2000000 in
theorem howOf_epoch (x y : ByteArray) (hx : x.size ≤ 300) (hy : y.size ≤ 300) (w : World) :
    Calls Try.prog 57 #[.iface 102 (.agg #[.string x, .string y])] w fun e w' => e = .returned (howV 4 0 0 x y) ∧ Below w.heap.size w w' := by
  have f0 := ta_epoch_new
  have f1 := ta_epoch_next
  have f2 := ta_epoch_key
  have fy := ta_epoch
  have hx2 : x.size ≤ 1000000 := by omega
  have hy2 : y.size ≤ 1000000 := by omega
  go_enter Try.func57, Try.ntmps57
  go_wp2_with fail
  go_region_with (first
    | (go_at_call_of 48 (Value.string x); refine (clone_any x _ hx2).mono ?_; rintro e w1 ⟨rfl, hb1⟩; obtain ⟨c0, c1, c2, c3, c4, z0, z1, z2, z3, z4⟩ := Res5.keep (b := w.heap.size) (by constructor <;> simp [go_sem]) hb1 (by simp; omega); have d1 := keep1 (b := w.heap.size + 1) (o := 1) (v := .string y) hb1 (by simp [go_sem]) (by simp); have hsz : w.heap.size < w1.heap.size := (by have := hb1.size; simp at this; omega); have hbb : Below w.heap.size w w1 := (((Below.refl w.heap.size w).alloc (Nat.le_refl _) _).alloc (by simp) _).drew.trans (hb1.mono (by simp; omega)); clear hb1)
    | (go_at_call_of 48 (Value.string y); refine (clone_any y _ hy2).mono ?_; rintro e w2 ⟨rfl, hb2⟩; obtain ⟨k0, k1, k2, k3, k4, y0, y1, y2, y3, y4⟩ := Res5.keep (b := w.heap.size) ⟨c0, c1, c2, c3, c4, z0, z1, z2, z3, z4⟩ hb2 hsz; have hbc : Below w.heap.size w w2 := hbb.trans (hb2.mono (Nat.le_of_lt hsz)); clear hb2))
  all_goals go_wp2_with fail
  all_goals exact bodyPost_ret (v := howV 4 0 0 x y) (by simp [results, Try.results57, go_sem, howV, k0, k1, k2, k3, k4]) rfl ⟨rfl, below5 hbc (Nat.le_refl _) _ _ _ _ _⟩

end Go.Proofs.Ytgdhlnfigcaepaa
/-
  How a secret was made, as a value, field by field.
-/
namespace Go.Proofs.Ytgdhlnfigcaepaa
open Go.RowKit

theorem how_field (a b c : Int) (d e : ByteArray) : howV a b c d e = .agg #[.int .i64 a, .int .i64 b, .int .i64 c, .string d, .string e] := rfl

theorem field_op (a b c : Int) (d e : ByteArray) (w : World) : (Instr.field 49 (.agg #[.int .i64 a, .int .i64 b, .int .i64 c, .string d, .string e]) 0).run Try.prog w = .ok (.int .i64 a) w := by kernel_rfl
theorem field_who (a b c : Int) (d e : ByteArray) (w : World) : (Instr.field 49 (.agg #[.int .i64 a, .int .i64 b, .int .i64 c, .string d, .string e]) 1).run Try.prog w = .ok (.int .i64 b) w := by kernel_rfl
end Go.Proofs.Ytgdhlnfigcaepaa
/-
  The program's SecMade: its contract.
-/
namespace Go.Proofs.Ytgdhlnfigcaepaa
open Go.RowKit
open Kw (g len nv ok)

/-- How a secret was made: which way; by whom; which number; from which one; and from which other one. -/
def mOp (s : ByteArray) : Int := if ok s = true then (if g s 0 = 110 then 2 else if g s 0 = 107 then 3 else if g s 0 = 101 then 4 else if g s 0 = 109 then 5 else if g s 0 = 114 then 6 else 1) else 0
def mWho (s : ByteArray) : Int := if ok s = true then (if g s 0 = 110 then 0 else if g s 0 = 107 then 0 else if g s 0 = 101 then 0 else if g s 0 = 109 then (g s 1 : Int) - 65 else if g s 0 = 114 then 0 else (g s 0 : Int) - 65) else 0
def mN (s : ByteArray) : Int := if ok s = true then (if g s 0 = 110 then 0 else if g s 0 = 107 then 0 else if g s 0 = 101 then 0 else if g s 0 = 109 then 0 else if g s 0 = 114 then ((g s 1 - 48 : Nat) : Int) else (nv s 0 : Int)) else 0
def mA (s : ByteArray) : ByteArray := if ok s = true then (if g s 0 = 110 then s.extract 1 s.size else if g s 0 = 107 then s.extract 1 s.size else if g s 0 = 101 then s.extract 1 (1 + len s 1) else if g s 0 = 109 then s.extract 2 s.size else if g s 0 = 114 then s.extract 2 s.size else ⟨#[]⟩) else ⟨#[]⟩
def mB (s : ByteArray) : ByteArray := if ok s = true then (if g s 0 = 110 then ⟨#[]⟩ else if g s 0 = 107 then ⟨#[]⟩ else if g s 0 = 101 then s.extract (1 + len s 1) s.size else ⟨#[]⟩) else ⟨#[]⟩

theorem ext_le (s : ByteArray) (a b : Nat) (hs : s.size ≤ 300) : (s.extract a b).size ≤ 300 := by simp [ByteArray.size_extract]; omega

theorem howOf_sec (s : ByteArray) (w : World) (hk : ok s = true) :
    Calls Try.prog 57 #[secV s 0] w fun e w' => e = .returned (howV (mOp s) (mWho s) (mN s) (mA s) (mB s)) ∧ Below w.heap.size w w' := by
  obtain ⟨h1, _, _⟩ := ok_facts hk
  unfold mOp mWho mN mA mB secV
  simp only [if_pos hk, Nat.zero_add]
  by_cases c1 : g s 0 = 110
  · simp only [if_pos c1]
    rw [(parts_nk hk (.inl c1)).2]
    exact howOf_next _ (ext_le _ _ _ h1) w
  simp only [if_neg c1]
  by_cases c2 : g s 0 = 107
  · simp only [if_pos c2]
    rw [(parts_nk hk (.inr c2)).2]
    exact howOf_key _ (ext_le _ _ _ h1) w
  simp only [if_neg c2]
  by_cases c3 : g s 0 = 101
  · simp only [if_pos c3]
    rw [(parts_e hk c3).2.2]
    exact howOf_epoch _ _ (ext_le _ _ _ h1) (ext_le _ _ _ h1) w
  simp only [if_neg c3]
  by_cases c4 : g s 0 = 109
  · simp only [if_pos c4]
    rw [(parts_m hk c4).2.2.2]
    exact howOf_say _ _ (ext_le _ _ _ h1) w
  simp only [if_neg c4]
  by_cases c5 : g s 0 = 114
  · simp only [if_pos c5]
    rw [(parts_r hk c5).2.2.2]
    exact howOf_room _ _ (ext_le _ _ _ h1) w
  simp only [if_neg c5]
  exact howOf_new _ _ w

theorem made_not {s : ByteArray} (hk : ok s = false) : mOp s = 0 ∧ mWho s = 0 ∧ mN s = 0 ∧ mA s = ⟨#[]⟩ ∧ mB s = ⟨#[]⟩ := by
  unfold mOp mWho mN mA mB; simp [hk]

set_option maxRecDepth 100000 in
set_option maxHeartbeats 1000000 in
theorem iSecMade_any (s : ByteArray) (w : World) (hm : s.size ≤ maxLen) :
    Calls Try.prog 30 #[.string s] w fun e w' => e = .returned (howV (mOp s) (mWho s) (mN s) (mA s) (mB s)) ∧ Below w.heap.size w w' := by
  have M := hide hm
  clear hm
  cases hk : ok s with
  | false =>
    obtain ⟨e1, e2, e3, e4, e5⟩ := made_not hk
    rw [e1, e2, e3, e4, e5]
    have K := hide hk
    clear hk e1 e2 e3 e4 e5
    go_enter Try.func30, Try.ntmps30
    go_wp2_with fail
    refine (readSecret_any s _ M.out).mono ?_
    rintro e w1 ⟨hb1, ⟨h1, h2⟩ | ⟨h1, rfl⟩⟩
    · rw [K.out] at h1; cases h1
    clear h1
    obtain ⟨c0, c1, c2, c3, c4, z0, z1, z2, z3, z4⟩ := Res5.keep (b := w.heap.size) (by constructor <;> simp [go_sem]) hb1 (by simp)
    have hbb : Below w.heap.size w w1 := ((Below.refl w.heap.size w).alloc (Nat.le_refl _) _).trans (hb1.mono (by simp))
    clear hb1
    go_wp2_with fail
    exact bodyPost_ret (v := howV 0 0 0 ⟨#[]⟩ ⟨#[]⟩) (by simp [results, Try.results30, go_sem, howV, c0, c1, c2, c3, c4]) rfl ⟨rfl, below5 hbb (Nat.le_refl _) _ _ _ _ _⟩
  | true =>
    have K := hide hk
    clear hk
    go_enter Try.func30, Try.ntmps30
    go_wp2_with fail
    refine (readSecret_any s _ M.out).mono ?_
    rintro e w1 ⟨hb1, ⟨h1, rfl⟩ | ⟨h1, h2⟩⟩
    · clear h1
      have R1 := Res5.keep (b := w.heap.size) (by constructor <;> simp [go_sem]) hb1 (by simp)
      have hsz : w.heap.size < w1.heap.size := by have := hb1.size; simp at this; omega
      have hbb : Below w.heap.size w w1 := ((Below.refl w.heap.size w).alloc (Nat.le_refl _) _).trans (hb1.mono (by simp))
      clear hb1
      have HB := hide hbb
      have HR := hide R1
      clear hbb R1
      generalize hv : secV s 0 = v
      go_wp2_with fail
      rw [← hv]
      refine (howOf_sec s _ K.out).mono ?_
      rintro e w2 ⟨rfl, hb2⟩
      obtain ⟨c0, c1, c2, c3, c4, z0, z1, z2, z3, z4⟩ := Res5.keep (unhide HR) hb2 hsz
      have hbc : Below w.heap.size w w2 := (unhide HB).trans (hb2.mono (Nat.le_of_lt hsz))
      clear hb2 hv
      unfold howV
      go_wp2_with fail
      exact bodyPost_ret (v := howV (mOp s) (mWho s) (mN s) (mA s) (mB s)) (by simp [results, Try.results30, go_sem, howV, c0, c1, c2, c3, c4]) rfl ⟨rfl, below5 hbc (Nat.le_refl _) _ _ _ _ _⟩
    · rw [K.out] at h1; cases h1
#print axioms iSecMade_any
end Go.Proofs.Ytgdhlnfigcaepaa
/-
  A window, as a value; whether it is ok, and what it takes, as plain words.
-/
namespace Go.Proofs.Ytgdhlnfigcaepaa
open Go.RowKit

/-- What has come that was shut with a key. -/
structure Win where
  key : ByteArray
  top : Int
  seen : List Int
def Win.none : Win := ⟨⟨#[]⟩, 0, []⟩
abbrev winC (key : ByteArray) (top : Int) (s : Value) : Array Value := #[.string key, .int .i64 top, s]
abbrev Win.cells (x : Win) (s : Value) : Array Value := winC x.key x.top s
abbrev noWin : Array Value := winC ⟨#[]⟩ 0 (.slice none 0 0)
theorem info_wi : (Try.prog.info? 35).map (·.size) = some 3 := by kernel_rfl
theorem load_wi {w : World} {b : Nat} {cs : Array Value} (h : Blk w b 35 cs) (hc : cs.size = 3) : (loadVar 35 ⟨b, 0, none⟩).run Try.prog w = .ok (.agg cs) w :=
  run_loadVar_row w b _ _ cs (0, 0) _ h Try.underlying35 rfl (by rw [hc]; exact info_wi)
theorem one_wi (a : ByteArray) (b : Int) (x : Option Addr) (n c : Nat) : (winC a b (.slice x n c)).all (·.oneCell') = true := by simp [Value.oneCell']

/-- Whether a window is ok. -/
def winOk (x : Win) : Bool := Kw.ok x.key && (decide (mOp x.key = 5) && (inB 1 999 x.top && fallsB x.top x.seen))
theorem winOk_eq (x : Win) : winOk x = (Kw.ok x.key && (decide (mOp x.key = 5) && (inB 1 999 x.top && fallsB x.top x.seen))) := rfl
theorem win_facts {x : Win} (h : winOk x = true) : Kw.ok x.key = true ∧ mOp x.key = 5 ∧ (1 ≤ x.top ∧ x.top ≤ 999) ∧ fallsB x.top x.seen = true := by
  unfold winOk inB at h
  simp only [Bool.and_eq_true, decide_eq_true_eq] at h
  exact ⟨h.1, h.2.1, h.2.2.1, h.2.2.2⟩
theorem win_of {x : Win} (h1 : Kw.ok x.key = true) (h2 : mOp x.key = 5) (h3 : 1 ≤ x.top ∧ x.top ≤ 999) (h4 : fallsB x.top x.seen = true) : winOk x = true := by
  unfold winOk inB
  simp only [Bool.and_eq_true, decide_eq_true_eq]
  exact ⟨h1, h2, h3, h4⟩

/-- A number put in its place. -/
def insN (n : Int) : List Int → List Int
  | [] => [n]
  | x :: l => if x < n then n :: x :: l else x :: insN n l
theorem ins_mem (n m : Int) : ∀ l, m ∈ insN n l ↔ m = n ∨ m ∈ l
  | [] => by simp [insN]
  | x :: l => by
    unfold insN
    split
    · simp
    · rw [List.mem_cons, ins_mem n m l, List.mem_cons]
      constructor
      · rintro (h | h | h)
        · exact .inr (.inl h)
        · exact .inl h
        · exact .inr (.inr h)
      · rintro (h | h | h)
        · exact .inr (.inl h)
        · exact .inl h
        · exact .inr (.inr h)
theorem ins_sorted (n : Int) : ∀ l, l.Pairwise (fun a b => b < a) → n ∉ l → (insN n l).Pairwise (fun a b => b < a)
  | [], _, _ => by simp [insN]
  | x :: l, h, hn => by
    obtain ⟨h1, h2⟩ := List.pairwise_cons.1 h
    unfold insN
    split
    · rename_i hx
      refine List.pairwise_cons.2 ⟨fun y hy => ?_, h⟩
      rcases List.mem_cons.1 hy with e | e
      · omega
      · have := h1 y e; omega
    · rename_i hx
      have hne : x ≠ n := fun e => hn (by rw [e]; simp)
      refine List.pairwise_cons.2 ⟨fun y hy => ?_, ins_sorted n l h2 (fun q => hn (List.mem_cons_of_mem _ q))⟩
      rcases (ins_mem n y l).1 hy with e | e
      · omega
      · exact h1 y e
theorem seen_done (n lim : Int) : ∀ (xs acc : List Int), xs.foldl (seenStep n lim) (true, acc) = (true, acc ++ xs.filter fun x => decide (lim < x))
  | [], acc => by simp
  | x :: xs, acc => by
    rw [List.foldl_cons]
    by_cases h : lim < x
    · have e : seenStep n lim (true, acc) x = (true, acc ++ [x]) := by unfold seenStep seenOne; simp [h]
      rw [e, seen_done n lim xs, List.filter_cons_of_pos (by simpa using h)]
      simp
    · have e : seenStep n lim (true, acc) x = (true, acc) := by unfold seenStep seenOne; simp [h]
      rw [e, seen_done n lim xs, List.filter_cons_of_neg (by simpa using h)]
theorem seen_fold {n lim : Int} (hn : lim < n) : ∀ (xs acc : List Int), xs.Pairwise (fun a b => b < a) →
    (if (xs.foldl (seenStep n lim) (false, acc)).1 = true then (xs.foldl (seenStep n lim) (false, acc)).2 else (xs.foldl (seenStep n lim) (false, acc)).2 ++ [n]) = acc ++ insN n (xs.filter fun x => decide (lim < x))
  | [], acc, _ => by simp [insN]
  | x :: xs, acc, h => by
    obtain ⟨h1, h2⟩ := List.pairwise_cons.1 h
    rw [List.foldl_cons]
    by_cases hx : x < n
    · by_cases hl : lim < x
      · have e : seenStep n lim (false, acc) x = (true, acc ++ [n] ++ [x]) := by unfold seenStep seenOne; simp [hl, hx]
        rw [e, seen_done, List.filter_cons_of_pos (by simpa using hl), if_pos rfl]
        unfold insN
        rw [if_pos hx]
        simp
      · have e : seenStep n lim (false, acc) x = (true, acc ++ [n]) := by unfold seenStep seenOne; simp [hl, hx]
        have f : (xs.filter fun x => decide (lim < x)) = [] := by
          rw [List.filter_eq_nil_iff]
          intro y hy
          have := h1 y hy
          simp
          omega
        rw [e, seen_done, List.filter_cons_of_neg (by simpa using hl), if_pos rfl, f]
        simp [insN]
    · have hl : lim < x := by omega
      have e : seenStep n lim (false, acc) x = (false, acc ++ [x]) := by unfold seenStep seenOne; simp [hl, hx]
      rw [e, seen_fold hn xs (acc ++ [x]) h2, List.filter_cons_of_pos (by simpa using hl)]
      rw [show insN n (x :: xs.filter fun x => decide (lim < x)) = x :: insN n (xs.filter fun x => decide (lim < x)) by rw [insN, if_neg hx]]
      simp
theorem seenOf_ins {n lim : Int} (hn : lim < n) {xs : List Int} (h : xs.Pairwise (fun a b => b < a)) : seenOf n lim xs = insN n (xs.filter fun x => decide (lim < x)) := by
  unfold seenOf seenTo
  rw [List.take_length]
  have := seen_fold hn xs [] h
  rw [List.nil_append] at this
  exact this
theorem seenOf_mem {n lim : Int} (hn : lim < n) {xs : List Int} (h : xs.Pairwise (fun a b => b < a)) (m : Int) : m ∈ seenOf n lim xs ↔ m = n ∨ (m ∈ xs ∧ lim < m) := by
  rw [seenOf_ins hn h, ins_mem, List.mem_filter, decide_eq_true_eq]
theorem seenOf_sorted {n lim : Int} (hn : lim < n) {xs : List Int} (h : xs.Pairwise (fun a b => b < a)) (hne : n ∉ xs) : (seenOf n lim xs).Pairwise (fun a b => b < a) := by
  rw [seenOf_ins hn h]
  exact ins_sorted n _ (h.filter _) (fun q => hne (List.mem_filter.1 q).1)
theorem seenOf_len {n lim : Int} (hn : lim < n) {xs : List Int} (h : xs.Pairwise (fun a b => b < a)) : (seenOf n lim xs).length ≤ xs.length + 1 := by
  rw [seenOf_ins hn h]
  have : ∀ l : List Int, (insN n l).length = l.length + 1 := by
    intro l
    induction l with
    | nil => rfl
    | cons x l ih => unfold insN; split <;> simp [ih]
  rw [this]
  have := List.length_filter_le (fun x => decide (lim < x)) xs
  omega

/-- A window is not for a number. -/
def lateB (x : Win) (n : Int) : Bool := decide (n ≤ x.top - 8) || decide (n ∈ x.seen)
/-- A window behind a number, that is not late. -/
def tookW (x : Win) (n : Int) : Win := ⟨x.key, max x.top n, seenOf n (max x.top n - 8) x.seen⟩
/-- A window behind a number. -/
def takeW (x : Win) (n : Int) : Win × Bool := if lateB x n = true then (x, false) else (tookW x n, true)
/-- The window of WinTake. -/
def winTake (x : Win) (n : Int) : Win × Bool := if winOk x = true ∧ inB 1 999 n = true then takeW x n else (Win.none, false)
theorem late_no {x : Win} {n : Int} (h : lateB x n = false) : x.top - 8 < n ∧ n ∉ x.seen := by
  unfold lateB at h
  simp at h
  exact ⟨by omega, h.2⟩
theorem took_facts {x : Win} {n : Int} (hx : winOk x = true) (hn : 1 ≤ n ∧ n ≤ 999) (h : lateB x n = false) :
    winOk (tookW x n) = true ∧ ∀ m, m ∈ (tookW x n).seen ↔ m = n ∨ (m ∈ x.seen ∧ max x.top n - 8 < m) := by
  obtain ⟨h1, h2, h3, h4⟩ := win_facts hx
  obtain ⟨l1, l2⟩ := late_no h
  have hs := falls_sorted h4
  have hb := falls_in h4 h3.1
  have hlim : max x.top n - 8 < n := by omega
  have hm := seenOf_mem hlim hs
  refine ⟨win_of h1 h2 (by unfold tookW; simp only; omega) ?_, hm⟩
  unfold tookW
  simp only
  refine falls_of (seenOf_sorted hlim hs l2) (fun y hy => ?_) ?_
  · rcases (hm y).1 hy with e | ⟨e, e2⟩
    · omega
    · have := hb y e; omega
  · rw [hm]
    by_cases q : x.top ≤ n
    · exact .inl (by omega)
    · exact .inr ⟨by rw [show max x.top n = x.top by omega]; exact falls_mem h4, by omega⟩
#print axioms took_facts
end Go.Proofs.Ytgdhlnfigcaepaa
