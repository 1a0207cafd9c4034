/-
  The recursive descent over names, over the landed program: what reading a name at a place comes to.
-/
import Derived.Test.YtkcopldlobomhaaRd
namespace Go.Proofs.Ytkcopldlobomhaa
open Go.RowKit

/-- The value that tells how the secret at a place was made. -/
def secV (s : ByteArray) (a : Nat) : Value :=
  if Kw.g s a = 110 then .iface 92 (.agg #[.string (s.extract (a + 1) (a + 1 + Kw.len s (a + 1)))])
  else if Kw.g s a = 107 then .iface 61 (.agg #[.string (s.extract (a + 1) (a + 1 + Kw.len s (a + 1)))])
  else if Kw.g s a = 101 then .iface 105 (.agg #[.string (s.extract (a + 1) (a + 1 + Kw.len s (a + 1))), .string (s.extract (a + 1 + Kw.len s (a + 1)) (a + 1 + Kw.len s (a + 1) + Kw.len s (a + 1 + Kw.len s (a + 1))))])
  else if Kw.g s a = 109 then .iface 109 (.agg #[.string (s.extract (a + 2) (a + 2 + Kw.len s (a + 2))), .int .i64 ((Kw.g s (a + 1) : Int) - 65)])
  else if Kw.g s a = 114 then .iface 112 (.agg #[.string (s.extract (a + 2) (a + 2 + Kw.len s (a + 2))), .int .i64 ((Kw.g s (a + 1) - 48 : Nat) : Int)])
  else .iface 114 (.agg #[.int .i64 ((Kw.g s a : Int) - 65), .int .i64 (Kw.nv s a : Int)])

/-- What reading comes to, of a text that is a name from a place on, so many bytes, or of one that is none. -/
def Post (b : Nat) (s : ByteArray) (a k : Nat) (v : Value) (w : World) (e : Ending) (w' : World) : Prop :=
  Below b w w' ∧ ((k ≠ 0 ∧ e = .returned (.tuple #[v, .bool true]) ∧ Rd b s (a + k) w') ∨ (k = 0 ∧ (∃ u, e = .returned (.tuple #[u, .bool false])) ∧ ∃ a1, Rd b s a1 w'))

theorem Post.yes {b : Nat} {s : ByteArray} {a k : Nat} {v : Value} {w : World} {e : Ending} {w' : World} (h : Post b s a k v w e w') (hk : k ≠ 0) : e = .returned (.tuple #[v, .bool true]) ∧ Rd b s (a + k) w' ∧ Below b w w' := by
  obtain ⟨h1, ⟨_, h2, h3⟩ | ⟨h2, _⟩⟩ := h
  · exact ⟨h2, h3, h1⟩
  · exact absurd h2 hk
theorem Post.no {b : Nat} {s : ByteArray} {a k : Nat} {v : Value} {w : World} {e : Ending} {w' : World} (h : Post b s a k v w e w') (hk : k = 0) : ∃ u, e = .returned (.tuple #[u, .bool false]) ∧ (∃ a1, Rd b s a1 w') ∧ Below b w w' := by
  obtain ⟨h1, ⟨h2, _⟩ | ⟨_, ⟨u, h2⟩, h3⟩⟩ := h
  · exact absurd hk h2
  · exact ⟨u, h2, h3, h1⟩

/-- The same, where nothing is handed back of a text that is none. -/
def PostN (b : Nat) (s : ByteArray) (a k : Nat) (v : Value) (w : World) (e : Ending) (w' : World) : Prop :=
  Below b w w' ∧ ((k ≠ 0 ∧ e = .returned (.tuple #[v, .bool true]) ∧ Rd b s (a + k) w') ∨ (k = 0 ∧ e = .returned (.tuple #[.string ⟨#[]⟩, .bool false]) ∧ ∃ a1, Rd b s a1 w'))
theorem PostN.yes {b : Nat} {s : ByteArray} {a k : Nat} {v : Value} {w : World} {e : Ending} {w' : World} (h : PostN b s a k v w e w') (hk : k ≠ 0) : e = .returned (.tuple #[v, .bool true]) ∧ Rd b s (a + k) w' ∧ Below b w w' := by
  obtain ⟨h1, ⟨_, h2, h3⟩ | ⟨h2, _⟩⟩ := h
  · exact ⟨h2, h3, h1⟩
  · exact absurd h2 hk
theorem PostN.no {b : Nat} {s : ByteArray} {a k : Nat} {v : Value} {w : World} {e : Ending} {w' : World} (h : PostN b s a k v w e w') (hk : k = 0) : e = .returned (.tuple #[.string ⟨#[]⟩, .bool false]) ∧ (∃ a1, Rd b s a1 w') ∧ Below b w w' := by
  obtain ⟨h1, ⟨h2, _⟩ | ⟨_, h2, h3⟩⟩ := h
  · exact absurd hk h2
  · exact ⟨h2, h3, h1⟩

set_option maxHeartbeats 400000 in
theorem readNew_any (b : Nat) (s : ByteArray) (a : Nat) (w : World) (hs : s.size ≤ 300) (h : Rd b s a w) (ha : a ≤ s.size) :
    Calls Try.prog 84 #[.pointer (some ⟨b, 0, none⟩)] w (Post b s a (Kw.fresh s a) (.iface 114 (.agg #[.int .i64 ((Kw.g s a : Int) - 65), .int .i64 (Kw.nv s a : Int)])) w) := by
  have hr := hide h
  clear h
  by_cases hf : Kw.fresh s a = 0
  · by_cases hl : Kw.g s a < 65 ∨ 72 < Kw.g s a
    · have hf' := hide hf
      clear hf
      go_enter Try.func84, Try.ntmps84
      go_wp2_with fail
      refine (readLetter_no b s a _ hs (unhide hr) hl).mono ?_
      rintro e w1 ⟨v1, rfl, r1, hb1⟩
      go_wp2_with fail
      go_ret2
      exact ⟨hb1, .inr ⟨hf'.out, ⟨_, rfl⟩, r1⟩⟩
    · have hn := Kw.fresh_no hf (by omega) (by omega)
      have ha2 : a < s.size := Kw.g_lt.1 (by omega)
      have hf' := hide hf
      clear hf
      rcases hn with hn | ⟨n, a1, hn, h59, ha1⟩
      · have hN := hide hn
        clear hn
        go_enter Try.func84, Try.ntmps84
        go_wp2_with fail
        refine (readLetter_yes b s a _ hs (unhide hr) (by omega) (by omega)).mono ?_
        rintro e w1 ⟨rfl, r1, hb1⟩
        go_wp2_with fail
        refine (readNumber_no b s (a + 1) _ 99 rfl _ hs r1 (by omega) (by omega) hN).mono ?_
        rintro e w2 ⟨rfl, r2, hb2⟩
        go_wp2_with fail
        go_ret2
        exact ⟨hb1.trans hb2, .inr ⟨hf'.out, ⟨_, rfl⟩, r2⟩⟩
      · have hN := hide hn
        clear hn
        by_cases ha3 : a1 < s.size
        · have hne : ((Kw.g s a1 : Int) == 59) = false := by simp; omega
          have hg := Kw.g_lt.2 ha3
          clear h59
          go_enter Try.func84, Try.ntmps84
          go_wp2_with fail
          refine (readLetter_yes b s a _ hs (unhide hr) (by omega) (by omega)).mono ?_
          rintro e w1 ⟨rfl, r1, hb1⟩
          go_wp2_with fail
          refine (readNumber_yes b s (a + 1) _ 99 rfl _ hs r1 (by omega) (by omega) hN).mono ?_
          rintro e w2 ⟨rfl, r2, hb2⟩
          go_wp2_with fail
          refine (readSign_in b s a1 _ hs r2 ha3).mono ?_
          rintro e w3 ⟨rfl, r3, hb3⟩
          go_wp2_with fail
          go_ret2
          exact ⟨(hb1.trans hb2).trans hb3, .inr ⟨hf'.out, ⟨_, rfl⟩, ⟨_, r3⟩⟩⟩
        · clear h59
          go_enter Try.func84, Try.ntmps84
          go_wp2_with fail
          refine (readLetter_yes b s a _ hs (unhide hr) (by omega) (by omega)).mono ?_
          rintro e w1 ⟨rfl, r1, hb1⟩
          go_wp2_with fail
          refine (readNumber_yes b s (a + 1) _ 99 rfl _ hs r1 (by omega) (by omega) hN).mono ?_
          rintro e w2 ⟨rfl, r2, hb2⟩
          go_wp2_with fail
          refine (readSign_out b s a1 _ r2 (by omega)).mono ?_
          rintro e w3 ⟨rfl, r3, hb3⟩
          go_wp2_with fail
          go_ret2
          exact ⟨(hb1.trans hb2).trans hb3, .inr ⟨hf'.out, ⟨_, rfl⟩, ⟨_, r3⟩⟩⟩
  · obtain ⟨p1, p2, p3, p4, p5⟩ := Kw.fresh_yes hf
    have ple := Kw.fresh_le hf
    have hN := hide p3
    have hf' := hide hf
    have ha3 : a + Kw.fresh s a - 1 < s.size := by omega
    have heq : Kw.g s (a + Kw.fresh s a - 1) = 59 := p4
    have hpos : a + Kw.fresh s a - 1 + 1 = a + Kw.fresh s a := by omega
    have hpos' := hide hpos
    generalize hq : a + Kw.fresh s a - 1 = q at *
    clear p3 hf p4 hpos
    have hq' := hide hq
    clear hq
    go_enter Try.func84, Try.ntmps84
    go_wp2_with fail
    refine (readLetter_yes b s a _ hs (unhide hr) p1 p2).mono ?_
    rintro e w1 ⟨rfl, r1, hb1⟩
    go_wp2_with fail
    refine (readNumber_yes b s (a + 1) _ 99 rfl _ hs r1 (by omega) (by omega) hN).mono ?_
    rintro e w2 ⟨rfl, r2, hb2⟩
    go_wp2_with fail
    refine (readSign_in b s q _ hs r2 ha3).mono ?_
    rintro e w3 ⟨rfl, r3, hb3⟩
    go_wp2_with fail
    go_ret2
    exact ⟨(hb1.trans hb2).trans hb3, .inl ⟨hf'.out, rfl, by rw [hpos'.out] at r3; exact r3⟩⟩

/-- Reading how the secret at place a was made is done as it must be. -/
def HowAt (b : Nat) (s : ByteArray) (a : Nat) : Prop := ∀ w, Rd b s a w → Calls Try.prog 69 #[.pointer (some ⟨b, 0, none⟩)] w (Post b s a (Kw.len s a) (secV s a) w)
/-- Reading the name at place a is done as it must be. -/
def NameAt (b : Nat) (s : ByteArray) (a : Nat) : Prop := ∀ w, Rd b s a w → Calls Try.prog 80 #[.pointer (some ⟨b, 0, none⟩)] w (PostN b s a (Kw.len s a) (.string (s.extract a (a + Kw.len s a))) w)

set_option maxHeartbeats 400000 in
theorem readName_of (b : Nat) (s : ByteArray) (a : Nat) (H : HowAt b s a) : NameAt b s a := by
  intro w h
  have hr := hide h
  have hh := hide h
  obtain ⟨t, p, f, lt⟩ := h
  by_cases hl : Kw.len s a = 0
  · have hl' := hide hl
    clear hl
    go_enter Try.func80, Try.ntmps80
    go_wp2_with fail
    refine (H _ (unhide hr)).mono ?_
    rintro e w1 h1
    obtain ⟨u, rfl, r1, hb1⟩ := h1.no hl'.out
    clear h1
    go_wp2_with fail
    go_ret2
    exact ⟨hb1, .inr ⟨hl'.out, rfl, r1⟩⟩
  · have hle := Kw.len_le hl
    have hl' := hide hl
    clear hl
    go_enter Try.func80, Try.ntmps80
    go_wp2_with fail
    refine (H _ (unhide hr)).mono ?_
    rintro e w1 h1
    obtain ⟨rfl, r1, hb1⟩ := h1.yes hl'.out
    clear h1
    have hr1 := hide r1
    clear t p f lt
    obtain ⟨t, p, f, lt⟩ := r1
    generalize Kw.len s a = k at *
    have i0 : a ≤ a + k := by omega
    generalize hk : a + k = m at *
    have hk' := hide hk
    clear hk
    have i1 : (a : Int) ≤ (m : Int) := by omega
    have i2 : (m : Int) ≤ (s.size : Int) := by omega
    go_wp2_with fail
    go_quiet (fail)
    go_wp2_with fail
    go_ret2
    obtain ⟨r2, hb2⟩ := (unhide hr1).drewN nq
    exact ⟨hb1.trans hb2, .inl ⟨hl'.out, rfl, by rw [hk'.out]; exact r2⟩⟩

set_option maxHeartbeats 400000 in
theorem readEpoch_of (b : Nat) (s : ByteArray) (a : Nat) (H : NameAt b s a) (H2 : Kw.len s a ≠ 0 → NameAt b s (a + Kw.len s a)) (w : World) (h : Rd b s a w) :
    Calls Try.prog 81 #[.pointer (some ⟨b, 0, none⟩)] w (Post b s a (Kw.epLen s a)
      (.iface 105 (.agg #[.string (s.extract a (a + Kw.len s a)), .string (s.extract (a + Kw.len s a) (a + Kw.len s a + Kw.len s (a + Kw.len s a)))])) w) := by
  have hr := hide h
  clear h
  by_cases hl : Kw.len s a = 0
  · have hl' := hide hl
    clear hl
    go_enter Try.func81, Try.ntmps81
    go_wp2_with fail
    refine (H _ (unhide hr)).mono ?_
    rintro e w1 h1
    obtain ⟨rfl, r1, hb1⟩ := h1.no hl'.out
    clear h1
    go_wp2_with fail
    go_ret2
    exact ⟨hb1, .inr ⟨by unfold Kw.epLen; rw [if_pos hl'.out], ⟨_, rfl⟩, r1⟩⟩
  · have H3 := H2 hl
    clear H2
    have hl' := hide hl
    clear hl
    generalize hm : a + Kw.len s a = m at *
    have hm' := hide hm
    clear hm
    by_cases hk : Kw.len s m = 0
    · have hk' := hide hk
      clear hk
      go_enter Try.func81, Try.ntmps81
      go_wp2_with fail
      refine (H _ (unhide hr)).mono ?_
      rintro e w1 h1
      obtain ⟨rfl, r1, hb1⟩ := h1.yes hl'.out
      rw [hm'.out] at r1
      clear h1
      go_wp2_with fail
      refine (H3 _ r1).mono ?_
      rintro e w2 h2
      obtain ⟨rfl, r2, hb2⟩ := h2.no hk'.out
      clear h2
      go_wp2_with fail
      go_ret2
      exact ⟨hb1.trans hb2, .inr ⟨by unfold Kw.epLen; rw [if_neg hl'.out, hm'.out, Kw.more_zero hk'.out], ⟨_, rfl⟩, r2⟩⟩
    · have hk' := hide hk
      clear hk
      go_enter Try.func81, Try.ntmps81
      go_wp2_with fail
      refine (H _ (unhide hr)).mono ?_
      rintro e w1 h1
      obtain ⟨rfl, r1, hb1⟩ := h1.yes hl'.out
      rw [hm'.out] at r1 ⊢
      clear h1
      go_wp2_with fail
      refine (H3 _ r1).mono ?_
      rintro e w2 h2
      obtain ⟨rfl, r2, hb2⟩ := h2.yes hk'.out
      clear h2
      go_wp2_with fail
      go_ret2
      have e2 : Kw.epLen s a = Kw.len s a + Kw.len s m := by unfold Kw.epLen; rw [if_neg hl'.out, hm'.out, Kw.more_pos hk'.out]
      refine ⟨hb1.trans hb2, .inl ⟨by rw [e2]; have := hk'.out; omega, rfl, ?_⟩⟩
      rw [e2, ← Nat.add_assoc, hm'.out]
      exact r2

set_option maxHeartbeats 400000 in
theorem readSay_of (b : Nat) (s : ByteArray) (a : Nat) (hs : s.size ≤ 300) (H : a < s.size → NameAt b s (a + 1)) (w : World) (h : Rd b s a w) :
    Calls Try.prog 82 #[.pointer (some ⟨b, 0, none⟩)] w (Post b s a (Kw.sayLen s a)
      (.iface 109 (.agg #[.string (s.extract (a + 1) (a + 1 + Kw.len s (a + 1))), .int .i64 ((Kw.g s a : Int) - 65)])) w) := by
  have hr := hide h
  clear h
  by_cases hl : Kw.g s a < 65 ∨ 72 < Kw.g s a
  · clear H
    go_enter Try.func82, Try.ntmps82
    go_wp2_with fail
    refine (readLetter_no b s a _ hs (unhide hr) hl).mono ?_
    rintro e w1 ⟨v1, rfl, r1, hb1⟩
    go_wp2_with fail
    go_ret2
    exact ⟨hb1, .inr ⟨by unfold Kw.sayLen; rw [if_neg (by omega)], ⟨_, rfl⟩, r1⟩⟩
  · have h1 : 65 ≤ Kw.g s a := by omega
    have h2 : Kw.g s a ≤ 72 := by omega
    have H1 := H (Kw.g_lt.1 (by omega))
    clear H hl
    by_cases hk : Kw.len s (a + 1) = 0
    · have hk' := hide hk
      clear hk
      go_enter Try.func82, Try.ntmps82
      go_wp2_with fail
      refine (readLetter_yes b s a _ hs (unhide hr) h1 h2).mono ?_
      rintro e w1 ⟨rfl, r1, hb1⟩
      go_wp2_with fail
      refine (H1 _ r1).mono ?_
      rintro e w2 h3
      obtain ⟨rfl, r2, hb2⟩ := h3.no hk'.out
      clear h3
      go_wp2_with fail
      go_ret2
      exact ⟨hb1.trans hb2, .inr ⟨by unfold Kw.sayLen; rw [if_pos ⟨h1, h2⟩, Kw.more_zero hk'.out], ⟨_, rfl⟩, r2⟩⟩
    · have hk' := hide hk
      clear hk
      go_enter Try.func82, Try.ntmps82
      go_wp2_with fail
      refine (readLetter_yes b s a _ hs (unhide hr) h1 h2).mono ?_
      rintro e w1 ⟨rfl, r1, hb1⟩
      go_wp2_with fail
      refine (H1 _ r1).mono ?_
      rintro e w2 h3
      obtain ⟨rfl, r2, hb2⟩ := h3.yes hk'.out
      clear h3
      go_wp2_with fail
      go_ret2
      have e2 : Kw.sayLen s a = 1 + Kw.len s (a + 1) := by unfold Kw.sayLen; rw [if_pos ⟨h1, h2⟩, Kw.more_pos hk'.out]
      refine ⟨hb1.trans hb2, .inl ⟨by rw [e2]; omega, rfl, ?_⟩⟩
      rw [e2, ← Nat.add_assoc]
      exact r2

set_option maxHeartbeats 400000 in
theorem readRoom_of (b : Nat) (s : ByteArray) (a : Nat) (hs : s.size ≤ 300) (ha : a ≤ s.size) (H : a < s.size → NameAt b s (a + 1)) (w : World) (h : Rd b s a w) :
    Calls Try.prog 83 #[.pointer (some ⟨b, 0, none⟩)] w (Post b s a (Kw.roomLen s a)
      (.iface 112 (.agg #[.string (s.extract (a + 1) (a + 1 + Kw.len s (a + 1))), .int .i64 ((Kw.g s a - 48 : Nat) : Int)])) w) := by
  have hr := hide h
  clear h
  have key : (Kw.num s 9 a = none ∧ Kw.roomLen s a = 0) ∨ (Kw.num s 9 a = some (Kw.g s a - 48, a + 1) ∧ 49 ≤ Kw.g s a ∧ Kw.g s a ≤ 57) := by
    by_cases hg : 49 ≤ Kw.g s a ∧ Kw.g s a ≤ 57
    · by_cases hk : Kw.len s (a + 1) = 0
      · rcases Kw.room_no hg with h | h
        · exact .inl ⟨h, by unfold Kw.roomLen; rw [if_pos hg, Kw.more_zero hk]⟩
        · exact .inr ⟨h, hg⟩
      · exact .inr ⟨Kw.room_yes hg hk, hg⟩
    · exact .inl ⟨Kw.num_zero (by omega), by unfold Kw.roomLen; rw [if_neg hg]⟩
  rcases key with ⟨hn, he⟩ | ⟨hn, h1, h2⟩
  · have hN := hide hn
    have hE := hide he
    clear hn he H
    go_enter Try.func83, Try.ntmps83
    go_wp2_with fail
    refine (readNumber_no b s a _ 9 rfl _ hs (unhide hr) ha (by omega) hN).mono ?_
    rintro e w1 ⟨rfl, r1, hb1⟩
    go_wp2_with fail
    go_ret2
    exact ⟨hb1, .inr ⟨hE.out, ⟨_, rfl⟩, r1⟩⟩
  · have hN := hide hn
    clear hn
    have H1 := H (Kw.g_lt.1 (by omega))
    clear H
    by_cases hk : Kw.len s (a + 1) = 0
    · have hk' := hide hk
      clear hk
      go_enter Try.func83, Try.ntmps83
      go_wp2_with fail
      refine (readNumber_yes b s a _ 9 rfl _ hs (unhide hr) ha (by omega) hN).mono ?_
      rintro e w1 ⟨rfl, r1, hb1⟩
      go_wp2_with fail
      refine (H1 _ r1).mono ?_
      rintro e w2 h3
      obtain ⟨rfl, r2, hb2⟩ := h3.no hk'.out
      clear h3
      go_wp2_with fail
      go_ret2
      exact ⟨hb1.trans hb2, .inr ⟨by unfold Kw.roomLen; rw [if_pos ⟨h1, h2⟩, Kw.more_zero hk'.out], ⟨_, rfl⟩, r2⟩⟩
    · have hk' := hide hk
      clear hk
      go_enter Try.func83, Try.ntmps83
      go_wp2_with fail
      refine (readNumber_yes b s a _ 9 rfl _ hs (unhide hr) ha (by omega) hN).mono ?_
      rintro e w1 ⟨rfl, r1, hb1⟩
      go_wp2_with fail
      refine (H1 _ r1).mono ?_
      rintro e w2 h3
      obtain ⟨rfl, r2, hb2⟩ := h3.yes hk'.out
      clear h3
      go_wp2_with fail
      go_ret2
      have e2 : Kw.roomLen s a = 1 + Kw.len s (a + 1) := by unfold Kw.roomLen; rw [if_pos ⟨h1, h2⟩, Kw.more_pos hk'.out]
      refine ⟨hb1.trans hb2, .inl ⟨by rw [e2]; omega, rfl, ?_⟩⟩
      rw [e2, ← Nat.add_assoc]
      exact r2
end Go.Proofs.Ytkcopldlobomhaa
