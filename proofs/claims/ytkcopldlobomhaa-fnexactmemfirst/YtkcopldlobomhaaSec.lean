/-
  The program's SecOk and readSecret: at every text they answer as the plain function on names does.
-/
import Derived.Test.YtkcopldlobomhaaHow
namespace Go.Proofs.Ytkcopldlobomhaa
open Go.RowKit

theorem Rd.back {b : Nat} {s : ByteArray} {a : Nat} {w : World} (h : Rd b s (a + 1) w) (v : Value) (hv : v = .int .i64 (a : Int)) :
    Rd b s a (w.setCell ⟨b, 1, none⟩ v) ∧ Below b w (w.setCell ⟨b, 1, none⟩ v) := by
  obtain ⟨t, p, f, lt⟩ := h
  subst hv
  refine ⟨⟨by simp [go_sem, t], by simp [go_sem, p], by simp [go_sem, f], by simpa [World.setCell] using lt⟩, ?_⟩
  exact (Below.refl b w).setCell (p := ⟨b, 1, none⟩) (Nat.le_refl _) _

theorem Post.form {b : Nat} {s : ByteArray} {a k : Nat} {v : Value} {w : World} {e : Ending} {w' : World} (h : Post b s a k v w e w') :
    ∃ u c, e = .returned (.tuple #[u, .bool c]) ∧ Post b s a k v w (.returned (.tuple #[u, .bool c])) w' := by
  have h0 := h
  obtain ⟨h1, ⟨h2, h3, h4⟩ | ⟨h2, ⟨u, h3⟩, h4⟩⟩ := h
  · exact ⟨_, _, h3, by rw [← h3]; exact h0⟩
  · exact ⟨_, _, h3, by rw [← h3]; exact h0⟩

theorem PostN.form {b : Nat} {s : ByteArray} {a k : Nat} {x : ByteArray} {w : World} {e : Ending} {w' : World} (h : PostN b s a k (.string x) w e w') :
    ∃ u c, e = .returned (.tuple #[.string u, .bool c]) ∧ PostN b s a k (.string x) w (.returned (.tuple #[.string u, .bool c])) w' := by
  have h0 := h
  obtain ⟨h1, ⟨h2, h3, h4⟩ | ⟨h2, h3, h4⟩⟩ := h
  · exact ⟨_, _, h3, by rw [← h3]; exact h0⟩
  · exact ⟨_, _, h3, by rw [← h3]; exact h0⟩

theorem Post.lift {b : Nat} {s : ByteArray} {a k : Nat} {v : Value} {w w1 : World} {e : Ending} {w' : World} (h : Post b s (a + 1) k v w1 e w') (hb : Below b w w1) (hl : Kw.len s a = Kw.more 1 k) (hv : secV s a = v) :
    Post b s a (Kw.len s a) (secV s a) w e w' := by
  rw [hv]
  obtain ⟨h1, ⟨h2, h3, h4⟩ | ⟨h2, h3, h4⟩⟩ := h
  · rw [hl, Kw.more_pos h2]
    exact ⟨hb.trans h1, .inl ⟨by omega, h3, by rw [← Nat.add_assoc]; exact h4⟩⟩
  · rw [hl, Kw.more_zero h2]
    exact ⟨hb.trans h1, .inr ⟨rfl, h3, h4⟩⟩

theorem PostN.lift {b : Nat} {s : ByteArray} {a k t : Nat} {x u : ByteArray} {c : Bool} {w w1 : World} {w' : World} (h : PostN b s (a + 1) k (.string x) w1 (.returned (.tuple #[.string u, .bool c])) w') (hb : Below b w w1) (hl : Kw.len s a = Kw.more 1 k)
    (hv : secV s a = .iface t (.agg #[.string x])) : Post b s a (Kw.len s a) (secV s a) w (.returned (.tuple #[.iface t (.agg #[.string u]), .bool c])) w' := by
  rw [hv]
  obtain ⟨h1, ⟨h2, h3, h4⟩ | ⟨h2, h3, h4⟩⟩ := h
  · simp at h3
    obtain ⟨rfl, rfl⟩ := h3
    rw [hl, Kw.more_pos h2]
    exact ⟨hb.trans h1, .inl ⟨by omega, rfl, by rw [← Nat.add_assoc]; exact h4⟩⟩
  · simp at h3
    obtain ⟨rfl, rfl⟩ := h3
    rw [hl, Kw.more_zero h2]
    exact ⟨hb.trans h1, .inr ⟨rfl, ⟨_, rfl⟩, h4⟩⟩

theorem Post.lift0 {b : Nat} {s : ByteArray} {a : Nat} {v : Value} {w w1 : World} {e : Ending} {w' : World} (h : Post b s a (Kw.fresh s a) v w1 e w') (hb : Below b w w1) (hl : Kw.len s a = Kw.fresh s a) (hv : secV s a = v) :
    Post b s a (Kw.len s a) (secV s a) w e w' := by
  rw [hv, hl]
  exact ⟨hb.trans h.1, h.2⟩

set_option maxHeartbeats 1000000 in
theorem readHow_step (b : Nat) (s : ByteArray) (hs : s.size ≤ 300) (a : Nat) (ha : a < s.size) (ih : ∀ m, a < m → m ≤ s.size → HowAt b s m) : HowAt b s a := by
  intro w h
  have hr := hide h
  clear h
  have hN1 : NameAt b s (a + 1) := readName_of b s (a + 1) (ih _ (by omega) (by omega))
  have hg := Kw.g_lt.2 ha
  by_cases c1 : Kw.g s a = 110
  · have e1 : ((Kw.g s a : Int) == 110) = true := by simp; omega
    have C1 := hide c1
    clear c1
    go_enter Try.func69, Try.ntmps69
    go_wp2_with fail
    refine (readSign_in b s a _ hs (unhide hr) ha).mono ?_
    rintro e w1 ⟨rfl, r1, hb1⟩
    go_wp2_with fail
    refine (hN1 _ r1).mono ?_
    rintro e w2 h2
    obtain ⟨u, c, rfl, hp⟩ := h2.form
    clear h2
    go_wp2_with fail
    go_ret2
    exact hp.lift hb1 (Kw.len_nk (.inl C1.out)) (by unfold secV; rw [if_pos C1.out])
  have e1 : ((Kw.g s a : Int) == 110) = false := by simp; omega
  by_cases c2 : Kw.g s a = 107
  · have e2 : ((Kw.g s a : Int) == 107) = true := by simp; omega
    have C2 := hide c2
    have C1 := hide c1
    clear c2 c1
    go_enter Try.func69, Try.ntmps69
    go_wp2_with fail
    refine (readSign_in b s a _ hs (unhide hr) ha).mono ?_
    rintro e w1 ⟨rfl, r1, hb1⟩
    go_wp2_with fail
    refine (hN1 _ r1).mono ?_
    rintro e w2 h2
    obtain ⟨u, c, rfl, hp⟩ := h2.form
    clear h2
    go_wp2_with fail
    go_ret2
    exact hp.lift hb1 (Kw.len_nk (.inr C2.out)) (by unfold secV; rw [if_neg C1.out, if_pos C2.out])
  have e2 : ((Kw.g s a : Int) == 107) = false := by simp; omega
  by_cases c3 : Kw.g s a = 101
  · have e3 : ((Kw.g s a : Int) == 101) = true := by simp; omega
    have C3 := hide c3
    have C2 := hide c2
    have C1 := hide c1
    have hN2 : Kw.len s (a + 1) ≠ 0 → NameAt b s (a + 1 + Kw.len s (a + 1)) := fun hl => readName_of b s _ (ih _ (by omega) (Kw.len_le hl))
    have HN2 := hide hN2
    clear c3 c2 c1 hN2
    go_enter Try.func69, Try.ntmps69
    go_wp2_with fail
    refine (readSign_in b s a _ hs (unhide hr) ha).mono ?_
    rintro e w1 ⟨rfl, r1, hb1⟩
    go_wp2_with fail
    refine (readEpoch_of b s (a + 1) hN1 (unhide HN2) _ r1).mono ?_
    rintro e w2 h2
    obtain ⟨u, c, rfl, hp⟩ := h2.form
    clear h2
    go_wp2_with fail
    go_ret2
    exact hp.lift hb1 (Kw.len_e C3.out) (by unfold secV; rw [if_neg C1.out, if_neg C2.out, if_pos C3.out])
  have e3 : ((Kw.g s a : Int) == 101) = false := by simp; omega
  have hN2 : a + 1 < s.size → NameAt b s (a + 1 + 1) := fun hl => readName_of b s _ (ih _ (by omega) (by omega))
  have HN2 := hide hN2
  clear hN2
  by_cases c4 : Kw.g s a = 109
  · have e4 : ((Kw.g s a : Int) == 109) = true := by simp; omega
    have C4 := hide c4
    have C3 := hide c3
    have C2 := hide c2
    have C1 := hide c1
    clear c4 c3 c2 c1
    go_enter Try.func69, Try.ntmps69
    go_wp2_with fail
    refine (readSign_in b s a _ hs (unhide hr) ha).mono ?_
    rintro e w1 ⟨rfl, r1, hb1⟩
    go_wp2_with fail
    refine (readSay_of b s (a + 1) hs (unhide HN2) _ r1).mono ?_
    rintro e w2 h2
    obtain ⟨u, c, rfl, hp⟩ := h2.form
    clear h2
    go_wp2_with fail
    go_ret2
    exact hp.lift hb1 (Kw.len_m C4.out) (by unfold secV; rw [if_neg C1.out, if_neg C2.out, if_neg C3.out, if_pos C4.out])
  have e4 : ((Kw.g s a : Int) == 109) = false := by simp; omega
  by_cases c5 : Kw.g s a = 114
  · have e5 : ((Kw.g s a : Int) == 114) = true := by simp; omega
    have C5 := hide c5
    have C4 := hide c4
    have C3 := hide c3
    have C2 := hide c2
    have C1 := hide c1
    clear c5 c4 c3 c2 c1
    go_enter Try.func69, Try.ntmps69
    go_wp2_with fail
    refine (readSign_in b s a _ hs (unhide hr) ha).mono ?_
    rintro e w1 ⟨rfl, r1, hb1⟩
    go_wp2_with fail
    refine (readRoom_of b s (a + 1) hs (by omega) (unhide HN2) _ r1).mono ?_
    rintro e w2 h2
    obtain ⟨u, c, rfl, hp⟩ := h2.form
    clear h2
    go_wp2_with fail
    go_ret2
    exact hp.lift hb1 (Kw.len_r C5.out) (by unfold secV; rw [if_neg C1.out, if_neg C2.out, if_neg C3.out, if_neg C4.out, if_pos C5.out])
  have e5 : ((Kw.g s a : Int) == 114) = false := by simp; omega
  have C5 := hide c5
  have C4 := hide c4
  have C3 := hide c3
  have C2 := hide c2
  have C1 := hide c1
  clear c5 c4 c3 c2 c1 HN2 hN1
  go_enter Try.func69, Try.ntmps69
  go_wp2_with fail
  refine (readSign_in b s a _ hs (unhide hr) ha).mono ?_
  rintro e w1 ⟨rfl, r1, hb1⟩
  have R1 := hide r1
  obtain ⟨t, p, f, lt⟩ := r1
  go_wp2_with fail
  obtain ⟨r2, hb2⟩ := (unhide R1).back (.int .i64 (a : Int)) rfl
  refine (readNew_any b s a _ hs r2 (by omega)).mono ?_
  rintro e w2 h2
  obtain ⟨u, c, rfl, hp⟩ := h2.form
  clear h2
  go_wp2_with fail
  go_ret2
  exact hp.lift0 (hb1.trans hb2) (Kw.len_else C1.out C2.out C4.out C5.out C3.out) (by unfold secV; rw [if_neg C1.out, if_neg C2.out, if_neg C3.out, if_neg C4.out, if_neg C5.out])

set_option maxHeartbeats 400000 in
theorem readHow_out (b : Nat) (s : ByteArray) (a : Nat) (ha : s.size ≤ a) : HowAt b s a := by
  intro w h
  have hr := hide h
  clear h
  go_enter Try.func69, Try.ntmps69
  go_wp2_with fail
  refine (readSign_out b s a _ (unhide hr) ha).mono ?_
  rintro e w1 ⟨rfl, r1, hb1⟩
  go_wp2_with fail
  go_ret2
  exact ⟨hb1, .inr ⟨Kw.len_out ha, ⟨_, rfl⟩, ⟨_, r1⟩⟩⟩

theorem readHow_all (b : Nat) (s : ByteArray) (hs : s.size ≤ 300) : ∀ f a, s.size - a ≤ f → HowAt b s a := by
  intro f
  induction f with
  | zero => intro a h; exact readHow_out b s a (by omega)
  | succ f ih =>
    intro a h
    by_cases ha : a < s.size
    · exact readHow_step b s hs a ha (fun m h1 h2 => ih m (by omega))
    · exact readHow_out b s a (by omega)

/-- What reading a whole text comes to. -/
def ReadPost (s : ByteArray) (w : World) (e : Ending) (w' : World) : Prop :=
  Below w.heap.size w w' ∧ ((Kw.ok s = true ∧ e = .returned (.tuple #[secV s 0, .bool true])) ∨ (Kw.ok s = false ∧ e = .returned (.tuple #[.nilIface, .bool false])))

theorem Rd.start (s : ByteArray) (w : World) : Rd w.heap.size s 0 (w.alloc (.cells #[.string s, .int .i64 0] 88)) :=
  ⟨by simp [go_sem], by simp [go_sem], by simp [go_sem], by simp⟩

set_option maxHeartbeats 400000 in
theorem readSecret_any (s : ByteArray) (w : World) (hm : s.size ≤ maxLen) :
    Calls Try.prog 49 #[.string s] w (ReadPost s w) := by
  unfold maxLen at hm
  by_cases hs : s.size ≤ 300
  · have H := readHow_all w.heap.size s hs s.size 0 (by omega)
    have hb0 : Below w.heap.size w (w.alloc (.cells #[.string s, .int .i64 0] 88)) := (Below.refl _ _).alloc (Nat.le_refl _) _
    by_cases hl : Kw.len s 0 = 0
    · have L := hide hl
      clear hl
      go_enter Try.func49, Try.ntmps49
      go_wp2_with fail
      refine (H _ (Rd.start s w)).mono ?_
      rintro e w1 h1
      obtain ⟨u, rfl, r1, hb1⟩ := h1.no L.out
      clear h1
      go_wp2_with fail
      go_ret2
      exact ⟨hb0.trans hb1, .inr ⟨ok_none L.out, rfl⟩⟩
    · have hle := Kw.len_le hl
      have L := hide hl
      clear hl
      by_cases hq : Kw.len s 0 = s.size
      · have Q := hide hq
        clear hq
        go_enter Try.func49, Try.ntmps49
        go_wp2_with fail
        refine (H _ (Rd.start s w)).mono ?_
        rintro e w1 h1
        obtain ⟨rfl, r1, hb1⟩ := h1.yes L.out
        clear h1
        rw [Nat.zero_add, Q.out] at r1
        obtain ⟨t, p, f, lt⟩ := r1
        go_wp2_with fail
        go_ret2
        exact ⟨hb0.trans hb1, .inl ⟨ok_yes hs L.out Q.out, rfl⟩⟩
      · have Q := hide hq
        have hne : ((Kw.len s 0 : Int) != (s.size : Int)) = true := by simp; omega
        clear hq
        go_enter Try.func49, Try.ntmps49
        go_wp2_with fail
        refine (H _ (Rd.start s w)).mono ?_
        rintro e w1 h1
        obtain ⟨rfl, r1, hb1⟩ := h1.yes L.out
        clear h1
        rw [Nat.zero_add] at r1
        obtain ⟨t, p, f, lt⟩ := r1
        go_wp2_with fail
        go_ret2
        exact ⟨hb0.trans hb1, .inr ⟨ok_part Q.out, rfl⟩⟩
  · have hs2 : 300 < s.size := by omega
    go_enter Try.func49, Try.ntmps49
    go_wp2_with fail
    go_ret2
    exact ⟨Below.refl _ _, .inr ⟨ok_long hs2, rfl⟩⟩

theorem ReadPost.form {s : ByteArray} {w : World} {e : Ending} {w' : World} (h : ReadPost s w e w') : ∃ u, e = .returned (.tuple #[u, .bool (Kw.ok s)]) ∧ Below w.heap.size w w' := by
  obtain ⟨h1, ⟨h2, h3⟩ | ⟨h2, h3⟩⟩ := h
  · exact ⟨_, by rw [h2]; exact h3, h1⟩
  · exact ⟨_, by rw [h2]; exact h3, h1⟩

set_option maxHeartbeats 400000 in
theorem iSecOk_any (s : ByteArray) (w : World) (hm : s.size ≤ maxLen) :
    Calls Try.prog 23 #[.string s] w fun e w' => e = .returned (.bool (Kw.ok s)) ∧ Below w.heap.size w w' := by
  have M := hide hm
  clear hm
  go_enter Try.func23, Try.ntmps23
  go_wp2_with fail
  refine (readSecret_any s _ M.out).mono ?_
  rintro e w1 h1
  obtain ⟨u, rfl, hb1⟩ := h1.form
  clear h1
  go_wp2_with fail
  go_ret
  exact ⟨rfl, hb1⟩
#print axioms iSecOk_any
end Go.Proofs.Ytkcopldlobomhaa
