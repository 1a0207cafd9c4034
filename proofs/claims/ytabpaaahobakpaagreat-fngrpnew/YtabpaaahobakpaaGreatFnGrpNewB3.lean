/-
  Contracts of the reader of names, method by method, over the landed program.
-/
import Derived.Test.YtabpaaahobakpaaGreatFnGrpNewB2
import Derived.Shelf.LaysM
import Derived.Shelf.Strconv.Clone
import Derived.Test.YtabpaaahobakpaaGreatRows
import Derived.WalkKit
import Derived.Deep.RegionWith
namespace Go.Proofs.YtabpaaahobakpaaGreat
open Go.RowKit

/-- A reader of the text s lies at block b, and all ahead of place a is read. -/
structure Rd (b : Nat) (s : ByteArray) (a : Nat) (w : World) : Prop where
  t : w.cell? ⟨b, 0, none⟩ = some (.string s)
  p : w.cell? ⟨b, 1, none⟩ = some (.int .i64 (a : Int))
  f : w.frozen? ⟨b, 1, none⟩ = false
  lt : b < w.heap.size

theorem Rd.step {b : Nat} {s : ByteArray} {a : Nat} {w : World} (h : Rd b s a w) (n a' : Nat) (v : Value) (hv : v = .int .i64 (a' : Int)) :
    Rd b s a' ((w.drewN n).setCell ⟨b, 1, none⟩ v) ∧ Below b w ((w.drewN n).setCell ⟨b, 1, none⟩ v) := by
  obtain ⟨t, p, f, lt⟩ := h
  subst hv
  refine ⟨⟨by simp [go_sem, t], by simp [go_sem, p], by simp [go_sem, f], by simpa [World.setCell] using lt⟩, ?_⟩
  exact (below_drewN (Below.refl b w) n).setCell (p := ⟨b, 1, none⟩) (Nat.le_refl _) _

theorem Rd.drewN {b : Nat} {s : ByteArray} {a : Nat} {w : World} (h : Rd b s a w) (n : Nat) : Rd b s a (w.drewN n) ∧ Below b w (w.drewN n) := by
  obtain ⟨t, p, f, lt⟩ := h
  exact ⟨⟨by simp [go_sem, t], by simp [go_sem, p], by simp [go_sem, f], lt⟩, below_drewN (Below.refl _ _) n⟩

theorem ret_u8 {a b : Nat} {c : Bool} (h : a = b) : Ending.returned (.tuple #[.int .u8 (a : Int), .bool c]) = .returned (.tuple #[.int .u8 (b : Int), .bool c]) := by rw [h]

set_option maxHeartbeats 400000 in
theorem readSign_in (b : Nat) (s : ByteArray) (a : Nat) (w : World) (hs : s.size ≤ 300) (h : Rd b s a w) (ha : a < s.size) :
    Calls Tryz.prog 172 #[.pointer (some ⟨b, 0, none⟩)] w fun e w' => e = .returned (.tuple #[.int .u8 (Kw.g s a), .bool true]) ∧ Rd b s (a + 1) w' ∧ Below b w w' := by
  have hr := hide h
  obtain ⟨t, p, f, lt⟩ := h
  have hd : decide ((s.size : Int) ≤ (a : Int)) = false := by simp; omega
  have h1 : (a : Int) < (s.size : Int) := by omega
  go_enter Tryz.func172, Tryz.ntmps172
  go_wp2_with fail
  go_quiet (fail)
  go_wp2_with fail
  go_quiet (fail)
  go_wp2_with fail
  go_ret2
  exact ⟨ret_u8 (Kw.g_in ha).symm, (unhide hr).step _ (a + 1) _ (by simp)⟩

set_option maxHeartbeats 400000 in
theorem readSign_out (b : Nat) (s : ByteArray) (a : Nat) (w : World) (h : Rd b s a w) (ha : s.size ≤ a) :
    Calls Tryz.prog 172 #[.pointer (some ⟨b, 0, none⟩)] w fun e w' => e = .returned (.tuple #[.int .u8 0, .bool false]) ∧ Rd b s a w' ∧ Below b w w' := by
  have hr := hide h
  obtain ⟨t, p, f, lt⟩ := h
  go_enter Tryz.func172, Tryz.ntmps172
  go_wp2_with fail
  go_quiet (fail)
  go_wp2_with fail
  go_ret2
  exact ⟨rfl, (unhide hr).drewN _⟩

/-- Up to which place a reader at block b has read. -/
def posOf (b : Nat) (w : World) : Nat := match w.cell? ⟨b, 1, none⟩ with | some v => (intOf v).toNat | none => 0
theorem Rd.pos {b : Nat} {s : ByteArray} {a : Nat} {w : World} (h : Rd b s a w) : posOf b w = a := by unfold posOf; rw [h.p]; simp [intOf]

/-- What reading a number comes to. -/
def NumPost (b : Nat) (s : ByteArray) (a most : Nat) (w : World) (e : Ending) (w' : World) : Prop :=
  ∃ a1, Rd b s a1 w' ∧ Below b w w' ∧
    ((∃ n : Nat, Kw.num s most a = some (n, a1) ∧ e = .returned (.tuple #[.int .i64 (n : Int), .bool true])) ∨ (Kw.num s most a = none ∧ e = .returned (.tuple #[.int .i64 0, .bool false])))

theorem num_stop {b : Nat} {s : ByteArray} {a a' n most : Nat} {w wr : World} (hr : Hid (Rd b s a' wr)) (hb : Below b w wr) (hnum : Hid (Kw.rdn s most (s.size + 1 - a') n a' = Kw.num s most a))
    (hnd : ¬ (48 ≤ Kw.g s a' ∧ Kw.g s a' ≤ 57)) (hle : a' ≤ s.size) (nq : Nat) : NumPost b s a most w (.returned (.tuple #[.int .i64 (n : Int), .bool (decide (0 < n))])) (wr.drewN nq) := by
  have h1 := hnum.out
  rw [show s.size + 1 - a' = (s.size - a') + 1 by omega, Kw.rdn_succ, if_neg hnd] at h1
  obtain ⟨r1, r2⟩ := (unhide hr).drewN nq
  refine ⟨a', r1, hb.trans r2, ?_⟩
  by_cases h0 : 0 < n
  · rw [if_pos h0] at h1
    exact .inl ⟨n, h1.symm, by simp [h0]⟩
  · rw [if_neg h0] at h1
    have : n = 0 := by omega
    exact .inr ⟨h1.symm, by simp [this]⟩

theorem num_fail {b : Nat} {s : ByteArray} {a a' n most : Nat} {w wr : World} (hr : Hid (Rd b s a' wr)) (hb : Below b w wr) (hnum : Hid (Kw.rdn s most (s.size + 1 - a') n a' = Kw.num s most a))
    (hle : a' < s.size) (hG : Hid (Kw.g s a' = s[a'].toNat)) (h48 : (48 : Int) ≤ (s[a'].toNat : Int)) (h57 : (s[a'].toNat : Int) ≤ 57) (hx : (n : Int) * 10 + ((s[a'].toNat : Int) - 48) < 1 ∨ (most : Int) < (n : Int) * 10 + ((s[a'].toNat : Int) - 48)) (nq : Nat) :
    NumPost b s a most w (.returned (.tuple #[.int .i64 0, .bool false])) ((wr.drewN nq).setCell ⟨b, 1, none⟩ (.int .i64 ((a' : Int) + 1))) := by
  have h1 := hnum.out
  have h2 := hG.out
  rw [show s.size + 1 - a' = (s.size - a') + 1 by omega, Kw.rdn_succ, h2, if_pos (by omega), if_pos (by omega)] at h1
  obtain ⟨r1, r2⟩ := (unhide hr).step nq (a' + 1) (.int .i64 ((a' : Int) + 1)) (by simp)
  exact ⟨a' + 1, r1, hb.trans r2, .inr ⟨h1.symm, rfl⟩⟩

theorem num_next {s : ByteArray} {a a' n most : Nat} (hnum : Hid (Kw.rdn s most (s.size + 1 - a') n a' = Kw.num s most a))
    (hle : a' < s.size) (hG : Hid (Kw.g s a' = s[a'].toNat)) (h48 : (48 : Int) ≤ (s[a'].toNat : Int)) (h57 : (s[a'].toNat : Int) ≤ 57) (hx : ¬ (n : Int) * 10 + ((s[a'].toNat : Int) - 48) < 1) (hy : ¬ (most : Int) < (n : Int) * 10 + ((s[a'].toNat : Int) - 48)) :
    Hid (Kw.rdn s most (s.size + 1 - (a' + 1)) (n * 10 + (s[a'].toNat - 48)) (a' + 1) = Kw.num s most a) := by
  have h1 := hnum.out
  have h2 := hG.out
  rw [show s.size + 1 - a' = (s.size - a') + 1 by omega, Kw.rdn_succ, h2, if_pos (by omega), if_neg (by omega)] at h1
  rw [show s.size + 1 - (a' + 1) = s.size - a' by omega]
  exact h1

theorem num_round {b : Nat} {s : ByteArray} {a a' m most : Nat} {x : Int} {w wr : World} {k : Nat} (hr : Hid (Rd b s a' wr)) (hb : Below b w wr) (hlt : a' < s.size) (hm : m ≤ most) (hx : x = (m : Int))
    (hN : Hid (Kw.rdn s most (s.size + 1 - (a' + 1)) m (a' + 1) = Kw.num s most a)) :
    (∃ n_1 a'_1 : Nat, Value.int IntKind.i64 x = Value.int IntKind.i64 (n_1 : Int) ∧ Rd b s a'_1 ((wr.drewN k).setCell ⟨b, 1, none⟩ (.int .i64 ((a' : Int) + 1))) ∧ Below b w ((wr.drewN k).setCell ⟨b, 1, none⟩ (.int .i64 ((a' : Int) + 1))) ∧
      n_1 ≤ most ∧ a'_1 ≤ s.size ∧ Hid (Kw.rdn s most (s.size + 1 - a'_1) n_1 a'_1 = Kw.num s most a)) ∧
    s.size + 1 - posOf b ((wr.drewN k).setCell ⟨b, 1, none⟩ (.int .i64 ((a' : Int) + 1))) < s.size + 1 - posOf b wr := by
  obtain ⟨r1, r2⟩ := (unhide hr).step k (a' + 1) (.int .i64 ((a' : Int) + 1)) (by simp)
  refine ⟨⟨m, a' + 1, by rw [hx], r1, hb.trans r2, hm, by omega, hN⟩, ?_⟩
  rw [r1.pos, (unhide hr).pos]
  omega

set_option maxHeartbeats 1000000 in
theorem readNumber_any (b : Nat) (s : ByteArray) (a : Nat) (most : Nat) (w : World) (hs : s.size ≤ 300) (h : Rd b s a w) (ha : a ≤ s.size) (hm2 : most ≤ 99) :
    Calls Tryz.prog 183 #[.pointer (some ⟨b, 0, none⟩), .int .i64 (most : Int)] w fun e w' => NumPost b s a most w e w' := by
  go_enter Tryz.func183, Tryz.ntmps183
  go_wp2_with fail
  go_loopw [6] (fun nn wr => ∃ n a' : Nat, nn = .int .i64 (n : Int) ∧ Rd b s a' wr ∧ Below b w wr ∧ n ≤ most ∧ a' ≤ s.size ∧ Hid (Kw.rdn s most (s.size + 1 - a') n a' = Kw.num s most a)) (fun nn wr => s.size + 1 - posOf b wr)
  case atStart => exact ⟨0, a, rfl, h, Below.refl _ _, Nat.zero_le _, ha, rfl⟩
  case round =>
    obtain ⟨n, a', rfl, hr0, hb, hn, hle, hnum⟩ := hrel
    clear h ha
    have hr := hide hr0
    obtain ⟨t, p, f, lt⟩ := hr0
    by_cases hlt : a' < s.size
    · have hG : Hid (Kw.g s a' = s[a'].toNat) := Kw.g_in hlt
      have hlt2 : (a' : Int) < (s.size : Int) := by omega
      by_cases h48 : (48 : Int) ≤ (s[a'].toNat : Int)
      · by_cases h57 : (s[a'].toNat : Int) ≤ 57
        · by_cases hlo : (n : Int) * 10 + ((s[a'].toNat : Int) - 48) < 1
          · go_wp2_with fail
            go_quiet (fail)
            go_wp2_with fail
            go_quiet (fail)
            go_wp2_with fail
            go_ret2
            exact num_fail hr hb hnum hlt hG h48 h57 (.inl hlo) _
          · have hlo2 : decide ((n : Int) * 10 + ((s[a'].toNat : Int) - 48) < 1) = false := by simp; omega
            by_cases hhi : (most : Int) < (n : Int) * 10 + ((s[a'].toNat : Int) - 48)
            · go_wp2_with fail
              go_quiet (fail)
              go_wp2_with fail
              go_quiet (fail)
              go_wp2_with fail
              go_ret2
              exact num_fail hr hb hnum hlt hG h48 h57 (.inr hhi) _
            · have hhi2 : decide ((most : Int) < (n : Int) * 10 + ((s[a'].toNat : Int) - 48)) = false := by simp; omega
              have hN := num_next hnum hlt hG h48 h57 hlo hhi
              have hlo3 := hide hlo
              have hhi3 := hide hhi
              clear hlo hhi
              go_wp2_with fail
              go_quiet (fail)
              go_wp2_with fail
              go_quiet (fail)
              go_wp2_with fail
              exact num_round hr hb hlt (by have := hhi3.out; omega) (by omega) hN
        · have hd : decide ((s[a'].toNat : Int) ≤ 57) = false := by simp; omega
          have h57' := hide h57
          clear h57
          go_wp2_with fail
          go_quiet (fail)
          go_wp2_with fail
          go_ret2
          exact num_stop hr hb hnum (by rw [hG.out]; have := h57'.out; omega) hle _
      · have hd : decide ((48 : Int) ≤ (s[a'].toNat : Int)) = false := by simp; omega
        have h48' := hide h48
        clear h48
        go_wp2_with fail
        go_quiet (fail)
        go_wp2_with fail
        go_ret2
        exact num_stop hr hb hnum (by rw [hG.out]; have := h48'.out; omega) hle _
    · have hd : decide ((a' : Int) < (s.size : Int)) = false := by simp; omega
      go_wp2_with fail
      go_quiet (fail)
      go_wp2_with fail
      go_ret2
      exact num_stop hr hb hnum (by rw [Kw.g_out (by omega)]; omega) hle _

theorem readNumber_yes {n a1 : Nat} (b : Nat) (s : ByteArray) (a : Nat) (m : Int) (most : Nat) (hm : m = (most : Int)) (w : World) (hs : s.size ≤ 300) (h : Rd b s a w) (ha : a ≤ s.size) (hm2 : most ≤ 99) (hn : Hid (Kw.num s most a = some (n, a1))) :
    Calls Tryz.prog 183 #[.pointer (some ⟨b, 0, none⟩), .int .i64 m] w fun e w' => e = .returned (.tuple #[.int .i64 (n : Int), .bool true]) ∧ Rd b s a1 w' ∧ Below b w w' := by
  subst hm
  refine (readNumber_any b s a most w hs h ha hm2).mono ?_
  rintro e w' ⟨a2, r1, r2, ⟨k, e1, e2⟩ | ⟨e1, e2⟩⟩
  · rw [hn.out] at e1
    simp at e1
    obtain ⟨rfl, rfl⟩ := e1
    exact ⟨e2, r1, r2⟩
  · rw [hn.out] at e1; simp at e1

theorem readNumber_no (b : Nat) (s : ByteArray) (a : Nat) (m : Int) (most : Nat) (hm : m = (most : Int)) (w : World) (hs : s.size ≤ 300) (h : Rd b s a w) (ha : a ≤ s.size) (hm2 : most ≤ 99) (hn : Hid (Kw.num s most a = none)) :
    Calls Tryz.prog 183 #[.pointer (some ⟨b, 0, none⟩), .int .i64 m] w fun e w' => e = .returned (.tuple #[.int .i64 0, .bool false]) ∧ (∃ a1, Rd b s a1 w') ∧ Below b w w' := by
  subst hm
  refine (readNumber_any b s a most w hs h ha hm2).mono ?_
  rintro e w' ⟨a2, r1, r2, ⟨k, e1, e2⟩ | ⟨e1, e2⟩⟩
  · rw [hn.out] at e1; simp at e1
  · exact ⟨e2, ⟨a2, r1⟩, r2⟩

set_option maxHeartbeats 400000 in
theorem readLetter_yes (b : Nat) (s : ByteArray) (a : Nat) (w : World) (hs : s.size ≤ 300) (h : Rd b s a w) (h1 : 65 ≤ Kw.g s a) (h2 : Kw.g s a ≤ 72) :
    Calls Tryz.prog 182 #[.pointer (some ⟨b, 0, none⟩)] w fun e w' => e = .returned (.tuple #[.int .i64 ((Kw.g s a : Int) - 65), .bool true]) ∧ Rd b s (a + 1) w' ∧ Below b w w' := by
  have ha : a < s.size := Kw.g_lt.1 (by omega)
  have hr := hide h
  clear h
  go_enter Tryz.func182, Tryz.ntmps182
  go_wp2_with fail
  refine (readSign_in b s a _ hs (unhide hr) ha).mono ?_
  rintro e w1 ⟨rfl, r1, hb1⟩
  go_wp2_with fail
  refine (isOne_yes _ _ (by omega) (by omega)).mono ?_
  rintro e w2 ⟨rfl, rfl⟩
  go_wp2_with fail
  go_ret2
  exact ⟨rfl, r1, hb1⟩

set_option maxHeartbeats 400000 in
theorem readLetter_no (b : Nat) (s : ByteArray) (a : Nat) (w : World) (hs : s.size ≤ 300) (h : Rd b s a w) (hn : Kw.g s a < 65 ∨ 72 < Kw.g s a) :
    Calls Tryz.prog 182 #[.pointer (some ⟨b, 0, none⟩)] w fun e w' => ∃ v, e = .returned (.tuple #[v, .bool false]) ∧ (∃ a1, Rd b s a1 w') ∧ Below b w w' := by
  have hr := hide h
  clear h
  by_cases ha : a < s.size
  · have hg := Kw.g_lt.2 ha
    go_enter Tryz.func182, Tryz.ntmps182
    go_wp2_with fail
    refine (readSign_in b s a _ hs (unhide hr) ha).mono ?_
    rintro e w1 ⟨rfl, r1, hb1⟩
    go_wp2_with fail
    refine (isOne_no _ _ (by omega)).mono ?_
    rintro e w2 ⟨rfl, rfl⟩
    go_wp2_with fail
    go_ret2
    exact ⟨_, rfl, ⟨_, r1⟩, hb1⟩
  · clear hn
    go_enter Tryz.func182, Tryz.ntmps182
    go_wp2_with fail
    refine (readSign_out b s a _ (unhide hr) (by omega)).mono ?_
    rintro e w1 ⟨rfl, r1, hb1⟩
    go_wp2_with fail
    go_ret2
    exact ⟨_, rfl, ⟨_, r1⟩, hb1⟩
end Go.Proofs.YtabpaaahobakpaaGreat
/-
  The recursive descent over names, over the landed program: what reading a name at a place comes to.
-/
namespace Go.Proofs.YtabpaaahobakpaaGreat
open Go.RowKit

/-- The value that tells how the secret at a place was made. -/
def secV (s : ByteArray) (a : Nat) : Value :=
  if Kw.g s a = 110 then .iface 203 (.agg #[.string (s.extract (a + 1) (a + 1 + Kw.len s (a + 1)))])
  else if Kw.g s a = 107 then .iface 202 (.agg #[.string (s.extract (a + 1) (a + 1 + Kw.len s (a + 1)))])
  else if Kw.g s a = 101 then .iface 224 (.agg #[.string (s.extract (a + 1) (a + 1 + Kw.len s (a + 1))), .string (s.extract (a + 1 + Kw.len s (a + 1)) (a + 1 + Kw.len s (a + 1) + Kw.len s (a + 1 + Kw.len s (a + 1))))])
  else if Kw.g s a = 109 then .iface 226 (.agg #[.string (s.extract (a + 2) (a + 2 + Kw.len s (a + 2))), .int .i64 ((Kw.g s (a + 1) : Int) - 65)])
  else if Kw.g s a = 114 then .iface 228 (.agg #[.string (s.extract (a + 2) (a + 2 + Kw.len s (a + 2))), .int .i64 ((Kw.g s (a + 1) - 48 : Nat) : Int)])
  else .iface 131 (.agg #[.int .i64 ((Kw.g s a : Int) - 65), .int .i64 (Kw.nv s a : Int)])

/-- What reading comes to, of a text that is a name from a place on, so many bytes, or of one that is none. -/
def Post (b : Nat) (s : ByteArray) (a k : Nat) (v : Value) (w : World) (e : Ending) (w' : World) : Prop :=
  Below b w w' ∧ ((k ≠ 0 ∧ e = .returned (.tuple #[v, .bool true]) ∧ Rd b s (a + k) w') ∨ (k = 0 ∧ (∃ u, e = .returned (.tuple #[u, .bool false])) ∧ ∃ a1, Rd b s a1 w'))

theorem Post.yes {b : Nat} {s : ByteArray} {a k : Nat} {v : Value} {w : World} {e : Ending} {w' : World} (h : Post b s a k v w e w') (hk : k ≠ 0) : e = .returned (.tuple #[v, .bool true]) ∧ Rd b s (a + k) w' ∧ Below b w w' := by
  obtain ⟨h1, ⟨_, h2, h3⟩ | ⟨h2, _⟩⟩ := h
  · exact ⟨h2, h3, h1⟩
  · exact absurd h2 hk
theorem Post.no {b : Nat} {s : ByteArray} {a k : Nat} {v : Value} {w : World} {e : Ending} {w' : World} (h : Post b s a k v w e w') (hk : k = 0) : ∃ u, e = .returned (.tuple #[u, .bool false]) ∧ (∃ a1, Rd b s a1 w') ∧ Below b w w' := by
  obtain ⟨h1, ⟨h2, _⟩ | ⟨_, ⟨u, h2⟩, h3⟩⟩ := h
  · exact absurd hk h2
  · exact ⟨u, h2, h3, h1⟩

/-- The same, where nothing is handed back of a text that is none. -/
def PostN (b : Nat) (s : ByteArray) (a k : Nat) (v : Value) (w : World) (e : Ending) (w' : World) : Prop :=
  Below b w w' ∧ ((k ≠ 0 ∧ e = .returned (.tuple #[v, .bool true]) ∧ Rd b s (a + k) w') ∨ (k = 0 ∧ e = .returned (.tuple #[.string ⟨#[]⟩, .bool false]) ∧ ∃ a1, Rd b s a1 w'))
theorem PostN.yes {b : Nat} {s : ByteArray} {a k : Nat} {v : Value} {w : World} {e : Ending} {w' : World} (h : PostN b s a k v w e w') (hk : k ≠ 0) : e = .returned (.tuple #[v, .bool true]) ∧ Rd b s (a + k) w' ∧ Below b w w' := by
  obtain ⟨h1, ⟨_, h2, h3⟩ | ⟨h2, _⟩⟩ := h
  · exact ⟨h2, h3, h1⟩
  · exact absurd h2 hk
theorem PostN.no {b : Nat} {s : ByteArray} {a k : Nat} {v : Value} {w : World} {e : Ending} {w' : World} (h : PostN b s a k v w e w') (hk : k = 0) : e = .returned (.tuple #[.string ⟨#[]⟩, .bool false]) ∧ (∃ a1, Rd b s a1 w') ∧ Below b w w' := by
  obtain ⟨h1, ⟨h2, _⟩ | ⟨_, h2, h3⟩⟩ := h
  · exact absurd hk h2
  · exact ⟨h2, h3, h1⟩

set_option maxHeartbeats 400000 in
theorem readNew_any (b : Nat) (s : ByteArray) (a : Nat) (w : World) (hs : s.size ≤ 300) (h : Rd b s a w) (ha : a ≤ s.size) :
    Calls Tryz.prog 177 #[.pointer (some ⟨b, 0, none⟩)] w (Post b s a (Kw.fresh s a) (.iface 131 (.agg #[.int .i64 ((Kw.g s a : Int) - 65), .int .i64 (Kw.nv s a : Int)])) w) := by
  have hr := hide h
  clear h
  by_cases hf : Kw.fresh s a = 0
  · by_cases hl : Kw.g s a < 65 ∨ 72 < Kw.g s a
    · have hf' := hide hf
      clear hf
      go_enter Tryz.func177, Tryz.ntmps177
      go_wp2_with fail
      refine (readLetter_no b s a _ hs (unhide hr) hl).mono ?_
      rintro e w1 ⟨v1, rfl, r1, hb1⟩
      go_wp2_with fail
      go_ret2
      exact ⟨hb1, .inr ⟨hf'.out, ⟨_, rfl⟩, r1⟩⟩
    · have hn := Kw.fresh_no hf (by omega) (by omega)
      have ha2 : a < s.size := Kw.g_lt.1 (by omega)
      have hf' := hide hf
      clear hf
      rcases hn with hn | ⟨n, a1, hn, h59, ha1⟩
      · have hN := hide hn
        clear hn
        go_enter Tryz.func177, Tryz.ntmps177
        go_wp2_with fail
        refine (readLetter_yes b s a _ hs (unhide hr) (by omega) (by omega)).mono ?_
        rintro e w1 ⟨rfl, r1, hb1⟩
        go_wp2_with fail
        refine (readNumber_no b s (a + 1) _ 99 rfl _ hs r1 (by omega) (by omega) hN).mono ?_
        rintro e w2 ⟨rfl, r2, hb2⟩
        go_wp2_with fail
        go_ret2
        exact ⟨hb1.trans hb2, .inr ⟨hf'.out, ⟨_, rfl⟩, r2⟩⟩
      · have hN := hide hn
        clear hn
        by_cases ha3 : a1 < s.size
        · have hne : ((Kw.g s a1 : Int) == 59) = false := by simp; omega
          have hg := Kw.g_lt.2 ha3
          clear h59
          go_enter Tryz.func177, Tryz.ntmps177
          go_wp2_with fail
          refine (readLetter_yes b s a _ hs (unhide hr) (by omega) (by omega)).mono ?_
          rintro e w1 ⟨rfl, r1, hb1⟩
          go_wp2_with fail
          refine (readNumber_yes b s (a + 1) _ 99 rfl _ hs r1 (by omega) (by omega) hN).mono ?_
          rintro e w2 ⟨rfl, r2, hb2⟩
          go_wp2_with fail
          refine (readSign_in b s a1 _ hs r2 ha3).mono ?_
          rintro e w3 ⟨rfl, r3, hb3⟩
          go_wp2_with fail
          go_ret2
          exact ⟨(hb1.trans hb2).trans hb3, .inr ⟨hf'.out, ⟨_, rfl⟩, ⟨_, r3⟩⟩⟩
        · clear h59
          go_enter Tryz.func177, Tryz.ntmps177
          go_wp2_with fail
          refine (readLetter_yes b s a _ hs (unhide hr) (by omega) (by omega)).mono ?_
          rintro e w1 ⟨rfl, r1, hb1⟩
          go_wp2_with fail
          refine (readNumber_yes b s (a + 1) _ 99 rfl _ hs r1 (by omega) (by omega) hN).mono ?_
          rintro e w2 ⟨rfl, r2, hb2⟩
          go_wp2_with fail
          refine (readSign_out b s a1 _ r2 (by omega)).mono ?_
          rintro e w3 ⟨rfl, r3, hb3⟩
          go_wp2_with fail
          go_ret2
          exact ⟨(hb1.trans hb2).trans hb3, .inr ⟨hf'.out, ⟨_, rfl⟩, ⟨_, r3⟩⟩⟩
  · obtain ⟨p1, p2, p3, p4, p5⟩ := Kw.fresh_yes hf
    have ple := Kw.fresh_le hf
    have hN := hide p3
    have hf' := hide hf
    have ha3 : a + Kw.fresh s a - 1 < s.size := by omega
    have heq : Kw.g s (a + Kw.fresh s a - 1) = 59 := p4
    have hpos : a + Kw.fresh s a - 1 + 1 = a + Kw.fresh s a := by omega
    have hpos' := hide hpos
    generalize hq : a + Kw.fresh s a - 1 = q at *
    clear p3 hf p4 hpos
    have hq' := hide hq
    clear hq
    go_enter Tryz.func177, Tryz.ntmps177
    go_wp2_with fail
    refine (readLetter_yes b s a _ hs (unhide hr) p1 p2).mono ?_
    rintro e w1 ⟨rfl, r1, hb1⟩
    go_wp2_with fail
    refine (readNumber_yes b s (a + 1) _ 99 rfl _ hs r1 (by omega) (by omega) hN).mono ?_
    rintro e w2 ⟨rfl, r2, hb2⟩
    go_wp2_with fail
    refine (readSign_in b s q _ hs r2 ha3).mono ?_
    rintro e w3 ⟨rfl, r3, hb3⟩
    go_wp2_with fail
    go_ret2
    exact ⟨(hb1.trans hb2).trans hb3, .inl ⟨hf'.out, rfl, by rw [hpos'.out] at r3; exact r3⟩⟩

/-- Reading how the secret at place a was made is done as it must be. -/
def HowAt (b : Nat) (s : ByteArray) (a : Nat) : Prop := ∀ w, Rd b s a w → Calls Tryz.prog 141 #[.pointer (some ⟨b, 0, none⟩)] w (Post b s a (Kw.len s a) (secV s a) w)
/-- Reading the name at place a is done as it must be. -/
def NameAt (b : Nat) (s : ByteArray) (a : Nat) : Prop := ∀ w, Rd b s a w → Calls Tryz.prog 173 #[.pointer (some ⟨b, 0, none⟩)] w (PostN b s a (Kw.len s a) (.string (s.extract a (a + Kw.len s a))) w)

set_option maxHeartbeats 400000 in
theorem readName_of (b : Nat) (s : ByteArray) (a : Nat) (H : HowAt b s a) : NameAt b s a := by
  intro w h
  have hr := hide h
  have hh := hide h
  obtain ⟨t, p, f, lt⟩ := h
  by_cases hl : Kw.len s a = 0
  · have hl' := hide hl
    clear hl
    go_enter Tryz.func173, Tryz.ntmps173
    go_wp2_with fail
    refine (H _ (unhide hr)).mono ?_
    rintro e w1 h1
    obtain ⟨u, rfl, r1, hb1⟩ := h1.no hl'.out
    clear h1
    go_wp2_with fail
    go_ret2
    exact ⟨hb1, .inr ⟨hl'.out, rfl, r1⟩⟩
  · have hle := Kw.len_le hl
    have hl' := hide hl
    clear hl
    go_enter Tryz.func173, Tryz.ntmps173
    go_wp2_with fail
    refine (H _ (unhide hr)).mono ?_
    rintro e w1 h1
    obtain ⟨rfl, r1, hb1⟩ := h1.yes hl'.out
    clear h1
    have hr1 := hide r1
    clear t p f lt
    obtain ⟨t, p, f, lt⟩ := r1
    generalize Kw.len s a = k at *
    have i0 : a ≤ a + k := by omega
    generalize hk : a + k = m at *
    have hk' := hide hk
    clear hk
    have i1 : (a : Int) ≤ (m : Int) := by omega
    have i2 : (m : Int) ≤ (s.size : Int) := by omega
    go_wp2_with fail
    go_quiet (fail)
    go_wp2_with fail
    go_ret2
    obtain ⟨r2, hb2⟩ := (unhide hr1).drewN nq
    exact ⟨hb1.trans hb2, .inl ⟨hl'.out, rfl, by rw [hk'.out]; exact r2⟩⟩

set_option maxHeartbeats 400000 in
theorem readEpoch_of (b : Nat) (s : ByteArray) (a : Nat) (H : NameAt b s a) (H2 : Kw.len s a ≠ 0 → NameAt b s (a + Kw.len s a)) (w : World) (h : Rd b s a w) :
    Calls Tryz.prog 174 #[.pointer (some ⟨b, 0, none⟩)] w (Post b s a (Kw.epLen s a)
      (.iface 224 (.agg #[.string (s.extract a (a + Kw.len s a)), .string (s.extract (a + Kw.len s a) (a + Kw.len s a + Kw.len s (a + Kw.len s a)))])) w) := by
  have hr := hide h
  clear h
  by_cases hl : Kw.len s a = 0
  · have hl' := hide hl
    clear hl
    go_enter Tryz.func174, Tryz.ntmps174
    go_wp2_with fail
    refine (H _ (unhide hr)).mono ?_
    rintro e w1 h1
    obtain ⟨rfl, r1, hb1⟩ := h1.no hl'.out
    clear h1
    go_wp2_with fail
    go_ret2
    exact ⟨hb1, .inr ⟨by unfold Kw.epLen; rw [if_pos hl'.out], ⟨_, rfl⟩, r1⟩⟩
  · have H3 := H2 hl
    clear H2
    have hl' := hide hl
    clear hl
    generalize hm : a + Kw.len s a = m at *
    have hm' := hide hm
    clear hm
    by_cases hk : Kw.len s m = 0
    · have hk' := hide hk
      clear hk
      go_enter Tryz.func174, Tryz.ntmps174
      go_wp2_with fail
      refine (H _ (unhide hr)).mono ?_
      rintro e w1 h1
      obtain ⟨rfl, r1, hb1⟩ := h1.yes hl'.out
      rw [hm'.out] at r1
      clear h1
      go_wp2_with fail
      refine (H3 _ r1).mono ?_
      rintro e w2 h2
      obtain ⟨rfl, r2, hb2⟩ := h2.no hk'.out
      clear h2
      go_wp2_with fail
      go_ret2
      exact ⟨hb1.trans hb2, .inr ⟨by unfold Kw.epLen; rw [if_neg hl'.out, hm'.out, Kw.more_zero hk'.out], ⟨_, rfl⟩, r2⟩⟩
    · have hk' := hide hk
      clear hk
      go_enter Tryz.func174, Tryz.ntmps174
      go_wp2_with fail
      refine (H _ (unhide hr)).mono ?_
      rintro e w1 h1
      obtain ⟨rfl, r1, hb1⟩ := h1.yes hl'.out
      rw [hm'.out] at r1 ⊢
      clear h1
      go_wp2_with fail
      refine (H3 _ r1).mono ?_
      rintro e w2 h2
      obtain ⟨rfl, r2, hb2⟩ := h2.yes hk'.out
      clear h2
      go_wp2_with fail
      go_ret2
      have e2 : Kw.epLen s a = Kw.len s a + Kw.len s m := by unfold Kw.epLen; rw [if_neg hl'.out, hm'.out, Kw.more_pos hk'.out]
      refine ⟨hb1.trans hb2, .inl ⟨by rw [e2]; have := hk'.out; omega, rfl, ?_⟩⟩
      rw [e2, ← Nat.add_assoc, hm'.out]
      exact r2

set_option maxHeartbeats 400000 in
theorem readSay_of (b : Nat) (s : ByteArray) (a : Nat) (hs : s.size ≤ 300) (H : a < s.size → NameAt b s (a + 1)) (w : World) (h : Rd b s a w) :
    Calls Tryz.prog 175 #[.pointer (some ⟨b, 0, none⟩)] w (Post b s a (Kw.sayLen s a)
      (.iface 226 (.agg #[.string (s.extract (a + 1) (a + 1 + Kw.len s (a + 1))), .int .i64 ((Kw.g s a : Int) - 65)])) w) := by
  have hr := hide h
  clear h
  by_cases hl : Kw.g s a < 65 ∨ 72 < Kw.g s a
  · clear H
    go_enter Tryz.func175, Tryz.ntmps175
    go_wp2_with fail
    refine (readLetter_no b s a _ hs (unhide hr) hl).mono ?_
    rintro e w1 ⟨v1, rfl, r1, hb1⟩
    go_wp2_with fail
    go_ret2
    exact ⟨hb1, .inr ⟨by unfold Kw.sayLen; rw [if_neg (by omega)], ⟨_, rfl⟩, r1⟩⟩
  · have h1 : 65 ≤ Kw.g s a := by omega
    have h2 : Kw.g s a ≤ 72 := by omega
    have H1 := H (Kw.g_lt.1 (by omega))
    clear H hl
    by_cases hk : Kw.len s (a + 1) = 0
    · have hk' := hide hk
      clear hk
      go_enter Tryz.func175, Tryz.ntmps175
      go_wp2_with fail
      refine (readLetter_yes b s a _ hs (unhide hr) h1 h2).mono ?_
      rintro e w1 ⟨rfl, r1, hb1⟩
      go_wp2_with fail
      refine (H1 _ r1).mono ?_
      rintro e w2 h3
      obtain ⟨rfl, r2, hb2⟩ := h3.no hk'.out
      clear h3
      go_wp2_with fail
      go_ret2
      exact ⟨hb1.trans hb2, .inr ⟨by unfold Kw.sayLen; rw [if_pos ⟨h1, h2⟩, Kw.more_zero hk'.out], ⟨_, rfl⟩, r2⟩⟩
    · have hk' := hide hk
      clear hk
      go_enter Tryz.func175, Tryz.ntmps175
      go_wp2_with fail
      refine (readLetter_yes b s a _ hs (unhide hr) h1 h2).mono ?_
      rintro e w1 ⟨rfl, r1, hb1⟩
      go_wp2_with fail
      refine (H1 _ r1).mono ?_
      rintro e w2 h3
      obtain ⟨rfl, r2, hb2⟩ := h3.yes hk'.out
      clear h3
      go_wp2_with fail
      go_ret2
      have e2 : Kw.sayLen s a = 1 + Kw.len s (a + 1) := by unfold Kw.sayLen; rw [if_pos ⟨h1, h2⟩, Kw.more_pos hk'.out]
      refine ⟨hb1.trans hb2, .inl ⟨by rw [e2]; omega, rfl, ?_⟩⟩
      rw [e2, ← Nat.add_assoc]
      exact r2

set_option maxHeartbeats 400000 in
theorem readRoom_of (b : Nat) (s : ByteArray) (a : Nat) (hs : s.size ≤ 300) (ha : a ≤ s.size) (H : a < s.size → NameAt b s (a + 1)) (w : World) (h : Rd b s a w) :
    Calls Tryz.prog 176 #[.pointer (some ⟨b, 0, none⟩)] w (Post b s a (Kw.roomLen s a)
      (.iface 228 (.agg #[.string (s.extract (a + 1) (a + 1 + Kw.len s (a + 1))), .int .i64 ((Kw.g s a - 48 : Nat) : Int)])) w) := by
  have hr := hide h
  clear h
  have key : (Kw.num s 9 a = none ∧ Kw.roomLen s a = 0) ∨ (Kw.num s 9 a = some (Kw.g s a - 48, a + 1) ∧ 49 ≤ Kw.g s a ∧ Kw.g s a ≤ 57) := by
    by_cases hg : 49 ≤ Kw.g s a ∧ Kw.g s a ≤ 57
    · by_cases hk : Kw.len s (a + 1) = 0
      · rcases Kw.room_no hg with h | h
        · exact .inl ⟨h, by unfold Kw.roomLen; rw [if_pos hg, Kw.more_zero hk]⟩
        · exact .inr ⟨h, hg⟩
      · exact .inr ⟨Kw.room_yes hg hk, hg⟩
    · exact .inl ⟨Kw.num_zero (by omega), by unfold Kw.roomLen; rw [if_neg hg]⟩
  rcases key with ⟨hn, he⟩ | ⟨hn, h1, h2⟩
  · have hN := hide hn
    have hE := hide he
    clear hn he H
    go_enter Tryz.func176, Tryz.ntmps176
    go_wp2_with fail
    refine (readNumber_no b s a _ 9 rfl _ hs (unhide hr) ha (by omega) hN).mono ?_
    rintro e w1 ⟨rfl, r1, hb1⟩
    go_wp2_with fail
    go_ret2
    exact ⟨hb1, .inr ⟨hE.out, ⟨_, rfl⟩, r1⟩⟩
  · have hN := hide hn
    clear hn
    have H1 := H (Kw.g_lt.1 (by omega))
    clear H
    by_cases hk : Kw.len s (a + 1) = 0
    · have hk' := hide hk
      clear hk
      go_enter Tryz.func176, Tryz.ntmps176
      go_wp2_with fail
      refine (readNumber_yes b s a _ 9 rfl _ hs (unhide hr) ha (by omega) hN).mono ?_
      rintro e w1 ⟨rfl, r1, hb1⟩
      go_wp2_with fail
      refine (H1 _ r1).mono ?_
      rintro e w2 h3
      obtain ⟨rfl, r2, hb2⟩ := h3.no hk'.out
      clear h3
      go_wp2_with fail
      go_ret2
      exact ⟨hb1.trans hb2, .inr ⟨by unfold Kw.roomLen; rw [if_pos ⟨h1, h2⟩, Kw.more_zero hk'.out], ⟨_, rfl⟩, r2⟩⟩
    · have hk' := hide hk
      clear hk
      go_enter Tryz.func176, Tryz.ntmps176
      go_wp2_with fail
      refine (readNumber_yes b s a _ 9 rfl _ hs (unhide hr) ha (by omega) hN).mono ?_
      rintro e w1 ⟨rfl, r1, hb1⟩
      go_wp2_with fail
      refine (H1 _ r1).mono ?_
      rintro e w2 h3
      obtain ⟨rfl, r2, hb2⟩ := h3.yes hk'.out
      clear h3
      go_wp2_with fail
      go_ret2
      have e2 : Kw.roomLen s a = 1 + Kw.len s (a + 1) := by unfold Kw.roomLen; rw [if_pos ⟨h1, h2⟩, Kw.more_pos hk'.out]
      refine ⟨hb1.trans hb2, .inl ⟨by rw [e2]; omega, rfl, ?_⟩⟩
      rw [e2, ← Nat.add_assoc]
      exact r2
end Go.Proofs.YtabpaaahobakpaaGreat
/-
  The program's SecOk and readSecret: at every text they answer as the plain function on names does.
-/
namespace Go.Proofs.YtabpaaahobakpaaGreat
open Go.RowKit

theorem Rd.back {b : Nat} {s : ByteArray} {a : Nat} {w : World} (h : Rd b s (a + 1) w) (v : Value) (hv : v = .int .i64 (a : Int)) :
    Rd b s a (w.setCell ⟨b, 1, none⟩ v) ∧ Below b w (w.setCell ⟨b, 1, none⟩ v) := by
  obtain ⟨t, p, f, lt⟩ := h
  subst hv
  refine ⟨⟨by simp [go_sem, t], by simp [go_sem, p], by simp [go_sem, f], by simpa [World.setCell] using lt⟩, ?_⟩
  exact (Below.refl b w).setCell (p := ⟨b, 1, none⟩) (Nat.le_refl _) _

theorem Post.form {b : Nat} {s : ByteArray} {a k : Nat} {v : Value} {w : World} {e : Ending} {w' : World} (h : Post b s a k v w e w') :
    ∃ u c, e = .returned (.tuple #[u, .bool c]) ∧ Post b s a k v w (.returned (.tuple #[u, .bool c])) w' := by
  have h0 := h
  obtain ⟨h1, ⟨h2, h3, h4⟩ | ⟨h2, ⟨u, h3⟩, h4⟩⟩ := h
  · exact ⟨_, _, h3, by rw [← h3]; exact h0⟩
  · exact ⟨_, _, h3, by rw [← h3]; exact h0⟩

theorem PostN.form {b : Nat} {s : ByteArray} {a k : Nat} {x : ByteArray} {w : World} {e : Ending} {w' : World} (h : PostN b s a k (.string x) w e w') :
    ∃ u c, e = .returned (.tuple #[.string u, .bool c]) ∧ PostN b s a k (.string x) w (.returned (.tuple #[.string u, .bool c])) w' := by
  have h0 := h
  obtain ⟨h1, ⟨h2, h3, h4⟩ | ⟨h2, h3, h4⟩⟩ := h
  · exact ⟨_, _, h3, by rw [← h3]; exact h0⟩
  · exact ⟨_, _, h3, by rw [← h3]; exact h0⟩

theorem Post.lift {b : Nat} {s : ByteArray} {a k : Nat} {v : Value} {w w1 : World} {e : Ending} {w' : World} (h : Post b s (a + 1) k v w1 e w') (hb : Below b w w1) (hl : Kw.len s a = Kw.more 1 k) (hv : secV s a = v) :
    Post b s a (Kw.len s a) (secV s a) w e w' := by
  rw [hv]
  obtain ⟨h1, ⟨h2, h3, h4⟩ | ⟨h2, h3, h4⟩⟩ := h
  · rw [hl, Kw.more_pos h2]
    exact ⟨hb.trans h1, .inl ⟨by omega, h3, by rw [← Nat.add_assoc]; exact h4⟩⟩
  · rw [hl, Kw.more_zero h2]
    exact ⟨hb.trans h1, .inr ⟨rfl, h3, h4⟩⟩

theorem PostN.lift {b : Nat} {s : ByteArray} {a k t : Nat} {x u : ByteArray} {c : Bool} {w w1 : World} {w' : World} (h : PostN b s (a + 1) k (.string x) w1 (.returned (.tuple #[.string u, .bool c])) w') (hb : Below b w w1) (hl : Kw.len s a = Kw.more 1 k)
    (hv : secV s a = .iface t (.agg #[.string x])) : Post b s a (Kw.len s a) (secV s a) w (.returned (.tuple #[.iface t (.agg #[.string u]), .bool c])) w' := by
  rw [hv]
  obtain ⟨h1, ⟨h2, h3, h4⟩ | ⟨h2, h3, h4⟩⟩ := h
  · simp at h3
    obtain ⟨rfl, rfl⟩ := h3
    rw [hl, Kw.more_pos h2]
    exact ⟨hb.trans h1, .inl ⟨by omega, rfl, by rw [← Nat.add_assoc]; exact h4⟩⟩
  · simp at h3
    obtain ⟨rfl, rfl⟩ := h3
    rw [hl, Kw.more_zero h2]
    exact ⟨hb.trans h1, .inr ⟨rfl, ⟨_, rfl⟩, h4⟩⟩

theorem Post.lift0 {b : Nat} {s : ByteArray} {a : Nat} {v : Value} {w w1 : World} {e : Ending} {w' : World} (h : Post b s a (Kw.fresh s a) v w1 e w') (hb : Below b w w1) (hl : Kw.len s a = Kw.fresh s a) (hv : secV s a = v) :
    Post b s a (Kw.len s a) (secV s a) w e w' := by
  rw [hv, hl]
  exact ⟨hb.trans h.1, h.2⟩

set_option maxHeartbeats 1000000 in
theorem readHow_step (b : Nat) (s : ByteArray) (hs : s.size ≤ 300) (a : Nat) (ha : a < s.size) (ih : ∀ m, a < m → m ≤ s.size → HowAt b s m) : HowAt b s a := by
  intro w h
  have hr := hide h
  clear h
  have hN1 : NameAt b s (a + 1) := readName_of b s (a + 1) (ih _ (by omega) (by omega))
  have hg := Kw.g_lt.2 ha
  by_cases c1 : Kw.g s a = 110
  · have e1 : ((Kw.g s a : Int) == 110) = true := by simp; omega
    have C1 := hide c1
    clear c1
    go_enter Tryz.func141, Tryz.ntmps141
    go_wp2_with fail
    refine (readSign_in b s a _ hs (unhide hr) ha).mono ?_
    rintro e w1 ⟨rfl, r1, hb1⟩
    go_wp2_with fail
    refine (hN1 _ r1).mono ?_
    rintro e w2 h2
    obtain ⟨u, c, rfl, hp⟩ := h2.form
    clear h2
    go_wp2_with fail
    go_ret2
    exact hp.lift hb1 (Kw.len_nk (.inl C1.out)) (by unfold secV; rw [if_pos C1.out])
  have e1 : ((Kw.g s a : Int) == 110) = false := by simp; omega
  by_cases c2 : Kw.g s a = 107
  · have e2 : ((Kw.g s a : Int) == 107) = true := by simp; omega
    have C2 := hide c2
    have C1 := hide c1
    clear c2 c1
    go_enter Tryz.func141, Tryz.ntmps141
    go_wp2_with fail
    refine (readSign_in b s a _ hs (unhide hr) ha).mono ?_
    rintro e w1 ⟨rfl, r1, hb1⟩
    go_wp2_with fail
    refine (hN1 _ r1).mono ?_
    rintro e w2 h2
    obtain ⟨u, c, rfl, hp⟩ := h2.form
    clear h2
    go_wp2_with fail
    go_ret2
    exact hp.lift hb1 (Kw.len_nk (.inr C2.out)) (by unfold secV; rw [if_neg C1.out, if_pos C2.out])
  have e2 : ((Kw.g s a : Int) == 107) = false := by simp; omega
  by_cases c3 : Kw.g s a = 101
  · have e3 : ((Kw.g s a : Int) == 101) = true := by simp; omega
    have C3 := hide c3
    have C2 := hide c2
    have C1 := hide c1
    have hN2 : Kw.len s (a + 1) ≠ 0 → NameAt b s (a + 1 + Kw.len s (a + 1)) := fun hl => readName_of b s _ (ih _ (by omega) (Kw.len_le hl))
    have HN2 := hide hN2
    clear c3 c2 c1 hN2
    go_enter Tryz.func141, Tryz.ntmps141
    go_wp2_with fail
    refine (readSign_in b s a _ hs (unhide hr) ha).mono ?_
    rintro e w1 ⟨rfl, r1, hb1⟩
    go_wp2_with fail
    refine (readEpoch_of b s (a + 1) hN1 (unhide HN2) _ r1).mono ?_
    rintro e w2 h2
    obtain ⟨u, c, rfl, hp⟩ := h2.form
    clear h2
    go_wp2_with fail
    go_ret2
    exact hp.lift hb1 (Kw.len_e C3.out) (by unfold secV; rw [if_neg C1.out, if_neg C2.out, if_pos C3.out])
  have e3 : ((Kw.g s a : Int) == 101) = false := by simp; omega
  have hN2 : a + 1 < s.size → NameAt b s (a + 1 + 1) := fun hl => readName_of b s _ (ih _ (by omega) (by omega))
  have HN2 := hide hN2
  clear hN2
  by_cases c4 : Kw.g s a = 109
  · have e4 : ((Kw.g s a : Int) == 109) = true := by simp; omega
    have C4 := hide c4
    have C3 := hide c3
    have C2 := hide c2
    have C1 := hide c1
    clear c4 c3 c2 c1
    go_enter Tryz.func141, Tryz.ntmps141
    go_wp2_with fail
    refine (readSign_in b s a _ hs (unhide hr) ha).mono ?_
    rintro e w1 ⟨rfl, r1, hb1⟩
    go_wp2_with fail
    refine (readSay_of b s (a + 1) hs (unhide HN2) _ r1).mono ?_
    rintro e w2 h2
    obtain ⟨u, c, rfl, hp⟩ := h2.form
    clear h2
    go_wp2_with fail
    go_ret2
    exact hp.lift hb1 (Kw.len_m C4.out) (by unfold secV; rw [if_neg C1.out, if_neg C2.out, if_neg C3.out, if_pos C4.out])
  have e4 : ((Kw.g s a : Int) == 109) = false := by simp; omega
  by_cases c5 : Kw.g s a = 114
  · have e5 : ((Kw.g s a : Int) == 114) = true := by simp; omega
    have C5 := hide c5
    have C4 := hide c4
    have C3 := hide c3
    have C2 := hide c2
    have C1 := hide c1
    clear c5 c4 c3 c2 c1
    go_enter Tryz.func141, Tryz.ntmps141
    go_wp2_with fail
    refine (readSign_in b s a _ hs (unhide hr) ha).mono ?_
    rintro e w1 ⟨rfl, r1, hb1⟩
    go_wp2_with fail
    refine (readRoom_of b s (a + 1) hs (by omega) (unhide HN2) _ r1).mono ?_
    rintro e w2 h2
    obtain ⟨u, c, rfl, hp⟩ := h2.form
    clear h2
    go_wp2_with fail
    go_ret2
    exact hp.lift hb1 (Kw.len_r C5.out) (by unfold secV; rw [if_neg C1.out, if_neg C2.out, if_neg C3.out, if_neg C4.out, if_pos C5.out])
  have e5 : ((Kw.g s a : Int) == 114) = false := by simp; omega
  have C5 := hide c5
  have C4 := hide c4
  have C3 := hide c3
  have C2 := hide c2
  have C1 := hide c1
  clear c5 c4 c3 c2 c1 HN2 hN1
  go_enter Tryz.func141, Tryz.ntmps141
  go_wp2_with fail
  refine (readSign_in b s a _ hs (unhide hr) ha).mono ?_
  rintro e w1 ⟨rfl, r1, hb1⟩
  have R1 := hide r1
  obtain ⟨t, p, f, lt⟩ := r1
  go_wp2_with fail
  obtain ⟨r2, hb2⟩ := (unhide R1).back (.int .i64 (a : Int)) rfl
  refine (readNew_any b s a _ hs r2 (by omega)).mono ?_
  rintro e w2 h2
  obtain ⟨u, c, rfl, hp⟩ := h2.form
  clear h2
  go_wp2_with fail
  go_ret2
  exact hp.lift0 (hb1.trans hb2) (Kw.len_else C1.out C2.out C4.out C5.out C3.out) (by unfold secV; rw [if_neg C1.out, if_neg C2.out, if_neg C3.out, if_neg C4.out, if_neg C5.out])

set_option maxHeartbeats 400000 in
theorem readHow_out (b : Nat) (s : ByteArray) (a : Nat) (ha : s.size ≤ a) : HowAt b s a := by
  intro w h
  have hr := hide h
  clear h
  go_enter Tryz.func141, Tryz.ntmps141
  go_wp2_with fail
  refine (readSign_out b s a _ (unhide hr) ha).mono ?_
  rintro e w1 ⟨rfl, r1, hb1⟩
  go_wp2_with fail
  go_ret2
  exact ⟨hb1, .inr ⟨Kw.len_out ha, ⟨_, rfl⟩, ⟨_, r1⟩⟩⟩

theorem readHow_all (b : Nat) (s : ByteArray) (hs : s.size ≤ 300) : ∀ f a, s.size - a ≤ f → HowAt b s a := by
  intro f
  induction f with
  | zero => intro a h; exact readHow_out b s a (by omega)
  | succ f ih =>
    intro a h
    by_cases ha : a < s.size
    · exact readHow_step b s hs a ha (fun m h1 h2 => ih m (by omega))
    · exact readHow_out b s a (by omega)

/-- What reading a whole text comes to. -/
def ReadPost (s : ByteArray) (w : World) (e : Ending) (w' : World) : Prop :=
  Below w.heap.size w w' ∧ ((Kw.ok s = true ∧ e = .returned (.tuple #[secV s 0, .bool true])) ∨ (Kw.ok s = false ∧ e = .returned (.tuple #[.nilIface, .bool false])))

theorem Rd.start (s : ByteArray) (w : World) : Rd w.heap.size s 0 (w.alloc (.cells #[.string s, .int .i64 0] 175)) :=
  ⟨by simp [go_sem], by simp [go_sem], by simp [go_sem], by simp⟩

set_option maxHeartbeats 400000 in
theorem readSecret_any (s : ByteArray) (w : World) (hm : s.size ≤ maxLen) :
    Calls Tryz.prog 96 #[.string s] w (ReadPost s w) := by
  unfold maxLen at hm
  by_cases hs : s.size ≤ 300
  · have H := readHow_all w.heap.size s hs s.size 0 (by omega)
    have hb0 : Below w.heap.size w (w.alloc (.cells #[.string s, .int .i64 0] 175)) := (Below.refl _ _).alloc (Nat.le_refl _) _
    by_cases hl : Kw.len s 0 = 0
    · have L := hide hl
      clear hl
      go_enter Tryz.func96, Tryz.ntmps96
      go_wp2_with fail
      refine (H _ (Rd.start s w)).mono ?_
      rintro e w1 h1
      obtain ⟨u, rfl, r1, hb1⟩ := h1.no L.out
      clear h1
      go_wp2_with fail
      go_ret2
      exact ⟨hb0.trans hb1, .inr ⟨ok_none L.out, rfl⟩⟩
    · have hle := Kw.len_le hl
      have L := hide hl
      clear hl
      by_cases hq : Kw.len s 0 = s.size
      · have Q := hide hq
        clear hq
        go_enter Tryz.func96, Tryz.ntmps96
        go_wp2_with fail
        refine (H _ (Rd.start s w)).mono ?_
        rintro e w1 h1
        obtain ⟨rfl, r1, hb1⟩ := h1.yes L.out
        clear h1
        rw [Nat.zero_add, Q.out] at r1
        obtain ⟨t, p, f, lt⟩ := r1
        go_wp2_with fail
        go_ret2
        exact ⟨hb0.trans hb1, .inl ⟨ok_yes hs L.out Q.out, rfl⟩⟩
      · have Q := hide hq
        have hne : ((Kw.len s 0 : Int) != (s.size : Int)) = true := by simp; omega
        clear hq
        go_enter Tryz.func96, Tryz.ntmps96
        go_wp2_with fail
        refine (H _ (Rd.start s w)).mono ?_
        rintro e w1 h1
        obtain ⟨rfl, r1, hb1⟩ := h1.yes L.out
        clear h1
        rw [Nat.zero_add] at r1
        obtain ⟨t, p, f, lt⟩ := r1
        go_wp2_with fail
        go_ret2
        exact ⟨hb0.trans hb1, .inr ⟨ok_part Q.out, rfl⟩⟩
  · have hs2 : 300 < s.size := by omega
    go_enter Tryz.func96, Tryz.ntmps96
    go_wp2_with fail
    go_ret2
    exact ⟨Below.refl _ _, .inr ⟨ok_long hs2, rfl⟩⟩

theorem ReadPost.form {s : ByteArray} {w : World} {e : Ending} {w' : World} (h : ReadPost s w e w') : ∃ u, e = .returned (.tuple #[u, .bool (Kw.ok s)]) ∧ Below w.heap.size w w' := by
  obtain ⟨h1, ⟨h2, h3⟩ | ⟨h2, h3⟩⟩ := h
  · exact ⟨_, by rw [h2]; exact h3, h1⟩
  · exact ⟨_, by rw [h2]; exact h3, h1⟩

set_option maxHeartbeats 400000 in
theorem iSecOk_any (s : ByteArray) (w : World) (hm : s.size ≤ maxLen) :
    Calls Tryz.prog 32 #[.string s] w fun e w' => e = .returned (.bool (Kw.ok s)) ∧ Below w.heap.size w w' := by
  have M := hide hm
  clear hm
  go_enter Tryz.func32, Tryz.ntmps32
  go_wp2_with fail
  refine (readSecret_any s _ M.out).mono ?_
  rintro e w1 h1
  obtain ⟨u, rfl, hb1⟩ := h1.form
  clear h1
  go_wp2_with fail
  go_ret
  exact ⟨rfl, hb1⟩
end Go.Proofs.YtabpaaahobakpaaGreat
/-
  The library's Clone of a text hands back the same bytes: the library's own contract, laid at this program.
-/
namespace Go.Proofs.YtabpaaahobakpaaGreat
open Go.Shelf Go.RowKit

def clone_ren : Go.Shelf.Ren := ⟨fun | 316 => 136 | n => n, fun | 9 => 9 | 3 => 3 | 4 => 4 | 37 => 22 | 0 => 0 | 127 => 204 | 5 => 5 | n => n, fun | n => n⟩
theorem clone_lays : Go.Proofs.LaysM.n316 Tryz.prog clone_ren := {
  mixed := by kernel_rfl
  f316 := Tryz.func136.trans (congrArg some (by kernel_rfl))
  t0 := Tryz.underlying0
  a0 := Tryz.isAgg0
  z0 := Tryz.sizeOf0
  v0 := Tryz.zeroValue0
  t3 := Tryz.underlying3
  a3 := Tryz.isAgg3
  z3 := Tryz.sizeOf3
  v3 := Tryz.zeroValue3
  t4 := Tryz.underlying4
  a4 := Tryz.isAgg4
  z4 := Tryz.sizeOf4
  v4 := Tryz.zeroValue4
  t9 := Tryz.underlying9
  a9 := Tryz.isAgg9
  z9 := Tryz.sizeOf9
  v9 := Tryz.zeroValue9
  t37 := Tryz.underlying22
  a37 := Tryz.isAgg22
  z37 := Tryz.sizeOf22
  v37 := Tryz.zeroValue22
  t127 := Tryz.underlying204
  a127 := Tryz.isAgg204
  z127 := Tryz.sizeOf204
  v127 := Tryz.zeroValue204
  t5 := Tryz.underlying5
  a5 := Tryz.isAgg5
  z5 := Tryz.sizeOf5
  v5 := Tryz.zeroValue5
  i0 := by kernel_rfl
  i3 := by kernel_rfl
  i4 := by kernel_rfl
  i5 := by kernel_rfl
  i9 := by kernel_rfl
  i37 := by kernel_rfl
  i127 := by kernel_rfl }

theorem slClone_any (s : ByteArray) (w : World) (h : s.size ≤ 1000000) :
    Calls Tryz.prog 136 #[.string s] w fun e w' => e = .returned (.string s) ∧ Below w.heap.size w w' := Any.stringslite_Clone clone_lays s w (by omega)

set_option maxHeartbeats 400000 in
theorem clone_any (s : ByteArray) (w : World) (h : s.size ≤ 1000000) :
    Calls Tryz.prog 86 #[.string s] w fun e w' => e = .returned (.string s) ∧ Below w.heap.size w w' := by
  go_enter Tryz.func86, Tryz.ntmps86
  go_wp2_with (go_at_call 136; refine (slClone_any _ _ h).mono ?_; rintro e w' ⟨rfl, hb⟩)
  go_ret
  exact ⟨rfl, hb⟩
end Go.Proofs.YtabpaaahobakpaaGreat
/-
  The program's SecMade: what it answers, as a plain function of the text.
-/
namespace Go.Proofs.YtabpaaahobakpaaGreat
open Go.RowKit

/-- A struct that tells how a secret was made. -/
def howV (op who n : Int) (a b : ByteArray) : Value := .agg #[.int .i64 op, .int .i64 who, .int .i64 n, .string a, .string b]

theorem ta_new (x : Value) (w : World) : (Instr.typeAssert (.iface 131 x) 141 131 true).run Tryz.prog w = .ok (.tuple #[x, .bool true]) w := by kernel_rfl
theorem ta_next (x : Value) (w : World) : (Instr.typeAssert (.iface 203 x) 141 203 true).run Tryz.prog w = .ok (.tuple #[x, .bool true]) w := by kernel_rfl
theorem ta_key (x : Value) (w : World) : (Instr.typeAssert (.iface 202 x) 141 202 true).run Tryz.prog w = .ok (.tuple #[x, .bool true]) w := by kernel_rfl
theorem ta_epoch (x : Value) (w : World) : (Instr.typeAssert (.iface 224 x) 141 224 true).run Tryz.prog w = .ok (.tuple #[x, .bool true]) w := by kernel_rfl
theorem ta_say (x : Value) (w : World) : (Instr.typeAssert (.iface 226 x) 141 226 true).run Tryz.prog w = .ok (.tuple #[x, .bool true]) w := by kernel_rfl
theorem ta_room (x : Value) (w : World) : (Instr.typeAssert (.iface 228 x) 141 228 true).run Tryz.prog w = .ok (.tuple #[x, .bool true]) w := by kernel_rfl
theorem ta_next_new (x : Value) (w : World) : (Instr.typeAssert (.iface 203 x) 141 131 true).run Tryz.prog w = .ok (.tuple #[.agg #[.int .i64 0, .int .i64 0], .bool false]) w := by kernel_rfl
theorem ta_key_new (x : Value) (w : World) : (Instr.typeAssert (.iface 202 x) 141 131 true).run Tryz.prog w = .ok (.tuple #[.agg #[.int .i64 0, .int .i64 0], .bool false]) w := by kernel_rfl
theorem ta_key_next (x : Value) (w : World) : (Instr.typeAssert (.iface 202 x) 141 203 true).run Tryz.prog w = .ok (.tuple #[.agg #[.string ⟨#[]⟩], .bool false]) w := by kernel_rfl
theorem ta_epoch_new (x : Value) (w : World) : (Instr.typeAssert (.iface 224 x) 141 131 true).run Tryz.prog w = .ok (.tuple #[.agg #[.int .i64 0, .int .i64 0], .bool false]) w := by kernel_rfl
theorem ta_epoch_next (x : Value) (w : World) : (Instr.typeAssert (.iface 224 x) 141 203 true).run Tryz.prog w = .ok (.tuple #[.agg #[.string ⟨#[]⟩], .bool false]) w := by kernel_rfl
theorem ta_epoch_key (x : Value) (w : World) : (Instr.typeAssert (.iface 224 x) 141 202 true).run Tryz.prog w = .ok (.tuple #[.agg #[.string ⟨#[]⟩], .bool false]) w := by kernel_rfl
theorem ta_say_new (x : Value) (w : World) : (Instr.typeAssert (.iface 226 x) 141 131 true).run Tryz.prog w = .ok (.tuple #[.agg #[.int .i64 0, .int .i64 0], .bool false]) w := by kernel_rfl
theorem ta_say_next (x : Value) (w : World) : (Instr.typeAssert (.iface 226 x) 141 203 true).run Tryz.prog w = .ok (.tuple #[.agg #[.string ⟨#[]⟩], .bool false]) w := by kernel_rfl
theorem ta_say_key (x : Value) (w : World) : (Instr.typeAssert (.iface 226 x) 141 202 true).run Tryz.prog w = .ok (.tuple #[.agg #[.string ⟨#[]⟩], .bool false]) w := by kernel_rfl
theorem ta_say_epoch (x : Value) (w : World) : (Instr.typeAssert (.iface 226 x) 141 224 true).run Tryz.prog w = .ok (.tuple #[.agg #[.string ⟨#[]⟩, .string ⟨#[]⟩], .bool false]) w := by kernel_rfl
theorem ta_room_new (x : Value) (w : World) : (Instr.typeAssert (.iface 228 x) 141 131 true).run Tryz.prog w = .ok (.tuple #[.agg #[.int .i64 0, .int .i64 0], .bool false]) w := by kernel_rfl
theorem ta_room_next (x : Value) (w : World) : (Instr.typeAssert (.iface 228 x) 141 203 true).run Tryz.prog w = .ok (.tuple #[.agg #[.string ⟨#[]⟩], .bool false]) w := by kernel_rfl
theorem ta_room_key (x : Value) (w : World) : (Instr.typeAssert (.iface 228 x) 141 202 true).run Tryz.prog w = .ok (.tuple #[.agg #[.string ⟨#[]⟩], .bool false]) w := by kernel_rfl
theorem ta_room_epoch (x : Value) (w : World) : (Instr.typeAssert (.iface 228 x) 141 224 true).run Tryz.prog w = .ok (.tuple #[.agg #[.string ⟨#[]⟩, .string ⟨#[]⟩], .bool false]) w := by kernel_rfl
theorem ta_room_say (x : Value) (w : World) : (Instr.typeAssert (.iface 228 x) 141 226 true).run Tryz.prog w = .ok (.tuple #[.agg #[.string ⟨#[]⟩, .int .i64 0], .bool false]) w := by kernel_rfl

/-- A block of the call's own that holds a struct as it begins. -/
structure Res5 (b : Nat) (w : World) : Prop where
  c0 : w.cell? ⟨b, 0, none⟩ = some (.int .i64 0)
  c1 : w.cell? ⟨b, 1, none⟩ = some (.int .i64 0)
  c2 : w.cell? ⟨b, 2, none⟩ = some (.int .i64 0)
  c3 : w.cell? ⟨b, 3, none⟩ = some (.string ⟨#[]⟩)
  c4 : w.cell? ⟨b, 4, none⟩ = some (.string ⟨#[]⟩)
  z0 : w.frozen? ⟨b, 0, none⟩ = false
  z1 : w.frozen? ⟨b, 1, none⟩ = false
  z2 : w.frozen? ⟨b, 2, none⟩ = false
  z3 : w.frozen? ⟨b, 3, none⟩ = false
  z4 : w.frozen? ⟨b, 4, none⟩ = false
theorem Res5.keep {b : Nat} {W w1 : World} (h : Res5 b W) (hb : Below W.heap.size W w1) (hlt : b < W.heap.size) : Res5 b w1 :=
  ⟨(hb.cell (p := ⟨b, 0, none⟩) hlt).trans h.c0, (hb.cell (p := ⟨b, 1, none⟩) hlt).trans h.c1, (hb.cell (p := ⟨b, 2, none⟩) hlt).trans h.c2, (hb.cell (p := ⟨b, 3, none⟩) hlt).trans h.c3, (hb.cell (p := ⟨b, 4, none⟩) hlt).trans h.c4,
   (hb.frozen (p := ⟨b, 0, none⟩) hlt).trans h.z0, (hb.frozen (p := ⟨b, 1, none⟩) hlt).trans h.z1, (hb.frozen (p := ⟨b, 2, none⟩) hlt).trans h.z2, (hb.frozen (p := ⟨b, 3, none⟩) hlt).trans h.z3, (hb.frozen (p := ⟨b, 4, none⟩) hlt).trans h.z4⟩
theorem keep1 {W w1 : World} {b o : Nat} {v : Value} (hb : Below W.heap.size W w1) (h : W.cell? ⟨b, o, none⟩ = some v) (hlt : b < W.heap.size) : w1.cell? ⟨b, o, none⟩ = some v := (hb.cell (p := ⟨b, o, none⟩) hlt).trans h

theorem below5 {B : Nat} {w w1 : World} (h : Below B w w1) {b : Nat} (hb : B ≤ b) (v0 v1 v2 v3 v4 : Value) :
    Below B w (((((w1.setCell ⟨b, 0, none⟩ v0).setCell ⟨b, 1, none⟩ v1).setCell ⟨b, 2, none⟩ v2).setCell ⟨b, 3, none⟩ v3).setCell ⟨b, 4, none⟩ v4) :=
  ((((h.setCell (p := ⟨b, 0, none⟩) hb v0).setCell (p := ⟨b, 1, none⟩) hb v1).setCell (p := ⟨b, 2, none⟩) hb v2).setCell (p := ⟨b, 3, none⟩) hb v3).setCell (p := ⟨b, 4, none⟩) hb v4

set_option maxRecDepth 100000 in
set_option maxHeartbeats 400000 in
theorem howOf_new (who n : Int) (w : World) :
    Calls Tryz.prog 159 #[.iface 131 (.agg #[.int .i64 who, .int .i64 n])] w fun e w' => e = .returned (howV 1 who n ⟨#[]⟩ ⟨#[]⟩) ∧ Below w.heap.size w w' := by
  have fy := ta_new
  go_enter Tryz.func159, Tryz.ntmps159
  go_wp2_with fail
  refine bodyPost_ret (v := howV 1 who n ⟨#[]⟩ ⟨#[]⟩) (by simp [results, Tryz.results159, go_sem, howV]) rfl ⟨rfl, ?_⟩
  exact ((Below.refl _ _).alloc (Nat.le_refl _) _).alloc (by simp) _

set_option maxRecDepth 100000 in
set_option maxHeartbeats 400000 in
theorem howOf_next (x : ByteArray) (hx : x.size ≤ 300) (w : World) :
    Calls Tryz.prog 159 #[.iface 203 (.agg #[.string x])] w fun e w' => e = .returned (howV 2 0 0 x ⟨#[]⟩) ∧ Below w.heap.size w w' := by
  have f0 := ta_next_new
  have fy := ta_next
  go_enter Tryz.func159, Tryz.ntmps159
  go_wp2_with fail
  refine (clone_any x _ (by omega)).mono ?_
  rintro e w1 ⟨rfl, hb1⟩
  obtain ⟨c0, c1, c2, c3, c4, z0, z1, z2, z3, z4⟩ := Res5.keep (b := w.heap.size) (by constructor <;> simp [go_sem]) hb1 (by simp; omega)
  have hbb : Below w.heap.size w w1 := (((Below.refl w.heap.size w).alloc (Nat.le_refl _) _).alloc (by simp) _).trans (hb1.mono (by simp; omega))
  clear hb1
  go_wp2_with fail
  refine bodyPost_ret (v := howV 2 0 0 x ⟨#[]⟩) (by simp [results, Tryz.results159, go_sem, howV, c0, c1, c2, c3, c4]) rfl ⟨rfl, ?_⟩
  exact below5 hbb (Nat.le_refl _) _ _ _ _ _

set_option maxRecDepth 100000 in
set_option maxHeartbeats 400000 in
theorem howOf_key (x : ByteArray) (hx : x.size ≤ 300) (w : World) :
    Calls Tryz.prog 159 #[.iface 202 (.agg #[.string x])] w fun e w' => e = .returned (howV 3 0 0 x ⟨#[]⟩) ∧ Below w.heap.size w w' := by
  have f0 := ta_key_new
  have f1 := ta_key_next
  have fy := ta_key
  go_enter Tryz.func159, Tryz.ntmps159
  go_wp2_with fail
  refine (clone_any x _ (by omega)).mono ?_
  rintro e w1 ⟨rfl, hb1⟩
  obtain ⟨c0, c1, c2, c3, c4, z0, z1, z2, z3, z4⟩ := Res5.keep (b := w.heap.size) (by constructor <;> simp [go_sem]) hb1 (by simp; omega)
  have hbb : Below w.heap.size w w1 := (((Below.refl w.heap.size w).alloc (Nat.le_refl _) _).alloc (by simp) _).trans (hb1.mono (by simp; omega))
  clear hb1
  go_wp2_with fail
  refine bodyPost_ret (v := howV 3 0 0 x ⟨#[]⟩) (by simp [results, Tryz.results159, go_sem, howV, c0, c1, c2, c3, c4]) rfl ⟨rfl, ?_⟩
  exact below5 hbb (Nat.le_refl _) _ _ _ _ _

set_option maxRecDepth 100000 in
set_option maxHeartbeats 1000000 in
theorem howOf_say (x : ByteArray) (n : Int) (hx : x.size ≤ 300) (w : World) :
    Calls Tryz.prog 159 #[.iface 226 (.agg #[.string x, .int .i64 n])] w fun e w' => e = .returned (howV 5 n 0 x ⟨#[]⟩) ∧ Below w.heap.size w w' := by
  have f0 := ta_say_new
  have f1 := ta_say_next
  have f2 := ta_say_key
  have f3 := ta_say_epoch
  have fy := ta_say
  have hx2 : x.size ≤ 1000000 := by omega
  go_enter Tryz.func159, Tryz.ntmps159
  go_wp2_with fail
  go_region_with (go_at_call 86; refine (clone_any x _ hx2).mono ?_; rintro e w1 ⟨rfl, hb1⟩; obtain ⟨c0, c1, c2, c3, c4, z0, z1, z2, z3, z4⟩ := Res5.keep (b := w.heap.size) (by constructor <;> simp [go_sem]) hb1 (by simp; omega); have d1 := keep1 (b := w.heap.size + 1) (o := 1) (v := .int .i64 n) hb1 (by simp [go_sem]) (by simp); have hbb : Below w.heap.size w w1 := (((Below.refl w.heap.size w).alloc (Nat.le_refl _) _).alloc (by simp) _).drew.trans (hb1.mono (by simp; omega)); clear hb1)
  all_goals go_wp2_with fail
  all_goals exact bodyPost_ret (v := howV 5 n 0 x ⟨#[]⟩) (by simp [results, Tryz.results159, go_sem, howV, c0, c1, c2, c3, c4]) rfl ⟨rfl, below5 hbb (Nat.le_refl _) _ _ _ _ _⟩

set_option maxRecDepth 100000 in
set_option maxHeartbeats 1000000 in
theorem howOf_room (x : ByteArray) (n : Int) (hx : x.size ≤ 300) (w : World) :
    Calls Tryz.prog 159 #[.iface 228 (.agg #[.string x, .int .i64 n])] w fun e w' => e = .returned (howV 6 0 n x ⟨#[]⟩) ∧ Below w.heap.size w w' := by
  have f0 := ta_room_new
  have f1 := ta_room_next
  have f2 := ta_room_key
  have f3 := ta_room_epoch
  have f4 := ta_room_say
  have fy := ta_room
  have hx2 : x.size ≤ 1000000 := by omega
  go_enter Tryz.func159, Tryz.ntmps159
  go_wp2_with fail
  go_region_with (go_at_call 86; refine (clone_any x _ hx2).mono ?_; rintro e w1 ⟨rfl, hb1⟩; obtain ⟨c0, c1, c2, c3, c4, z0, z1, z2, z3, z4⟩ := Res5.keep (b := w.heap.size) (by constructor <;> simp [go_sem]) hb1 (by simp; omega); have d1 := keep1 (b := w.heap.size + 1) (o := 1) (v := .int .i64 n) hb1 (by simp [go_sem]) (by simp); have hbb : Below w.heap.size w w1 := (((Below.refl w.heap.size w).alloc (Nat.le_refl _) _).alloc (by simp) _).drew.trans (hb1.mono (by simp; omega)); clear hb1)
  all_goals go_wp2_with fail
  all_goals exact bodyPost_ret (v := howV 6 0 n x ⟨#[]⟩) (by simp [results, Tryz.results159, go_sem, howV, c0, c1, c2, c3, c4]) rfl ⟨rfl, below5 hbb (Nat.le_refl _) _ _ _ _ _⟩

set_option maxRecDepth 100000 in
set_option maxHeartbeats 2000000 in
theorem howOf_epoch (x y : ByteArray) (hx : x.size ≤ 300) (hy : y.size ≤ 300) (w : World) :
    Calls Tryz.prog 159 #[.iface 224 (.agg #[.string x, .string y])] w fun e w' => e = .returned (howV 4 0 0 x y) ∧ Below w.heap.size w w' := by
  have f0 := ta_epoch_new
  have f1 := ta_epoch_next
  have f2 := ta_epoch_key
  have fy := ta_epoch
  have hx2 : x.size ≤ 1000000 := by omega
  have hy2 : y.size ≤ 1000000 := by omega
  go_enter Tryz.func159, Tryz.ntmps159
  go_wp2_with fail
  go_region_with (first
    | (go_at_call_of 86 (Value.string x); refine (clone_any x _ hx2).mono ?_; rintro e w1 ⟨rfl, hb1⟩; obtain ⟨c0, c1, c2, c3, c4, z0, z1, z2, z3, z4⟩ := Res5.keep (b := w.heap.size) (by constructor <;> simp [go_sem]) hb1 (by simp; omega); have d1 := keep1 (b := w.heap.size + 1) (o := 1) (v := .string y) hb1 (by simp [go_sem]) (by simp); have hsz : w.heap.size < w1.heap.size := (by have := hb1.size; simp at this; omega); have hbb : Below w.heap.size w w1 := (((Below.refl w.heap.size w).alloc (Nat.le_refl _) _).alloc (by simp) _).drew.trans (hb1.mono (by simp; omega)); clear hb1)
    | (go_at_call_of 86 (Value.string y); refine (clone_any y _ hy2).mono ?_; rintro e w2 ⟨rfl, hb2⟩; obtain ⟨k0, k1, k2, k3, k4, y0, y1, y2, y3, y4⟩ := Res5.keep (b := w.heap.size) ⟨c0, c1, c2, c3, c4, z0, z1, z2, z3, z4⟩ hb2 hsz; have hbc : Below w.heap.size w w2 := hbb.trans (hb2.mono (Nat.le_of_lt hsz)); clear hb2))
  all_goals go_wp2_with fail
  all_goals exact bodyPost_ret (v := howV 4 0 0 x y) (by simp [results, Tryz.results159, go_sem, howV, k0, k1, k2, k3, k4]) rfl ⟨rfl, below5 hbc (Nat.le_refl _) _ _ _ _ _⟩

end Go.Proofs.YtabpaaahobakpaaGreat
/-
  How a secret was made, as a value, field by field.
-/
namespace Go.Proofs.YtabpaaahobakpaaGreat
open Go.RowKit

theorem how_field (a b c : Int) (d e : ByteArray) : howV a b c d e = .agg #[.int .i64 a, .int .i64 b, .int .i64 c, .string d, .string e] := rfl

theorem field_op (a b c : Int) (d e : ByteArray) (w : World) : (Instr.field 156 (.agg #[.int .i64 a, .int .i64 b, .int .i64 c, .string d, .string e]) 0).run Tryz.prog w = .ok (.int .i64 a) w := by kernel_rfl
end Go.Proofs.YtabpaaahobakpaaGreat
