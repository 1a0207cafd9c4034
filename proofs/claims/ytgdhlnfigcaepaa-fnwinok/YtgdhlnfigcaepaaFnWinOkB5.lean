/-
  The specification's l6Seen: what has come, with one more.
-/
import Derived.Test.YtgdhlnfigcaepaaFnWinOkB4
import Derived.Test.YtgdhlnfigcaepaaFnWinOkB2
import Derived.Shelf.LaysM
import Derived.Shelf.Strconv.Clone
import Derived.Test.YtgdhlnfigcaepaaRows
import Derived.WalkKit
import Derived.Deep.RegionWith
namespace Go.Proofs.Ytgdhlnfigcaepaa
open Go.RowKit

def seenOne (n x : Int) (st : Bool × List Int) : Bool × List Int := if st.1 = false ∧ x < n then (true, st.2 ++ [n]) else st
def seenStep (n lim : Int) (st : Bool × List Int) (x : Int) : Bool × List Int := if lim < x then ((seenOne n x st).1, (seenOne n x st).2 ++ [x]) else seenOne n x st
def seenTo (n lim : Int) (xs : List Int) (k : Nat) : Bool × List Int := (xs.take k).foldl (seenStep n lim) (false, [])
/-- What has come, with one more. -/
def seenOf (n lim : Int) (xs : List Int) : List Int := if (seenTo n lim xs xs.length).1 = true then (seenTo n lim xs xs.length).2 else (seenTo n lim xs xs.length).2 ++ [n]
theorem seenTo_succ (n lim : Int) (xs : List Int) (k : Nat) (h : k < xs.length) : seenTo n lim xs (k + 1) = seenStep n lim (seenTo n lim xs k) (xs.getD k 0) := by
  unfold seenTo
  rw [List.take_succ_eq_append_getElem h, List.foldl_append, List.getD_eq_getElem?_getD, List.getElem?_eq_getElem h]
  rfl
theorem seenStep_le (n lim : Int) (st : Bool × List Int) (x : Int) : (seenStep n lim st x).2.length ≤ st.2.length + 2 := by
  unfold seenStep seenOne
  split <;> split <;> simp
theorem seenTo_le (n lim : Int) (xs : List Int) : ∀ k : Nat, k ≤ xs.length → (seenTo n lim xs k).2.length ≤ 2 * k
  | 0, _ => by simp [seenTo]
  | k + 1, h => by
    rw [seenTo_succ n lim xs k (by omega)]
    have := seenTo_le n lim xs k (by omega)
    have := seenStep_le n lim (seenTo n lim xs k) (xs.getD k 0)
    omega
theorem one_newI (w : World) (x : Value) (t : TypeId) : ∀ j u, [x][j]? = some u → (w.alloc (.cells #[x] t)).cell? (Addr.add ⟨w.heap.size, 0, none⟩ j) = some u := by
  intro j u hj
  match j, hj with
  | 0, hj => simp at hj; subst hj; simp [Addr.add, go_sem]

set_option maxRecDepth 100000 in
set_option maxHeartbeats 4000000 in
theorem l6Seen_any (v : Value) (xs : List Int) (n top : Int) (w : World) (h : IRow w v xs) (hl : xs.length ≤ 1000) (ht : -1000000000 ≤ top ∧ top ≤ 1000000000) :
    Calls Try.prog 64 #[v, .int .i64 n, .int .i64 top] w fun e w' => ∃ u, e = .returned u ∧ OwnI w.heap.size w' u (seenOf n (top - 8) xs) ∧ Below w.heap.size w w' := by
  obtain ⟨i0, hi, hz0, hz1, hz2⟩ := info_parts info_int2
  have hI := hide (And.intro hi (And.intro hz0 (And.intro hz1 hz2)))
  clear hi hz0 hz1 hz2
  obtain ⟨ao, cap, rfl, h1, h2, h3⟩ := h.form
  have H3 := hide h3
  have i8 : IntKind.i64.wrap (top - 8) = top - 8 := by simp [IntKind.wrap, IntKind.bits, IntKind.signed]; omega
  clear h3 h
  have O0 : Hid (OwnI w.heap.size (w.alloc (.cells #[] 3)) (.slice (some ⟨w.heap.size, 0, none⟩) 0 0) (seenTo n (top - 8) xs 0).2) := World.ownsRow_made w #[] 0 (Nat.le_refl _) (by omega) rfl
  have B0 : Hid (Below w.heap.size w (w.alloc (.cells #[] 3))) := (Below.refl _ _).alloc (Nat.le_refl _) _
  go_enter Try.func64, Try.ntmps64
  go_wp2_with fail
  generalize w.alloc (.cells #[] 3) = W0 at *
  go_loopw [7, 8, 9] (fun o d i wr => ∃ k : Nat, k ≤ xs.length ∧ i = .int .i64 (k : Int) ∧ d = .bool (seenTo n (top - 8) xs k).1 ∧ (∃ oo on oc, o = .slice oo on oc) ∧ Hid (OwnI w.heap.size wr o (seenTo n (top - 8) xs k).2) ∧ Hid (Below w.heap.size w wr)) (fun _ _ i _ => xs.length - (intOf i).toNat)
  case atStart => exact ⟨0, by omega, rfl, rfl, ⟨_, _, _, rfl⟩, O0, B0⟩
  case round =>
    clear O0 B0
    obtain ⟨k, hk, rfl, rfl, ⟨po, pn, pc, rfl⟩, hO, hB⟩ := hrel
    generalize wr = w1 at *
    have HPL : Hid (pn = (seenTo n (top - 8) xs k).2.length ∧ pn ≤ 2000) := by
      obtain ⟨zo, zc, e⟩ := row_form' (unhide hO)
      simp only [Value.slice.injEq] at e
      have := seenTo_le n (top - 8) xs k hk
      exact ⟨e.2.1, by rw [e.2.1]; omega⟩
    by_cases hlt : k < xs.length
    · have hlt2 : (k : Int) < (xs.length : Int) := by omega
      have hk0 : (0 : Int) ≤ (k : Int) := by omega
      have i1 : IntKind.i64.wrap ((k : Int) + 1) = (k : Int) + 1 := wrap_small _ (by omega) (by omega)
      obtain ⟨ad, rfl, c0⟩ := H3.out k hlt
      have c1 := ((unhide hB).cell (cell_lt c0)).trans c0
      have HS := hide (seenTo_succ n (top - 8) xs k hlt)
      have C0 := hide c0
      generalize xs.getD k 0 = x at *
      generalize hq : seenTo n (top - 8) xs k = st at *
      obtain ⟨d, Q⟩ := st
      simp only at hO HPL
      clear c0 hq
      cases d with
      | true =>
        have HSO : Hid (seenOne n x (true, Q) = (true, Q)) := by show _ = _; unfold seenOne; rw [if_neg (by simp)]
        by_cases hx : top - 8 < x
        · have hx2 : top - 8 < x := hx
          have OQ : w1.ownsRow w.heap.size 3 1 (.slice po pn pc) Q.length (Q.map (Value.int .i64)) := unhide hO
          rw [← HPL.out.1] at OQ
          have OP := hide OQ
          have hsz2 := hB.out.size
          have hpn := HPL.out.2
          clear OQ hO
          go_wp2_with (at_builtin; refine wpList_append_own _ rfl _ _ 30 rfl w.heap.size 3 i0 (.int .i64 0) 1 8 Try.underlying30 (unhide hI).1 (unhide hI).2.1 (unhide hI).2.2.1 (unhide hI).2.2.2 rfl (by decide) _ _ _ rfl (World.ownsRow.alloc (unhide OP) _) ⟨w1.heap.size, 0, none⟩ 1 1 [.int .i64 x] rfl rfl (one_newI _ _ _) (by intro u hu; simp at hu; subst hu; rfl) (by unfold maxLen; omega) (by omega) (by simp; omega) ?_)
          intro v' w3 hown' hgrow _
          have B3 : Hid (Below w.heap.size w w3) := ((unhide hB).alloc hsz2 (.cells #[.int .i64 x] 3)).grown hgrow (by simp; omega) (fun k hk => (World.ownsRow.lt (unhide OP) k hk).1)
          have O3 : Hid (OwnI w.heap.size w3 v' (Q ++ [x])) := by
            show OwnI _ _ _ _
            unfold OwnI
            rw [List.length_append, ← HPL.out.1, List.map_append]
            exact hown'
          have P3 : Hid (pn + 1 = (Q ++ [x]).length ∧ pn + 1 ≤ 2000 + 1) := ⟨by rw [List.length_append, ← HPL.out.1]; rfl, by omega⟩
          obtain ⟨w3o, w3c, rfl⟩ := row_form' hown'
          clear hown' hgrow OP hsz2 hpn
          go_wp2_with fail
          go_roundw
          case rel =>
            have HE : seenTo n (top - 8) xs (k + 1) = (true, Q ++ [x]) := by rw [HS.out]; unfold seenStep; rw [HSO.out, if_pos hx]
            exact ⟨k + 1, by omega, by simp, by rw [HE], ⟨_, _, _, rfl⟩, by rw [HE]; exact O3, B3⟩
          case measure => simp [intOf]; omega
        · have hx2 : decide (top - 8 < x) = false := by simp; omega
          go_wp2_with fail
          go_roundw
          case rel =>
            have HE : seenTo n (top - 8) xs (k + 1) = (true, Q) := by rw [HS.out]; unfold seenStep; rw [HSO.out, if_neg hx]
            exact ⟨k + 1, by omega, by simp, by rw [HE], ⟨_, _, _, rfl⟩, by rw [HE]; exact hO, hB⟩
          case measure => simp [intOf]; omega
      | false =>
        by_cases hn : x < n
        · have HSO : Hid (seenOne n x (false, Q) = (true, Q ++ [n])) := by show _ = _; unfold seenOne; rw [if_pos ⟨rfl, hn⟩]
          have OQ : w1.ownsRow w.heap.size 3 1 (.slice po pn pc) Q.length (Q.map (Value.int .i64)) := unhide hO
          rw [← HPL.out.1] at OQ
          have OP := hide OQ
          have hsz2 := hB.out.size
          have hpn := HPL.out.2
          clear OQ hO
          go_wp2_with (at_builtin; refine wpList_append_own _ rfl _ _ 30 rfl w.heap.size 3 i0 (.int .i64 0) 1 8 Try.underlying30 (unhide hI).1 (unhide hI).2.1 (unhide hI).2.2.1 (unhide hI).2.2.2 rfl (by decide) _ _ _ rfl (World.ownsRow.alloc (unhide OP) _) ⟨w1.heap.size, 0, none⟩ 1 1 [.int .i64 n] rfl rfl (one_newI _ _ _) (by intro u hu; simp at hu; subst hu; rfl) (by unfold maxLen; omega) (by omega) (by simp; omega) ?_)
          intro v' w2 hown' hgrow _
          have B2 : Hid (Below w.heap.size w w2) := ((unhide hB).alloc hsz2 (.cells #[.int .i64 n] 3)).grown hgrow (by simp; omega) (fun k hk => (World.ownsRow.lt (unhide OP) k hk).1)
          have O2 : Hid (OwnI w.heap.size w2 v' (Q ++ [n])) := by
            show OwnI _ _ _ _
            unfold OwnI
            rw [List.length_append, ← HPL.out.1, List.map_append]
            exact hown'
          have P2 : Hid (pn + 1 = (Q ++ [n]).length ∧ pn + 1 ≤ 2000 + 1) := ⟨by rw [List.length_append, ← HPL.out.1]; rfl, by omega⟩
          obtain ⟨w2o, w2c, rfl⟩ := row_form' hown'
          clear hown' hgrow OP hsz2 hpn
          obtain ⟨Q2, hQ2⟩ : ∃ q, q = Q ++ [n] := ⟨_, rfl⟩
          rw [← hQ2] at O2 P2 HSO
          clear hQ2
          by_cases hx : top - 8 < x
          · have hx2 : top - 8 < x := hx
            have c2 := ((unhide B2).cell (cell_lt C0.out)).trans C0.out
            have OQ : w2.ownsRow w.heap.size 3 1 (.slice w2o (pn + 1) w2c) Q2.length (Q2.map (Value.int .i64)) := unhide O2
            rw [← P2.out.1] at OQ
            have OP := hide OQ
            have hsz2 := B2.out.size
            have hpn := P2.out.2
            clear OQ O2
            go_wp2_with (at_builtin; refine wpList_append_own _ rfl _ _ 30 rfl w.heap.size 3 i0 (.int .i64 0) 1 8 Try.underlying30 (unhide hI).1 (unhide hI).2.1 (unhide hI).2.2.1 (unhide hI).2.2.2 rfl (by decide) _ _ _ rfl (World.ownsRow.alloc (unhide OP) _) ⟨w2.heap.size, 0, none⟩ 1 1 [.int .i64 x] rfl rfl (one_newI _ _ _) (by intro u hu; simp at hu; subst hu; rfl) (by unfold maxLen; omega) (by omega) (by simp; omega) ?_)
            intro v' w3 hown' hgrow _
            have B3 : Hid (Below w.heap.size w w3) := ((unhide B2).alloc hsz2 (.cells #[.int .i64 x] 3)).grown hgrow (by simp; omega) (fun k hk => (World.ownsRow.lt (unhide OP) k hk).1)
            have O3 : Hid (OwnI w.heap.size w3 v' (Q2 ++ [x])) := by
              show OwnI _ _ _ _
              unfold OwnI
              rw [List.length_append, ← P2.out.1, List.map_append]
              exact hown'
            have P3 : Hid (pn + 1 + 1 = (Q2 ++ [x]).length ∧ pn + 1 + 1 ≤ 2002) := ⟨by rw [List.length_append, ← P2.out.1]; rfl, by omega⟩
            obtain ⟨w3o, w3c, rfl⟩ := row_form' hown'
            clear hown' hgrow OP hsz2 hpn
            go_wp2_with fail
            go_roundw
            case rel =>
              have HE : seenTo n (top - 8) xs (k + 1) = (true, Q2 ++ [x]) := by rw [HS.out]; unfold seenStep; rw [HSO.out, if_pos hx]
              exact ⟨k + 1, by omega, by simp, by rw [HE], ⟨_, _, _, rfl⟩, by rw [HE]; exact O3, B3⟩
            case measure => simp [intOf]; omega
          · have hx2 : decide (top - 8 < x) = false := by simp; omega
            have c2 := ((unhide B2).cell (cell_lt C0.out)).trans C0.out
            go_wp2_with fail
            go_roundw
            case rel =>
              have HE : seenTo n (top - 8) xs (k + 1) = (true, Q2) := by rw [HS.out]; unfold seenStep; rw [HSO.out, if_neg hx]
              exact ⟨k + 1, by omega, by simp, by rw [HE], ⟨_, _, _, rfl⟩, by rw [HE]; exact O2, B2⟩
            case measure => simp [intOf]; omega
        · have HSO : Hid (seenOne n x (false, Q) = (false, Q)) := by show _ = _; unfold seenOne; rw [if_neg (fun q => hn q.2)]
          have hn2 : decide (x < n) = false := by simp; omega
          by_cases hx : top - 8 < x
          · have hx2 : top - 8 < x := hx
            have OQ : w1.ownsRow w.heap.size 3 1 (.slice po pn pc) Q.length (Q.map (Value.int .i64)) := unhide hO
            rw [← HPL.out.1] at OQ
            have OP := hide OQ
            have hsz2 := hB.out.size
            have hpn := HPL.out.2
            clear OQ hO
            go_wp2_with (at_builtin; refine wpList_append_own _ rfl _ _ 30 rfl w.heap.size 3 i0 (.int .i64 0) 1 8 Try.underlying30 (unhide hI).1 (unhide hI).2.1 (unhide hI).2.2.1 (unhide hI).2.2.2 rfl (by decide) _ _ _ rfl (World.ownsRow.alloc (unhide OP) _) ⟨w1.heap.size, 0, none⟩ 1 1 [.int .i64 x] rfl rfl (one_newI _ _ _) (by intro u hu; simp at hu; subst hu; rfl) (by unfold maxLen; omega) (by omega) (by simp; omega) ?_)
            intro v' w3 hown' hgrow _
            have B3 : Hid (Below w.heap.size w w3) := ((unhide hB).alloc hsz2 (.cells #[.int .i64 x] 3)).grown hgrow (by simp; omega) (fun k hk => (World.ownsRow.lt (unhide OP) k hk).1)
            have O3 : Hid (OwnI w.heap.size w3 v' (Q ++ [x])) := by
              show OwnI _ _ _ _
              unfold OwnI
              rw [List.length_append, ← HPL.out.1, List.map_append]
              exact hown'
            have P3 : Hid (pn + 1 = (Q ++ [x]).length ∧ pn + 1 ≤ 2000 + 1) := ⟨by rw [List.length_append, ← HPL.out.1]; rfl, by omega⟩
            obtain ⟨w3o, w3c, rfl⟩ := row_form' hown'
            clear hown' hgrow OP hsz2 hpn
            go_wp2_with fail
            go_roundw
            case rel =>
              have HE : seenTo n (top - 8) xs (k + 1) = (false, Q ++ [x]) := by rw [HS.out]; unfold seenStep; rw [HSO.out, if_pos hx]
              exact ⟨k + 1, by omega, by simp, by rw [HE], ⟨_, _, _, rfl⟩, by rw [HE]; exact O3, B3⟩
            case measure => simp [intOf]; omega
          · have hx2 : decide (top - 8 < x) = false := by simp; omega
            go_wp2_with fail
            go_roundw
            case rel =>
              have HE : seenTo n (top - 8) xs (k + 1) = (false, Q) := by rw [HS.out]; unfold seenStep; rw [HSO.out, if_neg hx]
              exact ⟨k + 1, by omega, by simp, by rw [HE], ⟨_, _, _, rfl⟩, by rw [HE]; exact hO, hB⟩
            case measure => simp [intOf]; omega
    · have hlt2 : decide ((k : Int) < (xs.length : Int)) = false := by simp; omega
      have hkl : k = xs.length := by omega
      subst hkl
      have HSE : Hid (seenOf n (top - 8) xs = if (seenTo n (top - 8) xs xs.length).1 = true then (seenTo n (top - 8) xs xs.length).2 else (seenTo n (top - 8) xs xs.length).2 ++ [n]) := rfl
      generalize seenTo n (top - 8) xs xs.length = st at *
      obtain ⟨d, Q⟩ := st
      simp only at hO HPL HSE
      cases d with
      | true =>
        go_wp2_with fail
        go_ret
        have q : seenOf n (top - 8) xs = Q := by rw [HSE.out]; simp
        refine ⟨_, rfl, ?_, unhide hB⟩
        rw [q]
        exact unhide hO
      | false =>
        have OQ : w1.ownsRow w.heap.size 3 1 (.slice po pn pc) Q.length (Q.map (Value.int .i64)) := unhide hO
        rw [← HPL.out.1] at OQ
        have OP := hide OQ
        have hsz2 := hB.out.size
        have hpn := HPL.out.2
        clear OQ hO
        go_wp2_with (at_builtin; refine wpList_append_own _ rfl _ _ 30 rfl w.heap.size 3 i0 (.int .i64 0) 1 8 Try.underlying30 (unhide hI).1 (unhide hI).2.1 (unhide hI).2.2.1 (unhide hI).2.2.2 rfl (by decide) _ _ _ rfl (World.ownsRow.alloc (unhide OP) _) ⟨w1.heap.size, 0, none⟩ 1 1 [.int .i64 n] rfl rfl (one_newI _ _ _) (by intro u hu; simp at hu; subst hu; rfl) (by unfold maxLen; omega) (by omega) (by simp; omega) ?_)
        intro v' w2 hown' hgrow _
        have B2 : Hid (Below w.heap.size w w2) := ((unhide hB).alloc hsz2 (.cells #[.int .i64 n] 3)).grown hgrow (by simp; omega) (fun k hk => (World.ownsRow.lt (unhide OP) k hk).1)
        have O2 : Hid (OwnI w.heap.size w2 v' (Q ++ [n])) := by
          show OwnI _ _ _ _
          unfold OwnI
          rw [List.length_append, ← HPL.out.1, List.map_append]
          exact hown'
        have P2 : Hid (pn + 1 = (Q ++ [n]).length ∧ pn + 1 ≤ 2000 + 1) := ⟨by rw [List.length_append, ← HPL.out.1]; rfl, by omega⟩
        obtain ⟨w2o, w2c, rfl⟩ := row_form' hown'
        clear hown' hgrow OP hsz2 hpn
        go_wp2_with fail
        go_ret
        exact ⟨_, rfl, by rw [HSE.out, if_neg (by simp)]; exact unhide O2, unhide B2⟩
#print axioms l6Seen_any
end Go.Proofs.Ytgdhlnfigcaepaa
/-
  The specification's l1In, whatever comes in.
-/
namespace Go.Proofs.Ytgdhlnfigcaepaa
open Go.RowKit

def inB (lo hi n : Int) : Bool := decide (lo ≤ n) && decide (n ≤ hi)
theorem l1In_any (n lo hi : Int) (w : World) :
    Calls Try.prog 36 #[.int .i64 n, .int .i64 lo, .int .i64 hi] w fun e w' => e = .returned (.bool (inB lo hi n)) ∧ w' = w := by
  by_cases h : lo ≤ n ∧ n ≤ hi
  · rw [show inB lo hi n = true by unfold inB; simp [h.1, h.2]]
    exact l1In_yes n lo hi w h.1 h.2
  · rw [show inB lo hi n = false by unfold inB; simp; omega]
    exact l1In_no n lo hi w (by omega)
end Go.Proofs.Ytgdhlnfigcaepaa
/-
  The library's Clone of a text hands back the same bytes: the library's own contract, laid at this program.
-/
namespace Go.Proofs.Ytgdhlnfigcaepaa
open Go.Shelf Go.RowKit

def clone_ren : Go.Shelf.Ren := ⟨fun | 316 => 68 | n => n, fun | 9 => 9 | 3 => 3 | 4 => 4 | 37 => 43 | 0 => 0 | 127 => 108 | 5 => 5 | n => n, fun | n => n⟩
theorem clone_lays : Go.Proofs.LaysM.n316 Try.prog clone_ren := {
  mixed := by kernel_rfl
  f316 := Try.func68.trans (congrArg some (by kernel_rfl))
  t0 := Try.underlying0
  a0 := Try.isAgg0
  z0 := Try.sizeOf0
  v0 := Try.zeroValue0
  t3 := Try.underlying3
  a3 := Try.isAgg3
  z3 := Try.sizeOf3
  v3 := Try.zeroValue3
  t4 := Try.underlying4
  a4 := Try.isAgg4
  z4 := Try.sizeOf4
  v4 := Try.zeroValue4
  t9 := Try.underlying9
  a9 := Try.isAgg9
  z9 := Try.sizeOf9
  v9 := Try.zeroValue9
  t37 := Try.underlying43
  a37 := Try.isAgg43
  z37 := Try.sizeOf43
  v37 := Try.zeroValue43
  t127 := Try.underlying108
  a127 := Try.isAgg108
  z127 := Try.sizeOf108
  v127 := Try.zeroValue108
  t5 := Try.underlying5
  a5 := Try.isAgg5
  z5 := Try.sizeOf5
  v5 := Try.zeroValue5
  i0 := by kernel_rfl
  i3 := by kernel_rfl
  i4 := by kernel_rfl
  i5 := by kernel_rfl
  i9 := by kernel_rfl
  i37 := by kernel_rfl
  i127 := by kernel_rfl }

theorem slClone_any (s : ByteArray) (w : World) (h : s.size ≤ 1000000) :
    Calls Try.prog 68 #[.string s] w fun e w' => e = .returned (.string s) ∧ Below w.heap.size w w' := Any.stringslite_Clone clone_lays s w (by omega)

set_option maxHeartbeats 400000 in
theorem clone_any (s : ByteArray) (w : World) (h : s.size ≤ 1000000) :
    Calls Try.prog 48 #[.string s] w fun e w' => e = .returned (.string s) ∧ Below w.heap.size w w' := by
  go_enter Try.func48, Try.ntmps48
  go_wp2_with (go_at_call 68; refine (slClone_any _ _ h).mono ?_; rintro e w' ⟨rfl, hb⟩)
  go_ret
  exact ⟨rfl, hb⟩
#print axioms clone_any
end Go.Proofs.Ytgdhlnfigcaepaa
/-
  The program's SecMade: what it answers, as a plain function of the text.
-/
namespace Go.Proofs.Ytgdhlnfigcaepaa
open Go.RowKit

theorem bcell {W w1 : World} (hb : Below W.heap.size W w1) : (∀ b o, b < W.heap.size → w1.cell? ⟨b, o, none⟩ = W.cell? ⟨b, o, none⟩) ∧ (∀ b o, b < W.heap.size → w1.frozen? ⟨b, o, none⟩ = W.frozen? ⟨b, o, none⟩) :=
  ⟨fun b o h => hb.cell (p := ⟨b, o, none⟩) h, fun b o h => hb.frozen (p := ⟨b, o, none⟩) h⟩

/-- A struct that tells how a secret was made. -/
def howV (op who n : Int) (a b : ByteArray) : Value := .agg #[.int .i64 op, .int .i64 who, .int .i64 n, .string a, .string b]

theorem ta_new (x : Value) (w : World) : (Instr.typeAssert (.iface 97 x) 76 97 true).run Try.prog w = .ok (.tuple #[x, .bool true]) w := by kernel_rfl
theorem ta_next (x : Value) (w : World) : (Instr.typeAssert (.iface 99 x) 76 99 true).run Try.prog w = .ok (.tuple #[x, .bool true]) w := by kernel_rfl
theorem ta_key (x : Value) (w : World) : (Instr.typeAssert (.iface 100 x) 76 100 true).run Try.prog w = .ok (.tuple #[x, .bool true]) w := by kernel_rfl
theorem ta_epoch (x : Value) (w : World) : (Instr.typeAssert (.iface 102 x) 76 102 true).run Try.prog w = .ok (.tuple #[x, .bool true]) w := by kernel_rfl
theorem ta_say (x : Value) (w : World) : (Instr.typeAssert (.iface 83 x) 76 83 true).run Try.prog w = .ok (.tuple #[x, .bool true]) w := by kernel_rfl
theorem ta_room (x : Value) (w : World) : (Instr.typeAssert (.iface 104 x) 76 104 true).run Try.prog w = .ok (.tuple #[x, .bool true]) w := by kernel_rfl
theorem ta_next_new (x : Value) (w : World) : (Instr.typeAssert (.iface 99 x) 76 97 true).run Try.prog w = .ok (.tuple #[.agg #[.int .i64 0, .int .i64 0], .bool false]) w := by kernel_rfl
theorem ta_key_new (x : Value) (w : World) : (Instr.typeAssert (.iface 100 x) 76 97 true).run Try.prog w = .ok (.tuple #[.agg #[.int .i64 0, .int .i64 0], .bool false]) w := by kernel_rfl
theorem ta_key_next (x : Value) (w : World) : (Instr.typeAssert (.iface 100 x) 76 99 true).run Try.prog w = .ok (.tuple #[.agg #[.string ⟨#[]⟩], .bool false]) w := by kernel_rfl
theorem ta_epoch_new (x : Value) (w : World) : (Instr.typeAssert (.iface 102 x) 76 97 true).run Try.prog w = .ok (.tuple #[.agg #[.int .i64 0, .int .i64 0], .bool false]) w := by kernel_rfl
theorem ta_epoch_next (x : Value) (w : World) : (Instr.typeAssert (.iface 102 x) 76 99 true).run Try.prog w = .ok (.tuple #[.agg #[.string ⟨#[]⟩], .bool false]) w := by kernel_rfl
theorem ta_epoch_key (x : Value) (w : World) : (Instr.typeAssert (.iface 102 x) 76 100 true).run Try.prog w = .ok (.tuple #[.agg #[.string ⟨#[]⟩], .bool false]) w := by kernel_rfl
theorem ta_say_new (x : Value) (w : World) : (Instr.typeAssert (.iface 83 x) 76 97 true).run Try.prog w = .ok (.tuple #[.agg #[.int .i64 0, .int .i64 0], .bool false]) w := by kernel_rfl
theorem ta_say_next (x : Value) (w : World) : (Instr.typeAssert (.iface 83 x) 76 99 true).run Try.prog w = .ok (.tuple #[.agg #[.string ⟨#[]⟩], .bool false]) w := by kernel_rfl
theorem ta_say_key (x : Value) (w : World) : (Instr.typeAssert (.iface 83 x) 76 100 true).run Try.prog w = .ok (.tuple #[.agg #[.string ⟨#[]⟩], .bool false]) w := by kernel_rfl
theorem ta_say_epoch (x : Value) (w : World) : (Instr.typeAssert (.iface 83 x) 76 102 true).run Try.prog w = .ok (.tuple #[.agg #[.string ⟨#[]⟩, .string ⟨#[]⟩], .bool false]) w := by kernel_rfl
theorem ta_room_new (x : Value) (w : World) : (Instr.typeAssert (.iface 104 x) 76 97 true).run Try.prog w = .ok (.tuple #[.agg #[.int .i64 0, .int .i64 0], .bool false]) w := by kernel_rfl
theorem ta_room_next (x : Value) (w : World) : (Instr.typeAssert (.iface 104 x) 76 99 true).run Try.prog w = .ok (.tuple #[.agg #[.string ⟨#[]⟩], .bool false]) w := by kernel_rfl
theorem ta_room_key (x : Value) (w : World) : (Instr.typeAssert (.iface 104 x) 76 100 true).run Try.prog w = .ok (.tuple #[.agg #[.string ⟨#[]⟩], .bool false]) w := by kernel_rfl
theorem ta_room_epoch (x : Value) (w : World) : (Instr.typeAssert (.iface 104 x) 76 102 true).run Try.prog w = .ok (.tuple #[.agg #[.string ⟨#[]⟩, .string ⟨#[]⟩], .bool false]) w := by kernel_rfl
theorem ta_room_say (x : Value) (w : World) : (Instr.typeAssert (.iface 104 x) 76 83 true).run Try.prog w = .ok (.tuple #[.agg #[.string ⟨#[]⟩, .int .i64 0], .bool false]) w := by kernel_rfl

/-- A block of the call's own that holds a struct as it begins. -/
structure Res5 (b : Nat) (w : World) : Prop where
  c0 : w.cell? ⟨b, 0, none⟩ = some (.int .i64 0)
  c1 : w.cell? ⟨b, 1, none⟩ = some (.int .i64 0)
  c2 : w.cell? ⟨b, 2, none⟩ = some (.int .i64 0)
  c3 : w.cell? ⟨b, 3, none⟩ = some (.string ⟨#[]⟩)
  c4 : w.cell? ⟨b, 4, none⟩ = some (.string ⟨#[]⟩)
  z0 : w.frozen? ⟨b, 0, none⟩ = false
  z1 : w.frozen? ⟨b, 1, none⟩ = false
  z2 : w.frozen? ⟨b, 2, none⟩ = false
  z3 : w.frozen? ⟨b, 3, none⟩ = false
  z4 : w.frozen? ⟨b, 4, none⟩ = false
theorem Res5.keep {b : Nat} {W w1 : World} (h : Res5 b W) (hb : Below W.heap.size W w1) (hlt : b < W.heap.size) : Res5 b w1 :=
  ⟨(hb.cell (p := ⟨b, 0, none⟩) hlt).trans h.c0, (hb.cell (p := ⟨b, 1, none⟩) hlt).trans h.c1, (hb.cell (p := ⟨b, 2, none⟩) hlt).trans h.c2, (hb.cell (p := ⟨b, 3, none⟩) hlt).trans h.c3, (hb.cell (p := ⟨b, 4, none⟩) hlt).trans h.c4,
   (hb.frozen (p := ⟨b, 0, none⟩) hlt).trans h.z0, (hb.frozen (p := ⟨b, 1, none⟩) hlt).trans h.z1, (hb.frozen (p := ⟨b, 2, none⟩) hlt).trans h.z2, (hb.frozen (p := ⟨b, 3, none⟩) hlt).trans h.z3, (hb.frozen (p := ⟨b, 4, none⟩) hlt).trans h.z4⟩
theorem keep1 {W w1 : World} {b o : Nat} {v : Value} (hb : Below W.heap.size W w1) (h : W.cell? ⟨b, o, none⟩ = some v) (hlt : b < W.heap.size) : w1.cell? ⟨b, o, none⟩ = some v := (hb.cell (p := ⟨b, o, none⟩) hlt).trans h

theorem below5 {B : Nat} {w w1 : World} (h : Below B w w1) {b : Nat} (hb : B ≤ b) (v0 v1 v2 v3 v4 : Value) :
    Below B w (((((w1.setCell ⟨b, 0, none⟩ v0).setCell ⟨b, 1, none⟩ v1).setCell ⟨b, 2, none⟩ v2).setCell ⟨b, 3, none⟩ v3).setCell ⟨b, 4, none⟩ v4) :=
  ((((h.setCell (p := ⟨b, 0, none⟩) hb v0).setCell (p := ⟨b, 1, none⟩) hb v1).setCell (p := ⟨b, 2, none⟩) hb v2).setCell (p := ⟨b, 3, none⟩) hb v3).setCell (p := ⟨b, 4, none⟩) hb v4

set_option maxRecDepth 100000 in
set_option maxHeartbeats 400000 in
theorem howOf_new (who n : Int) (w : World) :
    Calls Try.prog 57 #[.iface 97 (.agg #[.int .i64 who, .int .i64 n])] w fun e w' => e = .returned (howV 1 who n ⟨#[]⟩ ⟨#[]⟩) ∧ Below w.heap.size w w' := by
  have fy := ta_new
  go_enter Try.func57, Try.ntmps57
  go_wp2_with fail
  refine bodyPost_ret (v := howV 1 who n ⟨#[]⟩ ⟨#[]⟩) (by simp [results, Try.results57, go_sem, howV]) rfl ⟨rfl, ?_⟩
  exact ((Below.refl _ _).alloc (Nat.le_refl _) _).alloc (by simp) _

set_option maxRecDepth 100000 in
set_option maxHeartbeats 400000 in
theorem howOf_next (x : ByteArray) (hx : x.size ≤ 300) (w : World) :
    Calls Try.prog 57 #[.iface 99 (.agg #[.string x])] w fun e w' => e = .returned (howV 2 0 0 x ⟨#[]⟩) ∧ Below w.heap.size w w' := by
  have f0 := ta_next_new
  have fy := ta_next
  go_enter Try.func57, Try.ntmps57
  go_wp2_with fail
  refine (clone_any x _ (by omega)).mono ?_
  rintro e w1 ⟨rfl, hb1⟩
  obtain ⟨c0, c1, c2, c3, c4, z0, z1, z2, z3, z4⟩ := Res5.keep (b := w.heap.size) (by constructor <;> simp [go_sem]) hb1 (by simp; omega)
  have hbb : Below w.heap.size w w1 := (((Below.refl w.heap.size w).alloc (Nat.le_refl _) _).alloc (by simp) _).trans (hb1.mono (by simp; omega))
  clear hb1
  go_wp2_with fail
  refine bodyPost_ret (v := howV 2 0 0 x ⟨#[]⟩) (by simp [results, Try.results57, go_sem, howV, c0, c1, c2, c3, c4]) rfl ⟨rfl, ?_⟩
  exact below5 hbb (Nat.le_refl _) _ _ _ _ _

set_option maxRecDepth 100000 in
set_option maxHeartbeats 400000 in
theorem howOf_key (x : ByteArray) (hx : x.size ≤ 300) (w : World) :
    Calls Try.prog 57 #[.iface 100 (.agg #[.string x])] w fun e w' => e = .returned (howV 3 0 0 x ⟨#[]⟩) ∧ Below w.heap.size w w' := by
  have f0 := ta_key_new
  have f1 := ta_key_next
  have fy := ta_key
  go_enter Try.func57, Try.ntmps57
  go_wp2_with fail
  refine (clone_any x _ (by omega)).mono ?_
  rintro e w1 ⟨rfl, hb1⟩
  obtain ⟨c0, c1, c2, c3, c4, z0, z1, z2, z3, z4⟩ := Res5.keep (b := w.heap.size) (by constructor <;> simp [go_sem]) hb1 (by simp; omega)
  have hbb : Below w.heap.size w w1 := (((Below.refl w.heap.size w).alloc (Nat.le_refl _) _).alloc (by simp) _).trans (hb1.mono (by simp; omega))
  clear hb1
  go_wp2_with fail
  refine bodyPost_ret (v := howV 3 0 0 x ⟨#[]⟩) (by simp [results, Try.results57, go_sem, howV, c0, c1, c2, c3, c4]) rfl ⟨rfl, ?_⟩
  exact below5 hbb (Nat.le_refl _) _ _ _ _ _

set_option maxRecDepth 100000 in
set_option maxHeartbeats 1000000 in
theorem howOf_say (x : ByteArray) (n : Int) (hx : x.size ≤ 300) (w : World) :
    Calls Try.prog 57 #[.iface 83 (.agg #[.string x, .int .i64 n])] w fun e w' => e = .returned (howV 5 n 0 x ⟨#[]⟩) ∧ Below w.heap.size w w' := by
  have f0 := ta_say_new
  have f1 := ta_say_next
  have f2 := ta_say_key
  have f3 := ta_say_epoch
  have fy := ta_say
  have hx2 : x.size ≤ 1000000 := by omega
  go_enter Try.func57, Try.ntmps57
  go_wp2_with fail
  go_region_with (go_at_call 48; refine (clone_any x _ hx2).mono ?_; rintro e w1 ⟨rfl, hb1⟩; obtain ⟨c0, c1, c2, c3, c4, z0, z1, z2, z3, z4⟩ := Res5.keep (b := w.heap.size) (by constructor <;> simp [go_sem]) hb1 (by simp; omega); have d1 := keep1 (b := w.heap.size + 1) (o := 1) (v := .int .i64 n) hb1 (by simp [go_sem]) (by simp); have hbb : Below w.heap.size w w1 := (((Below.refl w.heap.size w).alloc (Nat.le_refl _) _).alloc (by simp) _).drew.trans (hb1.mono (by simp; omega)); clear hb1)
  all_goals go_wp2_with fail
  all_goals exact bodyPost_ret (v := howV 5 n 0 x ⟨#[]⟩) (by simp [results, Try.results57, go_sem, howV, c0, c1, c2, c3, c4]) rfl ⟨rfl, below5 hbb (Nat.le_refl _) _ _ _ _ _⟩

set_option maxRecDepth 100000 in
set_option maxHeartbeats 1000000 in
theorem howOf_room (x : ByteArray) (n : Int) (hx : x.size ≤ 300) (w : World) :
    Calls Try.prog 57 #[.iface 104 (.agg #[.string x, .int .i64 n])] w fun e w' => e = .returned (howV 6 0 n x ⟨#[]⟩) ∧ Below w.heap.size w w' := by
  have f0 := ta_room_new
  have f1 := ta_room_next
  have f2 := ta_room_key
  have f3 := ta_room_epoch
  have f4 := ta_room_say
  have fy := ta_room
  have hx2 : x.size ≤ 1000000 := by omega
  go_enter Try.func57, Try.ntmps57
  go_wp2_with fail
  go_region_with (go_at_call 48; refine (clone_any x _ hx2).mono ?_; rintro e w1 ⟨rfl, hb1⟩; obtain ⟨c0, c1, c2, c3, c4, z0, z1, z2, z3, z4⟩ := Res5.keep (b := w.heap.size) (by constructor <;> simp [go_sem]) hb1 (by simp; omega); have d1 := keep1 (b := w.heap.size + 1) (o := 1) (v := .int .i64 n) hb1 (by simp [go_sem]) (by simp); have hbb : Below w.heap.size w w1 := (((Below.refl w.heap.size w).alloc (Nat.le_refl _) _).alloc (by simp) _).drew.trans (hb1.mono (by simp; omega)); clear hb1)
  all_goals go_wp2_with fail
  all_goals exact bodyPost_ret (v := howV 6 0 n x ⟨#[]⟩) (by simp [results, Try.results57, go_sem, howV, c0, c1, c2, c3, c4]) rfl ⟨rfl, below5 hbb (Nat.le_refl _) _ _ _ _ _⟩

set_option maxRecDepth 100000 in
set_option maxHeartbeats 2000000 in
theorem howOf_epoch (x y : ByteArray) (hx : x.size ≤ 300) (hy : y.size ≤ 300) (w : World) :
    Calls Try.prog 57 #[.iface 102 (.agg #[.string x, .string y])] w fun e w' => e = .returned (howV 4 0 0 x y) ∧ Below w.heap.size w w' := by
  have f0 := ta_epoch_new
  have f1 := ta_epoch_next
  have f2 := ta_epoch_key
  have fy := ta_epoch
  have hx2 : x.size ≤ 1000000 := by omega
  have hy2 : y.size ≤ 1000000 := by omega
  go_enter Try.func57, Try.ntmps57
  go_wp2_with fail
  go_region_with (first
    | (go_at_call_of 48 (Value.string x); refine (clone_any x _ hx2).mono ?_; rintro e w1 ⟨rfl, hb1⟩; obtain ⟨c0, c1, c2, c3, c4, z0, z1, z2, z3, z4⟩ := Res5.keep (b := w.heap.size) (by constructor <;> simp [go_sem]) hb1 (by simp; omega); have d1 := keep1 (b := w.heap.size + 1) (o := 1) (v := .string y) hb1 (by simp [go_sem]) (by simp); have hsz : w.heap.size < w1.heap.size := (by have := hb1.size; simp at this; omega); have hbb : Below w.heap.size w w1 := (((Below.refl w.heap.size w).alloc (Nat.le_refl _) _).alloc (by simp) _).drew.trans (hb1.mono (by simp; omega)); clear hb1)
    | (go_at_call_of 48 (Value.string y); refine (clone_any y _ hy2).mono ?_; rintro e w2 ⟨rfl, hb2⟩; obtain ⟨k0, k1, k2, k3, k4, y0, y1, y2, y3, y4⟩ := Res5.keep (b := w.heap.size) ⟨c0, c1, c2, c3, c4, z0, z1, z2, z3, z4⟩ hb2 hsz; have hbc : Below w.heap.size w w2 := hbb.trans (hb2.mono (Nat.le_of_lt hsz)); clear hb2))
  all_goals go_wp2_with fail
  all_goals exact bodyPost_ret (v := howV 4 0 0 x y) (by simp [results, Try.results57, go_sem, howV, k0, k1, k2, k3, k4]) rfl ⟨rfl, below5 hbc (Nat.le_refl _) _ _ _ _ _⟩

end Go.Proofs.Ytgdhlnfigcaepaa
/-
  How a secret was made, as a value, field by field.
-/
namespace Go.Proofs.Ytgdhlnfigcaepaa
open Go.RowKit

theorem how_field (a b c : Int) (d e : ByteArray) : howV a b c d e = .agg #[.int .i64 a, .int .i64 b, .int .i64 c, .string d, .string e] := rfl

theorem field_op (a b c : Int) (d e : ByteArray) (w : World) : (Instr.field 49 (.agg #[.int .i64 a, .int .i64 b, .int .i64 c, .string d, .string e]) 0).run Try.prog w = .ok (.int .i64 a) w := by kernel_rfl
theorem field_who (a b c : Int) (d e : ByteArray) (w : World) : (Instr.field 49 (.agg #[.int .i64 a, .int .i64 b, .int .i64 c, .string d, .string e]) 1).run Try.prog w = .ok (.int .i64 b) w := by kernel_rfl
end Go.Proofs.Ytgdhlnfigcaepaa
/-
  The program's SecMade: its contract.
-/
namespace Go.Proofs.Ytgdhlnfigcaepaa
open Go.RowKit
open Kw (g len nv ok)

/-- How a secret was made: which way; by whom; which number; from which one; and from which other one. -/
def mOp (s : ByteArray) : Int := if ok s = true then (if g s 0 = 110 then 2 else if g s 0 = 107 then 3 else if g s 0 = 101 then 4 else if g s 0 = 109 then 5 else if g s 0 = 114 then 6 else 1) else 0
def mWho (s : ByteArray) : Int := if ok s = true then (if g s 0 = 110 then 0 else if g s 0 = 107 then 0 else if g s 0 = 101 then 0 else if g s 0 = 109 then (g s 1 : Int) - 65 else if g s 0 = 114 then 0 else (g s 0 : Int) - 65) else 0
def mN (s : ByteArray) : Int := if ok s = true then (if g s 0 = 110 then 0 else if g s 0 = 107 then 0 else if g s 0 = 101 then 0 else if g s 0 = 109 then 0 else if g s 0 = 114 then ((g s 1 - 48 : Nat) : Int) else (nv s 0 : Int)) else 0
def mA (s : ByteArray) : ByteArray := if ok s = true then (if g s 0 = 110 then s.extract 1 s.size else if g s 0 = 107 then s.extract 1 s.size else if g s 0 = 101 then s.extract 1 (1 + len s 1) else if g s 0 = 109 then s.extract 2 s.size else if g s 0 = 114 then s.extract 2 s.size else ⟨#[]⟩) else ⟨#[]⟩
def mB (s : ByteArray) : ByteArray := if ok s = true then (if g s 0 = 110 then ⟨#[]⟩ else if g s 0 = 107 then ⟨#[]⟩ else if g s 0 = 101 then s.extract (1 + len s 1) s.size else ⟨#[]⟩) else ⟨#[]⟩

theorem ext_le (s : ByteArray) (a b : Nat) (hs : s.size ≤ 300) : (s.extract a b).size ≤ 300 := by simp [ByteArray.size_extract]; omega

theorem howOf_sec (s : ByteArray) (w : World) (hk : ok s = true) :
    Calls Try.prog 57 #[secV s 0] w fun e w' => e = .returned (howV (mOp s) (mWho s) (mN s) (mA s) (mB s)) ∧ Below w.heap.size w w' := by
  obtain ⟨h1, _, _⟩ := ok_facts hk
  unfold mOp mWho mN mA mB secV
  simp only [if_pos hk, Nat.zero_add]
  by_cases c1 : g s 0 = 110
  · simp only [if_pos c1]
    rw [(parts_nk hk (.inl c1)).2]
    exact howOf_next _ (ext_le _ _ _ h1) w
  simp only [if_neg c1]
  by_cases c2 : g s 0 = 107
  · simp only [if_pos c2]
    rw [(parts_nk hk (.inr c2)).2]
    exact howOf_key _ (ext_le _ _ _ h1) w
  simp only [if_neg c2]
  by_cases c3 : g s 0 = 101
  · simp only [if_pos c3]
    rw [(parts_e hk c3).2.2]
    exact howOf_epoch _ _ (ext_le _ _ _ h1) (ext_le _ _ _ h1) w
  simp only [if_neg c3]
  by_cases c4 : g s 0 = 109
  · simp only [if_pos c4]
    rw [(parts_m hk c4).2.2.2]
    exact howOf_say _ _ (ext_le _ _ _ h1) w
  simp only [if_neg c4]
  by_cases c5 : g s 0 = 114
  · simp only [if_pos c5]
    rw [(parts_r hk c5).2.2.2]
    exact howOf_room _ _ (ext_le _ _ _ h1) w
  simp only [if_neg c5]
  exact howOf_new _ _ w

theorem made_not {s : ByteArray} (hk : ok s = false) : mOp s = 0 ∧ mWho s = 0 ∧ mN s = 0 ∧ mA s = ⟨#[]⟩ ∧ mB s = ⟨#[]⟩ := by
  unfold mOp mWho mN mA mB; simp [hk]

set_option maxRecDepth 100000 in
set_option maxHeartbeats 1000000 in
theorem iSecMade_any (s : ByteArray) (w : World) (hm : s.size ≤ maxLen) :
    Calls Try.prog 30 #[.string s] w fun e w' => e = .returned (howV (mOp s) (mWho s) (mN s) (mA s) (mB s)) ∧ Below w.heap.size w w' := by
  have M := hide hm
  clear hm
  cases hk : ok s with
  | false =>
    obtain ⟨e1, e2, e3, e4, e5⟩ := made_not hk
    rw [e1, e2, e3, e4, e5]
    have K := hide hk
    clear hk e1 e2 e3 e4 e5
    go_enter Try.func30, Try.ntmps30
    go_wp2_with fail
    refine (readSecret_any s _ M.out).mono ?_
    rintro e w1 ⟨hb1, ⟨h1, h2⟩ | ⟨h1, rfl⟩⟩
    · rw [K.out] at h1; cases h1
    clear h1
    obtain ⟨c0, c1, c2, c3, c4, z0, z1, z2, z3, z4⟩ := Res5.keep (b := w.heap.size) (by constructor <;> simp [go_sem]) hb1 (by simp)
    have hbb : Below w.heap.size w w1 := ((Below.refl w.heap.size w).alloc (Nat.le_refl _) _).trans (hb1.mono (by simp))
    clear hb1
    go_wp2_with fail
    exact bodyPost_ret (v := howV 0 0 0 ⟨#[]⟩ ⟨#[]⟩) (by simp [results, Try.results30, go_sem, howV, c0, c1, c2, c3, c4]) rfl ⟨rfl, below5 hbb (Nat.le_refl _) _ _ _ _ _⟩
  | true =>
    have K := hide hk
    clear hk
    go_enter Try.func30, Try.ntmps30
    go_wp2_with fail
    refine (readSecret_any s _ M.out).mono ?_
    rintro e w1 ⟨hb1, ⟨h1, rfl⟩ | ⟨h1, h2⟩⟩
    · clear h1
      have R1 := Res5.keep (b := w.heap.size) (by constructor <;> simp [go_sem]) hb1 (by simp)
      have hsz : w.heap.size < w1.heap.size := by have := hb1.size; simp at this; omega
      have hbb : Below w.heap.size w w1 := ((Below.refl w.heap.size w).alloc (Nat.le_refl _) _).trans (hb1.mono (by simp))
      clear hb1
      have HB := hide hbb
      have HR := hide R1
      clear hbb R1
      generalize hv : secV s 0 = v
      go_wp2_with fail
      rw [← hv]
      refine (howOf_sec s _ K.out).mono ?_
      rintro e w2 ⟨rfl, hb2⟩
      obtain ⟨c0, c1, c2, c3, c4, z0, z1, z2, z3, z4⟩ := Res5.keep (unhide HR) hb2 hsz
      have hbc : Below w.heap.size w w2 := (unhide HB).trans (hb2.mono (Nat.le_of_lt hsz))
      clear hb2 hv
      unfold howV
      go_wp2_with fail
      exact bodyPost_ret (v := howV (mOp s) (mWho s) (mN s) (mA s) (mB s)) (by simp [results, Try.results30, go_sem, howV, c0, c1, c2, c3, c4]) rfl ⟨rfl, below5 hbc (Nat.le_refl _) _ _ _ _ _⟩
    · rw [K.out] at h1; cases h1
#print axioms iSecMade_any
end Go.Proofs.Ytgdhlnfigcaepaa
/-
  A window, as a value; whether it is ok, and what it takes, as plain words.
-/
namespace Go.Proofs.Ytgdhlnfigcaepaa
open Go.RowKit

/-- What has come that was shut with a key. -/
structure Win where
  key : ByteArray
  top : Int
  seen : List Int
def Win.none : Win := ⟨⟨#[]⟩, 0, []⟩
abbrev winC (key : ByteArray) (top : Int) (s : Value) : Array Value := #[.string key, .int .i64 top, s]
abbrev Win.cells (x : Win) (s : Value) : Array Value := winC x.key x.top s
abbrev noWin : Array Value := winC ⟨#[]⟩ 0 (.slice none 0 0)
theorem info_wi : (Try.prog.info? 35).map (·.size) = some 3 := by kernel_rfl
theorem load_wi {w : World} {b : Nat} {cs : Array Value} (h : Blk w b 35 cs) (hc : cs.size = 3) : (loadVar 35 ⟨b, 0, none⟩).run Try.prog w = .ok (.agg cs) w :=
  run_loadVar_row w b _ _ cs (0, 0) _ h Try.underlying35 rfl (by rw [hc]; exact info_wi)
theorem one_wi (a : ByteArray) (b : Int) (x : Option Addr) (n c : Nat) : (winC a b (.slice x n c)).all (·.oneCell') = true := by simp [Value.oneCell']

/-- Whether a window is ok. -/
def winOk (x : Win) : Bool := Kw.ok x.key && (decide (mOp x.key = 5) && (inB 1 999 x.top && fallsB x.top x.seen))
theorem winOk_eq (x : Win) : winOk x = (Kw.ok x.key && (decide (mOp x.key = 5) && (inB 1 999 x.top && fallsB x.top x.seen))) := rfl
theorem win_facts {x : Win} (h : winOk x = true) : Kw.ok x.key = true ∧ mOp x.key = 5 ∧ (1 ≤ x.top ∧ x.top ≤ 999) ∧ fallsB x.top x.seen = true := by
  unfold winOk inB at h
  simp only [Bool.and_eq_true, decide_eq_true_eq] at h
  exact ⟨h.1, h.2.1, h.2.2.1, h.2.2.2⟩
theorem win_of {x : Win} (h1 : Kw.ok x.key = true) (h2 : mOp x.key = 5) (h3 : 1 ≤ x.top ∧ x.top ≤ 999) (h4 : fallsB x.top x.seen = true) : winOk x = true := by
  unfold winOk inB
  simp only [Bool.and_eq_true, decide_eq_true_eq]
  exact ⟨h1, h2, h3, h4⟩

/-- A number put in its place. -/
def insN (n : Int) : List Int → List Int
  | [] => [n]
  | x :: l => if x < n then n :: x :: l else x :: insN n l
theorem ins_mem (n m : Int) : ∀ l, m ∈ insN n l ↔ m = n ∨ m ∈ l
  | [] => by simp [insN]
  | x :: l => by
    unfold insN
    split
    · simp
    · rw [List.mem_cons, ins_mem n m l, List.mem_cons]
      constructor
      · rintro (h | h | h)
        · exact .inr (.inl h)
        · exact .inl h
        · exact .inr (.inr h)
      · rintro (h | h | h)
        · exact .inr (.inl h)
        · exact .inl h
        · exact .inr (.inr h)
theorem ins_sorted (n : Int) : ∀ l, l.Pairwise (fun a b => b < a) → n ∉ l → (insN n l).Pairwise (fun a b => b < a)
  | [], _, _ => by simp [insN]
  | x :: l, h, hn => by
    obtain ⟨h1, h2⟩ := List.pairwise_cons.1 h
    unfold insN
    split
    · rename_i hx
      refine List.pairwise_cons.2 ⟨fun y hy => ?_, h⟩
      rcases List.mem_cons.1 hy with e | e
      · omega
      · have := h1 y e; omega
    · rename_i hx
      have hne : x ≠ n := fun e => hn (by rw [e]; simp)
      refine List.pairwise_cons.2 ⟨fun y hy => ?_, ins_sorted n l h2 (fun q => hn (List.mem_cons_of_mem _ q))⟩
      rcases (ins_mem n y l).1 hy with e | e
      · omega
      · exact h1 y e
theorem seen_done (n lim : Int) : ∀ (xs acc : List Int), xs.foldl (seenStep n lim) (true, acc) = (true, acc ++ xs.filter fun x => decide (lim < x))
  | [], acc => by simp
  | x :: xs, acc => by
    rw [List.foldl_cons]
    by_cases h : lim < x
    · have e : seenStep n lim (true, acc) x = (true, acc ++ [x]) := by unfold seenStep seenOne; simp [h]
      rw [e, seen_done n lim xs, List.filter_cons_of_pos (by simpa using h)]
      simp
    · have e : seenStep n lim (true, acc) x = (true, acc) := by unfold seenStep seenOne; simp [h]
      rw [e, seen_done n lim xs, List.filter_cons_of_neg (by simpa using h)]
theorem seen_fold {n lim : Int} (hn : lim < n) : ∀ (xs acc : List Int), xs.Pairwise (fun a b => b < a) →
    (if (xs.foldl (seenStep n lim) (false, acc)).1 = true then (xs.foldl (seenStep n lim) (false, acc)).2 else (xs.foldl (seenStep n lim) (false, acc)).2 ++ [n]) = acc ++ insN n (xs.filter fun x => decide (lim < x))
  | [], acc, _ => by simp [insN]
  | x :: xs, acc, h => by
    obtain ⟨h1, h2⟩ := List.pairwise_cons.1 h
    rw [List.foldl_cons]
    by_cases hx : x < n
    · by_cases hl : lim < x
      · have e : seenStep n lim (false, acc) x = (true, acc ++ [n] ++ [x]) := by unfold seenStep seenOne; simp [hl, hx]
        rw [e, seen_done, List.filter_cons_of_pos (by simpa using hl), if_pos rfl]
        unfold insN
        rw [if_pos hx]
        simp
      · have e : seenStep n lim (false, acc) x = (true, acc ++ [n]) := by unfold seenStep seenOne; simp [hl, hx]
        have f : (xs.filter fun x => decide (lim < x)) = [] := by
          rw [List.filter_eq_nil_iff]
          intro y hy
          have := h1 y hy
          simp
          omega
        rw [e, seen_done, List.filter_cons_of_neg (by simpa using hl), if_pos rfl, f]
        simp [insN]
    · have hl : lim < x := by omega
      have e : seenStep n lim (false, acc) x = (false, acc ++ [x]) := by unfold seenStep seenOne; simp [hl, hx]
      rw [e, seen_fold hn xs (acc ++ [x]) h2, List.filter_cons_of_pos (by simpa using hl)]
      rw [show insN n (x :: xs.filter fun x => decide (lim < x)) = x :: insN n (xs.filter fun x => decide (lim < x)) by rw [insN, if_neg hx]]
      simp
theorem seenOf_ins {n lim : Int} (hn : lim < n) {xs : List Int} (h : xs.Pairwise (fun a b => b < a)) : seenOf n lim xs = insN n (xs.filter fun x => decide (lim < x)) := by
  unfold seenOf seenTo
  rw [List.take_length]
  have := seen_fold hn xs [] h
  rw [List.nil_append] at this
  exact this
theorem seenOf_mem {n lim : Int} (hn : lim < n) {xs : List Int} (h : xs.Pairwise (fun a b => b < a)) (m : Int) : m ∈ seenOf n lim xs ↔ m = n ∨ (m ∈ xs ∧ lim < m) := by
  rw [seenOf_ins hn h, ins_mem, List.mem_filter, decide_eq_true_eq]
theorem seenOf_sorted {n lim : Int} (hn : lim < n) {xs : List Int} (h : xs.Pairwise (fun a b => b < a)) (hne : n ∉ xs) : (seenOf n lim xs).Pairwise (fun a b => b < a) := by
  rw [seenOf_ins hn h]
  exact ins_sorted n _ (h.filter _) (fun q => hne (List.mem_filter.1 q).1)
theorem seenOf_len {n lim : Int} (hn : lim < n) {xs : List Int} (h : xs.Pairwise (fun a b => b < a)) : (seenOf n lim xs).length ≤ xs.length + 1 := by
  rw [seenOf_ins hn h]
  have : ∀ l : List Int, (insN n l).length = l.length + 1 := by
    intro l
    induction l with
    | nil => rfl
    | cons x l ih => unfold insN; split <;> simp [ih]
  rw [this]
  have := List.length_filter_le (fun x => decide (lim < x)) xs
  omega

/-- A window is not for a number. -/
def lateB (x : Win) (n : Int) : Bool := decide (n ≤ x.top - 8) || decide (n ∈ x.seen)
/-- A window behind a number, that is not late. -/
def tookW (x : Win) (n : Int) : Win := ⟨x.key, max x.top n, seenOf n (max x.top n - 8) x.seen⟩
/-- A window behind a number. -/
def takeW (x : Win) (n : Int) : Win × Bool := if lateB x n = true then (x, false) else (tookW x n, true)
/-- The window of WinTake. -/
def winTake (x : Win) (n : Int) : Win × Bool := if winOk x = true ∧ inB 1 999 n = true then takeW x n else (Win.none, false)
theorem late_no {x : Win} {n : Int} (h : lateB x n = false) : x.top - 8 < n ∧ n ∉ x.seen := by
  unfold lateB at h
  simp at h
  exact ⟨by omega, h.2⟩
theorem took_facts {x : Win} {n : Int} (hx : winOk x = true) (hn : 1 ≤ n ∧ n ≤ 999) (h : lateB x n = false) :
    winOk (tookW x n) = true ∧ ∀ m, m ∈ (tookW x n).seen ↔ m = n ∨ (m ∈ x.seen ∧ max x.top n - 8 < m) := by
  obtain ⟨h1, h2, h3, h4⟩ := win_facts hx
  obtain ⟨l1, l2⟩ := late_no h
  have hs := falls_sorted h4
  have hb := falls_in h4 h3.1
  have hlim : max x.top n - 8 < n := by omega
  have hm := seenOf_mem hlim hs
  refine ⟨win_of h1 h2 (by unfold tookW; simp only; omega) ?_, hm⟩
  unfold tookW
  simp only
  refine falls_of (seenOf_sorted hlim hs l2) (fun y hy => ?_) ?_
  · rcases (hm y).1 hy with e | ⟨e, e2⟩
    · omega
    · have := hb y e; omega
  · rw [hm]
    by_cases q : x.top ≤ n
    · exact .inl (by omega)
    · exact .inr ⟨by rw [show max x.top n = x.top by omega]; exact falls_mem h4, by omega⟩
#print axioms took_facts
end Go.Proofs.Ytgdhlnfigcaepaa
/-
  The specification's l4In.
-/
namespace Go.Proofs.Ytgdhlnfigcaepaa
open Go.RowKit

set_option maxHeartbeats 1000000 in
theorem l4In_any (v : Value) (xs : List Int) (n : Int) (w : World) (h : IRow w v xs) :
    Calls Try.prog 63 #[v, .int .i64 n] w fun e w' => e = .returned (.bool (decide (n ∈ xs))) ∧ w' = w := by
  obtain ⟨ao, cap, rfl, h1, h2, hc⟩ := h.form
  unfold maxLen at h2
  have HC := hide hc
  clear h hc
  go_enter Try.func63, Try.ntmps63
  go_wp2_with fail
  go_loop [5] (fun i => ∃ k : Nat, k ≤ xs.length ∧ i = .int .i64 (k : Int) ∧ Hid (∀ j, j < k → xs.getD j 0 ≠ n)) (fun i => xs.length - (intOf i).toNat)
  case atStart => exact ⟨0, by omega, rfl, fun j hj => by omega⟩
  case round =>
    obtain ⟨k, hk, rfl, hN⟩ := hrel
    by_cases hlt : k < xs.length
    · have hlt2 : (k : Int) < (xs.length : Int) := by omega
      obtain ⟨a, rfl, hck⟩ := HC.out k hlt
      have i3 : IntKind.i64.wrap ((k : Int) + 1) = (k : Int) + 1 := by simp [IntKind.wrap, IntKind.bits, IntKind.signed]; omega
      have HYES : Hid (xs.getD k 0 = n → decide (n ∈ xs) = true) := by
        intro e
        rw [decide_eq_true_eq, ← e, List.getD_eq_getElem?_getD, List.getElem?_eq_getElem hlt]
        exact List.getElem_mem _
      have HNX : Hid (xs.getD k 0 ≠ n → ∀ j, j < k + 1 → xs.getD j 0 ≠ n) := fun q j hj => by
        by_cases e : j = k
        · subst e; exact q
        · exact hN.out j (by omega)
      generalize xs.getD k 0 = y at hck HYES HNX
      by_cases he : y = n
      · have HE := hide (HYES.out he)
        have he2 : (y == n) = true := by simpa using he
        clear HYES HNX he
        go_wp2_with fail
        go_ret
        exact ⟨ret_bool' HE.out.symm, rfl⟩
      · have HN1 := hide (HNX.out he)
        have he2 : (y == n) = false := by simpa using he
        clear HYES HNX he
        go_wp2_with fail
        go_round
        case rel => exact ⟨k + 1, by omega, by simp, HN1⟩
        case measure => simp [intOf]; omega
    · have hlt2 : decide ((k : Int) < (xs.length : Int)) = false := by simp; omega
      have HE : Hid (decide (n ∈ xs) = false) := by
        show _ = _
        rw [decide_eq_false_iff_not]
        intro hm
        obtain ⟨j, hj, e⟩ := List.mem_iff_getElem.1 hm
        refine hN.out j (by omega) ?_
        rw [List.getD_eq_getElem?_getD, List.getElem?_eq_getElem hj]
        exact e
      go_wp2_with fail
      go_ret
      exact ⟨ret_bool' HE.out.symm, rfl⟩
#print axioms l4In_any
end Go.Proofs.Ytgdhlnfigcaepaa
