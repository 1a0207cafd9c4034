/-
  Proved: at every code the law FnSecApart returns true (what is made from a secret in different ways, by different ones or for different rooms, is never the same, nor that secret), and nothing that was there is written. No condition.
-/
import Derived.Test.YtkhjolfofcnhiaiFrame
import Derived.Test.YtkhjolfofcnhiaiHas
import Derived.Deep.RegionHeld3
namespace Go.Proofs.Ytkhjolfofcnhiai
open Go.ChangeShapes Go.WideShapes Go.ChangeAt Go.RowKit
open Go.ChangeMaps (open_string shut_string)
set_option linter.unusedVariables false

theorem made_three {s : ByteArray} (hk : Kw.ok s = true) (hs : s.size ≤ 140) : mkNext s = item s 1 ∧ mkKey s = item s 2 ∧ mkEpoch s s = item s 3 := by
  refine ⟨?_, ?_, ?_⟩
  · unfold mkNext; rw [if_pos hk, cap_self (made_next hk (by omega)).1]; rfl
  · unfold mkKey; rw [if_pos hk, cap_self (made_key hk (by omega)).1]; rfl
  · unfold mkEpoch; rw [if_pos ⟨hk, hk⟩, cap_self (made_epoch hk hk (by omega)).1]; rfl
theorem made_says {s : ByteArray} (hk : Kw.ok s = true) (hs : s.size ≤ 140) {k : Nat} (h : k < 8) : mkSay s (k : Int) = item s (4 + k) := by
  unfold mkSay item
  rw [if_pos ⟨hk, by omega, by omega⟩, Int.toNat_natCast, cap_self (made_say hk h (by omega)).1, if_neg (by omega), if_neg (by omega), if_neg (by omega), if_neg (by omega), if_pos (by omega), Nat.add_sub_cancel_left]
theorem made_rooms {s : ByteArray} (hk : Kw.ok s = true) (hs : s.size ≤ 140) {k : Nat} (h0 : 1 ≤ k) (h : k < 10) : mkRoom s (k : Int) = item s (11 + k) := by
  unfold mkRoom item
  rw [if_pos ⟨hk, by omega, by omega⟩, Int.toNat_natCast, cap_self (made_room hk h0 h (by omega)).1, if_neg (by omega), if_neg (by omega), if_neg (by omega), if_neg (by omega), if_neg (by omega), Nat.add_sub_cancel_left]

/-- The first n of what is made from one secret. -/
def rows (s : ByteArray) (n : Nat) : List Value := (List.range n).map fun j => .string (item s j)
theorem rows_succ (s : ByteArray) (n : Nat) : rows s n ++ [.string (item s n)] = rows s (n + 1) := by unfold rows; rw [List.range_succ, List.map_append]; rfl
theorem rows_at (s : ByteArray) (n j : Nat) (h : j < n) : (rows s n)[j]? = some (.string (item s j)) := by unfold rows; simp [h]
theorem rows_length (s : ByteArray) (n : Nat) : (rows s n).length = n := by unfold rows; simp

theorem own_below {w w' : World} {base : Nat} {e : TypeId} {size : Nat} {v : Value} {n : Nat} {xs : List Value} (h : w.ownsRow base e size v n xs) (hb : Below w.heap.size w w') : w'.ownsRow base e size v n xs := by
  refine ⟨h.1, h.2.imp id ?_⟩
  rintro ⟨g, cap, cur, h1, h2, h3, h4⟩
  have hlt : g < w.heap.size := by
    apply Classical.byContradiction
    intro hn
    rw [Array.getElem?_eq_none (by omega)] at h3
    cases h3
  exact ⟨g, cap, cur, h1, h2, (hb.block g hlt).trans h3, h4⟩

theorem own_form {w : World} {base : Nat} {e : TypeId} {size : Nat} {v : Value} {n : Nat} {xs : List Value} (h : w.ownsRow base e size v n xs) (hn : 0 < n) : ∃ g cap, v = .slice (some ⟨g, 0, none⟩) n cap := by
  rcases h.2 with ⟨_, h2⟩ | ⟨g, cap, cur, h1, _⟩
  · omega
  · exact ⟨g, cap, h1⟩
theorem own_cap {w : World} {base : Nat} {e : TypeId} {size g cap : Nat} {n : Nat} {xs : List Value} (h : w.ownsRow base e size (.slice (some ⟨g, 0, none⟩) n cap) n xs) : n ≤ cap := by
  rcases h.2 with ⟨h1, _⟩ | ⟨g', cap', cur, h1, _, _, h2, _⟩
  · cases h1
  · cases h1; exact h2

theorem info_str : (Try.prog.info? 9).map (fun i => (i.zero, i.size, i.bytes)) = some (some (.string ⟨#[]⟩), 1, 16) := by kernel_rfl

theorem grow_on {B : Nat} {w w6 w7 : World} {o : Obj} {v v' : Value} {s : ByteArray} {n : Nat} (hO : w6.ownsRow B 9 1 v n (rows s n)) (hbl : Below B w w6) (hB : B ≤ w.heap.size)
    (hown' : w7.ownsRow B 9 1 v' (n + 1) (rows s n ++ [.string (item s n)])) (hg : (w6.alloc o).grownBy w7 v.ownBlock) : w7.ownsRow B 9 1 v' (n + 1) (rows s (n + 1)) ∧ Below B w w7 := by
  rw [rows_succ] at hown'
  have hs := hbl.size
  exact ⟨hown', (hbl.alloc (by omega) o).grown hg (by simp; omega) (fun k hk => (hO.lt k hk).1)⟩

set_option maxRecDepth 100000 in
set_option maxHeartbeats 8000000 in
theorem walk_FnSecApart (a0 : Option Addr) (len0 cap0 : Nat) (z0 : List Int) (w : World) (w0 : IsRow .u8 w a0 len0 cap0 z0) :
    Calls Try.prog 4 #[.slice a0 len0 cap0] w fun e w' => e = .returned (.bool true) ∧ Below w.heap.size w w' := by
  have hR := hide w0
  clear w0
  by_cases h : (1048576 : Int) < (len0 : Int)
  · go_enter Try.func4, Try.ntmps4
    go_wp2_with fail
    go_ret
    exact ⟨rfl, Below.refl _ _⟩
  have h2 : decide ((1048576 : Int) < (len0 : Int)) = false := by simpa using h
  clear h
  go_enter Try.func4, Try.ntmps4
  go_wp2_with fail
  refine (DrawMakNext_any a0 len0 cap0 z0 _ (unhide hR)).mono ?_
  rintro e w1 ⟨s, rfl, hs, hb1⟩
  have M : Hid (s.size ≤ maxLen) := le_maxLen (by omega)
  have HB1 := hide hb1
  have hle1 := hb1.size
  clear hb1 hR
  by_cases hbad : Kw.ok s = false
  · have HBAD := hide hbad
    clear hbad
    go_wp2_with fail
    refine (sSecOk_any s _ M.out).mono ?_
    rw [HBAD.out]
    rintro e w2 ⟨rfl, hb2⟩
    have HB2 := hide ((unhide HB1).trans (hb2.mono hle1))
    have hle2 := HB2.out.size
    clear hb2
    go_wp2_with fail
    refine (iSecOk_any s _ M.out).mono ?_
    rw [HBAD.out]
    rintro e w3 ⟨rfl, hb3⟩
    have HB3 := hide ((unhide HB2).trans (hb3.mono hle2))
    have hle3 := HB3.out.size
    clear hb3
    go_wp2_with fail
    refine (sSecOk_any s _ M.out).mono ?_
    rw [HBAD.out]
    rintro e w4 ⟨rfl, hb4⟩
    have HB4 := hide ((unhide HB3).trans (hb4.mono hle3))
    have hle4 := HB4.out.size
    clear hb4
    go_wp2_with fail
    refine (keOk_any _).mono ?_
    rintro e w5 ⟨rfl, hb5⟩
    have HB5 := hide ((unhide HB4).trans (hb5.mono hle4))
    clear hb5
    go_wp2_with fail
    go_ret
    exact ⟨rfl, unhide HB5⟩
  have hk : Kw.ok s = true := by cases q : Kw.ok s with | true => rfl | false => exact absurd q hbad
  have HK := hide hk
  clear hbad hk
  by_cases hlong : 140 < s.size
  · have hl2 : (140 : Int) < (s.size : Int) := by omega
    go_wp2_with fail
    refine (sSecOk_any s _ M.out).mono ?_
    rw [HK.out]
    rintro e w2 ⟨rfl, hb2⟩
    have HB2 := hide ((unhide HB1).trans (hb2.mono hle1))
    have hle2 := HB2.out.size
    clear hb2
    go_wp2_with fail
    refine (iSecOk_any s _ M.out).mono ?_
    rw [HK.out]
    rintro e w3 ⟨rfl, hb3⟩
    have HB3 := hide ((unhide HB2).trans (hb3.mono hle2))
    have hle3 := HB3.out.size
    clear hb3
    go_wp2_with fail
    refine (sSecOk_any s _ M.out).mono ?_
    rw [HK.out]
    rintro e w4 ⟨rfl, hb4⟩
    have HB4 := hide ((unhide HB3).trans (hb4.mono hle3))
    have hle4 := HB4.out.size
    clear hb4
    go_wp2_with fail
    refine (keOk_any _).mono ?_
    rintro e w5 ⟨rfl, hb5⟩
    have HB5 := hide ((unhide HB4).trans (hb5.mono hle4))
    clear hb5
    go_wp2_with fail
    go_ret
    exact ⟨rfl, unhide HB5⟩
  have hl2 : decide ((140 : Int) < (s.size : Int)) = false := by simp; omega
  have hs140 : s.size ≤ 140 := by omega
  go_wp2_with fail
  refine (sSecOk_any s _ M.out).mono ?_
  rw [HK.out]
  rintro e w2 ⟨rfl, hb2⟩
  have HB2 := hide ((unhide HB1).trans (hb2.mono hle1))
  have hle2 := HB2.out.size
  clear hb2
  have hE : Hid (mkNext s = item s 1 ∧ mkKey s = item s 2 ∧ mkEpoch s s = item s 3) := made_three HK.out hs140
  go_wp2_with fail
  refine (iMakNext_any s _ M.out).mono ?_
  rw [hE.out.1]
  rintro e w3 ⟨rfl, hb3⟩
  have HB3 := hide ((unhide HB2).trans (hb3.mono hle2))
  have hle3 := HB3.out.size
  clear hb3
  go_wp2_with fail
  refine (iMakKey_any s _ M.out).mono ?_
  rw [hE.out.2.1]
  rintro e w4 ⟨rfl, hb4⟩
  have HB4 := hide ((unhide HB3).trans (hb4.mono hle3))
  have hle4 := HB4.out.size
  clear hb4
  go_wp2_with fail
  refine (iMakEpoch_any s s _ M.out M.out).mono ?_
  rw [hE.out.2.2]
  rintro e w5 ⟨rfl, hb5⟩
  have HB5 := hide ((unhide HB4).trans (hb5.mono hle4))
  have hle5 := HB5.out.size
  clear hb5
  have hO5 : Hid ((w5.alloc (Obj.cells #[Value.string s, Value.string (item s 1), Value.string (item s 2), Value.string (item s 3)] 9)).ownsRow w.heap.size 9 1 (.slice (some ⟨w5.heap.size, 0, none⟩) (4 + 0) 4) (4 + 0) (rows s (4 + 0))) := by
    have h := World.ownsRow_lit (base := w.heap.size) (e := 9) (size := 1) w5 #[Value.string s, Value.string (item s 1), Value.string (item s 2), Value.string (item s 3)] 4 (by omega) (by unfold maxLen; omega) rfl
    exact h
  have HB5' := hide ((unhide HB5).alloc hle5 (Obj.cells #[Value.string s, Value.string (item s 1), Value.string (item s 2), Value.string (item s 3)] 9))
  obtain ⟨i0, hi, hz0, hz1, hz2⟩ := info_parts info_str
  have hI := hide (And.intro hi (And.intro hz0 (And.intro hz1 hz2)))
  clear hi hz0 hz1 hz2
  go_wp2_with fail
  go_loopw [4, 5] (fun v i wr => ∃ k : Nat, k ≤ 8 ∧ i = .int .i64 (k : Int) ∧ Hid (wr.ownsRow w.heap.size 9 1 v (4 + k) (rows s (4 + k))) ∧ Hid (Below w.heap.size w wr)) (fun _ i _ => 8 - (intOf i).toNat)
  case atStart => exact ⟨0, by omega, rfl, hO5, HB5'⟩
  case round =>
    clear hO5 HB5'
    obtain ⟨k, hk, rfl, hO, hL⟩ := hrel
    by_cases hlt : k < 8
    · have hlt2 : (k : Int) < 8 := by omega
      have hle := hL.out.size
      go_wp2_with fail
      refine (iMakSay_any s _ _ M.out).mono ?_
      rw [made_says HK.out hs140 hlt]
      rintro e w6 ⟨rfl, hb6⟩
      have hO6 := hide (own_below (unhide hO) hb6)
      have hL6 := hide ((unhide hL).trans (hb6.mono hle))
      have hle6 := hL6.out.size
      clear hO hL hb6
      go_wp2_with (at_builtin; refine wpList_append_own _ rfl _ _ 32 rfl w.heap.size 9 i0 (.string ⟨#[]⟩) 1 16 Try.underlying32 (unhide hI).1 (unhide hI).2.1 (unhide hI).2.2.1 (unhide hI).2.2.2 rfl (by decide) _ _ _ rfl ((unhide hO6).alloc _) ⟨w6.heap.size, 0, none⟩ 1 1 [.string (item s (4 + k))] rfl rfl ?c1 ?c2 ?c3 ?c4 ?c5 ?_)
      case c1 =>
        intro j u hj
        match j, hj with
        | 0, hj => simp at hj; subst hj; simp [Addr.add]
      case c2 => intro u hu; simp at hu; subst hu; rfl
      case c3 => unfold maxLen; omega
      case c4 => omega
      case c5 => simp; omega
      intro v' w7 hown' hgrow _
      have R := grow_on (unhide hO6) (unhide hL6) (Nat.le_refl _) hown' hgrow
      have R1 := hide R.1
      have R2 := hide R.2
      clear R hown' hgrow hO6 hL6
      go_wp2_with fail
      go_roundw
      case rel => exact ⟨k + 1, by omega, by simp, R1, R2⟩
      case measure => simp [intOf]; omega
    · have hlt2 : decide ((k : Int) < 8) = false := by simp; omega
      have hk8 : k = 8 := by omega
      subst hk8
      rw [show ((8 : Nat) : Int) = 8 from rfl]
      go_wp2_with fail
      go_loopw [4, 6] (fun v i wr => ∃ k : Nat, 1 ≤ k ∧ k ≤ 10 ∧ i = .int .i64 (k : Int) ∧ Hid (wr.ownsRow w.heap.size 9 1 v (11 + k) (rows s (11 + k))) ∧ Hid (Below w.heap.size w wr)) (fun _ i _ => 10 - (intOf i).toNat)
      case atStart => exact ⟨1, by omega, by omega, rfl, hO, hL⟩
      case round =>
        clear hO hL
        obtain ⟨k, hk0, hk, rfl, hO, hL⟩ := hrel
        by_cases hlt : k < 10
        · have hlt2 : (k : Int) ≤ 9 := by omega
          have hle := hL.out.size
          go_wp2_with fail
          refine (iMakRoom_any s _ _ M.out).mono ?_
          rw [made_rooms HK.out hs140 hk0 hlt]
          rintro e w6 ⟨rfl, hb6⟩
          have hO6 := hide (own_below (unhide hO) hb6)
          have hL6 := hide ((unhide hL).trans (hb6.mono hle))
          have hle6 := hL6.out.size
          clear hO hL hb6
          go_wp2_with (at_builtin; refine wpList_append_own _ rfl _ _ 32 rfl w.heap.size 9 i0 (.string ⟨#[]⟩) 1 16 Try.underlying32 (unhide hI).1 (unhide hI).2.1 (unhide hI).2.2.1 (unhide hI).2.2.2 rfl (by decide) _ _ _ rfl ((unhide hO6).alloc _) ⟨w6.heap.size, 0, none⟩ 1 1 [.string (item s (11 + k))] rfl rfl ?c1 ?c2 ?c3 ?c4 ?c5 ?_)
          case c1 =>
            intro j u hj
            match j, hj with
            | 0, hj => simp at hj; subst hj; simp [Addr.add]
          case c2 => intro u hu; simp at hu; subst hu; rfl
          case c3 => unfold maxLen; omega
          case c4 => omega
          case c5 => simp; omega
          intro v' w7 hown' hgrow _
          have R := grow_on (unhide hO6) (unhide hL6) (Nat.le_refl _) hown' hgrow
          have R1 := hide R.1
          have R2 := hide R.2
          clear R hown' hgrow hO6 hL6
          go_wp2_with fail
          go_roundw
          case rel => exact ⟨k + 1, by omega, by omega, by simp, R1, R2⟩
          case measure => simp [intOf]; omega
        · have hlt2 : decide ((k : Int) ≤ 9) = false := by simp; omega
          have hk10 : k = 10 := by omega
          subst hk10
          obtain ⟨g, cap, hv⟩ := own_form (unhide hO) (by omega)
          subst hv
          rw [show ((10 : Nat) : Int) = 10 from rfl, show (11 + 10 : Nat) = 21 from rfl]
          go_wp2_with fail
          go_loopw [7] (fun i wr => ∃ k : Nat, k ≤ 21 ∧ i = .int .i64 (k : Int) ∧ Hid (wr.ownsRow w.heap.size 9 1 (.slice (some ⟨g, 0, none⟩) 21 cap) 21 (rows s 21)) ∧ Hid (Below w.heap.size w wr)) (fun i _ => 21 - (intOf i).toNat)
          case atStart => exact ⟨0, by omega, rfl, hO, hL⟩
          case round =>
            clear hO hL
            obtain ⟨k, hk, rfl, hO, hL⟩ := hrel
            by_cases hlt : k < 21
            · have hlt2 : (k : Int) < 21 := by omega
              have hle := hL.out.size
              have hcap : k ≤ cap := by have := own_cap (unhide hO); omega
              have hc1 : wr.cell? ⟨g, k, none⟩ = some (.string (item s k)) := by rw [(unhide hO).cellAt k (by omega)]; exact rows_at s 21 k hlt
              have MI : Hid ((item s k).size ≤ maxLen) := le_maxLen (by have := (ok_facts (item_ok HK.out hs140 hlt)).1; omega)
              have hcapi : (k : Int) ≤ (cap : Int) := by omega
              have hcap0 : ¬ cap = 0 := by have := own_cap (unhide hO); omega
              have hIO : Hid (Kw.ok (item s k) = true) := item_ok HK.out hs140 hlt
              have hIN : Hid (∀ j, j < k → item s j ≠ item s k) := fun j hj => item_ne HK.out hs140 hj hlt
              go_wp2_with fail
              go_region_held3 (fun w' => w'.cell? ⟨g, k, none⟩ = some (.string (item s k)))
                ((first | exact hc6 | exact hc7 | simp [go_sem, hc1]))
                ((first
                  | (go_at_call 11; refine (iSecOk_any _ _ MI.out).mono ?_; rw [hIO.out]; rintro e w6 ⟨rfl, hb6⟩; have hO6 := hide (own_below (World.ownsRow.drew (unhide hO)) hb6); have hL6 := hide ((unhide hL).drew.trans (hb6.mono hle)); have hle6 := hL6.out.size; have hc6 : w6.cell? ⟨g, k, none⟩ = some (.string (item s k)) := (by rw [(unhide hO6).cellAt k (by omega)]; exact rows_at s 21 k hlt); clear hb6)
                  | (go_at_call 18; refine (keHas_no g k cap (item s) (item s k) _ (by omega) (fun j hj => by rw [(unhide hO6).cellAt j (by omega)]; exact rows_at s 21 j (by omega)) hIN.out).mono ?_; rintro e w7 ⟨rfl, hb7⟩; have hO7 := hide (own_below (unhide hO6) hb7); have hL7 := hide ((unhide hL6).trans (hb7.mono hle6)); have hc7 : w7.cell? ⟨g, k, none⟩ = some (.string (item s k)) := (by rw [(unhide hO7).cellAt k (by omega)]; exact rows_at s 21 k hlt); clear hb7)))
              clear hO hO6 hL6 hc6 hc7 hc1
              go_wp2_with fail
              go_roundw
              case rel => exact ⟨k + 1, by omega, by simp, hO7, hL7⟩
              case measure => simp [intOf]; omega
            · have hlt2 : decide ((k : Int) < 21) = false := by simp; omega
              go_wp2_with fail
              go_ret
              exact ⟨rfl, unhide hL⟩

set_option maxRecDepth 100000 in
theorem lifted_FnSecApart (os : Os) (started : os.Started) (H : Type) (enc : TypeId × Value → H) :
    ReturnsInHanded {} Try.checked os 4 .any (Rows.fnSecApartSpec.pre6 enc Try.prog Try.f4 Rows.fnSecApartRow.domain false) (Rows.fnSecApartSpec.post enc Try.prog Try.f4 false true false false) := by
  refine returnsInHanded_of_change (C := Try.checked) own started (by kernel_rfl) Try.func4
    (ChangeSpec.witness6 (enc := enc) (C := Try.checked) false ⟨#[], #[.slice none 0 0], []⟩ 8 (by kernel_rfl) (by kernel_rfl) (by kernel_rfl) (by kernel_rfl)) ?_
  intro W base args ds gs before hval0 hW hcnd _
  have hval : ∀ (j : Nat) t v, Try.f4.params[j]? = some t → args[j]? = some v → Value.okWide Try.prog W .any base t v := hval0
  have hW' := hW
  obtain ⟨p, q, hA0, hV, rfl, hfz, hnd⟩ := hW
  have hA : DataW.TrodAll enc Try.prog W 0 (fun _ => true) true Try.f4.params.toList args.toList ds p := hA0
  rw [Try.params4] at hA hval
  obtain ⟨v0, vs0, d0, ds0, p0, q0, hargs, rfl, rfl, h0, r0⟩ := trodAll_cons hA
  obtain ⟨rfl, rfl, rfl⟩ := trodAll_nil r0
  obtain rfl : args = #[v0] := by cases args; simp_all
  obtain ⟨rfl, rfl⟩ := trodVars_none hV
  obtain ⟨a0, len0, cap0, rfl⟩ := okWide_slice Try.underlying22 (hval 0 22 v0 rfl rfl)
  have k0 := h0
  have lt0 : ∀ x ∈ p0, x.block < W.heap.size := by obtain ⟨m, hm⟩ := k0; exact DataW.trod_lt m _ _ _ hm
  obtain ⟨z0, w0⟩ : ∃ zs, IsRow .u8 W a0 len0 cap0 zs := by
    obtain ⟨fuel, hf⟩ := h0
    rcases open_ints Try.underlying22 Try.underlying5 (by kernel_rfl) hf with ⟨hcs, _⟩ | ⟨x, l, c, zs, hcs, _, hl, hm, hz, _, hcell, hwz⟩
    · simp [Value.cells] at hcs
      obtain ⟨rfl, rfl, rfl⟩ := hcs
      exact ⟨[], .inl ⟨rfl, rfl, rfl, rfl⟩⟩
    · simp [Value.cells] at hcs
      obtain ⟨rfl, rfl, rfl⟩ := hcs
      exact ⟨zs, .inr ⟨_, rfl, hl, hm, by simpa using hz, hcell, hwz⟩⟩
  clear hA0 hval0
  refine (walk_FnSecApart a0 len0 cap0 z0 W w0).mono fun e W' ⟨he, bel⟩ => ?_
  subst he
  exact ⟨_, rfl, _, _, _, [], _, [], hW', trodAll_mk1 (shut_bool Try.underlying4 _), (trodAll_cons_mk (Below.trod laidOut (by kernel_rfl) (of_decide_eq_true (by kernel_rfl)) k0 bel lt0) trodAll_mk0), rfl, bel.frame _, fun h => by cases h⟩

theorem fnSecApart_holds : Rows.FnSecApartSaid :=
  OpenClaim.holds_of_wide 4 Try.f4 rfl rfl rfl rfl rfl rfl rfl ⟨rfl, rfl, rfl, rfl, rfl⟩ rfl rfl rfl rfl rfl (by kernel_rfl) Try.func4 (by kernel_rfl)
    (of_decide_eq_true (by kernel_rfl)) (by unfold Func.isWrapper; first | (rw [if_pos (by decide +kernel)]; kernel_rfl) | (rw [if_neg (by decide +kernel)]; exact ⟨rfl, rfl⟩))
    (fun os started H enc _ => lifted_FnSecApart os started H enc)

#print axioms fnSecApart_holds
end Go.Proofs.Ytkhjolfofcnhiai
