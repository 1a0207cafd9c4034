/-
  The specification's l6Take.
-/
import Derived.Test.YtgdhlnfigcaepaaFnExactWinTakeB3
import Derived.Test.YtgdhlnfigcaepaaFnExactWinTakeB4
import Derived.Test.YtgdhlnfigcaepaaFnExactWinTakeB1
import Derived.Test.YtgdhlnfigcaepaaFnExactWinTakeB2
import Derived.Deep.RegionHeld3
import Derived.BigRegion
namespace Go.Proofs.Ytgdhlnfigcaepaa
open Go.RowKit

/-- What a window behind a number is, as a value. -/
def TakeR (B : Nat) (x : Win) (n : Int) (v : Value) (w' : World) (v' : Value) : Prop := (lateB x n = true → v' = v) ∧ (lateB x n = false → OwnI B w' v' (tookW x n).seen)

set_option maxRecDepth 100000 in
set_option maxHeartbeats 4000000 in
theorem l6Take_any (x : Win) (v : Value) (n : Int) (w : World) (hI : IRow w v x.seen) (hl : x.seen.length ≤ 1000) (ht : -1000000 ≤ x.top ∧ x.top ≤ 1000000) (hn : -1000000 ≤ n ∧ n ≤ 1000000) :
    Calls Try.prog 45 #[.agg (x.cells v), .int .i64 n] w fun e w' => ∃ v', e = .returned (.tuple #[.agg ((takeW x n).1.cells v'), .bool (takeW x n).2]) ∧ TakeR w.heap.size x n v w' v' ∧ Below w.heap.size w w' := by
  have HT : Hid (takeW x n = if lateB x n = true then (x, false) else (tookW x n, true)) := rfl
  have HL : Hid (lateB x n = (decide (n ≤ x.top - 8) || decide (n ∈ x.seen))) := rfl
  have HK : Hid (tookW x n = ⟨x.key, max x.top n, seenOf n (max x.top n - 8) x.seen⟩) := rfl
  obtain ⟨lb, hlb⟩ : ∃ b, lateB x n = b := ⟨_, rfl⟩
  have HR : Hid (∀ B w' v', TakeR B x n v w' v' = ((lateB x n = true → v' = v) ∧ (lateB x n = false → OwnI B w' v' (tookW x n).seen))) := fun _ _ _ => rfl
  obtain ⟨key, top, xs⟩ := x
  simp only at hI hl ht HL HK HT HR hlb ⊢
  have HI := hide hI
  obtain ⟨ao, cap, rfl, _, _, _⟩ := hI.form
  clear hI
  have i8 : IntKind.i64.wrap (top - 8) = top - 8 := by simp [IntKind.wrap, IntKind.bits, IntKind.signed]; omega
  have a1' := ((Blk.new w 35 (winC key top (.slice ao xs.length cap))).alloc (.cells noWin 35))
  have r1' := Blk.new (w.alloc (.cells (winC key top (.slice ao xs.length cap)) 35)) 35 noWin
  have HB := hide (((Below.refl w.heap.size w).alloc (Nat.le_refl _) (.cells (winC key top (.slice ao xs.length cap)) 35)).alloc (by simp) (.cells noWin 35))
  have hw0 := World.size_alloc (w.alloc (.cells (winC key top (.slice ao xs.length cap)) 35)) (.cells noWin 35)
  simp only [World.size_alloc] at r1' hw0
  have A := hide a1'
  have R := hide r1'
  clear a1' r1'
  have c1 := (unhide A).cell 1
  have c2 := (unhide A).cell 2
  simp only [List.getElem?_toArray, List.getElem?_cons_zero, List.getElem?_cons_succ] at c1 c2
  have L0 := hide (load_wi (unhide A) rfl)
  have L1 := hide (load_wi ((unhide R).set (winC key top (.slice ao xs.length cap))) rfl)
  by_cases g1 : n ≤ top - 8
  · have HLT : Hid (lateB ⟨key, top, xs⟩ n = true) := by show _ = _; rw [HL.out, decide_eq_true g1]; rfl
    clear hlb
    go_enter Try.func45, Try.ntmps45
    have HTE : Hid (takeW ⟨key, top, xs⟩ n = (⟨key, top, xs⟩, false)) := by show _ = _; rw [HT.out, if_pos HLT.out]
    go_wp2_with (first | refine wpList_load_whole rfl 35 _ rfl ⟨w.heap.size, 0, none⟩ rfl _ (by exact unhide L0) ?_ | refine wpList_store_whole rfl 35 (.tmp 4) (.tmp 18) rfl (w.heap.size + 1) (winC key top (.slice ao xs.length cap)) ?hx1 ?hy1 35 noWin ?hb1 ?hi1 ?ho1 ?h11 ?h1)
    any_goals (first | rfl | exact unhide R | exact info_wi | exact one_wi _ _ _ _ _)
    go_wp2_with fail
    refine bodyPost_ret (v := .tuple #[.agg (winC key top (.slice ao xs.length cap)), .bool false]) (results_cs rfl rfl rfl (unhide L1)) rfl ?_
    rw [HTE.out]
    refine ⟨_, rfl, ?_, below_blk HB.out (by omega) _⟩
    rw [HR.out]
    exact ⟨fun _ => rfl, fun q => by rw [HLT.out] at q; cases q⟩
  have g2 : decide (n ≤ top - 8) = false := by simpa using g1
  go_enter Try.func45, Try.ntmps45
  go_wp2_with fail
  refine (l4In_any _ xs n _ ((unhide HI).below HB.out)).mono ?_
  by_cases g3 : n ∈ xs
  · rw [decide_eq_true g3]
    rintro e wz ⟨rfl, rfl⟩
    have HLT : Hid (lateB ⟨key, top, xs⟩ n = true) := by show _ = _; rw [HL.out, decide_eq_true g3, Bool.or_true]
    clear hlb
    have HTE : Hid (takeW ⟨key, top, xs⟩ n = (⟨key, top, xs⟩, false)) := by show _ = _; rw [HT.out, if_pos HLT.out]
    go_wp2_with (first | refine wpList_load_whole rfl 35 _ rfl ⟨w.heap.size, 0, none⟩ rfl _ (by exact unhide L0) ?_ | refine wpList_store_whole rfl 35 (.tmp 4) (.tmp 18) rfl (w.heap.size + 1) (winC key top (.slice ao xs.length cap)) ?hx2 ?hy2 35 noWin ?hb2 ?hi2 ?ho2 ?h12 ?h2)
    any_goals (first | rfl | exact unhide R | exact info_wi | exact one_wi _ _ _ _ _)
    go_wp2_with fail
    refine bodyPost_ret (v := .tuple #[.agg (winC key top (.slice ao xs.length cap)), .bool false]) (results_cs rfl rfl rfl (unhide L1)) rfl ?_
    rw [HTE.out]
    refine ⟨_, rfl, ?_, below_blk HB.out (by omega) _⟩
    rw [HR.out]
    exact ⟨fun _ => rfl, fun q => by rw [HLT.out] at q; cases q⟩
  rw [decide_eq_false g3]
  rintro e wz ⟨rfl, rfl⟩
  have HLF : Hid (lateB ⟨key, top, xs⟩ n = false) := by show _ = _; rw [HL.out, g2, decide_eq_false g3]; rfl
  have HTE : Hid (takeW ⟨key, top, xs⟩ n = (tookW ⟨key, top, xs⟩ n, true)) := by show _ = _; rw [HT.out, HLF.out]; rfl
  have htp : -1000000000 ≤ max top n ∧ max top n ≤ 1000000000 := by omega
  clear hlb g1 g2 g3 L0 L1 HL HT
  go_wp2_with fail
  generalize max top n = tp at *
  generalize (w.alloc (.cells (winC key top (.slice ao xs.length cap)) 35)).alloc (.cells noWin 35) = W0 at *
  replace A := hide ((unhide A).drew)
  replace R := hide ((unhide R).drew)
  replace HB : Hid (Below w.heap.size w W0.drew) := HB.out.drew
  clear c1 c2
  have cA : W0.drew.cell? ⟨w.heap.size, 0, none⟩ = some (.string key) := (unhide A).cell 0
  have cB : W0.drew.cell? ⟨w.heap.size, 2, none⟩ = some (.slice ao xs.length cap) := (unhide A).cell 2
  have C4 := hide (And.intro cA cB)
  have LT4 : Hid (∀ x ∈ ([⟨w.heap.size, 0, none⟩, ⟨w.heap.size, 2, none⟩] : List Addr), x.block < W0.drew.heap.size) := by
    intro x hx
    simp only [List.mem_cons, List.not_mem_nil, or_false] at hx
    rcases hx with rfl | rfl
    · exact cell_lt cA
    · exact cell_lt cB
  clear cA cB
  refine wp_region_ord ((KeepC ([⟨w.heap.size, 0, none⟩, ⟨w.heap.size, 2, none⟩] : List Addr))) (by kernel_rfl) ?_
  refine ord_take (keepCPre _) (i := 0) (d := 23) (v := ?_) (by kernel_rfl) (by kernel_rfl) (by kernel_rfl) (by kernel_rfl) (fun _ _ _ h => h) (fun oi hoi => ?_) ?_
  rotate_left
  · simp at hoi
    subst hoi
    refine ⟨by rfl, fun w' hw' => ?_⟩
    go_simp
    all_goals rfl
  try simp only [Act.put, List.setIfInBounds_toArray, List.set_cons_zero, List.set_cons_succ]
  refine ord_take (keepCPre _) (i := 1) (d := 24) (v := ?_) (by kernel_rfl) (by kernel_rfl) (by kernel_rfl) (by kernel_rfl) (fun _ _ _ h => h) (fun oi hoi => ?_) ?_
  rotate_left
  · simp at hoi
    subst hoi
    refine ⟨by rfl, fun w' hw' => ?_⟩
    have xq := (hw' ⟨w.heap.size, 0, none⟩ (by simp)).trans C4.out.1
    go_simp
    all_goals rfl
  try simp only [Act.put, List.setIfInBounds_toArray, List.set_cons_zero, List.set_cons_succ]
  refine ord_take (keepCPre _) (i := 2) (d := 25) (v := ?_) (by kernel_rfl) (by kernel_rfl) (by kernel_rfl) (by kernel_rfl) (fun _ _ _ h => h) (fun oi hoi => ?_) ?_
  rotate_left
  · simp at hoi
    subst hoi
    refine ⟨by rfl, fun w' hw' => ?_⟩
    go_simp
    all_goals rfl
  try simp only [Act.put, List.setIfInBounds_toArray, List.set_cons_zero, List.set_cons_succ]
  refine ord_take (keepCPre _) (i := 3) (d := 26) (v := ?_) (by kernel_rfl) (by kernel_rfl) (by kernel_rfl) (by kernel_rfl) (fun _ _ _ h => h) (fun oi hoi => ?_) ?_
  rotate_left
  · simp at hoi
    subst hoi
    refine ⟨by rfl, fun w' hw' => ?_⟩
    go_simp
    all_goals rfl
  try simp only [Act.put, List.setIfInBounds_toArray, List.set_cons_zero, List.set_cons_succ]
  refine ord_take (keepCPre _) (i := 4) (d := 27) (v := ?_) (by kernel_rfl) (by kernel_rfl) (by kernel_rfl) (by kernel_rfl) (fun _ _ _ h => h) (fun oi hoi => ?_) ?_
  rotate_left
  · simp at hoi
    subst hoi
    refine ⟨by rfl, fun w' hw' => ?_⟩
    have xq := (hw' ⟨w.heap.size, 2, none⟩ (by simp)).trans C4.out.2
    go_simp
    all_goals rfl
  try simp only [Act.put, List.setIfInBounds_toArray, List.set_cons_zero, List.set_cons_succ]
  refine ord_take (keepCPre _) (i := 5) (d := 28) (v := ?_) (by kernel_rfl) (by kernel_rfl) (by kernel_rfl) (by kernel_rfl) (fun _ _ _ h => h) (fun oi hoi => ?_) ?_
  rotate_left
  · simp at hoi
    subst hoi
    refine ⟨by rfl, fun w' hw' => ?_⟩
    go_simp
    all_goals rfl
  try simp only [Act.put, List.setIfInBounds_toArray, List.set_cons_zero, List.set_cons_succ]
  refine ord_take (keepCPre _) (i := 6) (d := 29) (v := ?_) (by kernel_rfl) (by kernel_rfl) (by kernel_rfl) (by kernel_rfl) (fun _ _ _ h => h) (fun oi hoi => ?_) ?_
  rotate_left
  · simp at hoi
    subst hoi
    refine ⟨by rfl, fun w' hw' => ?_⟩
    go_simp
    all_goals rfl
  try simp only [Act.put, List.setIfInBounds_toArray, List.set_cons_zero, List.set_cons_succ]
  refine ord_one (i := 7) (by kernel_rfl) (fun oi K hoi hK => ?_)
  simp at hoi
  subst hoi
  refine ⟨by rfl, ?_⟩
  go_simp
  refine (l6Seen_any _ xs n tp _ ((unhide HI).below HB.out) hl htp).mono ?_
  rintro e w1 ⟨u, rfl, ho, hb⟩
  obtain ⟨uo, uc, rfl⟩ := row_form' ho
  have hle := HB.out.size
  have hbs := hb.size
  have OS : Hid (OwnI w.heap.size w1 (.slice uo (seenOf n (tp - 8) xs).length uc) (seenOf n (tp - 8) xs)) := row_lowB ho hle
  go_simp
  refine hK.out _ _ (keepC_below hb LT4.out) ?_
  clear hK ho
  replace R := hide ((unhide R).below hb)
  replace HB := hide (HB.out.trans (hb.mono hle))
  have LT5 : Hid (∀ x ∈ ([⟨w.heap.size, 0, none⟩, ⟨w.heap.size, 2, none⟩] : List Addr), x.block < w1.heap.size ∧ x.block ≠ w.heap.size + 1) := by
    intro x hx
    refine ⟨Nat.lt_of_lt_of_le (LT4.out x hx) hbs, ?_⟩
    simp only [List.mem_cons, List.not_mem_nil, or_false] at hx
    rcases hx with rfl | rfl
    · show w.heap.size ≠ w.heap.size + 1; omega
    · show w.heap.size ≠ w.heap.size + 1; omega
  clear hb LT4 hle hbs
  try simp only [Act.put, List.setIfInBounds_toArray, List.set_cons_zero, List.set_cons_succ]
  refine ord_take (keepCPre _) (i := 8) (d := 31) (v := ?_) (by kernel_rfl) (by kernel_rfl) (by kernel_rfl) (by kernel_rfl) (fun _ _ _ h => h) (fun oi hoi => ?_) ?_
  rotate_left
  · simp at hoi
    subst hoi
    refine ⟨by rfl, fun w' hw' => ?_⟩
    go_simp
    all_goals rfl
  try simp only [Act.put, List.setIfInBounds_toArray, List.set_cons_zero, List.set_cons_succ]
  refine ord_one (i := 9) (by kernel_rfl) (fun oi K hoi hK => ?_)
  simp at hoi
  subst hoi
  refine ⟨by rfl, ?_⟩
  refine wp_store_row 35 (.tmp 4) (.tmp 31) rfl (w.heap.size + 1) (winC key tp (.slice uo (seenOf n (tp - 8) xs).length uc)) rfl rfl 35 noWin (unhide R) info_wi rfl (one_wi _ _ _ _ _) ?_
  refine hK.out _ _ (keepC_row LT5.out (grown_setRow _ _ _)) ?_
  clear hK
  try simp only [Act.put]
  refine ord_take (keepCPre _) (i := 10) (d := 5) (v := ?_) (by kernel_rfl) (by kernel_rfl) (by kernel_rfl) (by kernel_rfl) (fun _ _ _ h => h) (fun oi hoi => ?_) ?_
  rotate_left
  · simp at hoi
    subst hoi
    refine ⟨by rfl, fun w' hw' => ?_⟩
    go_simp
    all_goals rfl
  try simp only [Act.put, List.setIfInBounds_toArray, List.set_cons_zero, List.set_cons_succ]
  refine later_done (by kernel_rfl) ?_ _
  have l2 := load_wi ((unhide R).set (winC key tp (.slice uo (seenOf n (tp - 8) xs).length uc))) rfl
  go_wp2_with fail
  refine bodyPost_ret (v := .tuple #[.agg (winC key tp (.slice uo (seenOf n (tp - 8) xs).length uc)), .bool true]) (results_cs rfl rfl rfl l2) rfl ?_
  rw [HTE.out, HK.out]
  refine ⟨_, rfl, ?_, below_blk HB.out (by omega) _⟩
  rw [HR.out]
  refine ⟨fun q => (by rw [HLF.out] at q; cases q), fun _ => ?_⟩
  rw [HK.out]
  exact row_blk (unhide OS) (unhide R) (by decide) _
#print axioms l6Take_any
end Go.Proofs.Ytgdhlnfigcaepaa
/-
  A byte as a text. No Go function in it.
-/
namespace Go.Proofs.Ytgdhlnfigcaepaa
open Go.RowKit

theorem conv1 (W : World) (a : Addr) (n : Int) (h : W.cell? a = some (.int .u8 n)) :
    (convert 43 9 (.slice (some a) 1 1)).run Try.prog W = .ok (.string (by1 n.toNat)) W := by
  rw [run_convert_bytes_string W 43 9 5 _ _ _ Try.underlying43 Try.underlying5 Try.underlying9]
  rw [run_bytesToString W a 1 1 [n] ?_]
  · rfl
  · exact run_loadCells_list W a [.int .u8 n] (fun j v hj => by
      match j, hj with
      | 0, hj => simp at hj; subst hj; simpa [Addr.add] using h)
end Go.Proofs.Ytgdhlnfigcaepaa
/-
  Contracts of the functions that make new secrets' names, over the landed program.
-/
namespace Go.Proofs.Ytgdhlnfigcaepaa
open Go.RowKit

theorem enc_fin : ∀ k : Fin 8, Utf8.encode (65 + (k.val : Int)) = by1 (65 + k.val) := by decide +kernel
theorem enc_eq (n : Int) (h0 : 0 ≤ n) (h1 : n < 8) : Utf8.encode (65 + n) = by1 (65 + n.toNat) := by
  obtain ⟨k, rfl⟩ := Int.eq_ofNat_of_zero_le h0
  exact enc_fin ⟨k, by omega⟩
theorem dig_fin : ∀ k : Fin 10, (⟨#[48, 49, 50, 51, 52, 53, 54, 55, 56, 57, 97, 98, 99, 100, 101, 102, 103, 104, 105, 106, 107, 108, 109, 110, 111, 112, 113, 114, 115, 116, 117, 118, 119, 120, 121, 122]⟩ : ByteArray).extract ((k.val : Int)).toNat ((k.val : Int) + 1).toNat = dec k.val := by decide +kernel
theorem dig_eq (n : Int) (h0 : 0 ≤ n) (h1 : n < 10) : (⟨#[48, 49, 50, 51, 52, 53, 54, 55, 56, 57, 97, 98, 99, 100, 101, 102, 103, 104, 105, 106, 107, 108, 109, 110, 111, 112, 113, 114, 115, 116, 117, 118, 119, 120, 121, 122]⟩ : ByteArray).extract n.toNat (n + 1).toNat = dec n.toNat := by
  obtain ⟨k, rfl⟩ := Int.eq_ofNat_of_zero_le h0
  exact dig_fin ⟨k, by omega⟩
set_option maxRecDepth 100000 in
theorem two_fin : ∀ k : Fin 100, 10 ≤ k.val → (⟨#[48, 48, 48, 49, 48, 50, 48, 51, 48, 52, 48, 53, 48, 54, 48, 55, 48, 56, 48, 57, 49, 48, 49, 49, 49, 50, 49, 51, 49, 52, 49, 53, 49, 54, 49, 55, 49, 56, 49, 57, 50, 48, 50, 49, 50, 50, 50, 51, 50, 52, 50, 53, 50, 54, 50, 55, 50, 56, 50, 57, 51, 48, 51, 49, 51, 50, 51, 51, 51, 52, 51, 53, 51, 54, 51, 55, 51, 56, 51, 57, 52, 48, 52, 49, 52, 50, 52, 51, 52, 52, 52, 53, 52, 54, 52, 55, 52, 56, 52, 57, 53, 48, 53, 49, 53, 50, 53, 51, 53, 52, 53, 53, 53, 54, 53, 55, 53, 56, 53, 57, 54, 48, 54, 49, 54, 50, 54, 51, 54, 52, 54, 53, 54, 54, 54, 55, 54, 56, 54, 57, 55, 48, 55, 49, 55, 50, 55, 51, 55, 52, 55, 53, 55, 54, 55, 55, 55, 56, 55, 57, 56, 48, 56, 49, 56, 50, 56, 51, 56, 52, 56, 53, 56, 54, 56, 55, 56, 56, 56, 57, 57, 48, 57, 49, 57, 50, 57, 51, 57, 52, 57, 53, 57, 54, 57, 55, 57, 56, 57, 57]⟩ : ByteArray).extract ((k.val : Int) * 2).toNat ((k.val : Int) * 2 + 2).toNat = dec k.val := by decide +kernel
set_option maxRecDepth 100000 in
theorem two_eq (n : Int) (h0 : 10 ≤ n) (h1 : n < 100) : (⟨#[48, 48, 48, 49, 48, 50, 48, 51, 48, 52, 48, 53, 48, 54, 48, 55, 48, 56, 48, 57, 49, 48, 49, 49, 49, 50, 49, 51, 49, 52, 49, 53, 49, 54, 49, 55, 49, 56, 49, 57, 50, 48, 50, 49, 50, 50, 50, 51, 50, 52, 50, 53, 50, 54, 50, 55, 50, 56, 50, 57, 51, 48, 51, 49, 51, 50, 51, 51, 51, 52, 51, 53, 51, 54, 51, 55, 51, 56, 51, 57, 52, 48, 52, 49, 52, 50, 52, 51, 52, 52, 52, 53, 52, 54, 52, 55, 52, 56, 52, 57, 53, 48, 53, 49, 53, 50, 53, 51, 53, 52, 53, 53, 53, 54, 53, 55, 53, 56, 53, 57, 54, 48, 54, 49, 54, 50, 54, 51, 54, 52, 54, 53, 54, 54, 54, 55, 54, 56, 54, 57, 55, 48, 55, 49, 55, 50, 55, 51, 55, 52, 55, 53, 55, 54, 55, 55, 55, 56, 55, 57, 56, 48, 56, 49, 56, 50, 56, 51, 56, 52, 56, 53, 56, 54, 56, 55, 56, 56, 56, 57, 57, 48, 57, 49, 57, 50, 57, 51, 57, 52, 57, 53, 57, 54, 57, 55, 57, 56, 57, 57]⟩ : ByteArray).extract (n * 2).toNat (n * 2 + 2).toNat = dec n.toNat := by
  obtain ⟨k, rfl⟩ := Int.eq_ofNat_of_zero_le (show 0 ≤ n by omega)
  exact two_fin ⟨k, by omega⟩ (by show 10 ≤ k; omega)

set_option maxHeartbeats 400000 in
theorem letterOf_any (n : Int) (w : World) (h0 : 0 ≤ n) (h1 : n < 8) :
    Calls Try.prog 109 #[.int .i64 n] w fun e w' => e = .returned (.string (by1 (65 + n.toNat))) ∧ w' = w := by
  go_enter Try.func109, Try.ntmps109
  go_wp2
  go_ret
  exact ⟨ret_str (enc_eq n h0 h1), rfl⟩

set_option maxRecDepth 100000 in
set_option maxHeartbeats 400000 in
theorem small_any (n : Int) (w : World) (h0 : 0 ≤ n) (h1 : n < 100) :
    Calls Try.prog 114 #[.int .i64 n] w fun e w' => e = .returned (.string (dec n.toNat)) ∧ w' = w := by
  by_cases h : n < 10
  · go_enter Try.func114, Try.ntmps114
    go_wp2
    go_ret
    exact ⟨ret_str (dig_eq n h0 h), rfl⟩
  · have h2 : 10 ≤ n := by omega
    clear h h0
    go_enter Try.func114, Try.ntmps114
    go_wp2
    go_ret
    exact ⟨ret_str (two_eq n h2 h1), rfl⟩

set_option maxRecDepth 100000 in
set_option maxHeartbeats 400000 in
theorem format_any (n : Int) (w : World) (h0 : 0 ≤ n) (h1 : n < 100) :
    Calls Try.prog 113 #[.int .i64 n, .int .i64 10] w fun e w' => e = .returned (.string (dec n.toNat)) ∧ w' = w := by
  go_enter Try.func113, Try.ntmps113
  go_wp2_with (go_at_call 114; refine (small_any _ _ h0 h1).mono ?_; rintro e w' ⟨rfl, rfl⟩)
  go_ret
  exact ⟨rfl, rfl⟩

set_option maxHeartbeats 400000 in
theorem itoa_any (n : Int) (w : World) (h0 : 0 ≤ n) (h1 : n < 100) :
    Calls Try.prog 111 #[.int .i64 n] w fun e w' => e = .returned (.string (dec n.toNat)) ∧ w' = w := by
  have key : ∀ w, Calls Try.prog 112 #[.int .i64 n] w fun e w' => e = .returned (.string (dec n.toNat)) ∧ w' = w := by
    intro w
    go_enter Try.func112, Try.ntmps112
    go_wp2_with (go_at_call 113; refine (format_any _ _ h0 h1).mono ?_; rintro e w' ⟨rfl, rfl⟩)
    go_ret
    exact ⟨rfl, rfl⟩
  have K := hide key
  clear key
  go_enter Try.func111, Try.ntmps111
  go_wp2_with (go_at_call 112; refine (unhide K _).mono ?_; rintro e w' ⟨rfl, rfl⟩)
  go_ret
  exact ⟨rfl, rfl⟩

set_option maxHeartbeats 400000 in
theorem newNameM_any (who n : Int) (w : World) (h0 : 0 ≤ who) (h1 : who < 8) (h2 : 0 ≤ n) (h3 : n < 100) :
    Calls Try.prog 110 #[.agg #[.int .i64 who, .int .i64 n]] w fun e w' => e = .returned (.string (newName who.toNat n.toNat)) ∧ Below w.heap.size w w' := by
  have s1 : (by1 (65 + who.toNat)).size = 1 := rfl
  rcases dec_sizes n.toNat with s2 | s2
  all_goals
    go_enter Try.func110, Try.ntmps110
    go_wp2_with fail
    go_quiet ((first | (go_at_call 109; exact Calls.quiet_of_same (letterOf_any _ _ h0 h1)) | (go_at_call 111; exact Calls.quiet_of_same (itoa_any _ _ h2 h3))))
    go_wp2
    go_ret
    exact ⟨ret_str rfl, below_drewN ((Below.refl _ _).alloc (Nat.le_refl _) _) _⟩

theorem ret_by1 {a b : Nat} (h : a = b) : Ending.returned (.string (by1 a)) = .returned (.string (by1 b)) := by rw [h]

set_option maxHeartbeats 400000 in
theorem l1Who_any (n : Int) (w : World) (h0 : 0 ≤ n) (h1 : n < 8) :
    Calls Try.prog 78 #[.int .i64 n] w fun e w' => e = .returned (.string (by1 (65 + n.toNat))) ∧ Below w.heap.size w w' := by
  have hc := conv1
  go_enter Try.func78, Try.ntmps78
  go_wp2
  go_ret
  exact ⟨ret_by1 (by omega), (Below.refl _ _).alloc (Nat.le_refl _) _⟩

set_option maxHeartbeats 400000 in
theorem l1Plain_any (n : Int) (w : World) (h0 : 0 ≤ n) (h1 : n < 100) :
    Calls Try.prog 90 #[.int .i64 n] w fun e w' => e = .returned (.string (dec n.toNat)) ∧ Below w.heap.size w w' := by
  have hc := conv1
  have hs := by1_size
  go_enter Try.func90, Try.ntmps90
  go_wp2
  go_loopw [0, 3] (fun m out wr => Below w.heap.size w wr ∧ ((m = .int .i64 n ∧ out = .string ⟨#[]⟩) ∨ (10 ≤ n ∧ m = .int .i64 (n / 10) ∧ out = .string (by1 (48 + n % 10).toNat)))) (fun m _ _ => (intOf m).toNat)
  case atStart => exact ⟨Below.refl _ _, .inl ⟨rfl, rfl⟩⟩
  case round =>
    obtain ⟨hb, ⟨rfl, rfl⟩ | ⟨h2, rfl, rfl⟩⟩ := hrel
    · by_cases h3 : n ≤ 9
      · go_wp2
        go_ret
        exact ⟨ret_str (by rw [dec_one _ (by omega), app_nil, show (48 + n).toNat = 48 + n.toNat by omega]), hb.alloc hb.size _⟩
      · go_wp2
        exact ⟨⟨hb.alloc hb.size _, .inr ⟨by omega, rfl, by rw [app_nil]⟩⟩, by simp [intOf]; omega⟩
    · go_wp2
      go_ret
      exact ⟨ret_str (by rw [dec_two _ (by omega), show (48 + n / 10).toNat = 48 + n.toNat / 10 by omega, show (48 + n % 10).toNat = 48 + n.toNat % 10 by omega]), hb.alloc hb.size _⟩

theorem method_new (x : Value) (w : World) : (method 249 97 x "loop.example/keyward/impl.name").run Try.prog w = .ok (110, x) w := by kernel_rfl

set_option maxRecDepth 100000 in
set_option maxHeartbeats 400000 in
theorem nameOf_new (who n : Int) (w : World) (h0 : 0 ≤ who) (h1 : who < 8) (h2 : 0 ≤ n) (h3 : n < 100) :
    Calls Try.prog 60 #[.iface 97 (.agg #[.int .i64 who, .int .i64 n])] w fun e w' => e = .returned (.string (newName who.toNat n.toNat)) ∧ Below w.heap.size w w' := by
  have hm := method_new
  have hs : (newName who.toNat n.toNat).size ≤ 4 := by rcases newName_sizes who.toNat n.toNat with h | h <;> omega
  go_enter Try.func60, Try.ntmps60
  go_wp2_with (go_at_call 110; refine (newNameM_any _ _ _ h0 h1 h2 h3).mono ?_; rintro e w' ⟨rfl, hb⟩)
  go_ret
  exact ⟨rfl, hb⟩

set_option maxHeartbeats 400000 in
theorem sMakNew_any (who n : Int) (w : World) :
    Calls Try.prog 74 #[.int .i64 who, .int .i64 n] w fun e w' => e = .returned (.string (mkNew who n)) ∧ Below w.heap.size w w' := by
  by_cases h1 : who < 0 ∨ 7 < who
  · have e1 : mkNew who n = ⟨#[]⟩ := by unfold mkNew; rw [if_neg (by omega)]
    rw [e1]
    go_enter Try.func74, Try.ntmps74
    go_wp2_with (go_at_call 36; refine (l1In_no _ _ _ _ h1).mono ?_; rintro e w' ⟨rfl, rfl⟩)
    go_ret
    exact ⟨rfl, Below.refl _ _⟩
  have g0 : 0 ≤ who := by omega
  have g1 : who ≤ 7 := by omega
  by_cases h2 : n < 1 ∨ 99 < n
  · have e1 : mkNew who n = ⟨#[]⟩ := by unfold mkNew; rw [if_neg (by omega)]
    rw [e1]
    clear h1
    go_enter Try.func74, Try.ntmps74
    go_wp2_with fail
    refine (l1In_yes _ _ _ _ g0 g1).mono ?_
    rintro e w' ⟨rfl, rfl⟩
    go_wp2_with fail
    refine (l1In_no _ _ _ _ h2).mono ?_
    rintro e w' ⟨rfl, rfl⟩
    go_wp2_with fail
    go_ret
    exact ⟨rfl, Below.refl _ _⟩
  have e1 : mkNew who n = newName who.toNat n.toNat := by unfold mkNew; rw [if_pos (by omega)]
  rw [e1]
  have g2 : 1 ≤ n := by omega
  have g3 : n ≤ 99 := by omega
  have g4 : 0 ≤ n := by omega
  have g5 : n < 100 := by omega
  have g6 : who < 8 := by omega
  clear h1 h2 e1
  have s1 : (by1 (65 + who.toNat)).size = 1 := rfl
  rcases dec_sizes n.toNat with s2 | s2
  all_goals
    go_enter Try.func74, Try.ntmps74
    go_wp2_with fail
    refine (l1In_yes _ _ _ _ g0 g1).mono ?_
    rintro e w' ⟨rfl, rfl⟩
    go_wp2_with fail
    refine (l1In_yes _ _ _ _ g2 g3).mono ?_
    rintro e w' ⟨rfl, rfl⟩
    go_wp2_with fail
    refine (l1Who_any _ _ g0 g6).mono ?_
    rintro e w1 ⟨rfl, hb1⟩
    go_wp2_with fail
    refine (l1Plain_any _ _ g4 g5).mono ?_
    rintro e w2 ⟨rfl, hb2⟩
    go_wp2_with fail
    go_ret
    exact ⟨rfl, hb1.trans (hb2.mono hb1.size)⟩

#print axioms sMakNew_any
end Go.Proofs.Ytgdhlnfigcaepaa
/-
  Contracts of the specification's functions on names: they answer as the plain function on names does.
-/
namespace Go.Proofs.Ytgdhlnfigcaepaa
open Go.RowKit

set_option maxHeartbeats 400000 in
theorem l1More_any (n m : Nat) (x y : Int) (hx : x = (n : Int)) (hy : y = (m : Int)) (hn : n ≤ 1000) (hm : m ≤ 1000) (w : World) :
    Calls Try.prog 75 #[.int .i64 x, .int .i64 y] w fun e w' => e = .returned (.int .i64 (Kw.more n m : Int)) ∧ w' = w := by
  subst hx hy
  by_cases h : m = 0
  · subst h
    rw [Kw.more_zero rfl]
    go_enter Try.func75, Try.ntmps75
    go_wp2
    go_ret
    exact ⟨rfl, rfl⟩
  · rw [Kw.more_pos h]
    have e : ((m : Int) == 0) = false := by simp; omega
    clear h
    go_enter Try.func75, Try.ntmps75
    go_wp2
    go_ret
    exact ⟨rfl, rfl⟩

theorem ret_i64 {a b : Int} (h : a = b) : Ending.returned (.int .i64 a) = .returned (.int .i64 b) := by rw [h]

theorem list_ne {x y : ByteArray} (h : (!x.toList == y.toList) = true) : x ≠ y := by
  intro e; subst e; simp at h
theorem list_eq {x y : ByteArray} (h : (!x.toList == y.toList) = false) : x = y := by
  have h1 : x.toList = y.toList := by simpa using h
  have h2 := congrArg (fun l => (⟨l.toArray⟩ : ByteArray)) h1
  exact ByteArray.ext (by simpa [ByteArray.toList_eq] using h2)

theorem fr_round {s : ByteArray} {a j d m : Nat} (hj : Hid (j = a + 1 + d)) (hlt : j < s.size) (hm : Hid (m = dv s (a + 1) d)) (hall : Hid (∀ i, i < d → 48 ≤ Kw.g s (a + 1 + i) ∧ Kw.g s (a + 1 + i) ≤ 57)) (hg : Hid (Kw.g s j = s[j].toNat)) (hb : Hid (m < 10 ^ d))
    (h48 : (48 : Int) ≤ (s[j].toNat : Int)) (h57 : (s[j].toNat : Int) ≤ 57) (hd : (j : Int) < (a : Int) + 4) :
    (∃ m' j' d' : Nat, j' = a + 1 + d' ∧ d' ≤ 3 ∧ Value.int IntKind.i64 ((j : Int) + 1) = .int .i64 (j' : Int) ∧ Value.int IntKind.i64 ((m : Int) * 10 + ((s[j].toNat : Int) - 48)) = .int .i64 (m' : Int) ∧ j' ≤ s.size ∧ m' < 10 ^ d' ∧ Hid (m' = dv s (a + 1) d') ∧ Hid (∀ i, i < d' → 48 ≤ Kw.g s (a + 1 + i) ∧ Kw.g s (a + 1 + i) ≤ 57)) ∧
    ((a : Int) + 4 - intOf (Value.int IntKind.i64 ((j : Int) + 1))).toNat < ((a : Int) + 4 - intOf (Value.int IntKind.i64 (j : Int))).toNat := by
  have e1 := hj.out
  have e2 := hm.out
  have e3 := hall.out
  have e4 := hg.out
  have e5 := hb.out
  refine ⟨⟨m * 10 + (s[j].toNat - 48), j + 1, d + 1, by omega, by omega, by simp, ?_, by omega, ?_, ?_, ?_⟩, by simp [intOf]; omega⟩
  · congr 1; omega
  · rw [Nat.pow_succ]; omega
  · show _ = dv s (a + 1) d * 10 + (Kw.g s (a + 1 + d) - 48)
    rw [← e1, e4, ← e2]
  · intro i hi
    by_cases hid : i < d
    · exact e3 i hid
    · have : i = d := by omega
      subst this
      rw [← e1, e4]; omega

set_option maxHeartbeats 1000000 in
theorem l1Fresh_any (s : ByteArray) (a : Nat) (x : Int) (hx : x = (a : Int)) (hs : s.size ≤ 300) (ha : a < s.size) (w : World) :
    Calls Try.prog 76 #[.string s, .int .i64 x] w fun e w' => e = .returned (.int .i64 (Kw.fresh s a : Int)) ∧ Below w.heap.size w w' := by
  subst hx
  have ha2 : (a : Int) < (s.size : Int) := by omega
  have hga : Hid (Kw.g s a = s[a].toNat) := Kw.g_in ha
  by_cases h65 : (s[a].toNat : Int) < 65
  · have hf : Hid (Kw.fresh s a = 0) := by unfold Kw.fresh; exact if_neg (by rw [hga.out]; omega)
    go_enter Try.func76, Try.ntmps76
    go_wp2_with fail
    go_ret
    exact ⟨ret_i64 (by rw [hf.out]; rfl), Below.refl _ _⟩
  · have d65 : decide ((s[a].toNat : Int) < 65) = false := by simp; omega
    by_cases h72 : (72 : Int) < (s[a].toNat : Int)
    · have hf : Hid (Kw.fresh s a = 0) := by unfold Kw.fresh; exact if_neg (by rw [hga.out]; omega)
      go_enter Try.func76, Try.ntmps76
      go_wp2_with fail
      go_ret
      exact ⟨ret_i64 (by rw [hf.out]; rfl), Below.refl _ _⟩
    · have d72 : decide ((72 : Int) < (s[a].toNat : Int)) = false := by simp; omega
      go_enter Try.func76, Try.ntmps76
      go_wp2_with fail
      go_loop [5, 6] (fun n k => ∃ m j d : Nat, j = a + 1 + d ∧ d ≤ 3 ∧ k = .int .i64 (j : Int) ∧ n = .int .i64 (m : Int) ∧ j ≤ s.size ∧ m < 10 ^ d ∧ Hid (m = dv s (a + 1) d) ∧ Hid (∀ i, i < d → 48 ≤ Kw.g s (a + 1 + i) ∧ Kw.g s (a + 1 + i) ≤ 57)) (fun _ k => ((a : Int) + 4 - intOf k).toNat)
      case atStart => exact ⟨0, a + 1, 0, by omega, by omega, by simp, rfl, by omega, by simp, rfl, fun i hi => by omega⟩
      case round =>
        obtain ⟨m, j, d, hj0, hd, rfl, rfl, hle, hb0, hm, hall⟩ := hrel
        have hj := hide hj0
        have hj1 : a < j := by omega
        have hj3 : j ≤ a + 4 := by omega
        have hb : m ≤ 999 := by
          match d, hd, hb0 with
          | 0, _, h => omega
          | 1, _, h => omega
          | 2, _, h => omega
          | 3, _, h => omega
        have hb1 := hide hb0
        clear hj0 hb0
        by_cases hlt : j < s.size
        · have hlt2 : (j : Int) < (s.size : Int) := by omega
          have hgj : Hid (Kw.g s j = s[j].toNat) := Kw.g_in hlt
          have hnd : decide ((s.size : Int) ≤ (j : Int)) = false := by simp; omega
          have hnd2 : decide (s.size ≤ j) = false := by simp; omega
          by_cases h59 : (s[j].toNat : Int) = 59
          · have hne : ((s[j].toNat : Int) != 59) = false := by simp; omega
            have h57 : decide ((s[j].toNat : Int) ≤ 57) = false := by simp; omega
            have h48 : (48 : Int) ≤ (s[j].toNat : Int) := by omega
            have h65' : (65 : Int) ≤ (s[a].toNat : Int) := by omega
            have h72' : (s[a].toNat : Int) ≤ 72 := by omega
            have i1 : (a : Int) ≤ (j : Int) + 1 := by omega
            have i2 : (j : Int) + 1 ≤ (s.size : Int) := by omega
            have i3 : IntKind.i64.wrap ((j : Int) + 1) = (j : Int) + 1 := by simp [IntKind.wrap, IntKind.bits, IntKind.signed]; omega
            have i4 : (0 : Int) ≤ (a : Int) := by omega
            have i5 : (0 : Int) ≤ (j : Int) + 1 := by omega
            have v1 : IntKind.u8.wrap ((s[a].toNat : Int) - 65) = (s[a].toNat : Int) - 65 := by simp [IntKind.wrap, IntKind.bits, IntKind.signed]; omega
            have v2 : IntKind.i64.wrap ((s[a].toNat : Int) - 65) = (s[a].toNat : Int) - 65 := by simp [IntKind.wrap, IntKind.bits, IntKind.signed]; omega
            have H59 : Hid (Kw.g s j = 59) := by show Kw.g s j = 59; rw [hgj.out]; omega
            clear h59
            go_wp2_with fail
            go_region_held3 (fun _ => True) (trivial) ((go_at_call 74; refine (sMakNew_any _ _ _).mono ?_; rintro e w' ⟨rfl, hb⟩))
            go_wp2_with fail
            · go_ret
              rename_i hx
              rw [← hga.out] at hx
              exact ⟨ret_i64 (by rw [fr_ne hj.out hlt hm.out hall.out H59.out (by rw [hga.out]; omega) (by rw [hga.out]; omega) (list_ne hx)]; rfl), (Below.drew (Below.refl w.heap.size w)).trans hb⟩
            · go_ret
              rename_i hx
              rw [← hga.out] at hx
              refine ⟨ret_i64 (by rw [fr_eq hj.out hd hlt hm.out hall.out H59.out (by rw [hga.out]; omega) (by rw [hga.out]; omega) (list_eq hx)]; omega), (Below.drew (Below.refl w.heap.size w)).trans hb⟩
          · have hne : ((s[j].toNat : Int) != 59) = true := by simp; omega
            have H59 : Hid (Kw.g s j ≠ 59) := by show Kw.g s j ≠ 59; rw [hgj.out]; omega
            clear h59
            go_wp2_with fail
            case roundEnd =>
              have q48 : (48 : Int) ≤ (s[j].toNat : Int) := by assumption
              have q57 : (s[j].toNat : Int) ≤ 57 := by assumption
              have qd : (j : Int) < (a : Int) + 4 := by assumption
              exact fr_round hj hlt hm hall hgj hb1 q48 q57 qd
            all_goals
              go_quiet (fail)
              go_wp2_with fail
              go_ret
              exact ⟨ret_i64 (by rw [fr_no hj.out hd hall.out H59.out (by rw [hgj.out]; have := hj.out; omega)]; rfl), below_drewN (Below.refl _ _) _⟩
        · have H59 : Hid (Kw.g s j = 256) := Kw.g_out (by omega)
          have hge : decide ((s.size : Int) ≤ (j : Int)) = true := by simp; omega
          have hge2 : decide (s.size ≤ j) = true := by simp; omega
          have hge3 : s.size ≤ j := by omega
          go_wp2_with fail
          go_quiet (fail)
          go_wp2_with fail
          go_ret
          exact ⟨ret_i64 (by rw [fr_no hj.out hd hall.out (by rw [H59.out]; omega) (by rw [H59.out]; omega)]; rfl), below_drewN (Below.refl _ _) _⟩


/-- The specification's reading of the name at place a is done as it must be. -/
def SizeAt (s : ByteArray) (a : Nat) : Prop := ∀ (x : Int) (w : World), x = (a : Int) →
    Calls Try.prog 61 #[.string s, .int .i64 x] w fun e w' => e = .returned (.int .i64 (Kw.len s a : Int)) ∧ Below w.heap.size w w'

theorem ret_len {a b : Nat} (h : a = b) : Ending.returned (.int .i64 (a : Int)) = .returned (.int .i64 (b : Int)) := by rw [h]

set_option maxHeartbeats 400000 in
theorem l1Size_out (s : ByteArray) (a : Nat) (ha : s.size ≤ a) : SizeAt s a := by
  intro x w hx
  subst hx
  have hl : Hid (Kw.len s a = 0) := Kw.len_out ha
  go_enter Try.func61, Try.ntmps61
  go_wp2_with fail
  go_ret
  exact ⟨ret_i64 (by rw [hl.out]; rfl), Below.refl _ _⟩

theorem len_300 {s : ByteArray} (hs : s.size ≤ 300) (a : Nat) : Kw.len s a ≤ 300 := by
  by_cases h : Kw.len s a = 0
  · omega
  · have := Kw.len_le h; omega

set_option maxHeartbeats 1000000 in
theorem l1Size_step (s : ByteArray) (hs : s.size ≤ 300) (a : Nat) (ha : a < s.size) (ih : ∀ m, a < m → SizeAt s m) : SizeAt s a := by
  intro x w hx
  subst hx
  have ha2 : (a : Int) < (s.size : Int) := by omega
  have hga : Hid (Kw.g s a = s[a].toNat) := Kw.g_in ha
  have hl1 := len_300 hs (a + 1)
  have hl2 := len_300 hs (a + 2)
  have I1 := ih (a + 1) (by omega)
  have I2 := ih (a + 2) (by omega)
  have IH := hide ih
  clear ih
  by_cases c1 : s[a].toNat = 110
  · have e1 : ((s[a].toNat : Int) == 110) = true := by simp; omega
    have hl : Hid (Kw.len s a = Kw.more 1 (Kw.len s (a + 1))) := Kw.len_nk (.inl (by rw [hga.out]; exact c1))
    clear c1
    go_enter Try.func61, Try.ntmps61
    go_wp2_with fail
    refine (I1 _ _ (by omega)).mono ?_
    rintro e w1 ⟨rfl, hb1⟩
    go_wp2_with fail
    refine (l1More_any 1 (Kw.len s (a + 1)) _ _ rfl rfl (by omega) (by omega) _).mono ?_
    rintro e w2 ⟨rfl, rfl⟩
    go_wp2_with fail
    go_ret
    exact ⟨ret_len hl.out.symm, hb1⟩
  have e1 : ((s[a].toNat : Int) == 110) = false := by simp; omega
  by_cases c2 : s[a].toNat = 107
  · have e2 : ((s[a].toNat : Int) == 107) = true := by simp; omega
    have hl : Hid (Kw.len s a = Kw.more 1 (Kw.len s (a + 1))) := Kw.len_nk (.inr (by rw [hga.out]; exact c2))
    clear c1 c2
    go_enter Try.func61, Try.ntmps61
    go_wp2_with fail
    refine (I1 _ _ (by omega)).mono ?_
    rintro e w1 ⟨rfl, hb1⟩
    go_wp2_with fail
    refine (l1More_any 1 (Kw.len s (a + 1)) _ _ rfl rfl (by omega) (by omega) _).mono ?_
    rintro e w2 ⟨rfl, rfl⟩
    go_wp2_with fail
    go_ret
    exact ⟨ret_len hl.out.symm, hb1⟩
  have e2 : ((s[a].toNat : Int) == 107) = false := by simp; omega
  by_cases c3 : s[a].toNat = 109
  · have e3 : ((s[a].toNat : Int) == 109) = true := by simp; omega
    have hu := Kw.len_unfold s a
    rw [hga.out, if_neg (by omega), if_pos c3] at hu
    clear c1 c2 c3
    by_cases d1 : a + 1 < s.size
    · have d2 : decide ((s.size : Int) ≤ (a : Int) + 1) = false := by simp; omega
      have hg1 := Kw.g_in d1
      by_cases d3 : 65 ≤ s[a + 1].toNat ∧ s[a + 1].toNat ≤ 72
      · have hl : Hid (Kw.len s a = Kw.more 2 (Kw.len s (a + 2))) := by show Kw.len s a = _; rw [hu, hg1, if_pos d3]
        have d4 : decide ((s[a + 1].toNat : Int) < 65) = false := by simp; omega
        have d5 : decide ((72 : Int) < (s[a + 1].toNat : Int)) = false := by simp; omega
        clear hu hg1 d3
        go_enter Try.func61, Try.ntmps61
        go_wp2_with fail
        refine (I2 _ _ (by omega)).mono ?_
        rintro e w1 ⟨rfl, hb1⟩
        go_wp2_with fail
        refine (l1More_any 2 (Kw.len s (a + 2)) _ _ rfl rfl (by omega) (by omega) _).mono ?_
        rintro e w2 ⟨rfl, rfl⟩
        go_wp2_with fail
        go_ret
        exact ⟨ret_len hl.out.symm, hb1⟩
      · have hl : Hid (Kw.len s a = 0) := by show Kw.len s a = _; rw [hu, hg1, if_neg d3]
        clear hu hg1
        by_cases d4 : (s[a + 1].toNat : Int) < 65
        · clear d3
          go_enter Try.func61, Try.ntmps61
          go_wp2_with fail
          go_ret
          exact ⟨ret_i64 (by rw [hl.out]; rfl), Below.refl _ _⟩
        · have d5 : decide ((s[a + 1].toNat : Int) < 65) = false := by simp; omega
          have d6 : (72 : Int) < (s[a + 1].toNat : Int) := by omega
          clear d3
          go_enter Try.func61, Try.ntmps61
          go_wp2_with fail
          go_ret
          exact ⟨ret_i64 (by rw [hl.out]; rfl), Below.refl _ _⟩
    · have d2 : (s.size : Int) ≤ (a : Int) + 1 := by omega
      have hl : Hid (Kw.len s a = 0) := by show Kw.len s a = _; rw [hu, Kw.g_out (by omega), if_neg (by omega)]
      clear hu
      go_enter Try.func61, Try.ntmps61
      go_wp2_with fail
      go_ret
      exact ⟨ret_i64 (by rw [hl.out]; rfl), Below.refl _ _⟩
  have e3 : ((s[a].toNat : Int) == 109) = false := by simp; omega
  by_cases c4 : s[a].toNat = 114
  · have e4 : ((s[a].toNat : Int) == 114) = true := by simp; omega
    have hu := Kw.len_unfold s a
    rw [hga.out, if_neg (by omega), if_neg c3, if_pos c4] at hu
    clear c1 c2 c3 c4
    by_cases d1 : a + 1 < s.size
    · have d2 : decide ((s.size : Int) ≤ (a : Int) + 1) = false := by simp; omega
      have hg1 := Kw.g_in d1
      by_cases d3 : 49 ≤ s[a + 1].toNat ∧ s[a + 1].toNat ≤ 57
      · have hl : Hid (Kw.len s a = Kw.more 2 (Kw.len s (a + 2))) := by show Kw.len s a = _; rw [hu, hg1, if_pos d3]
        have d4 : decide ((s[a + 1].toNat : Int) < 49) = false := by simp; omega
        have d5 : decide ((57 : Int) < (s[a + 1].toNat : Int)) = false := by simp; omega
        clear hu hg1 d3
        go_enter Try.func61, Try.ntmps61
        go_wp2_with fail
        refine (I2 _ _ (by omega)).mono ?_
        rintro e w1 ⟨rfl, hb1⟩
        go_wp2_with fail
        refine (l1More_any 2 (Kw.len s (a + 2)) _ _ rfl rfl (by omega) (by omega) _).mono ?_
        rintro e w2 ⟨rfl, rfl⟩
        go_wp2_with fail
        go_ret
        exact ⟨ret_len hl.out.symm, hb1⟩
      · have hl : Hid (Kw.len s a = 0) := by show Kw.len s a = _; rw [hu, hg1, if_neg d3]
        clear hu hg1
        by_cases d4 : (s[a + 1].toNat : Int) < 49
        · clear d3
          go_enter Try.func61, Try.ntmps61
          go_wp2_with fail
          go_ret
          exact ⟨ret_i64 (by rw [hl.out]; rfl), Below.refl _ _⟩
        · have d5 : decide ((s[a + 1].toNat : Int) < 49) = false := by simp; omega
          have d6 : (57 : Int) < (s[a + 1].toNat : Int) := by omega
          clear d3
          go_enter Try.func61, Try.ntmps61
          go_wp2_with fail
          go_ret
          exact ⟨ret_i64 (by rw [hl.out]; rfl), Below.refl _ _⟩
    · have d2 : (s.size : Int) ≤ (a : Int) + 1 := by omega
      have hl : Hid (Kw.len s a = 0) := by show Kw.len s a = _; rw [hu, Kw.g_out (by omega), if_neg (by omega)]
      clear hu
      go_enter Try.func61, Try.ntmps61
      go_wp2_with fail
      go_ret
      exact ⟨ret_i64 (by rw [hl.out]; rfl), Below.refl _ _⟩
  have e4 : ((s[a].toNat : Int) == 114) = false := by simp; omega
  by_cases c5 : s[a].toNat = 101
  · have e5 : ((s[a].toNat : Int) == 101) = true := by simp; omega
    have hu := Kw.len_unfold s a
    rw [hga.out, if_neg (by omega), if_neg c3, if_neg c4, if_pos c5] at hu
    clear c1 c2 c3 c4 c5
    by_cases d1 : Kw.len s (a + 1) = 0
    · have hl : Hid (Kw.len s a = 0) := by show Kw.len s a = _; rw [hu, if_pos d1]
      have d2 : ((Kw.len s (a + 1) : Int) == 0) = true := by simp; omega
      clear hu d1
      go_enter Try.func61, Try.ntmps61
      go_wp2_with fail
      refine (I1 _ _ (by omega)).mono ?_
      rintro e w1 ⟨rfl, hb1⟩
      go_wp2_with fail
      go_ret
      exact ⟨ret_i64 (by rw [hl.out]; rfl), hb1⟩
    · have hl : Hid (Kw.len s a = Kw.more (1 + Kw.len s (a + 1)) (Kw.len s (a + 1 + Kw.len s (a + 1)))) := by show Kw.len s a = _; rw [hu, if_neg d1]
      have d2 : ((Kw.len s (a + 1) : Int) == 0) = false := by simp; omega
      have I3 := IH.out (a + 1 + Kw.len s (a + 1)) (by omega)
      have hl3 := len_300 hs (a + 1 + Kw.len s (a + 1))
      clear hu d1
      go_enter Try.func61, Try.ntmps61
      go_wp2_with fail
      refine (I1 _ _ (by omega)).mono ?_
      rintro e w1 ⟨rfl, hb1⟩
      go_wp2_with fail
      refine (I3 _ _ (by omega)).mono ?_
      rintro e w2 ⟨rfl, hb2⟩
      go_wp2_with fail
      refine (l1More_any (1 + Kw.len s (a + 1)) (Kw.len s (a + 1 + Kw.len s (a + 1))) _ _ (by omega) rfl (by omega) (by omega) _).mono ?_
      rintro e w3 ⟨rfl, rfl⟩
      go_wp2_with fail
      go_ret
      exact ⟨ret_len hl.out.symm, hb1.trans (hb2.mono hb1.size)⟩
  have e5 : ((s[a].toNat : Int) == 101) = false := by simp; omega
  have hl : Hid (Kw.len s a = Kw.fresh s a) := Kw.len_else (by rw [hga.out]; exact c1) (by rw [hga.out]; exact c2) (by rw [hga.out]; exact c3) (by rw [hga.out]; exact c4) (by rw [hga.out]; exact c5)
  clear c1 c2 c3 c4 c5
  go_enter Try.func61, Try.ntmps61
  go_wp2_with fail
  refine (l1Fresh_any s a _ rfl hs ha _).mono ?_
  rintro e w1 ⟨rfl, hb1⟩
  go_wp2_with fail
  go_ret
  exact ⟨ret_len hl.out.symm, hb1⟩

theorem l1Size_all (s : ByteArray) (hs : s.size ≤ 300) : ∀ f a, s.size - a ≤ f → SizeAt s a := by
  intro f
  induction f with
  | zero => intro a h; exact l1Size_out s a (by omega)
  | succ f ih =>
    intro a h
    by_cases ha : a < s.size
    · exact l1Size_step s hs a ha (fun m h1 => ih m (by omega))
    · exact l1Size_out s a (by omega)

theorem ret_bool {a b : Bool} (h : a = b) : Ending.returned (.bool a) = .returned (.bool b) := by rw [h]
theorem isEmpty_no {s : ByteArray} (h : s.size ≠ 0) : s.toList.isEmpty = false := by
  rw [List.isEmpty_eq_false_iff]
  intro e
  apply h
  have := congrArg List.length e
  simpa [ByteArray.toList_eq] using this
set_option maxHeartbeats 400000 in
theorem sSecOk_any (s : ByteArray) (w : World) (hm : s.size ≤ maxLen) :
    Calls Try.prog 37 #[.string s] w fun e w' => e = .returned (.bool (Kw.ok s)) ∧ Below w.heap.size w w' := by
  unfold maxLen at hm
  by_cases h0 : s.size = 0
  · obtain rfl := empty_of h0
    rw [ok_empty]
    clear hm h0
    go_enter Try.func37, Try.ntmps37
    go_wp2_with fail
    go_ret
    exact ⟨rfl, Below.refl _ _⟩
  have he := isEmpty_no h0
  by_cases hs : s.size ≤ 300
  · have H := l1Size_all s hs s.size 0 (by omega)
    have hk : Hid (Kw.ok s = ((Kw.len s 0 : Int) == (s.size : Int))) := ok_eq hs h0
    clear h0
    go_enter Try.func37, Try.ntmps37
    go_wp2_with fail
    refine (H _ _ rfl).mono ?_
    rintro e w1 ⟨rfl, hb1⟩
    go_wp2_with fail
    go_ret
    exact ⟨ret_bool hk.out.symm, hb1⟩
  · have hk : Hid (Kw.ok s = false) := ok_long (by omega)
    have hd : decide ((s.size : Int) ≤ 300) = false := by simp; omega
    clear h0 hs
    go_enter Try.func37, Try.ntmps37
    go_wp2_with fail
    go_ret
    exact ⟨ret_bool hk.out.symm, Below.refl _ _⟩

set_option maxHeartbeats 400000 in
theorem l1Ok_any (s : ByteArray) (w : World) (hm : s.size ≤ maxLen) :
    Calls Try.prog 77 #[.string s] w fun e w' => e = .returned (.string (only s)) ∧ Below w.heap.size w w' := by
  have M := hide hm
  clear hm
  cases hk : Kw.ok s with
  | true =>
    rw [show only s = s by unfold only; rw [if_pos hk]]
    have K := hide hk
    clear hk
    go_enter Try.func77, Try.ntmps77
    go_wp2_with fail
    refine (sSecOk_any s _ M.out).mono ?_
    rw [K.out]
    rintro e w1 ⟨rfl, hb1⟩
    go_wp2_with fail
    go_ret
    exact ⟨rfl, hb1⟩
  | false =>
    rw [show only s = ⟨#[]⟩ by unfold only; rw [if_neg (by rw [hk]; simp)]]
    have K := hide hk
    clear hk
    go_enter Try.func77, Try.ntmps77
    go_wp2_with fail
    refine (sSecOk_any s _ M.out).mono ?_
    rw [K.out]
    rintro e w1 ⟨rfl, hb1⟩
    go_wp2_with fail
    go_ret
    exact ⟨rfl, hb1⟩
#print axioms l1Ok_any
end Go.Proofs.Ytgdhlnfigcaepaa
/-
  What the specification tells of how a secret was made.
-/
namespace Go.Proofs.Ytgdhlnfigcaepaa
open Go.RowKit
open Kw (g len nv ok)

/-- A whole text that names a new secret: its letter, its digits, its number. -/
theorem new_parts {s : ByteArray} (hf : Kw.fresh s 0 = s.size) (h0 : s.size ≠ 0) : 65 ≤ g s 0 ∧ g s 0 ≤ 72 ∧ (∀ i, 1 ≤ i → i < s.size - 1 → 48 ≤ g s i ∧ g s i ≤ 57) ∧ (3 ≤ s.size ∧ s.size ≤ 4) ∧ nv s 0 = dv s 1 (s.size - 2) := by
  by_cases h1 : 65 ≤ g s 0 ∧ g s 0 ≤ 72 ∧ 49 ≤ g s (0 + 1) ∧ g s (0 + 1) ≤ 57
  · obtain ⟨p1, p2, p3, p4⟩ := h1
    rw [Nat.zero_add] at p3 p4
    by_cases h2 : g s (0 + 2) = 59
    · have e : Kw.fresh s 0 = 3 := by unfold Kw.fresh; rw [if_pos ⟨p1, p2, p3, p4⟩, if_pos h2]
      have e2 : nv s 0 = g s (0 + 1) - 48 := by unfold nv; rw [if_pos h2]
      have e3 : s.size = 3 := by omega
      refine ⟨p1, p2, ?_, by omega, ?_⟩
      · intro i h1 h2
        have : i = 1 := by omega
        subst this; omega
      · rw [e2, e3]
        show g s 1 - 48 = 0 * 10 + (g s (1 + 0) - 48)
        simp
    · by_cases h3 : 48 ≤ g s (0 + 2) ∧ g s (0 + 2) ≤ 57 ∧ g s (0 + 3) = 59
      · have e : Kw.fresh s 0 = 4 := by unfold Kw.fresh; rw [if_pos ⟨p1, p2, p3, p4⟩, if_neg h2, if_pos h3]
        have e2 : nv s 0 = (g s (0 + 1) - 48) * 10 + (g s (0 + 2) - 48) := by unfold nv; rw [if_neg h2]
        have e3 : s.size = 4 := by omega
        obtain ⟨r1, r2, _⟩ := h3
        rw [Nat.zero_add] at r1 r2
        refine ⟨p1, p2, ?_, by omega, ?_⟩
        · intro i h1 h2
          have : i = 1 ∨ i = 2 := by omega
          rcases this with rfl | rfl <;> omega
        · rw [e2, e3]
          show (g s 1 - 48) * 10 + (g s 2 - 48) = (0 * 10 + (g s (1 + 0) - 48)) * 10 + (g s (1 + 1) - 48)
          simp
      · exfalso; apply h0; rw [← hf]; unfold Kw.fresh; rw [if_pos ⟨p1, p2, p3, p4⟩, if_neg h2, if_neg h3]
  · exfalso; apply h0; rw [← hf]; unfold Kw.fresh; rw [if_neg h1]

set_option maxRecDepth 100000 in
set_option maxHeartbeats 1000000 in
theorem l1How_any (s : ByteArray) (w : World) (hk : ok s = true) :
    Calls Try.prog 38 #[.string s] w fun e w' => e = .returned (howV (mOp s) (mWho s) (mN s) (mA s) (mB s)) ∧ Below w.heap.size w w' := by
  obtain ⟨h1, h2, h3⟩ := ok_facts hk
  have p0 : 0 < s.size := by omega
  have p0' : (0 : Int) < (s.size : Int) := by omega
  have g0 := Kw.g_in p0
  unfold mOp mWho mN mA mB
  simp only [if_pos hk]
  by_cases c1 : g s 0 = 110
  · simp only [if_pos c1]
    have e1 : ((s[0].toNat : Int) == 110) = true := by simp; omega
    clear h2 h3 g0 c1
    have hk' := hide hk
    clear hk
    go_enter Try.func38, Try.ntmps38
    go_wp2_with fail
    refine bodyPost_ret (v := howV 2 0 0 (s.extract 1 s.size) ⟨#[]⟩) (by simp [results, Try.results38, go_sem, howV]) rfl ⟨rfl, ?_⟩
    exact (Below.refl _ _).alloc (Nat.le_refl _) _
  simp only [if_neg c1]
  have e1 : ((s[0].toNat : Int) == 110) = false := by simp; omega
  by_cases c2 : g s 0 = 107
  · simp only [if_pos c2]
    have e2 : ((s[0].toNat : Int) == 107) = true := by simp; omega
    clear h2 h3 g0 c1 c2
    have hk' := hide hk
    clear hk
    go_enter Try.func38, Try.ntmps38
    go_wp2_with fail
    refine bodyPost_ret (v := howV 3 0 0 (s.extract 1 s.size) ⟨#[]⟩) (by simp [results, Try.results38, go_sem, howV]) rfl ⟨rfl, ?_⟩
    exact (Below.refl _ _).alloc (Nat.le_refl _) _
  simp only [if_neg c2]
  have e2 : ((s[0].toNat : Int) == 107) = false := by simp; omega
  by_cases c3 : g s 0 = 101
  · simp only [if_pos c3]
    have e3 : ((s[0].toNat : Int) == 101) = true := by simp; omega
    have e4 : ((s[0].toNat : Int) == 109) = false := by simp; omega
    have e5 : ((s[0].toNat : Int) == 114) = false := by simp; omega
    obtain ⟨q1, q2, q3⟩ := parts_e hk c3
    have H := l1Size_all s h1 s.size 1 (by omega)
    have p1' : (1 : Int) + (len s 1 : Int) ≤ (s.size : Int) := by omega
    have p2' : (1 : Int) ≤ (s.size : Int) := by omega
    have p3' : (1 : Int) ≤ 1 + (len s 1 : Int) := by omega
    have i3 : IntKind.i64.wrap (1 + (len s 1 : Int)) = 1 + (len s 1 : Int) := by simp [IntKind.wrap, IntKind.bits, IntKind.signed]; omega
    have i5 : (0 : Int) ≤ 1 + (len s 1 : Int) := by omega
    clear h2 h3 g0 c1 c2 c3 q1 q2 q3
    have hk' := hide hk
    clear hk
    go_enter Try.func38, Try.ntmps38
    go_wp2_with fail
    refine (H _ _ rfl).mono ?_
    rintro e w1 ⟨rfl, hb1⟩
    obtain ⟨k0, k1, k2, k3, k4, z0, z1, z2, z3, z4⟩ := Res5.keep (b := w.heap.size) (by constructor <;> simp [go_sem]) hb1 (by simp)
    have hbb : Below w.heap.size w w1 := ((Below.refl w.heap.size w).alloc (Nat.le_refl _) _).trans (hb1.mono (by simp))
    clear hb1
    go_wp2_with fail
    go_region
    all_goals go_wp2_with fail
    all_goals refine bodyPost_ret (v := howV 4 0 0 (s.extract 1 (1 + len s 1)) (s.extract (1 + len s 1) s.size)) (by simp [results, Try.results38, go_sem, howV, k0, k1, k2, k3, k4]) rfl ⟨rfl, ?_⟩
    all_goals exact (below5 hbb (Nat.le_refl _) _ _ _ _ _).drew
  simp only [if_neg c3]
  have e3 : ((s[0].toNat : Int) == 101) = false := by simp; omega
  by_cases c4 : g s 0 = 109
  · simp only [if_pos c4]
    have e4 : ((s[0].toNat : Int) == 109) = true := by simp; omega
    obtain ⟨q1, q2, q3, q4⟩ := parts_m hk c4
    have p1 : 1 < s.size := by omega
    have p1' : (1 : Int) < (s.size : Int) := by omega
    have p2' : (2 : Int) ≤ (s.size : Int) := by omega
    rw [Kw.g_in p1] at q1 q2 ⊢
    have b1 : (65 : Int) ≤ (s[1].toNat : Int) := by omega
    have b2 : (s[1].toNat : Int) ≤ 72 := by omega
    clear h2 h3 g0 c1 c2 c3 c4 q1 q2 q3 q4
    have hk' := hide hk
    clear hk
    go_enter Try.func38, Try.ntmps38
    go_wp2_with fail
    go_region
    all_goals go_wp2_with fail
    all_goals refine bodyPost_ret (v := howV 5 ((s[1].toNat : Int) - 65) 0 (s.extract 2 s.size) ⟨#[]⟩) (by simp [results, Try.results38, go_sem, howV]) rfl ⟨rfl, ?_⟩
    all_goals exact ((Below.refl _ _).alloc (Nat.le_refl _) _).drew
  simp only [if_neg c4]
  have e4 : ((s[0].toNat : Int) == 109) = false := by simp; omega
  by_cases c5 : g s 0 = 114
  · simp only [if_pos c5]
    have e5 : ((s[0].toNat : Int) == 114) = true := by simp; omega
    obtain ⟨q1, q2, q3, q4⟩ := parts_r hk c5
    have p1 : 1 < s.size := by omega
    have p1' : (1 : Int) < (s.size : Int) := by omega
    have p2' : (2 : Int) ≤ (s.size : Int) := by omega
    rw [Kw.g_in p1] at q1 q2 ⊢
    have b1 : (48 : Int) ≤ (s[1].toNat : Int) := by omega
    have b2 : (s[1].toNat : Int) ≤ 57 := by omega
    have b3 : ((s[1].toNat - 48 : Nat) : Int) = (s[1].toNat : Int) - 48 := by omega
    rw [b3]
    clear h2 h3 g0 c1 c2 c3 c4 c5 q1 q2 q3 q4 b3
    have hk' := hide hk
    clear hk
    go_enter Try.func38, Try.ntmps38
    go_wp2_with fail
    go_region
    all_goals go_wp2_with fail
    all_goals refine bodyPost_ret (v := howV 6 0 ((s[1].toNat : Int) - 48) (s.extract 2 s.size) ⟨#[]⟩) (by simp [results, Try.results38, go_sem, howV]) rfl ⟨rfl, ?_⟩
    all_goals exact ((Below.refl _ _).alloc (Nat.le_refl _) _).drew
  simp only [if_neg c5]
  have e5 : ((s[0].toNat : Int) == 114) = false := by simp; omega
  have hfr := parts_new hk c1 c2 c3 c4 c5
  obtain ⟨q1, q2, q3, q4⟩ := new_parts hfr h2
  rw [g0] at q1 q2 ⊢
  have b1 : (65 : Int) ≤ (s[0].toNat : Int) := by omega
  have b2 : (s[0].toNat : Int) ≤ 72 := by omega
  have q3' := hide q3
  have q4' := hide q4.2
  have hsz3 : 3 ≤ s.size := by omega
  have hsz4 : s.size ≤ 4 := by omega
  clear h2 h3 g0 c1 c2 c3 c4 c5 q1 q2 q3 q4 hfr
  have hk' := hide hk
  clear hk
  go_enter Try.func38, Try.ntmps38
  go_wp2_with fail
  go_loop [4, 5] (fun n k => ∃ m j : Nat, k = .int .i64 (j : Int) ∧ n = .int .i64 (m : Int) ∧ 1 ≤ j ∧ j + 1 ≤ s.size ∧ m < 10 ^ (j - 1) ∧ Hid (m = dv s 1 (j - 1))) (fun _ k => s.size - (intOf k).toNat)
  case atStart => exact ⟨0, 1, rfl, rfl, by omega, by omega, by simp, rfl⟩
  case round =>
    obtain ⟨m, j, rfl, rfl, hj1, hj2, hm0, hm⟩ := hrel
    have hm1 : m ≤ 999 := by
      match j, hj1, hj2, hm0 with
      | 1, _, _, h => omega
      | 2, _, _, h => simp at h; omega
      | 3, _, _, h => simp at h; omega
      | j + 4, _, h4, _ => omega
    have hmm := hide hm0
    clear hm0
    by_cases hlt : j < s.size - 1
    · have hlt2 : (j : Int) < (s.size : Int) - 1 := by omega
      have hlt3 : j < s.size := by omega
      have hlt4 : (j : Int) < (s.size : Int) := by omega
      have hd := q3'.out j hj1 hlt
      rw [Kw.g_in hlt3] at hd
      have b3 : (48 : Int) ≤ (s[j].toNat : Int) := by omega
      have b4 : (s[j].toNat : Int) ≤ 57 := by omega
      have hG : Hid (g s j = s[j].toNat) := Kw.g_in hlt3
      clear hd
      go_wp2_with fail
      refine ⟨⟨m * 10 + (s[j].toNat - 48), j + 1, by simp, ?_, by omega, by omega, ?_, ?_⟩, by simp [intOf]; omega⟩
      · congr 1; omega
      · have := hmm.out
        rw [show j + 1 - 1 = (j - 1) + 1 by omega, Nat.pow_succ]; omega
      · show _ = dv s 1 (j + 1 - 1)
        rw [show j + 1 - 1 = (j - 1) + 1 by omega]
        show _ = dv s 1 (j - 1) * 10 + (g s (1 + (j - 1)) - 48)
        rw [show 1 + (j - 1) = j by omega, hG.out, ← hm.out]
    · have hge : decide ((j : Int) < (s.size : Int) - 1) = false := by simp; omega
      have hjj : Hid (j = s.size - 1) := by show j = s.size - 1; omega
      clear hlt
      go_wp2_with fail
      have hN : (nv s 0 : Int) = (m : Int) := by rw [q4'.out, hm.out, hjj.out, show s.size - 1 - 1 = s.size - 2 by omega]
      rw [hN]
      refine bodyPost_ret (v := howV 1 ((s[0].toNat : Int) - 65) (m : Int) ⟨#[]⟩ ⟨#[]⟩) (by simp [results, Try.results38, go_sem, howV]) rfl ⟨rfl, ?_⟩
      exact (Below.refl _ _).alloc (Nat.le_refl _) _

#print axioms l1How_any
end Go.Proofs.Ytgdhlnfigcaepaa
