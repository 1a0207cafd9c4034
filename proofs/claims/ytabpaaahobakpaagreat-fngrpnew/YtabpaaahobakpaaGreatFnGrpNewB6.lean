/-
  The program's iterator upward, told of places that are there.
-/
import Derived.Test.YtabpaaahobakpaaGreatFnGrpNewB5
import Derived.Test.YtabpaaahobakpaaGreatFnGrpNewB4
import Derived.Shelf.RegionOpen
import Derived.Test.YtabpaaahobakpaaGreatFnGrpNewB2
import Derived.Test.YtabpaaahobakpaaGreatFnGrpNewB1
namespace Go.Proofs.YtabpaaahobakpaaGreat
open Go.RowKit Go.Shelf
attribute [local go_sem] Oper.semAt_some

/-- A place, and all above it, as places that are there. -/
def chainT (k : Fin 15) : List (Fin 15) := k :: (ups k.val).map (fun j => Fin.ofNat 15 j)
theorem chainT_val : ∀ k : Fin 15, (chainT k).map (·.val) = k.val :: ups k.val := by decide
theorem chainT_step : ∀ k : Fin 15, 0 < k.val → chainT k = k :: chainT (Fin.ofNat 15 ((k.val - 1) / 2)) := by decide
theorem chainT_len : ∀ k : Fin 15, (chainT k).length ≤ 4 := by decide
def chainF (p : Int) : List (Fin 15) := if h : 0 ≤ p ∧ p ≤ 14 then chainT ⟨p.toNat, by omega⟩ else []
theorem chainF_nil (p : Int) (h : ¬ (0 ≤ p ∧ p ≤ 14)) : chainF p = [] := by unfold chainF; rw [dif_neg h]
theorem chainF_nat (k : Nat) (h : k < 15) : chainF (k : Int) = chainT ⟨k, h⟩ := by unfold chainF; rw [dif_pos (by omega)]; rfl
theorem chainF_cons (k : Nat) (h : k < 15) : chainF (k : Int) = ⟨k, h⟩ :: chainF (overOf (k : Int)) := by
  rw [chainF_nat k h]
  by_cases h0 : 0 < k
  · have e : overOf (k : Int) = (((k - 1) / 2 : Nat) : Int) := by unfold overOf; rw [if_pos (by omega)]; omega
    rw [e, chainF_nat _ (by omega), chainT_step ⟨k, h⟩ h0]
    congr 2
    apply Fin.ext
    show ((k - 1) / 2) % 15 = (k - 1) / 2
    omega
  · obtain rfl : k = 0 := by omega
    rfl

set_option maxRecDepth 100000 in
set_option maxHeartbeats 1000000 in
theorem upwardF_in (n : Nat) (hn : 1 ≤ n) (l Bn n₀ : Nat) (p : Int) (J Jx : List (Fin 15) → World → Prop)
    (hY : ∀ pre (x : Fin 15) W, J pre W → pre.length < (chainF p).length → YieldAt Fence.wide (n - 1) Tryz.prog l #[.int .i64 ((x.val : Nat) : Int)] W fun e W' =>
      (e = .returned (.bool true) ∧ J (pre ++ [x]) W' ∧ Below n₀ W W') ∨ (e = .returned (.bool false) ∧ Jx (pre ++ [x]) W'))
    (W : World) (hBn : W.cell? ⟨Bn, 0, none⟩ = some (.int .i64 p)) (h0 : J [] W) :
    CallsIn Fence.wide n Tryz.prog 166 #[.func (.yield l) #[] #[], .pointer (some ⟨Bn, 0, none⟩)] W fun e W' => (∃ v, e = .returned v) ∧
      ((∃ ys, ys = chainF p ∧ J ys W') ∨ (∃ pre, pre <+: chainF p ∧ Jx pre W')) := by
  refine callsIn_of_wp Tryz.func166 rfl trivial ?_ rfl
  simp only [Tryz.ntmps166, List.size_toArray, List.length_cons, List.length_nil, Nat.reduceAdd, Nat.reduceSub, Array.replicate_succ, Array.replicate_zero, List.push_toArray, List.append_toArray, List.nil_append, List.cons_append]
  gi_wp2
  gi_loopw [3] (fun q wr => ∃ (pre : List (Fin 15)) (x : Int), q = .int .i64 x ∧ chainF p = pre ++ chainF x ∧ J pre wr)
    (fun q _ => (intOf q + 1).toNat)
  case atStart => exact ⟨[], p, rfl, rfl, h0⟩
  case round =>
    obtain ⟨pre, x, rfl, hx, hJs⟩ := hrel
    by_cases ht : 0 ≤ x ∧ x ≤ 14
    · obtain ⟨k, rfl⟩ : ∃ k : Nat, x = (k : Int) := ⟨x.toNat, by omega⟩
      have hk : k < 15 := by omega
      have hc := chainF_cons k hk
      obtain ⟨fn, tmps, assign, body, hy, hR⟩ := hY pre ⟨k, hk⟩ wr hJs (by rw [hx, hc]; simp)
      dsimp only at hy
      have hh := hide ht
      gi_wp2_with (refine ⟨trivial, ?_⟩; gi_at_call 167; refine (callsIn_wide.2 (isThere_yes (k : Int) _ hh.out.1 (by have := hh.out; omega))).mono ?_; rintro e w' ⟨rfl, rfl⟩)
      refine hR.mono ?_
      clear hR hy
      rintro e W3 (⟨rfl, hJ3, hk3⟩ | ⟨rfl, hJx3⟩)
      · gi_wp2_with (refine ⟨trivial, ?_⟩; gi_at_call 168; refine (callsIn_wide.2 (over_any (k : Int) _)).mono ?_; rintro e w' ⟨rfl, rfl⟩)
        go_roundw
        case rel => exact ⟨pre ++ [⟨k, hk⟩], overOf (k : Int), rfl, by rw [hx, hc]; simp, hJ3⟩
        case measure => have := over_lt (k : Int) ht.1; simp [intOf]; omega
      · gi_wp2
        go_end0
        exact ⟨⟨_, rfl⟩, .inr ⟨pre ++ [⟨k, hk⟩], ⟨chainF (overOf (k : Int)), by rw [hx, hc]; simp⟩, hJx3⟩⟩
    · have hc := chainF_nil x ht
      have hh := hide ht
      gi_wp2_with (refine ⟨trivial, ?_⟩; gi_at_call 167; refine (callsIn_wide.2 (isThere_no x _ (by have := hh.out; omega))).mono ?_; rintro e w' ⟨rfl, rfl⟩)
      refine ⟨fun _ h => (by cases h), ?_⟩
      gi_wp2
      go_end0
      exact ⟨⟨_, rfl⟩, .inl ⟨pre, by rw [hx, hc]; simp, hJs⟩⟩

theorem upwardF_stops (n : Nat) (hn : 1 ≤ n) (Bn n₀ : Nat) (p : Int) (w : World) (hBn : Bn < w.heap.size) (hc : w.cell? ⟨Bn, 0, none⟩ = some (.int .i64 p)) :
    SeqStopsK Fence.wide n Tryz.prog 166 #[.pointer (some ⟨Bn, 0, none⟩)] (fun x : Fin 15 => #[Value.int .i64 ((x.val : Nat) : Int)]) (Below n₀) (fun ys => ys = chainF p) (fun pre => pre <+: chainF p) (chainF p).length w := fun l J Jx W hW _ _ hY h0 =>
  upwardF_in n hn l Bn n₀ p J Jx hY W ((hW.cell (p := ⟨Bn, 0, none⟩) hBn).trans hc) h0
end Go.Proofs.YtabpaaahobakpaaGreat
/-
  The program's TreLeaf.
-/
namespace Go.Proofs.YtabpaaahobakpaaGreat
open Go.RowKit

end Go.Proofs.YtabpaaahobakpaaGreat
/-
  The program's secretAt and ownsItsPlaces.
-/
namespace Go.Proofs.YtabpaaahobakpaaGreat
open Go.RowKit Go.Shelf
attribute [local go_sem] Oper.semAt_some

/-- The first secret of a place. -/
def secAt : List Mo → Int → ByteArray
  | [], _ => ⟨#[]⟩
  | b :: bs, p => if b.1 = p then b.2 else secAt bs p
theorem secAt_none : ∀ (bs : List Mo) (p : Int), (∀ j, j < bs.length → (bs.getD j noMo).1 ≠ p) → secAt bs p = ⟨#[]⟩
  | [], _, _ => rfl
  | b :: bs, p, h => by
    unfold secAt
    rw [if_neg (show ¬ b.1 = p from h 0 (by simp))]
    exact secAt_none bs p (fun j hj => h (j + 1) (by simpa using hj))
theorem secAt_at : ∀ (bs : List Mo) (p : Int) (k : Nat), k < bs.length → (∀ j, j < k → (bs.getD j noMo).1 ≠ p) → (bs.getD k noMo).1 = p → secAt bs p = (bs.getD k noMo).2
  | [], _, _, h, _, _ => absurd h (Nat.not_lt_zero _)
  | b :: bs, p, 0, _, _, h => by unfold secAt; rw [if_pos (show b.1 = p from h)]; rfl
  | b :: bs, p, k + 1, hk, h, hp => by
    unfold secAt
    rw [if_neg (show ¬ b.1 = p from h 0 (by omega))]
    exact secAt_at bs p k (by simpa using hk) (fun j hj => h (j + 1) (by omega)) hp
theorem secAt_mem : ∀ (bs : List Mo) (p : Int), secAt bs p = ⟨#[]⟩ ∨ ∃ b ∈ bs, b.1 = p ∧ secAt bs p = b.2
  | [], _ => .inl rfl
  | b :: bs, p => by
    unfold secAt
    by_cases h : b.1 = p
    · rw [if_pos h]; exact .inr ⟨b, by simp, h, rfl⟩
    · rw [if_neg h]
      rcases secAt_mem bs p with q | ⟨c, q1, q2⟩
      · exact .inl q
      · exact .inr ⟨c, by simp [q1], q2⟩

set_option maxRecDepth 100000 in
set_option maxHeartbeats 2000000 in
theorem secretAt_any (v : Value) (bs : List Mo) (p : Int) (w : World) (h : MRow w v bs) :
    Calls Tryz.prog 178 #[v, .int .i64 p] w fun e w' => e = .returned (.string (secAt bs p)) ∧ Below w.heap.size w w' := by
  have hR := hide h
  obtain ⟨ao, cap, rfl, h1, h2, _⟩ := h
  unfold maxLen at h2
  go_enter Tryz.func178, Tryz.ntmps178
  go_wp2_with fail
  go_loopw [6, 9] (fun b i wr => ∃ k : Nat, k ≤ bs.length ∧ i = .int .i64 (k : Int) ∧ Hid (∀ j, j < k → (bs.getD j noMo).1 ≠ p) ∧ Hid (Below w.heap.size w wr)) (fun _ i _ => bs.length - (intOf i).toNat)
  case atStart => exact ⟨0, by omega, rfl, fun j hj => by omega, Below.refl _ _⟩
  case round =>
    obtain ⟨k, hk, rfl, hN, hL⟩ := hrel
    have hle := hL.out.size
    by_cases hlt : k < bs.length
    · have hlt2 : (k : Int) < (bs.length : Int) := by omega
      obtain ⟨ao', c1, q1, _, _, q2⟩ := (MRow.below (unhide hR) (unhide hL)).form
      simp only [Value.slice.injEq] at q1
      obtain ⟨rfl, z1, rfl⟩ := q1
      clear z1
      obtain ⟨a, rfl, hca, hcb⟩ := q2 k hlt
      clear q2
      have i3 : IntKind.i64.wrap ((k : Int) + 1) = (k : Int) + 1 := by simp [IntKind.wrap, IntKind.bits, IntKind.signed]; omega
      have HAT : Hid ((bs.getD k noMo).1 = p → secAt bs p = (bs.getD k noMo).2) := fun q => secAt_at bs p k hlt hN.out q
      have HNX : Hid ((bs.getD k noMo).1 ≠ p → ∀ j, j < k + 1 → (bs.getD j noMo).1 ≠ p) := fun q j hj => by
        by_cases e : j = k
        · subst e; exact q
        · exact hN.out j (by omega)
      generalize bs.getD k noMo = y at hca hcb HAT HNX
      have hLA : Hid (Below w.heap.size w (wr.alloc (.cells #[.int .i64 y.1, .string y.2] 134))) := (unhide hL).alloc hle _
      by_cases he : y.1 = p
      · have HE := hide (HAT.out he)
        have he2 : (y.1 == p) = true := by simpa using he
        clear HAT HNX he
        go_wp2_with fail
        go_ret
        exact ⟨congrArg (fun x => Ending.returned (.string x)) HE.out.symm, unhide hLA⟩
      · have HN1 := hide (HNX.out he)
        have he2 : (y.1 == p) = false := by simpa using he
        clear HAT HNX he
        go_wp2_with fail
        go_roundw
        case rel => exact ⟨k + 1, by omega, by simp, HN1, hLA⟩
        case measure => simp [intOf]; omega
    · have hlt2 : decide ((k : Int) < (bs.length : Int)) = false := by simp; omega
      have HE : Hid (secAt bs p = ⟨#[]⟩) := secAt_none bs p (fun j hj => hN.out j (by omega))
      go_wp2_with fail
      go_ret
      exact ⟨congrArg (fun x => Ending.returned (.string x)) HE.out.symm, unhide hL⟩

/-- Whether a place has no key, or the key of what is had there. -/
def fitsAt (keys : List ByteArray) (own : List Mo) (p : Nat) : Bool := decide (keys.getD p ByteArray.empty = ByteArray.empty) || decide (mkKey (secAt own (p : Int)) = keys.getD p ByteArray.empty)
/-- How many of some places have keys. -/
def keyedIn (keys : List ByteArray) (ps : List Nat) : Nat := (ps.filter fun p => decide (keys.getD p ByteArray.empty ≠ ByteArray.empty)).length
def ownsOf (keys : List ByteArray) (own : List Mo) (k : Nat) : Bool :=
  decide (keys.getD (7 + k) ByteArray.empty ≠ ByteArray.empty) && ((7 + k) :: ups (7 + k)).all (fitsAt keys own) && decide (own.length = keyedIn keys ((7 + k) :: ups (7 + k)))
theorem keyedIn_snoc (keys : List ByteArray) (ps : List Nat) (p : Nat) : keyedIn keys (ps ++ [p]) = keyedIn keys ps + if keys.getD p ByteArray.empty = ByteArray.empty then 0 else 1 := by
  unfold keyedIn
  rw [List.filter_append, List.length_append]
  by_cases h : keys.getD p ByteArray.empty = ByteArray.empty
  · rw [if_pos h]; simp [List.filter_cons]; exact h
  · have h2 : ¬ keys[p]?.getD ByteArray.empty = ByteArray.empty := h
    rw [if_neg h]; simp [h2]
theorem keyedIn_le (keys : List ByteArray) (ps : List Nat) : keyedIn keys ps ≤ ps.length := by unfold keyedIn; exact List.length_filter_le _ _
def valsF (ps : List (Fin 15)) : List Nat := ps.map (·.val)
theorem valsF_snoc (ps : List (Fin 15)) (x : Fin 15) : valsF (ps ++ [x]) = valsF ps ++ [x.val] := by simp [valsF]
theorem valsF_chain (k : Nat) (h : k < 8) : valsF (chainF (7 + (k : Int))) = (7 + k) :: ups (7 + k) := by
  rw [show (7 + (k : Int)) = ((7 + k : Nat) : Int) by omega, chainF_nat _ (by omega)]
  exact chainT_val ⟨7 + k, by omega⟩
theorem chainF_len (p : Int) : (chainF p).length ≤ 4 := by
  unfold chainF
  split
  · exact chainT_len _
  · simp
theorem blk_own {β : Type} (B : Nat) (t : TypeId) (f : β → Array Value) : _root_.Go.Own (fun s W => Blk W B t (f s)) := fun s X Y row hs hg hrow =>
  hs.kept hg (fun e' => by obtain ⟨o, ho, hc⟩ := hrow B e'.symm; rw [show X.heap[B]? = _ from hs] at ho; cases ho; cases hc)

theorem keepsOthers_belowO {w w' : World} (h : Below w.heap.size w w') : KeepsOthers w w' := ⟨h.size, fun k _ hk _ => (h.block k (Array.getElem?_eq_some_iff.1 hk).1).trans hk⟩
theorem blk_other {w : World} {b b' : Nat} {t : TypeId} {cs : Array Value} (h : Blk w b t cs) (hne : b ≠ b') (v : Value) : Blk (w.setCell ⟨b', 0, none⟩ v) b t cs := h.kept (grownBy_setCell' w b' v) (fun e => hne (by cases e; rfl))
/-- A part of the places at whose last one what is had does not fit. -/
def Misfit (keys : List ByteArray) (own : List Mo) (pre : List (Fin 15)) : Prop := ∃ x ∈ pre, fitsAt keys own x.val = false
set_option maxRecDepth 100000 in
set_option maxHeartbeats 8000000 in
theorem ownsItsPlaces_bare (inn : Bool) (k : Nat) (hk : k < 8) (ks os : Value) (keys : List ByteArray) (own : List Mo) (ep : Int) (init tag : ByteArray) (w : World) (hK : SRow w ks keys) (hO : MRow w os own) (hl : keys.length = 15) (hsm : ∀ o ∈ own, o.2.size ≤ maxLen) (hne : keys.getD (7 + k) ByteArray.empty = ByteArray.empty) :
    Calls Tryz.prog 143 #[.agg (memC inn (k : Int) ks os ep init tag)] w fun e W' => e = .returned (.bool (ownsOf keys own k)) ∧ Below w.heap.size w W' := by
  have HK := hide hK
  have HO := hide hO
  have HSM := hide hsm
  obtain ⟨a1, p1, rfl, g1, g2, g3⟩ := hK.form
  obtain ⟨a2, p2, rfl, g4, g5, _⟩ := hO
  have HL := hide hl
  rw [hl] at HK g1 g3 ⊢
  clear hl
  have HLF : Hid (leafOf (k : Int) = ((7 + k : Nat) : Int)) := by show _ = _; unfold leafOf; rw [if_pos (by omega)]; omega
  have HDEF : Hid (ownsOf keys own k = (decide (keys.getD (7 + k) ByteArray.empty ≠ ByteArray.empty) && (valsF (chainF ((7 + k : Nat) : Int))).all (fitsAt keys own) && decide (own.length = keyedIn keys (valsF (chainF ((7 + k : Nat) : Int)))))) := by
    show _ = _
    rw [show (((7 + k : Nat)) : Int) = 7 + (k : Int) by omega, valsF_chain k hk]
    rfl
  have hlf0 : 7 + k < 15 := by omega
  obtain ⟨lf, hlf⟩ : ∃ lf : Nat, lf = 7 + k := ⟨_, rfl⟩
  rw [← hlf] at HLF HDEF hlf0 hne
  clear hlf
  obtain ⟨ad, rfl, hc0⟩ := g3 lf (by omega)
  unfold maxLen at g2 g5
  clear g3 hK
  have j1 : (lf : Int) < 15 := by omega
  have al : Below w.heap.size w ((w.alloc (.cells (memC inn (k : Int) (.slice (some ad) 15 p1) (.slice a2 own.length p2) ep init tag) 42)).alloc (.cells #[.bool false] 4)) := ((Below.refl _ _).alloc (Nat.le_refl _) _).alloc (by simp) _
  have hc1 := (al.cell (cell_lt hc0)).trans hc0
  have A0 := hide ((Blk.new w 42 (memC inn (k : Int) (.slice (some ad) 15 p1) (.slice a2 own.length p2) ep init tag)).alloc (.cells #[.bool false] 4))
  have b0 := Boxed.new (w.alloc (.cells (memC inn (k : Int) (.slice (some ad) 15 p1) (.slice a2 own.length p2) ep init tag) 42)) 4 (.bool false)
  rw [World.size_alloc] at b0
  have B0 := hide b0
  have HB0 := hide al
  have hs0 : ((w.alloc (.cells (memC inn (k : Int) (.slice (some ad) 15 p1) (.slice a2 own.length p2) ep init tag) 42)).alloc (.cells #[.bool false] 4)).heap.size = w.heap.size + 2 := by simp
  have HPO : Hid (∀ u : World, Calls Tryz.prog 54 #[.int .i64 (k : Int)] u fun e w' => e = .returned (.int .i64 (lf : Int)) ∧ w' = u) := fun u => by have := placeOf_any (k : Int) u; rw [HLF.out] at this; exact this
  clear b0 al hc0
  have HE : Hid (ownsOf keys own k = false) := by show _ = _; rw [HDEF.out, hne]; simp
  rw [hne] at hc1
  go_enter Tryz.func143, Tryz.ntmps143
  go_wp2_with fail
  go_quiet ((go_at_call 54; exact Calls.quiet_of_same (HPO.out _)))
  have HB1 := hide (below_drewN (unhide HB0) nq)
  have B1 := box_below (unhide B0) (below_drewN (Below.refl _ _) nq)
  have HB2 := hide (below_box (unhide HB1) (b := w.heap.size + 1) (by omega) (.bool false))
  have l1 := B1.cell
  have l2 := B1.frozen
  have l3 := (B1.set (.bool false)).cell
  clear B1
  generalize (((w.alloc (.cells (memC inn (k : Int) (.slice (some ad) 15 p1) (.slice a2 own.length p2) ep init tag) 42)).alloc (.cells #[.bool false] 4)).drewN nq) = w1 at *
  go_wp2_with fail
  refine bodyPost_ret (v := .bool false) (by simp [results, Tryz.results143, go_sem, l3]) rfl ⟨by rw [HE.out], unhide HB2⟩

set_option maxRecDepth 100000 in
set_option maxHeartbeats 8000000 in
theorem ownsItsPlaces_in (n : Nat) (hn : 4 ≤ n) (inn : Bool) (k : Nat) (hk : k < 8) (ks os : Value) (keys : List ByteArray) (own : List Mo) (ep : Int) (init tag : ByteArray) (w : World) (hK : SRow w ks keys) (hO : MRow w os own) (hl : keys.length = 15) (hsm : ∀ o ∈ own, o.2.size ≤ maxLen) (hne : keys.getD (7 + k) ByteArray.empty ≠ ByteArray.empty) :
    CallsIn Fence.wide n Tryz.prog 143 #[.agg (memC inn (k : Int) ks os ep init tag)] w fun e W' => e = .returned (.bool (ownsOf keys own k)) ∧ Below w.heap.size w W' := by
  have h1 : 1 ≤ n := by omega
  have h2 : 1 ≤ n - 1 := by omega
  have hro : Fence.wide.round = none := rfl
  have HK := hide hK
  have HO := hide hO
  have HSM := hide hsm
  obtain ⟨a1, p1, rfl, g1, g2, g3⟩ := hK.form
  obtain ⟨a2, p2, rfl, g4, g5, _⟩ := hO
  have HL := hide hl
  rw [hl] at HK g1 g3 ⊢
  clear hl
  have HLF : Hid (leafOf (k : Int) = ((7 + k : Nat) : Int)) := by show _ = _; unfold leafOf; rw [if_pos (by omega)]; omega
  have HDEF : Hid (ownsOf keys own k = (decide (keys.getD (7 + k) ByteArray.empty ≠ ByteArray.empty) && (valsF (chainF ((7 + k : Nat) : Int))).all (fitsAt keys own) && decide (own.length = keyedIn keys (valsF (chainF ((7 + k : Nat) : Int)))))) := by
    show _ = _
    rw [show (((7 + k : Nat)) : Int) = 7 + (k : Int) by omega, valsF_chain k hk]
    rfl
  have hlf0 : 7 + k < 15 := by omega
  obtain ⟨lf, hlf⟩ : ∃ lf : Nat, lf = 7 + k := ⟨_, rfl⟩
  rw [← hlf] at HLF HDEF hlf0 hne
  clear hlf
  obtain ⟨ad, rfl, hc0⟩ := g3 lf (by omega)
  unfold maxLen at g2 g5
  clear g3 hK
  have j1 : (lf : Int) < 15 := by omega
  have al : Below w.heap.size w ((w.alloc (.cells (memC inn (k : Int) (.slice (some ad) 15 p1) (.slice a2 own.length p2) ep init tag) 42)).alloc (.cells #[.bool false] 4)) := ((Below.refl _ _).alloc (Nat.le_refl _) _).alloc (by simp) _
  have hc1 := (al.cell (cell_lt hc0)).trans hc0
  have A0 := hide ((Blk.new w 42 (memC inn (k : Int) (.slice (some ad) 15 p1) (.slice a2 own.length p2) ep init tag)).alloc (.cells #[.bool false] 4))
  have b0 := Boxed.new (w.alloc (.cells (memC inn (k : Int) (.slice (some ad) 15 p1) (.slice a2 own.length p2) ep init tag) 42)) 4 (.bool false)
  rw [World.size_alloc] at b0
  have B0 := hide b0
  have HB0 := hide al
  have hs0 : ((w.alloc (.cells (memC inn (k : Int) (.slice (some ad) 15 p1) (.slice a2 own.length p2) ep init tag) 42)).alloc (.cells #[.bool false] 4)).heap.size = w.heap.size + 2 := by simp
  have HPO : Hid (∀ u : World, Calls Tryz.prog 54 #[.int .i64 (k : Int)] u fun e w' => e = .returned (.int .i64 (lf : Int)) ∧ w' = u) := fun u => by have := placeOf_any (k : Int) u; rw [HLF.out] at this; exact this
  clear b0 al hc0
  have hnt : (keys.getD lf ByteArray.empty).toList.isEmpty = false := by simpa using no_text hne
  have HNE := hide hne
  clear hne
  generalize keys.getD lf ByteArray.empty = y0 at hc1 hnt
  refine callsIn_of_wp_marks Tryz.func143 rfl trivial ?_ hro
  simp only [Tryz.ntmps143, List.size_toArray, List.length_cons, List.length_nil, Nat.reduceAdd, Nat.reduceSub, Array.replicate_succ, Array.replicate_zero, List.push_toArray, List.append_toArray, List.nil_append, List.cons_append]
  gi_wp2
  refine wpIn_wide.2 ?_
  go_quiet ((go_at_call 54; exact Calls.quiet_of_same (HPO.out _)))
  have hb1 := below_drewN (Below.refl ((w.alloc (.cells (memC inn (k : Int) (.slice (some ad) 15 p1) (.slice a2 own.length p2) ep init tag) 42)).alloc (.cells #[.bool false] 4)).heap.size ((w.alloc (.cells (memC inn (k : Int) (.slice (some ad) 15 p1) (.slice a2 own.length p2) ep init tag) 42)).alloc (.cells #[.bool false] 4))) nq
  have A1 := (unhide A0).below hb1
  have B1 := hide (box_below (unhide B0) hb1)
  have HB1 := hide (below_drewN (unhide HB0) nq)
  have hs1 : (((w.alloc (.cells (memC inn (k : Int) (.slice (some ad) 15 p1) (.slice a2 own.length p2) ep init tag) 42)).alloc (.cells #[.bool false] 4)).drewN nq).heap.size = w.heap.size + 2 := hs0
  clear hb1 A0 B0 HB0 hs0
  generalize (((w.alloc (.cells (memC inn (k : Int) (.slice (some ad) 15 p1) (.slice a2 own.length p2) ep init tag) 42)).alloc (.cells #[.bool false] 4)).drewN nq) = w1 at *
  have A2 := A1.alloc (.cells #[.int .i64 0] 3)
  have c1 := A2.cell 1
  simp only [List.getElem?_toArray, List.getElem?_cons_succ, List.getElem?_cons_zero] at c1
  have HA1 := hide A1
  clear A1 A2
  gi_wp2_with (first
    | (refine ⟨trivial, ?_⟩; gi_at_call 54; refine (callsIn_wide.2 (HPO.out _)).mono ?_; rintro e wz ⟨rfl, rfl⟩)
    | (refine ⟨trivial, ?_⟩; gi_at_call 133; refine (upward_in _ _ _).mono ?_; rintro e wz ⟨rfl, rfl⟩))
  have bM := ((unhide HA1).alloc (.cells #[.int .i64 0] 3)).alloc (.cells #[.int .i64 (lf : Int)] 105)
  have bR := ((unhide B1).alloc (.cells #[.int .i64 0] 3)).alloc (.cells #[.int .i64 (lf : Int)] 105)
  have bC := (Boxed.new w1 3 (.int .i64 0)).alloc (.cells #[.int .i64 (lf : Int)] 105)
  have bN := Boxed.new (w1.alloc (.cells #[.int .i64 0] 3)) 105 (.int .i64 (lf : Int))
  rw [World.size_alloc, hs1] at bN
  rw [hs1] at bC
  have hB3 : Below w.heap.size w ((w1.alloc (.cells #[.int .i64 0] 3)).alloc (.cells #[.int .i64 (lf : Int)] 105)) := ((unhide HB1).alloc HB1.out.size _).alloc (by simp; have := HB1.out.size; omega) _
  have hsz : ((w1.alloc (.cells #[.int .i64 0] 3)).alloc (.cells #[.int .i64 (lf : Int)] 105)).heap.size = w.heap.size + 4 := by simp; omega
  obtain ⟨W0, hW0⟩ : ∃ W0, (w1.alloc (.cells #[.int .i64 0] 3)).alloc (.cells #[.int .i64 (lf : Int)] 105) = W0 := ⟨_, rfl⟩
  rw [hW0] at bM bR bC bN hB3 hsz ⊢
  have hcl := chainF_len (lf : Int)
  clear hW0 HA1 B1 HB1 c1
  refine wpIn_rangeFunc_ownG hro h1 (gf := 166) (lb := #[.pointer (some ⟨w.heap.size + 2 + 1, 0, none⟩)]) rfl trivial (enters_of Tryz.func166 (by kernel_rfl) rfl)
    (upwardF_stops (n - 1) h2 (w.heap.size + 2 + 1) w.heap.size (lf : Int) W0 (by omega) bN.cell) belowK_t (belowK_b (by omega)) (Below.refl _ _) (fun _ => rfl)
    (fun pre W => (((((∀ x ∈ pre, fitsAt keys own x.val = true) ∧ pre.length ≤ 4) ∧ Boxed W (w.heap.size + 2) 3 (.int .i64 ((keyedIn keys (valsF pre) : Nat) : Int))) ∧ Boxed W (w.heap.size + 1) 4 (.bool false)) ∧ Blk W w.heap.size 42 (memC inn (k : Int) (.slice (some ad) 15 p1) (.slice a2 own.length p2) ep init tag)) ∧ Below w.heap.size w W)
    (fun c pre W => ((c = .ret ∧ Misfit keys own pre) ∧ Boxed W (w.heap.size + 1) 4 (.bool false)) ∧ Below w.heap.size w W)
    (OwnFrom.and (OwnFrom.and (OwnFrom.and (OwnFrom.and (ownFrom_pure _ _) (Own.from (boxed_own _ _ (fun (pre : List (Fin 15)) => Value.int .i64 ((keyedIn keys (valsF pre) : Nat) : Int))) _)) (Own.from (boxed_own _ _ _) _)) (Own.from (blk_own _ _ _) _)) (ownFrom_below (Nat.le_refl _) (by omega)))
    (fun c => OwnFrom.and (OwnFrom.and (ownFrom_pure _ _) (Own.from (boxed_own _ _ _) _)) (ownFrom_below (Nat.le_refl _) (by omega)))
    ⟨⟨⟨⟨⟨by simp, by simp⟩, bC⟩, bR⟩, bM⟩, hB3⟩
    (fun x => { tmps := #[.agg (memC inn (k : Int) (.slice (some ad) 15 p1) (.slice a2 own.length p2) ep init tag), .pointer (some ⟨w.heap.size, 0, none⟩), .pointer (some ⟨w.heap.size + 1, 0, none⟩), .pointer (some ⟨w.heap.size + 2, 0, none⟩), .int .i64 ((x.val : Nat) : Int), undef, .pointer (some ⟨w.heap.size, 2, none⟩), .pointer (some ⟨w.heap.size, 2, none⟩), .slice (some ad) 15 p1, .pointer (some ⟨w.heap.size, 1, none⟩), .int .i64 (k : Int), .int .i64 (lf : Int), .pointer (some (ad.add lf)), .string y0, .bool false, .pointer (some ⟨w.heap.size, 1, none⟩), .int .i64 (k : Int), .int .i64 (lf : Int), .func (.func 166) #[] #[.pointer (some ⟨w.heap.size + 2 + 1, 0, none⟩)], .int .i64 ((x.val : Nat) : Int), undef, undef, undef, undef, undef, undef, undef, undef, undef, undef, undef, undef, undef, undef, undef, undef, undef, undef, undef, undef, undef, undef], defers := [] }) ?assign ?body ?done ?stop
  case assign =>
    intro l x W K hK
    gi_wp2
    exact hK
  case body =>
    rintro l pre x W ⟨⟨⟨⟨⟨hp, hpl⟩, hbC⟩, hbR⟩, hbM⟩, hB⟩ hlt
    have hj := x.isLt
    have j1 : ((x.val : Nat) : Int) < 15 := by omega
    have h3' : 1 ≤ n - 1 - 1 := by omega
    obtain ⟨ax, cx, qx, _, _, qy⟩ := ((unhide HK).below hB).form
    rw [HL.out] at qx qy
    simp only [Value.slice.injEq] at qx
    obtain ⟨rfl, _, rfl⟩ := qx
    obtain ⟨a', ha', hcx⟩ := qy x.val hj
    cases ha'
    clear qy
    have c2 := hbM.cell 2
    have c3 := hbM.cell 3
    simp only [List.getElem?_toArray, List.getElem?_cons_succ, List.getElem?_cons_zero] at c2 c3
    have HFT : Hid (fitsAt keys own x.val = (decide (keys.getD x.val ByteArray.empty = ByteArray.empty) || decide (mkKey (secAt own ((x.val : Nat) : Int)) = keys.getD x.val ByteArray.empty))) := rfl
    have HKI : Hid (keyedIn keys (valsF (pre ++ [x])) = keyedIn keys (valsF pre) + if keys.getD x.val ByteArray.empty = ByteArray.empty then 0 else 1) := by show _ = _; rw [valsF_snoc, keyedIn_snoc]
    have hkn : keyedIn keys (valsF pre) ≤ 4 := Nat.le_trans (keyedIn_le _ _) (by simpa [valsF] using hpl)
    have HBC := hide hbC
    have HBR := hide hbR
    have HBM := hide hbM
    have HBW := hide hB
    clear hbM
    generalize keys.getD x.val ByteArray.empty = y at hcx HFT HKI
    by_cases hy : y = ByteArray.empty
    · have hyt : y.toList.isEmpty = true := by rw [hy]; decide +kernel
      have HY := hide hy
      clear hy
      gi_wp2
      exact ⟨KeepsFrom.refl _ _, Below.refl _ _, ⟨⟨⟨⟨fun z hz => (List.mem_append.1 hz).elim (hp z) (fun e => by simp at e; subst e; rw [HFT.out, HY.out]; simp), by simp; omega⟩, by rw [HKI.out, HY.out]; exact unhide HBC⟩, unhide HBR⟩, unhide HBM⟩, unhide HBW⟩
    · have hyt : y.toList.isEmpty = false := by simpa using no_text hy
      have HY := hide hy
      clear hy
      have HSS : Hid ((secAt own ((x.val : Nat) : Int)).size ≤ maxLen) := by
        show _ ≤ _
        rcases secAt_mem own ((x.val : Nat) : Int) with q | ⟨b, q1, _, q2⟩
        · rw [q]; exact Nat.zero_le _
        · rw [q2]; exact HSM.out b q1
      generalize hsc : secAt own ((x.val : Nat) : Int) = sc at *
      have HSC := hide hsc
      clear hsc
      by_cases hm : mkKey sc = y
      · subst hm
        have i4 : IntKind.i64.wrap (((keyedIn keys (valsF pre) : Nat) : Int) + 1) = ((keyedIn keys (valsF pre) : Nat) : Int) + 1 := by simp [IntKind.wrap, IntKind.bits, IntKind.signed]; omega
        gi_wp2_with (first
          | (refine ⟨trivial, ?_⟩; gi_at_call 178; refine (CallsIn.inRound l (callsIn_wide.2 (secretAt_any _ own _ _ ((unhide HO).below (unhide HBW))))).mono ?_; rw [HSC.out]; rintro e w3 ⟨rfl, hb3⟩; have C3 := hide (box_below (unhide HBC) hb3); have R3 := hide (box_below (unhide HBR) hb3); have M3 := hide ((unhide HBM).below hb3); have B3 := hide hb3; clear hb3)
          | (refine ⟨trivial, ?_⟩; gi_at_call 134; refine (CallsIn.inRound l (callsIn_wide.2 (iMakKey_any sc _ HSS.out))).mono ?_; rintro e w4 ⟨rfl, hb4⟩; have C4 := hide (box_below (unhide C3) hb4); have R4 := hide (box_below (unhide R3) hb4); have M4 := hide ((unhide M3).below hb4); have B4 := hide ((unhide B3).trans (hb4.mono (unhide B3).size)); have l1 := (unhide C4).cell; have l2 := (unhide C4).frozen; have l3 := (unhide R4).cell; have l4 := (unhide R4).frozen; clear hb4))
        have KO := (keepsOthers_belowO (unhide B4)).trans (KeepsOthers.setCell w4 ⟨w.heap.size + 2, 0, none⟩ (.int .i64 (((keyedIn keys (valsF pre) : Nat) : Int) + 1)))
        have BW : Below w.heap.size W (w4.setCell ⟨w.heap.size + 2, 0, none⟩ (.int .i64 (((keyedIn keys (valsF pre) : Nat) : Int) + 1))) := ((unhide B4).mono hB.size).setCell (p := ⟨w.heap.size + 2, 0, none⟩) (by show w.heap.size ≤ w.heap.size + 2; omega) _
        refine ⟨KO.from _, BW, ⟨⟨⟨⟨fun z hz => (List.mem_append.1 hz).elim (hp z) (fun e => by simp at e; subst e; rw [HFT.out]; simp), by simp; omega⟩, ?_⟩, (unhide R4).other (by omega) _⟩, blk_other (unhide M4) (by omega) _⟩, hB.trans BW⟩
        rw [HKI.out, if_neg HY.out]
        exact (unhide C4).set _
      · have hnk : ((mkKey sc).toList == y.toList) = false := by
          cases q : ((mkKey sc).toList == y.toList) with
          | false => rfl
          | true => exact absurd (toList_eq.1 q) hm
        have HM := hide hm
        clear hm
        gi_wp2_with (first
          | (refine ⟨trivial, ?_⟩; gi_at_call 178; refine (CallsIn.inRound l (callsIn_wide.2 (secretAt_any _ own _ _ ((unhide HO).below (unhide HBW))))).mono ?_; rw [HSC.out]; rintro e w3 ⟨rfl, hb3⟩; have C3 := hide (box_below (unhide HBC) hb3); have R3 := hide (box_below (unhide HBR) hb3); have M3 := hide ((unhide HBM).below hb3); have B3 := hide hb3; clear hb3)
          | (refine ⟨trivial, ?_⟩; gi_at_call 134; refine (CallsIn.inRound l (callsIn_wide.2 (iMakKey_any sc _ HSS.out))).mono ?_; rintro e w4 ⟨rfl, hb4⟩; have C4 := hide (box_below (unhide C3) hb4); have R4 := hide (box_below (unhide R3) hb4); have M4 := hide ((unhide M3).below hb4); have B4 := hide ((unhide B3).trans (hb4.mono (unhide B3).size)); have l1 := (unhide C4).cell; have l2 := (unhide C4).frozen; have l3 := (unhide R4).cell; have l4 := (unhide R4).frozen; clear hb4))
        have KO := (keepsOthers_belowO (unhide B4)).trans (KeepsOthers.setCell w4 ⟨w.heap.size + 1, 0, none⟩ (.bool false))
        have BW : Below w.heap.size W (w4.setCell ⟨w.heap.size + 1, 0, none⟩ (.bool false)) := ((unhide B4).mono hB.size).setCell (p := ⟨w.heap.size + 1, 0, none⟩) (by show w.heap.size ≤ w.heap.size + 1; omega) _
        refine ⟨KO.from _, ⟨⟨rfl, x, by simp, ?_⟩, (unhide R4).set _⟩, hB.trans BW⟩
        rw [HFT.out]
        simp [HY.out, HM.out]
  case done =>
    rintro D ys W hD rfl ⟨⟨⟨⟨⟨hp, _⟩, hbC⟩, hbR⟩, hbM⟩, hB⟩ hK
    have c3 := hbM.cell 3
    simp only [List.getElem?_toArray, List.getElem?_cons_succ, List.getElem?_cons_zero] at c3
    have cC := hbC.cell
    have cR := hbR.cell
    have fR := hbR.frozen
    have HDD : Hid (ownsOf keys own k = decide (own.length = keyedIn keys (valsF (chainF (lf : Int))))) := by
      show _ = _
      have e1 : (valsF (chainF (lf : Int))).all (fitsAt keys own) = true := by
        rw [List.all_eq_true]
        intro p hp1
        unfold valsF at hp1
        obtain ⟨x, hx, rfl⟩ := List.mem_map.1 hp1
        exact hp x hx
      rw [HDEF.out, e1]
      simp
      intro _ q
      exact absurd q HNE.out
    generalize keyedIn keys (valsF (chainF (lf : Int))) = cnt at *
    by_cases he : own.length = cnt
    · have he2 : ((own.length : Int) == ((cnt : Nat) : Int)) = true := by rw [he]; simp
      have HE : Hid (ownsOf keys own k = true) := by show _ = _; rw [HDD.out]; simpa using he
      clear he
      gi_wp2
      have hK' := (KeepsOthers.setCell W ⟨w.heap.size + 1, 0, none⟩ (.bool true)).same D _ hK rfl
      refine ⟨by simp, .inl ⟨_, _, rfl, run_takeDeferred hK', ?_⟩⟩
      have hc5 := cell_kept (hbR.set (.bool true)).cell (grownBy_putObj' _ D (.deferred none)) (fun r e => by cases e; exact ⟨_, hK', rfl⟩)
      refine ⟨.bool true, ?_, by rw [HE.out], (hB.setCell (p := ⟨w.heap.size + 1, 0, none⟩) (by simp) _).trans (belowK_b (w := w) (Nat.le_refl _) _ D _ _ (by omega) hK' rfl rfl)⟩
      simp [results, Tryz.f143, go_sem, hc5]
    · have he2 : ((own.length : Int) == ((cnt : Nat) : Int)) = false := by simp; omega
      have HE : Hid (ownsOf keys own k = false) := by show _ = _; rw [HDD.out]; simpa using he
      clear he
      gi_wp2
      have hK' := (KeepsOthers.setCell W ⟨w.heap.size + 1, 0, none⟩ (.bool false)).same D _ hK rfl
      refine ⟨by simp, .inl ⟨_, _, rfl, run_takeDeferred hK', ?_⟩⟩
      have hc5 := cell_kept (hbR.set (.bool false)).cell (grownBy_putObj' _ D (.deferred none)) (fun r e => by cases e; exact ⟨_, hK', rfl⟩)
      refine ⟨.bool false, ?_, by rw [HE.out], (hB.setCell (p := ⟨w.heap.size + 1, 0, none⟩) (by simp) _).trans (belowK_b (w := w) (Nat.le_refl _) _ D _ _ (by omega) hK' rfl rfl)⟩
      simp [results, Tryz.f143, go_sem, hc5]
  case stop =>
    rintro D c pre W hD hpre ⟨⟨⟨rfl, x, hx, hxf⟩, hbR⟩, hB⟩ hK
    have HE : Hid (ownsOf keys own k = false) := by
      show _ = _
      have e1 : (valsF (chainF (lf : Int))).all (fitsAt keys own) = false := by
        rw [List.all_eq_false]
        exact ⟨x.val, by unfold valsF; exact List.mem_map.2 ⟨x, hpre.subset hx, rfl⟩, by rw [hxf]; simp⟩
      rw [HDEF.out, e1]
      simp
    gi_wp2
    refine ⟨by simp, .inl ⟨_, _, rfl, run_takeDeferred hK, ?_⟩⟩
    have hc5 := cell_kept hbR.cell (grownBy_putObj' _ D (.deferred none)) (fun r e => by cases e; exact ⟨_, hK, rfl⟩)
    refine ⟨.bool false, ?_, by rw [HE.out], hB.trans (belowK_b (w := w) (Nat.le_refl _) W D _ _ (by omega) hK rfl rfl)⟩
    simp [results, Tryz.f143, go_sem, hc5]

theorem ownsItsPlaces_any (inn : Bool) (k : Nat) (hk : k < 8) (ks os : Value) (keys : List ByteArray) (own : List Mo) (ep : Int) (init tag : ByteArray) (w : World) (hK : SRow w ks keys) (hO : MRow w os own) (hl : keys.length = 15) (hsm : ∀ o ∈ own, o.2.size ≤ maxLen) :
    Calls Tryz.prog 143 #[.agg (memC inn (k : Int) ks os ep init tag)] w fun e W' => e = .returned (.bool (ownsOf keys own k)) ∧ Below w.heap.size w W' := by
  by_cases hne : keys.getD (7 + k) ByteArray.empty = ByteArray.empty
  · exact ownsItsPlaces_bare inn k hk ks os keys own ep init tag w hK hO hl hsm hne
  · exact callsIn_wide.1 (ownsItsPlaces_in 4 (by omega) inn k hk ks os keys own ep init tag w hK hO hl hsm hne)
end Go.Proofs.YtabpaaahobakpaaGreat
/-
  The program's MemOk.
-/
namespace Go.Proofs.YtabpaaahobakpaaGreat
open Go.RowKit

/-- Whether one is ok, as the program has it. -/
def memOkI (m : Mem) : Bool :=
  if m.inn then decide (0 ≤ m.who ∧ m.who ≤ 7) && treOk m.keys && ownsOf m.keys m.own m.who.toNat && decide (0 ≤ m.ep ∧ m.ep ≤ 12) && Kw.ok m.init && decide (m.tag.size ≤ 300)
  else decide (m = Mem.none)

set_option maxRecDepth 100000 in
set_option maxHeartbeats 4000000 in
theorem iMemOk_in (who ep : Int) (ks os : Value) (keys : List ByteArray) (own : List Mo) (init tag : ByteArray) (w : World) (hK : SRow w ks keys) (hO : MRow w os own)
    (hkm : ∀ x ∈ keys, x.size ≤ maxLen) (hom : ∀ o ∈ own, o.2.size ≤ maxLen) (him : init.size ≤ maxLen) (htm : tag.size ≤ maxLen) :
    Calls Tryz.prog 97 #[.agg (memC true who ks os ep init tag)] w fun e w' => e = .returned (.bool (memOkI ⟨true, who, keys, own, ep, init, tag⟩)) ∧ Below w.heap.size w w' := by
  have HK := hide hK
  have HO := hide hO
  have HKM := hide hkm
  have HOM := hide hom
  have HIM := hide him
  unfold maxLen at htm
  obtain ⟨a1, p1, rfl, _, _, _⟩ := hK.form
  obtain ⟨a2, p2, rfl, _, _, _⟩ := hO
  clear hK hkm hom him
  obtain ⟨kl, hkl⟩ : ∃ kl, keys.length = kl := ⟨_, rfl⟩
  rw [hkl] at HK ⊢
  have HKL := hide hkl
  clear hkl
  have A0 := hide (Blk.new w 42 (memC true who (.slice a1 kl p1) (.slice a2 own.length p2) ep init tag))
  have HB0 : Hid (Below w.heap.size w (w.alloc (.cells (memC true who (.slice a1 kl p1) (.slice a2 own.length p2) ep init tag) 42))) := (Below.refl _ _).alloc (Nat.le_refl _) _
  have HDEF : Hid (memOkI ⟨true, who, keys, own, ep, init, tag⟩ = (decide (0 ≤ who ∧ who ≤ 7) && treOk keys && ownsOf keys own who.toNat && decide (0 ≤ ep ∧ ep ≤ 12) && Kw.ok init && decide (tag.size ≤ 300))) := rfl
  by_cases hp : 0 ≤ who ∧ who ≤ 7
  · obtain ⟨k, rfl⟩ : ∃ k : Nat, who = (k : Int) := ⟨who.toNat, by omega⟩
    have hk8 : k < 8 := by omega
    have HW : Hid (decide (0 ≤ (k : Int) ∧ (k : Int) ≤ 7) = true) := by show _ = _; simp; omega
    clear hp
    go_enter Tryz.func97, Tryz.ntmps97
    go_wp2_with fail
    refine (isOne_yes _ _ (by omega) (by omega)).mono ?_
    rintro e wa ⟨rfl, rfl⟩
    go_wp2_with fail
    refine (iTreOk_any _ keys _ ((unhide HK).below (unhide HB0)) (unhide HKM)).mono ?_
    rintro e w1 ⟨rfl, hb1⟩
    have A1 := hide ((unhide A0).below hb1)
    have HB1 := hide (HB0.out.trans (hb1.mono HB0.out.size))
    clear hb1 A0 HB0
    cases hto : treOk keys with
    | false =>
      have HE : Hid (memOkI ⟨true, (k : Int), keys, own, ep, init, tag⟩ = false) := by show _ = _; rw [HDEF.out, hto]; simp
      clear hto
      go_wp2_with fail
      go_ret
      exact ⟨ret_bool' HE.out.symm, unhide HB1⟩
    | true =>
      have HTO := hide hto
      have HL : Hid (keys.length = 15) := (treOk_iff.1 hto).1
      clear hto
      have c0 := (unhide A1).cell 0
      have c1 := (unhide A1).cell 1
      have c2 := (unhide A1).cell 2
      have c3 := (unhide A1).cell 3
      have c4 := (unhide A1).cell 4
      have c5 := (unhide A1).cell 5
      have c6 := (unhide A1).cell 6
      simp only [List.getElem?_toArray, List.getElem?_cons_succ, List.getElem?_cons_zero] at c0 c1 c2 c3 c4 c5 c6
      go_wp2_with fail
      refine (ownsItsPlaces_any true k hk8 _ _ keys own ep init tag _ ((unhide HK).below (unhide HB1)) ((unhide HO).below (unhide HB1)) HL.out (unhide HOM)).mono ?_
      rintro e w2 ⟨rfl, hb2⟩
      have A2 := hide ((unhide A1).below hb2)
      have HB2 := hide (HB1.out.trans (hb2.mono HB1.out.size))
      clear hb2 A1 HB1 c0 c1 c2 c3 c4 c5 c6
      have c4 := (unhide A2).cell 4
      have c5 := (unhide A2).cell 5
      simp only [List.getElem?_toArray, List.getElem?_cons_succ, List.getElem?_cons_zero] at c4 c5
      cases how : ownsOf keys own k with
      | false =>
        have HE : Hid (memOkI ⟨true, (k : Int), keys, own, ep, init, tag⟩ = false) := by show _ = _; rw [HDEF.out, show ((k : Int)).toNat = k from rfl, how]; simp
        clear how
        go_wp2_with fail
        go_ret
        exact ⟨ret_bool' HE.out.symm, unhide HB2⟩
      | true =>
        have HOW := hide how
        clear how
        by_cases he0 : 0 ≤ ep
        · by_cases he1 : ep ≤ 12
          · go_wp2_with fail
            refine (iSecOk_any init _ HIM.out).mono ?_
            rintro e w3 ⟨rfl, hb3⟩
            have A3 := hide ((unhide A2).below hb3)
            have HB3 := hide (HB2.out.trans (hb3.mono HB2.out.size))
            clear hb3 A2 HB2 c4 c5
            have c6 := (unhide A3).cell 6
            simp only [List.getElem?_toArray, List.getElem?_cons_succ, List.getElem?_cons_zero] at c6
            cases hok : Kw.ok init with
            | false =>
              have HE : Hid (memOkI ⟨true, (k : Int), keys, own, ep, init, tag⟩ = false) := by show _ = _; rw [HDEF.out, hok]; simp
              clear hok
              go_wp2_with fail
              go_ret
              exact ⟨ret_bool' HE.out.symm, unhide HB3⟩
            | true =>
              have HE0 : Hid (memOkI ⟨true, (k : Int), keys, own, ep, init, tag⟩ = decide (tag.size ≤ 300)) := by
                show _ = _
                rw [HDEF.out, HW.out, HTO.out, show ((k : Int)).toNat = k from rfl, HOW.out, hok, decide_eq_true (And.intro he0 he1)]
                rfl
              clear hok
              by_cases htg : tag.size ≤ 300
              · have htg2 : (tag.size : Int) ≤ 300 := by omega
                have HE : Hid (memOkI ⟨true, (k : Int), keys, own, ep, init, tag⟩ = true) := by show _ = _; rw [HE0.out]; simpa using htg
                go_wp2_with fail
                go_ret
                exact ⟨ret_bool' HE.out.symm, unhide HB3⟩
              · have htg2 : decide ((tag.size : Int) ≤ 300) = false := by simp; omega
                have HE : Hid (memOkI ⟨true, (k : Int), keys, own, ep, init, tag⟩ = false) := by show _ = _; rw [HE0.out]; simpa using htg
                go_wp2_with fail
                go_ret
                exact ⟨ret_bool' HE.out.symm, unhide HB3⟩
          · have he2 : decide (ep ≤ 12) = false := by simpa using he1
            have HE : Hid (memOkI ⟨true, (k : Int), keys, own, ep, init, tag⟩ = false) := by show _ = _; rw [HDEF.out, decide_eq_false (fun (q : 0 ≤ ep ∧ ep ≤ 12) => he1 q.2)]; simp
            clear he1
            go_wp2_with fail
            go_ret
            exact ⟨ret_bool' HE.out.symm, unhide HB2⟩
        · have he2 : decide (0 ≤ ep) = false := by simpa using he0
          have HE : Hid (memOkI ⟨true, (k : Int), keys, own, ep, init, tag⟩ = false) := by show _ = _; rw [HDEF.out, decide_eq_false (fun (q : 0 ≤ ep ∧ ep ≤ 12) => he0 q.1)]; simp
          clear he0
          go_wp2_with fail
          go_ret
          exact ⟨ret_bool' HE.out.symm, unhide HB2⟩
  · have HE : Hid (memOkI ⟨true, who, keys, own, ep, init, tag⟩ = false) := by show _ = _; rw [HDEF.out, decide_eq_false hp]; simp
    have HP := hide hp
    clear hp
    go_enter Tryz.func97, Tryz.ntmps97
    go_wp2_with fail
    refine (isOne_no _ _ (by have := HP.out; omega)).mono ?_
    rintro e wa ⟨rfl, rfl⟩
    go_wp2_with fail
    go_ret
    exact ⟨ret_bool' HE.out.symm, unhide HB0⟩
end Go.Proofs.YtabpaaahobakpaaGreat
/-
  Whether one is ok, as the specification has it; where no own secret is too long for a key both sides agree. No Go function in it.
-/
namespace Go.Proofs.YtabpaaahobakpaaGreat
open Go.RowKit Kw

end Go.Proofs.YtabpaaahobakpaaGreat
/-
  The specification's l4In.
-/
namespace Go.Proofs.YtabpaaahobakpaaGreat
open Go.RowKit

end Go.Proofs.YtabpaaahobakpaaGreat
/-
  The specification's l4Own and l4In.
-/
namespace Go.Proofs.YtabpaaahobakpaaGreat
open Go.RowKit

end Go.Proofs.YtabpaaahobakpaaGreat
/-
 The specification's l4Fits.
-/
namespace Go.Proofs.YtabpaaahobakpaaGreat
open Go.RowKit
end Go.Proofs.YtabpaaahobakpaaGreat
/-
 The specification's l4All.
-/
namespace Go.Proofs.YtabpaaahobakpaaGreat
open Go.RowKit
end Go.Proofs.YtabpaaahobakpaaGreat
/-
  The specification's MemOk, of one who is in.
-/
namespace Go.Proofs.YtabpaaahobakpaaGreat
open Go.RowKit

end Go.Proofs.YtabpaaahobakpaaGreat
/-
  Where no own secret is too long for a key the program and the specification agree on who is ok. No Go function in it.
-/
namespace Go.Proofs.YtabpaaahobakpaaGreat
open Go.RowKit Kw

end Go.Proofs.YtabpaaahobakpaaGreat
/-
  Both sides' MemOk of one who is in none; both agree.
-/
namespace Go.Proofs.YtabpaaahobakpaaGreat
open Go.RowKit

set_option maxRecDepth 100000 in
set_option maxHeartbeats 2000000 in
theorem hasNothing_any (who ep : Int) (ks os : Value) (keys : List ByteArray) (own : List Mo) (init tag : ByteArray) (w : World) (hK : SRow w ks keys) (hO : MRow w os own) :
    Calls Tryz.prog 142 #[.agg (memC false who ks os ep init tag)] w fun e w' => e = .returned (.bool (decide ((⟨false, who, keys, own, ep, init, tag⟩ : Mem) = Mem.none))) ∧ Below w.heap.size w w' := by
  obtain ⟨a1, p1, rfl, _, _, _⟩ := hK.form
  obtain ⟨a2, p2, rfl, _, _, _⟩ := hO
  clear hK
  have HNO : Hid (∀ b : Prop, ((⟨false, who, keys, own, ep, init, tag⟩ : Mem) = Mem.none → b) → ¬ b → decide ((⟨false, who, keys, own, ep, init, tag⟩ : Mem) = Mem.none) = false) := fun b h1 h2 => decide_eq_false (fun q => h2 (h1 q))
  have HYES : Hid (who = 0 → keys.length = 0 → own.length = 0 → ep = 0 → init = ByteArray.empty → tag = ByteArray.empty → decide ((⟨false, who, keys, own, ep, init, tag⟩ : Mem) = Mem.none) = true) := by
    intro e1 e2 e3 e4 e5 e6
    rw [e1, List.eq_nil_of_length_eq_zero e2, List.eq_nil_of_length_eq_zero e3, e4, e5, e6]
    rfl
  have HP : Hid ((⟨false, who, keys, own, ep, init, tag⟩ : Mem) = Mem.none → who = 0 ∧ keys.length = 0 ∧ own.length = 0 ∧ ep = 0 ∧ init = ByteArray.empty ∧ tag = ByteArray.empty) := by
    intro q
    simp only [Mem.none, Mem.mk.injEq] at q
    obtain ⟨_, q1, q2, q3, q4, q5, q6⟩ := q
    exact ⟨q1, by rw [q2]; rfl, by rw [q3]; rfl, q4, q5, q6⟩
  obtain ⟨res, hres⟩ : ∃ res, decide ((⟨false, who, keys, own, ep, init, tag⟩ : Mem) = Mem.none) = res := ⟨_, rfl⟩
  rw [hres] at HNO HYES ⊢
  clear hres
  generalize keys.length = kl at *
  generalize own.length = ol at *
  have HBX : Hid (∀ cs : Array Value, Below w.heap.size w (w.alloc (.cells cs 42))) := fun cs => (Below.refl _ _).alloc (Nat.le_refl _) _
  by_cases h1 : who = 0
  · have e0 := h1
    clear h1
    by_cases h1 : kl = 0
    · have e1 := h1
      clear h1
      by_cases h1 : ol = 0
      · have e2 := h1
        clear h1
        by_cases h1 : ep = 0
        · have e3 := h1
          clear h1
          by_cases h1 : init = ByteArray.empty
          · have e4 := h1
            clear h1
            by_cases h1 : tag = ByteArray.empty
            · have e5 := h1
              clear h1
              have HE := hide (HYES.out e0 e1 e2 e3 e4 e5)
              subst e0 e1 e2 e3 e4 e5
              have hzt : (ByteArray.empty).toList = [] := nil_text
              clear HNO HYES HP
              go_enter Tryz.func142, Tryz.ntmps142
              go_wp2_with fail
              go_ret
              exact ⟨ret_bool' HE.out.symm, HBX.out _⟩
            · have HE := hide (HNO.out _ (fun q => (HP.out q).2.2.2.2.2) h1)
              have hz : ¬ tag.toList = [] := no_text h1
              have hz2 : tag.toList.isEmpty = false := by simpa using no_text h1
              subst e0 e1 e2 e3 e4
              have hzt : (ByteArray.empty).toList = [] := nil_text
              clear HNO HYES HP h1
              go_enter Tryz.func142, Tryz.ntmps142
              go_wp2_with fail
              go_ret
              exact ⟨ret_bool' HE.out.symm, HBX.out _⟩
          · have HE := hide (HNO.out _ (fun q => (HP.out q).2.2.2.2.1) h1)
            have hz : ¬ init.toList = [] := no_text h1
            have hz2 : init.toList.isEmpty = false := by simpa using no_text h1
            subst e0 e1 e2 e3
            have hzt : (ByteArray.empty).toList = [] := nil_text
            clear HNO HYES HP h1
            go_enter Tryz.func142, Tryz.ntmps142
            go_wp2_with fail
            go_ret
            exact ⟨ret_bool' HE.out.symm, HBX.out _⟩
        · have HE := hide (HNO.out _ (fun q => (HP.out q).2.2.2.1) h1)
          have hz : (ep == 0) = false := by simpa using h1
          subst e0 e1 e2
          have hzt : (ByteArray.empty).toList = [] := nil_text
          clear HNO HYES HP h1
          go_enter Tryz.func142, Tryz.ntmps142
          go_wp2_with fail
          go_ret
          exact ⟨ret_bool' HE.out.symm, HBX.out _⟩
      · have HE := hide (HNO.out _ (fun q => (HP.out q).2.2.1) h1)
        have hz : ((ol : Int) == 0) = false := by simp; omega
        subst e0 e1
        have hzt : (ByteArray.empty).toList = [] := nil_text
        clear HNO HYES HP h1
        go_enter Tryz.func142, Tryz.ntmps142
        go_wp2_with fail
        go_ret
        exact ⟨ret_bool' HE.out.symm, HBX.out _⟩
    · have HE := hide (HNO.out _ (fun q => (HP.out q).2.1) h1)
      have hz : ((kl : Int) == 0) = false := by simp; omega
      subst e0
      have hzt : (ByteArray.empty).toList = [] := nil_text
      clear HNO HYES HP h1
      go_enter Tryz.func142, Tryz.ntmps142
      go_wp2_with fail
      go_ret
      exact ⟨ret_bool' HE.out.symm, HBX.out _⟩
  · have HE := hide (HNO.out _ (fun q => (HP.out q).1) h1)
    have hz : (who == 0) = false := by simpa using h1
    have hzt : (ByteArray.empty).toList = [] := nil_text
    clear HNO HYES HP h1
    go_enter Tryz.func142, Tryz.ntmps142
    go_wp2_with fail
    go_ret
    exact ⟨ret_bool' HE.out.symm, HBX.out _⟩

set_option maxRecDepth 100000 in
set_option maxHeartbeats 2000000 in
theorem iMemOk_out (who ep : Int) (ks os : Value) (keys : List ByteArray) (own : List Mo) (init tag : ByteArray) (w : World) (hK : SRow w ks keys) (hO : MRow w os own) :
    Calls Tryz.prog 97 #[.agg (memC false who ks os ep init tag)] w fun e w' => e = .returned (.bool (decide ((⟨false, who, keys, own, ep, init, tag⟩ : Mem) = Mem.none))) ∧ Below w.heap.size w w' := by
  have HK := hide hK
  have HO := hide hO
  obtain ⟨a1, p1, rfl, _, _, _⟩ := hK.form
  obtain ⟨a2, p2, rfl, _, _, _⟩ := hO
  clear hK
  have HB0 : Hid (Below w.heap.size w (w.alloc (.cells (memC false who (.slice a1 keys.length p1) (.slice a2 own.length p2) ep init tag) 42))) := (Below.refl _ _).alloc (Nat.le_refl _) _
  go_enter Tryz.func97, Tryz.ntmps97
  go_wp2_with fail
  refine (hasNothing_any who ep _ _ keys own init tag _ ((unhide HK).below (unhide HB0)) ((unhide HO).below (unhide HB0))).mono ?_
  rintro e w1 ⟨rfl, hb1⟩
  have HB1 := hide (HB0.out.trans (hb1.mono HB0.out.size))
  clear hb1
  go_wp2_with fail
  go_ret
  exact ⟨rfl, unhide HB1⟩

theorem iMemOk_any (m : Mem) (ks os : Value) (w : World) (hK : SRow w ks m.keys) (hO : MRow w os m.own) (hkm : ∀ x ∈ m.keys, x.size ≤ maxLen) (hom : ∀ o ∈ m.own, o.2.size ≤ maxLen) (him : m.init.size ≤ maxLen) (htm : m.tag.size ≤ maxLen) :
    Calls Tryz.prog 97 #[.agg (m.cells ks os)] w fun e w' => e = .returned (.bool (memOkI m)) ∧ Below w.heap.size w w' := by
  obtain ⟨inn, who, keys, own, ep, init, tag⟩ := m
  cases inn with
  | true => exact iMemOk_in who ep ks os keys own init tag w hK hO hkm hom him htm
  | false => exact iMemOk_out who ep ks os keys own init tag w hK hO
end Go.Proofs.YtabpaaahobakpaaGreat
/-
  Who comes by a commit, as plain words. No Go function in it.
-/
namespace Go.Proofs.YtabpaaahobakpaaGreat
open Go.RowKit Kw

end Go.Proofs.YtabpaaahobakpaaGreat
/-
 The specification's TreClear.
-/
namespace Go.Proofs.YtabpaaahobakpaaGreat
open Go.RowKit
end Go.Proofs.YtabpaaahobakpaaGreat
/-
 The specification's l4Base: a tree without who goes, and with who comes.
-/
namespace Go.Proofs.YtabpaaahobakpaaGreat
open Go.RowKit
end Go.Proofs.YtabpaaahobakpaaGreat
