/-
  Whether the program says that a secret can be made from a set: the contract.
-/
import Derived.Test.YtjdpabiodalfkaaMkg2
import Derived.Test.YtjdpabiodalfkaaBox
namespace Go.Proofs.Ytjdpabiodalfkaa
open Go.RowKit

theorem can_got {L : List ByteArray} {s : ByteArray} (hh : has L s = false) (hk : Kw.ok s = true) : can L s = (decide (0 < (got s 2).length) && (got s 2).all (can L)) := by
  rcases @got_end s with ⟨h1, h2⟩ | ⟨h1, h4, h2⟩ | ⟨h4, h2⟩
  · rw [h2, can_new hh h1]; rfl
  · rw [h2, can_one hh hk h1 h4]; simp
  · rw [h2, can_two hh hk h4]; simp

theorem got_ok {s : ByteArray} (hk : Kw.ok s = true) {p : ByteArray} (h : p ∈ got s 2) : Kw.ok p = true ∧ p.size < s.size := by
  rcases @got_end s with ⟨h1, h2⟩ | ⟨h1, h4, h2⟩ | ⟨h4, h2⟩
  · rw [h2] at h; cases h
  · rw [h2] at h
    simp at h
    subst h
    rcases parts_kn hk with ⟨q1, _⟩ | ⟨_, _, q3, q4, _⟩ | ⟨q1, _⟩
    · omega
    · exact ⟨q3, q4⟩
    · omega
  · rw [h2] at h
    rcases parts_kn hk with ⟨q1, _⟩ | ⟨_, q1, _⟩ | ⟨_, q2, q3, q4, q5⟩
    · omega
    · omega
    · have := (ok_facts q2).2.1
      simp at h
      rcases h with rfl | rfl
      · exact ⟨q2, by omega⟩
      · exact ⟨q3, by omega⟩

theorem pairs_get : ∀ (ps : List ByteArray) (fs : List Value) (i : Nat), fs.length = ps.length → i < ps.length → (pairs ps fs)[i * 2]? = some (.string (ps.getD i ByteArray.empty)) ∧ (pairs ps fs)[i * 2 + 1]? = some (fs.getD i undef)
  | [], _, i, _, h => absurd h (Nat.not_lt_zero _)
  | _ :: _, [], _, h, _ => by simp at h
  | p :: ps, f :: fs, 0, _, _ => by simp [pairs]
  | p :: ps, f :: fs, i + 1, h, hi => by
    have := pairs_get ps fs i (by simpa using h) (by simpa using hi)
    rw [show (i + 1) * 2 = i * 2 + 1 + 1 by omega]
    simpa [pairs] using this

/-- What such a slice holds, part by part. -/
theorem mt_parts {lo hi : Nat} {w : World} {v : Value} {s : ByteArray} (h : MT lo hi w v s) :
    ∃ (ao : Option Addr) (cap : Nat), v = .slice ao (got s 2).length cap ∧ ∀ i, i < (got s 2).length → ∃ a f, ao = some a ∧ w.cell? (a.add (i * 2)) = some (.string ((got s 2).getD i ByteArray.empty)) ∧ w.cell? ((a.add (i * 2)).add 1) = some f ∧ MT lo hi w f ((got s 2).getD i ByteArray.empty) := by
  have key : ∀ (ps : List ByteArray) (fs : List Value), fs.length = ps.length → w.ownsRow lo 70 2 v ps.length (pairs ps fs) → (∀ i, i < ps.length → MT lo hi w (fs.getD i undef) (ps.getD i ByteArray.empty)) →
      ∃ (ao : Option Addr) (cap : Nat), v = .slice ao ps.length cap ∧ ∀ i, i < ps.length → ∃ a f, ao = some a ∧ w.cell? (a.add (i * 2)) = some (.string (ps.getD i ByteArray.empty)) ∧ w.cell? ((a.add (i * 2)).add 1) = some f ∧ MT lo hi w f (ps.getD i ByteArray.empty) := by
    intro ps fs hl hrow hm
    rcases hrow.2 with ⟨h1, h2⟩ | ⟨g, cap, cur, h1, _⟩
    · exact ⟨none, 0, by rw [h1, h2], fun i hi => by omega⟩
    · refine ⟨some ⟨g, 0, none⟩, cap, h1, fun i hi => ?_⟩
      have hc := hrow.cells (g := g) (by rw [h1]; rfl)
      obtain ⟨p1, p2⟩ := pairs_get ps fs i hl hi
      exact ⟨_, _, rfl, hc _ _ p1, by rw [Addr.add_lit, Addr.add_lit, Nat.zero_add]; have := hc _ _ p2; rw [Addr.add_lit, Nat.zero_add] at this; exact this, hm i hi⟩
  cases h with
  | none h1 h2 _ =>
    have e : got s 2 = [] := by unfold got; simp [h1]
    rw [e]
    exact key [] [] rfl h2 (fun i hi => absurd hi (Nat.not_lt_zero _))
  | @one _ _ f h1 h2 h3 _ h5 =>
    have e : got s 2 = [mA s] := by unfold got; simp [h1, h2]
    rw [e]
    exact key [mA s] [f] rfl h3 (fun i hi => by
      have : i = 0 := by simp at hi; omega
      subst this
      exact h5)
  | @two _ _ f g h1 h2 _ h5 h6 =>
    have e : got s 2 = [mA s, mB s] := by unfold got; simp [h1]
    rw [e]
    exact key [mA s, mB s] [f, g] rfl h2 (fun i hi => by
      have : i = 0 ∨ i = 1 := by simp at hi; omega
      rcases this with rfl | rfl
      · exact h5
      · exact h6)

theorem all_take {L ps : List ByteArray} {k : Nat} (hk : k < ps.length) (h : ∀ j, j < k → can L (ps.getD j ByteArray.empty) = true) (hc : can L (ps.getD k ByteArray.empty) = true) : ∀ j, j < k + 1 → can L (ps.getD j ByteArray.empty) = true := by
  intro j hj
  by_cases e : j = k
  · subst e; exact hc
  · exact h j (by omega)

set_option maxRecDepth 100000 in
set_option maxHeartbeats 4000000 in
theorem canBeFrom_any {B ab bm : Nat} {u : Value} {L : List ByteArray} : ∀ (n : Nat) (s : ByteArray), s.size ≤ n → Kw.ok s = true → ∀ (f : Value) (lo hi : Nat) (w : World), SetAt B w ab bm u L → MT lo hi w f s → hi ≤ w.heap.size →
    Calls Try.prog 51 #[.agg #[.string s, f], .pointer (some ⟨ab, 0, none⟩)] w fun e w' => e = .returned (.bool (can L s)) ∧ Below w.heap.size w w' := by
  intro n
  induction n with
  | zero =>
    intro s hs hk
    have := (ok_facts hk).2.1
    omega
  | succ n ih =>
    intro s hs hk f lo hi w hS hM hhi
    have HK := hide hk
    have IH := hide ih
    have HS := hide hs
    have HA := hide hS
    have HM := hide hM
    have M : Hid (s.size ≤ maxLen) := by
      have := (ok_facts hk).1
      show s.size ≤ maxLen
      unfold maxLen; omega
    obtain ⟨fo, fc, hf, _⟩ := mt_parts hM
    subst hf
    have hln := got_len s 2
    have hcg := @can_got L s
    have hok : ∀ p, p ∈ got s 2 → Kw.ok p = true ∧ p.size < s.size := fun p hp => got_ok hk hp
    have HCG := hide hcg
    have HOK := hide hok
    clear hcg hok
    generalize hps : got s 2 = ps at *
    have HPS := hide hps
    clear hps
    clear hk ih hs hS hM
    have hba : Below w.heap.size w (w.alloc (.cells #[.string s, .slice fo ps.length fc] 70)) := (Below.refl _ _).alloc (Nat.le_refl _) _
    have HBA := hide hba
    clear hba
    go_enter Try.func51, Try.ntmps51
    go_wp2_with fail
    refine (set_has_any s ((unhide HA).below (unhide HBA)) M.out).mono ?_
    cases hh : has L s with
    | true =>
      have he := can_has hh
      rintro e w1 ⟨rfl, hb1⟩
      go_wp2_with fail
      go_ret
      exact ⟨ret_bool' he.symm, (unhide HBA).trans (hb1.mono (unhide HBA).size)⟩
    | false =>
      rintro e w1 ⟨rfl, hb1⟩
      have HH := hide hh
      have hc1 := keep1 (b := w.heap.size) (o := 1) (v := .slice fo ps.length fc) hb1 (by simp [go_sem]) (by simp)
      have HB1 := hide ((unhide HBA).trans (hb1.mono (unhide HBA).size))
      have hle1 : w.heap.size + 1 ≤ w1.heap.size := by have := hb1.size; simp at this; omega
      clear hb1 hh
      go_wp2_with fail
      go_loopw [14] (fun i wr => ∃ k : Nat, k ≤ ps.length ∧ i = .int .i64 (k : Int) ∧ Hid (∀ j, j < k → can L (ps.getD j ByteArray.empty) = true) ∧ Hid (Below w.heap.size w wr ∧ wr.cell? ⟨w.heap.size, 1, none⟩ = some (.slice fo ps.length fc) ∧ w.heap.size + 1 ≤ wr.heap.size)) (fun i _ => ps.length - (intOf i).toNat)
      case atStart => exact ⟨0, by omega, rfl, fun j hj => by omega, unhide HB1, hc1, hle1⟩
      case round =>
        obtain ⟨k, hk, rfl, hN, hL⟩ := hrel
        by_cases hlt : k < ps.length
        · have hlt2 : (k : Int) < (ps.length : Int) := by omega
          have hMk := (unhide HM).stay hL.out.1 hhi
          obtain ⟨ao', cap', q1, q2⟩ := mt_parts hMk
          rw [HPS.out] at q1 q2
          simp only [Value.slice.injEq] at q1
          obtain ⟨rfl, _, rfl⟩ := q1
          obtain ⟨a, f, rfl, hca, hcb, hmf⟩ := q2 k hlt
          rw [add_one] at hcb
          obtain ⟨gao, gn, gcap, hgf⟩ := hmf.form
          subst hgf
          have HMF := hide hmf
          clear q2 hMk hmf
          have i3 : IntKind.i64.wrap ((k : Int) + 1) = (k : Int) + 1 := by simp [IntKind.wrap, IntKind.bits, IntKind.signed]; omega
          have hpk : Hid (Kw.ok (ps.getD k ByteArray.empty) = true ∧ (ps.getD k ByteArray.empty).size ≤ n) := by
            have := HOK.out _ (getD_mem hlt)
            exact ⟨this.1, by have := HS.out; omega⟩
          have hYes := hide (@all_take L ps k hlt hN.out)
          have hNo : Hid (can L (ps.getD k ByteArray.empty) = false → can L s = false) := by
            intro hf
            rw [HCG.out HH.out HK.out]
            have : ps.all (can L) = false := by
              cases q : ps.all (can L) with
              | false => rfl
              | true =>
                rw [List.all_eq_true] at q
                have := q _ (getD_mem hlt)
                rw [hf] at this; cases this
            rw [this]; simp
          generalize ps.getD k ByteArray.empty = p at hca HMF hpk hYes hNo
          have hsz := hL.out.2.2
          have hbr : Below wr.heap.size wr (wr.alloc (.cells #[.string p, .slice gao gn gcap] 70)) := (Below.refl _ _).alloc (Nat.le_refl _) _
          have hbr2 : Below w.heap.size w (wr.alloc (.cells #[.string p, .slice gao gn gcap] 70)) := hL.out.1.trans (hbr.mono (by omega))
          have hcc := (hbr.cell (p := ⟨w.heap.size, 1, none⟩) (by show w.heap.size < wr.heap.size; omega)).trans hL.out.2.1
          have HBR := hide (And.intro hbr (And.intro hbr2 hcc))
          clear hbr hbr2 hcc
          go_wp2_with fail
          refine (IH.out p hpk.out.2 hpk.out.1 _ lo hi _ ((unhide HA).below HBR.out.2.1) ((unhide HMF).stay HBR.out.1 (by omega)) (by simp; omega)).mono ?_
          cases hp : can L p with
          | true =>
            rintro e w2 ⟨rfl, hb2⟩
            have hs2 : w.heap.size + 1 ≤ w2.heap.size := by have := hb2.size; simp at this; omega
            have hF : Hid (Below w.heap.size w w2 ∧ w2.cell? ⟨w.heap.size, 1, none⟩ = some (.slice (some a) ps.length fc) ∧ w.heap.size + 1 ≤ w2.heap.size) :=
              ⟨HBR.out.2.1.trans (hb2.mono (by simp; omega)), (hb2.cell (p := ⟨w.heap.size, 1, none⟩) (by simp; omega)).trans HBR.out.2.2, hs2⟩
            have hN1 := hide (hYes.out hp)
            clear hb2 hp hca hcb hL hN
            go_wp2_with fail
            go_roundw
            case rel => exact ⟨k + 1, by omega, by simp, hN1, hF⟩
            case measure => simp [intOf]; omega
          | false =>
            rintro e w2 ⟨rfl, hb2⟩
            have he := hNo.out hp
            have hF := hide (HBR.out.2.1.trans (hb2.mono (by simp; omega)))
            clear hb2 hp hca hcb hL hN
            go_wp2_with fail
            go_ret
            exact ⟨ret_bool' he.symm, unhide hF⟩
        · have hlt2 : decide ((k : Int) < (ps.length : Int)) = false := by simp; omega
          have hkn : k = ps.length := by omega
          subst hkn
          have hcc := hL.out.2.1
          have hB := hide hL.out.1
          have he : Hid (can L s = decide (0 < ps.length)) := by
            show _ = _
            rw [HCG.out HH.out HK.out]
            have : ps.all (can L) = true := by
              rw [List.all_eq_true]
              intro x hx
              obtain ⟨j, hj, e⟩ := mem_getD hx
              rw [← e]; exact hN.out j hj
            rw [this, Bool.and_true]
          clear hL
          go_wp2_with fail
          go_ret
          exact ⟨ret_bool' he.out.symm, unhide hB⟩
#print axioms canBeFrom_any
end Go.Proofs.Ytjdpabiodalfkaa
