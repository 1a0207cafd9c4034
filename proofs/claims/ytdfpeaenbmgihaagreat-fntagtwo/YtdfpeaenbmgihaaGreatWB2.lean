/-
  As OrdR, but what waits for all others may do so by way of one that it waits for.
-/
import Derived.Laws.OwnMore
import Derived.Lib.AppendZeros
import Derived.ArgAppend
import Derived.Deep.Upon
import Derived.Maps.AppendAt
import Derived.Test.YtdfpeaenbmgihaaGreatWB1
namespace Go.Proofs.YtdfpeaenbmgihaaGreat.OrdC
set_option maxHeartbeats 64000000
set_option maxRecDepth 100000
open Go.RowKit
section
variable {P : Program} {ops : Array Oper} {Q : Exit → Act → World → Prop} {md : Region.Mode} {R : World → World → Prop}
def waits1 (md : Region.Mode) (ops : Array Oper) (j k : Nat) : Bool := ((ops[j]?).map (fun o => o.after.any fun e => Region.binds md e && e.on == k)).getD false
def waitsB (md : Region.Mode) (ops : Array Oper) (j : Nat) : Bool :=
  (List.range ops.size).all fun k => k == j || waits1 md ops j k || ((List.range ops.size).any fun m => waits1 md ops j m && waits1 md ops m k)
def Closed (md : Region.Mode) (ops : Array Oper) (listed : Array Bool) : Prop := ∀ (k : Nat) (ok : Oper), ops[k]? = some ok → listed.getD k false = true → ∀ e ∈ ok.after, Region.binds md e = true → listed.getD e.on false = true
theorem closed_step {listed : Array Bool} {j : Nat} (h : Closed md ops listed) (hj : j ∈ Region.ready md ops listed) : Closed md ops (listed.setIfInBounds j true) := by
 obtain ⟨hun, oj, hoj, hall⟩ := mem_ready.1 hj
 have up : ∀ m, listed.getD m false = true → (listed.setIfInBounds j true).getD m false = true := by
  intro m hm; by_cases e : j = m
  · subst e; rcases Nat.lt_or_ge j listed.size with h' | h'
    · simp [h']
    · simp [Array.getElem?_eq_none h'] at hm
  · rw [getD_set_ne false e]; exact hm
 intro k ok hk hl e he hb; by_cases hjk : j = k
 · subst hjk; rw [hoj] at hk; cases hk; exact up _ (hall e he hb)
 · rw [getD_set_ne false hjk] at hl; exact up _ (h k ok hk hl e he hb)
def wpAnyR (P : Program) (md : Region.Mode) (ops : Array Oper) (Q : Exit → Act → World → Prop) (R : World → World → Prop) : Nat → Array Bool → Act → World → Prop
  | 0, listed, a, w => Closed md ops listed → Region.ready md ops listed = [] ∧ Q .normal a w
  | fuel + 1, listed, a, w => Closed md ops listed →
    (Region.ready md ops listed = [] → Q .normal a w) ∧
    ∀ i ∈ Region.ready md ops listed, wpOp P ops Q i (fun a' w' => (waitsB md ops i = true ∧ Region.ready md ops (listed.setIfInBounds i true) = [] ∧ Q .normal a' w') ∨ (R w w' ∧ wpAnyR P md ops Q R fuel (listed.setIfInBounds i true) a' w')) a w
theorem wpAny_of_R : ∀ (fuel : Nat) (listed : Array Bool) (a : Act) (w : World), Closed md ops listed → wpAnyR P md ops Q R fuel listed a w → wpAny P md ops Q fuel listed a w
  | 0, _, _, _, hc, h => h hc
  | fuel + 1, listed, _, _, hc, h => ⟨(h hc).1, fun i hi => wpOp_mono (fun a' w' h' => by
      rcases h' with ⟨_, h1, h2⟩ | h'
      · cases fuel with
        | zero => exact ⟨h1, h2⟩
        | succ f => exact ⟨fun _ => h2, by rw [h1]; simp⟩
      · exact wpAny_of_R fuel _ a' w' (closed_step hc hi) h'.2) ((h hc).2 i hi)⟩
theorem waits1_spec {j i : Nat} {oj : Oper} (hj : ops[j]? = some oj) (h : waits1 md ops j i = true) : ∃ e ∈ oj.after, Region.binds md e = true ∧ e.on = i := by unfold waits1 at h; rw [hj] at h; simp only [Option.map_some, Option.getD_some, beq_iff_eq, Array.any_eq_true', Bool.and_eq_true] at h; exact h
theorem waits_spec {j i : Nat} {oj : Oper} {listed : Array Bool} (hj : ops[j]? = some oj) (h : waitsB md ops j = true) (hi : i < ops.size) (hne : i ≠ j) (hc : Closed md ops listed) (hall : ∀ e ∈ oj.after, Region.binds md e = true → listed.getD e.on false = true) : listed.getD i false = true := by
 unfold waitsB at h; rw [List.all_eq_true] at h; have h1 := h i (by rw [List.mem_range]; exact hi); simp only [Bool.or_eq_true, beq_iff_eq, hne, false_or] at h1; rcases h1 with h1 | h1
 · obtain ⟨e, he, hb, q⟩ := waits1_spec hj h1; rw [← q]; exact hall e he hb
 · rw [List.any_eq_true] at h1; obtain ⟨m, hm, h2⟩ := h1; rw [Bool.and_eq_true] at h2; obtain ⟨e, he, hb, q⟩ := waits1_spec hj h2.1; (have hml : listed.getD m false = true := by rw [← q]; exact hall e he hb); have hmo : ∃ om, ops[m]? = some om := ⟨_, Array.getElem?_eq_getElem (List.mem_range.1 hm)⟩; obtain ⟨om, hom⟩ := hmo; obtain ⟨e2, he2, hb2, q2⟩ := waits1_spec hom h2.2; rw [← q2]; exact hc m om hom hml e2 he2 hb2
theorem wpAnyR_first (hP : Pre R) {i : Nat} {oi : Oper} {v : Value} (hi : ops[i]? = some oi) (hsel : ∀ (j : Nat) (o : Oper) cs b, ops[j]? = some o → o.op ≠ .select cs b) (hQ : ∀ c a w, Q (.panic c) (a.put oi.dst v) w → Q (.panic c) a w) : ∀ (fuel : Nat) (listed : Array Bool) (a : Act) (w : World), (∀ j oj, ops[j]? = some oj → j ≠ i → listed.getD j true = false → (∀ e ∈ oj.after, Region.binds md e = true → e.on ≠ i) → oi.apart ops oj = true) → i ∈ Region.ready md ops listed → YieldsIf P ops (R w) oi v a → wpAnyR P md ops Q R fuel (listed.setIfInBounds i true) (a.put oi.dst v) w → wpAnyR P md ops Q R (fuel + 1) listed a w := by
 intro fuel
 induction fuel with
 | zero =>
  intro listed a w _ hr hy H hc; refine ⟨fun h => (by rw [h] at hr; cases hr), fun j hj => ?_⟩; by_cases hji : j = i
  · subst hji; exact hy.wpOp hi (hP.refl w) (.inr ⟨hP.refl w, H⟩)
  · have := ready_mono hj hji; rw [(H (closed_step hc hr)).1] at this; cases this
 | succ fuel ih =>
  intro listed a w hfree hr hy H hc; refine ⟨fun h => (by rw [h] at hr; cases hr), fun j hj => ?_⟩; by_cases hji : j = i
  · subst hji; exact hy.wpOp hi (hP.refl w) (.inr ⟨hP.refl w, H⟩)
  · have h1 := (H (closed_step hc hr)).2 j (ready_mono hj hji); obtain ⟨hjun, oj, hoj, hall⟩ := mem_ready.1 hj
    have hnot : ∀ e ∈ oj.after, Region.binds md e = true → e.on ≠ i := fun e he hb heq => by
     have h1 := hall e he hb; have h0 := (mem_ready.1 hr).1; rw [heq] at h1; rcases Nat.lt_or_ge i listed.size with h' | h'
     · simp [h'] at h0 h1; rw [h0] at h1; cases h1
     · simp [Array.getElem?_eq_none h'] at h1
    have hnw : ¬ waitsB md ops j = true := fun q => by
     have h1 := waits_spec hoj q (Array.getElem?_eq_some_iff.1 hi).1 (Ne.symm hji) hc hall; have h0 := (mem_ready.1 hr).1; rcases Nat.lt_or_ge i listed.size with h' | h'
     · simp [h'] at h0 h1; rw [h0] at h1; cases h1
     · simp [Array.getElem?_eq_none h'] at h1
    have h2 := wpOp_putIf hoj (hfree j oj hoj hji hjun hnot) (fun cs b => hsel i oi cs b hi) (fun cs b => hsel j oj cs b hoj) hQ hy h1
    have hfree' : ∀ k ok, ops[k]? = some ok → k ≠ i → (listed.setIfInBounds j true).getD k true = false →
        (∀ e ∈ ok.after, Region.binds md e = true → e.on ≠ i) → oi.apart ops ok = true := fun k ok hk hki hun hno => by
      refine hfree k ok hk hki ?_ hno
      by_cases hjk : j = k
      · subst hjk; exact hjun
      · rw [getD_set_ne true hjk] at hun; exact hun
    refine wpOp_mono (fun a' w' h3 => ?_) h2; rcases h3.2 with ⟨q, _⟩ | ⟨h4, h5⟩
    · exact absurd q hnw
    refine .inr ⟨h4, ih (listed.setIfInBounds j true) a' w' hfree' (ready_mono hr (Ne.symm hji)) (YieldsIf.later h3.1 (fun u hu => hP.trans _ _ _ h4 hu)) ?_⟩; rw [Array.setIfInBounds_comm _ _ hji]; exact h5
theorem ord_take (hP : Pre R) {i d : Nat} {v : Value} {fuel : Nat} {listed : Array Bool} {a : Act} {w : World} (hs : Region.noSelect ops = true) (hf : Region.free md ops listed i = true) (hr : (Region.ready md ops listed).contains i = true) (hd : (ops[i]?).bind (·.dst) = some d) (hQ : ∀ c a w, Q (.panic c) (a.put (some d) v) w → Q (.panic c) a w) (hy : ∀ oi, ops[i]? = some oi → Region.wanted oi (yielded ops a.tmps) = true ∧ ∀ w', R w w' → (execOp a.eval oi).run P w' = .ok (.value v) w') (h : wpAnyR P md ops Q R fuel (listed.setIfInBounds i true) (a.put (some d) v) w) : wpAnyR P md ops Q R (fuel + 1) listed a w := by
 cases hi : ops[i]? with
 | none => rw [hi] at hd; cases hd
 | some oi =>
  rw [hi] at hd; have hd' : oi.dst = some d := hd; rw [← hd'] at h hQ; exact wpAnyR_first hP hi (Region.noSelect_spec hs) hQ fuel listed a w (Region.free_spec hi hf) (by simpa using hr) (.inl (hy oi hi)) h
theorem ord_skip (hP : Pre R) {i d : Nat} {fuel : Nat} {listed : Array Bool} {a : Act} {w : World} (hs : Region.noSelect ops = true) (hf : Region.free md ops listed i = true) (hr : (Region.ready md ops listed).contains i = true) (hd : (ops[i]?).bind (·.dst) = some d) (hQ : ∀ c a w, Q (.panic c) (a.put (some d) undef) w → Q (.panic c) a w) (hy : ((ops[i]?).map fun oi => Region.wanted oi (yielded ops a.tmps)) = some false) (h : wpAnyR P md ops Q R fuel (listed.setIfInBounds i true) (a.put (some d) undef) w) : wpAnyR P md ops Q R (fuel + 1) listed a w := by
 cases hi : ops[i]? with
 | none => rw [hi] at hd; cases hd
 | some oi =>
  rw [hi] at hd hy; have hd' : oi.dst = some d := hd; rw [← hd'] at h hQ; exact wpAnyR_first hP hi (Region.noSelect_spec hs) hQ fuel listed a w (Region.free_spec hi hf) (by simpa using hr) (.inr ⟨by simpa using hy, rfl⟩) h
theorem ord_one {i : Nat} {fuel : Nat} {listed : Array Bool} {a : Act} {w : World} (hr : Region.ready md ops listed = [i]) (h : ∀ oi K, ops[i]? = some oi → Shut (∀ a' w', R w w' → wpAnyR P md ops Q R fuel (listed.setIfInBounds i true) a' w' → K a' w') → Region.wanted oi (yielded ops a.tmps) = true ∧ oi.wp P a w K Q) : wpAnyR P md ops Q R (fuel + 1) listed a w := by
 intro _; refine ⟨fun h0 => (by rw [hr] at h0; cases h0), fun j hj => ?_⟩; rw [hr] at hj; (obtain rfl : j = i := by simpa using hj); unfold wpOp
 cases hi : ops[j]? with
 | none =>
  (have : j ∈ Region.ready md ops listed := by rw [hr]; simp); obtain ⟨_, o, ho, _⟩ := mem_ready.1 this; rw [hi] at ho; cases ho
 | some oi =>
  obtain ⟨hw, hwp⟩ := h oi (fun a' w' => (waitsB md ops j = true ∧ Region.ready md ops (listed.setIfInBounds j true) = [] ∧ Q .normal a' w') ∨ (R w w' ∧ wpAnyR P md ops Q R fuel (listed.setIfInBounds j true) a' w')) hi (fun a' w' hl hk => .inr (And.intro hl hk)); simp only [hw, if_true]; exact .inl hwp
theorem ord_last {i : Nat} {fuel : Nat} {listed : Array Bool} {a : Act} {w : World} (hr : Region.ready md ops listed = [i]) (hwt : waitsB md ops i = true) (he : Region.ready md ops (listed.setIfInBounds i true) = []) (h : ∀ oi K, ops[i]? = some oi → Shut (∀ a' w', Q .normal a' w' → K a' w') → Region.wanted oi (yielded ops a.tmps) = true ∧ oi.wp P a w K Q) : wpAnyR P md ops Q R (fuel + 1) listed a w := by
 intro _; refine ⟨fun h0 => (by rw [hr] at h0; cases h0), fun j hj => ?_⟩; rw [hr] at hj; (obtain rfl : j = i := by simpa using hj); unfold wpOp
 cases hi : ops[j]? with
 | none =>
  (have : j ∈ Region.ready md ops listed := by rw [hr]; simp); obtain ⟨_, o, ho, _⟩ := mem_ready.1 this; rw [hi] at ho; cases ho
 | some oi =>
  obtain ⟨hw, hwp⟩ := h oi (fun a' w' => (waitsB md ops j = true ∧ Region.ready md ops (listed.setIfInBounds j true) = [] ∧ Q .normal a' w') ∨ (R w w' ∧ wpAnyR P md ops Q R fuel (listed.setIfInBounds j true) a' w')) hi (fun a' w' hl => .inl ⟨hwt, he, hl⟩); simp only [hw, if_true]; exact .inl hwp
theorem later_done {listed : Array Bool} {a : Act} {w : World} (hr : Region.ready md ops listed = []) (h : Q .normal a w) : ∀ fuel, wpAnyR P md ops Q R fuel listed a w
  | 0 => fun _ => ⟨hr, h⟩
  | _ + 1 => fun _ => ⟨fun _ => h, by rw [hr]; simp⟩
theorem wp_region_ord (R : World → World → Prop) {id : Nat} {a : Act} {w : World} (hm : P.follows .mixedOrders = true)
    (h : wpAnyR P .any ops Q R ops.size (Array.replicate ops.size false) a w.drew) : (Code.region id ops true).wp P Q a w :=
  wp_region_any hm (wpAny_of_R _ _ _ _ (fun k ok _ hl => by
    exfalso
    rw [Array.getD_eq_getD_getElem?, Array.getElem?_replicate] at hl
    split at hl <;> simp at hl) h)
end
section
variable {P : Program} {ops : Array Oper} {Q : Exit → Act → World → Prop} {md : Region.Mode}
end
end Go.Proofs.YtdfpeaenbmgihaaGreat.OrdC
namespace Go.Proofs.YtdfpeaenbmgihaaGreat
open Go.RowKit
section
variable {P : Program} {ops : Array Oper} {Q : Exit → Act → World → Prop} {md : Region.Mode} {R : World → World → Prop}
theorem ord_two {i j : Nat} {fuel : Nat} {listed : Array Bool} {a : Act} {w : World} (hr : Region.ready md ops listed = [i, j]) (h : ∀ oi K, ops[i]? = some oi → Shut (∀ a' w', R w w' → wpAnyR P md ops Q R fuel (listed.setIfInBounds i true) a' w' → K a' w') → Region.wanted oi (yielded ops a.tmps) = true ∧ oi.wp P a w K Q) (k : ∀ oi K, ops[j]? = some oi → Shut (∀ a' w', R w w' → wpAnyR P md ops Q R fuel (listed.setIfInBounds j true) a' w' → K a' w') → Region.wanted oi (yielded ops a.tmps) = true ∧ oi.wp P a w K Q) : wpAnyR P md ops Q R (fuel + 1) listed a w := by
 refine ⟨fun h0 => (by rw [hr] at h0; cases h0), fun z hz => ?_⟩
 have step : ∀ z, z ∈ Region.ready md ops listed → (∀ oi K, ops[z]? = some oi → Shut (∀ a' w', R w w' → wpAnyR P md ops Q R fuel (listed.setIfInBounds z true) a' w' → K a' w') → Region.wanted oi (yielded ops a.tmps) = true ∧ oi.wp P a w K Q) →
     wpOp P ops Q z (fun a' w' => (waitsB md ops z = true ∧ Region.ready md ops (listed.setIfInBounds z true) = [] ∧ Q .normal a' w') ∨ (R w w' ∧ wpAnyR P md ops Q R fuel (listed.setIfInBounds z true) a' w')) a w := by
   intro z hm hh
   unfold wpOp
   cases hi : ops[z]? with
   | none =>
     obtain ⟨_, o, ho, _⟩ := mem_ready.1 hm
     rw [hi] at ho
     cases ho
   | some oi =>
     obtain ⟨hw, hwp⟩ := hh oi (fun a' w' => (waitsB md ops z = true ∧ Region.ready md ops (listed.setIfInBounds z true) = [] ∧ Q .normal a' w') ∨ (R w w' ∧ wpAnyR P md ops Q R fuel (listed.setIfInBounds z true) a' w')) hi (fun a' w' hl hk => .inr (And.intro hl hk))
     simp only [hw, if_true]
     exact .inl hwp
 rw [hr] at hz; rcases (by simpa using hz : z = i ∨ z = j) with rfl | rfl
 · exact step z (by rw [hr]; simp) h
 · exact step z (by rw [hr]; simp) k
end
end Go.Proofs.YtdfpeaenbmgihaaGreat
namespace Go.Proofs.YtdfpeaenbmgihaaGreat
open Go.RowKit
def KeepC (L : List Addr) (u u' : World) : Prop := ∀ a ∈ L, u'.cell? a = u.cell? a
theorem keepCPre (L : List Addr) : Pre (KeepC L) := ⟨fun _ _ _ => rfl, fun _ _ _ h k a ha => (k a ha).trans (h a ha)⟩
theorem keepC_below {L : List Addr} {u u' : World} (h : Below u.heap.size u u') (hl : ∀ a ∈ L, a.block < u.heap.size) : KeepC L u u' := fun a ha => h.cell (hl a ha)
theorem keepC_grown {L : List Addr} {u u' : World} {r : Option Nat} (h : u.grownBy u' r) (hl : ∀ a ∈ L, a.block < u.heap.size ∧ some a.block ≠ r) : KeepC L u u' := fun a ha => World.cell?_of_block (w := u) (h.block a.block (hl a ha).1 (hl a ha).2)
theorem keepC_row {L : List Addr} {u : World} {b : Nat} {cs : Array Value} (hl : ∀ a ∈ L, a.block < u.heap.size ∧ a.block ≠ b) (hg : u.grownBy (u.setRow b cs) (some b)) : KeepC L u (u.setRow b cs) := keepC_grown hg (fun a ha => ⟨(hl a ha).1, fun e => (hl a ha).2 (by cases e; rfl)⟩)
end Go.Proofs.YtdfpeaenbmgihaaGreat
namespace Go.Proofs.YtdfpeaenbmgihaaGreat
open Go.RowKit
theorem results_cs {P : Program} {fn : Func} {a t s : Nat} {tmps : Array Value} {w : World} {b : Addr} {v x : Value} (h : fn.results = #[.cell a t, .tmp s]) (hp : tmps.getD a undef = .pointer (some b)) (hx : tmps.getD s undef = x) (hl : (loadVar t b).run P w = .ok v w) : (results fn tmps).run P w = .ok (.tuple #[v, x]) w := by (have hp' : tmps[a]?.getD undef = .pointer (some b) := by simpa using hp); (have hx' : tmps[s]?.getD undef = x := by simpa using hx); simp [results, h, hp', hx', asAddr, hl]
theorem results_ccs {P : Program} {fn : Func} {a t c u s : Nat} {tmps : Array Value} {w : World} {b d : Addr} {v y x : Value} (h : fn.results = #[.cell a t, .cell c u, .tmp s]) (hp : tmps.getD a undef = .pointer (some b)) (hq : tmps.getD c undef = .pointer (some d)) (hx : tmps.getD s undef = x) (hl : (loadVar t b).run P w = .ok v w) (hm : (loadVar u d).run P w = .ok y w) : (results fn tmps).run P w = .ok (.tuple #[v, y, x]) w := by (have hp' : tmps[a]?.getD undef = .pointer (some b) := by simpa using hp); (have hq' : tmps[c]?.getD undef = .pointer (some d) := by simpa using hq); (have hx' : tmps[s]?.getD undef = x := by simpa using hx); simp [results, h, hp', hq', hx', asAddr, hl, hm]
theorem results_cc {P : Program} {fn : Func} {a t c u : Nat} {tmps : Array Value} {w : World} {b d : Addr} {v y : Value} (h : fn.results = #[.cell a t, .cell c u]) (hp : tmps.getD a undef = .pointer (some b)) (hq : tmps.getD c undef = .pointer (some d)) (hl : (loadVar t b).run P w = .ok v w) (hm : (loadVar u d).run P w = .ok y w) : (results fn tmps).run P w = .ok (.tuple #[v, y]) w := by (have hp' : tmps[a]?.getD undef = .pointer (some b) := by simpa using hp); (have hq' : tmps[c]?.getD undef = .pointer (some d) := by simpa using hq); simp [results, h, hp', hq', asAddr, hl, hm]
end Go.Proofs.YtdfpeaenbmgihaaGreat
namespace Go.Proofs.YtdfpeaenbmgihaaGreat
open Go.RowKit
def IRow (w : World) (v : Value) (xs : List Int) : Prop :=
  (v = .slice none 0 0 ∧ xs = []) ∨ ∃ (a : Addr) (cap : Nat), v = .slice (some a) xs.length cap ∧ xs.length ≤ cap ∧ cap ≤ maxLen ∧ ∀ i, i < xs.length → w.cell? (a.add i) = some (.int .i64 (xs.getD i 0))
theorem IRow.below {w w' : World} {v : Value} {xs : List Int} (h : IRow w v xs) (hb : Below w.heap.size w w') : IRow w' v xs := by
 rcases h with h | ⟨a, cap, h1, h2, h3, h4⟩
 · exact .inl h
 · exact .inr ⟨a, cap, h1, h2, h3, fun i hi => (hb.cell (p := a.add i) (cell_lt (h4 i hi))).trans (h4 i hi)⟩
theorem IRow.drew {w : World} {v : Value} {xs : List Int} (h : IRow w v xs) : IRow w.drew v xs := h
theorem IRow.form {w : World} {v : Value} {xs : List Int} (h : IRow w v xs) : ∃ (ao : Option Addr) (cap : Nat), v = .slice ao xs.length cap ∧ xs.length ≤ cap ∧ cap ≤ maxLen ∧ ∀ i, i < xs.length → ∃ a, ao = some a ∧ w.cell? (a.add i) = some (.int .i64 (xs.getD i 0)) := by
 rcases h with ⟨rfl, rfl⟩ | ⟨a, cap, rfl, h1, h2, h3⟩
 · exact ⟨none, 0, rfl, Nat.le_refl _, by omega, fun i hi => absurd hi (Nat.not_lt_zero _)⟩
 · exact ⟨some a, cap, rfl, h1, h2, fun i hi => ⟨a, rfl, h3 i hi⟩⟩
def OwnI (B : Nat) (w : World) (v : Value) (xs : List Int) : Prop := w.ownsRow B 3 1 v xs.length (xs.map (Value.int .i64))
theorem OwnI.below {B : Nat} {w w' : World} {v : Value} {xs : List Int} (h : OwnI B w v xs) (hb : Below w.heap.size w w') : OwnI B w' v xs := own_below' h hb
theorem OwnI.irow {B : Nat} {w : World} {v : Value} {xs : List Int} (h : OwnI B w v xs) : IRow w v xs := by
 unfold OwnI at h; have hh := h; rcases h.2 with ⟨h1, h2⟩ | ⟨g, cap, cur, h1, h2, h3, h4, h5, h6, h7⟩
 · exact .inl ⟨h1, List.eq_nil_of_length_eq_zero h2⟩
 · subst h1; refine .inr ⟨⟨g, 0, none⟩, cap, rfl, h4, h5, fun i hi => ?_⟩; have hc := hh.cellAt i (by omega); rw [Addr.add_lit, Nat.zero_add, hc]; simp [hi]
theorem OwnI.len {B : Nat} {w : World} {v : Value} {xs : List Int} (h : OwnI B w v xs) : lenOf v = xs.length := by
 rcases h.2 with ⟨h1, h2⟩ | ⟨g, cap, cur, h1, _⟩
 · rw [h1, h2]; rfl
 · rw [h1]; rfl
theorem OwnI.grow {B : Nat} {w w6 w7 : World} {o : Obj} {v v' : Value} {xs : List Int} {y : Int} (hO : OwnI B w6 v xs) (hbl : Below B w w6) (hB : B ≤ w.heap.size) (hown' : w7.ownsRow B 3 1 v' (xs.length + 1) (xs.map (Value.int .i64) ++ [.int .i64 y])) (hg : (w6.alloc o).grownBy w7 v.ownBlock) : OwnI B w7 v' (xs ++ [y]) ∧ Below B w w7 := by have hs := hbl.size; refine ⟨?_, (hbl.alloc (by omega) o).grown hg (by simp; omega) (fun k hk => (hO.lt k hk).1)⟩; unfold OwnI; rw [List.length_append, List.map_append]; exact hown'
theorem info_int2 : (Tryz.prog.info? 3).map (fun i => (i.zero, i.size, i.bytes)) = some (some (.int .i64 0), 1, 8) := by kernel_rfl
end Go.Proofs.YtdfpeaenbmgihaaGreat
namespace Go.Proofs.YtdfpeaenbmgihaaGreat
open Go.RowKit
section
variable {P : Program} (w : World)
theorem grownBy_refl (r : Option Nat) : w.grownBy w r := ⟨rfl, rfl, rfl, Nat.le_refl _, fun _ _ _ => rfl⟩
theorem wpList_append_row {ops : Array Oper} {rest : List Oper} {o : Oper} {a : Act} {Q : Exit → Act → World → Prop} (hgd : o.guard = none) (s x : Operand) (t : TypeId) (ho : o.op = .call { callee := .builtin .append, args := #[s, x], argTypes := #[t, t] }) (base : Nat) (e : TypeId) (i : TypeInfo) (z : Value) (size bytes : Nat) (ht : P.underlying t = some (.slice e)) (hi : P.info? e = some i) (hz : i.zero = some z) (hsize : i.size = size) (hby : i.bytes = bytes) (hzs : z.cells.size = size) (hsz : 0 < size) (v : Value) (n : Nat) (xs : List Value) (hs : a.eval s = v) (hown : w.ownsRow base e size v n xs) (y : Value) (m : Nat) (news : List Value) (hx : a.eval x = y) (hy : (y = .slice none 0 0 ∧ m = 0 ∧ news = []) ∨ ∃ ad c, y = .slice (some ad) m c ∧ news.length = m * size ∧ ∀ j u, news[j]? = some u → w.cell? (ad.add j) = some u) (h1 : ∀ u ∈ news, u.oneCell' = true) (h63 : n + m ≤ maxLen) (hbytes : (n + m) * bytes ≤ 140737488355328) (hbase : base ≤ w.heap.size) (h : ∀ v' w', w'.ownsRow base e size v' (n + m) (xs ++ news) → w.grownBy w' v.ownBlock → wpList P ops Q rest (a.put o.dst v') w') : wpList P ops Q (o :: rest) a w := by
 rcases hy with ⟨rfl, rfl, rfl⟩ | ⟨ad, c, rfl, hl, hnews⟩
 · refine wpList_plain hgd fun _ hK => ?_; refine Go.Lib.wp_append_run w s x t t ho v (.slice none 0 0) hs hx v w (run_append_owned_none _ base t o.type e i size ht hi v n xs hown) (hK _ _ (h v w (by simpa using hown) (grownBy_refl w _)))
 · exact wpList_append_own _ hgd s x t ho base e i z size bytes ht hi hz hsize hby hzs hsz v n xs hs hown ad m c news hx hl hnews h1 h63 hbytes hbase (fun v' w' h2 h3 _ => h v' w' h2 h3)
end
section
variable {P : Program} (w : World)
theorem wp_append_row {o : Oper} {a : Act} {K : Act → World → Prop} {Q : Exit → Act → World → Prop} (s x : Operand) (t : TypeId) (ho : o.op = .call { callee := .builtin .append, args := #[s, x], argTypes := #[t, t] }) (base : Nat) (e : TypeId) (i : TypeInfo) (z : Value) (size bytes : Nat) (ht : P.underlying t = some (.slice e)) (hi : P.info? e = some i) (hz : i.zero = some z) (hsize : i.size = size) (hby : i.bytes = bytes) (hzs : z.cells.size = size) (hsz : 0 < size) (v : Value) (n : Nat) (xs : List Value) (hs : a.eval s = v) (hown : w.ownsRow base e size v n xs) (y : Value) (m : Nat) (news : List Value) (hx : a.eval x = y) (hy : (y = .slice none 0 0 ∧ m = 0 ∧ news = []) ∨ ∃ ad c, y = .slice (some ad) m c ∧ news.length = m * size ∧ ∀ j u, news[j]? = some u → w.cell? (ad.add j) = some u) (h1 : ∀ u ∈ news, u.oneCell' = true) (h63 : n + m ≤ maxLen) (hbytes : (n + m) * bytes ≤ 140737488355328) (hbase : base ≤ w.heap.size) (h : ∀ v' w', w'.ownsRow base e size v' (n + m) (xs ++ news) → w.grownBy w' v.ownBlock → K (a.put o.dst v') w') : o.wp P a w K Q := by
 rcases hy with ⟨rfl, rfl, rfl⟩ | ⟨ad, c, rfl, hl, hnews⟩
 · exact Go.Lib.wp_append_run w s x t t ho v (.slice none 0 0) hs hx v w (run_append_owned_none _ base t o.type e i size ht hi v n xs hown) (h v w (by simpa using hown) (grownBy_refl w _))
 · exact wp_append_own w s x t ho base e i z size bytes ht hi hz hsize hby hzs hsz v n xs hs hown ad m c news hx hl hnews h1 h63 hbytes hbase (fun v' w' h2 h3 _ => h v' w' h2 h3)
end
theorem IRow.news {w : World} {v : Value} {xs : List Int} (h : IRow w v xs) : (v = .slice none 0 0 ∧ xs.length = 0 ∧ xs.map (Value.int .i64) = []) ∨ ∃ ad c, v = .slice (some ad) xs.length c ∧ (xs.map (Value.int .i64)).length = xs.length * 1 ∧ ∀ j u, (xs.map (Value.int .i64))[j]? = some u → w.cell? (ad.add j) = some u := by
 rcases h with ⟨rfl, rfl⟩ | ⟨a, cap, rfl, h1, h2, h3⟩
 · exact .inl ⟨rfl, rfl, rfl⟩
 · refine .inr ⟨a, cap, rfl, by simp, fun j u hj => ?_⟩; rw [List.getElem?_map] at hj
   cases hx : xs[j]? with
   | none => rw [hx] at hj; cases hj
   | some x =>
    rw [hx] at hj; have hlt := (List.getElem?_eq_some_iff.1 hx).1; rw [h3 j hlt, List.getD_eq_getElem?_getD, hx]; simpa using hj
theorem SRow.news {w : World} {v : Value} {xs : List ByteArray} (h : SRow w v xs) : (v = .slice none 0 0 ∧ xs.length = 0 ∧ xs.map Value.string = []) ∨ ∃ ad c, v = .slice (some ad) xs.length c ∧ (xs.map Value.string).length = xs.length * 1 ∧ ∀ j u, (xs.map Value.string)[j]? = some u → w.cell? (ad.add j) = some u := by
 rcases h with ⟨rfl, rfl⟩ | ⟨a, cap, rfl, h1, h2, h3⟩
 · exact .inl ⟨rfl, rfl, rfl⟩
 · refine .inr ⟨a, cap, rfl, by simp, fun j u hj => ?_⟩; rw [List.getElem?_map] at hj
   cases hx : xs[j]? with
   | none => rw [hx] at hj; cases hj
   | some x =>
    rw [hx] at hj; have hlt := (List.getElem?_eq_some_iff.1 hx).1; rw [h3 j hlt, List.getD_eq_getElem?_getD, hx]; simpa using hj
theorem texts_one (xs : List ByteArray) : ∀ u ∈ xs.map Value.string, u.oneCell' = true := by intro u hu; obtain ⟨x, _, rfl⟩ := List.mem_map.1 hu; rfl
theorem ints_one (xs : List Int) : ∀ u ∈ xs.map (Value.int .i64), u.oneCell' = true := by intro u hu; obtain ⟨x, _, rfl⟩ := List.mem_map.1 hu; rfl
end Go.Proofs.YtdfpeaenbmgihaaGreat
namespace Go.Proofs.YtdfpeaenbmgihaaGreat
open Go.RowKit
theorem later_grown {w w' : World} (h : w.grownBy w' none) : Later w w' := (Below.refl _ _).grown h (Nat.le_refl _) (fun k hk => by cases hk)
section
variable {P : Program} (w : World)
theorem run_append_full (base : Nat) (t ty e : TypeId) (i : TypeInfo) (z : Value) (size bytes : Nat) (ht : P.underlying t = some (.slice e)) (hi : P.info? e = some i) (hz : i.zero = some z) (hsize : i.size = size) (hby : i.bytes = bytes) (hzs : z.cells.size = size) (hsz : 0 < size) (g n : Nat) (xs : List Value) (hown : w.ownsRow base e size (.slice (some ⟨g, 0, none⟩) n n) n xs) (y : Value) (m : Nat) (news : List Value) (hy : (y = .slice none 0 0 ∧ m = 0 ∧ news = []) ∨ ∃ ad c, y = .slice (some ad) m c ∧ news.length = m * size ∧ ∀ j u, news[j]? = some u → w.cell? (ad.add j) = some u) (h63 : n + m ≤ maxLen) (hbytes : (n + m) * bytes ≤ 140737488355328) (hbase : base ≤ w.heap.size) : ∃ g' c' w', (Builtin.append_ #[t, t] ty #[.slice (some ⟨g, 0, none⟩) n n, y]).run P w = .ok (.slice (some ⟨g', 0, none⟩) (n + m) c') w' ∧ w'.ownsRow base e size (.slice (some ⟨g', 0, none⟩) (n + m) c') (n + m) (xs ++ news) ∧ Later w w' := by
 rcases hy with ⟨rfl, rfl, rfl⟩ | ⟨ad, c, rfl, hl, hnews⟩
 · refine ⟨g, n, w, ?_, by simpa using hown, laterPre.refl _⟩; exact run_append_owned_none w base t ty e i size ht hi _ n xs hown
 · by_cases hm : m = 0
   · subst hm; have hn : news = [] := List.eq_nil_of_length_eq_zero (by simpa using hl); subst hn; refine ⟨g, n, w, ?_, by simpa using hown, laterPre.refl _⟩; simp [Builtin.append_, run_underlying ht, sizeOf, typeInfo, hi, Builtin.lenOf, Builtin.firstCells, loadCells, loadCellsFrom, storeCells]
   · have holds : ∀ j u, xs[j]? = some u → w.cell? ((⟨g, 0, none⟩ : Addr).add j) = some u := hown.cells (g := g) rfl; obtain ⟨v', w', h1, h2, h3⟩ := run_append_arg_grows (P := P) w t ty e i z size bytes ht hi hz hsize hby hzs hsz ⟨g, 0, none⟩ n n xs hown.1 holds ad m c news hl hnews (by omega) h63 hbytes; rcases h2.2 with ⟨rfl, q⟩ | ⟨g', cap, cur, rfl, q1, q2, q3⟩
     · omega
     · exact ⟨g', cap, w', h1, ⟨h2.1, .inr ⟨g', cap, cur, rfl, Nat.le_trans hbase q1, q2, q3⟩⟩, later_grown h3⟩
theorem wp_append_full {o : Oper} {a : Act} {K : Act → World → Prop} {Q : Exit → Act → World → Prop} (s x : Operand) (t : TypeId) (ho : o.op = .call { callee := .builtin .append, args := #[s, x], argTypes := #[t, t] }) (base : Nat) (e : TypeId) (i : TypeInfo) (z : Value) (size bytes : Nat) (ht : P.underlying t = some (.slice e)) (hi : P.info? e = some i) (hz : i.zero = some z) (hsize : i.size = size) (hby : i.bytes = bytes) (hzs : z.cells.size = size) (hsz : 0 < size) (g n : Nat) (xs : List Value) (hs : a.eval s = .slice (some ⟨g, 0, none⟩) n n) (hown : w.ownsRow base e size (.slice (some ⟨g, 0, none⟩) n n) n xs) (y : Value) (m : Nat) (news : List Value) (hx : a.eval x = y) (hy : (y = .slice none 0 0 ∧ m = 0 ∧ news = []) ∨ ∃ ad c, y = .slice (some ad) m c ∧ news.length = m * size ∧ ∀ j u, news[j]? = some u → w.cell? (ad.add j) = some u) (h63 : n + m ≤ maxLen) (hbytes : (n + m) * bytes ≤ 140737488355328) (hbase : base ≤ w.heap.size) (h : ∀ g' c' w', w'.ownsRow base e size (.slice (some ⟨g', 0, none⟩) (n + m) c') (n + m) (xs ++ news) → Later w w' → K (a.put o.dst (.slice (some ⟨g', 0, none⟩) (n + m) c')) w') : o.wp P a w K Q := by obtain ⟨g', c', w', hr, h2, h3⟩ := run_append_full (P := P) w base t o.type e i z size bytes ht hi hz hsize hby hzs hsz g n xs hown y m news hy h63 hbytes hbase; unfold Oper.wp execOp; simp only [ho, resolve, invoke, builtin, Sem.run_bind, Sem.run_pure, Result.andThen_ok, List.map_toArray, List.map_cons, List.map_nil, hs, hx, hr]; exact h g' c' w' h2 h3
theorem wpList_append_full {ops : Array Oper} {rest : List Oper} {o : Oper} {a : Act} {Q : Exit → Act → World → Prop} (hgd : o.guard = none) (s x : Operand) (t : TypeId) (ho : o.op = .call { callee := .builtin .append, args := #[s, x], argTypes := #[t, t] }) (base : Nat) (e : TypeId) (i : TypeInfo) (z : Value) (size bytes : Nat) (ht : P.underlying t = some (.slice e)) (hi : P.info? e = some i) (hz : i.zero = some z) (hsize : i.size = size) (hby : i.bytes = bytes) (hzs : z.cells.size = size) (hsz : 0 < size) (g n : Nat) (xs : List Value) (hs : a.eval s = .slice (some ⟨g, 0, none⟩) n n) (hown : w.ownsRow base e size (.slice (some ⟨g, 0, none⟩) n n) n xs) (y : Value) (m : Nat) (news : List Value) (hx : a.eval x = y) (hy : (y = .slice none 0 0 ∧ m = 0 ∧ news = []) ∨ ∃ ad c, y = .slice (some ad) m c ∧ news.length = m * size ∧ ∀ j u, news[j]? = some u → w.cell? (ad.add j) = some u) (h63 : n + m ≤ maxLen) (hbytes : (n + m) * bytes ≤ 140737488355328) (hbase : base ≤ w.heap.size) (h : ∀ g' c' w', w'.ownsRow base e size (.slice (some ⟨g', 0, none⟩) (n + m) c') (n + m) (xs ++ news) → Later w w' → wpList P ops Q rest (a.put o.dst (.slice (some ⟨g', 0, none⟩) (n + m) c')) w') : wpList P ops Q (o :: rest) a w := wpList_plain hgd fun _ hK => wp_append_full w s x t ho base e i z size bytes ht hi hz hsize hby hzs hsz g n xs hs hown y m news hx hy h63 hbytes hbase (fun g' c' w' h1 h2 => hK _ _ (h g' c' w' h1 h2))
end
theorem own_news {w : World} {B : Nat} {e : TypeId} {size : Nat} {v : Value} {n : Nat} {xs : List Value} (h : w.ownsRow B e size v n xs) : (v = .slice none 0 0 ∧ n = 0 ∧ xs = []) ∨ ∃ ad c, v = .slice (some ad) n c ∧ xs.length = n * size ∧ ∀ j u, xs[j]? = some u → w.cell? (ad.add j) = some u := by
 rcases h.2 with ⟨h1, h2⟩ | ⟨g, cap, cur, h1, _⟩
 · subst h2; exact .inl ⟨h1, rfl, List.eq_nil_of_length_eq_zero (by simpa using h.1)⟩
 · subst h1; exact .inr ⟨_, cap, rfl, h.1, h.cells (g := g) rfl⟩
theorem later_alloc (w : World) (o : Obj) : Later w (w.alloc o) := (Below.refl _ _).alloc (Nat.le_refl _) _
end Go.Proofs.YtdfpeaenbmgihaaGreat
namespace Go.Proofs.YtdfpeaenbmgihaaGreat
open Go.RowKit
theorem size_cellsAt (b : Nat) : ∀ (vs : List Value) (o : Nat) (w : World), (w.setCells b o vs).heap.size = w.heap.size
  | [], _, _ => rfl
  | v :: r, o, w => by rw [World.setCells, size_cellsAt b r]; simp
section
variable {P : Program} {ops : Array Oper} {Q : Exit → Act → World → Prop} {a : Act} {w : World} {rest : List Oper} {o : Oper}
theorem pl_id (h : wpList P ops Q (o :: rest) a w) : wpList P ops Q (o :: rest) a w := h
theorem pl_take {v : Value} (hg : Region.wanted o (yielded ops a.tmps) = true) (h : (execOp a.eval o).run P w = .ok (.value v) w) (k : wpList P ops Q rest (a.put o.dst v) w) : wpList P ops Q (o :: rest) a w := by refine wpList_step fun K hK => ?_; rw [if_pos hg]; unfold Oper.wp; rw [h]; exact hK _ _ k
theorem pl_skip (hg : Region.wanted o (yielded ops a.tmps) = false) (k : wpList P ops Q rest (a.put o.dst undef) w) : wpList P ops Q (o :: rest) a w := by refine wpList_step fun K hK => ?_; rw [if_neg (by rw [hg]; decide)]; exact hK _ _ k
theorem pl_one (hg : Region.wanted o (yielded ops a.tmps) = true) (h : ∀ K : Act → World → Prop, Shut (∀ a w, wpList P ops Q rest a w → K a w) → o.wp P a w K Q) : wpList P ops Q (o :: rest) a w := by refine wpList_step fun K hK => ?_; rw [if_pos hg]; exact h K hK
variable {K : Act → World → Prop}
theorem op_alloc {cs : Array Value} {t : TypeId} (h : (execOp a.eval o).run P w = .ok (.value (.pointer (some ⟨w.heap.size, 0, none⟩))) (w.alloc (.cells cs t))) (k : ∀ (b : Nat) (w' : World), Blk w' b t cs → Below w.heap.size w w' → w.heap.size ≤ b ∧ b < w'.heap.size → K (a.put o.dst (.pointer (some ⟨b, 0, none⟩))) w') : o.wp P a w K Q := by unfold Oper.wp; rw [h]; exact k w.heap.size _ (Blk.new w t cs) ((Below.refl _ _).alloc (Nat.le_refl _) _) ⟨Nat.le_refl _, by simp⟩
theorem op_row (ty : TypeId) (x y : Operand) (ho : o.op = .store ty x y) (b : Nat) (cells old : Array Value) (t : TypeId) (hx : a.eval x = .pointer (some ⟨b, 0, none⟩)) (hy : a.eval y = .agg cells)
    (hg : Blk w b t old) (hi : (P.info? ty).map (·.size) = some cells.size) (hold : old.size = cells.size) (h1 : cells.all (·.oneCell') = true)
    (k : ∀ w' : World, Blk w' b t cells → w.grownBy w' (some b) → w'.heap.size = w.heap.size → K (a.put o.dst undef) w') : o.wp P a w K Q :=
  wp_store_row ty x y ho b cells hx hy t old hg hi hold h1 (k _ (hg.set cells) (grown_setRow w b cells) (by simp [World.setRow]))
theorem op_mid (ty : TypeId) (x y : Operand) (ho : o.op = .store ty x y) (b i : Nat) (cells old : Array Value) (t : TypeId) (hx : a.eval x = .pointer (some ⟨b, i, none⟩)) (hy : a.eval y = .agg cells) (hg : Blk w b t old) (hi : (P.info? ty).map (·.size) = some cells.size) (hold : i + cells.size ≤ old.size) (h1 : cells.all (·.oneCell') = true) (k : ∀ w' : World, Blk w' b t (setAll old i cells.toList) → w.grownBy w' (some b) → w'.heap.size = w.heap.size → K (a.put o.dst undef) w') : o.wp P a w K Q := Go.wp_store_mid ty x y ho b i cells hx hy (hg.there hold) hi h1 (k _ (hg.setCells cells.toList i) (grown_setCells b cells.toList i w) (size_cellsAt _ _ _ _))
end
def KeepL (L : List Nat) (u u' : World) : Prop := ∀ b ∈ L, u'.heap[b]? = u.heap[b]?
theorem keepLPre (L : List Nat) : Pre (KeepL L) := ⟨fun _ _ _ => rfl, fun _ _ _ h k b hb => (k b hb).trans (h b hb)⟩
theorem Blk.keepL {u u' : World} {L : List Nat} {b : Nat} {t : TypeId} {cs : Array Value} (h : Blk u b t cs) (k : KeepL L u u') (hm : b ∈ L) : Blk u' b t cs := (k b hm).trans h
theorem keepL_grown {L : List Nat} {u u' : World} {b : Nat} (h : u.grownBy u' (some b)) (hl : ∀ x ∈ L, x < u.heap.size ∧ x ≠ b) : KeepL L u u' := fun x hx => h.block x (hl x hx).1 (fun e => (hl x hx).2 (by cases e; rfl))
theorem row_grown {B : Nat} {w w' : World} {e t : TypeId} {size n b : Nat} {v : Value} {xs : List Value} {cs : Array Value} (h : w.ownsRow B e size v n xs) (hg : w.grownBy w' (some b)) (hx : Blk w b t cs) (hte : t ≠ e) : w'.ownsRow B e size v n xs := h.kept hg (.inr (hx.not_row hte h).symm)
theorem blk_grown {w w' : World} {b b' : Nat} {t : TypeId} {cs : Array Value} (h : Blk w b t cs) (hg : w.grownBy w' (some b')) (hne : b ≠ b') : Blk w' b t cs := h.kept hg (fun e => hne (by cases e; rfl))
theorem below_grown {B : Nat} {w w' w'' : World} {b : Nat} (h : Below B w w') (hg : w'.grownBy w'' (some b)) (hs : B ≤ w'.heap.size) (hb : B ≤ b) : Below B w w'' := h.grown hg hs (fun k hk => by cases hk; exact hb)
def RowT (P : Program) (t e : TypeId) (size bytes : Nat) : Prop := ∃ i z, P.underlying t = some (.slice e) ∧ P.info? e = some i ∧ i.zero = some z ∧ i.size = size ∧ i.bytes = bytes ∧ z.cells.size = size ∧ 0 < size
theorem rowT_of {P : Program} {t e : TypeId} {z : Value} {s b : Nat} (hu : P.underlying t = some (.slice e)) (h : (P.info? e).map (fun i => (i.zero, i.size, i.bytes)) = some (some z, s, b)) (hz : z.cells.size = s) (hs : 0 < s) : RowT P t e s b := by
 cases hi : P.info? e with
 | none => rw [hi] at h; cases h
 | some i0 => rw [hi] at h; simp at h; exact ⟨i0, z, hu, hi, h.1, h.2.1, h.2.2, hz, hs⟩
theorem row_some {w : World} {B : Nat} {e : TypeId} {size : Nat} {v : Value} {n : Nat} {xs : List Value} (h : w.ownsRow B e size v n xs) (hn : 0 < n) : ∃ g c, v = .slice (some ⟨g, 0, none⟩) n c ∧ B ≤ g ∧ g < w.heap.size ∧ n ≤ c ∧ c ≤ maxLen := by
 have hh := h; rcases h.2 with ⟨_, q⟩ | ⟨g, cap, cur, rfl, h1, h2, h3, h4, _⟩
 · omega
 · exact ⟨g, cap, rfl, h1, (hh.lt g rfl).2, h3, h4⟩
section
variable {P : Program} {Q : Exit → Act → World → Prop} {a : Act} {w : World} {o : Oper} {K : Act → World → Prop}
theorem op_lit (B : Nat) {cs : Array Value} {e : TypeId} {size n : Nat} (h : (execOp a.eval o).run P w = .ok (.value (.slice (some ⟨w.heap.size, 0, none⟩) n n)) (w.alloc (.cells cs e))) (hB : B ≤ w.heap.size) (hn : n ≤ maxLen) (hs : cs.size = n * size) (k : ∀ (g : Nat) (w' : World), w'.ownsRow B e size (.slice (some ⟨g, 0, none⟩) n n) n cs.toList → Below w.heap.size w w' → w.heap.size ≤ g ∧ g < w'.heap.size → K (a.put o.dst (.slice (some ⟨g, 0, none⟩) n n)) w') : o.wp P a w K Q := by unfold Oper.wp; rw [h]; exact k w.heap.size _ (World.ownsRow_lit w cs n hB hn hs) ((Below.refl _ _).alloc (Nat.le_refl _) _) ⟨Nat.le_refl _, by simp⟩
theorem op_appFull {t e : TypeId} {size bytes : Nat} (hr : RowT P t e size bytes) (B : Nat) (s x : Operand) (ho : o.op = .call { callee := .builtin .append, args := #[s, x], argTypes := #[t, t] }) (g n : Nat) (xs : List Value) (hs : a.eval s = .slice (some ⟨g, 0, none⟩) n n) (hown : w.ownsRow B e size (.slice (some ⟨g, 0, none⟩) n n) n xs) (y : Value) (m : Nat) (news : List Value) (hx : a.eval x = y) (hy : (y = .slice none 0 0 ∧ m = 0 ∧ news = []) ∨ ∃ ad c, y = .slice (some ad) m c ∧ news.length = m * size ∧ ∀ j u, news[j]? = some u → w.cell? (ad.add j) = some u) (h63 : n + m ≤ maxLen) (hbytes : (n + m) * bytes ≤ 140737488355328) (hbase : B ≤ w.heap.size) (k : ∀ g' c' w', w'.ownsRow B e size (.slice (some ⟨g', 0, none⟩) (n + m) c') (n + m) (xs ++ news) → Below w.heap.size w w' → K (a.put o.dst (.slice (some ⟨g', 0, none⟩) (n + m) c')) w') : o.wp P a w K Q := by obtain ⟨i, z, h1, h2, h3, h4, h5, h6, h7⟩ := hr; exact wp_append_full w s x t ho B e i z size bytes h1 h2 h3 h4 h5 h6 h7 g n xs hs hown y m news hx hy h63 hbytes hbase k
theorem op_appOwn {t e : TypeId} {size bytes : Nat} (hr : RowT P t e size bytes) (B : Nat) (s x : Operand) (ho : o.op = .call { callee := .builtin .append, args := #[s, x], argTypes := #[t, t] }) (v : Value) (n : Nat) (xs : List Value) (hs : a.eval s = v) (hown : w.ownsRow B e size v n xs) (ad : Addr) (m c : Nat) (news : List Value) (hx : a.eval x = .slice (some ad) m c) (hl : news.length = m * size) (hnews : ∀ j u, news[j]? = some u → w.cell? (ad.add j) = some u) (h1 : ∀ u ∈ news, u.oneCell' = true) (h63 : n + m ≤ maxLen) (hbytes : (n + m) * bytes ≤ 140737488355328) (hbase : B ≤ w.heap.size) (k : ∀ v' w', w'.ownsRow B e size v' (n + m) (xs ++ news) → w.grownBy w' v.ownBlock → (v'.ownBlock = v.ownBlock ∨ v'.ownBlock = some w.heap.size) → K (a.put o.dst v') w') : o.wp P a w K Q := by obtain ⟨i, z, r1, r2, r3, r4, r5, r6, r7⟩ := hr; obtain ⟨v', w', hrun, h2, h3, _, h5⟩ := run_append_own_at (P := P) w B t o.type e i z size bytes r1 r2 r3 r4 r5 r6 r7 v n xs hown ad m c news hl hnews h1 h63 hbytes hbase; unfold Oper.wp execOp; simp only [ho, resolve, invoke, builtin, Sem.run_bind, Sem.run_pure, Result.andThen_ok, List.map_toArray, List.map_cons, List.map_nil, hs, hx, hrun]; exact k v' w' h2 h3 h5
end
section
variable {P : Program} {Q : Exit → Act → World → Prop} {a : Act} {w : World} {o : Oper} {K : Act → World → Prop}
theorem op_appNew {t e : TypeId} {size bytes : Nat} (hr : RowT P t e size bytes) (B : Nat) (s x : Operand) (ho : o.op = .call { callee := .builtin .append, args := #[s, x], argTypes := #[t, t] }) (g : Nat) (hs : a.eval s = .slice (some ⟨g, 0, none⟩) 0 0) (hown : w.ownsRow B e size (.slice (some ⟨g, 0, none⟩) 0 0) 0 []) (y : Value) (m : Nat) (news : List Value) (hx : a.eval x = y) (hy : (y = .slice none 0 0 ∧ m = 0 ∧ news = []) ∨ ∃ ad c, y = .slice (some ad) m c ∧ news.length = m * size ∧ ∀ j u, news[j]? = some u → w.cell? (ad.add j) = some u) (h63 : m ≤ maxLen) (hbytes : m * bytes ≤ 140737488355328) (hbase : B ≤ w.heap.size) (k : ∀ g' c' w', w'.ownsRow B e size (.slice (some ⟨g', 0, none⟩) m c') m news → Below w.heap.size w w' → K (a.put o.dst (.slice (some ⟨g', 0, none⟩) m c')) w') : o.wp P a w K Q := by refine op_appFull hr B s x ho g 0 [] hs hown y m news hx hy (by omega) (by rw [Nat.zero_add]; exact hbytes) hbase (fun g' c' w' h1 h2 => ?_); simp only [Nat.zero_add, List.nil_append] at h1 ⊢; exact k g' c' w' h1 h2
end
theorem row_kept {w w' : World} {B b g : Nat} {e : TypeId} {size n c : Nat} {xs : List Value} (h : w.ownsRow B e size (.slice (some ⟨g, 0, none⟩) n c) n xs) (hg : w.grownBy w' (some b)) (hne : g ≠ b) : w'.ownsRow B e size (.slice (some ⟨g, 0, none⟩) n c) n xs :=
  h.kept hg (.inr (fun q => hne (by simpa [Value.ownBlock] using q)))
/-! Where the ways of a region that draws its order come together again. -/
def JQ1 {α0 : Type} (A : α0 → World → Act) (F : α0 → World → Prop) : Exit → Act → World → Prop
  | .normal, a, w => ∃ x0, a = A x0 w ∧ F x0 w
  | _, _, _ => False
theorem jq1 {α0 : Type} {A : α0 → World → Act} {F : α0 → World → Prop} {x0 : α0} {a : Act} {w : World} (h : a = A x0 w) (f : F x0 w) : JQ1 A F .normal a w := ⟨x0, h, f⟩
theorem join1 {α0 : Type} {P : Program} {c : Code} {Q : Exit → Act → World → Prop} {a : Act} {w : World} {A : α0 → World → Act} {F : α0 → World → Prop} (h : c.wp P (JQ1 A F) a w) (k : ∀ x0 wc, F x0 wc → Q .normal (A x0 wc) wc) : c.wp P Q a w := by
 refine Code.wp_mono (fun e a' w' q => ?_) h
 cases e with
 | normal =>
  obtain ⟨x0, rfl, f⟩ := q; exact k _ _ f
 | _ => exact q.elim
def JQ2 {α0 α1 : Type} (A : α0 → α1 → World → Act) (F : α0 → α1 → World → Prop) : Exit → Act → World → Prop
  | .normal, a, w => ∃ x0 x1, a = A x0 x1 w ∧ F x0 x1 w
  | _, _, _ => False
theorem jq2 {α0 α1 : Type} {A : α0 → α1 → World → Act} {F : α0 → α1 → World → Prop} {x0 : α0} {x1 : α1} {a : Act} {w : World} (h : a = A x0 x1 w) (f : F x0 x1 w) : JQ2 A F .normal a w := ⟨x0, x1, h, f⟩
theorem join2 {α0 α1 : Type} {P : Program} {c : Code} {Q : Exit → Act → World → Prop} {a : Act} {w : World} {A : α0 → α1 → World → Act} {F : α0 → α1 → World → Prop} (h : c.wp P (JQ2 A F) a w) (k : ∀ x0 x1 wc, F x0 x1 wc → Q .normal (A x0 x1 wc) wc) : c.wp P Q a w := by
 refine Code.wp_mono (fun e a' w' q => ?_) h
 cases e with
 | normal =>
  obtain ⟨x0, x1, rfl, f⟩ := q; exact k _ _ _ f
 | _ => exact q.elim
def JQ3 {α0 α1 α2 : Type} (A : α0 → α1 → α2 → World → Act) (F : α0 → α1 → α2 → World → Prop) : Exit → Act → World → Prop
  | .normal, a, w => ∃ x0 x1 x2, a = A x0 x1 x2 w ∧ F x0 x1 x2 w
  | _, _, _ => False
theorem jq3 {α0 α1 α2 : Type} {A : α0 → α1 → α2 → World → Act} {F : α0 → α1 → α2 → World → Prop} {x0 : α0} {x1 : α1} {x2 : α2} {a : Act} {w : World} (h : a = A x0 x1 x2 w) (f : F x0 x1 x2 w) : JQ3 A F .normal a w := ⟨x0, x1, x2, h, f⟩
theorem join3 {α0 α1 α2 : Type} {P : Program} {c : Code} {Q : Exit → Act → World → Prop} {a : Act} {w : World} {A : α0 → α1 → α2 → World → Act} {F : α0 → α1 → α2 → World → Prop} (h : c.wp P (JQ3 A F) a w) (k : ∀ x0 x1 x2 wc, F x0 x1 x2 wc → Q .normal (A x0 x1 x2 wc) wc) : c.wp P Q a w := by
 refine Code.wp_mono (fun e a' w' q => ?_) h
 cases e with
 | normal =>
  obtain ⟨x0, x1, x2, rfl, f⟩ := q; exact k _ _ _ _ f
 | _ => exact q.elim
def JQ6 {α0 α1 α2 α3 α4 α5 : Type} (A : α0 → α1 → α2 → α3 → α4 → α5 → World → Act) (F : α0 → α1 → α2 → α3 → α4 → α5 → World → Prop) : Exit → Act → World → Prop
  | .normal, a, w => ∃ x0 x1 x2 x3 x4 x5, a = A x0 x1 x2 x3 x4 x5 w ∧ F x0 x1 x2 x3 x4 x5 w
  | _, _, _ => False
theorem jq6 {α0 α1 α2 α3 α4 α5 : Type} {A : α0 → α1 → α2 → α3 → α4 → α5 → World → Act} {F : α0 → α1 → α2 → α3 → α4 → α5 → World → Prop} {x0 : α0} {x1 : α1} {x2 : α2} {x3 : α3} {x4 : α4} {x5 : α5} {a : Act} {w : World} (h : a = A x0 x1 x2 x3 x4 x5 w) (f : F x0 x1 x2 x3 x4 x5 w) : JQ6 A F .normal a w := ⟨x0, x1, x2, x3, x4, x5, h, f⟩
theorem join6 {α0 α1 α2 α3 α4 α5 : Type} {P : Program} {c : Code} {Q : Exit → Act → World → Prop} {a : Act} {w : World} {A : α0 → α1 → α2 → α3 → α4 → α5 → World → Act} {F : α0 → α1 → α2 → α3 → α4 → α5 → World → Prop} (h : c.wp P (JQ6 A F) a w) (k : ∀ x0 x1 x2 x3 x4 x5 wc, F x0 x1 x2 x3 x4 x5 wc → Q .normal (A x0 x1 x2 x3 x4 x5 wc) wc) : c.wp P Q a w := by
 refine Code.wp_mono (fun e a' w' q => ?_) h
 cases e with
 | normal =>
  obtain ⟨x0, x1, x2, x3, x4, x5, rfl, f⟩ := q; exact k _ _ _ _ _ _ _ f
 | _ => exact q.elim
def JQ7 {α0 α1 α2 α3 α4 α5 α6 : Type} (A : α0 → α1 → α2 → α3 → α4 → α5 → α6 → World → Act) (F : α0 → α1 → α2 → α3 → α4 → α5 → α6 → World → Prop) : Exit → Act → World → Prop
  | .normal, a, w => ∃ x0 x1 x2 x3 x4 x5 x6, a = A x0 x1 x2 x3 x4 x5 x6 w ∧ F x0 x1 x2 x3 x4 x5 x6 w
  | _, _, _ => False
theorem jq7 {α0 α1 α2 α3 α4 α5 α6 : Type} {A : α0 → α1 → α2 → α3 → α4 → α5 → α6 → World → Act} {F : α0 → α1 → α2 → α3 → α4 → α5 → α6 → World → Prop} {x0 : α0} {x1 : α1} {x2 : α2} {x3 : α3} {x4 : α4} {x5 : α5} {x6 : α6} {a : Act} {w : World} (h : a = A x0 x1 x2 x3 x4 x5 x6 w) (f : F x0 x1 x2 x3 x4 x5 x6 w) : JQ7 A F .normal a w := ⟨x0, x1, x2, x3, x4, x5, x6, h, f⟩
theorem join7 {α0 α1 α2 α3 α4 α5 α6 : Type} {P : Program} {c : Code} {Q : Exit → Act → World → Prop} {a : Act} {w : World} {A : α0 → α1 → α2 → α3 → α4 → α5 → α6 → World → Act} {F : α0 → α1 → α2 → α3 → α4 → α5 → α6 → World → Prop} (h : c.wp P (JQ7 A F) a w) (k : ∀ x0 x1 x2 x3 x4 x5 x6 wc, F x0 x1 x2 x3 x4 x5 x6 wc → Q .normal (A x0 x1 x2 x3 x4 x5 x6 wc) wc) : c.wp P Q a w := by
 refine Code.wp_mono (fun e a' w' q => ?_) h
 cases e with
 | normal =>
  obtain ⟨x0, x1, x2, x3, x4, x5, x6, rfl, f⟩ := q; exact k _ _ _ _ _ _ _ _ f
 | _ => exact q.elim
end Go.Proofs.YtdfpeaenbmgihaaGreat
namespace Go.Proofs.YtdfpeaenbmgihaaGreat
open Go.RowKit
section
variable {P : Program} {Q : Exit → Act → World → Prop} {a : Act} {w : World} {o : Oper} {K : Act → World → Prop}
theorem op_cell (b i : Nat) (v : Value) {t : TypeId} {old : Array Value} (hg : Blk w b t old) (h : (execOp a.eval o).run P w = .ok .skip (w.setCell ⟨b, i, none⟩ v)) (k : ∀ w' : World, Blk w' b t (old.setIfInBounds i v) → w.grownBy w' (some b) → w'.heap.size = w.heap.size → K (a.put o.dst undef) w') : o.wp P a w K Q := by unfold Oper.wp; rw [h]; exact k _ (heap_setAt hg v) (grown_setC w b i v) (by simp [World.setCell])
theorem op_rowset {B : Nat} {e : TypeId} {g n c : Nat} {xs : List Value} (i : Nat) (v : Value) (hr : w.ownsRow B e 1 (.slice (some ⟨g, 0, none⟩) n c) n xs) (h : (execOp a.eval o).run P w = .ok .skip (w.setCell ⟨g, i, none⟩ v)) (k : ∀ w' : World, w'.ownsRow B e 1 (.slice (some ⟨g, 0, none⟩) n c) n (xs.set i v) → w.grownBy w' (some g) → w'.heap.size = w.heap.size → K (a.put o.dst undef) w') : o.wp P a w K Q := by unfold Oper.wp; rw [h]; obtain ⟨s1, s2⟩ := hr.stored i v; exact k _ s1 s2 (by simp [World.setCell])
end
theorem kept_blk {w w' : World} {b B : Nat} {t e : TypeId} {cs : Array Value} {size n : Nat} {v : Value} {xs : List Value} (h : Blk w b t cs) (hg : w.grownBy w' v.ownBlock) (hr : w.ownsRow B e size v n xs) (hb : b < B) : Blk w' b t cs :=
  h.kept hg (fun q => by have := (hr.lt b q.symm).1; omega)
theorem kept_below {w w0 w' : World} {B B0 : Nat} {e : TypeId} {size n : Nat} {v : Value} {xs : List Value} (h : Below B0 w0 w) (hg : w.grownBy w' v.ownBlock) (hr : w.ownsRow B e size v n xs) (hb : B0 ≤ B) (hs : B0 ≤ w.heap.size) : Below B0 w0 w' :=
  h.grown hg hs (fun k hk => by have := (hr.lt k hk).1; omega)
end Go.Proofs.YtdfpeaenbmgihaaGreat
namespace Go.Proofs.YtdfpeaenbmgihaaGreat
open Go.RowKit
def JQ11 {α0 α1 α2 α3 α4 α5 α6 α7 α8 α9 α10 : Type} (A : α0 → α1 → α2 → α3 → α4 → α5 → α6 → α7 → α8 → α9 → α10 → World → Act) (F : α0 → α1 → α2 → α3 → α4 → α5 → α6 → α7 → α8 → α9 → α10 → World → Prop) : Exit → Act → World → Prop
  | .normal, a, w => ∃ x0 x1 x2 x3 x4 x5 x6 x7 x8 x9 x10, a = A x0 x1 x2 x3 x4 x5 x6 x7 x8 x9 x10 w ∧ F x0 x1 x2 x3 x4 x5 x6 x7 x8 x9 x10 w
  | _, _, _ => False
theorem jq11 {α0 α1 α2 α3 α4 α5 α6 α7 α8 α9 α10 : Type} {A : α0 → α1 → α2 → α3 → α4 → α5 → α6 → α7 → α8 → α9 → α10 → World → Act} {F : α0 → α1 → α2 → α3 → α4 → α5 → α6 → α7 → α8 → α9 → α10 → World → Prop} {x0 : α0} {x1 : α1} {x2 : α2} {x3 : α3} {x4 : α4} {x5 : α5} {x6 : α6} {x7 : α7} {x8 : α8} {x9 : α9} {x10 : α10} {a : Act} {w : World} (h : a = A x0 x1 x2 x3 x4 x5 x6 x7 x8 x9 x10 w) (f : F x0 x1 x2 x3 x4 x5 x6 x7 x8 x9 x10 w) : JQ11 A F .normal a w := ⟨x0, x1, x2, x3, x4, x5, x6, x7, x8, x9, x10, h, f⟩
theorem join11 {α0 α1 α2 α3 α4 α5 α6 α7 α8 α9 α10 : Type} {P : Program} {c : Code} {Q : Exit → Act → World → Prop} {a : Act} {w : World} {A : α0 → α1 → α2 → α3 → α4 → α5 → α6 → α7 → α8 → α9 → α10 → World → Act} {F : α0 → α1 → α2 → α3 → α4 → α5 → α6 → α7 → α8 → α9 → α10 → World → Prop} (h : c.wp P (JQ11 A F) a w) (k : ∀ x0 x1 x2 x3 x4 x5 x6 x7 x8 x9 x10 wc, F x0 x1 x2 x3 x4 x5 x6 x7 x8 x9 x10 wc → Q .normal (A x0 x1 x2 x3 x4 x5 x6 x7 x8 x9 x10 wc) wc) : c.wp P Q a w := by
 refine Code.wp_mono (fun e a' w' q => ?_) h
 cases e with
 | normal =>
  obtain ⟨x0, x1, x2, x3, x4, x5, x6, x7, x8, x9, x10, rfl, f⟩ := q; exact k _ _ _ _ _ _ _ _ _ _ _ _ f
 | _ => exact q.elim
section
variable {P : Program} {ops : Array Oper} {Q : Exit → Act → World → Prop} {md : Region.Mode} {R : World → World → Prop}
theorem ord_three {i j l : Nat} {fuel : Nat} {listed : Array Bool} {a : Act} {w : World} (hr : Region.ready md ops listed = [i, j, l]) (h1 : ∀ oi K, ops[i]? = some oi → Shut (∀ a' w', R w w' → wpAnyR P md ops Q R fuel (listed.setIfInBounds i true) a' w' → K a' w') → Region.wanted oi (yielded ops a.tmps) = true ∧ oi.wp P a w K Q) (h2 : ∀ oi K, ops[j]? = some oi → Shut (∀ a' w', R w w' → wpAnyR P md ops Q R fuel (listed.setIfInBounds j true) a' w' → K a' w') → Region.wanted oi (yielded ops a.tmps) = true ∧ oi.wp P a w K Q) (h3 : ∀ oi K, ops[l]? = some oi → Shut (∀ a' w', R w w' → wpAnyR P md ops Q R fuel (listed.setIfInBounds l true) a' w' → K a' w') → Region.wanted oi (yielded ops a.tmps) = true ∧ oi.wp P a w K Q) : wpAnyR P md ops Q R (fuel + 1) listed a w := by
 refine ⟨fun h0 => (by rw [hr] at h0; cases h0), fun z hz => ?_⟩
 have step : ∀ z, z ∈ Region.ready md ops listed → (∀ oi K, ops[z]? = some oi → Shut (∀ a' w', R w w' → wpAnyR P md ops Q R fuel (listed.setIfInBounds z true) a' w' → K a' w') → Region.wanted oi (yielded ops a.tmps) = true ∧ oi.wp P a w K Q) →
     wpOp P ops Q z (fun a' w' => (waitsB md ops z = true ∧ Region.ready md ops (listed.setIfInBounds z true) = [] ∧ Q .normal a' w') ∨ (R w w' ∧ wpAnyR P md ops Q R fuel (listed.setIfInBounds z true) a' w')) a w := by
   intro z hm hh
   unfold wpOp
   cases hi : ops[z]? with
   | none =>
     obtain ⟨_, o, ho, _⟩ := mem_ready.1 hm
     rw [hi] at ho
     cases ho
   | some oi =>
     obtain ⟨hw, hwp⟩ := hh oi (fun a' w' => (waitsB md ops z = true ∧ Region.ready md ops (listed.setIfInBounds z true) = [] ∧ Q .normal a' w') ∨ (R w w' ∧ wpAnyR P md ops Q R fuel (listed.setIfInBounds z true) a' w')) hi (fun a' w' hl hk => .inr (And.intro hl hk))
     simp only [hw, if_true]
     exact .inl hwp
 rw [hr] at hz; rcases (by simpa using hz : z = i ∨ z = j ∨ z = l) with rfl | rfl | rfl
 · exact step z (by rw [hr]; simp) h1
 · exact step z (by rw [hr]; simp) h2
 · exact step z (by rw [hr]; simp) h3
end
end Go.Proofs.YtdfpeaenbmgihaaGreat
namespace Go.Proofs.YtdfpeaenbmgihaaGreat
open Go.RowKit
section
variable {P : Program} {ops : Array Oper} {Q : Exit → Act → World → Prop} {md : Region.Mode} {R : World → World → Prop}
theorem p_a {α : Type} (l : List α) (i : Nat) (x : α) : l.toArray.setIfInBounds i x = (l.set i x).toArray := List.setIfInBounds_toArray ..
theorem p_b {α : Type} (l : List α) (a b : α) : (a :: l).set 0 b = b :: l := List.set_cons_zero
theorem p_c {α : Type} (l : List α) (a b : α) (n : Nat) : (a :: l).set (n + 1) b = a :: l.set n b := List.set_cons_succ
theorem Blk.g {w : World} {b : Nat} {t : TypeId} {cs : Array Value} (h : Blk w b t cs) (i : Nat) {v : Value} (e : cs[i]? = some v := by (simp only [List.getElem?_toArray, List.getElem?_cons_succ, List.getElem?_cons_zero] <;> rfl)) : w.cell? ⟨b, i, none⟩ = some v := (h.cell i).trans e
theorem Blk.c2 {w : World} {b : Nat} {t : TypeId} {v0 v1 : Value} (h : Blk w b t #[v0, v1]) : w.cell? ⟨b, 0, none⟩ = some v0 ∧ w.cell? ⟨b, 1, none⟩ = some v1 := ⟨h.cell 0, h.cell 1⟩
theorem Blk.c3 {w : World} {b : Nat} {t : TypeId} {v0 v1 v2 : Value} (h : Blk w b t #[v0, v1, v2]) : w.cell? ⟨b, 0, none⟩ = some v0 ∧ w.cell? ⟨b, 1, none⟩ = some v1 ∧ w.cell? ⟨b, 2, none⟩ = some v2 := ⟨h.cell 0, h.cell 1, h.cell 2⟩
theorem Blk.c4 {w : World} {b : Nat} {t : TypeId} {v0 v1 v2 v3 : Value} (h : Blk w b t #[v0, v1, v2, v3]) : w.cell? ⟨b, 0, none⟩ = some v0 ∧ w.cell? ⟨b, 1, none⟩ = some v1 ∧ w.cell? ⟨b, 2, none⟩ = some v2 ∧ w.cell? ⟨b, 3, none⟩ = some v3 := ⟨h.cell 0, h.cell 1, h.cell 2, h.cell 3⟩
theorem Blk.c6 {w : World} {b : Nat} {t : TypeId} {v0 v1 v2 v3 v4 v5 : Value} (h : Blk w b t #[v0, v1, v2, v3, v4, v5]) : w.cell? ⟨b, 0, none⟩ = some v0 ∧ w.cell? ⟨b, 1, none⟩ = some v1 ∧ w.cell? ⟨b, 2, none⟩ = some v2 ∧ w.cell? ⟨b, 3, none⟩ = some v3 ∧ w.cell? ⟨b, 4, none⟩ = some v4 ∧ w.cell? ⟨b, 5, none⟩ = some v5 := ⟨h.cell 0, h.cell 1, h.cell 2, h.cell 3, h.cell 4, h.cell 5⟩
theorem Blk.c7 {w : World} {b : Nat} {t : TypeId} {v0 v1 v2 v3 v4 v5 v6 : Value} (h : Blk w b t #[v0, v1, v2, v3, v4, v5, v6]) : w.cell? ⟨b, 0, none⟩ = some v0 ∧ w.cell? ⟨b, 1, none⟩ = some v1 ∧ w.cell? ⟨b, 2, none⟩ = some v2 ∧ w.cell? ⟨b, 3, none⟩ = some v3 ∧ w.cell? ⟨b, 4, none⟩ = some v4 ∧ w.cell? ⟨b, 5, none⟩ = some v5 ∧ w.cell? ⟨b, 6, none⟩ = some v6 := ⟨h.cell 0, h.cell 1, h.cell 2, h.cell 3, h.cell 4, h.cell 5, h.cell 6⟩
theorem Blk.c10 {w : World} {b : Nat} {t : TypeId} {v0 v1 v2 v3 v4 v5 v6 v7 v8 v9 : Value} (h : Blk w b t #[v0, v1, v2, v3, v4, v5, v6, v7, v8, v9]) : w.cell? ⟨b, 0, none⟩ = some v0 ∧ w.cell? ⟨b, 1, none⟩ = some v1 ∧ w.cell? ⟨b, 2, none⟩ = some v2 ∧ w.cell? ⟨b, 3, none⟩ = some v3 ∧ w.cell? ⟨b, 4, none⟩ = some v4 ∧ w.cell? ⟨b, 5, none⟩ = some v5 ∧ w.cell? ⟨b, 6, none⟩ = some v6 ∧ w.cell? ⟨b, 7, none⟩ = some v7 ∧ w.cell? ⟨b, 8, none⟩ = some v8 ∧ w.cell? ⟨b, 9, none⟩ = some v9 := ⟨h.cell 0, h.cell 1, h.cell 2, h.cell 3, h.cell 4, h.cell 5, h.cell 6, h.cell 7, h.cell 8, h.cell 9⟩
theorem Blk.c13 {w : World} {b : Nat} {t : TypeId} {v0 v1 v2 v3 v4 v5 v6 v7 v8 v9 va vb vc : Value} (h : Blk w b t #[v0, v1, v2, v3, v4, v5, v6, v7, v8, v9, va, vb, vc]) : w.cell? ⟨b, 0, none⟩ = some v0 ∧ w.cell? ⟨b, 1, none⟩ = some v1 ∧ w.cell? ⟨b, 2, none⟩ = some v2 ∧ w.cell? ⟨b, 3, none⟩ = some v3 ∧ w.cell? ⟨b, 4, none⟩ = some v4 ∧ w.cell? ⟨b, 5, none⟩ = some v5 ∧ w.cell? ⟨b, 6, none⟩ = some v6 ∧ w.cell? ⟨b, 7, none⟩ = some v7 ∧ w.cell? ⟨b, 8, none⟩ = some v8 ∧ w.cell? ⟨b, 9, none⟩ = some v9 ∧ w.cell? ⟨b, 10, none⟩ = some va ∧ w.cell? ⟨b, 11, none⟩ = some vb ∧ w.cell? ⟨b, 12, none⟩ = some vc := ⟨h.cell 0, h.cell 1, h.cell 2, h.cell 3, h.cell 4, h.cell 5, h.cell 6, h.cell 7, h.cell 8, h.cell 9, h.cell 10, h.cell 11, h.cell 12⟩
structure WL (P : Program) (ops : Array Oper) (Q : Exit → Act → World → Prop) (l : List Oper) (a : Act) (w : World) : Prop where
  out : wpList P ops Q l a w
variable {a a' : Act} {w : World} {rest : List Oper} {o : Oper} {v : Value}
theorem w_i {l : List Oper} (h : WL P ops Q l a w) : wpList P ops Q l a w := h.out
theorem w_e (h : Q .normal a w) : WL P ops Q [] a w := ⟨wpList_nil h⟩
theorem w_t (h : (execOp a.eval o).run P w = .ok (.value v) w) (k : WL P ops Q rest a' w) (hg : Region.wanted o (yielded ops a.tmps) = true := by rfl)
    (ha : a.put o.dst v = a' := by (simp only [Act.put, p_a, p_b, p_c] <;> rfl)) : WL P ops Q (o :: rest) a w := by
  subst ha
  exact ⟨pl_take hg h k.out⟩
theorem w_q (k : WL P ops Q rest a' w) (hg : Region.wanted o (yielded ops a.tmps) = true := by rfl) (h : (execOp a.eval o).run P w = .ok (.value v) w := by (go_simp; all_goals rfl))
    (ha : a.put o.dst v = a' := by (simp only [Act.put, p_a, p_b, p_c] <;> rfl)) : WL P ops Q (o :: rest) a w := w_t h k hg ha
theorem w_n (k : WL P ops Q rest a' w) (hg : Region.wanted o (yielded ops a.tmps) = false := by rfl) (ha : a.put o.dst undef = a' := by (simp only [Act.put, p_a, p_b, p_c] <;> rfl)) : WL P ops Q (o :: rest) a w := by subst ha; exact ⟨pl_skip hg k.out⟩
theorem w_1 (h : ∀ K : Act → World → Prop, Shut (∀ a w, WL P ops Q rest a w → K a w) → o.wp P a w K Q) (hg : Region.wanted o (yielded ops a.tmps) = true := by rfl) : WL P ops Q (o :: rest) a w := ⟨pl_one hg fun K hK => h K (fun a w q => hK.out a w q.out)⟩
structure WR (P : Program) (md : Region.Mode) (ops : Array Oper) (Q : Exit → Act → World → Prop) (R : World → World → Prop) (fuel : Nat) (listed : Array Bool) (a : Act) (w : World) : Prop where
  out : wpAnyR P md ops Q R fuel listed a w
variable {fuel : Nat} {listed : Array Bool}
theorem r_i (R : World → World → Prop) {id : Nat} (h : WR P .any ops Q R ops.size (Array.replicate ops.size false) a w.drew) (hm : P.follows .mixedOrders = true := by kernel_rfl) : (Code.region id ops true).wp P Q a w := wp_region_ord R hm h.out
def frB (md : Region.Mode) (ops : Array Oper) (listed : Array Bool) (i : Nat) : Bool := Region.noSelect ops && Region.free md ops listed i && (Region.ready md ops listed).contains i && ((ops[i]?).bind (·.dst)).isSome
theorem r_t (i : Nat) (h : ∀ w', R w w' → (execOp a.eval o).run P w' = .ok (.value v) w') (k : WR P md ops Q R fuel (listed.setIfInBounds i true) a' w)
    (hc : frB md ops listed i = true := by kernel_rfl) (ho : ops[i]? = some o := by (simp only [List.getElem?_toArray, List.getElem?_cons_succ, List.getElem?_cons_zero] <;> rfl))
    (hg : Region.wanted o (yielded ops a.tmps) = true := by rfl) (hP : Pre R := by (first | exact laterPre | exact belowPre _ | exact keepLPre _ | exact keepCPre _))
    (hQ : ∀ c a w, Q (.panic c) (a.put o.dst v) w → Q (.panic c) a w := by exact fun _ _ _ h => h) (ha : a.put o.dst v = a' := by (simp only [Act.put, p_a, p_b, p_c] <;> rfl)) : WR P md ops Q R (fuel + 1) listed a w := by
  subst ha
  unfold frB at hc
  simp only [Bool.and_eq_true] at hc
  obtain ⟨⟨⟨h1, h2⟩, h3⟩, h4⟩ := hc
  cases hd : o.dst with
  | none => rw [ho] at h4; simp [hd] at h4
  | some d =>
    rw [hd] at hQ k
    exact ⟨ord_take hP h1 h2 h3 (by rw [ho]; exact hd) hQ (fun oi q => by rw [ho] at q; cases q; exact ⟨hg, h⟩) k.out⟩
theorem r_q (i : Nat) (k : WR P md ops Q R fuel (listed.setIfInBounds i true) a' w)
    (hc : frB md ops listed i = true := by kernel_rfl) (ho : ops[i]? = some o := by (simp only [List.getElem?_toArray, List.getElem?_cons_succ, List.getElem?_cons_zero] <;> rfl))
    (hg : Region.wanted o (yielded ops a.tmps) = true := by rfl) (h : ∀ w', R w w' → (execOp a.eval o).run P w' = .ok (.value v) w' := by (intro w' hw'; go_simp; all_goals rfl))
    (hP : Pre R := by (first | exact laterPre | exact belowPre _ | exact keepLPre _ | exact keepCPre _))
    (hQ : ∀ c a w, Q (.panic c) (a.put o.dst v) w → Q (.panic c) a w := by exact fun _ _ _ h => h) (ha : a.put o.dst v = a' := by (simp only [Act.put, p_a, p_b, p_c] <;> rfl)) : WR P md ops Q R (fuel + 1) listed a w :=
  r_t i h k hc ho hg hP hQ ha
theorem r_n (i : Nat) (k : WR P md ops Q R fuel (listed.setIfInBounds i true) a' w)
    (hc : frB md ops listed i = true := by kernel_rfl) (ho : ops[i]? = some o := by (simp only [List.getElem?_toArray, List.getElem?_cons_succ, List.getElem?_cons_zero] <;> rfl))
    (hg : Region.wanted o (yielded ops a.tmps) = false := by rfl) (hP : Pre R := by (first | exact laterPre | exact belowPre _ | exact keepLPre _ | exact keepCPre _))
    (hQ : ∀ c a w, Q (.panic c) (a.put o.dst undef) w → Q (.panic c) a w := by exact fun _ _ _ h => h) (ha : a.put o.dst undef = a' := by (simp only [Act.put, p_a, p_b, p_c] <;> rfl)) : WR P md ops Q R (fuel + 1) listed a w := by
  subst ha
  unfold frB at hc
  simp only [Bool.and_eq_true] at hc
  obtain ⟨⟨⟨h1, h2⟩, h3⟩, h4⟩ := hc
  cases hd : o.dst with
  | none => rw [ho] at h4; simp [hd] at h4
  | some d =>
    rw [hd] at hQ k
    exact ⟨ord_skip hP h1 h2 h3 (by rw [ho]; exact hd) hQ (by rw [ho]; simp [hg]) k.out⟩
theorem r_1 (i : Nat) (h : ∀ K, Shut (∀ a' w', R w w' → WR P md ops Q R fuel (listed.setIfInBounds i true) a' w' → K a' w') → o.wp P a w K Q) (hr : Region.ready md ops listed = [i] := by kernel_rfl)
    (ho : ops[i]? = some o := by (simp only [List.getElem?_toArray, List.getElem?_cons_succ, List.getElem?_cons_zero] <;> rfl)) (hg : Region.wanted o (yielded ops a.tmps) = true := by rfl) : WR P md ops Q R (fuel + 1) listed a w :=
  ⟨ord_one hr fun oi K q hK => by rw [ho] at q; cases q; exact ⟨hg, h K (fun a w r z => hK.out a w r z.out)⟩⟩
theorem r_l (i : Nat) (h : ∀ K, Shut (∀ a' w', Q .normal a' w' → K a' w') → o.wp P a w K Q) (hr : Region.ready md ops listed = [i] := by kernel_rfl) (hwt : waitsB md ops i = true := by kernel_rfl) (he : Region.ready md ops (listed.setIfInBounds i true) = [] := by kernel_rfl)
    (ho : ops[i]? = some o := by (simp only [List.getElem?_toArray, List.getElem?_cons_succ, List.getElem?_cons_zero] <;> rfl)) (hg : Region.wanted o (yielded ops a.tmps) = true := by rfl) : WR P md ops Q R (fuel + 1) listed a w :=
  ⟨ord_last hr hwt he fun oi K q hK => by rw [ho] at q; cases q; exact ⟨hg, h K hK⟩⟩
theorem r_2 {o2 : Oper} (i j : Nat) (h : ∀ K, Shut (∀ a' w', R w w' → WR P md ops Q R fuel (listed.setIfInBounds i true) a' w' → K a' w') → o.wp P a w K Q) (h2 : ∀ K, Shut (∀ a' w', R w w' → WR P md ops Q R fuel (listed.setIfInBounds j true) a' w' → K a' w') → o2.wp P a w K Q)
    (hr : Region.ready md ops listed = [i, j] := by kernel_rfl) (ho : ops[i]? = some o := by (simp only [List.getElem?_toArray, List.getElem?_cons_succ, List.getElem?_cons_zero] <;> rfl)) (hg : Region.wanted o (yielded ops a.tmps) = true := by rfl)
    (ho2 : ops[j]? = some o2 := by (simp only [List.getElem?_toArray, List.getElem?_cons_succ, List.getElem?_cons_zero] <;> rfl)) (hg2 : Region.wanted o2 (yielded ops a.tmps) = true := by rfl) : WR P md ops Q R (fuel + 1) listed a w :=
  ⟨ord_two hr (fun oi K q hK => by rw [ho] at q; cases q; exact ⟨hg, h K (fun a w r z => hK.out a w r z.out)⟩) (fun oi K q hK => by rw [ho2] at q; cases q; exact ⟨hg2, h2 K (fun a w r z => hK.out a w r z.out)⟩)⟩
theorem r_3 {o2 o3 : Oper} (i j l : Nat) (h : ∀ K, Shut (∀ a' w', R w w' → WR P md ops Q R fuel (listed.setIfInBounds i true) a' w' → K a' w') → o.wp P a w K Q) (h2 : ∀ K, Shut (∀ a' w', R w w' → WR P md ops Q R fuel (listed.setIfInBounds j true) a' w' → K a' w') → o2.wp P a w K Q)
    (h3 : ∀ K, Shut (∀ a' w', R w w' → WR P md ops Q R fuel (listed.setIfInBounds l true) a' w' → K a' w') → o3.wp P a w K Q)
    (hr : Region.ready md ops listed = [i, j, l] := by kernel_rfl) (ho : ops[i]? = some o := by (simp only [List.getElem?_toArray, List.getElem?_cons_succ, List.getElem?_cons_zero] <;> rfl)) (hg : Region.wanted o (yielded ops a.tmps) = true := by rfl)
    (ho2 : ops[j]? = some o2 := by (simp only [List.getElem?_toArray, List.getElem?_cons_succ, List.getElem?_cons_zero] <;> rfl)) (hg2 : Region.wanted o2 (yielded ops a.tmps) = true := by rfl)
    (ho3 : ops[l]? = some o3 := by (simp only [List.getElem?_toArray, List.getElem?_cons_succ, List.getElem?_cons_zero] <;> rfl)) (hg3 : Region.wanted o3 (yielded ops a.tmps) = true := by rfl) : WR P md ops Q R (fuel + 1) listed a w :=
  ⟨ord_three hr (fun oi K q hK => by rw [ho] at q; cases q; exact ⟨hg, h K (fun a w r z => hK.out a w r z.out)⟩) (fun oi K q hK => by rw [ho2] at q; cases q; exact ⟨hg2, h2 K (fun a w r z => hK.out a w r z.out)⟩) (fun oi K q hK => by rw [ho3] at q; cases q; exact ⟨hg3, h3 K (fun a w r z => hK.out a w r z.out)⟩)⟩
theorem r_e (h : Q .normal a w) (hr : Region.ready md ops listed = [] := by kernel_rfl) : WR P md ops Q R fuel listed a w := ⟨later_done hr h _⟩
end
end Go.Proofs.YtdfpeaenbmgihaaGreat
