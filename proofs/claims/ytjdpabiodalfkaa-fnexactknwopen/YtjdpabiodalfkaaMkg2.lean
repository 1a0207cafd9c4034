/-
  How the program reads a secret's name: the contract.
-/
import Derived.Test.YtjdpabiodalfkaaMkg
namespace Go.Proofs.Ytjdpabiodalfkaa
open Go.RowKit

theorem not_empty {x : ByteArray} (h : x.size ≠ 0) : x.toList.isEmpty = false := by
  cases q : x.toList with
  | cons _ _ => rfl
  | nil =>
    exfalso
    apply h
    have := congrArg List.length q
    simpa [ByteArray.toList_eq] using this

/-- Texts and what follows each, cell by cell. -/
def pairs : List ByteArray → List Value → List Value
  | p :: ps, f :: fs => .string p :: f :: pairs ps fs
  | _, _ => []
theorem pairs_snoc : ∀ (ps : List ByteArray) (fs : List Value) (p : ByteArray) (f : Value), fs.length = ps.length → pairs (ps ++ [p]) (fs ++ [f]) = pairs ps fs ++ [.string p, f]
  | [], [], p, f, _ => rfl
  | [], _ :: _, _, _, h => by simp at h
  | _ :: _, [], _, _, h => by simp at h
  | q :: ps, g :: fs, p, f, h => by
    have := pairs_snoc ps fs p f (by simpa using h)
    simp only [List.cons_append, pairs, this]

/-- A slice holds the makings of these names, read so far. -/
def MP (lo hi : Nat) (w : World) (v : Value) (ps : List ByteArray) : Prop :=
  ∃ fs : List Value, fs.length = ps.length ∧ w.ownsRow lo 70 2 v ps.length (pairs ps fs) ∧ (∀ g, v.ownBlock = some g → g < hi) ∧
    ∀ i, i < ps.length → ∃ a b, lo ≤ a ∧ b ≤ hi ∧ MT a b w (fs.getD i undef) (ps.getD i ByteArray.empty) ∧ ∀ g, v.ownBlock = some g → g < a ∨ b ≤ g

theorem MP.nil (lo hi : Nat) (w : World) : MP lo hi w (.slice none 0 0) [] := ⟨[], rfl, World.ownsRow_nil _ _ _ _, (fun g h => by cases h), fun i h => absurd h (Nat.not_lt_zero _)⟩
theorem MP.lt {lo hi : Nat} {w : World} {v : Value} {ps : List ByteArray} (h : MP lo hi w v ps) {g : Nat} (hg : v.ownBlock = some g) : g < w.heap.size := by
  obtain ⟨fs, h1, h2, _⟩ := h
  exact (h2.lt g hg).2
theorem MP.wide {lo hi hi' : Nat} {w : World} {v : Value} {ps : List ByteArray} (h : MP lo hi w v ps) (hh : hi ≤ hi') : MP lo hi' w v ps := by
  obtain ⟨fs, h1, h2, h3, h4⟩ := h
  refine ⟨fs, h1, h2, fun g hg => Nat.lt_of_lt_of_le (h3 g hg) hh, fun i hi => ?_⟩
  obtain ⟨a, b, q1, q2, q3⟩ := h4 i hi
  exact ⟨a, b, q1, by omega, q3⟩
theorem MP.below {lo hi : Nat} {w w' : World} {v : Value} {ps : List ByteArray} (h : MP lo hi w v ps) (hb : Below w.heap.size w w') (hh : hi ≤ w.heap.size) : MP lo hi w' v ps := by
  obtain ⟨fs, h1, h2, h3, h4⟩ := h
  refine ⟨fs, h1, own_below' h2 hb, h3, fun i hi => ?_⟩
  obtain ⟨a, b, q1, q2, q3, q4⟩ := h4 i hi
  exact ⟨a, b, q1, q2, q3.stay hb (by omega), q4⟩
theorem MP.row {lo hi : Nat} {w : World} {v : Value} {ps : List ByteArray} (h : MP lo hi w v ps) : ∃ xs, w.ownsRow lo 70 2 v ps.length xs ∧ xs.length = ps.length * 2 := by
  obtain ⟨fs, h1, h2, _⟩ := h
  exact ⟨_, h2, h2.1⟩

theorem MP.mt {lo hi : Nat} {w : World} {v : Value} {s : ByteArray} {ps : List ByteArray} (h : MP lo hi w v ps)
    (hp : (mOp s = 1 ∧ ps = []) ∨ (mOp s ≠ 1 ∧ mOp s ≠ 4 ∧ ps = [mA s]) ∨ (mOp s = 4 ∧ ps = [mA s, mB s])) : MT lo hi w v s := by
  obtain ⟨fs, h1, h2, h3, h4⟩ := h
  rcases hp with ⟨q1, rfl⟩ | ⟨q1, q2, rfl⟩ | ⟨q1, rfl⟩
  · match fs, h1 with
    | [], _ => exact .none q1 h2 h3
  · match fs, h1 with
    | [f], _ =>
      obtain ⟨a, b, r1, r2, r3, _⟩ := h4 0 (by simp)
      exact .one q1 q2 h2 h3 (r3.wide r1 r2)
  · match fs, h1 with
    | [f, g], _ =>
      obtain ⟨a, b, r1, r2, r3, _⟩ := h4 0 (by simp)
      obtain ⟨a', b', r1', r2', r3', _⟩ := h4 1 (by simp)
      exact .two q1 h2 h3 (r3.wide r1 r2) (r3'.wide r1' r2')
/-- What reading a name leaves. -/
def Made (s : ByteArray) (w : World) (e : Ending) (w' : World) : Prop := ∃ f, e = .returned (.agg #[.string s, f]) ∧ MT w.heap.size w'.heap.size w' f s ∧ Below w.heap.size w w'


/-- One part more. -/
theorem MP.grow {lo : Nat} {w1 w : World} {v x : Value} {ps : List ByteArray} {fs : List Value} {p : ByteArray} (hlo : lo ≤ w1.heap.size) (hfl : fs.length = ps.length)
    (hold : (∀ i, i < ps.length → ∃ a b, lo ≤ a ∧ b ≤ w1.heap.size ∧ MT a b w1 (fs.getD i undef) (ps.getD i ByteArray.empty) ∧ ∀ g, v.ownBlock = some g → g < a ∨ b ≤ g))
    (hv : ∀ g, v.ownBlock = some g → g < w1.heap.size) (hg : w1.grownBy w v.ownBlock)
    (ht : ∃ f hi, w.ownsRow lo 70 2 x (ps.length + 1) (pairs ps fs ++ [.string p, f]) ∧ MT w1.heap.size hi w f p ∧ hi ≤ w.heap.size ∧ w1.heap.size ≤ hi ∧ ∀ g, x.ownBlock = some g → v.ownBlock = some g ∨ hi ≤ g) :
    MP lo w.heap.size w x (ps ++ [p]) := by
  obtain ⟨f, hi, t1, t2, t3, t4, t5⟩ := ht
  refine ⟨fs ++ [f], by simp [hfl], ?_, fun g hg => (t1.lt g hg).2, fun i hi' => ?_⟩
  · rw [pairs_snoc _ _ _ _ hfl, List.length_append]; exact t1
  · by_cases hin : i < ps.length
    · obtain ⟨a, b, q1, q2, q3, q4⟩ := hold i hin
      have e1 : (fs ++ [f]).getD i undef = fs.getD i undef := by simp [List.getD_eq_getElem?_getD, List.getElem?_append_left (show i < fs.length by omega)]
      have e2 : (ps ++ [p]).getD i ByteArray.empty = ps.getD i ByteArray.empty := by simp [List.getD_eq_getElem?_getD, List.getElem?_append_left hin]
      rw [e1, e2]
      refine ⟨a, b, q1, by have := hg.size; omega, q3.grown hg q4 q2, fun g hg' => ?_⟩
      rcases t5 g hg' with h | h
      · exact q4 g h
      · right; omega
    · have hin' : i = ps.length := by simp at hi'; omega
      subst hin'
      have e1 : (fs ++ [f]).getD ps.length undef = f := by simp [List.getD_eq_getElem?_getD, ← hfl]
      have e2 : (ps ++ [p]).getD ps.length ByteArray.empty = p := by simp [List.getD_eq_getElem?_getD]
      rw [e1, e2]
      refine ⟨w1.heap.size, hi, hlo, t3, t2, fun g hg' => ?_⟩
      rcases t5 g hg' with h | h
      · left; exact hv g h
      · right; exact h

/-- The parts of a name that were read, of the first k. -/
def got (s : ByteArray) : Nat → List ByteArray
  | 0 => []
  | 1 => if mOp s = 1 then [] else [mA s]
  | _ => if mOp s = 1 then [] else if mOp s = 4 then [mA s, mB s] else [mA s]
/-- The k-th part. -/
def nth (s : ByteArray) (k : Nat) : ByteArray := if k = 0 then mA s else mB s

theorem got_step {s : ByteArray} (hk : Kw.ok s = true) {k : Nat} (h : k < 2) : (nth s k = ⟨#[]⟩ ∧ got s (k + 1) = got s k) ∨ ((nth s k).size ≠ 0 ∧ (nth s k).size < s.size ∧ Kw.ok (nth s k) = true ∧ got s (k + 1) = got s k ++ [nth s k]) := by
  match k, h with
  | 0, _ =>
    unfold got nth
    simp only [if_true]
    rcases parts_kn hk with ⟨h1, h2, h3⟩ | ⟨h1, h2, h3, h4, h5⟩ | ⟨h1, h2, h3, h4, h5⟩
    · left; rw [h2, if_pos h1]; exact ⟨rfl, rfl⟩
    · right; rw [if_neg h1]; exact ⟨(ok_facts h3).2.1, h4, h3, rfl⟩
    · right; rw [if_neg (by omega)]; exact ⟨(ok_facts h2).2.1, by omega, h2, rfl⟩
  | 1, _ =>
    unfold got nth
    simp only [if_neg (show ¬ (1 : Nat) = 0 by omega)]
    rcases parts_kn hk with ⟨h1, h2, h3⟩ | ⟨h1, h2, h3, h4, h5⟩ | ⟨h1, h2, h3, h4, h5⟩
    · left; rw [h3, if_pos h1, if_pos h1]; exact ⟨rfl, rfl⟩
    · left; rw [h5, if_neg h1, if_neg h1, if_neg h2]; exact ⟨rfl, rfl⟩
    · right; refine ⟨h5, by have := (ok_facts h2).2.1; omega, h3, ?_⟩; simp [h1]
theorem got_end {s : ByteArray} : (mOp s = 1 ∧ got s 2 = []) ∨ (mOp s ≠ 1 ∧ mOp s ≠ 4 ∧ got s 2 = [mA s]) ∨ (mOp s = 4 ∧ got s 2 = [mA s, mB s]) := by
  unfold got
  by_cases h1 : mOp s = 1
  · left; simp [h1]
  · by_cases h4 : mOp s = 4
    · right; right; simp [h4]
    · right; left; simp [h1, h4]
theorem got_len (s : ByteArray) (k : Nat) : (got s k).length ≤ 2 := by
  unfold got
  split
  · simp
  · split <;> simp
  · split
    · simp
    · split <;> simp

/-- Ahead of the append, and behind it. -/
def JMk (wr : World) (v : Value) (b : Bool) (u : World) : Prop := (b = true → wr.grownBy u v.ownBlock) ∧ (b = false → Below wr.heap.size wr u)
theorem JMk.grown {wr u : World} {v : Value} {b : Bool} (h : JMk wr v b u) : wr.grownBy u v.ownBlock := by
  cases b with
  | true => exact h.1 rfl
  | false =>
    have hJ := h.2 rfl
    exact ⟨hJ.os, hJ.tape, hJ.output, hJ.size, fun k hk _ => hJ.block k hk⟩
theorem grown_below {wr u u' : World} {r : Option Nat} (h : wr.grownBy u r) (hb : Below u.heap.size u u') : wr.grownBy u' r :=
  ⟨hb.os.trans h.os, hb.tape.trans h.tape, hb.output.trans h.output, Nat.le_trans h.size hb.size, fun k hk hr => (hb.block k (Nat.lt_of_lt_of_le hk h.size)).trans (h.block k hk hr)⟩
theorem JMk.below {wr u u' : World} {v : Value} {b : Bool} (h : JMk wr v b u) (hb : Below u.heap.size u u') : JMk wr v b u' :=
  ⟨fun e => grown_below (h.1 e) hb, fun e => (h.2 e).trans (hb.mono (h.2 e).size)⟩
theorem JMk.app {wr u u' : World} {v : Value} (h : JMk wr v false u) (hg : u.grownBy u' v.ownBlock) : JMk wr v true u' :=
  ⟨fun _ => h.grown.trans hg, fun e => by cases e⟩

theorem two_new (w : World) (o1 o2 : Obj) : ((w.alloc o1).alloc o2).heap[w.heap.size + 1]? = some o2 ∧ ((w.alloc o1).alloc o2).heap[w.heap.size]? = some o1 := by
  have e : ∀ (u : World) (o : Obj), (u.alloc o).heap[u.heap.size]? = some o := fun u o => heap_alloc_new u o
  constructor
  · have := e (w.alloc o1) o2
    rwa [show (w.alloc o1).heap.size = w.heap.size + 1 by simp] at this
  · rw [heap_alloc_old' _ _ (by simp)]; exact e w o1

set_option maxRecDepth 100000 in
set_option maxHeartbeats 4000000 in
theorem makingOf_any : ∀ (n : Nat) (s : ByteArray), s.size ≤ n → Kw.ok s = true → ∀ (w : World), Calls Try.prog 50 #[.string s] w (Made s w) := by
  intro n
  induction n with
  | zero =>
    intro s hs hk
    have := (ok_facts hk).2.1
    omega
  | succ n ih =>
    intro s hs hk w
    have HK := hide hk
    have IH := hide ih
    have HS := hide hs
    have M : Hid (s.size ≤ maxLen) := by
      have := (ok_facts hk).1
      show s.size ≤ maxLen
      unfold maxLen; omega
    obtain ⟨i0, hi, hz0, hz1, hz2⟩ := info_parts info_mk
    have hI := hide (And.intro hi (And.intro hz0 (And.intro hz1 hz2)))
    clear hk ih hs hi hz0 hz1 hz2
    go_enter Try.func50, Try.ntmps50
    go_wp2_with fail
    refine (iSecMade_any s _ M.out).mono ?_
    rintro e w1 ⟨rfl, hb1⟩
    rw [how_cells8]
    have h0 : Hid (w1.heap[w.heap.size + 1]? = some (.cells #[.string s, .slice none 0 0] 70 (0, 0)) ∧ w1.heap[w.heap.size]? = some (.cells #[.string ⟨#[]⟩, .slice none 0 0] 70 (0, 0)) ∧ Below w.heap.size w w1 ∧ w.heap.size + 2 ≤ w1.heap.size) := by
      refine ⟨?_, ?_, ?_, ?_⟩
      · rw [hb1.block _ (by simp)]; exact (two_new _ _ _).1
      · rw [hb1.block _ (by simp; omega)]; exact (two_new _ _ _).2
      · exact (((Below.refl w.heap.size w).alloc (Nat.le_refl _) _).alloc (by simp) _).trans (hb1.mono (by simp; omega))
      · have := hb1.size; simp at this; omega
    clear hb1
    go_wp2_with fail
    go_loopw [16] (fun i wr => ∃ (k : Nat) (v : Value), k ≤ 2 ∧ i = .int .i64 (k : Int) ∧ Hid (wr.heap[w.heap.size + 1]? = some (.cells #[.string s, v] 70 (0, 0)) ∧ wr.heap[w.heap.size]? = some (.cells #[.string ⟨#[]⟩, .slice none 0 0] 70 (0, 0)) ∧ MP (w.heap.size + 2) wr.heap.size wr v (got s k) ∧ Below w.heap.size w wr ∧ w.heap.size + 2 ≤ wr.heap.size)) (fun i _ => 2 - (intOf i).toNat)
    case atStart =>
      refine ⟨0, .slice none 0 0, by omega, rfl, ?_⟩
      show _ ∧ _
      obtain ⟨q1, q2, q3, q4⟩ := h0.out
      refine ⟨by rw [heap_alloc_old' _ _ (by omega)]; exact q1, by rw [heap_alloc_old' _ _ (by omega)]; exact q2, MP.nil _ _ _, q3.alloc (by omega) _, by simp; omega⟩
    case round =>
      clear h0
      obtain ⟨k, v, hk2, rfl, H⟩ := hrel
      by_cases hlt : k < 2
      · have hlt2 : (k : Int) < 2 := by omega
        have hix : ∀ u, (Instr.index 106 (.agg #[.string (mA s), .string (mB s)]) (.int .i64 (k : Int))).run Try.prog u = .ok (.string (nth s k)) u := by
          intro u
          have h01 : k = 0 ∨ k = 1 := by omega
          rcases h01 with e | e
          · rw [e]; rfl
          · rw [e]; rfl
        have hlen := hide (got_len s k)
        rcases got_step HK.out hlt with ⟨e1, e2⟩ | ⟨e1, e2, e3, e4⟩
        · rw [e1] at hix
          rw [← e2] at H
          clear e1 e2
          go_wp2_with fail
          all_goals exact ⟨⟨k + 1, v, by omega, by simp, H⟩, by simp [intOf]; omega⟩
        · have hne := not_empty e1
          have E := hide (And.intro e2 (And.intro e3 e4))
          clear e1 e2 e3 e4
          generalize nth s k = p at hix hne E
          go_wp2_with fail
          clear hix hne
          obtain ⟨hm, hr, ⟨fs, hfl, hrow, hvlt, hold⟩, hbw, hsz⟩ := H.out
          refine wp_region_end (by kernel_rfl) (TMk wr (w.heap.size + 1) v (got s k).length (w.heap.size + 2) (pairs (got s k) fs) p) (JMk wr v) 30 5 (by kernel_rfl) (by kernel_rfl) (by kernel_rfl) (by decide) (by kernel_rfl) rfl (by decide) ?_ ?hops ?hlast
          · exact ⟨(fun e => by cases e), fun _ => ⟨rfl, rfl, rfl, Nat.le_refl _, fun _ _ => rfl⟩⟩
          case hops =>
            intro i o a w2 b hi ho hKB hJ hp hdep
            have hg2 := hJ.grown
            have hs2 := hg2.size
            have hi7 : i < 7 := hi
            have k3 : a.tmps.getD 3 undef = .pointer (some ⟨w.heap.size + 1, 0, none⟩) := hKB.2.2 3 (by kernel_rfl)
            have k6 : a.tmps.getD 6 undef = .string p := hKB.2.2 6 (by kernel_rfl)
            have hJJ := hide hJ
            clear hi hKB hJ
            match i, ho with
            | 0, ho =>
              simp at ho
              subst ho
              clear hdep
              go_simp
              exact ⟨_, rfl, rfl, unhide hJJ⟩
            | 1, ho =>
              simp at ho
              subst ho
              have t21 : a.tmps.getD 21 undef = .pointer (some ⟨w.heap.size + 1, 1, none⟩) := hdep { on := 0, ground := .data } (by simp) rfl _ 21 rfl rfl
              have c1 : w2.cell? ⟨w.heap.size + 1, 1, none⟩ = some v := by
                rw [World.cell?_of_block (hg2.block (w.heap.size + 1) (by omega) (fun e => by have := (hrow.lt _ e.symm).1; omega)), cell_of_row _ _ _ _ _ _ hm]; rfl
              clear hdep
              go_simp
              exact ⟨_, rfl, rfl, unhide hJJ⟩
            | 2, ho =>
              simp at ho
              subst ho
              clear hdep
              go_simp
              exact ⟨_, rfl, rfl, unhide hJJ⟩
            | 3, ho =>
              simp at ho
              subst ho
              have t23 : a.tmps.getD 23 undef = .string p := hdep { on := 2, ground := .data } (by simp) rfl _ 23 rfl rfl
              clear hdep
              go_simp
              refine (IH.out p (by have := HS.out; have := E.out.1; omega) E.out.2.1 _).mono ?_
              rintro e w3 ⟨f, rfl, hf, hb3⟩
              have hs3 := hb3.size
              go_simp
              exact ⟨_, rfl, ⟨f, w3.heap.size, rfl, hf.wide hs2 (Nat.le_refl _), Nat.le_refl _, by omega⟩, fun d x _ h => h.below hb3, (unhide hJJ).below hb3⟩
            | 4, ho =>
              simp at ho
              subst ho
              obtain ⟨f, hi, t24, q1, q2, q3⟩ : TMk wr (w.heap.size + 1) v (got s k).length (w.heap.size + 2) (pairs (got s k) fs) p 24 (a.tmps.getD 24 undef) w2 := hdep { on := 3, ground := .data } (by simp) rfl _ 24 rfl rfl
              obtain ⟨fo, fn, fc, hfv⟩ := q1.form
              subst hfv
              clear hdep
              have t24' : a.tmps[24]?.getD undef = .agg #[.string p, .slice fo fn fc] := by rw [← t24]; simp
              clear t24
              go_simp
              have hba : Below w2.heap.size w2 (w2.alloc (.cells #[.string p, .slice fo fn fc] 70)) := (Below.refl _ _).alloc (Nat.le_refl _) _
              refine ⟨_, rfl, ⟨_, hi, w2.heap.size, rfl, heap_alloc_new _ _, hs2, q1.stay hba q2, by simp; omega, q3⟩, fun d x _ h => h.below hba, (unhide hJJ).below hba⟩
            | 5, ho =>
              simp at ho
              subst ho
              have hbf := hp rfl
              subst hbf
              have t22 : a.tmps.getD 22 undef = v := hdep { on := 1, ground := .data } (by simp) rfl _ 22 rfl rfl
              obtain ⟨f, hi, g, t25, q0, q4, q1, q2, q3⟩ : TMk wr (w.heap.size + 1) v (got s k).length (w.heap.size + 2) (pairs (got s k) fs) p 25 (a.tmps.getD 25 undef) w2 := hdep { on := 4, ground := .data } (by simp) rfl _ 25 rfl rfl
              clear hdep
              have hbl := (unhide hJJ).2 rfl
              have hl := hlen.out
              obtain ⟨x, w3, r0, r1, r2, _, r3⟩ := run_append_own_at (P := Try.prog) w2 (w.heap.size + 2) 68 68 70 i0 _ 2 40 underMk (unhide hI).1 (unhide hI).2.1 (unhide hI).2.2.1 (unhide hI).2.2.2 rfl (by decide) v _ _ (own_below' hrow hbl) ⟨g, 0, none⟩ 1 1 [.string p, f] rfl (by
                intro j u hj
                rw [Addr.add_lit, Nat.zero_add, cell_of_row _ _ _ _ _ _ q0]
                simpa using hj) (by
                obtain ⟨fo, fn, fc, hfv⟩ := q1.form
                subst hfv
                intro u hu
                simp at hu
                rcases hu with rfl | rfl <;> rfl) (by unfold maxLen; omega) (by omega) (by omega)
              have e22 : a.eval (.tmp 22) = v := t22
              have e25 : a.eval (.tmp 25) = .slice (some ⟨g, 0, none⟩) 1 1 := t25
              unfold Oper.wp execOp
              simp only [resolve, invoke, builtin, Sem.run_bind, Sem.run_pure, Result.andThen_ok, List.map_toArray, List.map_cons, List.map_nil, e22, e25, r0]
              have hs3 := r2.size
              refine ⟨_, rfl, fun d hd => ?_, fun d y hd h => h.grown (fun e => hd (by rw [e])) r2 (fun k hk => (hrow.lt k hk).2), (unhide hJJ).app r2⟩
              cases hd
              refine ⟨f, hi, r1, q1.grown r2 (fun k hk => .inl (hrow.lt k hk).2) q2, by omega, q3, fun g' hg' => ?_⟩
              rcases r3 with r3 | r3
              · left; rw [← r3]; exact hg'
              · right; rw [r3] at hg'; cases hg'; exact q2
            | 6, ho =>
              simp at ho
              subst ho
              clear hdep
              go_simp
              exact ⟨_, rfl, rfl, unhide hJJ⟩
            | n + 7, ho => omega
          case hlast =>
            intro o a w2 ho hKB hJ hall
            have hg2 := hJ.grown
            have hs2 := hg2.size
            have t26 : TMk wr (w.heap.size + 1) v (got s k).length (w.heap.size + 2) (pairs (got s k) fs) p 26 (a.tmps.getD 26 undef) w2 := hall 5 _ 26 (by decide) rfl rfl
            have t27 : a.tmps.getD 27 undef = .pointer (some ⟨w.heap.size + 1, 1, none⟩) := hall 6 _ 27 (by decide) rfl rfl
            clear hall hJ
            obtain ⟨h30, hdf, hkk⟩ := hKB
            have e0 : a.tmps.getD 0 undef = .string s := hkk 0 (by kernel_rfl)
            have e1 : a.tmps.getD 1 undef = undef := hkk 1 (by kernel_rfl)
            have e2 : a.tmps.getD 2 undef = .pointer (some ⟨w.heap.size, 0, none⟩) := hkk 2 (by kernel_rfl)
            have e3 : a.tmps.getD 3 undef = .pointer (some ⟨w.heap.size + 1, 0, none⟩) := hkk 3 (by kernel_rfl)
            have e4 : a.tmps.getD 4 undef = .pointer (some ⟨w1.heap.size, 0, none⟩) := hkk 4 (by kernel_rfl)
            have e5 : a.tmps.getD 5 undef = undef := hkk 5 (by kernel_rfl)
            have e7 : a.tmps.getD 7 undef = .string s := hkk 7 (by kernel_rfl)
            have e8 : a.tmps.getD 8 undef = .agg #[.string s, .slice none 0 0] := hkk 8 (by kernel_rfl)
            have e9 : a.tmps.getD 9 undef = .string s := hkk 9 (by kernel_rfl)
            have e10 : a.tmps.getD 10 undef = .agg #[.int .i64 (mOp s), .int .i64 (mWho s), .int .i64 (mN s), .string (mA s), .string (mB s)] := hkk 10 (by kernel_rfl)
            have e11 : a.tmps.getD 11 undef = .pointer (some ⟨w1.heap.size, 3, none⟩) := hkk 11 (by kernel_rfl)
            have e12 : a.tmps.getD 12 undef = .string (mA s) := hkk 12 (by kernel_rfl)
            have e13 : a.tmps.getD 13 undef = .pointer (some ⟨w1.heap.size, 4, none⟩) := hkk 13 (by kernel_rfl)
            have e14 : a.tmps.getD 14 undef = .string (mB s) := hkk 14 (by kernel_rfl)
            have e15 : a.tmps.getD 15 undef = .agg #[.string (mA s), .string (mB s)] := hkk 15 (by kernel_rfl)
            have e16 : a.tmps.getD 16 undef = .int .i64 (k : Int) := hkk 16 (by kernel_rfl)
            have e29 : a.tmps.getD 29 undef = undef := hkk 29 (by kernel_rfl)
            clear hkk
            simp at ho
            subst ho
            obtain ⟨tmps, dfs⟩ := a
            have hx := arr_expl 30 tmps h30
            simp only [List.range, List.range.loop, List.map] at hx
            change dfs = [] at hdf
            subst hdf
            change tmps.getD 0 undef = _ at e0
            change tmps.getD 1 undef = _ at e1
            change tmps.getD 2 undef = _ at e2
            change tmps.getD 3 undef = _ at e3
            change tmps.getD 4 undef = _ at e4
            change tmps.getD 5 undef = _ at e5
            change tmps.getD 7 undef = _ at e7
            change tmps.getD 8 undef = _ at e8
            change tmps.getD 9 undef = _ at e9
            change tmps.getD 10 undef = _ at e10
            change tmps.getD 11 undef = _ at e11
            change tmps.getD 12 undef = _ at e12
            change tmps.getD 13 undef = _ at e13
            change tmps.getD 14 undef = _ at e14
            change tmps.getD 15 undef = _ at e15
            change tmps.getD 16 undef = _ at e16
            change tmps.getD 29 undef = _ at e29
            change tmps.getD 27 undef = _ at t27
            change TMk _ _ _ _ _ _ _ _ (tmps.getD 26 undef) _ at t26
            rw [e0, e1, e2, e3, e4, e5, e7, e8, e9, e10, e11, e12, e13, e14, e15, e16, e29, t27] at hx
            rw [hx]
            clear e0 e1 e2 e3 e4 e5 e7 e8 e9 e10 e11 e12 e13 e14 e15 e16 e29 t27 h30
            generalize tmps.getD 6 undef = x6, tmps.getD 17 undef = x17, tmps.getD 18 undef = x18, tmps.getD 19 undef = x19, tmps.getD 20 undef = x20, tmps.getD 21 undef = x21, tmps.getD 22 undef = x22, tmps.getD 23 undef = x23, tmps.getD 24 undef = x24, tmps.getD 25 undef = x25, tmps.getD 26 undef = x26, tmps.getD 28 undef = x28 at t26 ⊢
            clear hx tmps
            have hab : w2.heap[w.heap.size + 1]? = some (.cells #[.string s, v] 70 (0, 0)) := by
              rw [hg2.block (w.heap.size + 1) (by omega) (fun e => by have := (hrow.lt _ e.symm).1; omega)]; exact hm
            have har : w2.heap[w.heap.size]? = some (.cells #[.string ⟨#[]⟩, .slice none 0 0] 70 (0, 0)) := by
              rw [hg2.block w.heap.size (by omega) (fun e => by have := (hrow.lt _ e.symm).1; omega)]; exact hr
            have c1 : w2.cell? ⟨w.heap.size + 1, 1, none⟩ = some v := by rw [cell_of_row _ _ _ _ _ _ hab]; rfl
            have z1 := frozen_of_row w2 (w.heap.size + 1) 1 _ _ hab
            have hMP : MP (w.heap.size + 2) w2.heap.size w2 x26 (got s k ++ [p]) := MP.grow hsz hfl hold hvlt hg2 t26
            have hF : Hid ((w2.setCell ⟨w.heap.size + 1, 1, none⟩ x26).heap[w.heap.size + 1]? = some (.cells #[.string s, x26] 70 (0, 0)) ∧ (w2.setCell ⟨w.heap.size + 1, 1, none⟩ x26).heap[w.heap.size]? = some (.cells #[.string ⟨#[]⟩, .slice none 0 0] 70 (0, 0)) ∧ MP (w.heap.size + 2) (w2.setCell ⟨w.heap.size + 1, 1, none⟩ x26).heap.size (w2.setCell ⟨w.heap.size + 1, 1, none⟩ x26) x26 (got s (k + 1)) ∧ Below w.heap.size w (w2.setCell ⟨w.heap.size + 1, 1, none⟩ x26) ∧ w.heap.size + 2 ≤ (w2.setCell ⟨w.heap.size + 1, 1, none⟩ x26).heap.size) := by
              refine ⟨by rw [heap_setCell_same w2 _ 1 _ _ x26 hab]; rfl, by rw [Below.heap_setCell _ _ _ _ (by show w.heap.size ≠ w.heap.size + 1; omega)]; exact har, ?_, ?_, by simp; omega⟩
              · rw [E.out.2.2]
                have hsame : ∀ (j : Nat), w.heap.size + 2 ≤ j → (w2.setCell ⟨w.heap.size + 1, 1, none⟩ x26).heap[j]? = w2.heap[j]? := fun j hj => Below.heap_setCell _ _ _ _ (by show j ≠ w.heap.size + 1; omega)
                obtain ⟨fs', q1, q2, q3, q4⟩ := hMP
                refine ⟨fs', q1, row_same q2 (Nat.le_refl _) (fun j cur _ hj hc => (hsame j hj).trans hc), fun g hg => by simpa using q3 g hg, fun i hi => ?_⟩
                obtain ⟨a', b', r1, r2, r3, r4⟩ := q4 i hi
                exact ⟨a', b', r1, by simpa using r2, r3.same (Nat.le_refl _) (Nat.le_refl _) (fun j cur hj _ hc => (hsame j (by omega)).trans hc), r4⟩
              · have hbl : Below w.heap.size w w2 := hbw.grown hg2 (by omega) (fun j hj => by have := (hrow.lt j hj).1; omega)
                exact hbl.setCell (p := ⟨w.heap.size + 1, 1, none⟩) (by show w.heap.size ≤ w.heap.size + 1; omega) _
            obtain ⟨fs', q1, q2, q5⟩ := hMP
            obtain ⟨xo, xc, hxv⟩ := row_form q2
            subst hxv
            clear q1 q2 q5 t26 hab har hfl hrow hvlt hold hbw hg2 fs' hm hr
            generalize (got s k ++ [p]).length = nn at hF ⊢
            go_simp
            go_wp2_with fail
            go_roundw
            case rel => exact ⟨k + 1, _, by omega, by simp, hF⟩
            case measure => simp [intOf]; omega
      · have hlt2 : decide ((k : Int) < 2) = false := by simp; omega
        have hk : k = 2 := by omega
        subst hk
        obtain ⟨hm, hr, hMP, hbw, hsz⟩ := H.out
        have c0 : wr.cell? ⟨w.heap.size + 1, 0, none⟩ = some (.string s) := by rw [cell_of_row _ _ _ _ _ _ hm]; rfl
        have c1 : wr.cell? ⟨w.heap.size + 1, 1, none⟩ = some v := by rw [cell_of_row _ _ _ _ _ _ hm]; rfl
        have r0 : wr.cell? ⟨w.heap.size, 0, none⟩ = some (.string ⟨#[]⟩) := by rw [cell_of_row _ _ _ _ _ _ hr]; rfl
        have r1 : wr.cell? ⟨w.heap.size, 1, none⟩ = some (.slice none 0 0) := by rw [cell_of_row _ _ _ _ _ _ hr]; rfl
        have z0 := frozen_of_row wr w.heap.size 0 _ _ hr
        have z1 := frozen_of_row wr w.heap.size 1 _ _ hr
        have hMT := hide (MP.mt hMP got_end)
        have hB := hide hbw
        obtain ⟨ao, nn, cap, hv⟩ := (unhide hMT).form
        subst hv
        clear hm hr hMP hbw
        go_wp2_with fail
        refine bodyPost_ret (v := .agg #[.string s, .slice ao nn cap]) (by simp [results, Try.results50, go_sem, r0, r1]) rfl ⟨_, rfl, ?_, ?_⟩
        · refine (unhide hMT).same (by omega) (by simp) fun k cur h1 h2 hc => ?_
          rw [Below.heap_setCell _ _ _ _ (by show k ≠ w.heap.size; omega), Below.heap_setCell _ _ _ _ (by show k ≠ w.heap.size; omega)]
          exact hc
        · exact ((unhide hB).setCell (p := ⟨w.heap.size, 0, none⟩) (Nat.le_refl _) _).setCell (p := ⟨w.heap.size, 1, none⟩) (Nat.le_refl _) _
#print axioms makingOf_any
end Go.Proofs.Ytjdpabiodalfkaa
