/-
  How the program reads a secret's name down to what was made anew: what it holds of it.
-/
import Derived.Test.YtjdpabiodalfkaaSet2
import Derived.Test.YtjdpabiodalfkaaMake
namespace Go.Proofs.Ytjdpabiodalfkaa
open Go.RowKit

theorem info_mk : (Try.prog.info? 70).map (fun i => (i.zero, i.size, i.bytes)) = some (some (.agg #[.string ⟨#[]⟩, .slice none 0 0]), 2, 40) := by kernel_rfl
theorem underMk : Try.prog.underlying 68 = some (.slice 70) := by kernel_rfl

/-- A slice holds, down to what was made anew, from what a secret was made; its rows lie between lo and hi. -/
inductive MT (lo hi : Nat) (w : World) : Value → ByteArray → Prop
  | none {s : ByteArray} {v : Value} : mOp s = 1 → w.ownsRow lo 70 2 v 0 [] → (∀ g, v.ownBlock = some g → g < hi) → MT lo hi w v s
  | one {s : ByteArray} {v f : Value} : mOp s ≠ 1 → mOp s ≠ 4 → w.ownsRow lo 70 2 v 1 [.string (mA s), f] → (∀ g, v.ownBlock = some g → g < hi) → MT lo hi w f (mA s) → MT lo hi w v s
  | two {s : ByteArray} {v f g : Value} : mOp s = 4 → w.ownsRow lo 70 2 v 2 [.string (mA s), f, .string (mB s), g] → (∀ g, v.ownBlock = some g → g < hi) → MT lo hi w f (mA s) → MT lo hi w g (mB s) → MT lo hi w v s

theorem row_same {w w' : World} {base lo : Nat} {e : TypeId} {size : Nat} {v : Value} {n : Nat} {xs : List Value} (h : w.ownsRow base e size v n xs) (hlo : lo ≤ base)
    (hs : ∀ (k : Nat) (cur : Array Value), v.ownBlock = some k → base ≤ k → w.heap[k]? = some (.cells cur e (0, 0)) → w'.heap[k]? = some (.cells cur e (0, 0))) : w'.ownsRow lo e size v n xs := by
  refine ⟨h.1, h.2.imp id ?_⟩
  rintro ⟨g, cap, cur, h1, h2, h3, h4⟩
  subst h1
  exact ⟨g, cap, cur, rfl, Nat.le_trans hlo h2, hs g cur rfl h2 h3, h4⟩

theorem MT.same {lo hi lo' hi' : Nat} {w w' : World} {v : Value} {s : ByteArray} (h : MT lo hi w v s) (hlo : lo' ≤ lo) (hhi : hi ≤ hi')
    (hs : ∀ (k : Nat) (cur : Array Value), lo ≤ k → k < hi → w.heap[k]? = some (.cells cur 70 (0, 0)) → w'.heap[k]? = some (.cells cur 70 (0, 0))) : MT lo' hi' w' v s := by
  induction h with
  | none h1 h2 h3 => exact .none h1 (row_same h2 hlo fun k cur hk hb hc => hs k cur hb (h3 k hk) hc) (fun g hg => Nat.lt_of_lt_of_le (h3 g hg) hhi)
  | one h1 h2 h3 h4 _ ih => exact .one h1 h2 (row_same h3 hlo fun k cur hk hb hc => hs k cur hb (h4 k hk) hc) (fun g hg => Nat.lt_of_lt_of_le (h4 g hg) hhi) ih
  | two h1 h2 h3 _ _ ih1 ih2 => exact .two h1 (row_same h2 hlo fun k cur hk hb hc => hs k cur hb (h3 k hk) hc) (fun g hg => Nat.lt_of_lt_of_le (h3 g hg) hhi) ih1 ih2

theorem MT.stay {lo hi N : Nat} {w w' : World} {v : Value} {s : ByteArray} (h : MT lo hi w v s) (hb : Below N w w') (hN : hi ≤ N) : MT lo hi w' v s :=
  h.same (Nat.le_refl _) (Nat.le_refl _) fun k _ _ hk hc => (hb.block k (Nat.lt_of_lt_of_le hk hN)).trans hc
theorem MT.grown {lo hi : Nat} {w w' : World} {v : Value} {s : ByteArray} {r : Option Nat} (h : MT lo hi w v s) (hg : w.grownBy w' r) (hr : ∀ k, r = some k → k < lo ∨ hi ≤ k) (hw : hi ≤ w.heap.size) : MT lo hi w' v s :=
  h.same (Nat.le_refl _) (Nat.le_refl _) fun k _ h1 h2 hc => (hg.block k (by omega) (fun e => by have := hr k e.symm; omega)).trans hc
theorem MT.keep {lo hi : Nat} {p : Obj → Prop} {w w' : World} {v : Value} {s : ByteArray} (h : MT lo hi w v s) (hk : Keep p w w') (hp : ∀ cur, p (.cells cur 70 (0, 0))) : MT lo hi w' v s :=
  h.same (Nat.le_refl _) (Nat.le_refl _) fun k _ _ _ hc => hk k _ hc (hp _)
theorem MT.wide {lo hi lo' hi' : Nat} {w : World} {v : Value} {s : ByteArray} (h : MT lo hi w v s) (hlo : lo' ≤ lo) (hhi : hi ≤ hi') : MT lo' hi' w v s := h.same hlo hhi fun _ _ _ _ hc => hc

/-- Such a slice is one of one length. -/
theorem MT.form {lo hi : Nat} {w : World} {v : Value} {s : ByteArray} (h : MT lo hi w v s) : ∃ ao n cap, v = .slice ao n cap := by
  cases h with
  | none _ h3 _ => obtain ⟨ao, cap, h⟩ := row_form h3; exact ⟨_, _, _, h⟩
  | one _ _ h3 _ _ => obtain ⟨ao, cap, h⟩ := row_form h3; exact ⟨_, _, _, h⟩
  | two _ h3 _ _ _ => obtain ⟨ao, cap, h⟩ := row_form h3; exact ⟨_, _, _, h⟩

/-- What the slots of the statement hold that reads one part. -/
def TMk (w1 : World) (bm : Nat) (v : Value) (n lo : Nat) (xs : List Value) (p : ByteArray) (d : Nat) (x : Value) (w : World) : Prop :=
  match d with
  | 21 => x = .pointer (some ⟨bm, 1, none⟩)
  | 22 => x = v
  | 23 => x = .string p
  | 24 => ∃ f hi, x = .agg #[.string p, f] ∧ MT w1.heap.size hi w f p ∧ hi ≤ w.heap.size ∧ w1.heap.size ≤ hi
  | 25 => ∃ f hi g, x = .slice (some ⟨g, 0, none⟩) 1 1 ∧ w.heap[g]? = some (.cells #[.string p, f] 70 (0, 0)) ∧ w1.heap.size ≤ g ∧ MT w1.heap.size hi w f p ∧ hi ≤ w.heap.size ∧ w1.heap.size ≤ hi
  | 26 => ∃ f hi, w.ownsRow lo 70 2 x (n + 1) (xs ++ [.string p, f]) ∧ MT w1.heap.size hi w f p ∧ hi ≤ w.heap.size ∧ w1.heap.size ≤ hi ∧ ∀ g, x.ownBlock = some g → v.ownBlock = some g ∨ hi ≤ g
  | 27 => x = .pointer (some ⟨bm, 1, none⟩)
  | _ => True

theorem TMk.below {w1 : World} {bm : Nat} {v : Value} {n lo : Nat} {xs : List Value} {p : ByteArray} {d : Nat} {x : Value} {w w' : World} (h : TMk w1 bm v n lo xs p d x w) (hb : Below w.heap.size w w') : TMk w1 bm v n lo xs p d x w' := by
  have hs := hb.size
  unfold TMk at *
  split at h
  · exact h
  · exact h
  · exact h
  · obtain ⟨f, hi, h1, h2, h3, h4⟩ := h
    exact ⟨f, hi, h1, h2.stay hb h3, by omega, h4⟩
  · obtain ⟨f, hi, g, h1, h2, h3, h4, h5, h6⟩ := h
    exact ⟨f, hi, g, h1, (hb.block g (Array.getElem?_eq_some_iff.1 h2).1).trans h2, h3, h4.stay hb h5, by omega, h6⟩
  · obtain ⟨f, hi, h1, h2, h3, h4⟩ := h
    exact ⟨f, hi, own_below' h1 hb, h2.stay hb h3, by omega, h4⟩
  · exact h
  · trivial

theorem TMk.grown {w1 : World} {bm : Nat} {v : Value} {n lo : Nat} {xs : List Value} {p : ByteArray} {d : Nat} {x : Value} {w w' : World} (h : TMk w1 bm v n lo xs p d x w) (hd : d ≠ 26) (hg : w.grownBy w' v.ownBlock) (hv : ∀ k, v.ownBlock = some k → k < w1.heap.size) : TMk w1 bm v n lo xs p d x w' := by
  have hs := hg.size
  unfold TMk at *
  split at h
  · exact h
  · exact h
  · exact h
  · obtain ⟨f, hi, h1, h2, h3, h4⟩ := h
    exact ⟨f, hi, h1, h2.grown hg (fun k hk => .inl (hv k hk)) h3, by omega, h4⟩
  · obtain ⟨f, hi, g, h1, h2, h3, h4, h5, h6⟩ := h
    exact ⟨f, hi, g, h1, (hg.block g (Array.getElem?_eq_some_iff.1 h2).1 (fun e => by have := hv g e.symm; omega)).trans h2, h3, h4.grown hg (fun k hk => .inl (hv k hk)) h5, by omega, h6⟩
  · exact absurd rfl hd
  · exact h
  · trivial

#print axioms TMk.grown
end Go.Proofs.Ytjdpabiodalfkaa
