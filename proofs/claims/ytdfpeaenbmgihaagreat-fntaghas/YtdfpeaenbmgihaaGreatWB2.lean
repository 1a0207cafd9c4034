/-
  Steps of a walk, one operation at a time: the world behind each is a name, and what is known of it is told. No Go function in it.
-/
import Derived.Test.YtdfpeaenbmgihaaGreatWB1
import Derived.Maps.AppendAt
import Derived.Deep.RegionHeld3
namespace Go.Proofs.YtdfpeaenbmgihaaGreat
open Go.RowKit
theorem size_cellsAt (b : Nat) : ∀ (vs : List Value) (o : Nat) (w : World), (w.setCells b o vs).heap.size = w.heap.size
  | [], _, _ => rfl
  | v :: r, o, w => by rw [World.setCells, size_cellsAt b r]; simp
section
variable {P : Program} {ops : Array Oper} {Q : Exit → Act → World → Prop} {a : Act} {w : World} {rest : List Oper} {o : Oper}
theorem pl_id (h : wpList P ops Q (o :: rest) a w) : wpList P ops Q (o :: rest) a w := h
theorem pl_take {v : Value} (hg : Region.wanted o (yielded ops a.tmps) = true) (h : (execOp a.eval o).run P w = .ok (.value v) w) (k : wpList P ops Q rest (a.put o.dst v) w) : wpList P ops Q (o :: rest) a w := by refine wpList_step fun K hK => ?_; rw [if_pos hg]; unfold Oper.wp; rw [h]; exact hK _ _ k
theorem pl_skip (hg : Region.wanted o (yielded ops a.tmps) = false) (k : wpList P ops Q rest (a.put o.dst undef) w) : wpList P ops Q (o :: rest) a w := by refine wpList_step fun K hK => ?_; rw [if_neg (by rw [hg]; decide)]; exact hK _ _ k
theorem pl_one (hg : Region.wanted o (yielded ops a.tmps) = true) (h : ∀ K : Act → World → Prop, Shut (∀ a w, wpList P ops Q rest a w → K a w) → o.wp P a w K Q) : wpList P ops Q (o :: rest) a w := by refine wpList_step fun K hK => ?_; rw [if_pos hg]; exact h K hK
variable {K : Act → World → Prop}
theorem op_alloc {cs : Array Value} {t : TypeId} (h : (execOp a.eval o).run P w = .ok (.value (.pointer (some ⟨w.heap.size, 0, none⟩))) (w.alloc (.cells cs t))) (k : ∀ (b : Nat) (w' : World), Blk w' b t cs → Below w.heap.size w w' → w.heap.size ≤ b ∧ b < w'.heap.size → K (a.put o.dst (.pointer (some ⟨b, 0, none⟩))) w') : o.wp P a w K Q := by unfold Oper.wp; rw [h]; exact k w.heap.size _ (Blk.new w t cs) ((Below.refl _ _).alloc (Nat.le_refl _) _) ⟨Nat.le_refl _, by simp⟩
theorem op_row (ty : TypeId) (x y : Operand) (ho : o.op = .store ty x y) (b : Nat) (cells old : Array Value) (t : TypeId) (hx : a.eval x = .pointer (some ⟨b, 0, none⟩)) (hy : a.eval y = .agg cells)
    (hg : Blk w b t old) (hi : (P.info? ty).map (·.size) = some cells.size) (hold : old.size = cells.size) (h1 : cells.all (·.oneCell') = true)
    (k : ∀ w' : World, Blk w' b t cells → w.grownBy w' (some b) → w'.heap.size = w.heap.size → K (a.put o.dst undef) w') : o.wp P a w K Q :=
  wp_store_row ty x y ho b cells hx hy t old hg hi hold h1 (k _ (hg.set cells) (grown_setRow w b cells) (by simp [World.setRow]))
theorem op_mid (ty : TypeId) (x y : Operand) (ho : o.op = .store ty x y) (b i : Nat) (cells old : Array Value) (t : TypeId) (hx : a.eval x = .pointer (some ⟨b, i, none⟩)) (hy : a.eval y = .agg cells) (hg : Blk w b t old) (hi : (P.info? ty).map (·.size) = some cells.size) (hold : i + cells.size ≤ old.size) (h1 : cells.all (·.oneCell') = true) (k : ∀ w' : World, Blk w' b t (setAll old i cells.toList) → w.grownBy w' (some b) → w'.heap.size = w.heap.size → K (a.put o.dst undef) w') : o.wp P a w K Q := Go.wp_store_mid ty x y ho b i cells hx hy (hg.there hold) hi h1 (k _ (hg.setCells cells.toList i) (grown_setCells b cells.toList i w) (size_cellsAt _ _ _ _))
end
def KeepL (L : List Nat) (u u' : World) : Prop := ∀ b ∈ L, u'.heap[b]? = u.heap[b]?
theorem keepLPre (L : List Nat) : Pre (KeepL L) := ⟨fun _ _ _ => rfl, fun _ _ _ h k b hb => (k b hb).trans (h b hb)⟩
theorem Blk.keepL {u u' : World} {L : List Nat} {b : Nat} {t : TypeId} {cs : Array Value} (h : Blk u b t cs) (k : KeepL L u u') (hm : b ∈ L) : Blk u' b t cs := (k b hm).trans h
theorem keepL_grown {L : List Nat} {u u' : World} {b : Nat} (h : u.grownBy u' (some b)) (hl : ∀ x ∈ L, x < u.heap.size ∧ x ≠ b) : KeepL L u u' := fun x hx => h.block x (hl x hx).1 (fun e => (hl x hx).2 (by cases e; rfl))
theorem row_grown {B : Nat} {w w' : World} {e t : TypeId} {size n b : Nat} {v : Value} {xs : List Value} {cs : Array Value} (h : w.ownsRow B e size v n xs) (hg : w.grownBy w' (some b)) (hx : Blk w b t cs) (hte : t ≠ e) : w'.ownsRow B e size v n xs := h.kept hg (.inr (hx.not_row hte h).symm)
theorem blk_grown {w w' : World} {b b' : Nat} {t : TypeId} {cs : Array Value} (h : Blk w b t cs) (hg : w.grownBy w' (some b')) (hne : b ≠ b') : Blk w' b t cs := h.kept hg (fun e => hne (by cases e; rfl))
theorem below_grown {B : Nat} {w w' w'' : World} {b : Nat} (h : Below B w w') (hg : w'.grownBy w'' (some b)) (hs : B ≤ w'.heap.size) (hb : B ≤ b) : Below B w w'' := h.grown hg hs (fun k hk => by cases hk; exact hb)
def RowT (P : Program) (t e : TypeId) (size bytes : Nat) : Prop := ∃ i z, P.underlying t = some (.slice e) ∧ P.info? e = some i ∧ i.zero = some z ∧ i.size = size ∧ i.bytes = bytes ∧ z.cells.size = size ∧ 0 < size
theorem rowT_of {P : Program} {t e : TypeId} {z : Value} {s b : Nat} (hu : P.underlying t = some (.slice e)) (h : (P.info? e).map (fun i => (i.zero, i.size, i.bytes)) = some (some z, s, b)) (hz : z.cells.size = s) (hs : 0 < s) : RowT P t e s b := by
 cases hi : P.info? e with
 | none => rw [hi] at h; cases h
 | some i0 => rw [hi] at h; simp at h; exact ⟨i0, z, hu, hi, h.1, h.2.1, h.2.2, hz, hs⟩
theorem row_some {w : World} {B : Nat} {e : TypeId} {size : Nat} {v : Value} {n : Nat} {xs : List Value} (h : w.ownsRow B e size v n xs) (hn : 0 < n) : ∃ g c, v = .slice (some ⟨g, 0, none⟩) n c ∧ B ≤ g ∧ g < w.heap.size ∧ n ≤ c ∧ c ≤ maxLen := by
 have hh := h; rcases h.2 with ⟨_, q⟩ | ⟨g, cap, cur, rfl, h1, h2, h3, h4, _⟩
 · omega
 · exact ⟨g, cap, rfl, h1, (hh.lt g rfl).2, h3, h4⟩
section
variable {P : Program} {Q : Exit → Act → World → Prop} {a : Act} {w : World} {o : Oper} {K : Act → World → Prop}
theorem op_lit (B : Nat) {cs : Array Value} {e : TypeId} {size n : Nat} (h : (execOp a.eval o).run P w = .ok (.value (.slice (some ⟨w.heap.size, 0, none⟩) n n)) (w.alloc (.cells cs e))) (hB : B ≤ w.heap.size) (hn : n ≤ maxLen) (hs : cs.size = n * size) (k : ∀ (g : Nat) (w' : World), w'.ownsRow B e size (.slice (some ⟨g, 0, none⟩) n n) n cs.toList → Below w.heap.size w w' → w.heap.size ≤ g ∧ g < w'.heap.size → K (a.put o.dst (.slice (some ⟨g, 0, none⟩) n n)) w') : o.wp P a w K Q := by unfold Oper.wp; rw [h]; exact k w.heap.size _ (World.ownsRow_lit w cs n hB hn hs) ((Below.refl _ _).alloc (Nat.le_refl _) _) ⟨Nat.le_refl _, by simp⟩
theorem op_appFull {t e : TypeId} {size bytes : Nat} (hr : RowT P t e size bytes) (B : Nat) (s x : Operand) (ho : o.op = .call { callee := .builtin .append, args := #[s, x], argTypes := #[t, t] }) (g n : Nat) (xs : List Value) (hs : a.eval s = .slice (some ⟨g, 0, none⟩) n n) (hown : w.ownsRow B e size (.slice (some ⟨g, 0, none⟩) n n) n xs) (y : Value) (m : Nat) (news : List Value) (hx : a.eval x = y) (hy : (y = .slice none 0 0 ∧ m = 0 ∧ news = []) ∨ ∃ ad c, y = .slice (some ad) m c ∧ news.length = m * size ∧ ∀ j u, news[j]? = some u → w.cell? (ad.add j) = some u) (h63 : n + m ≤ maxLen) (hbytes : (n + m) * bytes ≤ 140737488355328) (hbase : B ≤ w.heap.size) (k : ∀ g' c' w', w'.ownsRow B e size (.slice (some ⟨g', 0, none⟩) (n + m) c') (n + m) (xs ++ news) → Below w.heap.size w w' → K (a.put o.dst (.slice (some ⟨g', 0, none⟩) (n + m) c')) w') : o.wp P a w K Q := by obtain ⟨i, z, h1, h2, h3, h4, h5, h6, h7⟩ := hr; exact wp_append_full w s x t ho B e i z size bytes h1 h2 h3 h4 h5 h6 h7 g n xs hs hown y m news hx hy h63 hbytes hbase k
theorem op_appOwn {t e : TypeId} {size bytes : Nat} (hr : RowT P t e size bytes) (B : Nat) (s x : Operand) (ho : o.op = .call { callee := .builtin .append, args := #[s, x], argTypes := #[t, t] }) (v : Value) (n : Nat) (xs : List Value) (hs : a.eval s = v) (hown : w.ownsRow B e size v n xs) (ad : Addr) (m c : Nat) (news : List Value) (hx : a.eval x = .slice (some ad) m c) (hl : news.length = m * size) (hnews : ∀ j u, news[j]? = some u → w.cell? (ad.add j) = some u) (h1 : ∀ u ∈ news, u.oneCell' = true) (h63 : n + m ≤ maxLen) (hbytes : (n + m) * bytes ≤ 140737488355328) (hbase : B ≤ w.heap.size) (k : ∀ v' w', w'.ownsRow B e size v' (n + m) (xs ++ news) → w.grownBy w' v.ownBlock → (v'.ownBlock = v.ownBlock ∨ v'.ownBlock = some w.heap.size) → K (a.put o.dst v') w') : o.wp P a w K Q := by obtain ⟨i, z, r1, r2, r3, r4, r5, r6, r7⟩ := hr; obtain ⟨v', w', hrun, h2, h3, _, h5⟩ := run_append_own_at (P := P) w B t o.type e i z size bytes r1 r2 r3 r4 r5 r6 r7 v n xs hown ad m c news hl hnews h1 h63 hbytes hbase; unfold Oper.wp execOp; simp only [ho, resolve, invoke, builtin, Sem.run_bind, Sem.run_pure, Result.andThen_ok, List.map_toArray, List.map_cons, List.map_nil, hs, hx, hrun]; exact k v' w' h2 h3 h5
end
section
variable {P : Program} {Q : Exit → Act → World → Prop} {a : Act} {w : World} {o : Oper} {K : Act → World → Prop}
theorem op_appNew {t e : TypeId} {size bytes : Nat} (hr : RowT P t e size bytes) (B : Nat) (s x : Operand) (ho : o.op = .call { callee := .builtin .append, args := #[s, x], argTypes := #[t, t] }) (g : Nat) (hs : a.eval s = .slice (some ⟨g, 0, none⟩) 0 0) (hown : w.ownsRow B e size (.slice (some ⟨g, 0, none⟩) 0 0) 0 []) (y : Value) (m : Nat) (news : List Value) (hx : a.eval x = y) (hy : (y = .slice none 0 0 ∧ m = 0 ∧ news = []) ∨ ∃ ad c, y = .slice (some ad) m c ∧ news.length = m * size ∧ ∀ j u, news[j]? = some u → w.cell? (ad.add j) = some u) (h63 : m ≤ maxLen) (hbytes : m * bytes ≤ 140737488355328) (hbase : B ≤ w.heap.size) (k : ∀ g' c' w', w'.ownsRow B e size (.slice (some ⟨g', 0, none⟩) m c') m news → Below w.heap.size w w' → K (a.put o.dst (.slice (some ⟨g', 0, none⟩) m c')) w') : o.wp P a w K Q := by refine op_appFull hr B s x ho g 0 [] hs hown y m news hx hy (by omega) (by rw [Nat.zero_add]; exact hbytes) hbase (fun g' c' w' h1 h2 => ?_); simp only [Nat.zero_add, List.nil_append] at h1 ⊢; exact k g' c' w' h1 h2
end
theorem row_kept {w w' : World} {B b g : Nat} {e : TypeId} {size n c : Nat} {xs : List Value} (h : w.ownsRow B e size (.slice (some ⟨g, 0, none⟩) n c) n xs) (hg : w.grownBy w' (some b)) (hne : g ≠ b) : w'.ownsRow B e size (.slice (some ⟨g, 0, none⟩) n c) n xs :=
  h.kept hg (.inr (fun q => hne (by simpa [Value.ownBlock] using q)))
/-! Where the ways of a region that draws its order come together again. -/
def JQ1 {α0 : Type} (A : α0 → World → Act) (F : α0 → World → Prop) : Exit → Act → World → Prop
  | .normal, a, w => ∃ x0, a = A x0 w ∧ F x0 w
  | _, _, _ => False
theorem jq1 {α0 : Type} {A : α0 → World → Act} {F : α0 → World → Prop} {x0 : α0} {a : Act} {w : World} (h : a = A x0 w) (f : F x0 w) : JQ1 A F .normal a w := ⟨x0, h, f⟩
theorem join1 {α0 : Type} {P : Program} {c : Code} {Q : Exit → Act → World → Prop} {a : Act} {w : World} {A : α0 → World → Act} {F : α0 → World → Prop} (h : c.wp P (JQ1 A F) a w) (k : ∀ x0 wc, F x0 wc → Q .normal (A x0 wc) wc) : c.wp P Q a w := by
 refine Code.wp_mono (fun e a' w' q => ?_) h
 cases e with
 | normal =>
  obtain ⟨x0, rfl, f⟩ := q; exact k _ _ f
 | _ => exact q.elim
def JQ2 {α0 α1 : Type} (A : α0 → α1 → World → Act) (F : α0 → α1 → World → Prop) : Exit → Act → World → Prop
  | .normal, a, w => ∃ x0 x1, a = A x0 x1 w ∧ F x0 x1 w
  | _, _, _ => False
theorem jq2 {α0 α1 : Type} {A : α0 → α1 → World → Act} {F : α0 → α1 → World → Prop} {x0 : α0} {x1 : α1} {a : Act} {w : World} (h : a = A x0 x1 w) (f : F x0 x1 w) : JQ2 A F .normal a w := ⟨x0, x1, h, f⟩
theorem join2 {α0 α1 : Type} {P : Program} {c : Code} {Q : Exit → Act → World → Prop} {a : Act} {w : World} {A : α0 → α1 → World → Act} {F : α0 → α1 → World → Prop} (h : c.wp P (JQ2 A F) a w) (k : ∀ x0 x1 wc, F x0 x1 wc → Q .normal (A x0 x1 wc) wc) : c.wp P Q a w := by
 refine Code.wp_mono (fun e a' w' q => ?_) h
 cases e with
 | normal =>
  obtain ⟨x0, x1, rfl, f⟩ := q; exact k _ _ _ f
 | _ => exact q.elim
def JQ3 {α0 α1 α2 : Type} (A : α0 → α1 → α2 → World → Act) (F : α0 → α1 → α2 → World → Prop) : Exit → Act → World → Prop
  | .normal, a, w => ∃ x0 x1 x2, a = A x0 x1 x2 w ∧ F x0 x1 x2 w
  | _, _, _ => False
theorem jq3 {α0 α1 α2 : Type} {A : α0 → α1 → α2 → World → Act} {F : α0 → α1 → α2 → World → Prop} {x0 : α0} {x1 : α1} {x2 : α2} {a : Act} {w : World} (h : a = A x0 x1 x2 w) (f : F x0 x1 x2 w) : JQ3 A F .normal a w := ⟨x0, x1, x2, h, f⟩
theorem join3 {α0 α1 α2 : Type} {P : Program} {c : Code} {Q : Exit → Act → World → Prop} {a : Act} {w : World} {A : α0 → α1 → α2 → World → Act} {F : α0 → α1 → α2 → World → Prop} (h : c.wp P (JQ3 A F) a w) (k : ∀ x0 x1 x2 wc, F x0 x1 x2 wc → Q .normal (A x0 x1 x2 wc) wc) : c.wp P Q a w := by
 refine Code.wp_mono (fun e a' w' q => ?_) h
 cases e with
 | normal =>
  obtain ⟨x0, x1, x2, rfl, f⟩ := q; exact k _ _ _ _ f
 | _ => exact q.elim
def JQ6 {α0 α1 α2 α3 α4 α5 : Type} (A : α0 → α1 → α2 → α3 → α4 → α5 → World → Act) (F : α0 → α1 → α2 → α3 → α4 → α5 → World → Prop) : Exit → Act → World → Prop
  | .normal, a, w => ∃ x0 x1 x2 x3 x4 x5, a = A x0 x1 x2 x3 x4 x5 w ∧ F x0 x1 x2 x3 x4 x5 w
  | _, _, _ => False
theorem jq6 {α0 α1 α2 α3 α4 α5 : Type} {A : α0 → α1 → α2 → α3 → α4 → α5 → World → Act} {F : α0 → α1 → α2 → α3 → α4 → α5 → World → Prop} {x0 : α0} {x1 : α1} {x2 : α2} {x3 : α3} {x4 : α4} {x5 : α5} {a : Act} {w : World} (h : a = A x0 x1 x2 x3 x4 x5 w) (f : F x0 x1 x2 x3 x4 x5 w) : JQ6 A F .normal a w := ⟨x0, x1, x2, x3, x4, x5, h, f⟩
theorem join6 {α0 α1 α2 α3 α4 α5 : Type} {P : Program} {c : Code} {Q : Exit → Act → World → Prop} {a : Act} {w : World} {A : α0 → α1 → α2 → α3 → α4 → α5 → World → Act} {F : α0 → α1 → α2 → α3 → α4 → α5 → World → Prop} (h : c.wp P (JQ6 A F) a w) (k : ∀ x0 x1 x2 x3 x4 x5 wc, F x0 x1 x2 x3 x4 x5 wc → Q .normal (A x0 x1 x2 x3 x4 x5 wc) wc) : c.wp P Q a w := by
 refine Code.wp_mono (fun e a' w' q => ?_) h
 cases e with
 | normal =>
  obtain ⟨x0, x1, x2, x3, x4, x5, rfl, f⟩ := q; exact k _ _ _ _ _ _ _ f
 | _ => exact q.elim
def JQ7 {α0 α1 α2 α3 α4 α5 α6 : Type} (A : α0 → α1 → α2 → α3 → α4 → α5 → α6 → World → Act) (F : α0 → α1 → α2 → α3 → α4 → α5 → α6 → World → Prop) : Exit → Act → World → Prop
  | .normal, a, w => ∃ x0 x1 x2 x3 x4 x5 x6, a = A x0 x1 x2 x3 x4 x5 x6 w ∧ F x0 x1 x2 x3 x4 x5 x6 w
  | _, _, _ => False
theorem jq7 {α0 α1 α2 α3 α4 α5 α6 : Type} {A : α0 → α1 → α2 → α3 → α4 → α5 → α6 → World → Act} {F : α0 → α1 → α2 → α3 → α4 → α5 → α6 → World → Prop} {x0 : α0} {x1 : α1} {x2 : α2} {x3 : α3} {x4 : α4} {x5 : α5} {x6 : α6} {a : Act} {w : World} (h : a = A x0 x1 x2 x3 x4 x5 x6 w) (f : F x0 x1 x2 x3 x4 x5 x6 w) : JQ7 A F .normal a w := ⟨x0, x1, x2, x3, x4, x5, x6, h, f⟩
theorem join7 {α0 α1 α2 α3 α4 α5 α6 : Type} {P : Program} {c : Code} {Q : Exit → Act → World → Prop} {a : Act} {w : World} {A : α0 → α1 → α2 → α3 → α4 → α5 → α6 → World → Act} {F : α0 → α1 → α2 → α3 → α4 → α5 → α6 → World → Prop} (h : c.wp P (JQ7 A F) a w) (k : ∀ x0 x1 x2 x3 x4 x5 x6 wc, F x0 x1 x2 x3 x4 x5 x6 wc → Q .normal (A x0 x1 x2 x3 x4 x5 x6 wc) wc) : c.wp P Q a w := by
 refine Code.wp_mono (fun e a' w' q => ?_) h
 cases e with
 | normal =>
  obtain ⟨x0, x1, x2, x3, x4, x5, x6, rfl, f⟩ := q; exact k _ _ _ _ _ _ _ _ f
 | _ => exact q.elim
section
variable {P : Program} {Q : Exit → Act → World → Prop} {a : Act} {w : World} {o : Oper} {K : Act → World → Prop}
theorem op_cell (b i : Nat) (v : Value) {t : TypeId} {old : Array Value} (hg : Blk w b t old) (h : (execOp a.eval o).run P w = .ok .skip (w.setCell ⟨b, i, none⟩ v)) (k : ∀ w' : World, Blk w' b t (old.setIfInBounds i v) → w.grownBy w' (some b) → w'.heap.size = w.heap.size → K (a.put o.dst undef) w') : o.wp P a w K Q := by unfold Oper.wp; rw [h]; exact k _ (heap_setAt hg v) (grown_setC w b i v) (by simp [World.setCell])
theorem op_rowset {B : Nat} {e : TypeId} {g n c : Nat} {xs : List Value} (i : Nat) (v : Value) (hr : w.ownsRow B e 1 (.slice (some ⟨g, 0, none⟩) n c) n xs) (h : (execOp a.eval o).run P w = .ok .skip (w.setCell ⟨g, i, none⟩ v)) (k : ∀ w' : World, w'.ownsRow B e 1 (.slice (some ⟨g, 0, none⟩) n c) n (xs.set i v) → w.grownBy w' (some g) → w'.heap.size = w.heap.size → K (a.put o.dst undef) w') : o.wp P a w K Q := by unfold Oper.wp; rw [h]; obtain ⟨s1, s2⟩ := hr.stored i v; exact k _ s1 s2 (by simp [World.setCell])
end
theorem kept_blk {w w' : World} {b B : Nat} {t e : TypeId} {cs : Array Value} {size n : Nat} {v : Value} {xs : List Value} (h : Blk w b t cs) (hg : w.grownBy w' v.ownBlock) (hr : w.ownsRow B e size v n xs) (hb : b < B) : Blk w' b t cs :=
  h.kept hg (fun q => by have := (hr.lt b q.symm).1; omega)
theorem kept_below {w w0 w' : World} {B B0 : Nat} {e : TypeId} {size n : Nat} {v : Value} {xs : List Value} (h : Below B0 w0 w) (hg : w.grownBy w' v.ownBlock) (hr : w.ownsRow B e size v n xs) (hb : B0 ≤ B) (hs : B0 ≤ w.heap.size) : Below B0 w0 w' :=
  h.grown hg hs (fun k hk => by have := (hr.lt k hk).1; omega)
def JQ11 {α0 α1 α2 α3 α4 α5 α6 α7 α8 α9 α10 : Type} (A : α0 → α1 → α2 → α3 → α4 → α5 → α6 → α7 → α8 → α9 → α10 → World → Act) (F : α0 → α1 → α2 → α3 → α4 → α5 → α6 → α7 → α8 → α9 → α10 → World → Prop) : Exit → Act → World → Prop
  | .normal, a, w => ∃ x0 x1 x2 x3 x4 x5 x6 x7 x8 x9 x10, a = A x0 x1 x2 x3 x4 x5 x6 x7 x8 x9 x10 w ∧ F x0 x1 x2 x3 x4 x5 x6 x7 x8 x9 x10 w
  | _, _, _ => False
theorem jq11 {α0 α1 α2 α3 α4 α5 α6 α7 α8 α9 α10 : Type} {A : α0 → α1 → α2 → α3 → α4 → α5 → α6 → α7 → α8 → α9 → α10 → World → Act} {F : α0 → α1 → α2 → α3 → α4 → α5 → α6 → α7 → α8 → α9 → α10 → World → Prop} {x0 : α0} {x1 : α1} {x2 : α2} {x3 : α3} {x4 : α4} {x5 : α5} {x6 : α6} {x7 : α7} {x8 : α8} {x9 : α9} {x10 : α10} {a : Act} {w : World} (h : a = A x0 x1 x2 x3 x4 x5 x6 x7 x8 x9 x10 w) (f : F x0 x1 x2 x3 x4 x5 x6 x7 x8 x9 x10 w) : JQ11 A F .normal a w := ⟨x0, x1, x2, x3, x4, x5, x6, x7, x8, x9, x10, h, f⟩
theorem join11 {α0 α1 α2 α3 α4 α5 α6 α7 α8 α9 α10 : Type} {P : Program} {c : Code} {Q : Exit → Act → World → Prop} {a : Act} {w : World} {A : α0 → α1 → α2 → α3 → α4 → α5 → α6 → α7 → α8 → α9 → α10 → World → Act} {F : α0 → α1 → α2 → α3 → α4 → α5 → α6 → α7 → α8 → α9 → α10 → World → Prop} (h : c.wp P (JQ11 A F) a w) (k : ∀ x0 x1 x2 x3 x4 x5 x6 x7 x8 x9 x10 wc, F x0 x1 x2 x3 x4 x5 x6 x7 x8 x9 x10 wc → Q .normal (A x0 x1 x2 x3 x4 x5 x6 x7 x8 x9 x10 wc) wc) : c.wp P Q a w := by
 refine Code.wp_mono (fun e a' w' q => ?_) h
 cases e with
 | normal =>
  obtain ⟨x0, x1, x2, x3, x4, x5, x6, x7, x8, x9, x10, rfl, f⟩ := q; exact k _ _ _ _ _ _ _ _ _ _ _ _ f
 | _ => exact q.elim
section
variable {P : Program} {ops : Array Oper} {Q : Exit → Act → World → Prop} {md : Region.Mode} {R : World → World → Prop}
theorem ord_three {i j l : Nat} {fuel : Nat} {listed : Array Bool} {a : Act} {w : World} (hr : Region.ready md ops listed = [i, j, l]) (h1 : ∀ oi K, ops[i]? = some oi → Shut (∀ a' w', R w w' → wpAnyR P md ops Q R fuel (listed.setIfInBounds i true) a' w' → K a' w') → Region.wanted oi (yielded ops a.tmps) = true ∧ oi.wp P a w K Q) (h2 : ∀ oi K, ops[j]? = some oi → Shut (∀ a' w', R w w' → wpAnyR P md ops Q R fuel (listed.setIfInBounds j true) a' w' → K a' w') → Region.wanted oi (yielded ops a.tmps) = true ∧ oi.wp P a w K Q) (h3 : ∀ oi K, ops[l]? = some oi → Shut (∀ a' w', R w w' → wpAnyR P md ops Q R fuel (listed.setIfInBounds l true) a' w' → K a' w') → Region.wanted oi (yielded ops a.tmps) = true ∧ oi.wp P a w K Q) : wpAnyR P md ops Q R (fuel + 1) listed a w := by
 refine ⟨fun h0 => (by rw [hr] at h0; cases h0), fun z hz => ?_⟩
 have step : ∀ z, z ∈ Region.ready md ops listed → (∀ oi K, ops[z]? = some oi → Shut (∀ a' w', R w w' → wpAnyR P md ops Q R fuel (listed.setIfInBounds z true) a' w' → K a' w') → Region.wanted oi (yielded ops a.tmps) = true ∧ oi.wp P a w K Q) →
     wpOp P ops Q z (fun a' w' => (waitsB md ops z = true ∧ Region.ready md ops (listed.setIfInBounds z true) = [] ∧ Q .normal a' w') ∨ (R w w' ∧ wpAnyR P md ops Q R fuel (listed.setIfInBounds z true) a' w')) a w := by
   intro z hm hh
   unfold wpOp
   cases hi : ops[z]? with
   | none =>
     obtain ⟨_, o, ho, _⟩ := mem_ready.1 hm
     rw [hi] at ho
     cases ho
   | some oi =>
     obtain ⟨hw, hwp⟩ := hh oi (fun a' w' => (waitsB md ops z = true ∧ Region.ready md ops (listed.setIfInBounds z true) = [] ∧ Q .normal a' w') ∨ (R w w' ∧ wpAnyR P md ops Q R fuel (listed.setIfInBounds z true) a' w')) hi (fun a' w' hl hk => .inr (And.intro hl hk))
     simp only [hw, if_true]
     exact .inl hwp
 rw [hr] at hz; rcases (by simpa using hz : z = i ∨ z = j ∨ z = l) with rfl | rfl | rfl
 · exact step z (by rw [hr]; simp) h1
 · exact step z (by rw [hr]; simp) h2
 · exact step z (by rw [hr]; simp) h3
end
section
variable {P : Program} {ops : Array Oper} {Q : Exit → Act → World → Prop} {md : Region.Mode} {R : World → World → Prop}
theorem p_a {α : Type} (l : List α) (i : Nat) (x : α) : l.toArray.setIfInBounds i x = (l.set i x).toArray := List.setIfInBounds_toArray ..
theorem p_b {α : Type} (l : List α) (a b : α) : (a :: l).set 0 b = b :: l := List.set_cons_zero
theorem p_c {α : Type} (l : List α) (a b : α) (n : Nat) : (a :: l).set (n + 1) b = a :: l.set n b := List.set_cons_succ
theorem Blk.g {w : World} {b : Nat} {t : TypeId} {cs : Array Value} (h : Blk w b t cs) (i : Nat) {v : Value} (e : cs[i]? = some v := by (simp only [List.getElem?_toArray, List.getElem?_cons_succ, List.getElem?_cons_zero] <;> rfl)) : w.cell? ⟨b, i, none⟩ = some v := (h.cell i).trans e
theorem Blk.c2 {w : World} {b : Nat} {t : TypeId} {v0 v1 : Value} (h : Blk w b t #[v0, v1]) : w.cell? ⟨b, 0, none⟩ = some v0 ∧ w.cell? ⟨b, 1, none⟩ = some v1 := ⟨h.cell 0, h.cell 1⟩
theorem Blk.c3 {w : World} {b : Nat} {t : TypeId} {v0 v1 v2 : Value} (h : Blk w b t #[v0, v1, v2]) : w.cell? ⟨b, 0, none⟩ = some v0 ∧ w.cell? ⟨b, 1, none⟩ = some v1 ∧ w.cell? ⟨b, 2, none⟩ = some v2 := ⟨h.cell 0, h.cell 1, h.cell 2⟩
theorem Blk.c4 {w : World} {b : Nat} {t : TypeId} {v0 v1 v2 v3 : Value} (h : Blk w b t #[v0, v1, v2, v3]) : w.cell? ⟨b, 0, none⟩ = some v0 ∧ w.cell? ⟨b, 1, none⟩ = some v1 ∧ w.cell? ⟨b, 2, none⟩ = some v2 ∧ w.cell? ⟨b, 3, none⟩ = some v3 := ⟨h.cell 0, h.cell 1, h.cell 2, h.cell 3⟩
theorem Blk.c6 {w : World} {b : Nat} {t : TypeId} {v0 v1 v2 v3 v4 v5 : Value} (h : Blk w b t #[v0, v1, v2, v3, v4, v5]) : w.cell? ⟨b, 0, none⟩ = some v0 ∧ w.cell? ⟨b, 1, none⟩ = some v1 ∧ w.cell? ⟨b, 2, none⟩ = some v2 ∧ w.cell? ⟨b, 3, none⟩ = some v3 ∧ w.cell? ⟨b, 4, none⟩ = some v4 ∧ w.cell? ⟨b, 5, none⟩ = some v5 := ⟨h.cell 0, h.cell 1, h.cell 2, h.cell 3, h.cell 4, h.cell 5⟩
theorem Blk.c7 {w : World} {b : Nat} {t : TypeId} {v0 v1 v2 v3 v4 v5 v6 : Value} (h : Blk w b t #[v0, v1, v2, v3, v4, v5, v6]) : w.cell? ⟨b, 0, none⟩ = some v0 ∧ w.cell? ⟨b, 1, none⟩ = some v1 ∧ w.cell? ⟨b, 2, none⟩ = some v2 ∧ w.cell? ⟨b, 3, none⟩ = some v3 ∧ w.cell? ⟨b, 4, none⟩ = some v4 ∧ w.cell? ⟨b, 5, none⟩ = some v5 ∧ w.cell? ⟨b, 6, none⟩ = some v6 := ⟨h.cell 0, h.cell 1, h.cell 2, h.cell 3, h.cell 4, h.cell 5, h.cell 6⟩
theorem Blk.c10 {w : World} {b : Nat} {t : TypeId} {v0 v1 v2 v3 v4 v5 v6 v7 v8 v9 : Value} (h : Blk w b t #[v0, v1, v2, v3, v4, v5, v6, v7, v8, v9]) : w.cell? ⟨b, 0, none⟩ = some v0 ∧ w.cell? ⟨b, 1, none⟩ = some v1 ∧ w.cell? ⟨b, 2, none⟩ = some v2 ∧ w.cell? ⟨b, 3, none⟩ = some v3 ∧ w.cell? ⟨b, 4, none⟩ = some v4 ∧ w.cell? ⟨b, 5, none⟩ = some v5 ∧ w.cell? ⟨b, 6, none⟩ = some v6 ∧ w.cell? ⟨b, 7, none⟩ = some v7 ∧ w.cell? ⟨b, 8, none⟩ = some v8 ∧ w.cell? ⟨b, 9, none⟩ = some v9 := ⟨h.cell 0, h.cell 1, h.cell 2, h.cell 3, h.cell 4, h.cell 5, h.cell 6, h.cell 7, h.cell 8, h.cell 9⟩
theorem Blk.c13 {w : World} {b : Nat} {t : TypeId} {v0 v1 v2 v3 v4 v5 v6 v7 v8 v9 va vb vc : Value} (h : Blk w b t #[v0, v1, v2, v3, v4, v5, v6, v7, v8, v9, va, vb, vc]) : w.cell? ⟨b, 0, none⟩ = some v0 ∧ w.cell? ⟨b, 1, none⟩ = some v1 ∧ w.cell? ⟨b, 2, none⟩ = some v2 ∧ w.cell? ⟨b, 3, none⟩ = some v3 ∧ w.cell? ⟨b, 4, none⟩ = some v4 ∧ w.cell? ⟨b, 5, none⟩ = some v5 ∧ w.cell? ⟨b, 6, none⟩ = some v6 ∧ w.cell? ⟨b, 7, none⟩ = some v7 ∧ w.cell? ⟨b, 8, none⟩ = some v8 ∧ w.cell? ⟨b, 9, none⟩ = some v9 ∧ w.cell? ⟨b, 10, none⟩ = some va ∧ w.cell? ⟨b, 11, none⟩ = some vb ∧ w.cell? ⟨b, 12, none⟩ = some vc := ⟨h.cell 0, h.cell 1, h.cell 2, h.cell 3, h.cell 4, h.cell 5, h.cell 6, h.cell 7, h.cell 8, h.cell 9, h.cell 10, h.cell 11, h.cell 12⟩
structure WL (P : Program) (ops : Array Oper) (Q : Exit → Act → World → Prop) (l : List Oper) (a : Act) (w : World) : Prop where
  out : wpList P ops Q l a w
variable {a a' : Act} {w : World} {rest : List Oper} {o : Oper} {v : Value}
theorem w_i {l : List Oper} (h : WL P ops Q l a w) : wpList P ops Q l a w := h.out
theorem w_e (h : Q .normal a w) : WL P ops Q [] a w := ⟨wpList_nil h⟩
theorem w_t (h : (execOp a.eval o).run P w = .ok (.value v) w) (k : WL P ops Q rest a' w) (hg : Region.wanted o (yielded ops a.tmps) = true := by rfl)
    (ha : a.put o.dst v = a' := by (simp only [Act.put, p_a, p_b, p_c] <;> rfl)) : WL P ops Q (o :: rest) a w := by
  subst ha
  exact ⟨pl_take hg h k.out⟩
theorem w_q (k : WL P ops Q rest a' w) (hg : Region.wanted o (yielded ops a.tmps) = true := by rfl) (h : (execOp a.eval o).run P w = .ok (.value v) w := by (go_simp; all_goals rfl))
    (ha : a.put o.dst v = a' := by (simp only [Act.put, p_a, p_b, p_c] <;> rfl)) : WL P ops Q (o :: rest) a w := w_t h k hg ha
theorem w_n (k : WL P ops Q rest a' w) (hg : Region.wanted o (yielded ops a.tmps) = false := by rfl) (ha : a.put o.dst undef = a' := by (simp only [Act.put, p_a, p_b, p_c] <;> rfl)) : WL P ops Q (o :: rest) a w := by subst ha; exact ⟨pl_skip hg k.out⟩
theorem w_1 (h : ∀ K : Act → World → Prop, Shut (∀ a w, WL P ops Q rest a w → K a w) → o.wp P a w K Q) (hg : Region.wanted o (yielded ops a.tmps) = true := by rfl) : WL P ops Q (o :: rest) a w := ⟨pl_one hg fun K hK => h K (fun a w q => hK.out a w q.out)⟩
structure WR (P : Program) (md : Region.Mode) (ops : Array Oper) (Q : Exit → Act → World → Prop) (R : World → World → Prop) (fuel : Nat) (listed : Array Bool) (a : Act) (w : World) : Prop where
  out : wpAnyR P md ops Q R fuel listed a w
variable {fuel : Nat} {listed : Array Bool}
theorem r_i (R : World → World → Prop) {id : Nat} (h : WR P .any ops Q R ops.size (Array.replicate ops.size false) a w.drew) (hm : P.follows .mixedOrders = true := by kernel_rfl) : (Code.region id ops true).wp P Q a w := wp_region_ord R hm h.out
def frB (md : Region.Mode) (ops : Array Oper) (listed : Array Bool) (i : Nat) : Bool := Region.noSelect ops && Region.free md ops listed i && (Region.ready md ops listed).contains i && ((ops[i]?).bind (·.dst)).isSome
theorem r_t (i : Nat) (h : ∀ w', R w w' → (execOp a.eval o).run P w' = .ok (.value v) w') (k : WR P md ops Q R fuel (listed.setIfInBounds i true) a' w)
    (hc : frB md ops listed i = true := by kernel_rfl) (ho : ops[i]? = some o := by (simp only [List.getElem?_toArray, List.getElem?_cons_succ, List.getElem?_cons_zero] <;> rfl))
    (hg : Region.wanted o (yielded ops a.tmps) = true := by rfl) (hP : Pre R := by (first | exact laterPre | exact belowPre _ | exact keepLPre _ | exact keepCPre _))
    (hQ : ∀ c a w, Q (.panic c) (a.put o.dst v) w → Q (.panic c) a w := by exact fun _ _ _ h => h) (ha : a.put o.dst v = a' := by (simp only [Act.put, p_a, p_b, p_c] <;> rfl)) : WR P md ops Q R (fuel + 1) listed a w := by
  subst ha
  unfold frB at hc
  simp only [Bool.and_eq_true] at hc
  obtain ⟨⟨⟨h1, h2⟩, h3⟩, h4⟩ := hc
  cases hd : o.dst with
  | none => rw [ho] at h4; simp [hd] at h4
  | some d =>
    rw [hd] at hQ k
    exact ⟨ord_take hP h1 h2 h3 (by rw [ho]; exact hd) hQ (fun oi q => by rw [ho] at q; cases q; exact ⟨hg, h⟩) k.out⟩
theorem r_q (i : Nat) (k : WR P md ops Q R fuel (listed.setIfInBounds i true) a' w)
    (hc : frB md ops listed i = true := by kernel_rfl) (ho : ops[i]? = some o := by (simp only [List.getElem?_toArray, List.getElem?_cons_succ, List.getElem?_cons_zero] <;> rfl))
    (hg : Region.wanted o (yielded ops a.tmps) = true := by rfl) (h : ∀ w', R w w' → (execOp a.eval o).run P w' = .ok (.value v) w' := by (intro w' hw'; go_simp; all_goals rfl))
    (hP : Pre R := by (first | exact laterPre | exact belowPre _ | exact keepLPre _ | exact keepCPre _))
    (hQ : ∀ c a w, Q (.panic c) (a.put o.dst v) w → Q (.panic c) a w := by exact fun _ _ _ h => h) (ha : a.put o.dst v = a' := by (simp only [Act.put, p_a, p_b, p_c] <;> rfl)) : WR P md ops Q R (fuel + 1) listed a w :=
  r_t i h k hc ho hg hP hQ ha
theorem r_n (i : Nat) (k : WR P md ops Q R fuel (listed.setIfInBounds i true) a' w)
    (hc : frB md ops listed i = true := by kernel_rfl) (ho : ops[i]? = some o := by (simp only [List.getElem?_toArray, List.getElem?_cons_succ, List.getElem?_cons_zero] <;> rfl))
    (hg : Region.wanted o (yielded ops a.tmps) = false := by rfl) (hP : Pre R := by (first | exact laterPre | exact belowPre _ | exact keepLPre _ | exact keepCPre _))
    (hQ : ∀ c a w, Q (.panic c) (a.put o.dst undef) w → Q (.panic c) a w := by exact fun _ _ _ h => h) (ha : a.put o.dst undef = a' := by (simp only [Act.put, p_a, p_b, p_c] <;> rfl)) : WR P md ops Q R (fuel + 1) listed a w := by
  subst ha
  unfold frB at hc
  simp only [Bool.and_eq_true] at hc
  obtain ⟨⟨⟨h1, h2⟩, h3⟩, h4⟩ := hc
  cases hd : o.dst with
  | none => rw [ho] at h4; simp [hd] at h4
  | some d =>
    rw [hd] at hQ k
    exact ⟨ord_skip hP h1 h2 h3 (by rw [ho]; exact hd) hQ (by rw [ho]; simp [hg]) k.out⟩
theorem r_1 (i : Nat) (h : ∀ K, Shut (∀ a' w', R w w' → WR P md ops Q R fuel (listed.setIfInBounds i true) a' w' → K a' w') → o.wp P a w K Q) (hr : Region.ready md ops listed = [i] := by kernel_rfl)
    (ho : ops[i]? = some o := by (simp only [List.getElem?_toArray, List.getElem?_cons_succ, List.getElem?_cons_zero] <;> rfl)) (hg : Region.wanted o (yielded ops a.tmps) = true := by rfl) : WR P md ops Q R (fuel + 1) listed a w :=
  ⟨ord_one hr fun oi K q hK => by rw [ho] at q; cases q; exact ⟨hg, h K (fun a w r z => hK.out a w r z.out)⟩⟩
theorem r_l (i : Nat) (h : ∀ K, Shut (∀ a' w', Q .normal a' w' → K a' w') → o.wp P a w K Q) (hr : Region.ready md ops listed = [i] := by kernel_rfl) (hwt : waitsB md ops i = true := by kernel_rfl) (he : Region.ready md ops (listed.setIfInBounds i true) = [] := by kernel_rfl)
    (ho : ops[i]? = some o := by (simp only [List.getElem?_toArray, List.getElem?_cons_succ, List.getElem?_cons_zero] <;> rfl)) (hg : Region.wanted o (yielded ops a.tmps) = true := by rfl) : WR P md ops Q R (fuel + 1) listed a w :=
  ⟨ord_last hr hwt he fun oi K q hK => by rw [ho] at q; cases q; exact ⟨hg, h K hK⟩⟩
theorem r_2 {o2 : Oper} (i j : Nat) (h : ∀ K, Shut (∀ a' w', R w w' → WR P md ops Q R fuel (listed.setIfInBounds i true) a' w' → K a' w') → o.wp P a w K Q) (h2 : ∀ K, Shut (∀ a' w', R w w' → WR P md ops Q R fuel (listed.setIfInBounds j true) a' w' → K a' w') → o2.wp P a w K Q)
    (hr : Region.ready md ops listed = [i, j] := by kernel_rfl) (ho : ops[i]? = some o := by (simp only [List.getElem?_toArray, List.getElem?_cons_succ, List.getElem?_cons_zero] <;> rfl)) (hg : Region.wanted o (yielded ops a.tmps) = true := by rfl)
    (ho2 : ops[j]? = some o2 := by (simp only [List.getElem?_toArray, List.getElem?_cons_succ, List.getElem?_cons_zero] <;> rfl)) (hg2 : Region.wanted o2 (yielded ops a.tmps) = true := by rfl) : WR P md ops Q R (fuel + 1) listed a w :=
  ⟨ord_two hr (fun oi K q hK => by rw [ho] at q; cases q; exact ⟨hg, h K (fun a w r z => hK.out a w r z.out)⟩) (fun oi K q hK => by rw [ho2] at q; cases q; exact ⟨hg2, h2 K (fun a w r z => hK.out a w r z.out)⟩)⟩
theorem r_3 {o2 o3 : Oper} (i j l : Nat) (h : ∀ K, Shut (∀ a' w', R w w' → WR P md ops Q R fuel (listed.setIfInBounds i true) a' w' → K a' w') → o.wp P a w K Q) (h2 : ∀ K, Shut (∀ a' w', R w w' → WR P md ops Q R fuel (listed.setIfInBounds j true) a' w' → K a' w') → o2.wp P a w K Q)
    (h3 : ∀ K, Shut (∀ a' w', R w w' → WR P md ops Q R fuel (listed.setIfInBounds l true) a' w' → K a' w') → o3.wp P a w K Q)
    (hr : Region.ready md ops listed = [i, j, l] := by kernel_rfl) (ho : ops[i]? = some o := by (simp only [List.getElem?_toArray, List.getElem?_cons_succ, List.getElem?_cons_zero] <;> rfl)) (hg : Region.wanted o (yielded ops a.tmps) = true := by rfl)
    (ho2 : ops[j]? = some o2 := by (simp only [List.getElem?_toArray, List.getElem?_cons_succ, List.getElem?_cons_zero] <;> rfl)) (hg2 : Region.wanted o2 (yielded ops a.tmps) = true := by rfl)
    (ho3 : ops[l]? = some o3 := by (simp only [List.getElem?_toArray, List.getElem?_cons_succ, List.getElem?_cons_zero] <;> rfl)) (hg3 : Region.wanted o3 (yielded ops a.tmps) = true := by rfl) : WR P md ops Q R (fuel + 1) listed a w :=
  ⟨ord_three hr (fun oi K q hK => by rw [ho] at q; cases q; exact ⟨hg, h K (fun a w r z => hK.out a w r z.out)⟩) (fun oi K q hK => by rw [ho2] at q; cases q; exact ⟨hg2, h2 K (fun a w r z => hK.out a w r z.out)⟩) (fun oi K q hK => by rw [ho3] at q; cases q; exact ⟨hg3, h3 K (fun a w r z => hK.out a w r z.out)⟩)⟩
theorem r_e (h : Q .normal a w) (hr : Region.ready md ops listed = [] := by kernel_rfl) : WR P md ops Q R fuel listed a w := ⟨later_done hr h _⟩
end
theorem cy_t {P Q : Prop} (h : P → Q := by first | exact fun x => x.below hb | exact fun x => own_below' x hb | exact fun x => x.trans (hb.mono x.size) | exact fun x => x.trans (hb.mono (Nat.le_trans HB0.out x.size)) | exact fun x => fun n u hn => (hb.cell (cell_lt (x n u hn))).trans (x n u hn) | exact fun x => (hb.cell (cell_lt x)).trans x | exact fun x => And.intro x (And.intro hb.size hbn) | exact fun x => And.intro x (And.intro hb.size hsq) | exact fun x => And.intro x hb.size) : P → Q := h
theorem cy1 {P0 Q0 G : Prop} (x0 : Hid P0) (k : Hid Q0 → G) (c0 : P0 → Q0 := by exact cy_t) : G := k (c0 x0)
theorem cy2 {P0 Q0 P1 Q1 G : Prop} (x0 : Hid P0) (x1 : Hid P1) (k : Hid Q0 → Hid Q1 → G) (c0 : P0 → Q0 := by exact cy_t) (c1 : P1 → Q1 := by exact cy_t) : G := k (c0 x0) (c1 x1)
theorem cy3 {P0 Q0 P1 Q1 P2 Q2 G : Prop} (x0 : Hid P0) (x1 : Hid P1) (x2 : Hid P2) (k : Hid Q0 → Hid Q1 → Hid Q2 → G) (c0 : P0 → Q0 := by exact cy_t) (c1 : P1 → Q1 := by exact cy_t) (c2 : P2 → Q2 := by exact cy_t) : G := k (c0 x0) (c1 x1) (c2 x2)
theorem cy4 {P0 Q0 P1 Q1 P2 Q2 P3 Q3 G : Prop} (x0 : Hid P0) (x1 : Hid P1) (x2 : Hid P2) (x3 : Hid P3) (k : Hid Q0 → Hid Q1 → Hid Q2 → Hid Q3 → G) (c0 : P0 → Q0 := by exact cy_t) (c1 : P1 → Q1 := by exact cy_t) (c2 : P2 → Q2 := by exact cy_t) (c3 : P3 → Q3 := by exact cy_t) : G := k (c0 x0) (c1 x1) (c2 x2) (c3 x3)
theorem cy5 {P0 Q0 P1 Q1 P2 Q2 P3 Q3 P4 Q4 G : Prop} (x0 : Hid P0) (x1 : Hid P1) (x2 : Hid P2) (x3 : Hid P3) (x4 : Hid P4) (k : Hid Q0 → Hid Q1 → Hid Q2 → Hid Q3 → Hid Q4 → G) (c0 : P0 → Q0 := by exact cy_t) (c1 : P1 → Q1 := by exact cy_t) (c2 : P2 → Q2 := by exact cy_t) (c3 : P3 → Q3 := by exact cy_t) (c4 : P4 → Q4 := by exact cy_t) : G := k (c0 x0) (c1 x1) (c2 x2) (c3 x3) (c4 x4)
theorem cy6 {P0 Q0 P1 Q1 P2 Q2 P3 Q3 P4 Q4 P5 Q5 G : Prop} (x0 : Hid P0) (x1 : Hid P1) (x2 : Hid P2) (x3 : Hid P3) (x4 : Hid P4) (x5 : Hid P5) (k : Hid Q0 → Hid Q1 → Hid Q2 → Hid Q3 → Hid Q4 → Hid Q5 → G) (c0 : P0 → Q0 := by exact cy_t) (c1 : P1 → Q1 := by exact cy_t) (c2 : P2 → Q2 := by exact cy_t) (c3 : P3 → Q3 := by exact cy_t) (c4 : P4 → Q4 := by exact cy_t) (c5 : P5 → Q5 := by exact cy_t) : G := k (c0 x0) (c1 x1) (c2 x2) (c3 x3) (c4 x4) (c5 x5)
theorem cy7 {P0 Q0 P1 Q1 P2 Q2 P3 Q3 P4 Q4 P5 Q5 P6 Q6 G : Prop} (x0 : Hid P0) (x1 : Hid P1) (x2 : Hid P2) (x3 : Hid P3) (x4 : Hid P4) (x5 : Hid P5) (x6 : Hid P6) (k : Hid Q0 → Hid Q1 → Hid Q2 → Hid Q3 → Hid Q4 → Hid Q5 → Hid Q6 → G) (c0 : P0 → Q0 := by exact cy_t) (c1 : P1 → Q1 := by exact cy_t) (c2 : P2 → Q2 := by exact cy_t) (c3 : P3 → Q3 := by exact cy_t) (c4 : P4 → Q4 := by exact cy_t) (c5 : P5 → Q5 := by exact cy_t) (c6 : P6 → Q6 := by exact cy_t) : G := k (c0 x0) (c1 x1) (c2 x2) (c3 x3) (c4 x4) (c5 x5) (c6 x6)
theorem cy8 {P0 Q0 P1 Q1 P2 Q2 P3 Q3 P4 Q4 P5 Q5 P6 Q6 P7 Q7 G : Prop} (x0 : Hid P0) (x1 : Hid P1) (x2 : Hid P2) (x3 : Hid P3) (x4 : Hid P4) (x5 : Hid P5) (x6 : Hid P6) (x7 : Hid P7) (k : Hid Q0 → Hid Q1 → Hid Q2 → Hid Q3 → Hid Q4 → Hid Q5 → Hid Q6 → Hid Q7 → G) (c0 : P0 → Q0 := by exact cy_t) (c1 : P1 → Q1 := by exact cy_t) (c2 : P2 → Q2 := by exact cy_t) (c3 : P3 → Q3 := by exact cy_t) (c4 : P4 → Q4 := by exact cy_t) (c5 : P5 → Q5 := by exact cy_t) (c6 : P6 → Q6 := by exact cy_t) (c7 : P7 → Q7 := by exact cy_t) : G := k (c0 x0) (c1 x1) (c2 x2) (c3 x3) (c4 x4) (c5 x5) (c6 x6) (c7 x7)
theorem cy9 {P0 Q0 P1 Q1 P2 Q2 P3 Q3 P4 Q4 P5 Q5 P6 Q6 P7 Q7 P8 Q8 G : Prop} (x0 : Hid P0) (x1 : Hid P1) (x2 : Hid P2) (x3 : Hid P3) (x4 : Hid P4) (x5 : Hid P5) (x6 : Hid P6) (x7 : Hid P7) (x8 : Hid P8) (k : Hid Q0 → Hid Q1 → Hid Q2 → Hid Q3 → Hid Q4 → Hid Q5 → Hid Q6 → Hid Q7 → Hid Q8 → G) (c0 : P0 → Q0 := by exact cy_t) (c1 : P1 → Q1 := by exact cy_t) (c2 : P2 → Q2 := by exact cy_t) (c3 : P3 → Q3 := by exact cy_t) (c4 : P4 → Q4 := by exact cy_t) (c5 : P5 → Q5 := by exact cy_t) (c6 : P6 → Q6 := by exact cy_t) (c7 : P7 → Q7 := by exact cy_t) (c8 : P8 → Q8 := by exact cy_t) : G := k (c0 x0) (c1 x1) (c2 x2) (c3 x3) (c4 x4) (c5 x5) (c6 x6) (c7 x7) (c8 x8)
theorem cy10 {P0 Q0 P1 Q1 P2 Q2 P3 Q3 P4 Q4 P5 Q5 P6 Q6 P7 Q7 P8 Q8 P9 Q9 G : Prop} (x0 : Hid P0) (x1 : Hid P1) (x2 : Hid P2) (x3 : Hid P3) (x4 : Hid P4) (x5 : Hid P5) (x6 : Hid P6) (x7 : Hid P7) (x8 : Hid P8) (x9 : Hid P9) (k : Hid Q0 → Hid Q1 → Hid Q2 → Hid Q3 → Hid Q4 → Hid Q5 → Hid Q6 → Hid Q7 → Hid Q8 → Hid Q9 → G) (c0 : P0 → Q0 := by exact cy_t) (c1 : P1 → Q1 := by exact cy_t) (c2 : P2 → Q2 := by exact cy_t) (c3 : P3 → Q3 := by exact cy_t) (c4 : P4 → Q4 := by exact cy_t) (c5 : P5 → Q5 := by exact cy_t) (c6 : P6 → Q6 := by exact cy_t) (c7 : P7 → Q7 := by exact cy_t) (c8 : P8 → Q8 := by exact cy_t) (c9 : P9 → Q9 := by exact cy_t) : G := k (c0 x0) (c1 x1) (c2 x2) (c3 x3) (c4 x4) (c5 x5) (c6 x6) (c7 x7) (c8 x8) (c9 x9)
theorem cy11 {P0 Q0 P1 Q1 P2 Q2 P3 Q3 P4 Q4 P5 Q5 P6 Q6 P7 Q7 P8 Q8 P9 Q9 P10 Q10 G : Prop} (x0 : Hid P0) (x1 : Hid P1) (x2 : Hid P2) (x3 : Hid P3) (x4 : Hid P4) (x5 : Hid P5) (x6 : Hid P6) (x7 : Hid P7) (x8 : Hid P8) (x9 : Hid P9) (x10 : Hid P10) (k : Hid Q0 → Hid Q1 → Hid Q2 → Hid Q3 → Hid Q4 → Hid Q5 → Hid Q6 → Hid Q7 → Hid Q8 → Hid Q9 → Hid Q10 → G) (c0 : P0 → Q0 := by exact cy_t) (c1 : P1 → Q1 := by exact cy_t) (c2 : P2 → Q2 := by exact cy_t) (c3 : P3 → Q3 := by exact cy_t) (c4 : P4 → Q4 := by exact cy_t) (c5 : P5 → Q5 := by exact cy_t) (c6 : P6 → Q6 := by exact cy_t) (c7 : P7 → Q7 := by exact cy_t) (c8 : P8 → Q8 := by exact cy_t) (c9 : P9 → Q9 := by exact cy_t) (c10 : P10 → Q10 := by exact cy_t) : G := k (c0 x0) (c1 x1) (c2 x2) (c3 x3) (c4 x4) (c5 x5) (c6 x6) (c7 x7) (c8 x8) (c9 x9) (c10 x10)
theorem cy12 {P0 Q0 P1 Q1 P2 Q2 P3 Q3 P4 Q4 P5 Q5 P6 Q6 P7 Q7 P8 Q8 P9 Q9 P10 Q10 P11 Q11 G : Prop} (x0 : Hid P0) (x1 : Hid P1) (x2 : Hid P2) (x3 : Hid P3) (x4 : Hid P4) (x5 : Hid P5) (x6 : Hid P6) (x7 : Hid P7) (x8 : Hid P8) (x9 : Hid P9) (x10 : Hid P10) (x11 : Hid P11) (k : Hid Q0 → Hid Q1 → Hid Q2 → Hid Q3 → Hid Q4 → Hid Q5 → Hid Q6 → Hid Q7 → Hid Q8 → Hid Q9 → Hid Q10 → Hid Q11 → G) (c0 : P0 → Q0 := by exact cy_t) (c1 : P1 → Q1 := by exact cy_t) (c2 : P2 → Q2 := by exact cy_t) (c3 : P3 → Q3 := by exact cy_t) (c4 : P4 → Q4 := by exact cy_t) (c5 : P5 → Q5 := by exact cy_t) (c6 : P6 → Q6 := by exact cy_t) (c7 : P7 → Q7 := by exact cy_t) (c8 : P8 → Q8 := by exact cy_t) (c9 : P9 → Q9 := by exact cy_t) (c10 : P10 → Q10 := by exact cy_t) (c11 : P11 → Q11 := by exact cy_t) : G := k (c0 x0) (c1 x1) (c2 x2) (c3 x3) (c4 x4) (c5 x5) (c6 x6) (c7 x7) (c8 x8) (c9 x9) (c10 x10) (c11 x11)
theorem gy_t {P Q : Prop} (h : P → Q := by first | exact fun x => blk_grown x hg (by have q := HN.out; omega) | exact fun x => row_grown x hg OLD.out (by decide) | exact fun x => x.other hg (by simp) | exact fun x => x.new hg (by have q := HN.out; omega) | exact fun x => below_grown x hg x.size (by have q := HN.out; omega) | exact fun x => below_grown x hg (Nat.le_trans HB0.out x.size) (by have q := HN.out; have q2 := HB0.out; omega) | exact fun x => x.kept hg (fun q => (HW.out.loc _ (by simp)).2 _ (List.mem_of_getElem? (i := 0) rfl) q.symm) | exact fun x => x.kept hg (fun q => (HW.out.loc _ (by simp)).2 _ (List.mem_of_getElem? (i := 1) rfl) q.symm) | exact fun x => x.kept hg (fun q => (HW.out.loc _ (by simp)).2 _ (List.mem_of_getElem? (i := 2) rfl) q.symm) | exact fun x => x.kept hg (fun q => (HW.out.loc _ (by simp)).2 _ (List.mem_of_getElem? (i := 3) rfl) q.symm) | exact fun x => x.kept hg (fun q => (HW.out.loc _ (by simp)).2 _ (List.mem_of_getElem? (i := 4) rfl) q.symm) | exact fun x => x.kept hg (fun q => (HW.out.loc _ (by simp)).2 _ (List.mem_of_getElem? (i := 5) rfl) q.symm) | exact fun x => x.kept hg (fun q => (HW.out.loc _ (by simp)).2 _ (List.mem_of_getElem? (i := 6) rfl) q.symm) | exact fun x => x.kept hg (fun q => (HW.out.loc _ (by simp)).2 _ (List.mem_of_getElem? (i := 7) rfl) q.symm) | exact fun x => x.kept hg (fun q => (HW.out.loc _ (by simp)).2 _ (List.mem_of_getElem? (i := 8) rfl) q.symm) | exact fun x => x.kept hg (fun q => (HW.out.loc _ (by simp)).2 _ (List.mem_of_getElem? (i := 9) rfl) q.symm) | exact fun x => And.intro x hs) : P → Q := h
theorem gy1 {P0 Q0 G : Prop} (x0 : Hid P0) (k : Hid Q0 → G) (c0 : P0 → Q0 := by exact gy_t) : G := k (c0 x0)
theorem gy2 {P0 Q0 P1 Q1 G : Prop} (x0 : Hid P0) (x1 : Hid P1) (k : Hid Q0 → Hid Q1 → G) (c0 : P0 → Q0 := by exact gy_t) (c1 : P1 → Q1 := by exact gy_t) : G := k (c0 x0) (c1 x1)
theorem gy3 {P0 Q0 P1 Q1 P2 Q2 G : Prop} (x0 : Hid P0) (x1 : Hid P1) (x2 : Hid P2) (k : Hid Q0 → Hid Q1 → Hid Q2 → G) (c0 : P0 → Q0 := by exact gy_t) (c1 : P1 → Q1 := by exact gy_t) (c2 : P2 → Q2 := by exact gy_t) : G := k (c0 x0) (c1 x1) (c2 x2)
theorem gy4 {P0 Q0 P1 Q1 P2 Q2 P3 Q3 G : Prop} (x0 : Hid P0) (x1 : Hid P1) (x2 : Hid P2) (x3 : Hid P3) (k : Hid Q0 → Hid Q1 → Hid Q2 → Hid Q3 → G) (c0 : P0 → Q0 := by exact gy_t) (c1 : P1 → Q1 := by exact gy_t) (c2 : P2 → Q2 := by exact gy_t) (c3 : P3 → Q3 := by exact gy_t) : G := k (c0 x0) (c1 x1) (c2 x2) (c3 x3)
theorem gy5 {P0 Q0 P1 Q1 P2 Q2 P3 Q3 P4 Q4 G : Prop} (x0 : Hid P0) (x1 : Hid P1) (x2 : Hid P2) (x3 : Hid P3) (x4 : Hid P4) (k : Hid Q0 → Hid Q1 → Hid Q2 → Hid Q3 → Hid Q4 → G) (c0 : P0 → Q0 := by exact gy_t) (c1 : P1 → Q1 := by exact gy_t) (c2 : P2 → Q2 := by exact gy_t) (c3 : P3 → Q3 := by exact gy_t) (c4 : P4 → Q4 := by exact gy_t) : G := k (c0 x0) (c1 x1) (c2 x2) (c3 x3) (c4 x4)
theorem gy6 {P0 Q0 P1 Q1 P2 Q2 P3 Q3 P4 Q4 P5 Q5 G : Prop} (x0 : Hid P0) (x1 : Hid P1) (x2 : Hid P2) (x3 : Hid P3) (x4 : Hid P4) (x5 : Hid P5) (k : Hid Q0 → Hid Q1 → Hid Q2 → Hid Q3 → Hid Q4 → Hid Q5 → G) (c0 : P0 → Q0 := by exact gy_t) (c1 : P1 → Q1 := by exact gy_t) (c2 : P2 → Q2 := by exact gy_t) (c3 : P3 → Q3 := by exact gy_t) (c4 : P4 → Q4 := by exact gy_t) (c5 : P5 → Q5 := by exact gy_t) : G := k (c0 x0) (c1 x1) (c2 x2) (c3 x3) (c4 x4) (c5 x5)
theorem gy7 {P0 Q0 P1 Q1 P2 Q2 P3 Q3 P4 Q4 P5 Q5 P6 Q6 G : Prop} (x0 : Hid P0) (x1 : Hid P1) (x2 : Hid P2) (x3 : Hid P3) (x4 : Hid P4) (x5 : Hid P5) (x6 : Hid P6) (k : Hid Q0 → Hid Q1 → Hid Q2 → Hid Q3 → Hid Q4 → Hid Q5 → Hid Q6 → G) (c0 : P0 → Q0 := by exact gy_t) (c1 : P1 → Q1 := by exact gy_t) (c2 : P2 → Q2 := by exact gy_t) (c3 : P3 → Q3 := by exact gy_t) (c4 : P4 → Q4 := by exact gy_t) (c5 : P5 → Q5 := by exact gy_t) (c6 : P6 → Q6 := by exact gy_t) : G := k (c0 x0) (c1 x1) (c2 x2) (c3 x3) (c4 x4) (c5 x5) (c6 x6)
theorem gy8 {P0 Q0 P1 Q1 P2 Q2 P3 Q3 P4 Q4 P5 Q5 P6 Q6 P7 Q7 G : Prop} (x0 : Hid P0) (x1 : Hid P1) (x2 : Hid P2) (x3 : Hid P3) (x4 : Hid P4) (x5 : Hid P5) (x6 : Hid P6) (x7 : Hid P7) (k : Hid Q0 → Hid Q1 → Hid Q2 → Hid Q3 → Hid Q4 → Hid Q5 → Hid Q6 → Hid Q7 → G) (c0 : P0 → Q0 := by exact gy_t) (c1 : P1 → Q1 := by exact gy_t) (c2 : P2 → Q2 := by exact gy_t) (c3 : P3 → Q3 := by exact gy_t) (c4 : P4 → Q4 := by exact gy_t) (c5 : P5 → Q5 := by exact gy_t) (c6 : P6 → Q6 := by exact gy_t) (c7 : P7 → Q7 := by exact gy_t) : G := k (c0 x0) (c1 x1) (c2 x2) (c3 x3) (c4 x4) (c5 x5) (c6 x6) (c7 x7)
theorem gy9 {P0 Q0 P1 Q1 P2 Q2 P3 Q3 P4 Q4 P5 Q5 P6 Q6 P7 Q7 P8 Q8 G : Prop} (x0 : Hid P0) (x1 : Hid P1) (x2 : Hid P2) (x3 : Hid P3) (x4 : Hid P4) (x5 : Hid P5) (x6 : Hid P6) (x7 : Hid P7) (x8 : Hid P8) (k : Hid Q0 → Hid Q1 → Hid Q2 → Hid Q3 → Hid Q4 → Hid Q5 → Hid Q6 → Hid Q7 → Hid Q8 → G) (c0 : P0 → Q0 := by exact gy_t) (c1 : P1 → Q1 := by exact gy_t) (c2 : P2 → Q2 := by exact gy_t) (c3 : P3 → Q3 := by exact gy_t) (c4 : P4 → Q4 := by exact gy_t) (c5 : P5 → Q5 := by exact gy_t) (c6 : P6 → Q6 := by exact gy_t) (c7 : P7 → Q7 := by exact gy_t) (c8 : P8 → Q8 := by exact gy_t) : G := k (c0 x0) (c1 x1) (c2 x2) (c3 x3) (c4 x4) (c5 x5) (c6 x6) (c7 x7) (c8 x8)
theorem gy10 {P0 Q0 P1 Q1 P2 Q2 P3 Q3 P4 Q4 P5 Q5 P6 Q6 P7 Q7 P8 Q8 P9 Q9 G : Prop} (x0 : Hid P0) (x1 : Hid P1) (x2 : Hid P2) (x3 : Hid P3) (x4 : Hid P4) (x5 : Hid P5) (x6 : Hid P6) (x7 : Hid P7) (x8 : Hid P8) (x9 : Hid P9) (k : Hid Q0 → Hid Q1 → Hid Q2 → Hid Q3 → Hid Q4 → Hid Q5 → Hid Q6 → Hid Q7 → Hid Q8 → Hid Q9 → G) (c0 : P0 → Q0 := by exact gy_t) (c1 : P1 → Q1 := by exact gy_t) (c2 : P2 → Q2 := by exact gy_t) (c3 : P3 → Q3 := by exact gy_t) (c4 : P4 → Q4 := by exact gy_t) (c5 : P5 → Q5 := by exact gy_t) (c6 : P6 → Q6 := by exact gy_t) (c7 : P7 → Q7 := by exact gy_t) (c8 : P8 → Q8 := by exact gy_t) (c9 : P9 → Q9 := by exact gy_t) : G := k (c0 x0) (c1 x1) (c2 x2) (c3 x3) (c4 x4) (c5 x5) (c6 x6) (c7 x7) (c8 x8) (c9 x9)
theorem gy12 {P0 Q0 P1 Q1 P2 Q2 P3 Q3 P4 Q4 P5 Q5 P6 Q6 P7 Q7 P8 Q8 P9 Q9 P10 Q10 P11 Q11 G : Prop} (x0 : Hid P0) (x1 : Hid P1) (x2 : Hid P2) (x3 : Hid P3) (x4 : Hid P4) (x5 : Hid P5) (x6 : Hid P6) (x7 : Hid P7) (x8 : Hid P8) (x9 : Hid P9) (x10 : Hid P10) (x11 : Hid P11) (k : Hid Q0 → Hid Q1 → Hid Q2 → Hid Q3 → Hid Q4 → Hid Q5 → Hid Q6 → Hid Q7 → Hid Q8 → Hid Q9 → Hid Q10 → Hid Q11 → G) (c0 : P0 → Q0 := by exact gy_t) (c1 : P1 → Q1 := by exact gy_t) (c2 : P2 → Q2 := by exact gy_t) (c3 : P3 → Q3 := by exact gy_t) (c4 : P4 → Q4 := by exact gy_t) (c5 : P5 → Q5 := by exact gy_t) (c6 : P6 → Q6 := by exact gy_t) (c7 : P7 → Q7 := by exact gy_t) (c8 : P8 → Q8 := by exact gy_t) (c9 : P9 → Q9 := by exact gy_t) (c10 : P10 → Q10 := by exact gy_t) (c11 : P11 → Q11 := by exact gy_t) : G := k (c0 x0) (c1 x1) (c2 x2) (c3 x3) (c4 x4) (c5 x5) (c6 x6) (c7 x7) (c8 x8) (c9 x9) (c10 x10) (c11 x11)
theorem cx_t {P Q : Prop} (h : P → Q := by exact fun x => InX.keep x (KeepX.below hb) hm2) : P → Q := h
theorem cx2 {P0 Q0 P1 Q1 G : Prop} (x0 : Hid P0) (x1 : Hid P1) (k : Hid Q0 → Hid Q1 → G) (c0 : P0 → Q0 := by exact cx_t) (c1 : P1 → Q1 := by exact cx_t) : G := k (c0 x0) (c1 x1)
theorem cx4 {P0 Q0 P1 Q1 P2 Q2 P3 Q3 G : Prop} (x0 : Hid P0) (x1 : Hid P1) (x2 : Hid P2) (x3 : Hid P3) (k : Hid Q0 → Hid Q1 → Hid Q2 → Hid Q3 → G) (c0 : P0 → Q0 := by exact cx_t) (c1 : P1 → Q1 := by exact cx_t) (c2 : P2 → Q2 := by exact cx_t) (c3 : P3 → Q3 := by exact cx_t) : G := k (c0 x0) (c1 x1) (c2 x2) (c3 x3)
theorem gx_t {P Q : Prop} (h : P → Q := by exact fun x => InX.keep x (KeepX.grown hg (fun z hz => by cases hz; exact HW.out.inL (by simp))) (MoreX.refl _ _)) : P → Q := h
theorem gx2 {P0 Q0 P1 Q1 G : Prop} (x0 : Hid P0) (x1 : Hid P1) (k : Hid Q0 → Hid Q1 → G) (c0 : P0 → Q0 := by exact gx_t) (c1 : P1 → Q1 := by exact gx_t) : G := k (c0 x0) (c1 x1)
theorem gx4 {P0 Q0 P1 Q1 P2 Q2 P3 Q3 G : Prop} (x0 : Hid P0) (x1 : Hid P1) (x2 : Hid P2) (x3 : Hid P3) (k : Hid Q0 → Hid Q1 → Hid Q2 → Hid Q3 → G) (c0 : P0 → Q0 := by exact gx_t) (c1 : P1 → Q1 := by exact gx_t) (c2 : P2 → Q2 := by exact gx_t) (c3 : P3 → Q3 := by exact gx_t) : G := k (c0 x0) (c1 x1) (c2 x2) (c3 x3)
theorem l_a {α : Type} (l : List α) (i : Nat) : l.toArray[i]? = l[i]? := List.getElem?_toArray ..
theorem l_b {α : Type} (x : α) (l : List α) (i : Nat) : (x :: l)[i + 1]? = l[i]? := List.getElem?_cons_succ ..
theorem l_c {α : Type} (x : α) (l : List α) : (x :: l)[0]? = some x := List.getElem?_cons_zero ..
theorem op_al {P : Program} {o : Oper} {a : Act} {w : World} {K : Act → World → Prop} {Q : Exit → Act → World → Prop} (cs : Array Value) (t : TypeId) (k : ∀ (b : Nat) (w' : World), Hid (Blk w' b t cs) → Below w.heap.size w w' → w.heap.size ≤ b ∧ b < w'.heap.size → K (a.put o.dst (.pointer (some ⟨b, 0, none⟩))) w') (h : (execOp a.eval o).run P w = .ok (.value (.pointer (some ⟨w.heap.size, 0, none⟩))) (w.alloc (.cells cs t)) := by (go_simp; try rfl)) : o.wp P a w K Q := op_alloc h k
theorem a_t {a a' : Act} (h : a = a' := by first | ((simp only [Act.put, p_a, p_b, p_c]) <;> rfl) | rfl) : a = a' := h
theorem sh {T K : Act → World → Prop} {a a' : Act} {w : World} (hK : Shut (∀ a w, T a w → K a w)) (k : T a' w) (e : a = a' := by exact a_t) : K a w := by subst e; exact hK.out _ _ k
theorem sr {T K : Act → World → Prop} {R : World → World → Prop} {a a' : Act} {w w' : World} (hK : Shut (∀ a w', R w w' → T a w' → K a w')) (k : T a' w') (r : R w w' := by first | exact hb | exact Below.refl _ _ | exact hb.mono (by have q := HN.out; omega)) (e : a = a' := by exact a_t) : K a w' := by subst e; exact hK.out _ _ r k
theorem ce_t {P : Prop} (h : P := by first | exact fun u q => q | exact fun u q => (keepL_cell hw' (by simp)).trans q | exact fun u q => (hw'.cell (cell_lt q)).trans q | exact fun u q => (HB.out.cell (cell_lt q)).trans q) : P := h
theorem aj {a b : Prop} (x : a) (y : b) : a ∧ b := ⟨x, y⟩
theorem k_t {P : Program} {o : Oper} {a : Act} {w : World} {f : Nat} {args : Array Value} {Q : Exit → Act → World → Prop} (h : ∀ K : Act → World → Prop, Calls P f args w (fun e w' => ∃ v, e = .returned v ∧ K (a.put o.dst v) w') → o.wp P a w K Q := by (intro K h; go_simp; refine h.mono ?_; rintro e w' ⟨v, rfl, h⟩; go_simp; exact h)) : ∀ K : Act → World → Prop, Calls P f args w (fun e w' => ∃ v, e = .returned v ∧ K (a.put o.dst v) w') → o.wp P a w K Q := h
theorem n_t {P : Program} {ty : TypeId} {n : Nat} (h : (P.info? ty).map (·.size) = some n := by first | exact info_mm | exact info_wld | exact info_tt | exact info_cm | exact info_wt | exact info_wi | exact info_frc | exact info_wld2 | exact info_wd) : (P.info? ty).map (·.size) = some n := h
theorem e_t {cells : Array Value} (h : cells.all (·.oneCell') = true := by first | exact one_mm _ _ _ _ _ _ _ _ _ _ _ | exact one_wld HW.out | exact one_tt _ _ _ | exact one_cm _ _ _ _ _ _ _ _ _ _ _ _ _ _ _ _ _ | exact one_wt _ _ _ _ | exact one_wi _ _ _ _ _ | exact one_frc _ _ _ _ | exact one_wld HW3) : cells.all (·.oneCell') = true := h
theorem op_rw {P : Program} {o : Oper} {a : Act} {w : World} {K : Act → World → Prop} {Q : Exit → Act → World → Prop} {b : Nat} {t ty : TypeId} {old : Array Value} {x y : Operand} (g : Hid (Blk w b t old)) (cells : Array Value) (k : ∀ w' : World, Hid (Blk w b t old) → Hid (Blk w' b t cells) → w.grownBy w' (some b) → w'.heap.size = w.heap.size → K (a.put o.dst undef) w') (ho : o.op = .store ty x y := by rfl) (hx : a.eval x = .pointer (some ⟨b, 0, none⟩) := by rfl) (hy : a.eval y = .agg cells := by rfl)
    (hi : (P.info? ty).map (·.size) = some cells.size := by exact n_t) (hold : old.size = cells.size := by rfl) (h1 : cells.all (·.oneCell') = true := by exact e_t) : o.wp P a w K Q := op_row ty x y ho b cells old t hx hy g.out hi hold h1 (fun w' n => k w' g n)
theorem ce6 {w w' : World} {g o : Nat} {v0 v1 v2 v3 v4 v5 : Value} (h : ∀ n u, #[v0, v1, v2, v3, v4, v5][n]? = some u → w.cell? ⟨g, o + n, none⟩ = some u) (c : ∀ {n} u, w.cell? ⟨g, n, none⟩ = some u → w'.cell? ⟨g, n, none⟩ = some u := by exact ce_t) : w'.cell? ⟨g, o, none⟩ = some v0 ∧ w'.cell? ⟨g, o + 1, none⟩ = some v1 ∧ w'.cell? ⟨g, o + 2, none⟩ = some v2 ∧ w'.cell? ⟨g, o + 3, none⟩ = some v3 ∧ w'.cell? ⟨g, o + 4, none⟩ = some v4 ∧ w'.cell? ⟨g, o + 5, none⟩ = some v5 := ⟨c _ (h 0 _ rfl), c _ (h 1 _ rfl), c _ (h 2 _ rfl), c _ (h 3 _ rfl), c _ (h 4 _ rfl), c _ (h 5 _ rfl)⟩
theorem ce7 {w w' : World} {g o : Nat} {v0 v1 v2 v3 v4 v5 v6 : Value} (h : ∀ n u, #[v0, v1, v2, v3, v4, v5, v6][n]? = some u → w.cell? ⟨g, o + n, none⟩ = some u) (c : ∀ {n} u, w.cell? ⟨g, n, none⟩ = some u → w'.cell? ⟨g, n, none⟩ = some u := by exact ce_t) : w'.cell? ⟨g, o, none⟩ = some v0 ∧ w'.cell? ⟨g, o + 1, none⟩ = some v1 ∧ w'.cell? ⟨g, o + 2, none⟩ = some v2 ∧ w'.cell? ⟨g, o + 3, none⟩ = some v3 ∧ w'.cell? ⟨g, o + 4, none⟩ = some v4 ∧ w'.cell? ⟨g, o + 5, none⟩ = some v5 ∧ w'.cell? ⟨g, o + 6, none⟩ = some v6 := ⟨c _ (h 0 _ rfl), c _ (h 1 _ rfl), c _ (h 2 _ rfl), c _ (h 3 _ rfl), c _ (h 4 _ rfl), c _ (h 5 _ rfl), c _ (h 6 _ rfl)⟩
theorem ce13 {w w' : World} {g o : Nat} {v0 v1 v2 v3 v4 v5 v6 v7 v8 v9 v10 v11 v12 : Value} (h : ∀ n u, #[v0, v1, v2, v3, v4, v5, v6, v7, v8, v9, v10, v11, v12][n]? = some u → w.cell? ⟨g, o + n, none⟩ = some u) (c : ∀ {n} u, w.cell? ⟨g, n, none⟩ = some u → w'.cell? ⟨g, n, none⟩ = some u := by exact ce_t) : w'.cell? ⟨g, o, none⟩ = some v0 ∧ w'.cell? ⟨g, o + 1, none⟩ = some v1 ∧ w'.cell? ⟨g, o + 2, none⟩ = some v2 ∧ w'.cell? ⟨g, o + 3, none⟩ = some v3 ∧ w'.cell? ⟨g, o + 4, none⟩ = some v4 ∧ w'.cell? ⟨g, o + 5, none⟩ = some v5 ∧ w'.cell? ⟨g, o + 6, none⟩ = some v6 ∧ w'.cell? ⟨g, o + 7, none⟩ = some v7 ∧ w'.cell? ⟨g, o + 8, none⟩ = some v8 ∧ w'.cell? ⟨g, o + 9, none⟩ = some v9 ∧ w'.cell? ⟨g, o + 10, none⟩ = some v10 ∧ w'.cell? ⟨g, o + 11, none⟩ = some v11 ∧ w'.cell? ⟨g, o + 12, none⟩ = some v12 := ⟨c _ (h 0 _ rfl), c _ (h 1 _ rfl), c _ (h 2 _ rfl), c _ (h 3 _ rfl), c _ (h 4 _ rfl), c _ (h 5 _ rfl), c _ (h 6 _ rfl), c _ (h 7 _ rfl), c _ (h 8 _ rfl), c _ (h 9 _ rfl), c _ (h 10 _ rfl), c _ (h 11 _ rfl), c _ (h 12 _ rfl)⟩
theorem hd3 {P0 P1 P2 : Prop} (h0 : P0) (h1 : P1) (h2 : P2) : Hid P0 ∧ Hid P1 ∧ Hid P2 := ⟨h0, h1, h2⟩
theorem hd4 {P0 P1 P2 P3 : Prop} (h0 : P0) (h1 : P1) (h2 : P2) (h3 : P3) : Hid P0 ∧ Hid P1 ∧ Hid P2 ∧ Hid P3 := ⟨h0, h1, h2, h3⟩
theorem hd5 {P0 P1 P2 P3 P4 : Prop} (h0 : P0) (h1 : P1) (h2 : P2) (h3 : P3) (h4 : P4) : Hid P0 ∧ Hid P1 ∧ Hid P2 ∧ Hid P3 ∧ Hid P4 := ⟨h0, h1, h2, h3, h4⟩
theorem hd6 {P0 P1 P2 P3 P4 P5 : Prop} (h0 : P0) (h1 : P1) (h2 : P2) (h3 : P3) (h4 : P4) (h5 : P5) : Hid P0 ∧ Hid P1 ∧ Hid P2 ∧ Hid P3 ∧ Hid P4 ∧ Hid P5 := ⟨h0, h1, h2, h3, h4, h5⟩
theorem hd8 {P0 P1 P2 P3 P4 P5 P6 P7 : Prop} (h0 : P0) (h1 : P1) (h2 : P2) (h3 : P3) (h4 : P4) (h5 : P5) (h6 : P6) (h7 : P7) : Hid P0 ∧ Hid P1 ∧ Hid P2 ∧ Hid P3 ∧ Hid P4 ∧ Hid P5 ∧ Hid P6 ∧ Hid P7 := ⟨h0, h1, h2, h3, h4, h5, h6, h7⟩
section
variable {P : Program} {ops : Array Oper} {Q : Exit → Act → World → Prop} {md : Region.Mode} {R : World → World → Prop} {w : World} {fuel : Nat} {listed : Array Bool}
theorem r_g {a : Act} (R : World → World → Prop) {id : Nat} (h : ∀ w', Below w.heap.size w w' → w'.heap.size = w.heap.size → WR P .any ops Q R ops.size (Array.replicate ops.size false) a w') (hm : P.follows .mixedOrders = true := by kernel_rfl) : (Code.region id ops true).wp P Q a w := r_i R (h w.drew (Below.refl _ _).drew rfl) hm
theorem w_a {a : Act} {a' : Nat → Act} {rest : List Oper} {o : Oper} (cs : Array Value) (t : TypeId) (k : ∀ (b : Nat) (w' : World), Hid (Blk w' b t cs) → Below w.heap.size w w' → w.heap.size ≤ b ∧ b < w'.heap.size → WL P ops Q rest (a' b) w') (hg : Region.wanted o (yielded ops a.tmps) = true := by rfl) (h : (execOp a.eval o).run P w = .ok (.value (.pointer (some ⟨w.heap.size, 0, none⟩))) (w.alloc (.cells cs t)) := by (go_simp; try rfl)) (e : ∀ b, a.put o.dst (.pointer (some ⟨b, 0, none⟩)) = a' b := by (intro b; exact a_t)) : WL P ops Q (o :: rest) a w := w_1 (fun _ hK => op_alloc h (fun b w' x y z => hK.out _ _ (e b ▸ k b w' x y z))) hg
theorem w_k {a : Act} {o : Oper} {rest : List Oper} {f : Nat} {args : Array Value} {post : Ending → World → Prop} (hc : Calls P f args w post) (k : ∀ e w', post e w' → ∃ v, e = .returned v ∧ WL P ops Q rest (a.put o.dst v) w') (hg : Region.wanted o (yielded ops a.tmps) = true := by rfl) (h : ∀ K : Act → World → Prop, Calls P f args w (fun e w' => ∃ v, e = .returned v ∧ K (a.put o.dst v) w') → o.wp P a w K Q := by exact k_t) : WL P ops Q (o :: rest) a w := w_1 (fun K hK => h K (hc.mono fun e w' q => by obtain ⟨v, e, r⟩ := k e w' q; exact ⟨v, e, hK.out _ _ r⟩)) hg
theorem s_k {a a' : Act} {rest : List Oper} {d : Option Nat} {v : Value} (k : WL P ops Q rest a' w) (e : a.put d v = a' := by exact a_t) : ∃ v', Ending.returned v = .returned v' ∧ WL P ops Q rest (a.put d v') w := ⟨v, rfl, e ▸ k⟩
theorem r_k {a : Act} {o : Oper} {f : Nat} {args : Array Value} {post : Ending → World → Prop} (i : Nat) (hc : Calls P f args w post) (k : ∀ e w', post e w' → ∃ v, e = .returned v ∧ R w w' ∧ WR P md ops Q R fuel (listed.setIfInBounds i true) (a.put o.dst v) w') (hr : Region.ready md ops listed = [i] := by kernel_rfl) (ho : ops[i]? = some o := by exact o_t) (hg : Region.wanted o (yielded ops a.tmps) = true := by rfl)
    (h : ∀ K : Act → World → Prop, Calls P f args w (fun e w' => ∃ v, e = .returned v ∧ K (a.put o.dst v) w') → o.wp P a w K Q := by exact k_t) : WR P md ops Q R (fuel + 1) listed a w := r_1 i (fun K hK => h K (hc.mono fun e w' q => by obtain ⟨v, e, r, s⟩ := k e w' q; exact ⟨v, e, hK.out _ _ r s⟩)) hr ho hg
theorem s_r {a a' : Act} {d : Option Nat} {v : Value} {w' : World} (k : WR P md ops Q R fuel listed a' w') (r : R w w' := by first | exact hb | exact Below.refl _ _ | exact hb.mono (by have q := HN.out; omega)) (e : a.put d v = a' := by exact a_t) : ∃ v', Ending.returned v = .returned v' ∧ R w w' ∧ WR P md ops Q R fuel listed (a.put d v') w' := ⟨v, rfl, r, e ▸ k⟩
theorem w_s {a a' : Act} {rest : List Oper} {o : Oper} {b : Nat} {t ty : TypeId} {old : Array Value} {x y : Operand} (g : Hid (Blk w b t old)) (cells : Array Value) (k : ∀ w' : World, Hid (Blk w b t old) → Hid (Blk w' b t cells) → w.grownBy w' (some b) → w'.heap.size = w.heap.size → WL P ops Q rest a' w') (hg : Region.wanted o (yielded ops a.tmps) = true := by rfl) (ho : o.op = .store ty x y := by rfl) (hx : a.eval x = .pointer (some ⟨b, 0, none⟩) := by rfl) (hy : a.eval y = .agg cells := by rfl)
    (hi : (P.info? ty).map (·.size) = some cells.size := by exact n_t) (hold : old.size = cells.size := by rfl) (h1 : cells.all (·.oneCell') = true := by exact e_t) (e : a.put o.dst undef = a' := by exact a_t) : WL P ops Q (o :: rest) a w := w_1 (fun _ hK => op_rw g cells (fun w' m n p q => hK.out _ _ (e ▸ k w' m n p q)) ho hx hy hi hold h1) hg
theorem o_t {o : Oper} {i : Nat} (h : ops[i]? = some o := by (simp only [List.getElem?_toArray, List.getElem?_cons_succ, List.getElem?_cons_zero] <;> rfl)) : ops[i]? = some o := h
theorem u_t {cs : Array Value} {u : Value} {i : Nat} (h : cs[i]? = some u := by (simp only [List.getElem?_toArray, List.getElem?_cons_succ, List.getElem?_cons_zero] <;> rfl)) : cs[i]? = some u := h
theorem p_t (h : Pre R := by (first | exact laterPre | exact belowPre _ | exact keepLPre _ | exact keepCPre _)) : Pre R := h
theorem b_t {w w1 : World} {b : Nat} {t : TypeId} {cs : Array Value} (c : Blk w1 b t cs → ∀ w', R w w' → Blk w' b t cs := by first | exact fun x w' hw' => x.below hw' | exact fun x w' hw' => Blk.below0 x hw' (by have q := HN.out; omega) | exact fun x w' hw' => Blk.keepL x hw' (by simp)) : Blk w1 b t cs → ∀ w', R w w' → Blk w' b t cs := c
theorem w_b {a a' : Act} {w1 : World} {rest : List Oper} {o : Oper} {v u : Value} {b : Nat} {t : TypeId} {cs : Array Value} (x : Hid (Blk w1 b t cs)) (j : Nat) (k : WL P ops Q rest a' w) (c : Blk w1 b t cs → Blk w b t cs := by exact fun x => x) (e : cs[j]? = some u := by exact u_t) (hg : Region.wanted o (yielded ops a.tmps) = true := by rfl) (h : w.cell? ⟨b, j, none⟩ = some u → (execOp a.eval o).run P w = .ok (.value v) w := by (intro x; go_simp; all_goals rfl))
    (ha : a.put o.dst v = a' := by exact a_t) : WL P ops Q (o :: rest) a w := w_t (h (((c x).cell j).trans e)) k hg ha
theorem r_b {a a' : Act} {w1 : World} {o : Oper} {v u : Value} {b : Nat} {t : TypeId} {cs : Array Value} (i : Nat) (x : Hid (Blk w1 b t cs)) (j : Nat) (k : WR P md ops Q R fuel (listed.setIfInBounds i true) a' w) (c : Blk w1 b t cs → ∀ w', R w w' → Blk w' b t cs := by exact b_t) (e : cs[j]? = some u := by exact u_t) (hc : frB md ops listed i = true := by kernel_rfl) (ho : ops[i]? = some o := by exact o_t) (hg : Region.wanted o (yielded ops a.tmps) = true := by rfl)
    (h : ∀ w', w'.cell? ⟨b, j, none⟩ = some u → (execOp a.eval o).run P w' = .ok (.value v) w' := by (intro w' x; go_simp; all_goals rfl)) (hP : Pre R := by exact p_t) (hQ : ∀ c a w, Q (.panic c) (a.put o.dst v) w → Q (.panic c) a w := by exact fun _ _ _ h => h) (ha : a.put o.dst v = a' := by exact a_t) : WR P md ops Q R (fuel + 1) listed a w :=
  r_t i (fun w' hw' => h w' (((c x w' hw').cell j).trans e)) k hc ho hg hP hQ ha
theorem w_c {a a' : Act} {w1 : World} {rest : List Oper} {o : Oper} {v : Value} {b : Nat} {t : TypeId} {cs : Array Value} (x : Hid (Blk w1 b t cs)) (k : WL P ops Q rest a' w) (c : Blk w1 b t cs → Blk w b t cs := by exact fun x => x) (hg : Region.wanted o (yielded ops a.tmps) = true := by rfl)
    (h : Blk w b t cs → (execOp a.eval o).run P w = .ok (.value v) w := by (intro x; (first | (have x := x.c13) | (have x := x.c10) | (have x := x.c7) | (have x := x.c6) | (have x := x.c4) | (have x := x.c3) | (have x := x.c2)); go_simp; all_goals rfl)) (ha : a.put o.dst v = a' := by exact a_t) : WL P ops Q (o :: rest) a w := w_t (h (c x)) k hg ha
theorem r_q2 {a0 a1 a2 : Act} {o0 o1 : Oper} {v0 v1 : Value} (i0 i1 : Nat) (k : WR P md ops Q R fuel ((listed.setIfInBounds i0 true).setIfInBounds i1 true) a2 w) (hc0 : frB md ops listed i0 = true := by kernel_rfl) (ho0 : ops[i0]? = some o0 := by exact o_t) (hg0 : Region.wanted o0 (yielded ops a0.tmps) = true := by rfl) (h0 : ∀ w', R w w' → (execOp a0.eval o0).run P w' = .ok (.value v0) w' := by (intro w' hw'; go_simp; all_goals rfl)) (hP0 : Pre R := by exact p_t) (hQ0 : ∀ c a w, Q (.panic c) (a.put o0.dst v0) w → Q (.panic c) a w := by exact fun _ _ _ h => h) (ha0 : a0.put o0.dst v0 = a1 := by exact a_t) (hc1 : frB md ops (listed.setIfInBounds i0 true) i1 = true := by kernel_rfl) (ho1 : ops[i1]? = some o1 := by exact o_t) (hg1 : Region.wanted o1 (yielded ops a1.tmps) = true := by rfl) (h1 : ∀ w', R w w' → (execOp a1.eval o1).run P w' = .ok (.value v1) w' := by (intro w' hw'; go_simp; all_goals rfl)) (hP1 : Pre R := by exact p_t) (hQ1 : ∀ c a w, Q (.panic c) (a.put o1.dst v1) w → Q (.panic c) a w := by exact fun _ _ _ h => h) (ha1 : a1.put o1.dst v1 = a2 := by exact a_t) : WR P md ops Q R (fuel + 2) listed a0 w := r_q i0 (r_q i1 (k) hc1 ho1 hg1 h1 hP1 hQ1 ha1) hc0 ho0 hg0 h0 hP0 hQ0 ha0
theorem r_q3 {a0 a1 a2 a3 : Act} {o0 o1 o2 : Oper} {v0 v1 v2 : Value} (i0 i1 i2 : Nat) (k : WR P md ops Q R fuel (((listed.setIfInBounds i0 true).setIfInBounds i1 true).setIfInBounds i2 true) a3 w) (hc0 : frB md ops listed i0 = true := by kernel_rfl) (ho0 : ops[i0]? = some o0 := by exact o_t) (hg0 : Region.wanted o0 (yielded ops a0.tmps) = true := by rfl) (h0 : ∀ w', R w w' → (execOp a0.eval o0).run P w' = .ok (.value v0) w' := by (intro w' hw'; go_simp; all_goals rfl)) (hP0 : Pre R := by exact p_t) (hQ0 : ∀ c a w, Q (.panic c) (a.put o0.dst v0) w → Q (.panic c) a w := by exact fun _ _ _ h => h) (ha0 : a0.put o0.dst v0 = a1 := by exact a_t) (hc1 : frB md ops (listed.setIfInBounds i0 true) i1 = true := by kernel_rfl) (ho1 : ops[i1]? = some o1 := by exact o_t) (hg1 : Region.wanted o1 (yielded ops a1.tmps) = true := by rfl) (h1 : ∀ w', R w w' → (execOp a1.eval o1).run P w' = .ok (.value v1) w' := by (intro w' hw'; go_simp; all_goals rfl)) (hP1 : Pre R := by exact p_t) (hQ1 : ∀ c a w, Q (.panic c) (a.put o1.dst v1) w → Q (.panic c) a w := by exact fun _ _ _ h => h) (ha1 : a1.put o1.dst v1 = a2 := by exact a_t) (hc2 : frB md ops ((listed.setIfInBounds i0 true).setIfInBounds i1 true) i2 = true := by kernel_rfl) (ho2 : ops[i2]? = some o2 := by exact o_t) (hg2 : Region.wanted o2 (yielded ops a2.tmps) = true := by rfl) (h2 : ∀ w', R w w' → (execOp a2.eval o2).run P w' = .ok (.value v2) w' := by (intro w' hw'; go_simp; all_goals rfl)) (hP2 : Pre R := by exact p_t) (hQ2 : ∀ c a w, Q (.panic c) (a.put o2.dst v2) w → Q (.panic c) a w := by exact fun _ _ _ h => h) (ha2 : a2.put o2.dst v2 = a3 := by exact a_t) : WR P md ops Q R (fuel + 3) listed a0 w := r_q i0 (r_q i1 (r_q i2 (k) hc2 ho2 hg2 h2 hP2 hQ2 ha2) hc1 ho1 hg1 h1 hP1 hQ1 ha1) hc0 ho0 hg0 h0 hP0 hQ0 ha0
theorem r_q4 {a0 a1 a2 a3 a4 : Act} {o0 o1 o2 o3 : Oper} {v0 v1 v2 v3 : Value} (i0 i1 i2 i3 : Nat) (k : WR P md ops Q R fuel ((((listed.setIfInBounds i0 true).setIfInBounds i1 true).setIfInBounds i2 true).setIfInBounds i3 true) a4 w) (hc0 : frB md ops listed i0 = true := by kernel_rfl) (ho0 : ops[i0]? = some o0 := by exact o_t) (hg0 : Region.wanted o0 (yielded ops a0.tmps) = true := by rfl) (h0 : ∀ w', R w w' → (execOp a0.eval o0).run P w' = .ok (.value v0) w' := by (intro w' hw'; go_simp; all_goals rfl)) (hP0 : Pre R := by exact p_t) (hQ0 : ∀ c a w, Q (.panic c) (a.put o0.dst v0) w → Q (.panic c) a w := by exact fun _ _ _ h => h) (ha0 : a0.put o0.dst v0 = a1 := by exact a_t) (hc1 : frB md ops (listed.setIfInBounds i0 true) i1 = true := by kernel_rfl) (ho1 : ops[i1]? = some o1 := by exact o_t) (hg1 : Region.wanted o1 (yielded ops a1.tmps) = true := by rfl) (h1 : ∀ w', R w w' → (execOp a1.eval o1).run P w' = .ok (.value v1) w' := by (intro w' hw'; go_simp; all_goals rfl)) (hP1 : Pre R := by exact p_t) (hQ1 : ∀ c a w, Q (.panic c) (a.put o1.dst v1) w → Q (.panic c) a w := by exact fun _ _ _ h => h) (ha1 : a1.put o1.dst v1 = a2 := by exact a_t) (hc2 : frB md ops ((listed.setIfInBounds i0 true).setIfInBounds i1 true) i2 = true := by kernel_rfl) (ho2 : ops[i2]? = some o2 := by exact o_t) (hg2 : Region.wanted o2 (yielded ops a2.tmps) = true := by rfl) (h2 : ∀ w', R w w' → (execOp a2.eval o2).run P w' = .ok (.value v2) w' := by (intro w' hw'; go_simp; all_goals rfl)) (hP2 : Pre R := by exact p_t) (hQ2 : ∀ c a w, Q (.panic c) (a.put o2.dst v2) w → Q (.panic c) a w := by exact fun _ _ _ h => h) (ha2 : a2.put o2.dst v2 = a3 := by exact a_t) (hc3 : frB md ops (((listed.setIfInBounds i0 true).setIfInBounds i1 true).setIfInBounds i2 true) i3 = true := by kernel_rfl) (ho3 : ops[i3]? = some o3 := by exact o_t) (hg3 : Region.wanted o3 (yielded ops a3.tmps) = true := by rfl) (h3 : ∀ w', R w w' → (execOp a3.eval o3).run P w' = .ok (.value v3) w' := by (intro w' hw'; go_simp; all_goals rfl)) (hP3 : Pre R := by exact p_t) (hQ3 : ∀ c a w, Q (.panic c) (a.put o3.dst v3) w → Q (.panic c) a w := by exact fun _ _ _ h => h) (ha3 : a3.put o3.dst v3 = a4 := by exact a_t) : WR P md ops Q R (fuel + 4) listed a0 w := r_q i0 (r_q i1 (r_q i2 (r_q i3 (k) hc3 ho3 hg3 h3 hP3 hQ3 ha3) hc2 ho2 hg2 h2 hP2 hQ2 ha2) hc1 ho1 hg1 h1 hP1 hQ1 ha1) hc0 ho0 hg0 h0 hP0 hQ0 ha0
theorem r_n2 {a0 a1 a2 : Act} {o0 o1 : Oper} (i0 i1 : Nat) (k : WR P md ops Q R fuel ((listed.setIfInBounds i0 true).setIfInBounds i1 true) a2 w) (hc0 : frB md ops listed i0 = true := by kernel_rfl) (ho0 : ops[i0]? = some o0 := by exact o_t) (hg0 : Region.wanted o0 (yielded ops a0.tmps) = false := by rfl) (hP0 : Pre R := by exact p_t) (hQ0 : ∀ c a w, Q (.panic c) (a.put o0.dst undef) w → Q (.panic c) a w := by exact fun _ _ _ h => h) (ha0 : a0.put o0.dst undef = a1 := by exact a_t) (hc1 : frB md ops (listed.setIfInBounds i0 true) i1 = true := by kernel_rfl) (ho1 : ops[i1]? = some o1 := by exact o_t) (hg1 : Region.wanted o1 (yielded ops a1.tmps) = false := by rfl) (hP1 : Pre R := by exact p_t) (hQ1 : ∀ c a w, Q (.panic c) (a.put o1.dst undef) w → Q (.panic c) a w := by exact fun _ _ _ h => h) (ha1 : a1.put o1.dst undef = a2 := by exact a_t) : WR P md ops Q R (fuel + 2) listed a0 w := r_n i0 (r_n i1 (k) hc1 ho1 hg1 hP1 hQ1 ha1) hc0 ho0 hg0 hP0 hQ0 ha0
theorem r_n3 {a0 a1 a2 a3 : Act} {o0 o1 o2 : Oper} (i0 i1 i2 : Nat) (k : WR P md ops Q R fuel (((listed.setIfInBounds i0 true).setIfInBounds i1 true).setIfInBounds i2 true) a3 w) (hc0 : frB md ops listed i0 = true := by kernel_rfl) (ho0 : ops[i0]? = some o0 := by exact o_t) (hg0 : Region.wanted o0 (yielded ops a0.tmps) = false := by rfl) (hP0 : Pre R := by exact p_t) (hQ0 : ∀ c a w, Q (.panic c) (a.put o0.dst undef) w → Q (.panic c) a w := by exact fun _ _ _ h => h) (ha0 : a0.put o0.dst undef = a1 := by exact a_t) (hc1 : frB md ops (listed.setIfInBounds i0 true) i1 = true := by kernel_rfl) (ho1 : ops[i1]? = some o1 := by exact o_t) (hg1 : Region.wanted o1 (yielded ops a1.tmps) = false := by rfl) (hP1 : Pre R := by exact p_t) (hQ1 : ∀ c a w, Q (.panic c) (a.put o1.dst undef) w → Q (.panic c) a w := by exact fun _ _ _ h => h) (ha1 : a1.put o1.dst undef = a2 := by exact a_t) (hc2 : frB md ops ((listed.setIfInBounds i0 true).setIfInBounds i1 true) i2 = true := by kernel_rfl) (ho2 : ops[i2]? = some o2 := by exact o_t) (hg2 : Region.wanted o2 (yielded ops a2.tmps) = false := by rfl) (hP2 : Pre R := by exact p_t) (hQ2 : ∀ c a w, Q (.panic c) (a.put o2.dst undef) w → Q (.panic c) a w := by exact fun _ _ _ h => h) (ha2 : a2.put o2.dst undef = a3 := by exact a_t) : WR P md ops Q R (fuel + 3) listed a0 w := r_n i0 (r_n i1 (r_n i2 (k) hc2 ho2 hg2 hP2 hQ2 ha2) hc1 ho1 hg1 hP1 hQ1 ha1) hc0 ho0 hg0 hP0 hQ0 ha0
theorem r_n4 {a0 a1 a2 a3 a4 : Act} {o0 o1 o2 o3 : Oper} (i0 i1 i2 i3 : Nat) (k : WR P md ops Q R fuel ((((listed.setIfInBounds i0 true).setIfInBounds i1 true).setIfInBounds i2 true).setIfInBounds i3 true) a4 w) (hc0 : frB md ops listed i0 = true := by kernel_rfl) (ho0 : ops[i0]? = some o0 := by exact o_t) (hg0 : Region.wanted o0 (yielded ops a0.tmps) = false := by rfl) (hP0 : Pre R := by exact p_t) (hQ0 : ∀ c a w, Q (.panic c) (a.put o0.dst undef) w → Q (.panic c) a w := by exact fun _ _ _ h => h) (ha0 : a0.put o0.dst undef = a1 := by exact a_t) (hc1 : frB md ops (listed.setIfInBounds i0 true) i1 = true := by kernel_rfl) (ho1 : ops[i1]? = some o1 := by exact o_t) (hg1 : Region.wanted o1 (yielded ops a1.tmps) = false := by rfl) (hP1 : Pre R := by exact p_t) (hQ1 : ∀ c a w, Q (.panic c) (a.put o1.dst undef) w → Q (.panic c) a w := by exact fun _ _ _ h => h) (ha1 : a1.put o1.dst undef = a2 := by exact a_t) (hc2 : frB md ops ((listed.setIfInBounds i0 true).setIfInBounds i1 true) i2 = true := by kernel_rfl) (ho2 : ops[i2]? = some o2 := by exact o_t) (hg2 : Region.wanted o2 (yielded ops a2.tmps) = false := by rfl) (hP2 : Pre R := by exact p_t) (hQ2 : ∀ c a w, Q (.panic c) (a.put o2.dst undef) w → Q (.panic c) a w := by exact fun _ _ _ h => h) (ha2 : a2.put o2.dst undef = a3 := by exact a_t) (hc3 : frB md ops (((listed.setIfInBounds i0 true).setIfInBounds i1 true).setIfInBounds i2 true) i3 = true := by kernel_rfl) (ho3 : ops[i3]? = some o3 := by exact o_t) (hg3 : Region.wanted o3 (yielded ops a3.tmps) = false := by rfl) (hP3 : Pre R := by exact p_t) (hQ3 : ∀ c a w, Q (.panic c) (a.put o3.dst undef) w → Q (.panic c) a w := by exact fun _ _ _ h => h) (ha3 : a3.put o3.dst undef = a4 := by exact a_t) : WR P md ops Q R (fuel + 4) listed a0 w := r_n i0 (r_n i1 (r_n i2 (r_n i3 (k) hc3 ho3 hg3 hP3 hQ3 ha3) hc2 ho2 hg2 hP2 hQ2 ha2) hc1 ho1 hg1 hP1 hQ1 ha1) hc0 ho0 hg0 hP0 hQ0 ha0
end
def ListR {α : Type} (R : α → List Value → Prop) : List α → List Value → Prop
  | [], cs => cs = []
  | a :: l, cs => ∃ c cs', cs = c ++ cs' ∧ R a c ∧ ListR R l cs'
section
variable {α : Type} {R R' : α → List Value → Prop} {n : Nat}
theorem ListR.mono (h : ∀ a c, R a c → R' a c) : ∀ {l : List α} {cs : List Value}, ListR R l cs → ListR R' l cs
  | [], _, q => q
  | _ :: _, _, ⟨c, cs', e, q1, q2⟩ => ⟨c, cs', e, h _ _ q1, ListR.mono h q2⟩
theorem ListR.len (h : ∀ a c, R a c → c.length = n) : ∀ {l : List α} {cs : List Value}, ListR R l cs → cs.length = l.length * n
  | [], _, q => by rw [show _ = [] from q]; simp
  | _ :: l, _, ⟨c, cs', e, q1, q2⟩ => by rw [e, List.length_append, h _ _ q1, ListR.len h q2, List.length_cons, Nat.succ_mul, Nat.add_comm]
theorem ListR.app : ∀ {l k : List α} {cs ds : List Value}, ListR R l cs → ListR R k ds → ListR R (l ++ k) (cs ++ ds)
  | [], _, _, _, q, p => by rw [show _ = [] from q]; exact p
  | _ :: _, _, _, _, ⟨c, cs', e, q1, q2⟩, p => ⟨c, _, by rw [e, List.append_assoc], q1, ListR.app q2 p⟩
theorem ListR.one {a : α} {c : List Value} (h : R a c) : ListR R [a] c := ⟨c, [], by simp, h, rfl⟩
theorem ListR.get (h : ∀ a c, R a c → c.length = n) : ∀ {l : List α} {cs : List Value} (i : Nat) (hi : i < l.length), ListR R l cs → ∃ c, R l[i] c ∧ ∀ j u, c[j]? = some u → cs[i * n + j]? = some u
  | [], _, i, hi, _ => absurd hi (Nat.not_lt_zero _)
  | a :: l, _, 0, _, ⟨c, cs', e, q1, _⟩ => ⟨c, q1, fun j u hj => by
      rw [e, Nat.zero_mul, Nat.zero_add, List.getElem?_append_left (List.getElem?_eq_some_iff.1 hj).1]; exact hj⟩
  | a :: l, _, i + 1, hi, ⟨c, cs', e, q1, q2⟩ => by
    obtain ⟨d, p1, p2⟩ := ListR.get h i (by simpa using hi) q2
    refine ⟨d, p1, fun j u hj => ?_⟩
    have hc := h _ _ q1
    rw [e, List.getElem?_append_right (by rw [hc, Nat.succ_mul]; omega), hc, show (i + 1) * n + j - n = i * n + j by rw [Nat.succ_mul]; omega]
    exact p2 j u hj
theorem ListR.set (h : ∀ a c, R a c → c.length = n) {b : α} {d : List Value} (hd : R b d) : ∀ {l : List α} {cs : List Value} (i : Nat), i < l.length → ListR R l cs → ListR R (l.set i b) (cs.take (i * n) ++ d ++ cs.drop (i * n + n))
  | [], _, i, hi, _ => absurd hi (Nat.not_lt_zero _)
  | a :: l, _, 0, _, ⟨c, cs', e, q1, q2⟩ => by
    have hc := h _ _ q1
    rw [e, Nat.zero_mul, Nat.zero_add, List.take_zero, List.nil_append, ← hc, List.drop_left]
    exact ⟨d, cs', rfl, hd, q2⟩
  | a :: l, _, i + 1, hi, ⟨c, cs', e, q1, q2⟩ => by
    have hc := h _ _ q1
    have ih := ListR.set h hd i (by simpa using hi) q2
    refine ⟨c, _, ?_, q1, ih⟩
    rw [e, Nat.succ_mul, List.take_append, List.drop_append, hc, show i * n + n - n = i * n by omega, show i * n + n + n - n = i * n + n by omega, List.take_of_length_le (by omega), List.drop_eq_nil_of_le (by omega)]
    simp
end
def InX (X : List Nat) (w : World) (v : Value) : Prop := ∀ b, v.ownBlock = some b → b < w.heap.size ∧ b ∉ X
def leafOf (who : Int) : Int := if 0 ≤ who ∧ who ≤ 7 then 7 + who else -1
def sideOf (n : Int) : Int := if 1 ≤ n ∧ n ≤ 14 then (if n % 2 = 1 then n + 1 else n - 1) else -1
def upF : Nat → Nat → List Nat
  | 0, _ => []
  | f + 1, k => if k = 0 then [] else (k - 1) / 2 :: upF f ((k - 1) / 2)
def ups (k : Nat) : List Nat := upF 4 k
theorem ups_zero : ups 0 = [] := rfl
theorem ups_step : ∀ k, k < 15 → 0 < k → ups k = (k - 1) / 2 :: ups ((k - 1) / 2) := by decide
theorem ups_len : ∀ k, k < 15 → (ups k).length ≤ 3 := by decide
theorem ups_lt : ∀ k, k < 15 → ∀ p ∈ ups k, p < 7 := by decide
def upOf (n : Int) : List Int := if 0 ≤ n ∧ n ≤ 14 then (ups n.toNat).map (fun (k : Nat) => (k : Int)) else []
def meetF : Nat → Nat → Nat → Nat
  | 0, a, _ => a
  | f + 1, a, b => if a = b then a else if b < a then meetF f ((a - 1) / 2) b else meetF f a ((b - 1) / 2)
def meets (a b : Nat) : Nat := meetF 6 a b
theorem meets_self : ∀ a, a < 15 → meets a a = a := by decide
theorem meets_left : ∀ a, a < 15 → ∀ b, b < 15 → b < a → meets a b = meets ((a - 1) / 2) b := by decide
theorem meets_right : ∀ a, a < 15 → ∀ b, b < 15 → a < b → meets a b = meets a ((b - 1) / 2) := by decide
theorem meets_lt : ∀ a, a < 15 → ∀ b, b < 15 → meets a b < 15 := by decide
def meetOf (a b : Int) : Int := if (0 ≤ a ∧ a ≤ 14) ∧ 0 ≤ b ∧ b ≤ 14 then (meets a.toNat b.toNat : Int) else -1
def covF (xs : List ByteArray) : Nat → Nat → List Nat
  | 0, _ => []
  | f + 1, n => if xs.getD n ByteArray.empty ≠ ByteArray.empty then [n] else if 7 ≤ n then [] else covF xs f (2 * n + 1) ++ covF xs f (2 * n + 2)
def cover (xs : List ByteArray) (n : Nat) : List Nat := covF xs 4 n
theorem covF_step (xs : List ByteArray) (f n : Nat) : covF xs (f + 1) n = if xs.getD n ByteArray.empty ≠ ByteArray.empty then [n] else if 7 ≤ n then [] else covF xs f (2 * n + 1) ++ covF xs f (2 * n + 2) := rfl
theorem covF_more (xs : List ByteArray) : ∀ f n, 1 ≤ f → 8 ≤ (n + 1) * 2 ^ (f - 1) → covF xs (f + 1) n = covF xs f n := by
 intro f
 induction f with
 | zero => intro n h; omega
 | succ f ih =>
  intro n _ h; rw [covF_step xs (f + 1) n, covF_step xs f n]; split
  · rfl
  · split
    · rfl
    · next hn =>
      cases f with
      | zero => simp at h; omega
      | succ g =>
       (have e : (n + 1) * 2 ^ (g + 1 + 1 - 1) = (2 * n + 2) * 2 ^ g := by rw [show g + 1 + 1 - 1 = g + 1 from rfl, Nat.pow_succ, Nat.mul_comm (2 ^ g) 2, ← Nat.mul_assoc]; congr 1; omega); rw [e] at h; have h2 : (2 * n + 2) * 2 ^ g ≤ (2 * n + 2 + 1) * 2 ^ g := Nat.mul_le_mul_right _ (by omega); rw [ih (2 * n + 1) (by omega) (by simpa using h), ih (2 * n + 2) (by omega) (by simp; omega)]
theorem cover_three (xs : List ByteArray) (n : Nat) (h : 1 ≤ n) : covF xs 3 n = cover xs n := (covF_more xs 3 n (by omega) (by simp; omega)).symm
theorem cover_two (xs : List ByteArray) (n : Nat) (h : xs.getD n ByteArray.empty = ByteArray.empty) (hn : n < 7) : cover xs n = cover xs (2 * n + 1) ++ cover xs (2 * n + 2) := by unfold cover; rw [covF_step, if_neg (by simpa using h), if_neg (by omega), cover_three xs _ (by omega), cover_three xs _ (by omega)]; rfl
theorem cover_one (xs : List ByteArray) (n : Nat) (h : xs.getD n ByteArray.empty ≠ ByteArray.empty) : cover xs n = [n] := by unfold cover; rw [covF_step, if_pos h]
theorem cover_none (xs : List ByteArray) (n : Nat) (h : xs.getD n ByteArray.empty = ByteArray.empty) (hn : 7 ≤ n) : cover xs n = [] := by unfold cover; rw [covF_step, if_neg (by simpa using h), if_pos hn]
def wipe (xs : List ByteArray) (ps : List Nat) : List ByteArray := ps.foldl (fun ys p => ys.set p ByteArray.empty) xs
def clearOf (xs : List ByteArray) (who : Nat) : List ByteArray := wipe xs ((7 + who) :: ups (7 + who))
def keyed (xs : List ByteArray) (n : Nat) : Bool := decide (xs.getD n ByteArray.empty ≠ ByteArray.empty)
theorem cover_keyed (xs : List ByteArray) (n : Nat) (h : keyed xs n = true) : cover xs n = [n] := cover_one xs n (by simpa [keyed] using h)
theorem cover_bare (xs : List ByteArray) (n : Nat) (h : keyed xs n = false) (hn : 7 ≤ n) : cover xs n = [] := cover_none xs n (by simpa [keyed] using h) hn
theorem cover_both (xs : List ByteArray) (n : Nat) (h : keyed xs n = false) (hn : n < 7) : cover xs n = cover xs (2 * n + 1) ++ cover xs (2 * n + 2) := cover_two xs n (by simpa [keyed] using h) hn
theorem down {P : Nat → Prop} (h1 : ∀ n, 7 ≤ n → n < 15 → P n) (h2 : ∀ n, n < 7 → P (2 * n + 1) → P (2 * n + 2) → P n) : ∀ n, n < 15 → P n := by have a : ∀ n, 3 ≤ n → n < 15 → P n := fun n h h' => if q : 7 ≤ n then h1 n q h' else h2 n (by omega) (h1 _ (by omega) (by omega)) (h1 _ (by omega) (by omega)); have b : ∀ n, 1 ≤ n → n < 15 → P n := fun n h h' => if q : 3 ≤ n then a n q h' else h2 n (by omega) (a _ (by omega) (by omega)) (a _ (by omega) (by omega)); exact fun n h' => if q : 1 ≤ n then b n q h' else h2 n (by omega) (b _ (by omega) (by omega)) (b _ (by omega) (by omega))
def ints (ps : List Nat) : List Int := ps.map fun (k : Nat) => (k : Int)
def Covers (xs : List ByteArray) (n : Nat) (w : World) (e : Ending) (w' : World) : Prop := ∃ u, e = .returned u ∧ OwnI w.heap.size w' u (ints (cover xs n)) ∧ Below w.heap.size w w'
theorem nil_text : (ByteArray.empty).toList = [] := by decide +kernel
theorem no_text {x : ByteArray} (h : ¬ x = ByteArray.empty) : ¬ x.toList = [] := by intro e; exact h ((toList_eq (x := x) (y := ByteArray.empty)).1 (by rw [e, nil_text]; rfl))
set_option maxRecDepth 100000 in
set_option maxHeartbeats 4000000 in
theorem cov_keyed (xs : List ByteArray) (hl : xs.length = 15) (n : Nat) (hn : n < 15) (q : keyed xs n = true) (v : Value) (w : World) (h : SRow w v xs) : Calls Tryz.prog 98 #[.agg #[v], .int .i64 (n : Int)] w (Covers xs n w) := by obtain ⟨ao, cap, rfl, h1, h2, h3⟩ := h.form; obtain ⟨a, rfl, hc0⟩ := h3 n (by omega); have hc := (((Below.refl w.heap.size w).alloc (Nat.le_refl _) (Obj.cells #[.slice (some a) xs.length cap] 59)).cell (cell_lt hc0)).trans hc0; have hne : ¬ (xs.getD n ByteArray.empty).toList = [] := no_text (by simpa [keyed] using q); (have hne2 : (xs.getD n ByteArray.empty).toList.isEmpty = false := by simpa using hne); have HC := hide (cover_keyed xs n q); clear q h3 hc0 h; rw [hl] at h1 hc ⊢; generalize xs.getD n ByteArray.empty = y at hc hne hne2; have hB := hide (((Below.refl w.heap.size w).alloc (Nat.le_refl _) (Obj.cells #[.slice (some a) 15 cap] 59)).alloc (by simp) (Obj.cells #[.int .i64 (n : Int)] 3)); have hO := World.ownsRow_lit (base := w.heap.size) (e := 3) (size := 1) (w.alloc (Obj.cells #[.slice (some a) 15 cap] 59)) #[.int .i64 (n : Int)] 1 (by simp) (by unfold maxLen; omega) rfl; have HO := hide hO; clear hO; go_enter Tryz.func98, Tryz.ntmps98; (go_wp2_with fail); go_ret; refine ⟨_, rfl, ?_, unhide hB⟩; rw [HC.out]; have r := unhide HO; rw [show (w.alloc (Obj.cells #[.slice (some a) 15 cap] 59)).heap.size = w.heap.size + 1 by simp] at r; exact r
set_option maxRecDepth 100000 in
set_option maxHeartbeats 4000000 in
theorem cov_bare (xs : List ByteArray) (hl : xs.length = 15) (n : Nat) (h7 : 7 ≤ n) (hn : n < 15) (q : keyed xs n = false) (v : Value) (w : World) (h : SRow w v xs) : Calls Tryz.prog 98 #[.agg #[v], .int .i64 (n : Int)] w (Covers xs n w) := by obtain ⟨ao, cap, rfl, h1, h2, h3⟩ := h.form; obtain ⟨a, rfl, hc0⟩ := h3 n (by omega); have hc := (((Below.refl w.heap.size w).alloc (Nat.le_refl _) (Obj.cells #[.slice (some a) xs.length cap] 59)).cell (cell_lt hc0)).trans hc0; (have hne : (xs.getD n ByteArray.empty).toList = [] := by (have e : xs.getD n ByteArray.empty = ByteArray.empty := by simpa [keyed] using q); rw [e]; exact nil_text); (have hne2 : (xs.getD n ByteArray.empty).toList.isEmpty = true := by rw [hne]; rfl); have HC := hide (cover_bare xs n q h7); (have h72 : (7 : Int) ≤ (n : Int) := by omega); clear q h3 hc0 h; rw [hl] at h1 hc ⊢; generalize xs.getD n ByteArray.empty = y at hc hne hne2; have hB := hide (((Below.refl w.heap.size w).alloc (Nat.le_refl _) (Obj.cells #[.slice (some a) 15 cap] 59)).alloc (by simp) (Obj.cells #[] 3)); have hO := World.ownsRow_lit (base := w.heap.size) (e := 3) (size := 1) (w.alloc (Obj.cells #[.slice (some a) 15 cap] 59)) #[] 0 (by simp) (by unfold maxLen; omega) rfl; have HO := hide hO; clear hO; go_enter Tryz.func98, Tryz.ntmps98; (go_wp2_with fail); go_ret; refine ⟨_, rfl, ?_, unhide hB⟩; rw [HC.out]; have r := unhide HO; rw [show (w.alloc (Obj.cells #[.slice (some a) 15 cap] 59)).heap.size = w.heap.size + 1 by simp] at r; exact r
theorem ints_len (ps : List Nat) : (ints ps).length = ps.length := by simp [ints]
theorem cover_le (xs : List ByteArray) : ∀ n, n < 15 → (cover xs n).length ≤ 8 ∧ (1 ≤ n → (cover xs n).length ≤ 4) ∧ (3 ≤ n → (cover xs n).length ≤ 2) ∧ (7 ≤ n → (cover xs n).length ≤ 1) := by
 apply down
 · intro n h h'
   cases q : keyed xs n with
   | true => rw [cover_keyed xs n q]; simp
   | false => rw [cover_bare xs n q h]; simp
 · intro n h i1 i2
   cases q : keyed xs n with
   | true => rw [cover_keyed xs n q]; simp
   | false =>
    rw [cover_both xs n q h, List.length_append]; have := i1.2.1 (by omega); have := i2.2.1 (by omega); refine ⟨by omega, fun h1 => ?_, fun h3 => ?_, fun h7 => by omega⟩
    · have := i1.2.2.1 (by omega); have := i2.2.2.1 (by omega); omega
    · have := i1.2.2.2 (by omega); have := i2.2.2.2 (by omega); omega
set_option maxRecDepth 100000 in
set_option maxHeartbeats 4000000 in
theorem l3Cover_both (xs : List ByteArray) (hl : xs.length = 15) (n : Nat) (h7 : n < 7) (q : keyed xs n = false) (v : Value) (ih1 : ∀ w, SRow w v xs → Calls Tryz.prog 98 #[.agg #[v], .int .i64 ((2 * n + 1 : Nat) : Int)] w (Covers xs (2 * n + 1) w)) (ih2 : ∀ w, SRow w v xs → Calls Tryz.prog 98 #[.agg #[v], .int .i64 ((2 * n + 2 : Nat) : Int)] w (Covers xs (2 * n + 2) w)) (w : World) (h : SRow w v xs) : Calls Tryz.prog 98 #[.agg #[v], .int .i64 (n : Int)] w (Covers xs n w) := by
 obtain ⟨i0, hi, hz0, hz1, hz2⟩ := info_parts info_int2; have hI := hide (And.intro hi (And.intro hz0 (And.intro hz1 hz2))); clear hi hz0 hz1 hz2; have hR0 := hide h; obtain ⟨ao, cap, rfl, h1, h2, h3⟩ := h.form; obtain ⟨a, rfl, hc0⟩ := h3 n (by omega); have hc := (((Below.refl w.heap.size w).alloc (Nat.le_refl _) (Obj.cells #[.slice (some a) xs.length cap] 59)).cell (cell_lt hc0)).trans hc0; (have hne : (xs.getD n ByteArray.empty).toList = [] := by (have e : xs.getD n ByteArray.empty = ByteArray.empty := by simpa [keyed] using q); rw [e]; exact nil_text); (have hne2 : (xs.getD n ByteArray.empty).toList.isEmpty = true := by rw [hne]; rfl); have HC := hide (cover_both xs n q h7); (have h72 : decide ((7 : Int) ≤ (n : Int)) = false := by simp; omega); have L1 := (cover_le xs (2 * n + 1) (by omega)).1; have L2 := (cover_le xs (2 * n + 2) (by omega)).1; have i1 : IntKind.i64.wrap (2 * (n : Int)) = 2 * (n : Int) := wrap_small _ (by omega) (by omega); (have i2 : IntKind.i64.wrap (2 * (n : Int) + 1) = ((2 * n + 1 : Nat) : Int) := by rw [wrap_small _ (by omega) (by omega)]; omega); (have i3 : IntKind.i64.wrap (2 * (n : Int) + 2) = ((2 * n + 2 : Nat) : Int) := by rw [wrap_small _ (by omega) (by omega)]; omega); have I1 := hide ih1; have I2 := hide ih2; clear q h3 hc0 h ih1 ih2; rw [hl] at h1 hc hR0 I1 I2 ⊢; have HL := hide hl; clear hl; generalize xs.getD n ByteArray.empty = y at hc hne hne2; have hA := hide (Boxed.new w 59 (.slice (some a) 15 cap)); have hR : Hid (SRow (w.alloc (.cells #[.slice (some a) 15 cap] 59)) (.slice (some a) 15 cap) xs) := hR0.out.below ((Below.refl _ _).alloc (Nat.le_refl _) _); have hB0 : Hid (Below w.heap.size w (w.alloc (.cells #[.slice (some a) 15 cap] 59))) := (Below.refl _ _).alloc (Nat.le_refl _) _; generalize 2 * n + 1 = n1 at *; generalize 2 * n + 2 = n2 at *; go_enter Tryz.func98, Tryz.ntmps98; (go_wp2_with fail); refine r_i (Below (w.heap.size + 1)) ?_; refine r_q 0 ?_ (h := by intro w' hw'; have hx := (box_below0 (w := (w.alloc (.cells #[.slice (some a) 15 cap] 59)).drew) hA.out hw' (by omega)).cell; go_simp; all_goals rfl); refine r_q3 1 2 3 ?_; refine r_q 5 ?_ (h := by intro w' hw'; have hx := (box_below0 (w := (w.alloc (.cells #[.slice (some a) 15 cap] 59)).drew) hA.out hw' (by omega)).cell; go_simp; all_goals rfl); refine r_q3 6 7 8 ?_; refine r_k 4 (unhide I1 _ hR.out.drew) ?_; rintro e w2 ⟨u2, rfl, ho2, hb2⟩; refine s_r ?_ (r := (hb2.mono (by simp))); have O2 := hide ho2; have HB2 : Hid (Below w.heap.size w w2) := hB0.out.drew.trans (hb2.mono (by simp)); have hs2 := hb2.size; have R2 := hide (hR.out.drew.below hb2); clear ho2 hb2; refine r_1 9 (fun K hK => ?_); go_simp; refine (unhide I2 _ R2.out).mono ?_; rintro e w3 ⟨u3, rfl, ho3, hb3⟩; go_simp; refine sr hK ?_ (r := (hb3.mono (by simp at hs2; omega))); clear hK; have N3 := hide ho3.irow.news; have O3 := hide (OwnI.below O2.out hb3); have HB3 := hide (HB2.out.trans (hb3.mono HB2.out.size)); have hs3 := hb3.size; clear ho3 hb3 O2 HB2; refine r_1 10 (fun K hK => ?_); refine wp_append_row _ _ _ 34 rfl (w.heap.size + 1) 3 i0 (.int .i64 0) 1 8 Tryz.underlying34 hI.out.1 hI.out.2.1 hI.out.2.2.1 hI.out.2.2.2 rfl (by decide) _ _ _ rfl (row_lowB O3.out (by simp)) _ _ _ rfl N3.out (ints_one _) (by rw [ints_len, ints_len]; unfold maxLen; omega) (by rw [ints_len, ints_len]; omega) (by simp at hs2; omega) ?_; intro v4 w4 ho4 hg4; have R5 : Hid (OwnI w.heap.size w4 v4 (ints (cover xs n1 ++ cover xs n2))) := by show OwnI _ _ _ _; unfold OwnI ints; rw [List.map_append, List.length_append, List.map_append]; exact row_lowB ho4 (by omega)
 have HB5 : Hid (Below w.heap.size w w4) := HB3.out.grown hg4 HB3.out.size (fun k hk => by have := (O3.out.lt k hk).1; simp at this; omega); refine hK.out _ _ ((Below.refl _ _).grown hg4 (by simp at hs2; omega) (fun k hk => by have := (O3.out.lt k hk).1; simp at this; omega)) ?_; clear hK ho4 hg4 O3 N3 HB3; (try simp only [Act.put, p_a, p_b, p_c]); refine r_q 11 ?_; refine r_e ?_; (go_wp2_with fail); go_ret; refine ⟨_, rfl, ?_, unhide HB5⟩; rw [HC.out]; exact unhide R5
theorem l3Cover_any (xs : List ByteArray) (hl : xs.length = 15) (v : Value) : ∀ n : Nat, n < 15 → ∀ w, SRow w v xs → Calls Tryz.prog 98 #[.agg #[v], .int .i64 ((n : Nat) : Int)] w (Covers xs n w) := by
 apply down (P := fun n => ∀ w, SRow w v xs → Calls Tryz.prog 98 #[.agg #[v], .int .i64 ((n : Nat) : Int)] w (Covers xs n w))
 · intro n h7 h15 w h
   cases q : keyed xs n with
   | true => exact cov_keyed xs hl n h15 q v w h
   | false => exact cov_bare xs hl n h7 h15 q v w h
 · intro n h7 i1 i2 w h
   cases q : keyed xs n with
   | true => exact cov_keyed xs hl n (by omega) q v w h
   | false => exact l3Cover_both xs hl n h7 q v i1 i2 w h


set_option maxHeartbeats 400000 in
theorem isOne_yes (n : Int) (w : World) (h0 : 0 ≤ n) (h1 : n < 8) : Calls Tryz.prog 77 #[.int .i64 n] w fun e w' => e = .returned (.bool true) ∧ w' = w := by go_enter Tryz.func77, Tryz.ntmps77; go_wp2; go_ret; exact ⟨rfl, rfl⟩
set_option maxHeartbeats 400000 in
theorem isOne_no (n : Int) (w : World) (h : n < 0 ∨ 8 ≤ n) : Calls Tryz.prog 77 #[.int .i64 n] w fun e w' => e = .returned (.bool false) ∧ w' = w := by
 rcases h with h | h
 · go_enter Tryz.func77, Tryz.ntmps77; go_wp2; go_ret; exact ⟨rfl, rfl⟩
 · (have h' : 0 ≤ n := by omega); (have h2 : decide (n < 8) = false := by simp; omega); go_enter Tryz.func77, Tryz.ntmps77; go_wp2; go_ret; exact ⟨rfl, rfl⟩
structure Rd (b : Nat) (s : ByteArray) (a : Nat) (w : World) : Prop where
  t : w.cell? ⟨b, 0, none⟩ = some (.string s)
  p : w.cell? ⟨b, 1, none⟩ = some (.int .i64 (a : Int))
  f : w.frozen? ⟨b, 1, none⟩ = false
  lt : b < w.heap.size
theorem Rd.step {b : Nat} {s : ByteArray} {a : Nat} {w : World} (h : Rd b s a w) (n a' : Nat) (v : Value) (hv : v = .int .i64 (a' : Int)) : Rd b s a' ((w.drewN n).setCell ⟨b, 1, none⟩ v) ∧ Below b w ((w.drewN n).setCell ⟨b, 1, none⟩ v) := by obtain ⟨t, p, f, lt⟩ := h; subst hv; refine ⟨⟨by simp [go_sem, t], by simp [go_sem, p], by simp [go_sem, f], by simpa [World.setCell] using lt⟩, ?_⟩; exact (below_drewN (Below.refl b w) n).setCell (p := ⟨b, 1, none⟩) (Nat.le_refl _) _
theorem Rd.drewN {b : Nat} {s : ByteArray} {a : Nat} {w : World} (h : Rd b s a w) (n : Nat) : Rd b s a (w.drewN n) ∧ Below b w (w.drewN n) := by obtain ⟨t, p, f, lt⟩ := h; exact ⟨⟨by simp [go_sem, t], by simp [go_sem, p], by simp [go_sem, f], lt⟩, below_drewN (Below.refl _ _) n⟩
theorem ret_u8 {a b : Nat} {c : Bool} (h : a = b) : Ending.returned (.tuple #[.int .u8 (a : Int), .bool c]) = .returned (.tuple #[.int .u8 (b : Int), .bool c]) := by rw [h]
set_option maxHeartbeats 400000 in
theorem readSign_in (b : Nat) (s : ByteArray) (a : Nat) (w : World) (hs : s.size ≤ 300) (h : Rd b s a w) (ha : a < s.size) : Calls Tryz.prog 35 #[.pointer (some ⟨b, 0, none⟩)] w fun e w' => e = .returned (.tuple #[.int .u8 (Kw.g s a), .bool true]) ∧ Rd b s (a + 1) w' ∧ Below b w w' := by have hr := hide h; obtain ⟨t, p, f, lt⟩ := h; (have hd : decide ((s.size : Int) ≤ (a : Int)) = false := by simp; omega); (have h1 : (a : Int) < (s.size : Int) := by omega); go_enter Tryz.func35, Tryz.ntmps35; (go_wp2_with fail); go_quiet (fail); (go_wp2_with fail); go_quiet (fail); (go_wp2_with fail); go_ret2; exact ⟨ret_u8 (Kw.g_in ha).symm, hr.out.step _ (a + 1) _ (by simp)⟩
set_option maxHeartbeats 400000 in
theorem readSign_out (b : Nat) (s : ByteArray) (a : Nat) (w : World) (h : Rd b s a w) (ha : s.size ≤ a) : Calls Tryz.prog 35 #[.pointer (some ⟨b, 0, none⟩)] w fun e w' => e = .returned (.tuple #[.int .u8 0, .bool false]) ∧ Rd b s a w' ∧ Below b w w' := by have hr := hide h; obtain ⟨t, p, f, lt⟩ := h; go_enter Tryz.func35, Tryz.ntmps35; (go_wp2_with fail); go_quiet (fail); (go_wp2_with fail); go_ret2; exact ⟨rfl, hr.out.drewN _⟩
def posOf (b : Nat) (w : World) : Nat := match w.cell? ⟨b, 1, none⟩ with | some v => (intOf v).toNat | none => 0
theorem Rd.pos {b : Nat} {s : ByteArray} {a : Nat} {w : World} (h : Rd b s a w) : posOf b w = a := by unfold posOf; rw [h.p]; simp [intOf]
def NumPost (b : Nat) (s : ByteArray) (a most : Nat) (w : World) (e : Ending) (w' : World) : Prop :=
  ∃ a1, Rd b s a1 w' ∧ Below b w w' ∧
    ((∃ n : Nat, Kw.num s most a = some (n, a1) ∧ e = .returned (.tuple #[.int .i64 (n : Int), .bool true])) ∨ (Kw.num s most a = none ∧ e = .returned (.tuple #[.int .i64 0, .bool false])))
theorem num_stop {b : Nat} {s : ByteArray} {a a' n most : Nat} {w wr : World} (hr : Hid (Rd b s a' wr)) (hb : Below b w wr) (hnum : Hid (Kw.rdn s most (s.size + 1 - a') n a' = Kw.num s most a)) (hnd : ¬ (48 ≤ Kw.g s a' ∧ Kw.g s a' ≤ 57)) (hle : a' ≤ s.size) (nq : Nat) : NumPost b s a most w (.returned (.tuple #[.int .i64 (n : Int), .bool (decide (0 < n))])) (wr.drewN nq) := by
 have h1 := hnum.out; rw [show s.size + 1 - a' = (s.size - a') + 1 by omega, Kw.rdn_succ, if_neg hnd] at h1; obtain ⟨r1, r2⟩ := hr.out.drewN nq; refine ⟨a', r1, hb.trans r2, ?_⟩; by_cases h0 : 0 < n
 · rw [if_pos h0] at h1; exact .inl ⟨n, h1.symm, by simp [h0]⟩
 · rw [if_neg h0] at h1; (have : n = 0 := by omega); exact .inr ⟨h1.symm, by simp [this]⟩
theorem num_fail {b : Nat} {s : ByteArray} {a a' n most : Nat} {w wr : World} (hr : Hid (Rd b s a' wr)) (hb : Below b w wr) (hnum : Hid (Kw.rdn s most (s.size + 1 - a') n a' = Kw.num s most a)) (hle : a' < s.size) (hG : Hid (Kw.g s a' = s[a'].toNat)) (h48 : (48 : Int) ≤ (s[a'].toNat : Int)) (h57 : (s[a'].toNat : Int) ≤ 57) (hx : (n : Int) * 10 + ((s[a'].toNat : Int) - 48) < 1 ∨ (most : Int) < (n : Int) * 10 + ((s[a'].toNat : Int) - 48)) (nq : Nat) : NumPost b s a most w (.returned (.tuple #[.int .i64 0, .bool false])) ((wr.drewN nq).setCell ⟨b, 1, none⟩ (.int .i64 ((a' : Int) + 1))) := by have h1 := hnum.out; have h2 := hG.out; rw [show s.size + 1 - a' = (s.size - a') + 1 by omega, Kw.rdn_succ, h2, if_pos (by omega), if_pos (by omega)] at h1; obtain ⟨r1, r2⟩ := hr.out.step nq (a' + 1) (.int .i64 ((a' : Int) + 1)) (by simp); exact ⟨a' + 1, r1, hb.trans r2, .inr ⟨h1.symm, rfl⟩⟩
theorem num_next {s : ByteArray} {a a' n most : Nat} (hnum : Hid (Kw.rdn s most (s.size + 1 - a') n a' = Kw.num s most a)) (hle : a' < s.size) (hG : Hid (Kw.g s a' = s[a'].toNat)) (h48 : (48 : Int) ≤ (s[a'].toNat : Int)) (h57 : (s[a'].toNat : Int) ≤ 57) (hx : ¬ (n : Int) * 10 + ((s[a'].toNat : Int) - 48) < 1) (hy : ¬ (most : Int) < (n : Int) * 10 + ((s[a'].toNat : Int) - 48)) : Hid (Kw.rdn s most (s.size + 1 - (a' + 1)) (n * 10 + (s[a'].toNat - 48)) (a' + 1) = Kw.num s most a) := by have h1 := hnum.out; have h2 := hG.out; rw [show s.size + 1 - a' = (s.size - a') + 1 by omega, Kw.rdn_succ, h2, if_pos (by omega), if_neg (by omega)] at h1; rw [show s.size + 1 - (a' + 1) = s.size - a' by omega]; exact h1
theorem num_round {b : Nat} {s : ByteArray} {a a' m most : Nat} {x : Int} {w wr : World} {k : Nat} (hr : Hid (Rd b s a' wr)) (hb : Below b w wr) (hlt : a' < s.size) (hm : m ≤ most) (hx : x = (m : Int)) (hN : Hid (Kw.rdn s most (s.size + 1 - (a' + 1)) m (a' + 1) = Kw.num s most a)) : (∃ n_1 a'_1 : Nat, Value.int IntKind.i64 x = Value.int IntKind.i64 (n_1 : Int) ∧ Rd b s a'_1 ((wr.drewN k).setCell ⟨b, 1, none⟩ (.int .i64 ((a' : Int) + 1))) ∧ Below b w ((wr.drewN k).setCell ⟨b, 1, none⟩ (.int .i64 ((a' : Int) + 1))) ∧ n_1 ≤ most ∧ a'_1 ≤ s.size ∧ Hid (Kw.rdn s most (s.size + 1 - a'_1) n_1 a'_1 = Kw.num s most a)) ∧ s.size + 1 - posOf b ((wr.drewN k).setCell ⟨b, 1, none⟩ (.int .i64 ((a' : Int) + 1))) < s.size + 1 - posOf b wr := by obtain ⟨r1, r2⟩ := hr.out.step k (a' + 1) (.int .i64 ((a' : Int) + 1)) (by simp); refine ⟨⟨m, a' + 1, by rw [hx], r1, hb.trans r2, hm, by omega, hN⟩, ?_⟩; rw [r1.pos, hr.out.pos]; omega
set_option maxHeartbeats 1000000 in
theorem readNumber_any (b : Nat) (s : ByteArray) (a : Nat) (most : Nat) (w : World) (hs : s.size ≤ 300) (h : Rd b s a w) (ha : a ≤ s.size) (hm2 : most ≤ 99) : Calls Tryz.prog 58 #[.pointer (some ⟨b, 0, none⟩), .int .i64 (most : Int)] w fun e w' => NumPost b s a most w e w' := by
 go_enter Tryz.func58, Tryz.ntmps58; (go_wp2_with fail); go_loopw [6] (fun nn wr => ∃ n a' : Nat, nn = .int .i64 (n : Int) ∧ Rd b s a' wr ∧ Below b w wr ∧ n ≤ most ∧ a' ≤ s.size ∧ Hid (Kw.rdn s most (s.size + 1 - a') n a' = Kw.num s most a)) (fun nn wr => s.size + 1 - posOf b wr)
 case atStart => exact ⟨0, a, rfl, h, Below.refl _ _, Nat.zero_le _, ha, rfl⟩
 case round =>
  obtain ⟨n, a', rfl, hr0, hb, hn, hle, hnum⟩ := hrel; clear h ha; have hr := hide hr0; obtain ⟨t, p, f, lt⟩ := hr0; by_cases hlt : a' < s.size
  · have hG : Hid (Kw.g s a' = s[a'].toNat) := Kw.g_in hlt; (have hlt2 : (a' : Int) < (s.size : Int) := by omega); by_cases h48 : (48 : Int) ≤ (s[a'].toNat : Int)
    · by_cases h57 : (s[a'].toNat : Int) ≤ 57
      · by_cases hlo : (n : Int) * 10 + ((s[a'].toNat : Int) - 48) < 1
        · (go_wp2_with fail); go_quiet (fail); (go_wp2_with fail); go_quiet (fail); (go_wp2_with fail); go_ret2; exact num_fail hr hb hnum hlt hG h48 h57 (.inl hlo) _
        · (have hlo2 : decide ((n : Int) * 10 + ((s[a'].toNat : Int) - 48) < 1) = false := by simp; omega); by_cases hhi : (most : Int) < (n : Int) * 10 + ((s[a'].toNat : Int) - 48)
          · (go_wp2_with fail); go_quiet (fail); (go_wp2_with fail); go_quiet (fail); (go_wp2_with fail); go_ret2; exact num_fail hr hb hnum hlt hG h48 h57 (.inr hhi) _
          · (have hhi2 : decide ((most : Int) < (n : Int) * 10 + ((s[a'].toNat : Int) - 48)) = false := by simp; omega); have hN := num_next hnum hlt hG h48 h57 hlo hhi; have hlo3 := hide hlo; have hhi3 := hide hhi; clear hlo hhi; (go_wp2_with fail); go_quiet (fail); (go_wp2_with fail); go_quiet (fail); (go_wp2_with fail); exact num_round hr hb hlt (by have := hhi3.out; omega) (by omega) hN
      · (have hd : decide ((s[a'].toNat : Int) ≤ 57) = false := by simp; omega); have h57' := hide h57; clear h57; (go_wp2_with fail); go_quiet (fail); (go_wp2_with fail); go_ret2; exact num_stop hr hb hnum (by rw [hG.out]; have := h57'.out; omega) hle _
    · (have hd : decide ((48 : Int) ≤ (s[a'].toNat : Int)) = false := by simp; omega); have h48' := hide h48; clear h48; (go_wp2_with fail); go_quiet (fail); (go_wp2_with fail); go_ret2; exact num_stop hr hb hnum (by rw [hG.out]; have := h48'.out; omega) hle _
  · (have hd : decide ((a' : Int) < (s.size : Int)) = false := by simp; omega); (go_wp2_with fail); go_quiet (fail); (go_wp2_with fail); go_ret2; exact num_stop hr hb hnum (by rw [Kw.g_out (by omega)]; omega) hle _
theorem readNumber_yes {n a1 : Nat} (b : Nat) (s : ByteArray) (a : Nat) (m : Int) (most : Nat) (hm : m = (most : Int)) (w : World) (hs : s.size ≤ 300) (h : Rd b s a w) (ha : a ≤ s.size) (hm2 : most ≤ 99) (hn : Hid (Kw.num s most a = some (n, a1))) : Calls Tryz.prog 58 #[.pointer (some ⟨b, 0, none⟩), .int .i64 m] w fun e w' => e = .returned (.tuple #[.int .i64 (n : Int), .bool true]) ∧ Rd b s a1 w' ∧ Below b w w' := by
 subst hm; refine (readNumber_any b s a most w hs h ha hm2).mono ?_; rintro e w' ⟨a2, r1, r2, ⟨k, e1, e2⟩ | ⟨e1, e2⟩⟩
 · rw [hn.out] at e1; simp at e1; obtain ⟨rfl, rfl⟩ := e1; exact ⟨e2, r1, r2⟩
 · rw [hn.out] at e1; simp at e1
theorem readNumber_no (b : Nat) (s : ByteArray) (a : Nat) (m : Int) (most : Nat) (hm : m = (most : Int)) (w : World) (hs : s.size ≤ 300) (h : Rd b s a w) (ha : a ≤ s.size) (hm2 : most ≤ 99) (hn : Hid (Kw.num s most a = none)) : Calls Tryz.prog 58 #[.pointer (some ⟨b, 0, none⟩), .int .i64 m] w fun e w' => e = .returned (.tuple #[.int .i64 0, .bool false]) ∧ (∃ a1, Rd b s a1 w') ∧ Below b w w' := by
 subst hm; refine (readNumber_any b s a most w hs h ha hm2).mono ?_; rintro e w' ⟨a2, r1, r2, ⟨k, e1, e2⟩ | ⟨e1, e2⟩⟩
 · rw [hn.out] at e1; simp at e1
 · exact ⟨e2, ⟨a2, r1⟩, r2⟩
set_option maxHeartbeats 400000 in
theorem readLetter_yes (b : Nat) (s : ByteArray) (a : Nat) (w : World) (hs : s.size ≤ 300) (h : Rd b s a w) (h1 : 65 ≤ Kw.g s a) (h2 : Kw.g s a ≤ 72) : Calls Tryz.prog 57 #[.pointer (some ⟨b, 0, none⟩)] w fun e w' => e = .returned (.tuple #[.int .i64 ((Kw.g s a : Int) - 65), .bool true]) ∧ Rd b s (a + 1) w' ∧ Below b w w' := by have ha : a < s.size := Kw.g_lt.1 (by omega); have hr := hide h; clear h; go_enter Tryz.func57, Tryz.ntmps57; (go_wp2_with fail); refine (readSign_in b s a _ hs hr.out ha).mono ?_; rintro e w1 ⟨rfl, r1, hb1⟩; (go_wp2_with fail); refine (isOne_yes _ _ (by omega) (by omega)).mono ?_; rintro e w2 ⟨rfl, rfl⟩; (go_wp2_with fail); go_ret2; exact ⟨rfl, r1, hb1⟩
set_option maxHeartbeats 400000 in
theorem readLetter_no (b : Nat) (s : ByteArray) (a : Nat) (w : World) (hs : s.size ≤ 300) (h : Rd b s a w) (hn : Kw.g s a < 65 ∨ 72 < Kw.g s a) : Calls Tryz.prog 57 #[.pointer (some ⟨b, 0, none⟩)] w fun e w' => ∃ v, e = .returned (.tuple #[v, .bool false]) ∧ (∃ a1, Rd b s a1 w') ∧ Below b w w' := by
 have hr := hide h; clear h; by_cases ha : a < s.size
 · have hg := Kw.g_lt.2 ha; go_enter Tryz.func57, Tryz.ntmps57; (go_wp2_with fail); refine (readSign_in b s a _ hs hr.out ha).mono ?_; rintro e w1 ⟨rfl, r1, hb1⟩; (go_wp2_with fail); refine (isOne_no _ _ (by omega)).mono ?_; rintro e w2 ⟨rfl, rfl⟩; (go_wp2_with fail); go_ret2; exact ⟨_, rfl, ⟨_, r1⟩, hb1⟩
 · clear hn; go_enter Tryz.func57, Tryz.ntmps57; (go_wp2_with fail); refine (readSign_out b s a _ hr.out (by omega)).mono ?_; rintro e w1 ⟨rfl, r1, hb1⟩; (go_wp2_with fail); go_ret2; exact ⟨_, rfl, ⟨_, r1⟩, hb1⟩
end Go.Proofs.YtdfpeaenbmgihaaGreat
