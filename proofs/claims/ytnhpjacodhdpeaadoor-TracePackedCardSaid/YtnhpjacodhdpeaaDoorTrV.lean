/-
  Two tables cut short, one behind the other, and their boxes, made in any order.
-/
import Derived.Test.YtnhpjacodhdpeaaDoorTrU
import Derived.Test.YtnhpjacodhdpeaaDoorTrP
namespace Go.Proofs.YtnhpjacodhdpeaaDoor
open Go.RowKit Go.Maps Bits
set_option maxRecDepth 100000

section
variable {w w' : World} {lo hi : Nat} {va v2 : Value} {L : List TB} {G : List (List Int)}
theorem TabG.mono (h : TabG w lo hi va v2 L G) {hi' : Nat} (hh : hi ≤ hi') : TabG w lo hi' va v2 L G := by
  obtain ⟨kv, h1, h2, h3, h4⟩ := h.rows
  exact ⟨h.bus, fun k hk => Nat.lt_of_lt_of_le (h.busHi k hk) hh, kv, h1, fun k hk => Nat.lt_of_lt_of_le (h2 k hk) hh, h3, fun i hi => by obtain ⟨x, e1, e2, e3⟩ := h4 i hi; exact ⟨x, e1, e2, fun k hk => Nat.lt_of_lt_of_le (e3 k hk) hh⟩⟩
theorem TabG.base (h : TabG w lo hi va v2 L G) {lo' : Nat} (hh : lo' ≤ lo) : TabG w lo' hi va v2 L G := by
  obtain ⟨kv, h1, h2, h3, h4⟩ := h.rows
  exact ⟨own_base h.bus hh, h.busHi, kv, own_base h1 hh, h2, h3, fun i hi => by obtain ⟨x, e1, e2, e3⟩ := h4 i hi; exact ⟨x, e1, own_base e2 hh, e3⟩⟩
theorem TabG.step (h : TabG w lo hi va v2 L G) (hh : hi ≤ w.heap.size) (hb : Below w.heap.size w w') : TabG w' lo hi va v2 L G :=
  h.keep (F := fun _ => False) (Kept.of_below hb) (fun _ hf => hf.elim)
theorem TabF.keep {F : Nat → Prop} (h : TabF w lo va v2 L G) (hk : Kept F w w') (hF : ∀ k, F k → ∃ c z, w.heap[k]? = some (.cells c 25 z)) : TabF w' lo va v2 L G :=
  (h.up.keep hk (fun k hf _ => hF k hf)).tabF
theorem TabF.step (h : TabF w lo va v2 L G) (hb : Below w.heap.size w w') : TabF w' lo va v2 L G :=
  h.keep (F := fun _ => False) (Kept.of_below hb) (fun _ hf => hf.elim)
end

def nilT : Obj := .cells #[.slice none 0 0, .slice none 0 0] 25
/-- On the way: which of the two boxes and of the two tables are there. -/
structure R1 (wb X : World) (ba bb : Option Nat) (A B : Option (Value × Value)) (L : List TB) (R : List (List Int)) : Prop where
  low : Below wb.heap.size wb X
  box1 : ∀ k, ba = some k → wb.heap.size ≤ k ∧ X.heap[k]? = some (.cells #[.slice none 0 0, .slice none 0 0] 25 (0, 0))
  box2 : ∀ k, bb = some k → wb.heap.size ≤ k ∧ X.heap[k]? = some (.cells #[.slice none 0 0, .slice none 0 0] 25 (0, 0))
  ne : ∀ k, ba = some k → bb ≠ some k
  tabs : ∀ p, A = some p → ∃ hi, wb.heap.size ≤ hi ∧ hi ≤ X.heap.size ∧ TabG X wb.heap.size hi p.1 p.2 L R ∧ ∀ q, B = some q → TabF X hi q.1 q.2 L R
section
variable {wb X X' : World} {ba bb : Option Nat} {A B : Option (Value × Value)} {L : List TB} {R : List (List Int)} {va v2 : Value}
theorem R1.start : R1 wb wb.drew none none none none L R := ⟨(Below.refl _ _).drew, fun _ h => (by cases h), fun _ h => (by cases h), fun _ h => (by cases h), fun _ h => (by cases h)⟩
theorem R1.step (h : R1 wb X ba bb A B L R) (hb : Below X.heap.size X X') : R1 wb X' ba bb A B L R :=
  ⟨nextw h.low hb, fun k e => ⟨(h.box1 k e).1, (hb.block _ (Array.getElem?_eq_some_iff.1 (h.box1 k e).2).1).trans (h.box1 k e).2⟩,
    fun k e => ⟨(h.box2 k e).1, (hb.block _ (Array.getElem?_eq_some_iff.1 (h.box2 k e).2).1).trans (h.box2 k e).2⟩, h.ne,
    fun p e => by obtain ⟨hi, h0, h1, h2, h3⟩ := h.tabs p e; exact ⟨hi, h0, Nat.le_trans h1 hb.size, h2.step h1 hb, fun q e2 => (h3 q e2).step hb⟩⟩
theorem R1.alloc1 (h : R1 wb X none bb A B L R) : R1 wb (X.alloc (.cells #[.slice none 0 0, .slice none 0 0] 25)) (some X.heap.size) bb A B L R := by
  have hs := h.step ((Below.refl _ _).alloc (Nat.le_refl _) (.cells #[.slice none 0 0, .slice none 0 0] 25))
  refine ⟨hs.low, fun k e => ?_, hs.box2, fun k e e2 => ?_, hs.tabs⟩
  · cases e; exact ⟨h.low.size, heap_alloc_new _ _⟩
  · cases e
    have := (Array.getElem?_eq_some_iff.1 (h.box2 _ e2).2).1
    omega
theorem R1.alloc2 (h : R1 wb X ba none A B L R) : R1 wb (X.alloc (.cells #[.slice none 0 0, .slice none 0 0] 25)) ba (some X.heap.size) A B L R := by
  have hs := h.step ((Below.refl _ _).alloc (Nat.le_refl _) (.cells #[.slice none 0 0, .slice none 0 0] 25))
  refine ⟨hs.low, hs.box1, fun k e => ?_, fun k e e2 => ?_, hs.tabs⟩
  · cases e; exact ⟨h.low.size, heap_alloc_new _ _⟩
  · cases e2
    have := (Array.getElem?_eq_some_iff.1 (h.box1 _ e).2).1
    omega
theorem R1.call1 (h : R1 wb X ba bb none none L R) (hT : TabF X' X.heap.size va v2 L R) (hb : Below X.heap.size X X') : R1 wb X' ba bb (some (va, v2)) none L R := by
  have hs := h.step hb
  refine ⟨hs.low, hs.box1, hs.box2, hs.ne, fun p e => ?_⟩
  cases e
  exact ⟨_, hs.low.size, Nat.le_refl _, hT.up.base h.low.size, fun _ e => by cases e⟩
theorem R1.call2 {p : Value × Value} (h : R1 wb X ba bb (some p) none L R) (hT : TabF X' X.heap.size va v2 L R) (hb : Below X.heap.size X X') : R1 wb X' ba bb (some p) (some (va, v2)) L R := by
  have hs := h.step hb
  refine ⟨hs.low, hs.box1, hs.box2, hs.ne, fun p' e => ?_⟩
  cases e
  obtain ⟨hi, h0, h1, h2, -⟩ := h.tabs p rfl
  exact ⟨X.heap.size, h.low.size, hb.size, (h2.step h1 hb).mono h1, fun q e => by cases e; exact hT⟩
end
/-- Two boxes, and two tables apart from each other. -/
structure TwoB (wb X : World) (ba bb : Nat) (x1 x2 y1 y2 va v2 vb v3 : Value) (L : List TB) (R S : List (List Int)) : Prop where
  low : Below wb.heap.size wb X
  lo1 : wb.heap.size ≤ ba
  lo2 : wb.heap.size ≤ bb
  ne : ba ≠ bb
  box1 : X.heap[ba]? = some (.cells #[x1, x2] 25 (0, 0))
  box2 : X.heap[bb]? = some (.cells #[y1, y2] 25 (0, 0))
  tabs : ∃ hi, wb.heap.size ≤ hi ∧ hi ≤ X.heap.size ∧ TabG X wb.heap.size hi va v2 L R ∧ TabF X hi vb v3 L S
section
variable {wb X X' : World} {ba bb : Nat} {x1 x2 y1 y2 va v2 vb v3 : Value} {L : List TB} {R S : List (List Int)}
theorem R1.both {p q : Value × Value} (h : R1 wb X (some ba) (some bb) (some p) (some q) L R) : TwoB wb X ba bb (.slice none 0 0) (.slice none 0 0) (.slice none 0 0) (.slice none 0 0) p.1 p.2 q.1 q.2 L R R := by
  obtain ⟨hi, h0, h1, h2, h3⟩ := h.tabs p rfl
  exact ⟨h.low, (h.box1 _ rfl).1, (h.box2 _ rfl).1, fun e => h.ne ba rfl (by rw [e]), (h.box1 _ rfl).2, (h.box2 _ rfl).2, hi, h0, h1, h2, h3 q rfl⟩
theorem TwoB.step (h : TwoB wb X ba bb x1 x2 y1 y2 va v2 vb v3 L R S) (hb : Below X.heap.size X X') : TwoB wb X' ba bb x1 x2 y1 y2 va v2 vb v3 L R S := by
  obtain ⟨hi, h0, h1, h2, h3⟩ := h.tabs
  exact ⟨nextw h.low hb, h.lo1, h.lo2, h.ne, (hb.block _ (Array.getElem?_eq_some_iff.1 h.box1).1).trans h.box1, (hb.block _ (Array.getElem?_eq_some_iff.1 h.box2).1).trans h.box2, hi, h0, Nat.le_trans h1 hb.size, h2.step h1 hb, h3.step hb⟩
theorem TwoB.cells (h : TwoB wb X ba bb x1 x2 y1 y2 va v2 vb v3 L R S) : X.cell? ⟨ba, 0, none⟩ = some x1 ∧ X.cell? ⟨ba, 1, none⟩ = some x2 ∧ X.frozen? ⟨ba, 0, none⟩ = false ∧ X.frozen? ⟨ba, 1, none⟩ = false
    ∧ X.cell? ⟨bb, 0, none⟩ = some y1 ∧ X.cell? ⟨bb, 1, none⟩ = some y2 ∧ X.frozen? ⟨bb, 0, none⟩ = false ∧ X.frozen? ⟨bb, 1, none⟩ = false :=
  ⟨cell_of_heap h.box1 0 _ rfl, cell_of_heap h.box1 1 _ rfl, frozen_of_row X ba 0 _ _ h.box1, frozen_of_row X ba 1 _ _ h.box1, cell_of_heap h.box2 0 _ rfl, cell_of_heap h.box2 1 _ rfl, frozen_of_row X bb 0 _ _ h.box2, frozen_of_row X bb 1 _ _ h.box2⟩
theorem set2_kept (X : World) (b : Nat) (u v : Value) : Kept (fun k => k = b) X ((X.setCell ⟨b, 0, none⟩ u).setCell ⟨b, 1, none⟩ v) := ⟨rfl, rfl, rfl, by simp, fun k _ hn => by rw [Below.heap_setCell _ _ _ _ hn, Below.heap_setCell _ _ _ _ hn]⟩
theorem TwoB.put1 (h : TwoB wb X ba bb x1 x2 y1 y2 va v2 vb v3 L R S) (u v : Value) : TwoB wb ((X.setCell ⟨ba, 0, none⟩ u).setCell ⟨ba, 1, none⟩ v) ba bb u v y1 y2 va v2 vb v3 L R S := by
  have hk := set2_kept X ba u v
  obtain ⟨hi, h0, h1, h2, h3⟩ := h.tabs
  refine ⟨h.low.trans (hk.below (fun k e => by have := h.lo1; omega) h.low.size), h.lo1, h.lo2, h.ne, set2_heap h.box1 _ _, ?_, hi, h0, Nat.le_trans h1 hk.size, h2.keep hk (fun k e _ => by subst e; exact ⟨_, _, h.box1⟩), h3.keep hk (fun k e => by subst e; exact ⟨_, _, h.box1⟩)⟩
  rw [hk.block bb (Array.getElem?_eq_some_iff.1 h.box2).1 (fun e => h.ne e.symm)]; exact h.box2
theorem TwoB.put2 (h : TwoB wb X ba bb x1 x2 y1 y2 va v2 vb v3 L R S) (u v : Value) : TwoB wb ((X.setCell ⟨bb, 0, none⟩ u).setCell ⟨bb, 1, none⟩ v) ba bb x1 x2 u v va v2 vb v3 L R S := by
  have hk := set2_kept X bb u v
  obtain ⟨hi, h0, h1, h2, h3⟩ := h.tabs
  refine ⟨h.low.trans (hk.below (fun k e => by have := h.lo2; omega) h.low.size), h.lo1, h.lo2, h.ne, ?_, set2_heap h.box2 _ _, hi, h0, Nat.le_trans h1 hk.size, h2.keep hk (fun k e _ => by subst e; exact ⟨_, _, h.box2⟩), h3.keep hk (fun k e => by subst e; exact ⟨_, _, h.box2⟩)⟩
  rw [hk.block ba (Array.getElem?_eq_some_iff.1 h.box1).1 h.ne]; exact h.box1
theorem TwoB.ins (h : TwoB wb X ba bb x1 x2 y1 y2 va v2 vb v3 L R S) (hL : L.length ≤ 20) (hR : R.length ≤ 30) (hS : S.length ≤ 30) (hr : ∀ i, (R.getD i []).length ≤ 25) (hs : ∀ i, (S.getD i []).length ≤ 25) :
    ∃ a c a2 c2 d e d2 e2, va = .slice a L.length c ∧ v2 = .slice a2 R.length c2 ∧ L.length ≤ c ∧ vb = .slice d L.length e ∧ v3 = .slice d2 S.length e2 ∧ L.length ≤ e ∧ BsR X a L.length L ∧ RRk .u64 X a2 R.length R ∧ BsR X d L.length L ∧ RRk .u64 X d2 S.length S := by
  obtain ⟨hi, -, -, h2, h3⟩ := h.tabs
  obtain ⟨a, c, a2, c2, e1, e2, e3, e4, e5⟩ := h2.tabF.tab.ins (by omega) (by omega) (fun i _ => by have := hr i; omega)
  obtain ⟨d, e, d2, e2', f1, f2, f3, f4, f5⟩ := h3.tab.ins (by omega) (by omega) (fun i _ => by have := hs i; omega)
  exact ⟨a, c, a2, c2, d, e, d2, e2', e1, e2, e3, f1, f2, f3, e4, e5, f4, f5⟩
end
theorem TwoB.write {wb X : World} {ba bb : Nat} {x1 x2 y1 y2 va v2 vb v3 : Value} {L : List TB} {R S : List (List Int)} (h : TwoB wb X ba bb x1 x2 y1 y2 va v2 vb v3 L R S) {i k : Nat} (x : Int) (hi : i < S.length) (hk : k < (S.getD i []).length) :
    ∃ b c2 g cg, v3 = .slice (some ⟨b, 0, none⟩) S.length c2 ∧ X.cell? ⟨b, i, none⟩ = some (.slice (some ⟨g, 0, none⟩) (S.getD i []).length cg) ∧ X.cell? ⟨g, k, none⟩ = some (.int .u64 (colF S k i)) ∧ X.frozen? ⟨g, k, none⟩ = false
      ∧ wb.heap.size ≤ g ∧ TwoB wb (X.setCell ⟨g, k, none⟩ (.int .u64 x)) ba bb x1 x2 y1 y2 va v2 vb v3 L R (setR S i k x) := by
  obtain ⟨z, h0, h1, h2, h3⟩ := h.tabs
  obtain ⟨b, c2, g, cg, e1, e2, e3, e4, e5, e6⟩ := h3.put x hi hk
  obtain ⟨kv, -, -, hrow⟩ := h3.rows
  have hty : ∃ cur, X.heap[g]? = some (.cells cur 46 (0, 0)) := by
    obtain ⟨kv, k1, -, k2⟩ := h3.rows
    obtain ⟨y, f1, f2⟩ := k2 i hi
    rw [e1] at k1
    have := k1.cellAt i (by omega)
    rw [e2, f1] at this
    cases this
    exact own_type f2 rfl
  obtain ⟨cur, hg⟩ := hty
  have hne : ∀ {q : Nat} {c : Array Value}, X.heap[q]? = some (.cells c 25 (0, 0)) → q ≠ g := fun hq e => by
    subst e; rw [hg] at hq; simp at hq
  have hks : Kept (fun q => q = g) X (X.setCell ⟨g, k, none⟩ (.int .u64 x)) := ⟨rfl, rfl, rfl, by simp, fun q _ hn => Below.heap_setCell _ _ _ _ hn⟩
  refine ⟨b, c2, g, cg, e1, e2, e3, e4, Nat.le_trans h0 e5, h.low.trans (hks.below (fun q e => by omega) h.low.size), h.lo1, h.lo2, h.ne, ?_, ?_, z, h0, Nat.le_trans h1 hks.size, h2.keep hks (fun q e hlt => by omega), e6⟩
  · rw [hks.block ba (Array.getElem?_eq_some_iff.1 h.box1).1 (hne h.box1)]; exact h.box1
  · rw [hks.block bb (Array.getElem?_eq_some_iff.1 h.box2).1 (hne h.box2)]; exact h.box2
theorem fewL_len (L : List TB) : (fewL L).length ≤ 20 := by simp [fewL]; omega
theorem fewR_len (R : List (List Int)) : (fewR R).length ≤ 30 := by simp [fewR]; omega
theorem fewR_rows (R : List (List Int)) (i : Nat) : ((fewR R).getD i []).length ≤ 25 := by
  by_cases hi : i < (fewR R).length
  · rw [List.getD_eq_getElem?_getD, List.getElem?_eq_getElem hi]
    simp [fewR]; omega
  · rw [List.getD_eq_getElem?_getD, List.getElem?_eq_none (by omega)]; simp
theorem RRk.take {k : IntKind} {w : World} {a : Option Addr} {n : Nat} {N : List (List Int)} (h : RRk k w a n N) (m : Nat) (hm : m ≤ n) : RRk k w a m (N.take m) := by
  refine ⟨by rw [List.length_take, h.1]; omega, by have := h.2.1; omega, ?_⟩
  rcases h.2.2 with h0 | ⟨b, off, rfl, hlt, hc⟩
  · exact .inl (by omega)
  · refine .inr ⟨b, off, rfl, hlt, fun i hi => ?_⟩
    have e : (N.take m).getD i [] = N.getD i [] := by rw [List.getD_eq_getElem?_getD, List.getElem?_take_of_lt hi, ← List.getD_eq_getElem?_getD]
    rw [e]; exact hc i (by omega)
theorem box_made {X : World} {u v : Value} : ∀ x, x = ((X.alloc (.cells #[.slice none 0 0, .slice none 0 0] 25)).setCell ⟨X.heap.size, 0, none⟩ u).setCell ⟨X.heap.size, 1, none⟩ v → Below X.heap.size X x ∧ x.heap[X.heap.size]? = some (.cells #[u, v] 25 (0, 0)) := by
  rintro x rfl
  exact ⟨(((Below.refl _ _).alloc (Nat.le_refl _) _).setCell (p := ⟨X.heap.size, 0, none⟩) (Nat.le_refl _) u).setCell (p := ⟨X.heap.size, 1, none⟩) (Nat.le_refl _) v, set2_heap (heap_alloc_new X _) _ _⟩
end Go.Proofs.YtnhpjacodhdpeaaDoor
