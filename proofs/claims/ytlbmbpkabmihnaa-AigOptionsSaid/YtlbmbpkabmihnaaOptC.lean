/-
  AigOptions: what is held along the way.
-/
import Derived.Test.YtlbmbpkabmihnaaOptA
import Derived.Test.YtlbmbpkabmihnaaOnceB
import Derived.Test.YtlbmbpkabmihnaaAigU
namespace Go.Proofs.Ytlbmbpkabmihnaa
open Go.RowKit Go.Maps

theorem row_app2 {w : World} {base T m c : Nat} {a : Option Addr} {z : List Int} (h : w.ownsRow base T 1 (.slice a (m + 3) c) (m + 3) ((z.take m).map (Value.int .u32) ++ [.int .u32 0, .int .u32 1, .int .u32 2])) (hm : m ≤ 8 := by omega) : Row .u32 w a (m + 3) (z.take m ++ [0, 1, 2]) := by
  have e : (z.take m).map (Value.int .u32) ++ [.int .u32 0, .int .u32 1, .int .u32 2] = (z.take m ++ [0, 1, 2]).map (Value.int .u32) := by simp
  rw [e] at h
  exact Row.of_own h (by have := h.1; simpa using this) (by omega)
theorem lits_app2 {z : List Int} (h : ∀ k, IsLit (z.getD k 0)) (m : Nat) : ∀ i, IsLit ((z.take m ++ [0, 1, 2]).getD i 0) := by
  intro i
  rw [List.getD_eq_getElem?_getD, List.getElem?_append]
  split
  · rename_i hi
    have := h i
    rw [List.getD_eq_getElem?_getD] at this
    rw [List.getElem?_take, if_pos (by simp at hi; omega)]; exact this
  · match i - (z.take m).length with
    | 0 => simp [IsLit]
    | 1 => simp [IsLit]
    | 2 => simp [IsLit]
    | k + 3 => simp [IsLit]
theorem bRow_at (t z : List Int) (j : Nat) (hj : j < min z.length 4 + 3) : (bRow t z).getD j 0 = ifV (t.getD (pickN ((z.take 4 ++ [0, 1, 2]).getD j 0) t.length) 0) ((z.take 4 ++ [0, 1, 2]).getD j 0 % 2 == 1) := by
  have hl : j < (z.take 4 ++ [0, 1, 2]).length := by simp; omega
  unfold bRow
  simp only [List.getD, List.getElem?_map, List.getElem?_eq_getElem hl]
  rfl
theorem take_push (l : List Int) (j : Nat) (h : j < l.length) : (l.take (j + 1)).map (Value.int .u32) = (l.take j).map (Value.int .u32) ++ [.int .u32 (l.getD j 0)] := by
  rw [List.take_add_one, List.map_append]
  simp [List.getD, h]
theorem mine_cell {w0 w : World} {T g n c : Nat} {l : List Int} (h : Mine w0 w T (.slice (some ⟨g, 0, none⟩) n c) n (l.map (Value.int .u32))) {i : Nat} (hi : i < n) (hl : n = l.length) : w.cell? ⟨g, i, none⟩ = some (.int .u32 (l.getD i 0)) := by
  have e := h.own.cellAt i (by omega)
  rw [e, List.getElem?_map]
  simp [List.getD, show i < l.length by omega]
/-- The four rows so far. -/
structure AllR (w w' : World) (k : Nat) (M : List Int) : Prop where
  below : Below w.heap.size w w'
  lt : w.heap.size < w'.heap.size
  cs : ∃ c : Nat → Value, (∀ i, i < 4 → w'.cell? ⟨w.heap.size, i, none⟩ = some (c i) ∧ w'.frozen? ⟨w.heap.size, i, none⟩ = false) ∧ (∀ i, i < k → w'.ownsRow (w.heap.size + 1) 36 1 (c i) M.length (M.map (Value.int .u64))) ∧ ∀ i, k ≤ i → i < 4 → c i = .slice none 0 0
theorem all_zero (w : World) (M : List Int) : AllR w (w.alloc (.cells #[.slice none 0 0, .slice none 0 0, .slice none 0 0, .slice none 0 0] 57)) 0 M :=
  ⟨(Below.refl _ _).alloc (Nat.le_refl _) _, by simp, fun _ => .slice none 0 0, fun i hi => by
    match i, hi with
    | 0, _ => exact ⟨by simp [go_sem], by simp [go_sem]⟩
    | 1, _ => exact ⟨by simp [go_sem], by simp [go_sem]⟩
    | 2, _ => exact ⟨by simp [go_sem], by simp [go_sem]⟩
    | 3, _ => exact ⟨by simp [go_sem], by simp [go_sem]⟩
    | i + 4, h => omega, fun i hi => by omega, fun _ _ _ => rfl⟩
theorem two_own (w0 w : World) (h : w0.heap.size ≤ w.heap.size) (x y : Value) : Mine w0 (w.alloc (.cells #[x, y] 42)) 42 (.slice (some ⟨w.heap.size, 0, none⟩) 2 2) 2 [x, y] :=
  ⟨⟨rfl, .inr ⟨w.heap.size, 2, #[x, y], rfl, h, Deep.blk_alloc_new _ _, Nat.le_refl _, by decide, rfl, rfl⟩⟩, by decide, by decide, by decide⟩
theorem new_opt (F H : Bool) (wb : World) : Calls Try.prog 21 #[.agg #[.bool F, .bool H]] wb fun e w' => ∃ F' H' B p, e = .returned (.pointer (some ⟨B, 0, none⟩)) ∧ AtG wb B w' p (newG F' H') :=
  (AtG.new wb (Below.refl _ _)).mono fun e w' ⟨p, he, h⟩ => ⟨F, H, p.b, p, he, h⟩

/-- One row of the four grows. -/
structure AllK (A k : Nat) (w7 w' : World) (v : Value) (j : Nat) (xs : List Value) : Prop where
  cell : w'.cell? ⟨A, k, none⟩ = some v
  froz : ∀ i, w'.frozen? ⟨A, i, none⟩ = w7.frozen? ⟨A, i, none⟩
  other : ∀ i, i ≠ k → w'.cell? ⟨A, i, none⟩ = w7.cell? ⟨A, i, none⟩
  kept : Kept (fun b => b = A) w7 w'
  own : w'.ownsRow w7.heap.size 36 1 v j xs
theorem AllK.far {A k : Nat} {w7 w' : World} {v : Value} {j : Nat} {xs : List Value} (h : AllK A k w7 w' v j xs) (hA : A < w7.heap.size) : some A ≠ v.ownBlock := fun e => by
  have := own_ge h.own A e.symm
  omega
theorem all_next {A k : Nat} {w7 w' wa w1 : World} {v : Value} {j g cap : Nat} {xs ys : List Value} (h : AllK A k w7 w' v j xs) (hA : A < w7.heap.size) (hb : Below w'.heap.size w' wa)
    (hown : w1.ownsRow w7.heap.size 36 1 (.slice (some ⟨g, 0, none⟩) (j + 1) cap) (j + 1) ys) (hg : wa.grownBy w1 v.ownBlock) :
    AllK A k w7 (w1.setCell ⟨A, k, none⟩ (.slice (some ⟨g, 0, none⟩) (j + 1) cap)) (.slice (some ⟨g, 0, none⟩) (j + 1) cap) (j + 1) ys := by
  have nb := h.far hA
  have hgA : g ≠ A := fun e => by have := own_ge hown g rfl; omega
  have hs := h.kept.size
  have hbk : w1.heap[A]? = w'.heap[A]? := by rw [hg.block A (by have := hb.size; omega) nb, hb.block A (by omega)]
  have hc1 : ∀ i, w1.cell? ⟨A, i, none⟩ = w'.cell? ⟨A, i, none⟩ := fun i => World.cell?_of_block hbk
  refine ⟨World.cell?_setCell_same _ _ _ ((hc1 k).trans h.cell), fun i => ?_, fun i hi => ?_, ?_, ?_⟩
  · rw [World.frozen?_setCell, show w1.frozen? ⟨A, i, none⟩ = w'.frozen? ⟨A, i, none⟩ from World.frozen?_of_block hbk]; exact h.froz i
  · rw [World.cell?_setCell_other _ _ _ _ (fun e => hi (by simpa using e.symm)), hc1 i]; exact h.other i hi
  · refine ⟨hg.os.trans (hb.os.trans h.kept.os), hg.tape.trans (hb.tape.trans h.kept.tape), hg.output.trans (hb.output.trans h.kept.output), by have := hg.size; have := hb.size; simp [World.setCell]; omega, fun i hi hn => ?_⟩
    have n2 : some i ≠ v.ownBlock := fun e => by have := own_ge h.own i e.symm; omega
    rw [Below.heap_setCell _ _ _ _ hn, hg.block i (by have := hb.size; omega) n2, hb.block i (by omega), h.kept.block i hi hn]
  · refine ⟨hown.1, ?_⟩
    rcases hown.2 with h0 | ⟨g', cap', cur', hv, hg', hh, r⟩
    · exact .inl h0
    · simp at hv
      obtain ⟨rfl, rfl⟩ := hv
      exact .inr ⟨_, _, cur', rfl, hg', by rw [Below.heap_setCell _ _ _ _ hgA]; exact hh, r⟩
theorem all_start {w wb w7 : World} {k : Nat} {M : List Int} (hR : AllR w wb k M) (hk : k < 4) (hB : Below wb.heap.size wb w7) : AllK w.heap.size k w7 w7 (.slice none 0 0) 0 [] ∧ ∀ i, i < 4 → w7.frozen? ⟨w.heap.size, i, none⟩ = false := by
  obtain ⟨c, h1, h2, h3⟩ := hR.cs
  refine ⟨⟨?_, fun _ => rfl, fun _ _ => rfl, Kept.refl _ _, own_nil _ _ _⟩, fun i hi => ?_⟩
  · rw [← h3 k (Nat.le_refl _) hk]; exact stepc hB hR.lt (h1 k hk).1
  · rw [show w7.frozen? ⟨w.heap.size, i, none⟩ = wb.frozen? ⟨w.heap.size, i, none⟩ from World.frozen?_of_block (hB.block _ hR.lt)]; exact (h1 i hi).2
theorem all_done {w wb w7 w9 : World} {k : Nat} {M : List Int} {v : Value} (hR : AllR w wb k M) (hB : Below wb.heap.size wb w7) (h : AllK w.heap.size k w7 w9 v M.length (M.map (Value.int .u64))) : AllR w w9 (k + 1) M := by
  obtain ⟨c, h1, h2, h3⟩ := hR.cs
  have hs := hB.size
  have hl := hR.lt
  have hk7 : Below w.heap.size w7 w9 := h.kept.below (fun b e => by subst e; exact Nat.le_refl _) (by omega)
  refine ⟨(hR.below.trans (hB.mono hR.below.size)).trans hk7, by have := h.kept.size; omega, fun i => if i = k then v else c i, fun i hi => ?_, fun i hi => ?_, fun i hi hi4 => ?_⟩
  · have hf : w9.frozen? ⟨w.heap.size, i, none⟩ = false := by
      rw [h.froz i, show w7.frozen? ⟨w.heap.size, i, none⟩ = wb.frozen? ⟨w.heap.size, i, none⟩ from World.frozen?_of_block (hB.block _ hl)]; exact (h1 i hi).2
    show w9.cell? ⟨w.heap.size, i, none⟩ = some (if i = k then v else c i) ∧ _
    by_cases e : i = k
    · subst e; rw [if_pos rfl]; exact ⟨h.cell, hf⟩
    · rw [if_neg e, h.other i e]; exact ⟨stepc hB hl (h1 i hi).1, hf⟩
  · show w9.ownsRow _ _ 1 (if i = k then v else c i) _ _
    by_cases e : i = k
    · rw [if_pos e]; exact own_base h.own (by omega)
    · rw [if_neg e]
      have ho := own_below (h2 i (by omega)) hB
      exact own_keptF ho h.kept (fun b hb e2 => by have := own_ge ho b hb; omega)
  · show (if i = k then v else c i) = _
    rw [if_neg (by omega)]; exact h3 i (by omega) hi4
theorem meanO_len (ws : List Int) (l : List ActV) (i : Nat) : (meanO ws l i).1.length = i + 2 := by
  induction i with
  | zero => rfl
  | succ i ih => simp [meanO, ih]
theorem all_rows {w wb : World} {M : List Int} (h : AllR w wb 4 M) (hM : M.length ≤ 1000) : ∀ i, i < 4 → ∃ a c, wb.cell? ⟨w.heap.size, i, none⟩ = some (.slice a M.length c) ∧ Row .u64 wb a M.length M := by
  obtain ⟨c, h1, h2, h3⟩ := h.cs
  intro i hi
  have ho := h2 i hi
  obtain ⟨a, cap, e⟩ := own_slice ho
  refine ⟨a, cap, by rw [← e]; exact (h1 i hi).1, ?_⟩
  rw [e] at ho
  exact Row.of_own ho rfl (by omega)
end Go.Proofs.Ytlbmbpkabmihnaa
