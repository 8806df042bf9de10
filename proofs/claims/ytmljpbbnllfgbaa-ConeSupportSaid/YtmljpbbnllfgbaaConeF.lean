/-
  Copy: each gate.
-/
import Derived.Test.YtmljpbbnllfgbaaConeE
namespace Go.Proofs.Ytmljpbbnllfgbaa
open Go.RowKit Go.Maps Num
set_option maxRecDepth 100000

/-- Copy's state: the second graph T at p; the row of what stands; the boxes. -/
structure CpS (w0 wr : World) (p0 p : Pl) (T : Gr) (g qs qt qc N : Nat) (S : List Int) : Prop where
  step : Step p0 w0 p wr T
  wf : Wf T
  len : T.nodes.length ≤ 90000
  slen : S.length = N
  there : AllThere T S
  row : wr.ownsRow w0.heap.size 40 1 (.slice (some ⟨g, 0, none⟩) N N) N (S.map (Value.int .u32))
  bs : wr.heap[qs]? = some (.cells #[.slice (some ⟨g, 0, none⟩) N N] 34 (0, 0))
  bt : wr.heap[qt]? = some (.cells #[.pointer (some ⟨p0.b, 0, none⟩)] 29 (0, 0))
  bc : wr.heap[qc]? = some (.cells #[.func (.func 42) #[] #[.pointer (some ⟨qs, 0, none⟩)]] 92 (0, 0))

theorem CpS.below {w0 wr w2 : World} {p0 p : Pl} {T : Gr} {g qs qt qc N : Nat} {S : List Int} (h : CpS w0 wr p0 p T g qs qt qc N S) (hb : Below wr.heap.size wr w2) : CpS w0 w2 p0 p T g qs qt qc N S :=
  ⟨h.step.then hb, h.wf, h.len, h.slen, h.there, own_below h.row hb, (hb.block _ (Array.getElem?_eq_some_iff.1 h.bs).1).trans h.bs, (hb.block _ (Array.getElem?_eq_some_iff.1 h.bt).1).trans h.bt, (hb.block _ (Array.getElem?_eq_some_iff.1 h.bc).1).trans h.bc⟩
theorem CpS.next {w0 wr w2 : World} {p0 p p2 : Pl} {T T2 : Gr} {g qs qt qc N : Nat} {S : List Int} (h : CpS w0 wr p0 p T g qs qt qc N S) (hS : Step p wr p2 w2 T2) (hW : Wf T2) (hl : T2.nodes.length ≤ 90000) (hle : Le T T2) : CpS w0 w2 p0 p2 T2 g qs qt qc N S :=
  ⟨h.step.trans hS, hW, hl, h.slen, h.there.mono hle, own_beside h.step.is h.row hS.kept (by decide) (by decide) (by decide),
    (hS.kept.block _ (Array.getElem?_eq_some_iff.1 h.bs).1 (h.step.is.other h.bs (by decide) (by decide) (by decide))).trans h.bs,
    (hS.kept.block _ (Array.getElem?_eq_some_iff.1 h.bt).1 (h.step.is.other h.bt (by decide) (by decide) (by decide))).trans h.bt,
    (hS.kept.block _ (Array.getElem?_eq_some_iff.1 h.bc).1 (h.step.is.other h.bc (by decide) (by decide) (by decide))).trans h.bc⟩
theorem CpS.glo {w0 wr : World} {p0 p : Pl} {T : Gr} {g qs qt qc N : Nat} {S : List Int} (h : CpS w0 wr p0 p T g qs qt qc N S) : w0.heap.size ≤ g ∧ g < wr.heap.size ∧ qs < wr.heap.size ∧ qt < wr.heap.size ∧ qc < wr.heap.size ∧ g ≠ qs ∧ g ≠ qt ∧ g ≠ qc ∧ ∃ cur, wr.heap[g]? = some (.cells cur 40 (0, 0)) := by
  obtain ⟨cur, hc⟩ := own_type h.row rfl
  refine ⟨own_ge h.row g rfl, own_lt h.row, (Array.getElem?_eq_some_iff.1 h.bs).1, (Array.getElem?_eq_some_iff.1 h.bt).1, (Array.getElem?_eq_some_iff.1 h.bc).1, ?_, ?_, ?_, cur, hc⟩
  · intro e; have := h.bs; rw [← e, hc] at this; simp at this
  · intro e; have := h.bt; rw [← e, hc] at this; simp at this
  · intro e; have := h.bc; rw [← e, hc] at this; simp at this
theorem kept_set0 (w : World) (g o : Nat) (v : Value) : Kept (fun k => k = g) w (w.setCell ⟨g, o, none⟩ v) := by
  refine ⟨rfl, rfl, rfl, by simp [World.setCell], fun k _ hn => ?_⟩
  exact Below.heap_setCell _ _ _ _ hn
theorem CpS.set {w0 wr : World} {p0 p : Pl} {T : Gr} {g qs qt qc N : Nat} {S : List Int} (h : CpS w0 wr p0 p T g qs qt qc N S) (i : Nat) {x : Int} (hx : There T x) : CpS w0 (wr.setCell ⟨g, i, none⟩ (.int .u32 x)) p0 p T g qs qt qc N (S.set i x) := by
  obtain ⟨h1, h2, -, -, -, n1, n2, n3, cur, hc⟩ := h.glo
  have hK := kept_set0 wr g i (.int .u32 x)
  refine ⟨?_, h.wf, h.len, by rw [List.length_set]; exact h.slen, ?_, ?_, ?_, ?_, ?_⟩
  · have hng : ¬ p.has g := h.step.is.other hc (by decide) (by decide) (by decide)
    refine ⟨h.step.is.beside hK (fun k hk hp => by subst hk; exact hng hp), h.step.kept.trans (F' := fun k => k = g) hK (fun x hx => by subst hx; exact .inr h1), h.step.b, h.step.new⟩
  · intro y hy
    rcases List.mem_or_eq_of_mem_set hy with hy | rfl
    · exact h.there y hy
    · exact hx
  · have := (h.row.stored i (.int .u32 x)).1
    rw [← List.map_set] at this; exact this
  · exact (hK.block _ (Array.getElem?_eq_some_iff.1 h.bs).1 (fun e => n1 e.symm)).trans h.bs
  · exact (hK.block _ (Array.getElem?_eq_some_iff.1 h.bt).1 (fun e => n2 e.symm)).trans h.bt
  · exact (hK.block _ (Array.getElem?_eq_some_iff.1 h.bc).1 (fun e => n3 e.symm)).trans h.bc
theorem CpS.at {w0 wr : World} {p0 p : Pl} {T : Gr} {g qs qt qc N : Nat} {S : List Int} (h : CpS w0 wr p0 p T g qs qt qc N S) : ∀ i, i < N → wr.cell? ⟨g, 0 + i, none⟩ = some (.int .u32 (S.getD i 0)) := fun k hk => by
  rw [Nat.zero_add, h.row.cellAt (j := k) (by simp [h.slen]; exact hk), List.getElem?_map]
  have := h.slen
  simp [List.getD, show k < S.length by omega]
theorem CpS.lits {w0 wr : World} {p0 p : Pl} {T : Gr} {g qs qt qc N : Nat} {S : List Int} (h : CpS w0 wr p0 p T g qs qt qc N S) : ∀ i, There T (S.getD i 0) := fun i => by
  by_cases hi : i < S.length
  · exact h.there _ (by simp [List.getD, hi])
  · have e : S.getD i 0 = 0 := by simp [List.getD, List.getElem?_eq_none (Nat.le_of_not_lt hi)]
    rw [e]
    exact ⟨⟨by omega, by omega⟩, by have := h.wf.pos; omega⟩
theorem over_there {T : Gr} {S : List Int} (h : ∀ i, There T (S.getD i 0)) (l : Int) : There T (overV S l) := by
  unfold overV ifV
  split
  · exact (h _).not
  · exact h _

/-- The closure's call. -/
theorem CpS.stand {w0 wr : World} {p0 p : Pl} {T : Gr} {g qs qt qc N : Nat} {S : List Int} (h : CpS w0 wr p0 p T g qs qt qc N S) {l : Int} (hl : IsLit l) (hn : nodeN l < N) :
    Calls Try.prog 42 #[.int .u32 l, .pointer (some ⟨qs, 0, none⟩)] wr fun e w' => e = .returned (.int .u32 (overV S l)) ∧ Below wr.heap.size wr w' := by
  obtain ⟨h1, h2, h3, h4, h5, -, -, -, -⟩ := h.glo
  refine copy1_any qs g 0 N N S l hl (fun i => (h.lits i).1) (by have := nodeN_int hl; omega) wr h3 ?_ h2 h.at
  simp [World.cell?, h.bs]
theorem CpS.and {w0 wr : World} {p0 p : Pl} {T : Gr} {g qs qt qc N : Nat} {S : List Int} (h : CpS w0 wr p0 p T g qs qt qc N S) {x y : Int} (hx : There T x) (hy : There T y) (h9 : T.nodes.length < 90000) :
    Calls Try.prog 36 #[.pointer (some ⟨p0.b, 0, none⟩), .slice (some ⟨wr.heap.size, 0, none⟩) 2 2] (wr.alloc (.cells #[.int .u32 x, .int .u32 y] 40)) fun e w' => e = .returned (.tuple #[.int .u32 (andG T x y).2, .int .i64 0]) ∧ (∃ p', CpS w0 w' p0 p' (andG T x y).1 g qs qt qc N S) ∧ SameB wr w' := by
  have hlt := fun k (hk : p.has k) => h.step.is.has_lt hk
  have hb := (Below.refl wr.heap.size wr).alloc (Nat.le_refl _) (.cells #[.int .u32 x, .int .u32 y] 40)
  have h1 := h.below hb
  have hl : AllThere T [x, y] := by intro u hu; simp at hu; rcases hu with rfl | rfl <;> assumption
  have gd := and_ok T x y h.wf hx hy (by omega)
  have := And_any _ p T _ 2 2 [x, y] h1.step.is h1.wf (row2 wr x y _) (Nat.le_refl _) (by
    intro b hb hp
    have := hlt _ hp
    cases hb
    simp at this) hl (by omega)
  rw [h.step.b, show manyG andG 1 T [x, y] = andG T x y from rfl] at this
  refine this.mono fun e w' ⟨he, p', hS⟩ => ⟨he, ⟨p', h1.next hS gd.wf (by have := gd.len; omega) gd.le⟩, (SameB.below hb).trans (SameB.kept hS.kept (fun k hk cur hc => h1.step.is.other hc (by decide) (by decide) (by decide) hk))⟩
end Go.Proofs.Ytmljpbbnllfgbaa
