/-
  ConeKnown: the walk.
-/
import Derived.Test.YtmljpbbnllfgbaaKnA
import Derived.Test.YtmljpbbnllfgbaaConeQ
namespace Go.Proofs.Ytmljpbbnllfgbaa
open Go.RowKit Go.Maps Num
set_option maxRecDepth 100000

theorem rowU3 (w : World) (x y z : Int) (T : Nat) : Row .u64 (w.alloc (.cells #[.int .u64 x, .int .u64 y, .int .u64 z] T)) (some ⟨w.heap.size, 0, none⟩) 3 [x, y, z] := by
  refine ⟨rfl, by omega, .inr ⟨w.heap.size, 0, rfl, by simp, fun i hi => ?_⟩⟩
  match i, hi with
  | 0, _ => simp [go_sem]
  | 1, _ => simp [go_sem]
  | 2, _ => simp [go_sem]
  | i + 3, h => omega
theorem lits_dec {l : List Int} (h : ∀ x ∈ l, IsLit x ∧ x / 2 < 6) : AllThere plainG l := fun x hx => ⟨(h x hx).1, by have := (h x hx).2; show x / 2 < (6 : Int); omega⟩
theorem al2 : AllThere plainG [2] := lits_dec (by intro x hx; simp at hx; subst hx; unfold IsLit; decide)
theorem al01 : AllThere plainG [0, 1] := lits_dec (by intro x hx; simp at hx; rcases hx with rfl | rfl <;> (unfold IsLit; decide))
theorem al1811 : AllThere plainG [1, 8, 11] := lits_dec (by intro x hx; simp at hx; rcases hx with rfl | rfl | rfl <;> (unfold IsLit; decide))
theorem al210 : AllThere plainG [2, 1, 0] := lits_dec (by intro x hx; simp at hx; rcases hx with rfl | rfl | rfl <;> (unfold IsLit; decide))
theorem al346 : AllThere plainG [3, 4, 6] := lits_dec (by intro x hx; simp at hx; rcases hx with rfl | rfl | rfl <;> (unfold IsLit; decide))
theorem alnil : AllThere plainG [] := by intro x hx; cases hx
theorem reach0 (hW : Wf plainG) : reachL plainG [] = [] := by rw [reach_eq hW alnil]; kernel_rfl
theorem sup01 (hW : Wf plainG) : supL plainG [0, 1] = [] := by rw [sup_eq hW al01]; kernel_rfl
theorem copy210 (hW : Wf plainG) : copyG plainG [2, 1, 0] plainG [3, 4, 6] = (plainG, [0, 3, 4, 6, 0, 0]) := by rw [copy_eq hW al210]; kernel_rfl
theorem words_known (hW : Wf plainG) {ws : List Int} (v : Val plainG [12, 10, 9] ws) : Bits.row 3 (wordsF [1, 8, 11] ws) = [18446744073709551615, 8, 18446744073709551614] := by
  have n1 := v.inp 0 1 rfl
  have n2 := v.inp 1 2 rfl
  have n3 := v.inp 2 3 rfl
  have g4 := v.gate 4 ⟨true, 4, 2⟩ rfl rfl
  have g5 := v.gate 5 ⟨true, 9, 6⟩ rfl rfl
  have a2 : wordV 2 ws = 12 := (v.node (i := 1) (by omega) (by decide)).trans n1
  have a4 : wordV 4 ws = 10 := (v.node (i := 2) (by omega) (by decide)).trans n2
  have a6 : wordV 6 ws = 9 := (v.node (i := 3) (by omega) (by decide)).trans n3
  have e4 : ws.getD 4 0 = 8 := by rw [g4]; show bits .and .u64 (wordV 4 ws) (wordV 2 ws) = 8; rw [a2, a4]; kernel_rfl
  have a8 : wordV 8 ws = 8 := (v.node (i := 4) (by omega) (by decide)).trans e4
  have a9 : wordV 9 ws = 18446744073709551607 := by
    have := wordV_not 8 ws
    rw [show notV 8 = 9 by decide, a8] at this
    rw [this]; decide
  have e5 : ws.getD 5 0 = 1 := by rw [g5]; show bits .and .u64 (wordV 9 ws) (wordV 6 ws) = 1; rw [a9, a6]; kernel_rfl
  have a10 : wordV 10 ws = 1 := (v.node (i := 5) (by omega) (by decide)).trans e5
  have a11 : wordV 11 ws = 18446744073709551614 := by
    have := wordV_not 10 ws
    rw [show notV 10 = 11 by decide, a10] at this
    rw [this]; decide
  show [wordV 1 ws, wordV 8 ws, wordV 11 ws] = _
  rw [wordV_1, a8, a11]

abbrev L3 (w : World) (x y z : Int) : World := w.alloc (.cells #[.int .u32 x, .int .u32 y, .int .u32 z] 40)
abbrev L2 (w : World) (x y : Int) : World := w.alloc (.cells #[.int .u32 x, .int .u32 y] 40)
abbrev L1 (w : World) (x : Int) : World := w.alloc (.cells #[.int .u32 x] 40)
theorem bal (w : World) (o : Obj) : Below w.heap.size w (w.alloc o) := (Below.refl _ _).alloc (Nat.le_refl _) _

section
variable {w wk : World} {B : Nat} {p : Pl} (h : AtG w B wk p plainG)
include h
theorem kn_depth : Calls Try.prog 24 #[.pointer (some ⟨B, 0, none⟩), .slice (some ⟨wk.heap.size, 0, none⟩) 1 1] (wk.alloc (.cells #[.int .u32 12] 40)) fun e w' => (∃ x, e = .returned (.tuple #[x, .int .i64 1])) ∧ AtG w B w' p plainG := by
  have h2 := h.step (bal wk (.cells #[.int .u32 12] 40))
  have := Depth_bad (c := 1) h2.is h2.wf (by decide) (row1 wk 12 40) (by intro x hx; simp at hx; subst hx; unfold IsLit; decide) (by unfold chkV; rw [if_neg]; intro hh; have := hh 12 (by simp); revert this; decide)
  rw [h2.b] at this
  exact this.mono (fun e w' ⟨he, hB⟩ => ⟨he, h2.step hB⟩)
theorem kn_copy2 {B2 : Nat} {p2 : Pl} (hc : AtG w B2 wk p2 plainG) : Calls Try.prog 13 #[.pointer (some ⟨B2, 0, none⟩), .pointer (some ⟨B, 0, none⟩), .slice (some ⟨wk.heap.size, 0, none⟩) 2 2, .slice (some ⟨wk.heap.size + 1, 0, none⟩) 1 1] ((wk.alloc (.cells #[.int .u32 2, .int .u32 4] 40)).alloc (.cells #[.int .u32 2] 40)) fun e w' => e = .returned (.tuple #[.slice none 0 0, .int .i64 1]) ∧ AtG w B w' p plainG := by
  have hb := bal wk (.cells #[.int .u32 2, .int .u32 4] 40)
  have hb2 := bal (wk.alloc (.cells #[.int .u32 2, .int .u32 4] 40)) (.cells #[.int .u32 2] 40)
  have h2 := (h.step hb).step hb2
  have c2 := (hc.step hb).step hb2
  have := Copy_bad (c := 2) c2.is c2.wf (by decide) h2.is h2.wf (by decide) ((row2 wk 2 4 40).step hb2) (by intro x hx; simp at hx; rcases hx with rfl | rfl <;> (unfold IsLit; decide)) (by kernel_rfl) (.slice (some ⟨wk.heap.size + 1, 0, none⟩) 1 1)
  rw [h2.b, c2.b] at this
  exact this.mono (fun e w' ⟨he, hB⟩ => ⟨he, h2.step hB⟩)
theorem kn_copy3 {B2 : Nat} {p2 : Pl} (hc : AtG w B2 wk p2 plainG) : Calls Try.prog 13 #[.pointer (some ⟨B2, 0, none⟩), .pointer (some ⟨B, 0, none⟩), .slice (some ⟨wk.heap.size, 0, none⟩) 3 3, .slice (some ⟨wk.heap.size + 1, 0, none⟩) 1 1] ((wk.alloc (.cells #[.int .u32 2, .int .u32 4, .int .u32 99] 40)).alloc (.cells #[.int .u32 2] 40)) fun e w' => e = .returned (.tuple #[.slice none 0 0, .int .i64 1]) ∧ AtG w B w' p plainG := by
  have hb := bal wk (.cells #[.int .u32 2, .int .u32 4, .int .u32 99] 40)
  have hb2 := bal (wk.alloc (.cells #[.int .u32 2, .int .u32 4, .int .u32 99] 40)) (.cells #[.int .u32 2] 40)
  have h2 := (h.step hb).step hb2
  have c2 := (hc.step hb).step hb2
  have := Copy_bad (c := 3) c2.is c2.wf (by decide) h2.is h2.wf (by decide) ((row3 wk 2 4 99 40).step hb2) (by intro x hx; simp at hx; rcases hx with rfl | rfl | rfl <;> (unfold IsLit; decide)) (by unfold mayV; rw [if_pos (by decide)]; unfold chkV; rw [if_neg]; intro hh; have := hh 99 (by simp); revert this; decide) (.slice (some ⟨wk.heap.size + 1, 0, none⟩) 1 1)
  rw [h2.b, c2.b] at this
  exact this.mono (fun e w' ⟨he, hB⟩ => ⟨he, h2.step hB⟩)
theorem kn_words2 {a : Option Addr} {c : Nat} : Calls Try.prog 15 #[.pointer (some ⟨B, 0, none⟩), .slice a 2 c, .slice (some ⟨wk.heap.size, 0, none⟩) 1 1] (wk.alloc (.cells #[.int .u32 2] 40)) fun e w' => e = .returned (.tuple #[.slice none 0 0, .int .i64 1]) ∧ AtG w B w' p plainG := by
  have h2 := h.step (bal wk (.cells #[.int .u32 2] 40))
  have := Words_bad (ia := a) (iN := 2) (ic := c) (c := 1) h2.is h2.wf (by decide) (by decide) (row1 wk 2 40) al2
  rw [h2.b] at this
  exact this.mono (fun e w' ⟨he, hB⟩ => ⟨he, h2.step hB⟩)
theorem kn_reach : Calls Try.prog 18 #[.pointer (some ⟨B, 0, none⟩), .slice none 0 0] wk fun e w' => (∃ a c, e = .returned (.tuple #[.slice a 0 c, .int .i64 0])) ∧ AtG w B w' p plainG := by
  have := Reach_any (c := 0) h.is h.wf (by decide) (Row.nil .u32 wk none) alnil
  rw [reach0 h.wf, h.b] at this
  exact this.mono (fun e w' ⟨a, c, he, hT⟩ => ⟨⟨a, c, he⟩, h.step hT.below⟩)
theorem kn_sup : Calls Try.prog 19 #[.pointer (some ⟨B, 0, none⟩), .slice (some ⟨wk.heap.size, 0, none⟩) 2 2] (wk.alloc (.cells #[.int .u32 0, .int .u32 1] 40)) fun e w' => (∃ a c, e = .returned (.tuple #[.slice a 0 c, .int .i64 0])) ∧ AtG w B w' p plainG := by
  have h2 := h.step (bal wk (.cells #[.int .u32 0, .int .u32 1] 40))
  have := Support_any (c := 2) h2.is h2.wf (by decide) (row2 wk 0 1 40) al01
  rw [sup01 h2.wf, h2.b] at this
  exact this.mono (fun e w' ⟨a, c, he, hT⟩ => ⟨⟨a, c, he⟩, h2.step hT.below⟩)
theorem kn_words3 : Calls Try.prog 15 #[.pointer (some ⟨B, 0, none⟩), .slice (some ⟨wk.heap.size, 0, none⟩) 3 3, .slice (some ⟨wk.heap.size + 1, 0, none⟩) 3 3] ((wk.alloc (.cells #[.int .u64 12, .int .u64 10, .int .u64 9] 56)).alloc (.cells #[.int .u32 1, .int .u32 8, .int .u32 11] 40)) fun e w' => ∃ g, e = .returned (.tuple #[.slice (some ⟨g, 0, none⟩) 3 3, .int .i64 0]) ∧ AtG w B w' p plainG ∧ w'.ownsRow w.heap.size 56 1 (.slice (some ⟨g, 0, none⟩) 3 3) 3 [.int .u64 18446744073709551615, .int .u64 8, .int .u64 18446744073709551614] := by
  have hb := bal wk (.cells #[.int .u64 12, .int .u64 10, .int .u64 9] 56)
  have hb2 := bal (wk.alloc (.cells #[.int .u64 12, .int .u64 10, .int .u64 9] 56)) (.cells #[.int .u32 1, .int .u32 8, .int .u32 11] 40)
  have h2 := (h.step hb).step hb2
  have hrow := row3 (wk.alloc (.cells #[.int .u64 12, .int .u64 10, .int .u64 9] 56)) 1 8 11 40
  have e1 : (wk.alloc (.cells #[.int .u64 12, .int .u64 10, .int .u64 9] 56)).heap.size = wk.heap.size + 1 := by simp
  rw [e1] at hrow
  have := Words_any (ic := 3) (c := 3) h2.is h2.wf (by decide) ((rowU3 wk 12 10 9 56).step hb2) (by
    intro i
    match i with
    | 0 => decide
    | 1 => decide
    | 2 => decide
    | i + 3 => simp) hrow al1811 (by omega)
  rw [h2.b] at this
  refine this.mono (fun e w' ⟨ws, g, he, ho, hV, hB⟩ => ⟨g, he, h2.step hB, ?_⟩)
  rw [words_known h2.wf hV] at ho
  exact own_base ho h2.below.size
theorem kn_copy4 {g : Nat} {B2 : Nat} {p2 : Pl} (hc : AtG w B2 wk p2 plainG) (hap : Apart p p2) (ho : wk.ownsRow w.heap.size 56 1 (.slice (some ⟨g, 0, none⟩) 3 3) 3 [.int .u64 18446744073709551615, .int .u64 8, .int .u64 18446744073709551614]) :
    Calls Try.prog 13 #[.pointer (some ⟨B2, 0, none⟩), .pointer (some ⟨B, 0, none⟩), .slice (some ⟨wk.heap.size, 0, none⟩) 3 3, .slice (some ⟨wk.heap.size + 1, 0, none⟩) 3 3] ((wk.alloc (.cells #[.int .u32 3, .int .u32 4, .int .u32 6] 40)).alloc (.cells #[.int .u32 2, .int .u32 1, .int .u32 0] 40)) fun e w' => ∃ g2, e = .returned (.tuple #[.slice (some ⟨g2, 0, none⟩) 3 3, .int .i64 0]) ∧ Below w.heap.size w w' ∧ w'.ownsRow w.heap.size 56 1 (.slice (some ⟨g, 0, none⟩) 3 3) 3 [.int .u64 18446744073709551615, .int .u64 8, .int .u64 18446744073709551614] ∧ w'.ownsRow w.heap.size 40 1 (.slice (some ⟨g2, 0, none⟩) 3 3) 3 [.int .u32 3, .int .u32 1, .int .u32 0] := by
  have hb := bal wk (.cells #[.int .u32 3, .int .u32 4, .int .u32 6] 40)
  have hb2 := bal (wk.alloc (.cells #[.int .u32 3, .int .u32 4, .int .u32 6] 40)) (.cells #[.int .u32 2, .int .u32 1, .int .u32 0] 40)
  have h2 := (h.step hb).step hb2
  have c2 := (hc.step hb).step hb2
  have hrow := row3 (wk.alloc (.cells #[.int .u32 3, .int .u32 4, .int .u32 6] 40)) 2 1 0 40
  have e1 : (wk.alloc (.cells #[.int .u32 3, .int .u32 4, .int .u32 6] 40)).heap.size = wk.heap.size + 1 := by simp
  rw [e1] at hrow
  have ho2 := own_below (own_below ho hb) hb2
  have := CopyL_any (bc := 3) (c := 3) c2.is c2.wf (by decide) h2.is h2.wf (by decide) (fun k hk hp => hap k hp hk) ((row3 wk 3 4 6 40).step hb2) al346 hrow (fun x hx _ hh => by cases hx; have := hc.is.has_lt hh; simp at this; omega) al210 (by omega)
  rw [copy210 h2.wf, c2.b, h2.b] at this
  refine this.mono (fun e w' ⟨p3, g2, he, hC⟩ => ⟨g2, he, ?_, own_beside c2.is ho2 hC.step.kept (by decide) (by decide) (by decide), ?_⟩)
  · exact c2.below.trans (hC.step.kept.below c2.out c2.below.size)
  · have := own_base hC.row c2.below.size
    exact this
end
end Go.Proofs.Ytmljpbbnllfgbaa
