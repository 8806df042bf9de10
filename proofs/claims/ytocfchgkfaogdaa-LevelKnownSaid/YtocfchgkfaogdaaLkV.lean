/-
  LevelKnown.
-/
import Derived.Test.YtocfchgkfaogdaaLkA
namespace Go.Proofs.Ytocfchgkfaogdaa
open Go.RowKit Go.Maps
set_option maxRecDepth 100000

theorem kn1 (w : World) : Calls Try.prog 10 #[.slice (some ⟨w.heap.size + 1, 0, none⟩) 1 1] ((w.alloc (.cells #[.int .i64 1] 3)).alloc (.cells #[.slice (some ⟨w.heap.size, 0, none⟩) 1 1] 23)) fun e w' => ∃ (va : Option Addr) (ca : Nat), e = .returned (.tuple #[.slice va 0 ca, .int .i64 1]) ∧ Row .i64 w' va 0 [] ∧ Below w.heap.size w w' :=
  order_lit w [[1]] (E := 1) (L := []) (by decide) (by decide) (by decide)
theorem kn2 (w : World) : Calls Try.prog 12 #[.slice (some ⟨w.heap.size + 1, 0, none⟩) 1 1] ((w.alloc (.cells #[.int .i64 (-1)] 3)).alloc (.cells #[.slice (some ⟨w.heap.size, 0, none⟩) 1 1] 23)) fun e w' => ∃ (va : Option Addr) (ca : Nat), e = .returned (.tuple #[.slice va 0 ca, .int .i64 1]) ∧ Row .i64 w' va 0 [] ∧ Below w.heap.size w w' :=
  depth_lit w [[-1]] (E := 1) (L := []) (by decide) (by decide) (by decide)
theorem kn3 (w : World) : Calls Try.prog 14 #[.slice (some ⟨w.heap.size + 1, 0, none⟩) 1 1] ((w.alloc (.cells #[.int .i64 1] 3)).alloc (.cells #[.slice (some ⟨w.heap.size, 0, none⟩) 1 1] 23)) fun e w' => ∃ (va : Option Addr) (ca : Nat), e = .returned (.tuple #[.slice va 0 ca, .bool false]) ∧ Row .i64 w' va 0 [] ∧ Below w.heap.size w w' :=
  round_lit w [[1]] (L := []) (b := false) (by decide) (by decide) (by decide)
/-- Reach at rows that are written out. -/
theorem reach_lit {w0 w : World} {a fa : Option Addr} {n fn : Nat} {N : List (List Int)} {F : List Int} (hb0 : Below w0.heap.size w0 w) (h : RR w a n N) (hf : Row .i64 w fa fn F) (hd : (decide (N.length ≤ 1000) && N.all (fun r => decide (r.length ≤ 1000)) && decide (fn ≤ 1000)) = true) {E : Int} {L : List Bool} (hE : rchE N F = E) (hL : rchL N F = L) (c fc : Nat) :
    Calls Try.prog 16 #[.slice a n c, .slice fa fn fc] w fun e w' => ∃ (va : Option Addr) (ca : Nat), e = .returned (.tuple #[.slice va L.length ca, .int .i64 E]) ∧ BRow w' va L.length L ∧ Below w0.heap.size w0 w' := by
  simp only [Bool.and_eq_true, decide_eq_true_eq, List.all_eq_true] at hd
  refine (Reach_any h hf (by rw [← h.len]; exact hd.1.1) hd.2 (getD_le hd.1.2) c fc).mono ?_
  rintro e w' ⟨va, ca, rfl, hrow, hb⟩
  rw [hE, hL] at *
  have hle : L.length ≤ 9223372036854775807 := by have := own_cap hrow; omega
  exact ⟨va, ca, rfl, BRow.of_own hrow rfl hle, nextw hb0 hb⟩
theorem rchL_no {N : List (List Int)} {F : List Int} (h : rchE N F = 1) : rchL N F = [] := by unfold rchL; rw [h]; rfl
theorem kn4 (w : World) : Calls Try.prog 16 #[.slice (some ⟨w.heap.size + 1, 0, none⟩) 1 1, .slice none 0 0] ((w.alloc (.cells #[.int .i64 1] 3)).alloc (.cells #[.slice (some ⟨w.heap.size, 0, none⟩) 1 1] 23)) fun e w' => ∃ (va : Option Addr) (ca : Nat), e = .returned (.tuple #[.slice va 0 ca, .int .i64 1]) ∧ BRow w' va 0 [] ∧ Below w.heap.size w w' :=
  reach_lit (N := [[1]]) (F := []) (E := 1) (L := []) (litW_below w [[1]]) (lits w [[1]] (by simp) (by simp)) (Row.nil _ _ _) (by decide) (by decide) (rchL_no (by decide)) 1 0
theorem kn5 (w : World) : Calls Try.prog 16 #[.slice (some ⟨w.heap.size, 0, none⟩) 1 1, .slice (some ⟨w.heap.size + 1, 0, none⟩) 1 1] ((w.alloc (.cells #[.slice none 0 0] 23)).alloc (.cells #[.int .i64 1] 3)) fun e w' => ∃ (va : Option Addr) (ca : Nat), e = .returned (.tuple #[.slice va 0 ca, .int .i64 1]) ∧ BRow w' va 0 [] ∧ Below w.heap.size w w' := by
  have hb : Below (w.alloc (.cells #[.slice none 0 0] 23)).heap.size (w.alloc (.cells #[.slice none 0 0] 23)) ((w.alloc (.cells #[.slice none 0 0] 23)).alloc (.cells #[.int .i64 1] 3)) := (Below.refl _ _).alloc (Nat.le_refl _) _
  have h1 : RR (w.alloc (.cells #[.slice none 0 0] 23)) (some ⟨w.heap.size, 0, none⟩) 1 [[]] := lits w [[]] (by simp) (by simp)
  have h2 : Row .i64 ((w.alloc (.cells #[.slice none 0 0] 23)).alloc (.cells #[.int .i64 1] 3)) (some ⟨w.heap.size + 1, 0, none⟩) 1 [1] := by
    have := lit_row (w.alloc (.cells #[.slice none 0 0] 23)) [1] (by simp)
    rw [show (w.alloc (.cells #[.slice none 0 0] 23)).heap.size = w.heap.size + 1 by simp] at this
    exact this
  exact reach_lit (N := [[]]) (F := [1]) (E := 1) (L := []) (nextw (litW_below w [[]]) hb) (h1.step hb) h2 (by decide) (by decide) (rchL_no (by decide)) 1 1
theorem kn6 (w : World) : Calls Try.prog 10 #[.slice none 0 0] w fun e w' => ∃ (va : Option Addr) (ca : Nat), e = .returned (.tuple #[.slice va 0 ca, .int .i64 0]) ∧ Below w.heap.size w w' := by
  refine (Order_any (RR.nil w none) (by omega) (fun i => by simp) 0).mono ?_
  rintro e w' ⟨va, ca, rfl, -, hb⟩
  rw [show ordE [] = 0 by decide, show ordL [] = [] by decide]
  exact ⟨va, ca, rfl, hb⟩
theorem kn7 (w : World) : Calls Try.prog 10 #[.slice (some ⟨w.heap.size + 1 + 1, 0, none⟩) 3 3] (((w.alloc (.cells #[.int .i64 1, .int .i64 1, .int .i64 1] 3)).alloc (.cells #[.int .i64 0, .int .i64 1] 3)).alloc (.cells #[.slice (some ⟨w.heap.size, 0, none⟩) 3 3, .slice none 0 0, .slice (some ⟨w.heap.size + 1, 0, none⟩) 2 2] 23)) fun e w' => ∃ (va : Option Addr) (ca : Nat), e = .returned (.tuple #[.slice va 3 ca, .int .i64 0]) ∧ Row .i64 w' va 3 [1, 0, 2] ∧ Below w.heap.size w w' :=
  order_lit w [[1, 1, 1], [], [0, 1]] (E := 0) (L := [1, 0, 2]) (by decide) (by decide) (by decide)
theorem kn8 (w : World) : Calls Try.prog 14 #[.slice (some ⟨w.heap.size + 1 + 1 + 1, 0, none⟩) 4 4] ((((w.alloc (.cells #[.int .i64 3] 3)).alloc (.cells #[.int .i64 1] 3)).alloc (.cells #[.int .i64 2, .int .i64 1] 3)).alloc (.cells #[.slice none 0 0, .slice (some ⟨w.heap.size, 0, none⟩) 1 1, .slice (some ⟨w.heap.size + 1, 0, none⟩) 1 1, .slice (some ⟨w.heap.size + 1 + 1, 0, none⟩) 2 2] 23)) fun e w' => ∃ (va : Option Addr) (ca : Nat), e = .returned (.tuple #[.slice va 2 ca, .bool true]) ∧ Row .i64 w' va 2 [1, 3] ∧ Below w.heap.size w w' :=
  round_lit w [[], [3], [1], [2, 1]] (L := [1, 3]) (b := true) (by decide) (by decide) (by decide)
theorem rc9 : rchL [[], [3], [1], [2], [0]] [3, 3] = [false, true, true, true, false] := by
  have hE : rchE [[], [3], [1], [2], [0]] [3, 3] = 0 := by decide
  have h3 : Rc [[], [3], [1], [2], [0]] [3, 3] 3 := .base (by decide)
  have h2 : Rc [[], [3], [1], [2], [0]] [3, 3] 2 := .step h3 (by decide)
  have h1 : Rc [[], [3], [1], [2], [0]] [3, 3] 1 := .step h2 (by decide)
  have hi : ∀ i, [false, true, true, true, false].getD i false = true → i = 1 ∨ i = 2 ∨ i = 3 := fun i h => by
    match i with
    | 0 => simp at h
    | 1 => simp
    | 2 => simp
    | 3 => simp
    | 4 => simp at h
    | i + 5 => simp at h
  have hR : RS [[], [3], [1], [2], [0]] [3, 3] [false, true, true, true, false] [] := by
    refine ⟨rfl, fun i h => ?_, fun z hz => by simp at hz, fun k hk => ?_, fun i h k hk => ?_⟩
    · rcases hi i h with rfl | rfl | rfl
      · exact h1
      · exact h2
      · exact h3
    · have : k = 3 := by simp at hk; omega
      subst this; exact .inl rfl
    · rcases hi i h with rfl | rfl | rfl
      · have : k = 3 := by simpa [nd] using hk
        subst this; exact .inl rfl
      · have : k = 1 := by simpa [nd] using hk
        subst this; exact .inl rfl
      · have : k = 2 := by simpa [nd] using hk
        subst this; exact .inl rfl
  unfold rchL
  rw [if_pos hE, ← hR.done]
theorem kn9 (w : World) : Calls Try.prog 16 #[.slice (some ⟨w.heap.size + 1 + 1 + 1 + 1, 0, none⟩) 5 5, .slice (some ⟨w.heap.size + 1 + 1 + 1 + 1 + 1, 0, none⟩) 2 2] ((((((w.alloc (.cells #[.int .i64 3] 3)).alloc (.cells #[.int .i64 1] 3)).alloc (.cells #[.int .i64 2] 3)).alloc (.cells #[.int .i64 0] 3)).alloc (.cells #[.slice none 0 0, .slice (some ⟨w.heap.size, 0, none⟩) 1 1, .slice (some ⟨w.heap.size + 1, 0, none⟩) 1 1, .slice (some ⟨w.heap.size + 1 + 1, 0, none⟩) 1 1, .slice (some ⟨w.heap.size + 1 + 1 + 1, 0, none⟩) 1 1] 23)).alloc (.cells #[.int .i64 3, .int .i64 3] 3)) fun e w' => ∃ (va : Option Addr) (ca : Nat), e = .returned (.tuple #[.slice va 5 ca, .int .i64 0]) ∧ BRow w' va 5 [false, true, true, true, false] ∧ Below w.heap.size w w' := by
  have hb : Below (litW w [[], [3], [1], [2], [0]]).heap.size (litW w [[], [3], [1], [2], [0]]) ((litW w [[], [3], [1], [2], [0]]).alloc (.cells #[.int .i64 3, .int .i64 3] 3)) := (Below.refl _ _).alloc (Nat.le_refl _) _
  have h1 := lits w [[], [3], [1], [2], [0]] (by simp) (by simp)
  have h2 : Row .i64 ((litW w [[], [3], [1], [2], [0]]).alloc (.cells #[.int .i64 3, .int .i64 3] 3)) (some ⟨w.heap.size + 1 + 1 + 1 + 1 + 1, 0, none⟩) 2 [3, 3] := by
    have := lit_row (litW w [[], [3], [1], [2], [0]]) [3, 3] (by simp)
    rw [show (litW w [[], [3], [1], [2], [0]]).heap.size = w.heap.size + 1 + 1 + 1 + 1 + 1 by simp [litW, allocs]] at this
    exact this
  exact reach_lit (N := [[], [3], [1], [2], [0]]) (F := [3, 3]) (E := 0) (L := [false, true, true, true, false]) (nextw (litW_below w _) hb) (h1.step hb) h2 (by decide) (by decide) rc9 5 2
theorem kn10 (w : World) : Calls Try.prog 23 #[.slice (some ⟨w.heap.size + 1, 0, none⟩) 1 1] ((w.alloc (.cells #[.int .i64 5] 3)).alloc (.cells #[.slice (some ⟨w.heap.size, 0, none⟩) 1 1] 23)) fun e w' => e = .returned (.bool false) ∧ Below w.heap.size w w' :=
  (May_any (lits w [[5]] (by simp) (by simp)) 1).mono (fun e w' ⟨he, hw⟩ => ⟨by rw [he, show mayN [[5]] = false by decide], by rw [hw]; exact litW_below w [[5]]⟩)
theorem kn11 (w : World) : Calls Try.prog 23 #[.slice none 0 0] w fun e w' => e = .returned (.bool true) ∧ Below w.heap.size w w' :=
  (May_any (RR.nil w none) 0).mono (fun e w' ⟨he, hw⟩ => ⟨by rw [he, show mayN [] = true by decide], by rw [hw]; exact Below.refl _ _⟩)
theorem kn12 (w : World) : Calls Try.prog 21 #[.slice none 0 0] w fun e w' => ∃ (va : Option Addr) (ca : Nat), e = .returned (.slice va 0 ca) ∧ Below w.heap.size w w' :=
  (Layers_any (Row.nil .i64 w none) (by omega) (fun x h => by simp at h) 0).mono (fun e w' ⟨va, ca, he, _, _, _, hb⟩ => ⟨va, ca, by rw [he, show (layL []).length = 0 by decide], hb⟩)
theorem kn13 {w : World} {a : Option Addr} {n c : Nat} {l : List Bool} (ha : BRow w a n l) (x y z u v : Bool) {b : Bool} (hb : decide (l = [x, y, z, u, v]) = b) : Calls Try.prog 19 #[.slice a n c, .slice (some ⟨w.heap.size, 0, none⟩) 5 5] (w.alloc (.cells #[.bool x, .bool y, .bool z, .bool u, .bool v] 4)) fun e w' => e = .returned (.bool b) ∧ Below w.heap.size w w' := by
  have hba : Below w.heap.size w (w.alloc (.cells #[.bool x, .bool y, .bool z, .bool u, .bool v] 4)) := (Below.refl _ _).alloc (Nat.le_refl _) _
  have h2 : BRow (w.alloc (.cells #[.bool x, .bool y, .bool z, .bool u, .bool v] 4)) (some ⟨w.heap.size, 0, none⟩) 5 [x, y, z, u, v] := blit_row w [x, y, z, u, v] (by simp)
  refine (bequal_any (ha.step hba) h2 c _).mono ?_
  rintro e w' ⟨rfl, hb2⟩
  rw [hb]
  exact ⟨rfl, nextw hba hb2⟩
end Go.Proofs.Ytocfchgkfaogdaa
