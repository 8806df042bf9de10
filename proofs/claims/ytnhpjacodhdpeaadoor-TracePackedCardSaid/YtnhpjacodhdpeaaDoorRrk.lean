/-
  Rows of rows that come in.
-/
import Derived.Test.YtnhpjacodhdpeaaDoorIn
import Derived.Test.YtnhpjacodhdpeaaDoorLift
import Derived.Deep.Slices
namespace Go.Proofs.YtnhpjacodhdpeaaDoor
open Go.RowKit Go.Maps Go.ChangeShapes Go.WideShapes Go.ChangeAt Go.Joins
set_option maxRecDepth 100000

def RRk (k : IntKind) (w : World) (a : Option Addr) (n : Nat) (N : List (List Int)) : Prop :=
  N.length = n ∧ n ≤ 9223372036854775807 ∧ (n = 0 ∨ ∃ b off, a = some ⟨b, off, none⟩ ∧ b < w.heap.size ∧ ∀ i, i < n → ∃ ai ci, w.cell? ⟨b, off + i, none⟩ = some (.slice ai (N.getD i []).length ci) ∧ (N.getD i []).length ≤ ci ∧ ci ≤ 9223372036854775807 ∧ Row k w ai (N.getD i []).length (N.getD i []))
theorem RRk.step {k : IntKind} {W w1 : World} {a : Option Addr} {n : Nat} {N : List (List Int)} (h : RRk k W a n N) (hb : Below W.heap.size W w1) : RRk k w1 a n N := by
  refine ⟨h.1, h.2.1, ?_⟩
  rcases h.2.2 with h0 | ⟨b, off, rfl, hlt, hc⟩
  · exact .inl h0
  · exact .inr ⟨b, off, rfl, Nat.lt_of_lt_of_le hlt hb.size, fun i hi => by obtain ⟨ai, ci, h1, h2, h3, h4⟩ := hc i hi; exact ⟨ai, ci, stepc hb hlt h1, h2, h3, h4.step hb⟩⟩
theorem RRk.at {k : IntKind} {w : World} {a : Option Addr} {n : Nat} {N : List (List Int)} (h : RRk k w a n N) (hn : 0 < n) : ∃ b off, a = some ⟨b, off, none⟩ ∧ b < w.heap.size ∧ ∀ i, i < n → ∃ ai ci, w.cell? ⟨b, off + i, none⟩ = some (.slice ai (N.getD i []).length ci) ∧ (N.getD i []).length ≤ ci ∧ ci ≤ 9223372036854775807 ∧ Row k w ai (N.getD i []).length (N.getD i []) := by
  rcases h.2.2 with h0 | h1
  · omega
  · exact h1

section
variable {H : Type} {enc : TypeId × Value → H} {w : World} {base : Nat} {held : Bool}
/-- A slice of integers that came in. -/
theorem slice2_in {fuel : Nat} {v : Value} {y : DataW H × List MemPlace} {t e : Nat} {k : IntKind} (hs : Tryd.prog.underlying t = some (.slice e)) (he : Tryd.prog.underlying e = some (.int k)) (hc : Tryd.prog.cellsOf e = 1) (h : DataW.trod enc Tryd.prog w base (fun _ => true) held fuel t [v] = some y) :
    ∃ a n c l, v = .slice a n c ∧ n ≤ c ∧ c ≤ 9223372036854775807 ∧ Row k w a n l ∧ ∀ z ∈ l, (Lit.int k z).wf = true := by
  rcases open_ints hs he hc h with ⟨e1, _⟩ | ⟨x, l, c, zs, e1, _, hl, hm, hz, _, hcell, hwz⟩
  · exact ⟨none, 0, 0, [], by simpa using e1, by omega, by omega, Row.nil _ _ _, fun z hz => by simp at hz⟩
  · unfold maxLen at hm
    have hz' : zs.length = c := by simpa using hz
    refine ⟨some x, l, c, zs.take l, by simpa using e1, hl, by omega, ⟨by rw [List.length_take]; omega, by omega, ?_⟩, fun z hz => hwz z (List.mem_of_mem_take hz)⟩
    by_cases h0 : l = 0
    · exact .inl h0
    · right
      obtain ⟨b, off, rfl, hcc⟩ := ints_at hcell (by omega)
      refine ⟨b, off, rfl, World.block_lt_of_cell? w ⟨b, off + 0, none⟩ (hcc 0 (by omega)), fun i hi => ?_⟩
      rw [hcc i (by omega)]
      have : (zs.take l).getD i 0 = zs.getD i 0 := by simp [List.getD, hi]
      rw [this]
theorem choose_list {α : Type} (d : α) {p : Nat → α → Prop} {n : Nat} (h : ∀ i, i < n → ∃ x, p i x) : ∃ l : List α, l.length = n ∧ ∀ i, i < n → p i (l.getD i d) := by
  induction n with
  | zero => exact ⟨[], rfl, fun i hi => by omega⟩
  | succ n ih =>
    obtain ⟨l, hl, hp⟩ := ih (fun i hi => h i (by omega))
    obtain ⟨x, hx⟩ := h n (by omega)
    refine ⟨l ++ [x], by simp [hl], fun i hi => ?_⟩
    by_cases e : i = n
    · subst e
      have : (l ++ [x]).getD i d = x := by rw [List.getD_eq_getElem?_getD, List.getElem?_append_right (by omega), hl]; simp
      rw [this]; exact hx
    · have : (l ++ [x]).getD i d = l.getD i d := by rw [List.getD_eq_getElem?_getD, List.getD_eq_getElem?_getD, List.getElem?_append_left (by omega)]
      rw [this]; exact hp i (by omega)
/-- A slice of such slices. -/
theorem rows_in {a : Option Addr} {n c : Nat} {d : DataW H} {p : List MemPlace} {t s e : Nat} {k : IntKind} (ht : Tryd.prog.underlying t = some (.slice s)) (hs : Tryd.prog.underlying s = some (.slice e)) (he : Tryd.prog.underlying e = some (.int k)) (hc : Tryd.prog.cellsOf e = 1) (hcs : Tryd.prog.cellsOf s = 1) (h : DataW.Trod enc Tryd.prog w base (fun _ => true) held t (.slice a n c) d p) :
    n ≤ c ∧ c ≤ 9223372036854775807 ∧ ∃ N, RRk k w a n N ∧ ∀ i, i < n → ∀ z ∈ N.getD i [], (Lit.int k z).wf = true := by
  obtain ⟨fuel, hf⟩ := h
  rcases Go.Deep.open_slice1 ht hcs hf with ⟨e1, _⟩ | ⟨x, len, cap, m, nn, V, D, Pl, e1, -, hl, hm, hmm, -, hx⟩
  · simp [Value.cells] at e1
    obtain ⟨rfl, rfl, rfl⟩ := e1
    exact ⟨by omega, by omega, [], ⟨rfl, by omega, .inl rfl⟩, fun i hi => by omega⟩
  · simp [Value.cells] at e1
    obtain ⟨rfl, rfl, rfl⟩ := e1
    simp at hmm
    subst hmm
    unfold maxLen at hm
    refine ⟨hl, by omega, ?_⟩
    obtain ⟨N, hN, hP⟩ := choose_list (α := List Int) [] (n := n) (p := fun i l => ∃ ai ci, w.cell? (x.add i) = some (.slice ai l.length ci) ∧ l.length ≤ ci ∧ ci ≤ 9223372036854775807 ∧ Row k w ai l.length l ∧ ∀ z ∈ l, (Lit.int k z).wf = true) (fun i hi => by
      obtain ⟨h1, h2⟩ := hx i (by omega)
      obtain ⟨ai, ni, ci, l, e, q1, q2, q3, q4⟩ := slice2_in hs he hc h2
      have hln := q3.len
      subst hln
      exact ⟨l, ai, ci, by rw [h1, e], q1, q2, q3, q4⟩)
    refine ⟨N, ⟨hN, by omega, ?_⟩, fun i hi z hz => by obtain ⟨ai, ci, -, -, -, -, h5⟩ := hP i hi; exact h5 z hz⟩
    by_cases h0 : n = 0
    · exact .inl h0
    · right
      obtain ⟨b, off, spot⟩ := x
      obtain ⟨a0, c0, g0, -⟩ := hP 0 (by omega)
      have hspot : spot = none := by simpa [Addr.add] using World.cell?_spot g0
      subst hspot
      refine ⟨b, off, rfl, ?_, fun i hi => ?_⟩
      · have := World.block_lt_of_cell? w _ g0
        simpa [Addr.add] using this
      · obtain ⟨ai, ci, g1, g2, g3, g4, -⟩ := hP i hi
        rw [Go.WideShapes.add_plain] at g1
        exact ⟨ai, ci, g1, g2, g3, g4⟩
end
end Go.Proofs.YtnhpjacodhdpeaaDoor
