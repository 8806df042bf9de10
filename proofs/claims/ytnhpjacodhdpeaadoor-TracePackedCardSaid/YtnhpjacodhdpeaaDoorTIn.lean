/-
  What came in: buses, a table by value.
-/
import Derived.Test.YtnhpjacodhdpeaaDoorTrM
import Derived.Test.YtnhpjacodhdpeaaDoorRrk
import Derived.Deep.SlicePairs
namespace Go.Proofs.YtnhpjacodhdpeaaDoor
open Go.RowKit Go.ChangeShapes Go.WideShapes Go.ChangeAt Go.Joins
set_option maxRecDepth 100000

section
variable {H : Type} {enc : TypeId × Value → H} {w : World} {base : Nat} {held : Bool}
/-- A slice of buses that came in. -/
theorem buses_in {fuel : Nat} {v : Value} {y : DataW H × List MemPlace} (h : DataW.trod enc Tryd.prog w base (fun _ => true) held fuel 22 [v] = some y) :
    ∃ a n c L, v = .slice a n c ∧ n ≤ c ∧ c ≤ 9223372036854775807 ∧ BsR w a n L ∧ ∀ i, i < n → (Lit.int .i64 (L.getD i tb0).width).wf = true := by
  rcases Go.Deep.open_slice_pairs Tryd.underlying22 Tryd.underlying69 (by kernel_rfl) rfl rfl (by kernel_rfl) (by kernel_rfl) h with ⟨e1, _⟩ | ⟨x, n, c, m, k, V0, V1, D0, D1, P0, P1, e1, -, hl, hm, hmm, -, hx⟩
  · exact ⟨none, 0, 0, [], by simpa using e1, by omega, by omega, ⟨rfl, by omega, .inl rfl⟩, fun i hi => by omega⟩
  · simp only [if_true] at hmm
    subst hmm
    unfold maxLen at hm
    obtain ⟨L, hL, hP⟩ := choose_list (α := TB) tb0 (n := n) (p := fun i b => V0 i = .string b.name ∧ V1 i = .int .i64 b.width ∧ (Lit.int .i64 b.width).wf = true) (fun i hi => by
      obtain ⟨-, -, h0, h1⟩ := hx i (by omega)
      obtain ⟨s, e0, -⟩ := DataW.trod_string Tryd.underlying9 h0
      obtain ⟨z, e2, -, hz⟩ := DataW.trod_int Tryd.underlying3 h1
      exact ⟨⟨s, z⟩, by simpa using e0, by simpa using e2, hz⟩)
    refine ⟨some x, n, m, L, by simpa using e1, hl, by omega, ⟨hL, by omega, ?_⟩, fun i hi => (hP i hi).2.2⟩
    by_cases h0 : n = 0
    · exact .inl h0
    · right
      obtain ⟨b, off, spot⟩ := x
      have hspot : spot = none := by simpa [Addr.add] using World.cell?_spot (hx 0 (by omega)).1
      subst hspot
      refine ⟨b, off, rfl, ?_, fun i hi => ?_⟩
      · have := (hx 0 (by omega)).1
        rw [Go.WideShapes.add_plain] at this
        exact World.block_lt_of_cell? w _ this
      · obtain ⟨c0, c1, -, -⟩ := hx i (by omega)
        rw [Go.WideShapes.add_plain] at c0 c1
        obtain ⟨v0, v1, -⟩ := hP i hi
        exact ⟨by rw [c0, v0], by rw [show off + i * 2 + 1 = off + (i * 2 + 1) by omega, c1, v1]⟩
/-- A table that came in. -/
theorem table_in {r : Reach} {b0 : Nat} {v : Value} {d : DataW H} {p : List MemPlace} (hv : Value.okWide Tryd.prog w r b0 25 v) (h : DataW.Trod enc Tryd.prog w base (fun _ => true) held 25 v d p) :
    ∃ a n c a2 m c2 L R, v = .agg #[.slice a n c, .slice a2 m c2] ∧ n ≤ c ∧ c ≤ 9223372036854775807 ∧ m ≤ c2 ∧ c2 ≤ 9223372036854775807 ∧ BsR w a n L ∧ RRk .u64 w a2 m R ∧ (∀ i, i < n → (Lit.int .i64 (L.getD i tb0).width).wf = true) ∧ (∀ i, i < m → ∀ z ∈ R.getD i [], (Lit.int .u64 z).wf = true) := by
  obtain ⟨c0, c1, y0, y1, f, rfl, -, -, h0, h1⟩ := open_agg2 Tryd.underlying25 (by kernel_rfl) (by kernel_rfl) hv h
  obtain ⟨a, n, c, L, rfl, q1, q2, q3, q4⟩ := buses_in h0
  rcases Go.Deep.open_slice1 (P := Tryd.prog) Tryd.underlying23 (by kernel_rfl) h1 with ⟨e1, _⟩ | ⟨x, len, cap, m', nn, V, D, Pl, e1, -⟩
  · obtain rfl : c1 = .slice none 0 0 := by simpa using e1
    obtain ⟨g1, g2, R, g3, g4⟩ := rows_in Tryd.underlying23 Tryd.underlying37 Tryd.underlying46 (by kernel_rfl) (by kernel_rfl) (show DataW.Trod enc Tryd.prog w base (fun _ => true) held 23 (.slice none 0 0) y1.1 y1.2 from ⟨_, h1⟩)
    exact ⟨a, n, c, none, 0, 0, L, R, rfl, q1, q2, g1, g2, q3, g3, q4, g4⟩
  · obtain rfl : c1 = .slice (some x) len cap := by simpa using e1
    obtain ⟨g1, g2, R, g3, g4⟩ := rows_in Tryd.underlying23 Tryd.underlying37 Tryd.underlying46 (by kernel_rfl) (by kernel_rfl) (show DataW.Trod enc Tryd.prog w base (fun _ => true) held 23 (.slice (some x) len cap) y1.1 y1.2 from ⟨_, h1⟩)
    exact ⟨a, n, c, some x, len, cap, L, R, rfl, q1, q2, g1, g2, q3, g3, q4, g4⟩
end
end Go.Proofs.YtnhpjacodhdpeaaDoor
