/-
  What came in: rows of calls; options and asks by value.
-/
import Derived.Test.YtlbmbpkabmihnaaIn
import Derived.Test.YtlbmbpkabmihnaaAigO
import Derived.Deep.SlicePairs
namespace Go.Proofs.Ytlbmbpkabmihnaa
open Go.RowKit Go.ChangeShapes Go.WideShapes Go.ChangeAt Go.Joins

section
variable {H : Type} {enc : TypeId × Value → H} {w : World} {base : Nat} {held : Bool}

theorem slice_in {fuel : Nat} {v : Value} {y : DataW H × List MemPlace} {t e : Nat} {k : IntKind} (hs : Try.prog.underlying t = some (.slice e)) (he : Try.prog.underlying e = some (.int k)) (hc : Try.prog.cellsOf e = 1) (h : DataW.trod enc Try.prog w base (fun _ => true) held fuel t [v] = some y) :
    ∃ a n c zs, v = .slice a n c ∧ IsRow k w a n c zs := by
  rcases open_ints hs he hc h with ⟨e1, _⟩ | ⟨x, l, c, zs, e1, _, hl, hm, hz, _, hcell, hwz⟩
  · exact ⟨none, 0, 0, [], by simpa using e1, .inl ⟨rfl, rfl, rfl, rfl⟩⟩
  · exact ⟨some x, l, c, zs, by simpa using e1, .inr ⟨x, rfl, hl, hm, by simpa using hz, hcell, hwz⟩⟩

theorem acts_in {a : Option Addr} {n c : Nat} {d : DataW H} {p : List MemPlace} (h : DataW.Trod enc Try.prog w base (fun _ => true) held 24 (.slice a n c) d p) : ∃ l, Acts w a n l := by
  obtain ⟨fuel, hf⟩ := h
  rcases Go.Deep.open_slice_pairs Try.underlying24 Try.underlying50 (by kernel_rfl) rfl rfl (by kernel_rfl) (by kernel_rfl) hf with ⟨e1, _⟩ | ⟨x, len, cap, m, k, V0, V1, D0, D1, P0, P1, e1, -, hl, hm, hmm, -, hx⟩
  · simp [Value.cells] at e1
    obtain ⟨rfl, rfl, rfl⟩ := e1
    exact ⟨[], rfl, by omega, .inl rfl, fun i hi => absurd hi (by omega)⟩
  · simp [Value.cells] at e1
    obtain ⟨rfl, rfl, rfl⟩ := e1
    simp at hmm
    subst hmm
    have each : ∀ i, i < n → ∃ A : ActV, V0 i = .int .i64 A.what ∧ V1 i = .slice A.a A.n A.c ∧ Row .u32 w A.a A.n A.zs ∧ A.n ≤ A.c ∧ ∀ k, IsLit (A.zs.getD k 0) := by
      intro i hi
      obtain ⟨-, -, h0, h1⟩ := hx i (by omega)
      obtain ⟨z, e0, -, -⟩ := DataW.trod_int Try.underlying3 h0
      obtain ⟨a1, n1, c1, zs, e2, hr⟩ := slice_in Try.underlying25 Try.underlying41 (by kernel_rfl) h1
      obtain ⟨hlc, -, hrow⟩ := row_of_in hr
      exact ⟨⟨z, a1, n1, c1, zs.take n1⟩, by simpa using e0, e2, hrow, hlc, lits_in hr n1⟩
    have pick : ∀ m, m ≤ n → ∃ l : List ActV, l.length = m ∧ ∀ i, i < m → V0 i = .int .i64 (l.getD i act0).what ∧ V1 i = .slice (l.getD i act0).a (l.getD i act0).n (l.getD i act0).c ∧ Row .u32 w (l.getD i act0).a (l.getD i act0).n (l.getD i act0).zs ∧ (l.getD i act0).n ≤ (l.getD i act0).c ∧ ∀ k, IsLit ((l.getD i act0).zs.getD k 0) := by
      intro m
      induction m with
      | zero => intro _; exact ⟨[], rfl, fun i hi => absurd hi (by omega)⟩
      | succ m ih =>
        intro hm
        obtain ⟨l, h1, h2⟩ := ih (by omega)
        obtain ⟨A, hA⟩ := each m (by omega)
        refine ⟨l ++ [A], by simp [h1], fun i hi => ?_⟩
        by_cases e : i < m
        · have e3 : (l ++ [A]).getD i act0 = l.getD i act0 := by simp [List.getD, List.getElem?_append_left (show i < l.length by omega)]
          rw [e3]; exact h2 i e
        · obtain rfl : i = m := by omega
          have e3 : (l ++ [A]).getD i act0 = A := by rw [← h1]; simp [List.getD]
          rw [e3]; exact hA
    obtain ⟨l, hl1, hl2⟩ := pick n (Nat.le_refl _)
    unfold maxLen at hm
    refine ⟨l, hl1, by omega, ?_, fun i hi => (hl2 i hi).2.2⟩
    by_cases h0 : n = 0
    · exact .inl h0
    · right
      obtain ⟨b, off, spot⟩ := x
      have hspot : spot = none := by simpa [Addr.add] using World.cell?_spot (hx 0 (by omega)).1
      subst hspot
      refine ⟨b, off, rfl, ?_, fun i hi => ?_⟩
      · have := (hx 0 (by omega)).1
        rw [Go.WideShapes.add_plain] at this
        exact World.block_lt_of_cell? w _ this
      · obtain ⟨c0, c1, -, -⟩ := hx i (by omega)
        rw [Go.WideShapes.add_plain] at c0 c1
        obtain ⟨v0, v1, -⟩ := hl2 i hi
        exact ⟨by rw [c0, v0], by rw [show off + i * 2 + 1 = off + (i * 2 + 1) by omega, c1, v1]⟩

theorem options_in {r : Reach} {b0 : Nat} {v : Value} {d : DataW H} {p : List MemPlace} (hv : Value.okWide Try.prog w r b0 23 v) (h : DataW.Trod enc Try.prog w base (fun _ => true) held 23 v d p) :
    ∃ F G : Bool, v = .agg #[.bool F, .bool G] := by
  obtain ⟨c0, c1, y0, y1, n, rfl, -, -, h0, h1⟩ := open_agg2 Try.underlying23 (by kernel_rfl) (by kernel_rfl) hv h
  obtain ⟨F, e0, -⟩ := DataW.trod_bool Try.underlying4 h0
  obtain ⟨G, e1, -⟩ := DataW.trod_bool Try.underlying4 h1
  simp at e0 e1
  exact ⟨F, G, by rw [e0, e1]⟩
theorem ask_in {r : Reach} {b0 : Nat} {v : Value} {d : DataW H} {p : List MemPlace} (hv : Value.okWide Try.prog w r b0 28 v) (h : DataW.Trod enc Try.prog w base (fun _ => true) held 28 v d p) :
    ∃ a n c zs b m e ws, v = .agg #[.slice a n c, .slice b m e] ∧ IsRow .u32 w a n c zs ∧ IsRow .u64 w b m e ws := by
  obtain ⟨c0, c1, y0, y1, n, rfl, -, -, h0, h1⟩ := open_agg2 Try.underlying28 (by kernel_rfl) (by kernel_rfl) hv h
  obtain ⟨a, n1, c, zs, rfl, hr⟩ := slice_in Try.underlying25 Try.underlying41 (by kernel_rfl) h0
  obtain ⟨b, m1, e, ws, rfl, hq⟩ := slice_in Try.underlying26 Try.underlying36 (by kernel_rfl) h1
  exact ⟨a, n1, c, zs, b, m1, e, ws, rfl, hr, hq⟩
end
end Go.Proofs.Ytlbmbpkabmihnaa
