/-
  What came in: rows of steps; options; two graphs told by their options and steps.
-/
import Derived.Test.YtmljpbbnllfgbaaIn
import Derived.Test.YtmljpbbnllfgbaaBld
import Derived.Deep.SlicePairs
namespace Go.Proofs.Ytmljpbbnllfgbaa
open Go.RowKit Go.ChangeShapes Go.WideShapes Go.ChangeAt Go.Joins
set_option maxRecDepth 100000

section
variable {H : Type} {enc : TypeId × Value → H} {w : World} {base : Nat} {held : Bool}

theorem slice_in {fuel : Nat} {v : Value} {y : DataW H × List MemPlace} {t e : Nat} {k : IntKind} (hs : Try.prog.underlying t = some (.slice e)) (he : Try.prog.underlying e = some (.int k)) (hc : Try.prog.cellsOf e = 1) (h : DataW.trod enc Try.prog w base (fun _ => true) held fuel t [v] = some y) :
    ∃ a n c zs, v = .slice a n c ∧ IsRow k w a n c zs := by
  rcases open_ints hs he hc h with ⟨e1, _⟩ | ⟨x, l, c, zs, e1, _, hl, hm, hz, _, hcell, hwz⟩
  · exact ⟨none, 0, 0, [], by simpa using e1, .inl ⟨rfl, rfl, rfl, rfl⟩⟩
  · exact ⟨some x, l, c, zs, by simpa using e1, .inr ⟨x, rfl, hl, hm, by simpa using hz, hcell, hwz⟩⟩

theorem steps_at {fuel : Nat} {v : Value} {y : DataW H × List MemPlace} (hf : DataW.trod enc Try.prog w base (fun _ => true) held fuel 24 [v] = some y) : ∃ a n c S, v = .slice a n c ∧ Steps w a n S := by
  have ce : Try.prog.cellsOf 69 = 3 := by kernel_rfl
  have ci : Try.prog.cellsOf 3 = 1 := by kernel_rfl
  have cu : Try.prog.cellsOf 39 = 1 := by kernel_rfl
  rcases Go.Deep.open_slice Try.underlying24 hf with ⟨e1, _⟩ | ⟨x, len, cap, m, k, D, P, e1, -, hl, hm, hmm, -, hx⟩
  · simp at e1
    exact ⟨none, 0, 0, fun _ => (0, 0, 0), e1, fun i => by simp [IsLit], by omega, .inl rfl⟩
  · simp at e1
    simp at hmm
    subst hmm
    have each : ∀ i, i < m → ∃ s : Int × Int × Int, w.cell? (x.add (i * 3)) = some (.int .i64 s.1) ∧ w.cell? (x.add (i * 3 + 1)) = some (.int .u32 s.2.1) ∧ w.cell? (x.add (i * 3 + 2)) = some (.int .u32 s.2.2) ∧ IsLit s.2.1 ∧ IsLit s.2.2 := by
      intro i hi
      obtain ⟨cs, h1, h2⟩ := hx i hi
      rw [ce] at h1
      obtain ⟨-, hlen, hcell⟩ := World.cells?_some h1
      obtain ⟨xs, q, -, -, -, hxl, hfl⟩ := DataW.trod_struct Try.underlying69 h2
      match xs, hxl, cs, hlen with
      | [y0, y1, y2], _, [v0, v1, v2], _ =>
        have g0 := hfl 0 _ rfl
        have g1 := hfl 1 _ rfl
        have g2 := hfl 2 _ rfl
        simp [ci, cu] at g0 g1 g2
        obtain ⟨z0, e0, -, -⟩ := DataW.trod_int Try.underlying3 g0
        obtain ⟨z1, e1', -, w1⟩ := DataW.trod_int Try.underlying39 g1
        obtain ⟨z2, e2, -, w2⟩ := DataW.trod_int Try.underlying39 g2
        simp at e0 e1' e2
        subst e0 e1' e2
        have q0 := hcell 0 (by omega)
        have q1 := hcell 1 (by omega)
        have q2 := hcell 2 (by omega)
        rw [Go.Deep.add_add] at q0 q1 q2
        exact ⟨(z0, z1, z2), by simpa using q0, by simpa using q1, by simpa using q2, isLit_of w1, isLit_of w2⟩
    obtain ⟨q, hq⟩ := Go.Deep.choose_lt each
    unfold maxLen at hm
    refine ⟨some x, len, m, fun i => if i < m then q i else (0, 0, 0), by simpa using e1, fun i => ?_, by omega, ?_⟩
    · by_cases hi : i < m
      · simp only [if_pos hi]; exact ⟨(hq i hi).2.2.2.1, (hq i hi).2.2.2.2⟩
      · simp [if_neg hi, IsLit]
    · by_cases h0 : len = 0
      · exact .inl h0
      · right
        obtain ⟨b, off, spot⟩ := x
        have hspot : spot = none := by simpa [Addr.add] using World.cell?_spot (hq 0 (by omega)).1
        subst hspot
        refine ⟨b, off, rfl, ?_, fun i hi => ?_⟩
        · have := (hq 0 (by omega)).1
          rw [Go.WideShapes.add_plain] at this
          exact World.block_lt_of_cell? w _ this
        · obtain ⟨c0, c1, c2, -⟩ := hq i (by omega)
          rw [Go.WideShapes.add_plain] at c0 c1 c2
          simp only [if_pos (show i < m by omega)]
          exact ⟨c0, by rw [show off + i * 3 + 1 = off + (i * 3 + 1) by omega]; exact c1, by rw [show off + i * 3 + 2 = off + (i * 3 + 2) by omega]; exact c2⟩

theorem steps_in {a : Option Addr} {n c : Nat} {d : DataW H} {p : List MemPlace} (h : DataW.Trod enc Try.prog w base (fun _ => true) held 24 (.slice a n c) d p) : ∃ S, Steps w a n S := by
  obtain ⟨fuel, hf⟩ := h
  obtain ⟨a2, n2, c2, S, e, hS⟩ := steps_at (v := .slice a n c) hf
  cases e
  exact ⟨S, hS⟩

theorem options_in {r : Reach} {b0 : Nat} {v : Value} {d : DataW H} {p : List MemPlace} (hv : Value.okWide Try.prog w r b0 23 v) (h : DataW.Trod enc Try.prog w base (fun _ => true) held 23 v d p) :
    ∃ F G : Bool, v = .agg #[.bool F, .bool G] := by
  obtain ⟨c0, c1, y0, y1, n, rfl, -, -, h0, h1⟩ := open_agg2 Try.underlying23 (by kernel_rfl) (by kernel_rfl) hv h
  obtain ⟨F, e0, -⟩ := DataW.trod_bool Try.underlying4 h0
  obtain ⟨G, e1, -⟩ := DataW.trod_bool Try.underlying4 h1
  simp at e0 e1
  exact ⟨F, G, by rw [e0, e1]⟩
theorem options_at {fuel : Nat} {v0 v1 : Value} {y : DataW H × List MemPlace} (hf : DataW.trod enc Try.prog w base (fun _ => true) held fuel 23 [v0, v1] = some y) : ∃ F G : Bool, v0 = .bool F ∧ v1 = .bool G := by
  have cb : Try.prog.cellsOf 4 = 1 := by kernel_rfl
  obtain ⟨xs, q, -, -, -, hxl, hfl⟩ := DataW.trod_struct Try.underlying23 hf
  match xs, hxl with
  | [y0, y1], _ =>
    have g0 := hfl 0 _ rfl
    have g1 := hfl 1 _ rfl
    simp [cb] at g0 g1
    obtain ⟨F, e0, -⟩ := DataW.trod_bool Try.underlying4 g0
    obtain ⟨G, e1, -⟩ := DataW.trod_bool Try.underlying4 g1
    simp at e0 e1
    exact ⟨F, G, e0, e1⟩

theorem two_in {r : Reach} {b0 : Nat} {v : Value} {d : DataW H} {p : List MemPlace} (hv : Value.okWide Try.prog w r b0 28 v) (h : DataW.Trod enc Try.prog w base (fun _ => true) held 28 v d p) :
    ∃ (F1 H1 F2 H2 : Bool) (La : Option Addr) (Ln Lc : Nat) (SL : Nat → Int × Int × Int) (Ka : Option Addr) (Kn Kc : Nat) (SK : Nat → Int × Int × Int) (Ya : Option Addr) (Yn Yc : Nat) (yl : List Int) (Ia : Option Addr) (In Ic : Nat) (il : List Int),
      v = .agg #[.bool F1, .bool H1, .bool F2, .bool H2, .slice La Ln Lc, .slice Ka Kn Kc, .slice Ya Yn Yc, .slice Ia In Ic] ∧ Steps w La Ln SL ∧ Steps w Ka Kn SK ∧ IsRow .u32 w Ya Yn Yc yl ∧ IsRow .u64 w Ia In Ic il := by
  have co : Try.prog.cellsOf 23 = 2 := by kernel_rfl
  have c1 : Try.prog.cellsOf 24 = 1 := by kernel_rfl
  have c2 : Try.prog.cellsOf 25 = 1 := by kernel_rfl
  have c3 : Try.prog.cellsOf 26 = 1 := by kernel_rfl
  have c8 : Try.prog.cellsOf 28 = 8 := by kernel_rfl
  obtain ⟨cs, rfl, hsz⟩ := okWide_struct Try.underlying28 hv
  obtain ⟨fuel, hf⟩ := h
  obtain ⟨xs, q, -, -, -, hxl, hfl⟩ := DataW.trod_struct Try.underlying28 hf
  have hlen : cs.toList.length = 8 := by rw [Array.length_toList]; exact hsz.trans c8
  obtain ⟨l⟩ := cs
  simp at hlen
  match xs, hxl, l, hlen with
  | [y0, y1, y2, y3, y4, y5], _, [v0, v1, v2, v3, v4, v5, v6, v7], _ =>
    have g0 := hfl 0 _ rfl
    have g1 := hfl 1 _ rfl
    have g2 := hfl 2 _ rfl
    have g3 := hfl 3 _ rfl
    have g4 := hfl 4 _ rfl
    have g5 := hfl 5 _ rfl
    simp [co, c1, c2, c3, Value.cells] at g0 g1 g2 g3 g4 g5
    obtain ⟨F1, H1, rfl, rfl⟩ := options_at g0
    obtain ⟨F2, H2, rfl, rfl⟩ := options_at g1
    obtain ⟨La, Ln, Lc, SL, rfl, hL⟩ := steps_at g2
    obtain ⟨Ka, Kn, Kc, SK, rfl, hK⟩ := steps_at g3
    obtain ⟨Ya, Yn, Yc, yl, rfl, hY⟩ := slice_in Try.underlying25 Try.underlying39 (by kernel_rfl) g4
    obtain ⟨Ia, In, Ic, il, rfl, hI⟩ := slice_in Try.underlying26 Try.underlying56 (by kernel_rfl) g5
    exact ⟨F1, H1, F2, H2, La, Ln, Lc, SL, Ka, Kn, Kc, SK, Ya, Yn, Yc, yl, Ia, In, Ic, il, rfl, hL, hK, hY, hI⟩
theorem lits_mem {w : World} {a : Option Addr} {len cap : Nat} {zs : List Int} (h : IsRow .u32 w a len cap zs) (m : Nat) : ∀ x ∈ zs.take m, IsLit x := fun x hx => by
  obtain ⟨i, hi, rfl⟩ := List.getElem_of_mem hx
  have := lits_in h m i
  rw [List.getD_eq_getElem?_getD, List.getElem?_eq_getElem hi] at this
  exact this
end
end Go.Proofs.Ytmljpbbnllfgbaa
