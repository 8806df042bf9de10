/-
  What came in: rows of steps; options.
  What came in: rows of rows of words.
  SimSolves: for every input the law's Go text returns true and leaves its arguments as they were. No condition.
-/
import Derived.Test.YtafoohdndlhbnaaGreatFSSS
import Derived.Test.YtafoohdndlhbnaaGreatFSSL
import Derived.Deep.SlicePairs
import Derived.Test.YtafoohdndlhbnaaGreatFSSV
import Derived.Test.YtafoohdndlhbnaaGreatFSSA
section
namespace Go.Proofs.YtafoohdndlhbnaaGreat
open Go.RowKit Go.ChangeShapes Go.WideShapes Go.ChangeAt Go.Joins
set_option maxRecDepth 100000

section
variable {H : Type} {enc : TypeId × Value → H} {w : World} {base : Nat} {held : Bool}

theorem slice_in {fuel : Nat} {v : Value} {y : DataW H × List MemPlace} {t e : Nat} {k : IntKind} (hs : Tryz.prog.underlying t = some (.slice e)) (he : Tryz.prog.underlying e = some (.int k)) (hc : Tryz.prog.cellsOf e = 1) (h : DataW.trod enc Tryz.prog w base (fun _ => true) held fuel t [v] = some y) :
    ∃ a n c zs, v = .slice a n c ∧ IsRow k w a n c zs := by
  rcases open_ints hs he hc h with ⟨e1, _⟩ | ⟨x, l, c, zs, e1, _, hl, hm, hz, _, hcell, hwz⟩
  · exact ⟨none, 0, 0, [], by simpa using e1, .inl ⟨rfl, rfl, rfl, rfl⟩⟩
  · exact ⟨some x, l, c, zs, by simpa using e1, .inr ⟨x, rfl, hl, hm, by simpa using hz, hcell, hwz⟩⟩
theorem lits_mem {w : World} {a : Option Addr} {len cap : Nat} {zs : List Int} (h : IsRow .u32 w a len cap zs) (m : Nat) : ∀ x ∈ zs.take m, IsLit x := fun x hx => by
  obtain ⟨i, hi, rfl⟩ := List.getElem_of_mem hx
  have := lits_in h m i
  rw [List.getD_eq_getElem?_getD, List.getElem?_eq_getElem hi] at this
  exact this
def st0 : StV := ⟨9, ByteArray.empty, 0, 0, 0, 0, none, 0, 0, []⟩
instance : Inhabited StV := ⟨st0⟩
theorem steps_at {fuel : Nat} {v : Value} {y : DataW H × List MemPlace} (hf : DataW.trod enc Tryz.prog w base (fun _ => true) held fuel 24 [v] = some y) : ∃ a n c S, v = .slice a n c ∧ StRow w a n S := by
  have ce : Tryz.prog.cellsOf 88 = 7 := by kernel_rfl
  have ci : Tryz.prog.cellsOf 3 = 1 := by kernel_rfl
  have cu : Tryz.prog.cellsOf 39 = 1 := by kernel_rfl
  have cs' : Tryz.prog.cellsOf 9 = 1 := by kernel_rfl
  have cl : Tryz.prog.cellsOf 45 = 1 := by kernel_rfl
  rcases Go.Deep.open_slice Tryz.underlying24 hf with ⟨e1, _⟩ | ⟨x, len, cap, m, k, D, P, e1, -, hl, hm, hmm, -, hx⟩
  · simp at e1
    exact ⟨none, 0, 0, fun _ => st0, e1, by omega, .inl rfl, fun i hi => by omega⟩
  · simp at e1
    simp at hmm
    subst hmm
    have each : ∀ i, i < m → ∃ s : StV, w.cell? (x.add (i * 7)) = some (.int .i64 s.what) ∧ w.cell? (x.add (i * 7 + 1)) = some (.string s.name) ∧ w.cell? (x.add (i * 7 + 2)) = some (.int .i64 s.n) ∧ w.cell? (x.add (i * 7 + 3)) = some (.int .u32 s.a) ∧ w.cell? (x.add (i * 7 + 4)) = some (.int .u32 s.b) ∧ w.cell? (x.add (i * 7 + 5)) = some (.int .u32 s.c) ∧ w.cell? (x.add (i * 7 + 6)) = some (.slice s.la s.ln s.lc) ∧ StOk w s := by
      intro i hi
      obtain ⟨cs, h1, h2⟩ := hx i hi
      rw [ce] at h1
      obtain ⟨-, hlen, hcell⟩ := World.cells?_some h1
      obtain ⟨xs, q, -, -, -, hxl, hfl⟩ := DataW.trod_struct Tryz.underlying88 h2
      match xs, hxl, cs, hlen with
      | [y0, y1, y2, y3, y4, y5, y6], _, [v0, v1, v2, v3, v4, v5, v6], _ =>
        have g0 := hfl 0 _ rfl
        have g1 := hfl 1 _ rfl
        have g2 := hfl 2 _ rfl
        have g3 := hfl 3 _ rfl
        have g4 := hfl 4 _ rfl
        have g5 := hfl 5 _ rfl
        have g6 := hfl 6 _ rfl
        simp [ci, cu, cs', cl] at g0 g1 g2 g3 g4 g5 g6
        obtain ⟨z0, e0, -, -⟩ := DataW.trod_int Tryz.underlying3 g0
        obtain ⟨z1, e1', -⟩ := DataW.trod_string Tryz.underlying9 g1
        obtain ⟨z2, e2, -, -⟩ := DataW.trod_int Tryz.underlying3 g2
        obtain ⟨z3, e3, -, w3⟩ := DataW.trod_int Tryz.underlying39 g3
        obtain ⟨z4, e4, -, w4⟩ := DataW.trod_int Tryz.underlying39 g4
        obtain ⟨z5, e5, -, w5⟩ := DataW.trod_int Tryz.underlying39 g5
        obtain ⟨a6, n6, c6, zs, e6, hr⟩ := slice_in Tryz.underlying45 Tryz.underlying39 (by kernel_rfl) g6
        simp at e0 e1' e2 e3 e4 e5
        subst e0 e1' e2 e3 e4 e5 e6
        have q0 := hcell 0 (by omega)
        have q1 := hcell 1 (by omega)
        have q2 := hcell 2 (by omega)
        have q3 := hcell 3 (by omega)
        have q4 := hcell 4 (by omega)
        have q5 := hcell 5 (by omega)
        have q6 := hcell 6 (by omega)
        rw [Go.Deep.add_add] at q0 q1 q2 q3 q4 q5 q6
        obtain ⟨hcp, -, hrow⟩ := row_of_in hr
        exact ⟨⟨z0, z1, z2, z3, z4, z5, a6, n6, c6, zs.take n6⟩, by simpa using q0, by simpa using q1, by simpa using q2, by simpa using q3, by simpa using q4, by simpa using q5, by simpa using q6, ⟨hrow, isLit_of w3, isLit_of w4, isLit_of w5, lits_mem hr n6, hcp⟩⟩
    obtain ⟨q, hq⟩ := Go.Deep.choose_lt each
    unfold maxLen at hm
    refine ⟨some x, len, m, fun i => if i < m then q i else st0, by simpa using e1, by omega, ?_, fun i hi => ?_⟩
    · by_cases h0 : len = 0
      · exact .inl h0
      · right
        obtain ⟨b, off, spot⟩ := x
        have hspot : spot = none := by simpa [Addr.add] using World.cell?_spot (hq 0 (by omega)).1
        subst hspot
        refine ⟨b, off, rfl, ?_, fun i hi => ?_⟩
        · have := (hq 0 (by omega)).1
          rw [Go.WideShapes.add_plain] at this
          exact World.block_lt_of_cell? w _ this
        · obtain ⟨c0, c1, c2, c3, c4, c5, c6, -⟩ := hq i (by omega)
          rw [Go.WideShapes.add_plain] at c0 c1 c2 c3 c4 c5 c6
          simp only [if_pos (show i < m by omega)]
          exact ⟨c0, by rw [show off + i * 7 + 1 = off + (i * 7 + 1) by omega]; exact c1, by rw [show off + i * 7 + 2 = off + (i * 7 + 2) by omega]; exact c2, by rw [show off + i * 7 + 3 = off + (i * 7 + 3) by omega]; exact c3, by rw [show off + i * 7 + 4 = off + (i * 7 + 4) by omega]; exact c4, by rw [show off + i * 7 + 5 = off + (i * 7 + 5) by omega]; exact c5, by rw [show off + i * 7 + 6 = off + (i * 7 + 6) by omega]; exact c6⟩
    · simp only [if_pos (show i < m by omega)]
      exact (hq i (by omega)).2.2.2.2.2.2.2
theorem steps_in {a : Option Addr} {n c : Nat} {d : DataW H} {p : List MemPlace} (h : DataW.Trod enc Tryz.prog w base (fun _ => true) held 24 (.slice a n c) d p) : ∃ S, StRow w a n S := by
  obtain ⟨fuel, hf⟩ := h
  obtain ⟨a2, n2, c2, S, e, hS⟩ := steps_at (v := .slice a n c) hf
  cases e
  exact ⟨S, hS⟩
theorem options_in {r : Reach} {b0 : Nat} {v : Value} {d : DataW H} {p : List MemPlace} (hv : Value.okWide Tryz.prog w r b0 23 v) (h : DataW.Trod enc Tryz.prog w base (fun _ => true) held 23 v d p) :
    ∃ F G : Bool, v = .agg #[.bool F, .bool G] := by
  obtain ⟨c0, c1, y0, y1, n, rfl, -, -, h0, h1⟩ := open_agg2 Tryz.underlying23 (by kernel_rfl) (by kernel_rfl) hv h
  obtain ⟨F, e0, -⟩ := DataW.trod_bool Tryz.underlying4 h0
  obtain ⟨G, e1, -⟩ := DataW.trod_bool Tryz.underlying4 h1
  simp at e0 e1
  exact ⟨F, G, by rw [e0, e1]⟩
end
end Go.Proofs.YtafoohdndlhbnaaGreat
end

section
namespace Go.Proofs.YtafoohdndlhbnaaGreat
open Go.RowKit Go.ChangeShapes Go.WideShapes Go.ChangeAt Go.Joins
theorem rows_wordsS {w : World} {a : Option Addr} {n : Nat} {N : List (List Int)} (h : RRk .u64 w a n N) (hx : ∀ i, i < n → ∀ z ∈ N.getD i [], (Lit.int .u64 z).wf = true) : ∀ i, Words (N.getD i []) := by
  intro i
  by_cases hi : i < n
  · exact words_of (hx i hi)
  · have e : N.getD i [] = [] := by
      have := h.1
      simp [List.getD, List.getElem?_eq_none (show N.length ≤ i by omega)]
    rw [e]
    intro k; simp
end Go.Proofs.YtafoohdndlhbnaaGreat
end

section
namespace Go.Proofs.YtafoohdndlhbnaaGreat.simSolves
open Go.ChangeShapes Go.WideShapes Go.ChangeAt Go.RowKit Go.Joins
open Go.ChangeMaps (open_string shut_string)
set_option linter.unusedVariables false

set_option maxRecDepth 100000 in
theorem lifted (os : Os) (started : os.Started) (H : Type) (enc : TypeId × Value → H) :
    ReturnsInHanded {} Tryz.checked os 4 .any (Rows.simSolvesSpec.pre6 enc Tryz.prog Tryz.f4 Rows.simSolvesRow.domain false) (Rows.simSolvesSpec.post enc Tryz.prog Tryz.f4 false true false false) := by
  refine returnsInHanded_of_change (C := Tryz.checked) own started (by kernel_rfl) Tryz.func4
    (ChangeSpec.witness6 (enc := enc) (C := Tryz.checked) false ⟨#[], #[.agg #[.bool false, .bool false], .slice none 0 0, .slice none 0 0], []⟩ 8 (by kernel_rfl) (by kernel_rfl) (by kernel_rfl) (by kernel_rfl)) ?_
  intro W base args ds gs before hval0 hW hcnd _
  have hval : ∀ (j : Nat) t v, Tryz.f4.params[j]? = some t → args[j]? = some v → Value.okWide Tryz.prog W .any base t v := hval0
  have hW' := hW
  obtain ⟨p, q, hA0, hV, rfl, hfz, hnd⟩ := hW
  have hA : DataW.TrodAll enc Tryz.prog W 0 (fun _ => true) true Tryz.f4.params.toList args.toList ds p := hA0
  rw [Tryz.params4] at hA hval
  obtain ⟨v0, vs0, d0, ds0, p0, q0, hargs, rfl, rfl, h0, r0⟩ := trodAll_cons hA
  obtain ⟨v1, vs1, d1, ds1, p1, q1, rfl, rfl, rfl, h1, r1⟩ := trodAll_cons r0
  obtain ⟨v2, vs2, d2, ds2, p2, q2, rfl, rfl, rfl, h2, r2⟩ := trodAll_cons r1
  obtain ⟨rfl, rfl, rfl⟩ := trodAll_nil r2
  obtain rfl : args = #[v0, v1, v2] := by cases args; simp_all
  obtain ⟨rfl, rfl⟩ := trodVars_none hV
  have k0 := h0
  have lt0 : ∀ x ∈ p0, x.block < W.heap.size := by obtain ⟨m, hm⟩ := k0; exact DataW.trod_lt m _ _ _ hm
  obtain ⟨F0, H0, rfl⟩ := options_in (hval 0 23 v0 rfl rfl) h0
  have k1 := h1
  have lt1 : ∀ x ∈ p1, x.block < W.heap.size := by obtain ⟨m, hm⟩ := k1; exact DataW.trod_lt m _ _ _ hm
  obtain ⟨a1, len1, cap1, rfl⟩ := okWide_slice Tryz.underlying24 (hval 1 24 v1 rfl rfl)
  obtain ⟨S1, w1⟩ := steps_in h1
  have k2 := h2
  have lt2 : ∀ x ∈ p2, x.block < W.heap.size := by obtain ⟨m, hm⟩ := k2; exact DataW.trod_lt m _ _ _ hm
  obtain ⟨a2, len2, cap2, rfl⟩ := okWide_slice Tryz.underlying50 (hval 2 50 v2 rfl rfl)
  obtain ⟨u2, y2, z2, w2, x2⟩ := rows_in Tryz.underlying50 Tryz.underlying44 Tryz.underlying62 (by kernel_rfl) (by kernel_rfl) h2
  clear hA0 hval0
  refine ((SimSolves_any F0 H0 w1 w2 (rows_wordsS w2 x2))).mono fun e W' ⟨he, bel⟩ => ?_
  subst he
  exact ⟨_, rfl, _, _, _, [], _, [], hW', trodAll_mk1 (shut_bool Tryz.underlying4 _), (trodAll_cons_mk (Below.trod laidOut (by kernel_rfl) (of_decide_eq_true (by kernel_rfl)) k0 bel lt0) (trodAll_cons_mk (Below.trod laidOut (by kernel_rfl) (of_decide_eq_true (by kernel_rfl)) k1 bel lt1) (trodAll_cons_mk (Below.trod laidOut (by kernel_rfl) (of_decide_eq_true (by kernel_rfl)) k2 bel lt2) trodAll_mk0))), rfl, bel.frame _, fun h => by cases h⟩

theorem holds : Rows.SimSolvesSaid :=
  OpenClaim.holds_of_wide 4 Tryz.f4 rfl rfl rfl rfl rfl rfl rfl ⟨rfl, rfl, rfl, rfl, rfl⟩ rfl rfl rfl rfl rfl (by kernel_rfl) Tryz.func4 (by kernel_rfl)
    (of_decide_eq_true (by kernel_rfl)) (by unfold Func.isWrapper; first | (rw [if_pos (by decide +kernel)]; kernel_rfl) | (rw [if_neg (by decide +kernel)]; exact ⟨rfl, rfl⟩))
    (fun os started H enc _ => lifted os started H enc)
#print axioms holds
end Go.Proofs.YtafoohdndlhbnaaGreat.simSolves
end
