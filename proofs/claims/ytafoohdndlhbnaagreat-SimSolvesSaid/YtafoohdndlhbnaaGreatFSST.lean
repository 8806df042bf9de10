/-
  Rows of rows that come in.
  Simulations told by functions: a cycle's words, what registers have and what goes out behind so many cycles.
  SimAgain: what is carried along; the walk.
  SimSolves: a literal's word, by the closure that holds the simulation.
-/
import Derived.Test.YtafoohdndlhbnaaGreatFSSS
import Derived.Test.YtafoohdndlhbnaaGreatFSSA
import Derived.Deep.Slices
section
namespace Go.Proofs.YtafoohdndlhbnaaGreat
open Go.RowKit Go.Maps Go.ChangeShapes Go.WideShapes Go.ChangeAt Go.Joins
set_option maxRecDepth 100000

def RRk (k : IntKind) (w : World) (a : Option Addr) (n : Nat) (N : List (List Int)) : Prop :=
  N.length = n ∧ n ≤ 9223372036854775807 ∧ (n = 0 ∨ ∃ b off, a = some ⟨b, off, none⟩ ∧ b < w.heap.size ∧ ∀ i, i < n → ∃ ai ci, w.cell? ⟨b, off + i, none⟩ = some (.slice ai (N.getD i []).length ci) ∧ (N.getD i []).length ≤ ci ∧ ci ≤ 9223372036854775807 ∧ Row k w ai (N.getD i []).length (N.getD i []))
theorem RRk.step {k : IntKind} {W w1 : World} {a : Option Addr} {n : Nat} {N : List (List Int)} (h : RRk k W a n N) (hb : Below W.heap.size W w1) : RRk k w1 a n N := by
  refine ⟨h.1, h.2.1, ?_⟩
  rcases h.2.2 with h0 | ⟨b, off, rfl, hlt, hc⟩
  · exact .inl h0
  · exact .inr ⟨b, off, rfl, Nat.lt_of_lt_of_le hlt hb.size, fun i hi => by obtain ⟨ai, ci, h1, h2, h3, h4⟩ := hc i hi; exact ⟨ai, ci, stepc hb hlt h1, h2, h3, h4.step hb⟩⟩
theorem RRk.at {k : IntKind} {w : World} {a : Option Addr} {n : Nat} {N : List (List Int)} (h : RRk k w a n N) (hn : 0 < n) : ∃ b off, a = some ⟨b, off, none⟩ ∧ b < w.heap.size ∧ ∀ i, i < n → ∃ ai ci, w.cell? ⟨b, off + i, none⟩ = some (.slice ai (N.getD i []).length ci) ∧ (N.getD i []).length ≤ ci ∧ ci ≤ 9223372036854775807 ∧ Row k w ai (N.getD i []).length (N.getD i []) := by
  rcases h.2.2 with h0 | h1
  · omega
  · exact h1

section
variable {H : Type} {enc : TypeId × Value → H} {w : World} {base : Nat} {held : Bool}
/-- A slice of integers that came in. -/
theorem slice2_in {fuel : Nat} {v : Value} {y : DataW H × List MemPlace} {t e : Nat} {k : IntKind} (hs : Tryz.prog.underlying t = some (.slice e)) (he : Tryz.prog.underlying e = some (.int k)) (hc : Tryz.prog.cellsOf e = 1) (h : DataW.trod enc Tryz.prog w base (fun _ => true) held fuel t [v] = some y) :
    ∃ a n c l, v = .slice a n c ∧ n ≤ c ∧ c ≤ 9223372036854775807 ∧ Row k w a n l ∧ ∀ z ∈ l, (Lit.int k z).wf = true := by
  rcases open_ints hs he hc h with ⟨e1, _⟩ | ⟨x, l, c, zs, e1, _, hl, hm, hz, _, hcell, hwz⟩
  · exact ⟨none, 0, 0, [], by simpa using e1, by omega, by omega, Row.nil _ _ _, fun z hz => by simp at hz⟩
  · unfold maxLen at hm
    have hz' : zs.length = c := by simpa using hz
    refine ⟨some x, l, c, zs.take l, by simpa using e1, hl, by omega, ⟨by rw [List.length_take]; omega, by omega, ?_⟩, fun z hz => hwz z (List.mem_of_mem_take hz)⟩
    by_cases h0 : l = 0
    · exact .inl h0
    · right
      obtain ⟨b, off, rfl, hcc⟩ := ints_at hcell (by omega)
      refine ⟨b, off, rfl, World.block_lt_of_cell? w ⟨b, off + 0, none⟩ (hcc 0 (by omega)), fun i hi => ?_⟩
      rw [hcc i (by omega)]
      have : (zs.take l).getD i 0 = zs.getD i 0 := by simp [List.getD, hi]
      rw [this]
theorem choose_list {α : Type} (d : α) {p : Nat → α → Prop} {n : Nat} (h : ∀ i, i < n → ∃ x, p i x) : ∃ l : List α, l.length = n ∧ ∀ i, i < n → p i (l.getD i d) := by
  induction n with
  | zero => exact ⟨[], rfl, fun i hi => by omega⟩
  | succ n ih =>
    obtain ⟨l, hl, hp⟩ := ih (fun i hi => h i (by omega))
    obtain ⟨x, hx⟩ := h n (by omega)
    refine ⟨l ++ [x], by simp [hl], fun i hi => ?_⟩
    by_cases e : i = n
    · subst e
      have : (l ++ [x]).getD i d = x := by rw [List.getD_eq_getElem?_getD, List.getElem?_append_right (by omega), hl]; simp
      rw [this]; exact hx
    · have : (l ++ [x]).getD i d = l.getD i d := by rw [List.getD_eq_getElem?_getD, List.getD_eq_getElem?_getD, List.getElem?_append_left (by omega)]
      rw [this]; exact hp i (by omega)
/-- A slice of such slices. -/
theorem rows_in {a : Option Addr} {n c : Nat} {d : DataW H} {p : List MemPlace} {t s e : Nat} {k : IntKind} (ht : Tryz.prog.underlying t = some (.slice s)) (hs : Tryz.prog.underlying s = some (.slice e)) (he : Tryz.prog.underlying e = some (.int k)) (hc : Tryz.prog.cellsOf e = 1) (hcs : Tryz.prog.cellsOf s = 1) (h : DataW.Trod enc Tryz.prog w base (fun _ => true) held t (.slice a n c) d p) :
    n ≤ c ∧ c ≤ 9223372036854775807 ∧ ∃ N, RRk k w a n N ∧ ∀ i, i < n → ∀ z ∈ N.getD i [], (Lit.int k z).wf = true := by
  obtain ⟨fuel, hf⟩ := h
  rcases Go.Deep.open_slice1 ht hcs hf with ⟨e1, _⟩ | ⟨x, len, cap, m, nn, V, D, Pl, e1, -, hl, hm, hmm, -, hx⟩
  · simp [Value.cells] at e1
    obtain ⟨rfl, rfl, rfl⟩ := e1
    exact ⟨by omega, by omega, [], ⟨rfl, by omega, .inl rfl⟩, fun i hi => by omega⟩
  · simp [Value.cells] at e1
    obtain ⟨rfl, rfl, rfl⟩ := e1
    simp at hmm
    subst hmm
    unfold maxLen at hm
    refine ⟨hl, by omega, ?_⟩
    obtain ⟨N, hN, hP⟩ := choose_list (α := List Int) [] (n := n) (p := fun i l => ∃ ai ci, w.cell? (x.add i) = some (.slice ai l.length ci) ∧ l.length ≤ ci ∧ ci ≤ 9223372036854775807 ∧ Row k w ai l.length l ∧ ∀ z ∈ l, (Lit.int k z).wf = true) (fun i hi => by
      obtain ⟨h1, h2⟩ := hx i (by omega)
      obtain ⟨ai, ni, ci, l, e, q1, q2, q3, q4⟩ := slice2_in hs he hc h2
      have hln := q3.len
      subst hln
      exact ⟨l, ai, ci, by rw [h1, e], q1, q2, q3, q4⟩)
    refine ⟨N, ⟨hN, by omega, ?_⟩, fun i hi z hz => by obtain ⟨ai, ci, -, -, -, -, h5⟩ := hP i hi; exact h5 z hz⟩
    by_cases h0 : n = 0
    · exact .inl h0
    · right
      obtain ⟨b, off, spot⟩ := x
      obtain ⟨a0, c0, g0, -⟩ := hP 0 (by omega)
      have hspot : spot = none := by simpa [Addr.add] using World.cell?_spot g0
      subst hspot
      refine ⟨b, off, rfl, ?_, fun i hi => ?_⟩
      · have := World.block_lt_of_cell? w _ g0
        simpa [Addr.add] using this
      · obtain ⟨ai, ci, g1, g2, g3, g4, -⟩ := hP i hi
        rw [Go.WideShapes.add_plain] at g1
        exact ⟨ai, ci, g1, g2, g3, g4⟩
end
end Go.Proofs.YtafoohdndlhbnaaGreat
end

section
namespace Go.Proofs.YtafoohdndlhbnaaGreat
open Go.RowKit Go.Maps Bits Num
set_option maxRecDepth 100000

def cycW (N : Nt) (V : List Int) : List Int := ev N.g (in1 N.g (insW N V) N.g.inputs.length) N.g.nodes.length
theorem cycW_cyc {N : Nt} (hg : Good N []) {V : List Int} (hV : Words V) : Cyc N V (cycW N V) := by
  refine cyc_of hg ?_ (ev_val hg.wf (insW_words hV))
  unfold cycW
  rw [ev_len, in1_len]
theorem cycW_eq {N : Nt} (hg : Good N []) {V ws : List Int} (hV : Words V) (c : Cyc N V ws) : ws = cycW N V := c.unique hg (cycW_cyc hg hV)
/-- What registers have behind i cycles. -/
def hasAt (N : Nt) (C : Nat → List Int) : Nat → List Int
  | 0 => iniR N.regs
  | i + 1 => nxR N (cycW N (padX N (C i) ++ hasAt N C i))
def wordsAt (N : Nt) (C : Nat → List Int) (i : Nat) : List Int := cycW N (padX N (C i) ++ hasAt N C i)
def outAt (N : Nt) (C : Nat → List Int) (i : Nat) : List (List Int) := outR N (wordsAt N C i)
theorem hasAt_words (N : Nt) (C : Nat → List Int) (hg : Good N []) (hC : ∀ i, Words (C i)) (i : Nat) : Words (hasAt N C i) := by
  induction i with
  | zero => exact words_map _ _ iniW_bd
  | succ i ih =>
    have := (cycW_cyc hg (words_append (padX_words N (hC i)) ih)).words
    exact words_map _ _ (fun r => nxW_bd this r)
/-- A cycle. -/
theorem step_fn {w : World} {S : Nat} {q : NPl} {p : SPl} {N : Nt} {C : Nat → List Int} (hC : ∀ i, Words (C i)) {i : Nat} {last : List Int} (h : SimIs w S q p N ⟨hasAt N C i, last, i⟩) (hi : i ≤ 1000) {base : Nat} {v : Value} (hG : GR w base v (piecesG N (C i) ++ List.replicate 0 [1])) :
    Calls Tryz.prog 14 #[.pointer (some ⟨S, 0, none⟩), v] w fun e w' => ∃ (p' : SPl) (g : Nat), e = .returned (.tuple #[.slice (some ⟨g, 0, none⟩) N.outs.length N.outs.length, .int .i64 0]) ∧ ORow w' w.heap.size g N.outs.length (outAt N C i) N.outs.length ∧ SimIs w' S q p' N ⟨hasAt N C (i + 1), wordsAt N C i, i + 1⟩ ∧ Kept (fun k => k = S) w w' := by
  simp only [List.replicate_zero, List.append_nil] at hG
  obtain ⟨a, c, rfl⟩ := hG.slice
  obtain ⟨hn, hI⟩ := hG.inRows (hC i) h.small
  refine (SStep_ok h (by show i < 1000000; omega) (c := c) hI).mono ?_
  rintro e w' ⟨ws, p', g, hc, rfl, hO, hS, hk⟩
  have e1 := cycW_eq h.good (words_append (padX_words N (hC i)) (hasAt_words N C h.good hC i)) hc
  subst e1
  exact ⟨p', g, rfl, hO, hS, hk⟩
theorem step_more {w : World} {S : Nat} {q : NPl} {p : SPl} {N : Nt} {s : St} (h : SimIs w S q p N s) {base : Nat} {v : Value} {l : List Int} (hG : GR w base v (piecesG N l ++ List.replicate 1 [1])) :
    Calls Tryz.prog 14 #[.pointer (some ⟨S, 0, none⟩), v] w fun e w' => e = .returned (.tuple #[.slice none 0 0, .int .i64 1]) ∧ Below w.heap.size w w' := by
  obtain ⟨a, c, rfl⟩ := hG.slice
  refine SStep_no h ?_
  rw [List.length_append, piecesG_len]
  simp

/-! ### rows of rows compared -/
theorem ORow.keptF {F : Nat → Prop} {w w' : World} {base g no j : Nat} {L : List (List Int)} (h : ORow w base g no L j) (hk : Kept F w w') (h1 : ∀ k cur fz, F k → w.heap[k]? ≠ some (.cells cur 44 fz)) (h2 : NoWd w F) : ORow w' base g no L j := by
  obtain ⟨kv, e1, e2⟩ := h
  refine ⟨kv, own_keptF e1 hk (fun k e hf => ?_), fun i hi => ?_⟩
  · obtain ⟨c, hc⟩ := own_type e1 e
    exact h1 k c _ hf hc
  · obtain ⟨ra, rc, e3, e4⟩ := e2 i hi
    exact ⟨ra, rc, e3, e4.keptF hk h2⟩
/-- Rows of rows of words that a call puts together. -/
def FR (w : World) (base : Nat) (v : Value) (no : Nat) (L : Nat → List (List Int)) (m : Nat) : Prop :=
  ∃ kv : List Value, w.ownsRow base 50 1 v m kv ∧ ∀ j, j < m → ∃ g : Nat, kv[j]? = some (.slice (some ⟨g, 0, none⟩) no no) ∧ ORow w 0 g no (L j) no
theorem FR.nil (w : World) (base no : Nat) (L : Nat → List (List Int)) : FR w base (.slice none 0 0) no L 0 := ⟨[], own_nil _ _ _, fun j hj => by omega⟩
theorem FR.step {w w' : World} {base no m : Nat} {v : Value} {L : Nat → List (List Int)} (h : FR w base v no L m) (hb : Below w.heap.size w w') : FR w' base v no L m := by
  obtain ⟨kv, h1, h2⟩ := h
  exact ⟨kv, own_below h1 hb, fun j hj => by obtain ⟨g, e1, e2⟩ := h2 j hj; exact ⟨g, e1, e2.step hb⟩⟩
theorem FR.sim {w w' : World} {base no m : Nat} {v : Value} {L : Nat → List (List Int)} (h : FR w base v no L m) {S2 : Nat} {q2 : NPl} {p2 : SPl} {N2 : Nt} {s2 : St} (h2 : SimIs w S2 q2 p2 N2 s2) (hk : Kept (fun k => k = S2) w w') : FR w' base v no L m := by
  obtain ⟨kv, e1, e2⟩ := h
  refine ⟨kv, own_keptF e1 hk (fun k e hf => ?_), fun j hj => ?_⟩
  · subst hf
    obtain ⟨c, hc⟩ := own_type e1 e
    rw [h2.box] at hc; simp [simBox] at hc
  · obtain ⟨g, e3, e4⟩ := e2 j hj
    exact ⟨g, e3, e4.sim h2 hk⟩
theorem FR.at {w : World} {base no m c : Nat} {a : Option Addr} {L : Nat → List (List Int)} (h : FR w base (.slice a m c) no L m) {j : Nat} (hj : j < m) : ∃ b g : Nat, a = some ⟨b, 0, none⟩ ∧ b < w.heap.size ∧ w.cell? ⟨b, j, none⟩ = some (.slice (some ⟨g, 0, none⟩) no no) ∧ ORow w 0 g no (L j) no := by
  obtain ⟨kv, e1, e2⟩ := h
  obtain ⟨b, cap, e⟩ := own_form e1 (by omega)
  obtain ⟨g, e3, e4⟩ := e2 j hj
  simp only [Value.slice.injEq] at e
  obtain ⟨e5, e6, e7⟩ := e
  subst e5 e7
  exact ⟨b, g, rfl, own_lt e1, by rw [e1.cellAt j (by omega)]; exact e3, e4⟩
theorem FR.push {w wa w1 : World} {base no m gx cap g : Nat} {a : Option Addr} {c : Nat} {L : Nat → List (List Int)} {kv : List Value} (ho : w.ownsRow base 50 1 (.slice a m c) m kv) (hb : Below w.heap.size w wa)
    (hW : ∀ j, j < m → ∃ g : Nat, kv[j]? = some (.slice (some ⟨g, 0, none⟩) no no) ∧ ORow w 0 g no (L j) no) (hl : ORow wa 0 g no (L m) no)
    (hown : w1.ownsRow base 50 1 (.slice (some ⟨gx, 0, none⟩) (m + 1) cap) (m + 1) (kv ++ [.slice (some ⟨g, 0, none⟩) no no])) (hg : wa.grownBy w1 (Value.slice a m c).ownBlock) : FR w1 base (.slice (some ⟨gx, 0, none⟩) (m + 1) cap) no L (m + 1) := by
  have hk := kept_grown hg
  have hty : ∀ k, (Value.slice a m c).ownBlock = some k → ∃ d, wa.heap[k]? = some (.cells d 50 (0, 0)) := fun k e => own_type (own_below ho hb) e
  have h1 : ∀ k cur fz, (Value.slice a m c).ownBlock = some k → wa.heap[k]? ≠ some (.cells cur 44 fz) := by
    intro k cur fz e hh
    obtain ⟨d, hd⟩ := hty k e
    rw [hd] at hh; simp at hh
  have h2 : NoWd wa (fun k => (Value.slice a m c).ownBlock = some k) := by
    intro k cur fz e hh
    obtain ⟨d, hd⟩ := hty k e
    rw [hd] at hh; simp at hh
  have hkl : kv.length = m := by have := ho.1; omega
  refine ⟨kv ++ [.slice (some ⟨g, 0, none⟩) no no], hown, fun j hj => ?_⟩
  by_cases e : j < m
  · obtain ⟨g', e1, e2⟩ := hW j e
    exact ⟨g', by rw [List.getElem?_append_left (by omega)]; exact e1, (e2.step hb).keptF hk h1 h2⟩
  · obtain rfl : j = m := by omega
    exact ⟨g, by rw [← hkl]; simp, hl.keptF hk h1 h2⟩
theorem info_rows64 : (Tryz.prog.info? 50).map (fun i => (i.zero, i.size, i.bytes)) = some (some (.slice none 0 0), 1, 24) := by kernel_rfl
end Go.Proofs.YtafoohdndlhbnaaGreat
end

section
namespace Go.Proofs.YtafoohdndlhbnaaGreat
open Go.RowKit Go.Maps Bits Num
set_option maxRecDepth 100000

/-- A netlist, two simulations of it, what was told so far, and a copy. -/
structure Bun (w0 w : World) (B Cg : Nat) (q : NPl) (N : Nt) (S1 S2 : Nat) (q1 q2 : NPl) (C : Nat → List Int) (i1 i2 : Nat) (v : Value) (m k0 : Nat) (tw : Option Nat) : Prop where
  at_ : AtN w0 B Cg w q N
  good : Good N []
  small : Small N
  s1 : ∃ p la, SimIs w S1 q1 p N ⟨hasAt N C i1, la, i1⟩
  s2 : ∃ p la, SimIs w S2 q2 p N ⟨hasAt N C i2, la, i2⟩
  fr : FR w w0.heap.size v N.outs.length (outAt N C) m
  tw : ∀ S3, tw = some S3 → ∃ p la, SimIs w S3 q1 p N ⟨hasAt N C k0, la, k0⟩ ∧ S3 ≠ S1 ∧ S3 ≠ S2 ∧ w0.heap.size ≤ S3
  ne : S1 ≠ S2
  lo1 : w0.heap.size ≤ S1
  lo2 : w0.heap.size ≤ S2
section
variable {w0 w w' : World} {B Cg : Nat} {q : NPl} {N : Nt} {S1 S2 : Nat} {q1 q2 : NPl} {C : Nat → List Int} {i1 i2 : Nat} {v : Value} {m k0 : Nat} {tw : Option Nat}
theorem Bun.step (h : Bun w0 w B Cg q N S1 S2 q1 q2 C i1 i2 v m k0 tw) (hb : Below w.heap.size w w') : Bun w0 w' B Cg q N S1 S2 q1 q2 C i1 i2 v m k0 tw :=
  ⟨h.at_.step hb, h.good, h.small, let ⟨p, la, e⟩ := h.s1; ⟨p, la, e.below hb⟩, let ⟨p, la, e⟩ := h.s2; ⟨p, la, e.below hb⟩, h.fr.step hb, fun S3 e => let ⟨p, la, e1, e2⟩ := h.tw S3 e; ⟨p, la, e1.below hb, e2⟩, h.ne, h.lo1, h.lo2⟩
theorem AtN.sim {S : Nat} {q2 : NPl} {p2 : SPl} {N2 : Nt} {s2 : St} (h : AtN w0 B Cg w q N) (h2 : SimIs w S q2 p2 N2 s2) (hlo : w0.heap.size ≤ S) (hk : Kept (fun k => k = S) w w') : AtN w0 B Cg w' q N :=
  ⟨h.is.sim h2 hk, h.b, h.gb, h.out, h.below.trans (hk.below (fun k e => by subst e; exact hlo) h.below.size)⟩
theorem Bun.given (h : Bun w0 w B Cg q N S1 S2 q1 q2 C i1 i2 v m k0 tw) {la : Option Addr} {ln lc : Nat} {l : List Int} (hl : Row .u64 w0 la ln l) (hw : Words l) (mo : Nat) (hmo : mo ≤ 1) (z : Int) (hz : (mo : Int) = z) :
    Calls Tryz.prog 15 #[.pointer (some ⟨B, 0, none⟩), .slice la ln lc, .int .i64 z] w fun e w' => ∃ u, e = .returned u ∧ GR w' w.heap.size u (piecesG N l ++ List.replicate mo [1]) ∧ Bun w0 w' B Cg q N S1 S2 q1 q2 C i1 i2 v m k0 tw ∧ Below w.heap.size w w' := by
  have := given_any h.at_.is h.good h.small (lc := lc) (hl.step h.at_.below) hw mo hmo
  rw [h.at_.b, hz] at this
  exact this.mono fun _ w' ⟨u, e, hG, hb⟩ => ⟨u, e, hG, h.step hb, hb⟩
theorem Bun.more (h : Bun w0 w B Cg q N S1 S2 q1 q2 C i1 i2 v m k0 tw) {base : Nat} {u : Value} {l : List Int} (hG : GR w base u (piecesG N l ++ List.replicate 1 [1])) :
    Calls Tryz.prog 14 #[.pointer (some ⟨S1, 0, none⟩), u] w fun e w' => e = .returned (.tuple #[.slice none 0 0, .int .i64 1]) ∧ Bun w0 w' B Cg q N S1 S2 q1 q2 C i1 i2 v m k0 tw := by
  obtain ⟨p, la, e⟩ := h.s1
  exact (step_more e hG).mono fun _ w' ⟨e, hb⟩ => ⟨e, h.step hb⟩
theorem Bun.cycles (h : Bun w0 w B Cg q N S1 S2 q1 q2 C i1 i2 v m k0 tw) :
    Calls Tryz.prog 19 #[.pointer (some ⟨S1, 0, none⟩)] w fun e w' => e = .returned (.int .i64 i1) ∧ w = w' := by
  obtain ⟨p, la, e⟩ := h.s1
  exact Cycles_any e
theorem Bun.copy (h : Bun w0 w B Cg q N S1 S2 q1 q2 C i1 i2 v m k0 none) (hi : i1 = k0) :
    Calls Tryz.prog 13 #[.pointer (some ⟨S1, 0, none⟩)] w fun e w' => ∃ S3 : Nat, e = .returned (.pointer (some ⟨S3, 0, none⟩)) ∧ Bun w0 w' B Cg q N S1 S2 q1 q2 C i1 i2 v m k0 (some S3) := by
  obtain ⟨p, la, e⟩ := h.s1
  obtain ⟨p2, la2, e2⟩ := h.s2
  refine (SCopy_any e).mono fun _ w' ⟨S3, he, hS, hz, hb⟩ => ⟨S3, he, ?_⟩
  have h' := h.step hb
  have l1 := e.lt
  have l2 := e2.lt
  have l3 := h.at_.below.size
  subst hi
  exact ⟨h'.at_, h'.good, h'.small, h'.s1, h'.s2, h'.fr, fun S4 e4 => by cases e4; exact ⟨p, la, hS, by omega, by omega, by omega⟩, h'.ne, h'.lo1, h'.lo2⟩
/-- A cycle of the first. -/
theorem Bun.one (hC : ∀ i, Words (C i)) (h : Bun w0 w B Cg q N S1 S2 q1 q2 C i1 i2 v m k0 tw) (hi : i1 ≤ 1000) {base : Nat} {u : Value} (hG : GR w base u (piecesG N (C i1) ++ List.replicate 0 [1])) :
    Calls Tryz.prog 14 #[.pointer (some ⟨S1, 0, none⟩), u] w fun e w' => ∃ g : Nat, e = .returned (.tuple #[.slice (some ⟨g, 0, none⟩) N.outs.length N.outs.length, .int .i64 0]) ∧ ORow w' 0 g N.outs.length (outAt N C i1) N.outs.length ∧ Bun w0 w' B Cg q N S1 S2 q1 q2 C (i1 + 1) i2 v m k0 tw := by
  obtain ⟨p, la, e⟩ := h.s1
  obtain ⟨p2, la2, e2⟩ := h.s2
  refine (step_fn hC e hi hG).mono fun _ w' ⟨p', g, he, hO, hS, hk⟩ => ⟨g, he, hO.base (Nat.zero_le _), ?_⟩
  exact ⟨h.at_.sim e h.lo1 hk, h.good, h.small, ⟨p', _, hS⟩, ⟨p2, la2, e2.aside e (fun x => h.ne x.symm) hk⟩, h.fr.sim e hk, fun S3 e3 => (by
    obtain ⟨p3, la3, f1, f2, f3, f4⟩ := h.tw S3 e3
    exact ⟨p3, la3, f1.aside e f2 hk, f2, f3, f4⟩), h.ne, h.lo1, h.lo2⟩
/-- A cycle of the second, beside what the first told. -/
theorem Bun.two (hC : ∀ i, Words (C i)) (h : Bun w0 w B Cg q N S1 S2 q1 q2 C i1 i2 v m k0 tw) (hi : i2 ≤ 1000) {base : Nat} {u : Value} (hG : GR w base u (piecesG N (C i2) ++ List.replicate 0 [1])) {gx : Nat} {L : List (List Int)} (hx : ORow w 0 gx N.outs.length L N.outs.length) :
    Calls Tryz.prog 14 #[.pointer (some ⟨S2, 0, none⟩), u] w fun e w' => ∃ g : Nat, e = .returned (.tuple #[.slice (some ⟨g, 0, none⟩) N.outs.length N.outs.length, .int .i64 0]) ∧ ORow w' 0 g N.outs.length (outAt N C i2) N.outs.length ∧ ORow w' 0 gx N.outs.length L N.outs.length ∧ Bun w0 w' B Cg q N S1 S2 q1 q2 C i1 (i2 + 1) v m k0 tw := by
  obtain ⟨p, la, e⟩ := h.s1
  obtain ⟨p2, la2, e2⟩ := h.s2
  refine (step_fn hC e2 hi hG).mono fun _ w' ⟨p', g, he, hO, hS, hk⟩ => ⟨g, he, hO.base (Nat.zero_le _), hx.sim e2 hk, ?_⟩
  exact ⟨h.at_.sim e2 h.lo2 hk, h.good, h.small, ⟨p, la, e.aside e2 h.ne hk⟩, ⟨p', _, hS⟩, h.fr.sim e2 hk, fun S3 e3 => (by
    obtain ⟨p3, la3, f1, f2, f3, f4⟩ := h.tw S3 e3
    exact ⟨p3, la3, f1.aside e2 f3 hk, f2, f3, f4⟩), h.ne, h.lo1, h.lo2⟩
theorem Bun.reset (h : Bun w0 w B Cg q N S1 S2 q1 q2 C i1 i2 v m k0 tw) :
    Calls Tryz.prog 12 #[.pointer (some ⟨S1, 0, none⟩)] w fun e w' => e = .returned (.int .i64 0) ∧ Bun w0 w' B Cg q N S1 S2 q1 q2 C 0 i2 v m k0 tw := by
  obtain ⟨p, la, e⟩ := h.s1
  obtain ⟨p2, la2, e2⟩ := h.s2
  refine (Reset_any e).mono fun _ w' ⟨he, p', hS, hk⟩ => ⟨he, ?_⟩
  exact ⟨h.at_.sim e h.lo1 hk, h.good, h.small, ⟨p', _, hS⟩, ⟨p2, la2, e2.aside e (fun x => h.ne x.symm) hk⟩, h.fr.sim e hk, fun S3 e3 => (by
    obtain ⟨p3, la3, f1, f2, f3, f4⟩ := h.tw S3 e3
    exact ⟨p3, la3, f1.aside e f2 hk, f2, f3, f4⟩), h.ne, h.lo1, h.lo2⟩
/-- The copy takes the first one's place, the first one the second's. -/
theorem Bun.twin {S3 : Nat} (h : Bun w0 w B Cg q N S1 S2 q1 q2 C i1 i2 v m k0 (some S3)) : Bun w0 w B Cg q N S3 S1 q1 q1 C k0 i1 v m k0 none := by
  obtain ⟨p3, la3, f1, f2, f3, f4⟩ := h.tw S3 rfl
  exact ⟨h.at_, h.good, h.small, ⟨p3, la3, f1⟩, h.s1, h.fr, fun _ e => (by cases e), f2, f4, h.lo1⟩
theorem Bun.flip (h : Bun w0 w B Cg q N S1 S2 q1 q2 C i1 i2 v m k0 none) : Bun w0 w B Cg q N S2 S1 q2 q1 C i2 i1 v m k0 none :=
  ⟨h.at_, h.good, h.small, h.s2, h.s1, h.fr, fun _ e => (by cases e), fun x => h.ne x.symm, h.lo2, h.lo1⟩
theorem Bun.push (h : Bun w0 w B Cg q N S1 S2 q1 q2 C i1 i2 v m k0 tw) {w1 : World} {v' : Value} {m' : Nat} (hb : Below w.heap.size w w') (hF : FR w1 w0.heap.size v' N.outs.length (outAt N C) m') (hk : Kept (fun k => v.ownBlock = some k) w' w1) (hlo : ∀ k, v.ownBlock = some k → w0.heap.size ≤ k) (hty : ∀ k, v.ownBlock = some k → ∃ d, w'.heap[k]? = some (.cells d 50 (0, 0))) : Bun w0 w1 B Cg q N S1 S2 q1 q2 C i1 i2 v' m' k0 tw := by
  have h' := h.step hb
  have n1 : NoLits w' (fun k => v.ownBlock = some k) := by
    intro k cur fz e hh
    obtain ⟨d, hd⟩ := hty k e
    rw [hd] at hh; simp at hh
  have n2 : NoWd w' (fun k => v.ownBlock = some k) := by
    intro k cur fz e hh
    obtain ⟨d, hd⟩ := hty k e
    rw [hd] at hh; simp at hh
  have n3 : ∀ {q2 : NPl} {N2 : Nt}, NetIs w' q2 N2 → ∀ k, v.ownBlock = some k → ¬ q2.has k := fun hI k e => by
    obtain ⟨d, hd⟩ := hty k e
    exact hI.other hd (by decide) (by decide) (by decide) (by decide) (by decide) (by decide)
  have n4 : ∀ {S : Nat} {qq : NPl} {p : SPl} {M : Nt} {s : St}, SimIs w' S qq p M s → SimIs w1 S qq p M s := fun hS => hS.keptF hk (fun e => by
    obtain ⟨d, hd⟩ := hty _ e
    have := hS.box
    rw [hd] at this; simp [simBox] at this) (n3 hS.net) n1 n2
  obtain ⟨p, la, e⟩ := h'.s1
  obtain ⟨p2, la2, e2⟩ := h'.s2
  exact ⟨⟨h'.at_.is.beside hk (n3 h'.at_.is) n1, h'.at_.b, h'.at_.gb, h'.at_.out, h'.at_.below.trans (hk.below hlo h'.at_.below.size)⟩, h.good, h.small, ⟨p, la, n4 e⟩, ⟨p2, la2, n4 e2⟩, hF, fun S3 e3 => (by
    obtain ⟨p3, la3, f1, f2⟩ := h'.tw S3 e3
    exact ⟨p3, la3, n4 f1, f2⟩), h.ne, h.lo1, h.lo2⟩
def ptrOf (tw : Option Nat) : Value := .pointer (tw.map (fun S => ⟨S, 0, none⟩))
end

end Go.Proofs.YtafoohdndlhbnaaGreat
end

section
namespace Go.Proofs.YtafoohdndlhbnaaGreat
open Go.RowKit Go.Maps Bits Num
set_option maxRecDepth 100000

theorem solveW_any {w : World} {P S : Nat} {q : NPl} {p : SPl} {N : Nt} {s : St} (hc : w.cell? ⟨P, 0, none⟩ = some (.pointer (some ⟨S, 0, none⟩))) (h : SimIs w S q p N s) {x : Int} (hx : There N.g x) (hcy : 0 < s.cy) :
    Calls Tryz.prog 22 #[.int .u32 x, .pointer (some ⟨P, 0, none⟩)] w fun e w' => e = .returned (.int .u64 (wordV x s.last)) ∧ Below w.heap.size w w' := by
  have hpl := World.block_lt_of_cell? w _ hc
  have hb0 : Below w.heap.size w (w.alloc (.cells #[.int .u32 x] 40)) := (Below.refl _ _).alloc (Nat.le_refl _) _
  have hr : Row .u32 (w.alloc (.cells #[.int .u32 x] 40)) (some ⟨w.heap.size, 0, none⟩) 1 [x] := ⟨rfl, by omega, .inr ⟨w.heap.size, 0, rfl, by simp, fun i hi => by
    obtain rfl : i = 0 := by omega
    simp [go_sem]⟩⟩
  have hall : allHas N.g [x] = true := by simp [allHas, hasB]; exact hx.2
  have hw := Lib.hid (SWords_any (h.below hb0) (c := 1) hr (by intro y hy; simp at hy; subst hy; exact hx.1) (by omega))
  have hall := Lib.hid hall
  have hcy := Lib.hid hcy
  have hb0 := Lib.hid hb0
  clear h hx hr
  go_enter Tryz.func22, Tryz.ntmps22
  go_wp2_with (go_at_call 23; (with_reducible refine hw.out.mono ?_); rintro e w2 ⟨-, -, hQ, hb2⟩; obtain ⟨g, rfl, hW, hg⟩ := hQ hall.out hcy.out; have hrow := hW.row; obtain ⟨b, off, hgb, hbl, hcl⟩ := hrow.at (by omega); cases hgb; have c0 := hcl 0 (by omega); simp only [List.map_cons, List.map_nil, List.getD_cons_zero] at c0; clear hW hrow hcl hQ)
  go_ret
  exact ⟨rfl, nextw hb0.out hb2⟩
end Go.Proofs.YtafoohdndlhbnaaGreat
end
