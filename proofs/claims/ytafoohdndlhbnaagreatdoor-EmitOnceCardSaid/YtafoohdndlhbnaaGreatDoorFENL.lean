/-
  Steps that came in; a netlist under any steps but Input of the graph itself.
  What came in: rows of steps; options.
  The library's contracts laid at this program's numbers (written by wip/tools/shelf2.py for one seat).
  Bytes as cells; a text that a call has made.
  Words of a netlist's text: numbers to the base 10; words joined by a blank.
  Numbers to the base 10, as strconv writes them.
  Package emit: numbers, spell.
  An append of any number of elements, as a step of a region that draws its order.
  Package emit: spell; a bus's line.
-/
import Derived.Test.YtafoohdndlhbnaaGreatDoorFENK
import Derived.Deep.CutBlock
import Derived.Deep.DeepCutAuto
import Derived.Test.YtafoohdndlhbnaaGreatDoorFENA
import Derived.Deep.SlicePairs
import Derived.Test.YtafoohdndlhbnaaGreatDoorProg
import Derived.Shelf.Strconv.Itoa3
import Derived.Shelf.Strings.OnBuilder
import Derived.Test.YtafoohdndlhbnaaGreatDoorFENB
import Derived.Laws.IdiomStrings
import Derived.Lib.AppendStr
import Derived.Deep.AppendLies
import Derived.Maps.AppendAt
section
namespace Go.Proofs.YtafoohdndlhbnaaGreatDoor
open Go.RowKit Go.Maps Bits
set_option maxRecDepth 100000

/-- Steps, as a call reads them. -/
structure StRow (w : World) (a : Option Addr) (n : Nat) (S : Nat → StV) : Prop where
  le : n ≤ 9223372036854775807
  cells : n = 0 ∨ ∃ b off, a = some ⟨b, off, none⟩ ∧ b < w.heap.size ∧ ∀ i, i < n → w.cell? ⟨b, off + i * 7, none⟩ = some (.int .i64 (S i).what) ∧ w.cell? ⟨b, off + i * 7 + 1, none⟩ = some (.string (S i).name) ∧ w.cell? ⟨b, off + i * 7 + 2, none⟩ = some (.int .i64 (S i).n) ∧ w.cell? ⟨b, off + i * 7 + 3, none⟩ = some (.int .u32 (S i).a) ∧ w.cell? ⟨b, off + i * 7 + 4, none⟩ = some (.int .u32 (S i).b) ∧ w.cell? ⟨b, off + i * 7 + 5, none⟩ = some (.int .u32 (S i).c) ∧ w.cell? ⟨b, off + i * 7 + 6, none⟩ = some (.slice (S i).la (S i).ln (S i).lc)
  ok : ∀ i, i < n → StOk w (S i)
theorem StRow.at {w : World} {a : Option Addr} {n : Nat} {S : Nat → StV} (h : StRow w a n S) {i : Nat} (hi : i < n) : ∃ b off, a = some ⟨b, off, none⟩ ∧ b < w.heap.size ∧ w.cell? ⟨b, off + i * 7, none⟩ = some (.int .i64 (S i).what) ∧ w.cell? ⟨b, off + i * 7 + 1, none⟩ = some (.string (S i).name) ∧ w.cell? ⟨b, off + i * 7 + 2, none⟩ = some (.int .i64 (S i).n) ∧ w.cell? ⟨b, off + i * 7 + 3, none⟩ = some (.int .u32 (S i).a) ∧ w.cell? ⟨b, off + i * 7 + 4, none⟩ = some (.int .u32 (S i).b) ∧ w.cell? ⟨b, off + i * 7 + 5, none⟩ = some (.int .u32 (S i).c) ∧ w.cell? ⟨b, off + i * 7 + 6, none⟩ = some (.slice (S i).la (S i).ln (S i).lc) := by
  rcases h.cells with h0 | ⟨b, off, e, hb, hc⟩
  · omega
  · exact ⟨b, off, e, hb, hc i hi⟩

theorem AtN.copy {w0 w : World} {B C : Nat} {q : NPl} {N : Nt} (h : AtN w0 B C w q N) {rest : List Int} (hg : Good N rest) (hS : Small N) :
    Calls Tryz.prog 23 #[.pointer (some ⟨B, 0, none⟩)] w fun e w' => ∃ q2 : NPl, e = .returned (.pointer (some ⟨q2.b, 0, none⟩)) ∧ NetIs w' q2 N ∧ Below w.heap.size w w' ∧ ∀ k, q2.has k → w.heap.size ≤ k := by
  have := NCopy_any h.is hg (by have := hS.g; omega) (by have := hS.ins; omega) (by have := hS.regs; omega) (by have := hS.outs; omega)
  rw [h.b] at this
  exact this
/-- A step, and what is beside. -/
theorem AtN.does {w0 w : World} {B C : Nat} {q : NPl} {N : Nt} (h : AtN w0 B C w q N) {rest : List Int} (hg : Good N rest) (hS : Small N) {s : StV} (hs : StOk w s) {N' : Nt} {ls : List Int} {r : Int} (hd : doesN N s = (N', ls, r)) :
    Calls Tryz.prog 40 #[.pointer (some ⟨B, 0, none⟩), .agg #[.int .i64 s.what, .string s.name, .int .i64 s.n, .int .u32 s.a, .int .u32 s.b, .int .u32 s.c, .slice s.la s.ln s.lc]] w fun e w' => ∃ (a : Option Addr) (c : Nat) (q' : NPl), e = .returned (.tuple #[.slice a ls.length c, .int .i64 r]) ∧ LRow w' a ls.length c ls ∧ AtN w0 B C w' q' N' ∧ Kept q.has w w' ∧ NoLits w q.has := by
  have := Does_any w q N rest s h.is hg hS hs trivial
  rw [hd, h.b] at this
  exact this.mono fun _ w' ⟨a, c, he, hl, q', hn⟩ => ⟨a, c, q', he, hl, h.next hn, hn.kept, h.is.noLits⟩
theorem upto0 (F H : Bool) : Upto ⟨newG F H, sTop, [], [], []⟩ 0 := ⟨by simp [newG], by simp, by simp, by simp⟩
theorem neq0 {r : Int} (h : ¬ r = 0) : (r != 0) = true := by simpa using h
theorem neq1 {r : Int} (h : r = 0) : (r != 0) = false := by simpa using h
theorem AtN.nodes {w0 w : World} {B C : Nat} {q : NPl} {N : Nt} (h : AtN w0 B C w q N) (h0 : 0 < N.g.nodes.length) :
    Calls Tryz.prog 21 #[.pointer (some ⟨C, 0, none⟩)] w fun e w' => e = .returned (.int .i64 N.g.nodes.length) ∧ w = w' := by
  have := nodes_any h.is.g.lay h0
  rw [show q.g.b = C from h.gb] at this
  exact this
theorem AtN.inputs {w0 w : World} {B C : Nat} {q : NPl} {N : Nt} (h : AtN w0 B C w q N) (hW : Wf N.g) (hm : N.g.nodes.length ≤ 200000) :
    Calls Tryz.prog 125 #[.pointer (some ⟨C, 0, none⟩)] w fun e w' => ∃ (a : Option Addr) (c : Nat), e = .returned (.slice a N.g.inputs.length c) ∧ w'.ownsRow w.heap.size 3 1 (.slice a N.g.inputs.length c) N.g.inputs.length (N.g.inputs.map (Value.int .i64)) ∧ Below w.heap.size w w' := by
  have := InputsOf_any h.is.g hW hm
  rw [show q.g.b = C from h.gb] at this
  exact this
theorem of_even (k : Nat) (hk : k ≤ 200000) (w : World) : Calls Tryz.prog 188 #[.int .i64 (k : Int), .bool false] w fun e w' => e = .returned (.tuple #[.int .u32 (2 * (k : Int)), .int .i64 0]) ∧ w = w' := by
  have h := of_any k false (by omega) w
  obtain ⟨e1, e2⟩ := of_val (n := k) false (by omega) (by omega)
  rw [show ofV k false = 2 * (k : Int) from e1.symm, e2] at h
  exact h
end Go.Proofs.YtafoohdndlhbnaaGreatDoor
end

section
namespace Go.Proofs.YtafoohdndlhbnaaGreatDoor
open Go.RowKit Go.ChangeShapes Go.WideShapes Go.ChangeAt Go.Joins
set_option maxRecDepth 100000

section
variable {H : Type} {enc : TypeId × Value → H} {w : World} {base : Nat} {held : Bool}

theorem slice_in {fuel : Nat} {v : Value} {y : DataW H × List MemPlace} {t e : Nat} {k : IntKind} (hs : Tryz.prog.underlying t = some (.slice e)) (he : Tryz.prog.underlying e = some (.int k)) (hc : Tryz.prog.cellsOf e = 1) (h : DataW.trod enc Tryz.prog w base (fun _ => true) held fuel t [v] = some y) :
    ∃ a n c zs, v = .slice a n c ∧ IsRow k w a n c zs := by
  rcases open_ints hs he hc h with ⟨e1, _⟩ | ⟨x, l, c, zs, e1, _, hl, hm, hz, _, hcell, hwz⟩
  · exact ⟨none, 0, 0, [], by simpa using e1, .inl ⟨rfl, rfl, rfl, rfl⟩⟩
  · exact ⟨some x, l, c, zs, by simpa using e1, .inr ⟨x, rfl, hl, hm, by simpa using hz, hcell, hwz⟩⟩
theorem lits_mem {w : World} {a : Option Addr} {len cap : Nat} {zs : List Int} (h : IsRow .u32 w a len cap zs) (m : Nat) : ∀ x ∈ zs.take m, IsLit x := fun x hx => by
  obtain ⟨i, hi, rfl⟩ := List.getElem_of_mem hx
  have := lits_in h m i
  rw [List.getD_eq_getElem?_getD, List.getElem?_eq_getElem hi] at this
  exact this
def st0 : StV := ⟨9, ByteArray.empty, 0, 0, 0, 0, none, 0, 0, []⟩
instance : Inhabited StV := ⟨st0⟩
theorem steps_at {fuel : Nat} {v : Value} {y : DataW H × List MemPlace} (hf : DataW.trod enc Tryz.prog w base (fun _ => true) held fuel 24 [v] = some y) : ∃ a n c S, v = .slice a n c ∧ StRow w a n S := by
  have ce : Tryz.prog.cellsOf 102 = 7 := by kernel_rfl
  have ci : Tryz.prog.cellsOf 3 = 1 := by kernel_rfl
  have cu : Tryz.prog.cellsOf 65 = 1 := by kernel_rfl
  have cs' : Tryz.prog.cellsOf 9 = 1 := by kernel_rfl
  have cl : Tryz.prog.cellsOf 100 = 1 := by kernel_rfl
  rcases Go.Deep.open_slice Tryz.underlying24 hf with ⟨e1, _⟩ | ⟨x, len, cap, m, k, D, P, e1, -, hl, hm, hmm, -, hx⟩
  · simp at e1
    exact ⟨none, 0, 0, fun _ => st0, e1, by omega, .inl rfl, fun i hi => by omega⟩
  · simp at e1
    simp at hmm
    subst hmm
    have each : ∀ i, i < m → ∃ s : StV, w.cell? (x.add (i * 7)) = some (.int .i64 s.what) ∧ w.cell? (x.add (i * 7 + 1)) = some (.string s.name) ∧ w.cell? (x.add (i * 7 + 2)) = some (.int .i64 s.n) ∧ w.cell? (x.add (i * 7 + 3)) = some (.int .u32 s.a) ∧ w.cell? (x.add (i * 7 + 4)) = some (.int .u32 s.b) ∧ w.cell? (x.add (i * 7 + 5)) = some (.int .u32 s.c) ∧ w.cell? (x.add (i * 7 + 6)) = some (.slice s.la s.ln s.lc) ∧ StOk w s := by
      intro i hi
      obtain ⟨cs, h1, h2⟩ := hx i hi
      rw [ce] at h1
      obtain ⟨-, hlen, hcell⟩ := World.cells?_some h1
      obtain ⟨xs, q, -, -, -, hxl, hfl⟩ := DataW.trod_struct Tryz.underlying102 h2
      match xs, hxl, cs, hlen with
      | [y0, y1, y2, y3, y4, y5, y6], _, [v0, v1, v2, v3, v4, v5, v6], _ =>
        have g0 := hfl 0 _ rfl
        have g1 := hfl 1 _ rfl
        have g2 := hfl 2 _ rfl
        have g3 := hfl 3 _ rfl
        have g4 := hfl 4 _ rfl
        have g5 := hfl 5 _ rfl
        have g6 := hfl 6 _ rfl
        simp [ci, cu, cs', cl] at g0 g1 g2 g3 g4 g5 g6
        obtain ⟨z0, e0, -, -⟩ := DataW.trod_int Tryz.underlying3 g0
        obtain ⟨z1, e1', -⟩ := DataW.trod_string Tryz.underlying9 g1
        obtain ⟨z2, e2, -, -⟩ := DataW.trod_int Tryz.underlying3 g2
        obtain ⟨z3, e3, -, w3⟩ := DataW.trod_int Tryz.underlying65 g3
        obtain ⟨z4, e4, -, w4⟩ := DataW.trod_int Tryz.underlying65 g4
        obtain ⟨z5, e5, -, w5⟩ := DataW.trod_int Tryz.underlying65 g5
        obtain ⟨a6, n6, c6, zs, e6, hr⟩ := slice_in Tryz.underlying100 Tryz.underlying65 (by kernel_rfl) g6
        simp at e0 e1' e2 e3 e4 e5
        subst e0 e1' e2 e3 e4 e5 e6
        have q0 := hcell 0 (by omega)
        have q1 := hcell 1 (by omega)
        have q2 := hcell 2 (by omega)
        have q3 := hcell 3 (by omega)
        have q4 := hcell 4 (by omega)
        have q5 := hcell 5 (by omega)
        have q6 := hcell 6 (by omega)
        rw [Go.Deep.add_add] at q0 q1 q2 q3 q4 q5 q6
        obtain ⟨hcp, -, hrow⟩ := row_of_in hr
        exact ⟨⟨z0, z1, z2, z3, z4, z5, a6, n6, c6, zs.take n6⟩, by simpa using q0, by simpa using q1, by simpa using q2, by simpa using q3, by simpa using q4, by simpa using q5, by simpa using q6, ⟨hrow, isLit_of w3, isLit_of w4, isLit_of w5, lits_mem hr n6, hcp⟩⟩
    obtain ⟨q, hq⟩ := Go.Deep.choose_lt each
    unfold maxLen at hm
    refine ⟨some x, len, m, fun i => if i < m then q i else st0, by simpa using e1, by omega, ?_, fun i hi => ?_⟩
    · by_cases h0 : len = 0
      · exact .inl h0
      · right
        obtain ⟨b, off, spot⟩ := x
        have hspot : spot = none := by simpa [Addr.add] using World.cell?_spot (hq 0 (by omega)).1
        subst hspot
        refine ⟨b, off, rfl, ?_, fun i hi => ?_⟩
        · have := (hq 0 (by omega)).1
          rw [Go.WideShapes.add_plain] at this
          exact World.block_lt_of_cell? w _ this
        · obtain ⟨c0, c1, c2, c3, c4, c5, c6, -⟩ := hq i (by omega)
          rw [Go.WideShapes.add_plain] at c0 c1 c2 c3 c4 c5 c6
          simp only [if_pos (show i < m by omega)]
          exact ⟨c0, by rw [show off + i * 7 + 1 = off + (i * 7 + 1) by omega]; exact c1, by rw [show off + i * 7 + 2 = off + (i * 7 + 2) by omega]; exact c2, by rw [show off + i * 7 + 3 = off + (i * 7 + 3) by omega]; exact c3, by rw [show off + i * 7 + 4 = off + (i * 7 + 4) by omega]; exact c4, by rw [show off + i * 7 + 5 = off + (i * 7 + 5) by omega]; exact c5, by rw [show off + i * 7 + 6 = off + (i * 7 + 6) by omega]; exact c6⟩
    · simp only [if_pos (show i < m by omega)]
      exact (hq i (by omega)).2.2.2.2.2.2.2
theorem steps_in {a : Option Addr} {n c : Nat} {d : DataW H} {p : List MemPlace} (h : DataW.Trod enc Tryz.prog w base (fun _ => true) held 24 (.slice a n c) d p) : ∃ S, StRow w a n S := by
  obtain ⟨fuel, hf⟩ := h
  obtain ⟨a2, n2, c2, S, e, hS⟩ := steps_at (v := .slice a n c) hf
  cases e
  exact ⟨S, hS⟩
theorem options_in {r : Reach} {b0 : Nat} {v : Value} {d : DataW H} {p : List MemPlace} (hv : Value.okWide Tryz.prog w r b0 23 v) (h : DataW.Trod enc Tryz.prog w base (fun _ => true) held 23 v d p) :
    ∃ F G : Bool, v = .agg #[.bool F, .bool G] := by
  obtain ⟨c0, c1, y0, y1, n, rfl, -, -, h0, h1⟩ := open_agg2 Tryz.underlying23 (by kernel_rfl) (by kernel_rfl) hv h
  obtain ⟨F, e0, -⟩ := DataW.trod_bool Tryz.underlying4 h0
  obtain ⟨G, e1, -⟩ := DataW.trod_bool Tryz.underlying4 h1
  simp at e0 e1
  exact ⟨F, G, by rw [e0, e1]⟩
end
end Go.Proofs.YtafoohdndlhbnaaGreatDoor
end

section
namespace Go.Proofs.YtafoohdndlhbnaaGreatDoor
open Go.RowKit Go.Shelf
set_option maxRecDepth 100000

def layDigits_ren : Go.Shelf.Ren := ⟨fun | 284 => 266 | 129 => 246 | 317 => 271 | 318 => 272 | n => n, fun | 53 => 49 | 3 => 3 | 212 => 353 | 0 => 0 | 4 => 4 | 46 => 166 | 5 => 5 | 9 => 9 | n => n, fun | 17 => 5 | n => n⟩
theorem layDigits : Go.Proofs.LaysM.n284 Tryz.prog layDigits_ren := {
  mixed := by kernel_rfl,
  f129 := Tryz.func246.trans (congrArg some (by kernel_rfl)),
  f284 := Tryz.func266.trans (congrArg some (by kernel_rfl)),
  f317 := Tryz.func271.trans (congrArg some (by kernel_rfl)),
  f318 := Tryz.func272.trans (congrArg some (by kernel_rfl)),
  t0 := Tryz.underlying0,
  a0 := Tryz.isAgg0,
  z0 := Tryz.sizeOf0,
  v0 := Tryz.zeroValue0,
  t3 := Tryz.underlying3,
  a3 := Tryz.isAgg3,
  z3 := Tryz.sizeOf3,
  v3 := Tryz.zeroValue3,
  t4 := Tryz.underlying4,
  a4 := Tryz.isAgg4,
  z4 := Tryz.sizeOf4,
  v4 := Tryz.zeroValue4,
  t5 := Tryz.underlying5,
  a5 := Tryz.isAgg5,
  z5 := Tryz.sizeOf5,
  v5 := Tryz.zeroValue5,
  t9 := Tryz.underlying9,
  a9 := Tryz.isAgg9,
  z9 := Tryz.sizeOf9,
  v9 := Tryz.zeroValue9,
  t46 := Tryz.underlying166,
  a46 := Tryz.isAgg166,
  z46 := Tryz.sizeOf166,
  v46 := Tryz.zeroValue166,
  t53 := Tryz.underlying49,
  a53 := Tryz.isAgg49,
  z53 := Tryz.sizeOf49,
  v53 := Tryz.zeroValue49,
  t212 := Tryz.underlying353,
  a212 := Tryz.isAgg353,
  z212 := Tryz.sizeOf353,
  v212 := Tryz.zeroValue353,
  g17 := by kernel_rfl,
  i0 := by kernel_rfl,
  i3 := by kernel_rfl,
  i4 := by kernel_rfl,
  i5 := by kernel_rfl,
  i9 := by kernel_rfl,
  i46 := by kernel_rfl,
  i53 := by kernel_rfl,
  i212 := by kernel_rfl,
  m17 := by kernel_rfl }

def layBase10_ren : Go.Shelf.Ren := ⟨fun | 285 => 267 | n => n, fun | 37 => 29 | 53 => 49 | 3 => 3 | 4 => 4 | 51 => 65 | 9 => 9 | 5 => 5 | 0 => 0 | n => n, fun | n => n⟩
theorem layBase10 : Go.Proofs.Lays.n285 Tryz.prog layBase10_ren := {
  mixed := by kernel_rfl,
  f285 := Tryz.func267.trans (congrArg some (by kernel_rfl)),
  t0 := Tryz.underlying0,
  a0 := Tryz.isAgg0,
  z0 := Tryz.sizeOf0,
  v0 := Tryz.zeroValue0,
  t3 := Tryz.underlying3,
  a3 := Tryz.isAgg3,
  z3 := Tryz.sizeOf3,
  v3 := Tryz.zeroValue3,
  t4 := Tryz.underlying4,
  a4 := Tryz.isAgg4,
  z4 := Tryz.sizeOf4,
  v4 := Tryz.zeroValue4,
  t5 := Tryz.underlying5,
  a5 := Tryz.isAgg5,
  z5 := Tryz.sizeOf5,
  v5 := Tryz.zeroValue5,
  t9 := Tryz.underlying9,
  a9 := Tryz.isAgg9,
  z9 := Tryz.sizeOf9,
  v9 := Tryz.zeroValue9,
  t37 := Tryz.underlying29,
  a37 := Tryz.isAgg29,
  z37 := Tryz.sizeOf29,
  v37 := Tryz.zeroValue29,
  t51 := Tryz.underlying65,
  a51 := Tryz.isAgg65,
  z51 := Tryz.sizeOf65,
  v51 := Tryz.zeroValue65,
  t53 := Tryz.underlying49,
  a53 := Tryz.isAgg49,
  z53 := Tryz.sizeOf49,
  v53 := Tryz.zeroValue49 }

def laySmall_ren : Go.Shelf.Ren := ⟨fun | 283 => 265 | n => n, fun | 3 => 3 | 9 => 9 | 4 => 4 | n => n, fun | n => n⟩
theorem laySmall : Go.Proofs.Lays.n283 Tryz.prog laySmall_ren := {
  mixed := by kernel_rfl,
  f283 := Tryz.func265.trans (congrArg some (by kernel_rfl)),
  t3 := Tryz.underlying3,
  a3 := Tryz.isAgg3,
  z3 := Tryz.sizeOf3,
  v3 := Tryz.zeroValue3,
  t4 := Tryz.underlying4,
  a4 := Tryz.isAgg4,
  z4 := Tryz.sizeOf4,
  v4 := Tryz.zeroValue4,
  t9 := Tryz.underlying9,
  a9 := Tryz.isAgg9,
  z9 := Tryz.sizeOf9,
  v9 := Tryz.zeroValue9 }

def layJoin_ren : Go.Shelf.Ren := ⟨fun | 156 => 186 | 165 => 95 | 166 => 96 | 169 => 98 | 240 => 181 | 241 => 182 | 276 => 225 | 277 => 226 | n => n, fun | 31 => 37 | 9 => 9 | 3 => 3 | 4 => 4 | 0 => 0 | 20 => 20 | 72 => 171 | 76 => 173 | 70 => 169 | 37 => 29 | 75 => 51 | 127 => 261 | 164 => 297 | 5 => 5 | 80 => 175 | n => n, fun | n => n⟩
theorem layJoin : Go.Proofs.Lays.n156 Tryz.prog layJoin_ren := {
  mixed := by kernel_rfl,
  f156 := Tryz.func186.trans (congrArg some (by kernel_rfl)),
  f165 := Tryz.func95.trans (congrArg some (by kernel_rfl)),
  f166 := Tryz.func96.trans (congrArg some (by kernel_rfl)),
  f169 := Tryz.func98.trans (congrArg some (by kernel_rfl)),
  f240 := Tryz.func181.trans (congrArg some (by kernel_rfl)),
  f241 := Tryz.func182.trans (congrArg some (by kernel_rfl)),
  f276 := Tryz.func225.trans (congrArg some (by kernel_rfl)),
  f277 := Tryz.func226.trans (congrArg some (by kernel_rfl)),
  t0 := Tryz.underlying0,
  a0 := Tryz.isAgg0,
  z0 := Tryz.sizeOf0,
  v0 := Tryz.zeroValue0,
  t3 := Tryz.underlying3,
  a3 := Tryz.isAgg3,
  z3 := Tryz.sizeOf3,
  v3 := Tryz.zeroValue3,
  t4 := Tryz.underlying4,
  a4 := Tryz.isAgg4,
  z4 := Tryz.sizeOf4,
  v4 := Tryz.zeroValue4,
  t9 := Tryz.underlying9,
  a9 := Tryz.isAgg9,
  z9 := Tryz.sizeOf9,
  v9 := Tryz.zeroValue9,
  t20 := Tryz.underlying20,
  a20 := Tryz.isAgg20,
  z20 := Tryz.sizeOf20,
  v20 := Tryz.zeroValue20,
  t31 := Tryz.underlying37,
  a31 := Tryz.isAgg37,
  z31 := Tryz.sizeOf37,
  v31 := Tryz.zeroValue37,
  t37 := Tryz.underlying29,
  a37 := Tryz.isAgg29,
  z37 := Tryz.sizeOf29,
  v37 := Tryz.zeroValue29,
  t70 := Tryz.underlying169,
  a70 := Tryz.isAgg169,
  z70 := Tryz.sizeOf169,
  v70 := Tryz.zeroValue169,
  t72 := Tryz.underlying171,
  a72 := Tryz.isAgg171,
  z72 := Tryz.sizeOf171,
  v72 := Tryz.zeroValue171,
  t75 := Tryz.underlying51,
  a75 := Tryz.isAgg51,
  z75 := Tryz.sizeOf51,
  v75 := Tryz.zeroValue51,
  t76 := Tryz.underlying173,
  a76 := Tryz.isAgg173,
  z76 := Tryz.sizeOf173,
  v76 := Tryz.zeroValue173,
  t127 := Tryz.underlying261,
  a127 := Tryz.isAgg261,
  z127 := Tryz.sizeOf261,
  v127 := Tryz.zeroValue261,
  t164 := Tryz.underlying297,
  a164 := Tryz.isAgg297,
  z164 := Tryz.sizeOf297,
  v164 := Tryz.zeroValue297 }

end Go.Proofs.YtafoohdndlhbnaaGreatDoor
end

section
namespace Go.Proofs.YtafoohdndlhbnaaGreatDoor
open Go.RowKit Go.Maps Bits
set_option maxRecDepth 100000

/-- Bytes as cells. -/
def bys (t : List UInt8) : List Value := t.map fun b => Value.int .u8 (b.toNat : Int)
theorem bys_len (t : List UInt8) : (bys t).length = t.length := by simp [bys]
theorem bys_app (s t : List UInt8) : bys (s ++ t) = bys s ++ bys t := by simp [bys]
theorem bys_one (t : List UInt8) : ∀ u ∈ bys t, u.oneCell' = true := by
  intro u hu; simp [bys] at hu; obtain ⟨b, -, rfl⟩ := hu; rfl
theorem strCells_bys (s : ByteArray) : Lib.strCells s = bys s.data.toList := rfl
/-- A text that a call has made. -/
def TX (w : World) (base : Nat) (v : Value) (t : List UInt8) : Prop := w.ownsRow base 5 1 v t.length (bys t)
theorem TX.step {w w' : World} {base : Nat} {v : Value} {t : List UInt8} (h : TX w base v t) (hb : Below w.heap.size w w') : TX w' base v t := own_below h hb

theorem info_u8t : (Tryz.prog.info? 5).map (fun i => (i.zero, i.size, i.bytes)) = some (some (.int .u8 0), 1, 1) := by kernel_rfl
end Go.Proofs.YtafoohdndlhbnaaGreatDoor
end

section
namespace Go.Proofs.YtafoohdndlhbnaaGreatDoor
open Go.RowKit Go.Maps Bits Go.Sort
set_option maxRecDepth 100000

theorem joinX : Builder.Extra Tryz.prog layJoin_ren := {
  sizeBuilder := by kernel_rfl,
  liesBuilder := by kernel_rfl,
  t5 := Tryz.underlying5,
  a5 := Tryz.isAgg5,
  z5 := Tryz.sizeOf5,
  v5 := Tryz.zeroValue5,
  infoByte := by kernel_rfl,
  cellsByte := by kernel_rfl,
  sizeByte := by kernel_rfl,
  neB5 := by decide }
/-- strings.Join of rows of words that lie there, some or none. -/
theorem join_any {w : World} {bk o c : Nat} (xs : List ByteArray) (sep : ByteArray) (hcells : ∀ (j : Nat) x, xs[j]? = some x → w.cell? ⟨bk, o + j, none⟩ = some (.string x)) (hbk : bk < w.heap.size) (hN : xs.length ≤ 100000) (hcap : xs.length ≤ c)
    (hlen : (Lib.join (xs.map (·.data.toList)) sep.data.toList).length ≤ 140737488355328) :
    Calls Tryz.prog 186 #[.slice (some ⟨bk, o, none⟩) xs.length c, .string sep] w fun e w' => e = .returned (.string ⟨(Lib.join (xs.map (·.data.toList)) sep.data.toList).toArray⟩) ∧ Below w.heap.size w w' :=
  Any.strings_Join layJoin joinX bk o c xs sep w hcells hbk (by omega) hcap hlen
end Go.Proofs.YtafoohdndlhbnaaGreatDoor
end

section
namespace Go.Proofs.YtafoohdndlhbnaaGreatDoor
open Go.RowKit Go.Maps Bits Go.Sort
set_option maxRecDepth 100000

/-- What the table of powers of ten must hold. -/
def PW (w : World) : Prop := Lib.TabIs Tryz.prog w "internal/strconv.uint64pow10" .u64 Lib.pow10Tab
theorem gPow : Tryz.prog.globalNamed "internal/strconv.uint64pow10" = some 5 := by kernel_rfl
theorem dec_small {w : World} (i : Nat) (h : i < 100) : Calls Tryz.prog 265 #[.int .i64 i] w fun e w' => e = .returned (.string ⟨(Lib.decDigits i).toArray⟩) ∧ w' = w := Any.internal_strconv_small laySmall i h w
theorem dec_many {w : World} (u : Nat) (h1 : 1 ≤ u) (h2 : u < 18446744073709551616) (ht : PW w) : Calls Tryz.prog 266 #[.int .u64 u] w fun e w' => e = .returned (.int .i64 (Lib.nDigits u)) ∧ w' = w := Any.internal_strconv_numDigits layDigits u h1 h2 w ht

theorem holds0 (w : World) (T : TypeId) (nd : Nat) (hs : nd ≤ 24) : Holds (fun (b : UInt8) => Value.int .u8 (b.toNat : Int)) (w.alloc (.cells Lib.zeros24 T)) w.heap.size 0 (Array.replicate nd (0 : UInt8)) := fun j hj => by
  have hj' : j < nd := by simpa using hj
  refine ⟨?_, World.frozen?_alloc_new _ _ _ _⟩
  rw [World.cell?_alloc_new, Lib.zeros24_at _ (by omega), getElem!_pos _ j hj]
  simp
theorem drews_below {W : World} (k : Nat) : Below W.heap.size W (W.drewN k) := ⟨rfl, rfl, rfl, by simp, fun j _ => by simp⟩
theorem put_below {W : World} (b off k : Nat) (dk : Array UInt8) (hb : b ≤ W.heap.size) : Below b W ((putRow (fun (x : UInt8) => Value.int .u8 (x.toNat : Int)) W b off dk).drewN k) := by
  have h : Below b W (putRow (fun (x : UInt8) => Value.int .u8 (x.toNat : Int)) W b off dk) := ⟨rfl, rfl, rfl, by simp [putRow, mapBlock], fun j hj => by
    show (W.heap.modify b _)[j]? = _
    rw [Array.getElem?_modify, if_neg (by omega)]⟩
  exact h.trans ((drews_below _).mono (by simpa [putRow, mapBlock] using hb))
set_option maxHeartbeats 4000000 in
theorem fmt_any {w : World} (u : Nat) (hu : u < 18446744073709551616) (ht : PW w) :
    Calls Tryz.prog 254 #[.int .u64 u, .int .i64 10] w fun e w' => e = .returned (.string ⟨(Lib.decDigits u).toArray⟩) ∧ Below w.heap.size w w' := by
  by_cases h : u < 100
  · have hs := Lib.hid (dec_small (w := w) u h)
    have hlt : decide ((u : Int) < 100) = true := by simp; omega
    have hw : IntKind.i64.wrap (u : Int) = (u : Int) := by unfold IntKind.wrap; simp [IntKind.signed, IntKind.bits]; omega
    go_enter Tryz.func254, Tryz.ntmps254
    go_wp2_with (go_at_call 265; (with_reducible refine hs.out.mono ?_); rintro e w2 ⟨rfl, rfl⟩)
    go_ret
    exact ⟨rfl, Below.refl _ _⟩
  · have hlt : decide ((u : Int) < 100) = false := by simp; omega
    have hu1 : 1 ≤ u := by omega
    have hnd : Lib.nDigits u ≤ 20 := by have := Lib.numDigits_eq u hu1 hu; split at this <;> omega
    have hH0 := holds0 w 344 (Lib.nDigits u) (by omega)
    have hfmt := Any.internal_strconv_formatBase10 layBase10 w.heap.size 0 24 u (Array.replicate (Lib.nDigits u) 0) (w.alloc (.cells Lib.zeros24 344)) hH0 (by rw [Array.size_replicate]; exact Lib.lt_pow_nDigits u) hu (by rw [Array.size_replicate]; omega)
    rw [Array.size_replicate] at hfmt
    have hfmt := Lib.hid (show Calls Tryz.prog 267 #[.slice (some ⟨w.heap.size, 0, none⟩) (Lib.nDigits u) 24, .int .u64 u] (w.alloc (.cells Lib.zeros24 344)) _ from hfmt)
    have HH0 := Lib.hid hH0
    have hdg := Lib.hid (dec_many (w := w.alloc (.cells Lib.zeros24 344)) u hu1 hu (Lib.tabIs_alloc ht _))
    clear hH0
    go_enter Tryz.func254, Tryz.ntmps254
    go_upto_region 5 with fail
    change Code.wp _ _ _ _ (w.alloc (.cells Lib.zeros24 344))
    have hb0 := Lib.hid ((Below.refl w.heap.size w).alloc (Nat.le_refl _) (.cells Lib.zeros24 344))
    generalize hwz : w.alloc (.cells Lib.zeros24 344) = wz at *
    have hnd0 : (0 : Int) ≤ (Lib.nDigits u : Int) := by omega
    have hndl : ((Lib.nDigits u : Nat) : Int) ≤ 24 := by omega
    go_upto_region 6 with (go_at_call 266; (with_reducible refine hdg.out.mono ?_); rintro e w2 ⟨rfl, rfl⟩)
    go_upto_region 7 with (go_at_call 267; (with_reducible refine hfmt.out.mono ?_); rintro e w3 ⟨rfl, k, v', dk, hw3, hF⟩; have hw3H := Lib.hid hw3; clear hw3)
    have hcv : (convert 29 9 (.slice (some ⟨w.heap.size, 0, none⟩) (Lib.nDigits u) 24)).run Tryz.prog w3 = .ok (.string ⟨(Lib.decDigits u).toArray⟩) w3 := by
      have h := run_convert_bytes_back (P := Tryz.prog) w3 29 9 5 ⟨w.heap.size, 0, none⟩ 24 (Lib.decDigits u) Tryz.underlying29 Tryz.underlying5 Tryz.underlying9 (fun j hj => by
        rw [hw3H.out, Lib.row_is_numeral hF j hj, Lib.add_plain, World.cell?_drewN]
        exact cell?_putRow (fun (b : UInt8) => Value.int .u8 (b.toNat : Int)) _ w.heap.size 0 _ dk HH0.out (by rw [hF.size, Array.size_replicate]) j (by rw [hF.size]; rw [Lib.decDigits_length] at hj; exact hj))
      rw [Lib.decDigits_length] at h
      exact h
    have hb3 : Below w.heap.size w w3 := by
      rw [hw3H.out]
      exact hb0.out.trans (put_below _ _ _ _ hb0.out.size)
    clear hw3H hF hfmt hwz
    go_wp2
    go_ret
    exact ⟨rfl, hb3⟩
end Go.Proofs.YtafoohdndlhbnaaGreatDoor
end

section
namespace Go.Proofs.YtafoohdndlhbnaaGreatDoor
open Go.RowKit Go.Maps Bits
set_option maxRecDepth 100000

theorem PW.step {w w' : World} (h : PW w) (hb : Below w.heap.size w w') : PW w' := by
  unfold PW Lib.TabIs World.var? at *
  rw [gPow] at h ⊢
  simp only [Option.bind_some] at h ⊢
  have hlt : 5 < w.heap.size := by
    rcases Nat.lt_or_ge 5 w.heap.size with h' | h'
    · exact h'
    · rw [Array.getElem?_eq_none h'] at h; simp at h
  rw [hb.block _ hlt]
  exact h
/-- A row of values that is being filled. -/
def fillV (f : Nat → Value) (z : Value) (k j : Nat) : List Value := (List.range k).map (fun i => if i < j then f i else z)
theorem fillV_set (f : Nat → Value) (z : Value) (k j : Nat) : (fillV f z k j).set j (f j) = fillV f z k (j + 1) := by
  apply List.ext_getElem
  · simp [fillV]
  · intro i h1 h2
    simp [fillV, List.getElem_set] at *
    by_cases e : j = i
    · subst e; simp
    · simp only [if_neg e]
      by_cases e2 : i < j
      · rw [if_pos e2, if_pos (by omega)]
      · rw [if_neg e2, if_neg (by omega)]
theorem fillV_full (f : Nat → Value) (z : Value) (k : Nat) : fillV f z k k = (List.range k).map f := by
  unfold fillV
  apply List.map_congr_left
  intro i hi
  rw [if_pos (by simpa using hi)]
theorem fillV_zero (f : Nat → Value) (s : ByteArray) (k : Nat) : (madeCells (Value.string s).cells (k * 1)).toList = fillV f (.string s) k 0 := by
  apply List.ext_getElem
  · simp [madeCells, fillV, Value.cells]
  · intro i h1 h2; simp [madeCells, fillV, Value.cells, Nat.mod_one]
theorem fillV_put {w : World} {base T k b j : Nat} {f : Nat → Value} {z : Value} (ho : w.ownsRow base T 1 (.slice (some ⟨b, 0, none⟩) k k) k (fillV f z k j)) (hj : j < k) :
    (∃ u, w.cell? ⟨b, j, none⟩ = some u) ∧ w.frozen? ⟨b, j, none⟩ = false ∧ (w.setCell ⟨b, j, none⟩ (f j)).ownsRow base T 1 (.slice (some ⟨b, 0, none⟩) k k) k (fillV f z k (j + 1)) ∧ Below base w (w.setCell ⟨b, j, none⟩ (f j)) := by
  have hb := own_ge ho b rfl
  refine ⟨own_some ho hj, ho.frozenAt j, ?_, (Below.refl _ _).setCell (p := ⟨b, j, none⟩) hb _⟩
  rw [← fillV_set]
  exact (ho.stored j _).1
/-- A number to the base 10. -/
def decS (x : Int) : ByteArray := ⟨(Lib.decDigits x.toNat).toArray⟩
theorem info_strt : (Tryz.prog.info? 9).map (fun i => (i.zero, i.size, i.bytes)) = some (some (.string ByteArray.empty), 1, 16) := by kernel_rfl
theorem fmt10_any {w : World} (x : Int) (h0 : 0 ≤ x) (h1 : x < 18446744073709551616) (ht : PW w) :
    Calls Tryz.prog 230 #[.int .u64 x, .int .i64 10] w fun e w' => e = .returned (.string (decS x)) ∧ Below w.heap.size w w' := by
  obtain ⟨u, rfl⟩ : ∃ u : Nat, x = u := ⟨x.toNat, by omega⟩
  have hf := Lib.hid (fmt_any (w := w) u (by omega) ht)
  go_enter Tryz.func230, Tryz.ntmps230
  go_wp2_with (go_at_call 254; (with_reducible refine hf.out.mono ?_); rintro e w2 ⟨rfl, hb⟩)
  go_ret
  exact ⟨rfl, hb⟩
set_option maxHeartbeats 4000000 in
theorem numbers10_any {w : World} {a : Option Addr} {n c : Nat} {l : List Int} (h : Row .u32 w a n l) (hl : ∀ i, 0 ≤ l.getD i 0 ∧ l.getD i 0 < 4294967296) (hn : n ≤ 200000) (ht : PW w) :
    Calls Tryz.prog 187 #[.slice a n c] w fun e w' => ∃ g : Nat, e = .returned (.slice (some ⟨g, 0, none⟩) n n) ∧ w'.ownsRow w.heap.size 9 1 (.slice (some ⟨g, 0, none⟩) n n) n ((List.range n).map (fun i => Value.string (decS (l.getD i 0)))) ∧ Below w.heap.size w w' := by
  obtain ⟨i0, hin, hz0, hz1, hz2⟩ := info_parts info_strt
  have HR := Lib.hid h
  have hT := Lib.hid (fun w3 (hb : Below w.heap.size w w3) => ht.step hb)
  have hl := Lib.hid hl
  obtain ⟨F, hF⟩ : ∃ F : Nat → Value, F = fun i => Value.string (decS (l.getD i 0)) := ⟨_, rfl⟩
  have hFF := Lib.hid (fun i => congrFun hF i)
  rw [← hF]
  have HZ := Lib.hid (fillV_zero F ByteArray.empty n)
  clear h ht hF
  go_enter Tryz.func187, Tryz.ntmps187
  go_upto_region 2 with (at_make; refine wpList_make_full _ rfl _ _ 37 rfl w.heap.size 9 i0 (.string ByteArray.empty) 1 Tryz.underlying37 hin hz0 hz1 .i64 .i64 n n n rfl rfl rfl rfl (by rw [hz2]; omega) (by unfold maxLen; omega) (Nat.le_refl _) ?_; intro w3 hown hg; have hbg := Lib.hid ((Below.refl w.heap.size w).grown hg (Nat.le_refl _) (fun _ h => by cases h)); clear hg)
  go_wp2
  go_loopw [4, 5, 11] (fun _ _ i wr => ∃ j : Nat, j ≤ n ∧ i = .int .i64 j ∧ Hid (wr.ownsRow w.heap.size 9 1 (.slice (some ⟨w.heap.size, 0, none⟩) n n) n (fillV F (.string ByteArray.empty) n j)) ∧ Hid (Below w.heap.size w wr)) (fun _ _ i _ => n - (intOf i).toNat)
  case atStart => exact ⟨0, Nat.zero_le _, rfl, Lib.hid (by rw [← HZ.out]; exact hown), hbg⟩
  case round =>
    clear hown HZ hbg
    obtain ⟨j, hj, rfl, hown, hw⟩ := hrel
    obtain ⟨wj, rfl⟩ : ∃ wj : World, wj = wr := ⟨_, rfl⟩
    by_cases hlj : j < n
    · obtain ⟨b, off, rfl, hb, hcell⟩ := (HR.out.step hw.out).at (by omega)
      have d0 := hcell j hlj
      have hx := hl.out j
      have hFj := hFF.out j
      have hjn : (j : Int) < n := by omega
      have hj0 : (0 : Int) ≤ j := by omega
      clear hcell
      generalize l.getD j 0 = x at *
      have hxw : IntKind.u64.wrap x = x := by rw [IntKind.wrap_u64]; omega
      have hfm := Lib.hid (fmt10_any (w := wj) x hx.1 (by omega) (hT.out wj hw.out))
      have hst := Lib.hid (fun (w5 : World) (hb5 : Below wj.heap.size wj w5) => (by have h := fillV_put (own_below hown.out hb5) hlj; rw [hFj] at h; exact h : (∃ u, w5.cell? ⟨w.heap.size, j, none⟩ = some u) ∧ w5.frozen? ⟨w.heap.size, j, none⟩ = false ∧ (w5.setCell ⟨w.heap.size, j, none⟩ (.string (decS x))).ownsRow w.heap.size 9 1 (.slice (some ⟨w.heap.size, 0, none⟩) n n) n (fillV F (.string ByteArray.empty) n (j + 1)) ∧ Below w.heap.size w5 (w5.setCell ⟨w.heap.size, j, none⟩ (.string (decS x)))))
      clear hFj hx hown
      go_wp2_with (go_at_call 230; (with_reducible refine hfm.out.mono ?_); rintro e w5 ⟨rfl, hb5⟩; obtain ⟨⟨u, hu⟩, hfz, hs1, hs2⟩ := hst.out w5 hb5; have hs1 := Lib.hid hs1; have hw5 := Lib.hid ((nextw hw.out hb5).trans hs2); clear hb5 hs2)
      exact ⟨⟨j + 1, by omega, by go_num, hs1, hw5⟩, by simp [intOf]; omega⟩
    · obtain rfl : j = n := by omega
      rw [fillV_full] at hown
      go_wp2
      go_ret
      exact ⟨_, rfl, hown.out, hw.out⟩
/-- A line: words, a blank between. -/
def spellS (xs : List ByteArray) : ByteArray := ⟨(Lib.join (xs.map (·.data.toList)) [32]).toArray⟩
end Go.Proofs.YtafoohdndlhbnaaGreatDoor
end

section
namespace Go.Proofs.YtafoohdndlhbnaaGreatDoor
open Go.RowKit Go.Maps Bits
theorem own_cap2 {w : World} {base e size n cap : Nat} {a : Option Addr} {xs : List Value} (h : w.ownsRow base e size (.slice a n cap) n xs) : n ≤ cap ∧ cap ≤ maxLen := by
  rcases h.2 with ⟨h0, h1⟩ | ⟨g, c2, cur, hv, -, -, h1, h2, -⟩
  · simp at h0; omega
  · simp at hv; omega
/-- An append of so many as there are, some or none, as a step of a region that draws its order. -/
theorem step_append_any {P : Program} {w : World} {ops : Array Oper} {o : Oper} {a : Act} {K : Act → World → Prop} {Q : Exit → Act → World → Prop} {E : Prop} (hgd : o.guard = none) (s x : Operand) (t : TypeId)
    (ho : o.op = .call { callee := .builtin .append, args := #[s, x], argTypes := #[t, t] })
    (base : Nat) (e : TypeId) (i : TypeInfo) (z : Value) (size bytes : Nat) (ht : P.underlying t = some (.slice e)) (hi : P.info? e = some i) (hz : i.zero = some z)
    (hsize : i.size = size) (hby : i.bytes = bytes) (hzs : z.cells.size = size) (hsz : 0 < size)
    (v : Value) (n : Nat) (xs : List Value) (hs : a.eval s = v) (hown : w.ownsRow base e size v n xs)
    (ad : Addr) (m c : Nat) (news : List Value) (hx : a.eval x = .slice (some ad) m c) (hl : news.length = m * size) (hnews : ∀ j u, news[j]? = some u → w.cell? (ad.add j) = some u) (h1 : ∀ u ∈ news, u.oneCell' = true)
    (h63 : n + m ≤ maxLen) (hbytes : (n + m) * bytes ≤ 140737488355328) (hbase : base ≤ w.heap.size)
    (h : ∀ v' w', w'.ownsRow base e size v' (n + m) (xs ++ news) → w.grownBy w' v.ownBlock → K (a.put o.dst v') w') :
    if Region.wanted o (yielded ops a.tmps) = true then Oper.wp P o a w K Q else E := by
  have hw : Region.wanted o (yielded ops a.tmps) = true := by simp [Region.wanted, hgd]
  rw [if_pos hw]
  obtain ⟨v', w', hr, h2, h3, h4, h5⟩ := run_append_own_at (P := P) w base t o.type e i z size bytes ht hi hz hsize hby hzs hsz v n xs hown ad m c news hl hnews h1 h63 hbytes hbase
  unfold Oper.wp execOp
  simp only [ho, resolve, invoke, builtin, Sem.run_bind, Sem.run_pure, Result.andThen_ok, List.map_toArray, List.map_cons, List.map_nil, hs, hx, hr]
  exact h v' w' h2 h3
end Go.Proofs.YtafoohdndlhbnaaGreatDoor
end

section
namespace Go.Proofs.YtafoohdndlhbnaaGreatDoor
open Go.RowKit Go.Maps Bits
set_option maxRecDepth 100000
set_option linter.unusedVariables false

def strs (xs : List ByteArray) : List Value := xs.map Value.string
theorem strs_one (xs : List ByteArray) : ∀ u ∈ strs xs, u.oneCell' = true := by
  intro u hu; simp [strs] at hu; obtain ⟨b, -, rfl⟩ := hu; rfl
theorem spellS_any {w : World} {b o n c : Nat} (xs : List ByteArray) (hn : xs.length = n) (hc : ∀ (j : Nat) x, xs[j]? = some x → w.cell? ⟨b, o + j, none⟩ = some (.string x)) (hb : b < w.heap.size) (hN : n ≤ 100000) (hcap : n ≤ c)
    (hlen : (Lib.join (xs.map (·.data.toList)) [32]).length ≤ 140737488355328) :
    Calls Tryz.prog 112 #[.slice (some ⟨b, o, none⟩) n c] w fun e w' => e = .returned (.string (spellS xs)) ∧ Below w.heap.size w w' := by
  subst hn
  have hj := Lib.hid (show Calls Tryz.prog 186 #[.slice (some ⟨b, o, none⟩) xs.length c, .string ⟨#[32]⟩] w fun e w' => e = .returned (.string (spellS xs)) ∧ Below w.heap.size w w' from join_any xs ⟨#[32]⟩ hc hb hN hcap hlen)
  clear hc hlen
  generalize xs.length = n at *
  go_enter Tryz.func112, Tryz.ntmps112
  go_wp2_with (go_at_call 186; (with_reducible refine hj.out.mono ?_); rintro e w2 ⟨rfl, hb2⟩)
  go_ret
  exact ⟨rfl, hb2⟩
theorem own_pair (W : World) (B T : Nat) (x y : Value) (hB : B ≤ W.heap.size) : (W.alloc (.cells #[x, y] T)).ownsRow B T 1 (.slice (some ⟨W.heap.size, 0, none⟩) 2 2) 2 [x, y] :=
  ⟨rfl, .inr ⟨W.heap.size, 2, #[x, y], rfl, hB, heap_alloc_new _ _, by decide, by decide, rfl, rfl⟩⟩
theorem tail_len : ∀ (r : List (List UInt8)) (M : Nat), (∀ x ∈ r, x.length ≤ M) → (Lib.joinTail [32] r).length ≤ (M + 1) * r.length := by
  intro r
  induction r with
  | nil => intro M _; simp [Lib.joinTail]
  | cons x r ih =>
    intro M h
    have h1 := ih M (fun y hy => h y (by simp [hy]))
    have h2 := h x (by simp)
    have e : (Lib.joinTail [32] (x :: r)).length = 1 + x.length + (Lib.joinTail [32] r).length := by simp [Lib.joinTail]; omega
    rw [e, List.length_cons, Nat.mul_add]
    omega
theorem join_len (xs : List (List UInt8)) (M : Nat) (h : ∀ x ∈ xs, x.length ≤ M) : (Lib.join xs [32]).length ≤ (M + 1) * xs.length := by
  cases xs with
  | nil => simp [Lib.join_nil]
  | cons x r =>
    have h1 := tail_len r M (fun y hy => h y (by simp [hy]))
    have h2 := h x (by simp)
    rw [Lib.join_cons, List.length_append, List.length_cons, Nat.mul_add]
    omega
theorem decS_len (x : Int) (h0 : 0 ≤ x) (h1 : x < 18446744073709551616) : (decS x).data.toList.length ≤ 1000 := by
  obtain ⟨u, rfl⟩ : ∃ u : Nat, x = u := ⟨x.toNat, by omega⟩
  show ((Lib.decDigits u).toArray.toList).length ≤ 1000
  rw [List.toList_toArray, Lib.decDigits_length]
  by_cases hu : 1 ≤ u
  · have := Lib.numDigits_eq u hu (by omega)
    split at this <;> omega
  · obtain rfl : u = 0 := by omega
    unfold Lib.nDigits
    simp
theorem vals_at {W : World} {B T g n : Nat} {xs : List Value} (h : W.ownsRow B T 1 (.slice (some ⟨g, 0, none⟩) n n) n xs) : ∀ j u, xs[j]? = some u → W.cell? ((⟨g, 0, none⟩ : Addr).add j) = some u := by
  intro j u hu
  have hl : xs.length = n := by have := h.1; omega
  have hj : j < n := by have := (List.getElem?_eq_some_iff.1 hu).1; omega
  rw [show (⟨g, 0, none⟩ : Addr).add j = ⟨g, j, none⟩ by simp [Addr.add]; omega, h.cellAt (j := j) (by omega)]
  exact hu
set_option maxHeartbeats 4000000 in
theorem ofBus_any {w : World} {la : Option Addr} {n lc : Nat} {l : List Int} (s nm : ByteArray) (h : Row .u32 w la n l) (hl : ∀ i, 0 ≤ l.getD i 0 ∧ l.getD i 0 < 4294967296) (hn : n ≤ 90000) (ht : PW w) (hs : s.size ≤ 1000) (hnm : nm.size ≤ 1000) :
    Calls Tryz.prog 113 #[.string s, .agg #[.string nm, .slice la n lc]] w fun e w' => e = .returned (.string (spellS ([s, nm] ++ (List.range n).map (fun i => decS (l.getD i 0))))) ∧ Below w.heap.size w w' := by
  obtain ⟨i0, hin, hz0, hz1, hz2⟩ := info_parts info_strt
  have hbox : ∀ x, x = w.alloc (.cells #[.string nm, .slice la n lc] 71) → Below w.heap.size w x ∧ w.heap.size < x.heap.size ∧ x.cell? ⟨w.heap.size, 0, none⟩ = some (.string nm) ∧ x.cell? ⟨w.heap.size, 1, none⟩ = some (.slice la n lc) := by
    rintro x rfl
    exact ⟨(Below.refl _ _).alloc (Nat.le_refl _) _, by simp, by simp [go_sem], by simp [go_sem]⟩
  have hnum := Lib.hid (fun w3 (hb : Below w.heap.size w w3) => numbers10_any (w := w3) (c := lc) (h.step hb) hl (by omega) (ht.step hb))
  have hl := Lib.hid hl
  clear h ht
  go_enter Tryz.func113, Tryz.ntmps113
  go_upto_region 1 with fail
  obtain ⟨hbx, hlx, c0, c1⟩ := hbox _ rfl
  have hbx := Lib.hid hbx
  clear hbox
  generalize w.alloc (.cells #[.string nm, .slice la n lc] 71) = wa at *
  go_cut [5] (fun s5 wx => ∃ (g cap : Nat), s5 = .slice (some ⟨g, 0, none⟩) (2 + n) cap ∧ Hid (wx.ownsRow w.heap.size 9 1 (.slice (some ⟨g, 0, none⟩) (2 + n) cap) (2 + n) ([.string s, .string nm] ++ (List.range n).map (fun i => Value.string (decS (l.getD i 0))))) ∧ Hid (Below w.heap.size w wx))
  case first =>
    go_region_law (first
      | (go_simp; go_at_call 187; (with_reducible refine (hnum.out _ (by first | exact hbx.out.drew | exact (hbx.out.alloc hbx.out.size _).drew)).mono ?_); rintro e w5 ⟨g5, rfl, ho5, hb5⟩; have hwa5 := (by first | exact nextw (Below.refl wa.heap.size wa).drew hb5 | exact nextw ((Below.refl wa.heap.size wa).alloc (Nat.le_refl _) _).drew hb5 : Below wa.heap.size wa w5); have c0' := stepc hwa5 hlx c0; have c1' := stepc hwa5 hlx c1; have hwa5 := Lib.hid hwa5; have hc5 := Lib.hid (fun (W : World) (hW : Below w5.heap.size w5 W) => vals_at (own_below ho5 hW)); have hB5 := Lib.hid (by first | exact nextw hbx.out.drew hb5 | exact nextw (hbx.out.alloc hbx.out.size _).drew hb5 : Below w.heap.size w w5); (first | (have hp5 := Lib.hid (own_below (own_below (own_pair wa w.heap.size 9 (.string s) (.string nm) hbx.out.size) (Below.refl _ _).drew) hb5)) | (have hp5 := Lib.hid (own_pair w5 w.heap.size 9 (.string s) (.string nm) hB5.out.size))); clear ho5 hb5)
      | (refine step_append_any (by rfl) (.tmp 9) (.tmp 12) _ (by rfl) w.heap.size 9 i0 (.string ByteArray.empty) 1 16 Tryz.underlying37 hin hz0 hz1 hz2 rfl (by decide) _ 2 [.string s, .string nm] (by rfl) hp5.out ⟨g5, 0, none⟩ n _ ((List.range n).map (fun i => Value.string (decS (l.getD i 0)))) (by rfl) (by simp) (hc5.out _ (by first | exact Below.refl _ _ | exact (Below.refl _ _).alloc (Nat.le_refl _) _)) (fun u hu => by simp at hu; obtain ⟨i, -, rfl⟩ := hu; rfl) (by unfold maxLen; omega) (by omega) (by first | exact hB5.out.size | exact (hB5.out.alloc hB5.out.size _).size) ?_; intro v9 w9 own9 hg9; have hB9 := Lib.hid ((by first | exact hB5.out | exact hB5.out.alloc hB5.out.size _ : Below w.heap.size w _).grown hg9 (by first | exact hB5.out.size | exact (hB5.out.alloc hB5.out.size _).size) (fun k e => own_ge hp5.out k e)); obtain ⟨g9, c9, rfl⟩ := own_form own9 (by omega); have own9 := Lib.hid own9; clear hg9))
    all_goals (simp only [List.getElem_toArray, List.getElem_cons_succ, List.getElem_cons_zero, Act.put, List.setIfInBounds_toArray, List.set_cons_succ, List.set_cons_zero])
    all_goals (go_wp2_with fail; go_meet)
    all_goals exact ⟨g9, c9, rfl, own9, hB9⟩
  case rest =>
    obtain ⟨g9, c9, rfl, own9, hB9⟩ := hcut
    obtain ⟨xs, hxs⟩ : ∃ xs, xs = [s, nm] ++ (List.range n).map (fun i => decS (l.getD i 0)) := ⟨_, rfl⟩
    have hsp := Lib.hid (spellS_any (w := wc) (b := g9) (o := 0) (n := 2 + n) (c := c9) xs (by rw [hxs]; simp; omega) (fun j x hx => by
      have hv : ([Value.string s, .string nm] ++ (List.range n).map (fun i => Value.string (decS (l.getD i 0)))) = xs.map Value.string := by rw [hxs]; simp
      have ho := own9.out
      rw [hv] at ho
      have hj : j < 2 + n := by have := (List.getElem?_eq_some_iff.1 hx).1; rw [hxs] at this; simp at this; omega
      rw [Nat.zero_add, ho.cellAt (j := j) (by omega)]
      simp [hx]) (own_lt own9.out) (by omega) (own_cap2 own9.out).1 (by
        have := join_len (xs.map (·.data.toList)) 1000 (by
          intro x hx
          obtain ⟨y, hy, rfl⟩ := List.mem_map.1 hx
          rw [hxs] at hy
          rcases List.mem_append.1 hy with hy | hy
          · simp at hy
            rcases hy with rfl | rfl
            · exact hs
            · exact hnm
          · obtain ⟨i, -, rfl⟩ := List.mem_map.1 hy
            exact decS_len _ (hl.out i).1 (by have := (hl.out i).2; omega))
        rw [List.length_map, show xs.length = 2 + n by rw [hxs]; simp; omega] at this
        have : (1000 + 1) * (2 + n) ≤ 1001 * 100000 := Nat.mul_le_mul_left _ (by omega)
        omega))
    have hxsH := Lib.hid hxs
    clear own9 hxs
    go_wp2_with (go_at_call 112; (with_reducible refine hsp.out.mono ?_); rintro e w8 ⟨rfl, hb8⟩)
    go_ret
    exact ⟨by rw [hxsH.out]; rfl, nextw hB9.out hb8⟩
end Go.Proofs.YtafoohdndlhbnaaGreatDoor
end
