/-
  Steps that came in; a netlist under any steps but Input of the graph itself.
-/
import Derived.Test.YtjdebancpgpebaaNetU
import Derived.Deep.CutBlock
import Derived.Deep.DeepCutAuto
namespace Go.Proofs.Ytjdebancpgpebaa
open Go.RowKit Go.Maps Bits
set_option maxRecDepth 100000

/-- Steps, as a call reads them. -/
structure StRow (w : World) (a : Option Addr) (n : Nat) (S : Nat → StV) : Prop where
  le : n ≤ 9223372036854775807
  cells : n = 0 ∨ ∃ b off, a = some ⟨b, off, none⟩ ∧ b < w.heap.size ∧ ∀ i, i < n → w.cell? ⟨b, off + i * 7, none⟩ = some (.int .i64 (S i).what) ∧ w.cell? ⟨b, off + i * 7 + 1, none⟩ = some (.string (S i).name) ∧ w.cell? ⟨b, off + i * 7 + 2, none⟩ = some (.int .i64 (S i).n) ∧ w.cell? ⟨b, off + i * 7 + 3, none⟩ = some (.int .u32 (S i).a) ∧ w.cell? ⟨b, off + i * 7 + 4, none⟩ = some (.int .u32 (S i).b) ∧ w.cell? ⟨b, off + i * 7 + 5, none⟩ = some (.int .u32 (S i).c) ∧ w.cell? ⟨b, off + i * 7 + 6, none⟩ = some (.slice (S i).la (S i).ln (S i).lc)
  ok : ∀ i, i < n → StOk w (S i)
theorem StRow.at {w : World} {a : Option Addr} {n : Nat} {S : Nat → StV} (h : StRow w a n S) {i : Nat} (hi : i < n) : ∃ b off, a = some ⟨b, off, none⟩ ∧ b < w.heap.size ∧ w.cell? ⟨b, off + i * 7, none⟩ = some (.int .i64 (S i).what) ∧ w.cell? ⟨b, off + i * 7 + 1, none⟩ = some (.string (S i).name) ∧ w.cell? ⟨b, off + i * 7 + 2, none⟩ = some (.int .i64 (S i).n) ∧ w.cell? ⟨b, off + i * 7 + 3, none⟩ = some (.int .u32 (S i).a) ∧ w.cell? ⟨b, off + i * 7 + 4, none⟩ = some (.int .u32 (S i).b) ∧ w.cell? ⟨b, off + i * 7 + 5, none⟩ = some (.int .u32 (S i).c) ∧ w.cell? ⟨b, off + i * 7 + 6, none⟩ = some (.slice (S i).la (S i).ln (S i).lc) := by
  rcases h.cells with h0 | ⟨b, off, e, hb, hc⟩
  · omega
  · exact ⟨b, off, e, hb, hc i hi⟩

theorem AtN.copy {w0 w : World} {B C : Nat} {q : NPl} {N : Nt} (h : AtN w0 B C w q N) {rest : List Int} (hg : Good N rest) (hS : Small N) :
    Calls Try.prog 6 #[.pointer (some ⟨B, 0, none⟩)] w fun e w' => ∃ q2 : NPl, e = .returned (.pointer (some ⟨q2.b, 0, none⟩)) ∧ NetIs w' q2 N ∧ Below w.heap.size w w' ∧ ∀ k, q2.has k → w.heap.size ≤ k := by
  have := NCopy_any h.is hg (by have := hS.g; omega) (by have := hS.ins; omega) (by have := hS.regs; omega) (by have := hS.outs; omega)
  rw [h.b] at this
  exact this
/-- A step, and what is beside. -/
theorem AtN.does {w0 w : World} {B C : Nat} {q : NPl} {N : Nt} (h : AtN w0 B C w q N) {rest : List Int} (hg : Good N rest) (hS : Small N) {s : StV} (hs : StOk w s) {N' : Nt} {ls : List Int} {r : Int} (hd : doesN N s = (N', ls, r)) :
    Calls Try.prog 7 #[.pointer (some ⟨B, 0, none⟩), .agg #[.int .i64 s.what, .string s.name, .int .i64 s.n, .int .u32 s.a, .int .u32 s.b, .int .u32 s.c, .slice s.la s.ln s.lc]] w fun e w' => ∃ (a : Option Addr) (c : Nat) (q' : NPl), e = .returned (.tuple #[.slice a ls.length c, .int .i64 r]) ∧ LRow w' a ls.length c ls ∧ AtN w0 B C w' q' N' ∧ Kept q.has w w' ∧ NoLits w q.has := by
  have := Does_any w q N rest s h.is hg hS hs trivial
  rw [hd, h.b] at this
  exact this.mono fun _ w' ⟨a, c, he, hl, q', hn⟩ => ⟨a, c, q', he, hl, h.next hn, hn.kept, h.is.noLits⟩
theorem AtN.same {w0 w : World} {B C : Nat} {q q2 : NPl} {N : Nt} (h : AtN w0 B C w q N) (h2 : NetIs w q2 N) (h0 : 0 < N.g.nodes.length) :
    Calls Try.prog 8 #[.pointer (some ⟨q2.b, 0, none⟩), .pointer (some ⟨B, 0, none⟩)] w fun e w' => e = .returned (.bool true) ∧ Below w.heap.size w w' := by
  have := nSame_any h2 h.is h0
  rw [h.b] at this
  exact this
theorem upto0 (F H : Bool) : Upto ⟨newG F H, sTop, [], [], []⟩ 0 := ⟨by simp [newG], by simp, by simp, by simp⟩
theorem neq0 {r : Int} (h : ¬ r = 0) : (r != 0) = true := by simpa using h
theorem neq1 {r : Int} (h : r = 0) : (r != 0) = false := by simpa using h
theorem AtN.nodes {w0 w : World} {B C : Nat} {q : NPl} {N : Nt} (h : AtN w0 B C w q N) (h0 : 0 < N.g.nodes.length) :
    Calls Try.prog 13 #[.pointer (some ⟨C, 0, none⟩)] w fun e w' => e = .returned (.int .i64 N.g.nodes.length) ∧ w = w' := by
  have := nodes_any h.is.g.lay h0
  rw [show q.g.b = C from h.gb] at this
  exact this
theorem AtN.inputs {w0 w : World} {B C : Nat} {q : NPl} {N : Nt} (h : AtN w0 B C w q N) (hW : Wf N.g) (hm : N.g.nodes.length ≤ 200000) :
    Calls Try.prog 14 #[.pointer (some ⟨C, 0, none⟩)] w fun e w' => ∃ (a : Option Addr) (c : Nat), e = .returned (.slice a N.g.inputs.length c) ∧ w'.ownsRow w.heap.size 3 1 (.slice a N.g.inputs.length c) N.g.inputs.length (N.g.inputs.map (Value.int .i64)) ∧ Below w.heap.size w w' := by
  have := InputsOf_any h.is.g hW hm
  rw [show q.g.b = C from h.gb] at this
  exact this
theorem of_even (k : Nat) (hk : k ≤ 200000) (w : World) : Calls Try.prog 15 #[.int .i64 (k : Int), .bool false] w fun e w' => e = .returned (.tuple #[.int .u32 (2 * (k : Int)), .int .i64 0]) ∧ w = w' := by
  have h := of_any k false (by omega) w
  obtain ⟨e1, e2⟩ := of_val (n := k) false (by omega) (by omega)
  rw [show ofV k false = 2 * (k : Int) from e1.symm, e2] at h
  exact h
end Go.Proofs.Ytjdebancpgpebaa
