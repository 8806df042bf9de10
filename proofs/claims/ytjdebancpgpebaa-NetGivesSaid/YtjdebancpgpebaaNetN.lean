/-
  Does: a step with a netlist.
-/
import Derived.Test.YtjdebancpgpebaaNetL
namespace Go.Proofs.Ytjdebancpgpebaa
open Go.RowKit Go.Maps Bits
set_option maxRecDepth 100000

/-- A step, as a call reads it. -/
structure StV where
  what : Int
  name : ByteArray
  n : Int
  a : Int
  b : Int
  c : Int
  la : Option Addr
  ln : Nat
  lc : Nat
  zs : List Int
def stVal (s : StV) : Value := .agg #[.int .i64 s.what, .string s.name, .int .i64 s.n, .int .u32 s.a, .int .u32 s.b, .int .u32 s.c, .slice s.la s.ln s.lc]
structure StOk (w : World) (s : StV) : Prop where
  row : Row .u32 w s.la s.ln s.zs
  a : IsLit s.a
  b : IsLit s.b
  c : IsLit s.c
  lits : ∀ x ∈ s.zs, IsLit x
theorem StOk.step {w w' : World} {s : StV} (h : StOk w s) (hb : Below w.heap.size w w') : StOk w' s := ⟨h.row.step hb, h.a, h.b, h.c, h.lits⟩
/-- What a step makes of a netlist. -/
def doesN (N : Nt) (s : StV) : Nt × List Int × Int :=
  if s.what = 0 then addIn N s.name s.n
  else if s.what = 1 then ((addReg N (s.n.tmod 2 != 0)).1, [(addReg N (s.n.tmod 2 != 0)).2], 0)
  else if s.what = 2 then ((setReg N s.a s.b s.c).1, [], (setReg N s.a s.b s.c).2)
  else if s.what = 3 then ((addOut N s.name (s.zs.take 70)).1, [], (addOut N s.name (s.zs.take 70)).2)
  else if s.what = 4 ∨ s.what = 5 ∨ s.what = 6 then ((gateN andG N s.b s.c).1, [(gateN andG N s.b s.c).2.1], (gateN andG N s.b s.c).2.2)
  else if s.what = 7 then ((gateN xorG N s.b s.c).1, [(gateN xorG N s.b s.c).2.1], (gateN xorG N s.b s.c).2.2)
  else if s.what = 8 then ({ N with g := inputG N.g }, [2 * (N.g.nodes.length : Int)], 0)
  else (N, [], 0)
structure Small (N : Nt) : Prop where
  g : N.g.nodes.length ≤ 180000
  ins : N.ins.length ≤ 9000
  regs : N.regs.length ≤ 9000
  outs : N.outs.length ≤ 9000
def DoesQ (q : NPl) (w : World) (r : Nt × List Int × Int) (e : Ending) (w' : World) : Prop :=
  ∃ (a2 : Option Addr) (c2 : Nat), e = .returned (.tuple #[.slice a2 r.2.1.length c2, .int .i64 r.2.2]) ∧ LRow w' a2 r.2.1.length c2 r.2.1 ∧ ∃ q', NStep q w q' w' r.1
theorem nilRow (w : World) : LRow w none 0 0 [] := ⟨rfl, own_nil _ _ _⟩

def Does_call (P : StV → Prop) : Prop := ∀ (w : World) (q : NPl) (N : Nt) (rest : List Int) (s : StV), NetIs w q N → Good N rest → Small N → StOk w s → P s →
    Calls Try.prog 7 #[.pointer (some ⟨q.b, 0, none⟩), stVal s] w (DoesQ q w (doesN N s))

theorem does_0 : Does_call (fun s => s.what = 0) := by
  intro w q N rest s h hg hS hs hw
  obtain ⟨K, nm, n, a, b, c, la, ln, lc, zs⟩ := s
  obtain rfl : K = 0 := hw
  have hb1 : Below w.heap.size w (w.alloc (.cells #[.int .i64 0, .string nm, .int .i64 n, .int .u32 a, .int .u32 b, .int .u32 c, .slice la ln lc] 37)) := (Below.refl _ _).alloc (Nat.le_refl _) _
  have hc := Lib.hid (AddIn_any (h.below hb1) hg.wf (by have := hS.g; omega) (by have := hS.ins; omega) nm n)
  have hf := Lib.hid (fun q' w2 N2 (hn : NStep q (w.alloc (.cells #[.int .i64 0, .string nm, .int .i64 n, .int .u32 a, .int .u32 b, .int .u32 c, .slice la ln lc] 37)) q' w2 N2) => NStep.front h hb1 hn)
  rw [show doesN N ⟨0, nm, n, a, b, c, la, ln, lc, zs⟩ = addIn N nm n from rfl]
  unfold stVal DoesQ
  simp only []
  generalize addIn N nm n = r at *
  clear h hg hS hs
  go_enter Try.func7, Try.ntmps7
  go_wp2_with (go_at_call 27; (with_reducible refine hc.out.mono ?_); rintro e w2 ⟨a2, c2, rfl, hl, q', hn⟩)
  go_ret2
  exact ⟨a2, c2, rfl, hl, q', hf.out _ _ _ hn⟩
theorem does_1 : Does_call (fun s => s.what = 1) := by
  intro w q N rest s h hg hS hs hw
  obtain ⟨K, nm, n, a, b, c, la, ln, lc, zs⟩ := s
  obtain rfl : K = 1 := hw
  have hb1 : Below w.heap.size w (w.alloc (.cells #[.int .i64 1, .string nm, .int .i64 n, .int .u32 a, .int .u32 b, .int .u32 c, .slice la ln lc] 37)) := (Below.refl _ _).alloc (Nat.le_refl _) _
  have h1 := h.below hb1
  have hsg := hS.g
  have hsi := hS.ins
  have hsr := hS.regs
  have hso := hS.outs
  have hf := Lib.hid (fun q' w2 N2 (hn : NStep q (w.alloc (.cells #[.int .i64 1, .string nm, .int .i64 n, .int .u32 a, .int .u32 b, .int .u32 c, .slice la ln lc] 37)) q' w2 N2) => NStep.front h hb1 hn)
  unfold stVal DoesQ
  have hc := Lib.hid (fun i => AddReg_any h1 hg.wf (by omega) (by omega) i)
  have hone := Lib.hid (fun x e w => one_any x e w)
  rw [show doesN N ⟨1, nm, n, a, b, c, la, ln, lc, zs⟩ = ((addReg N (n.tmod 2 != 0)).1, [(addReg N (n.tmod 2 != 0)).2], 0) from rfl]
  simp only []
  rw [show (addReg N (n.tmod 2 != 0)).2 = 2 * (N.g.nodes.length : Int) from rfl]
  generalize 2 * (N.g.nodes.length : Int) = x at *
  clear h h1 hg hS hs hb1
  go_enter Try.func7, Try.ntmps7
  go_wp2_with (first
    | (go_at_call 28; (with_reducible refine (hc.out _).mono ?_); rintro e w2 ⟨rfl, q', hn⟩)
    | (go_at_call 26; (with_reducible refine (hone.out _ _ _).mono ?_); rintro e w3 ⟨g, rfl, hl, hb3⟩))
  go_ret2
  exact ⟨_, _, rfl, hl, q', hf.out _ _ _ (hn.then hb3)⟩
theorem does_2 : Does_call (fun s => s.what = 2) := by
  intro w q N rest s h hg hS hs hw
  obtain ⟨K, nm, n, a, b, c, la, ln, lc, zs⟩ := s
  obtain rfl : K = 2 := hw
  have hb1 : Below w.heap.size w (w.alloc (.cells #[.int .i64 2, .string nm, .int .i64 n, .int .u32 a, .int .u32 b, .int .u32 c, .slice la ln lc] 37)) := (Below.refl _ _).alloc (Nat.le_refl _) _
  have h1 := h.below hb1
  have hsg := hS.g
  have hsi := hS.ins
  have hsr := hS.regs
  have hso := hS.outs
  have hf := Lib.hid (fun q' w2 N2 (hn : NStep q (w.alloc (.cells #[.int .i64 2, .string nm, .int .i64 n, .int .u32 a, .int .u32 b, .int .u32 c, .slice la ln lc] 37)) q' w2 N2) => NStep.front h hb1 hn)
  unfold stVal DoesQ
  have hc := Lib.hid (SetReg_any h1 hg.wf a b c hs.b hs.c)
  rw [show doesN N ⟨2, nm, n, a, b, c, la, ln, lc, zs⟩ = ((setReg N a b c).1, [], (setReg N a b c).2) from rfl]
  simp only []
  generalize setReg N a b c = r at *
  clear h h1 hg hS hs hb1
  go_enter Try.func7, Try.ntmps7
  go_wp2_with (go_at_call 29; (with_reducible refine hc.out.mono ?_); rintro e w2 ⟨rfl, q', hn⟩)
  go_ret2
  exact ⟨none, 0, rfl, nilRow _, q', hf.out _ _ _ hn⟩
theorem does_8 : Does_call (fun s => s.what = 8) := by
  intro w q N rest s h hg hS hs hw
  obtain ⟨K, nm, n, a, b, c, la, ln, lc, zs⟩ := s
  obtain rfl : K = 8 := hw
  have hb1 : Below w.heap.size w (w.alloc (.cells #[.int .i64 8, .string nm, .int .i64 n, .int .u32 a, .int .u32 b, .int .u32 c, .slice la ln lc] 37)) := (Below.refl _ _).alloc (Nat.le_refl _) _
  have h1 := h.below hb1
  have hsg := hS.g
  have hsi := hS.ins
  have hsr := hS.regs
  have hso := hS.outs
  have hf := Lib.hid (fun q' w2 N2 (hn : NStep q (w.alloc (.cells #[.int .i64 8, .string nm, .int .i64 n, .int .u32 a, .int .u32 b, .int .u32 c, .slice la ln lc] 37)) q' w2 N2) => NStep.front h hb1 hn)
  unfold stVal DoesQ
  have hc := Lib.hid (Input_any h1.g hg.wf (by omega))
  have hgr := Lib.hid (fun p' w2 (hs : Step q.g _ p' w2 (inputG N.g)) => h1.grow hs)
  obtain ⟨-, -, -, -, -, -, -, -, -, c0, -⟩ := h1.cells
  have hone := Lib.hid (fun x e w => one_any x e w)
  rw [show doesN N ⟨8, nm, n, a, b, c, la, ln, lc, zs⟩ = ({ N with g := inputG N.g }, [2 * (N.g.nodes.length : Int)], 0) from rfl]
  simp only []
  generalize 2 * (N.g.nodes.length : Int) = x at *
  clear h h1 hg hS hs hb1
  go_enter Try.func7, Try.ntmps7
  go_wp2_with (first
    | (go_at_call 33; (with_reducible refine hc.out.mono ?_); rintro e w2 ⟨rfl, p', hn⟩)
    | (go_at_call 26; (with_reducible refine (hone.out _ _ _).mono ?_); rintro e w3 ⟨g, rfl, hl, hb3⟩))
  go_ret2
  exact ⟨_, _, rfl, hl, _, hf.out _ _ _ ((hgr.out _ _ hn).then hb3)⟩
theorem does_n : Does_call (fun s => s.what ≠ 0 ∧ s.what ≠ 1 ∧ s.what ≠ 2 ∧ s.what ≠ 3 ∧ s.what ≠ 4 ∧ s.what ≠ 5 ∧ s.what ≠ 6 ∧ s.what ≠ 7 ∧ s.what ≠ 8) := by
  intro w q N rest s h hg hS hs hw
  obtain ⟨K, nm, n, a, b, c, la, ln, lc, zs⟩ := s
  obtain ⟨k0, k1, k2, k3, k4, k5, k6, k7, k8⟩ := hw
  simp only [] at k0 k1 k2 k3 k4 k5 k6 k7 k8
  have hb1 : Below w.heap.size w (w.alloc (.cells #[.int .i64 K, .string nm, .int .i64 n, .int .u32 a, .int .u32 b, .int .u32 c, .slice la ln lc] 37)) := (Below.refl _ _).alloc (Nat.le_refl _) _
  have hf := Lib.hid (NStep.of_below h hb1)
  rw [show doesN N ⟨K, nm, n, a, b, c, la, ln, lc, zs⟩ = (N, [], 0) by unfold doesN; simp [k0, k1, k2, k3, k4, k5, k6, k7, k8]]
  unfold stVal DoesQ
  simp only []
  have g0 := beqf k0
  have g1 := beqf k1
  have g2 := beqf k2
  have g3 := beqf k3
  have g4 := beqf k4
  have g5 := beqf k5
  have g6 := beqf k6
  have g7 := beqf k7
  have g8 := beqf k8
  clear h hg hS hs hb1
  go_enter Try.func7, Try.ntmps7
  go_wp2
  go_ret2
  exact ⟨none, 0, rfl, nilRow _, q, hf.out⟩
end Go.Proofs.Ytjdebancpgpebaa
