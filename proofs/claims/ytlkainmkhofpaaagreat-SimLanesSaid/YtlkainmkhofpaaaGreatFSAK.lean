/-
  Does: a step with a netlist.
  Does: gates and buses that go out; any step.
  What a step leaves is well formed; how much it makes; what is refused.
  What Check asks: the buses' names and widths; that literals are there.
-/
import Derived.Test.YtlkainmkhofpaaaGreatFSAJ
import Derived.Test.YtlkainmkhofpaaaGreatFSAI
import Derived.Maps.OwnSet
import Derived.Carry
import Derived.StringKeys
section
namespace Go.Proofs.YtlkainmkhofpaaaGreat
open Go.RowKit Go.Maps Bits
set_option maxRecDepth 100000

/-- A step, as a call reads it. -/
structure StV where
  what : Int
  name : ByteArray
  n : Int
  a : Int
  b : Int
  c : Int
  la : Option Addr
  ln : Nat
  lc : Nat
  zs : List Int
def stVal (s : StV) : Value := .agg #[.int .i64 s.what, .string s.name, .int .i64 s.n, .int .u32 s.a, .int .u32 s.b, .int .u32 s.c, .slice s.la s.ln s.lc]
structure StOk (w : World) (s : StV) : Prop where
  row : Row .u32 w s.la s.ln s.zs
  a : IsLit s.a
  b : IsLit s.b
  c : IsLit s.c
  lits : ∀ x ∈ s.zs, IsLit x
  cap : s.ln ≤ s.lc
theorem StOk.step {w w' : World} {s : StV} (h : StOk w s) (hb : Below w.heap.size w w') : StOk w' s := ⟨h.row.step hb, h.a, h.b, h.c, h.lits, h.cap⟩
/-- What a step makes of a netlist. -/
def doesN (N : Nt) (s : StV) : Nt × List Int × Int :=
  if s.what = 0 then addIn N s.name s.n
  else if s.what = 1 then ((addReg N (s.n.tmod 2 != 0)).1, [(addReg N (s.n.tmod 2 != 0)).2], 0)
  else if s.what = 2 then ((setReg N s.a s.b s.c).1, [], (setReg N s.a s.b s.c).2)
  else if s.what = 3 then ((addOut N s.name (s.zs.take 70)).1, [], (addOut N s.name (s.zs.take 70)).2)
  else if s.what = 4 ∨ s.what = 5 ∨ s.what = 6 then ((gateN andG N s.b s.c).1, [(gateN andG N s.b s.c).2.1], (gateN andG N s.b s.c).2.2)
  else if s.what = 7 then ((gateN xorG N s.b s.c).1, [(gateN xorG N s.b s.c).2.1], (gateN xorG N s.b s.c).2.2)
  else if s.what = 8 then ({ N with g := inputG N.g }, [2 * (N.g.nodes.length : Int)], 0)
  else (N, [], 0)
structure Small (N : Nt) : Prop where
  g : N.g.nodes.length ≤ 180000
  ins : N.ins.length ≤ 9000
  regs : N.regs.length ≤ 9000
  outs : N.outs.length ≤ 9000
def DoesQ (q : NPl) (w : World) (r : Nt × List Int × Int) (e : Ending) (w' : World) : Prop :=
  ∃ (a2 : Option Addr) (c2 : Nat), e = .returned (.tuple #[.slice a2 r.2.1.length c2, .int .i64 r.2.2]) ∧ LRow w' a2 r.2.1.length c2 r.2.1 ∧ ∃ q', NStep q w q' w' r.1
theorem nilRow (w : World) : LRow w none 0 0 [] := ⟨rfl, own_nil _ _ _⟩

def Does_call (P : StV → Prop) : Prop := ∀ (w : World) (q : NPl) (N : Nt) (rest : List Int) (s : StV), NetIs w q N → Good N rest → Small N → StOk w s → P s →
    Calls Tryz.prog 34 #[.pointer (some ⟨q.b, 0, none⟩), stVal s] w (DoesQ q w (doesN N s))

theorem does_0 : Does_call (fun s => s.what = 0) := by
  intro w q N rest s h hg hS hs hw
  obtain ⟨K, nm, n, a, b, c, la, ln, lc, zs⟩ := s
  obtain rfl : K = 0 := hw
  have hb1 : Below w.heap.size w (w.alloc (.cells #[.int .i64 0, .string nm, .int .i64 n, .int .u32 a, .int .u32 b, .int .u32 c, .slice la ln lc] 93)) := (Below.refl _ _).alloc (Nat.le_refl _) _
  have hc := Lib.hid (AddIn_any (h.below hb1) hg.wf (by have := hS.g; omega) (by have := hS.ins; omega) nm n)
  have hf := Lib.hid (fun q' w2 N2 (hn : NStep q (w.alloc (.cells #[.int .i64 0, .string nm, .int .i64 n, .int .u32 a, .int .u32 b, .int .u32 c, .slice la ln lc] 93)) q' w2 N2) => NStep.front h hb1 hn)
  rw [show doesN N ⟨0, nm, n, a, b, c, la, ln, lc, zs⟩ = addIn N nm n from rfl]
  unfold stVal DoesQ
  simp only []
  generalize addIn N nm n = r at *
  clear h hg hS hs
  go_enter Tryz.func34, Tryz.ntmps34
  go_wp2_with (go_at_call 12; (with_reducible refine hc.out.mono ?_); rintro e w2 ⟨a2, c2, rfl, hl, q', hn⟩)
  go_ret2
  exact ⟨a2, c2, rfl, hl, q', hf.out _ _ _ hn⟩
theorem does_1 : Does_call (fun s => s.what = 1) := by
  intro w q N rest s h hg hS hs hw
  obtain ⟨K, nm, n, a, b, c, la, ln, lc, zs⟩ := s
  obtain rfl : K = 1 := hw
  have hb1 : Below w.heap.size w (w.alloc (.cells #[.int .i64 1, .string nm, .int .i64 n, .int .u32 a, .int .u32 b, .int .u32 c, .slice la ln lc] 93)) := (Below.refl _ _).alloc (Nat.le_refl _) _
  have h1 := h.below hb1
  have hsg := hS.g
  have hsi := hS.ins
  have hsr := hS.regs
  have hso := hS.outs
  have hf := Lib.hid (fun q' w2 N2 (hn : NStep q (w.alloc (.cells #[.int .i64 1, .string nm, .int .i64 n, .int .u32 a, .int .u32 b, .int .u32 c, .slice la ln lc] 93)) q' w2 N2) => NStep.front h hb1 hn)
  unfold stVal DoesQ
  have hc := Lib.hid (fun i => AddReg_any h1 hg.wf (by omega) (by omega) i)
  have hone := Lib.hid (fun x e w => one_any x e w)
  rw [show doesN N ⟨1, nm, n, a, b, c, la, ln, lc, zs⟩ = ((addReg N (n.tmod 2 != 0)).1, [(addReg N (n.tmod 2 != 0)).2], 0) from rfl]
  simp only []
  rw [show (addReg N (n.tmod 2 != 0)).2 = 2 * (N.g.nodes.length : Int) from rfl]
  generalize 2 * (N.g.nodes.length : Int) = x at *
  clear h h1 hg hS hs hb1
  go_enter Tryz.func34, Tryz.ntmps34
  go_wp2_with (first
    | (go_at_call 70; (with_reducible refine (hc.out _).mono ?_); rintro e w2 ⟨rfl, q', hn⟩)
    | (go_at_call 69; (with_reducible refine (hone.out _ _ _).mono ?_); rintro e w3 ⟨g, rfl, hl, hb3⟩))
  go_ret2
  exact ⟨_, _, rfl, hl, q', hf.out _ _ _ (hn.then hb3)⟩
theorem does_2 : Does_call (fun s => s.what = 2) := by
  intro w q N rest s h hg hS hs hw
  obtain ⟨K, nm, n, a, b, c, la, ln, lc, zs⟩ := s
  obtain rfl : K = 2 := hw
  have hb1 : Below w.heap.size w (w.alloc (.cells #[.int .i64 2, .string nm, .int .i64 n, .int .u32 a, .int .u32 b, .int .u32 c, .slice la ln lc] 93)) := (Below.refl _ _).alloc (Nat.le_refl _) _
  have h1 := h.below hb1
  have hsg := hS.g
  have hsi := hS.ins
  have hsr := hS.regs
  have hso := hS.outs
  have hf := Lib.hid (fun q' w2 N2 (hn : NStep q (w.alloc (.cells #[.int .i64 2, .string nm, .int .i64 n, .int .u32 a, .int .u32 b, .int .u32 c, .slice la ln lc] 93)) q' w2 N2) => NStep.front h hb1 hn)
  unfold stVal DoesQ
  have hc := Lib.hid (SetReg_any h1 hg.wf a b c hs.b hs.c)
  rw [show doesN N ⟨2, nm, n, a, b, c, la, ln, lc, zs⟩ = ((setReg N a b c).1, [], (setReg N a b c).2) from rfl]
  simp only []
  generalize setReg N a b c = r at *
  clear h h1 hg hS hs hb1
  go_enter Tryz.func34, Tryz.ntmps34
  go_wp2_with (go_at_call 71; (with_reducible refine hc.out.mono ?_); rintro e w2 ⟨rfl, q', hn⟩)
  go_ret2
  exact ⟨none, 0, rfl, nilRow _, q', hf.out _ _ _ hn⟩
theorem does_8 : Does_call (fun s => s.what = 8) := by
  intro w q N rest s h hg hS hs hw
  obtain ⟨K, nm, n, a, b, c, la, ln, lc, zs⟩ := s
  obtain rfl : K = 8 := hw
  have hb1 : Below w.heap.size w (w.alloc (.cells #[.int .i64 8, .string nm, .int .i64 n, .int .u32 a, .int .u32 b, .int .u32 c, .slice la ln lc] 93)) := (Below.refl _ _).alloc (Nat.le_refl _) _
  have h1 := h.below hb1
  have hsg := hS.g
  have hsi := hS.ins
  have hsr := hS.regs
  have hso := hS.outs
  have hf := Lib.hid (fun q' w2 N2 (hn : NStep q (w.alloc (.cells #[.int .i64 8, .string nm, .int .i64 n, .int .u32 a, .int .u32 b, .int .u32 c, .slice la ln lc] 93)) q' w2 N2) => NStep.front h hb1 hn)
  unfold stVal DoesQ
  have hc := Lib.hid (Input_any h1.g hg.wf (by omega))
  have hgr := Lib.hid (fun p' w2 (hs : Step q.g _ p' w2 (inputG N.g)) => h1.grow hs)
  obtain ⟨-, -, -, -, -, -, -, -, -, c0, -⟩ := h1.cells
  have hone := Lib.hid (fun x e w => one_any x e w)
  rw [show doesN N ⟨8, nm, n, a, b, c, la, ln, lc, zs⟩ = ({ N with g := inputG N.g }, [2 * (N.g.nodes.length : Int)], 0) from rfl]
  simp only []
  generalize 2 * (N.g.nodes.length : Int) = x at *
  clear h h1 hg hS hs hb1
  go_enter Tryz.func34, Tryz.ntmps34
  go_wp2_with (first
    | (go_at_call 48; (with_reducible refine hc.out.mono ?_); rintro e w2 ⟨rfl, p', hn⟩)
    | (go_at_call 69; (with_reducible refine (hone.out _ _ _).mono ?_); rintro e w3 ⟨g, rfl, hl, hb3⟩))
  go_ret2
  exact ⟨_, _, rfl, hl, _, hf.out _ _ _ ((hgr.out _ _ hn).then hb3)⟩
theorem does_n : Does_call (fun s => s.what ≠ 0 ∧ s.what ≠ 1 ∧ s.what ≠ 2 ∧ s.what ≠ 3 ∧ s.what ≠ 4 ∧ s.what ≠ 5 ∧ s.what ≠ 6 ∧ s.what ≠ 7 ∧ s.what ≠ 8) := by
  intro w q N rest s h hg hS hs hw
  obtain ⟨K, nm, n, a, b, c, la, ln, lc, zs⟩ := s
  obtain ⟨k0, k1, k2, k3, k4, k5, k6, k7, k8⟩ := hw
  simp only [] at k0 k1 k2 k3 k4 k5 k6 k7 k8
  have hb1 : Below w.heap.size w (w.alloc (.cells #[.int .i64 K, .string nm, .int .i64 n, .int .u32 a, .int .u32 b, .int .u32 c, .slice la ln lc] 93)) := (Below.refl _ _).alloc (Nat.le_refl _) _
  have hf := Lib.hid (NStep.of_below h hb1)
  rw [show doesN N ⟨K, nm, n, a, b, c, la, ln, lc, zs⟩ = (N, [], 0) by unfold doesN; simp [k0, k1, k2, k3, k4, k5, k6, k7, k8]]
  unfold stVal DoesQ
  simp only []
  have g0 := beqf k0
  have g1 := beqf k1
  have g2 := beqf k2
  have g3 := beqf k3
  have g4 := beqf k4
  have g5 := beqf k5
  have g6 := beqf k6
  have g7 := beqf k7
  have g8 := beqf k8
  clear h hg hS hs hb1
  go_enter Tryz.func34, Tryz.ntmps34
  go_wp2
  go_ret2
  exact ⟨none, 0, rfl, nilRow _, q, hf.out⟩
end Go.Proofs.YtlkainmkhofpaaaGreat
end

section
namespace Go.Proofs.YtlkainmkhofpaaaGreat
open Go.RowKit Go.Maps Bits
set_option maxRecDepth 100000

theorem does_keep {wA w2 : World} {q q' : NPl} {N N' : Nt} {B : Nat} {cs : Array Value} {fz : Nat × Nat} {x y : Value} (h : NetIs wA q N) (hB : wA.heap[B]? = some (.cells cs 93 fz)) (c4 : wA.cell? ⟨B, 4, none⟩ = some x) (c5 : wA.cell? ⟨B, 5, none⟩ = some y) (hn : NStep q wA q' w2 N') :
    w2.cell? ⟨q.b, 0, none⟩ = some (.pointer (some ⟨q.g.b, 0, none⟩)) ∧ w2.cell? ⟨B, 4, none⟩ = some x ∧ w2.cell? ⟨B, 5, none⟩ = some y := by
  obtain ⟨-, -, -, -, -, -, -, -, -, c0, -⟩ := hn.is.cells
  rw [hn.b, hn.gb] at c0
  have hk := hn.kept.block B (Array.getElem?_eq_some_iff.1 hB).1 (fun hp => h.other hB (by decide) (by decide) (by decide) (by decide) (by decide) (by decide) hp)
  refine ⟨c0, ?_, ?_⟩
  · rw [← c4]; simp only [World.cell?, hk]
  · rw [← c5]; simp only [World.cell?, hk]
set_option maxHeartbeats 2000000 in
theorem does_4 : Does_call (fun s => s.what = 4) := by
  intro w q N rest s h hg hS hs hw
  obtain ⟨K, nm, n, a, b, c, la, ln, lc, zs⟩ := s
  obtain rfl : K = 4 := hw
  have hb1 : Below w.heap.size w (w.alloc (.cells #[.int .i64 4, .string nm, .int .i64 n, .int .u32 a, .int .u32 b, .int .u32 c, .slice la ln lc] 93)) := (Below.refl _ _).alloc (Nat.le_refl _) _
  have h1 := h.below hb1
  have hsg := hS.g
  have hsi := hS.ins
  have hsr := hS.regs
  have hso := hS.outs
  have hf := Lib.hid (fun q' w2 N2 (hn : NStep q (w.alloc (.cells #[.int .i64 4, .string nm, .int .i64 n, .int .u32 a, .int .u32 b, .int .u32 c, .slice la ln lc] 93)) q' w2 N2) => NStep.front h hb1 hn)
  unfold stVal DoesQ
  have hsa : IsLit b := hs.b
  have hsb : IsLit c := hs.c
  obtain ⟨-, -, -, -, -, -, -, -, -, c0, -⟩ := h1.cells
  have hlt := h1.lt
  have k0 : (w.alloc (.cells #[.int .i64 4, .string nm, .int .i64 n, .int .u32 a, .int .u32 b, .int .u32 c, .slice la ln lc] 93)).cell? ⟨w.heap.size, 0, none⟩ = some (.int .i64 4) := by simp [go_sem]
  have k4 : (w.alloc (.cells #[.int .i64 4, .string nm, .int .i64 n, .int .u32 a, .int .u32 b, .int .u32 c, .slice la ln lc] 93)).cell? ⟨w.heap.size, 4, none⟩ = some (.int .u32 b) := by simp [go_sem]
  have k5 : (w.alloc (.cells #[.int .i64 4, .string nm, .int .i64 n, .int .u32 a, .int .u32 b, .int .u32 c, .slice la ln lc] 93)).cell? ⟨w.heap.size, 5, none⟩ = some (.int .u32 c) := by simp [go_sem]
  rw [show doesN N ⟨4, nm, n, a, b, c, la, ln, lc, zs⟩ = ((gateN andG N b c).1, [(gateN andG N b c).2.1], (gateN andG N b c).2.2) from rfl]
  simp only []
  generalize hw1 : w.alloc (.cells #[.int .i64 4, .string nm, .int .i64 n, .int .u32 a, .int .u32 b, .int .u32 c, .slice la ln lc] 93) = w1 at *
  have hba : Below w1.heap.size w1 (w1.alloc (.cells #[.int .u32 b, .int .u32 c] 40)).drew := ((Below.refl w1.heap.size w1).alloc (Nat.le_refl _) _).drew
  have hc := Lib.hid (gate_any' And_any And_no and_ok (h1.below hba) hg (by omega) ((row2 w1 b c 40).step ((Below.refl _ _).drew)) hsa hsb (fun x hx hp => by cases hx; have := h1.g.has_lt (k := w1.heap.size) hp; omega))
  have hone := Lib.hid (fun x e w => one_any x e w)
  have hF := Lib.hid (fun q' w2 N2 (hn : NStep q (w1.alloc (.cells #[.int .u32 b, .int .u32 c] 40)).drew q' w2 N2) => hf.out q' w2 N2 (NStep.front h1 hba hn))
  have hbz : (w.heap.size : Nat) < w1.heap.size := World.block_lt_of_cell? w1 _ k4
  obtain ⟨sc, hsc⟩ : ∃ sc, w1.heap[w.heap.size]? = some (.cells sc 93 (0, 0)) := ⟨_, by rw [← hw1]; exact Deep.blk_alloc_new _ _⟩
  have hKK := Lib.hid (fun q' w2 (hn : NStep q (w1.alloc (.cells #[.int .u32 b, .int .u32 c] 40)).drew q' w2 (gateN andG N b c).1) => does_keep (h1.below hba) (hba.block _ hbz |>.trans hsc) (stepc hba hbz k4) (stepc hba hbz k5) hn)
  generalize (gateN andG N b c).1 = rN at *
  generalize (gateN andG N b c).2.1 = rx at *
  generalize (gateN andG N b c).2.2 = re at *
  have hba := Lib.hid hba
  clear h h1 hg hS hs hb1 hsa hsb hsc hbz
  go_enter Tryz.func34, Tryz.ntmps34
  go_upto_region 14 with fail
  go_region_held3 (fun w' => w'.cell? ⟨q.b, 0, none⟩ = some (.pointer (some ⟨q.g.b, 0, none⟩)) ∧ w'.cell? ⟨w.heap.size, 4, none⟩ = some (.int .u32 b) ∧ w'.cell? ⟨w.heap.size, 5, none⟩ = some (.int .u32 c)) (go_keep) (first
    | (go_at_call 72; (with_reducible refine hc.out.mono ?_); rintro e w5 ⟨rfl, q', hn⟩; obtain ⟨m0, m4, m5⟩ := hKK.out _ _ hn; have hn := Lib.hid hn)
    | (go_at_call 69; (with_reducible refine (hone.out _ _ _).mono ?_); rintro e w6 ⟨g, rfl, hl, hb6⟩; have n0 := stepc hb6 (World.block_lt_of_cell? w5 _ m0) m0; have n4 := stepc hb6 (World.block_lt_of_cell? w5 _ m4) m4; have n5 := stepc hb6 (World.block_lt_of_cell? w5 _ m5) m5; have hl := Lib.hid hl; have hb6 := Lib.hid hb6))
  all_goals go_wp2
  all_goals go_ret2
  all_goals exact ⟨_, _, rfl, hl.out, q', hF.out _ _ _ (hn.out.then hb6.out)⟩
set_option maxHeartbeats 2000000 in
theorem does_5 : Does_call (fun s => s.what = 5) := by
  intro w q N rest s h hg hS hs hw
  obtain ⟨K, nm, n, a, b, c, la, ln, lc, zs⟩ := s
  obtain rfl : K = 5 := hw
  have hb1 : Below w.heap.size w (w.alloc (.cells #[.int .i64 5, .string nm, .int .i64 n, .int .u32 a, .int .u32 b, .int .u32 c, .slice la ln lc] 93)) := (Below.refl _ _).alloc (Nat.le_refl _) _
  have h1 := h.below hb1
  have hsg := hS.g
  have hsi := hS.ins
  have hsr := hS.regs
  have hso := hS.outs
  have hf := Lib.hid (fun q' w2 N2 (hn : NStep q (w.alloc (.cells #[.int .i64 5, .string nm, .int .i64 n, .int .u32 a, .int .u32 b, .int .u32 c, .slice la ln lc] 93)) q' w2 N2) => NStep.front h hb1 hn)
  unfold stVal DoesQ
  have hsa : IsLit b := hs.b
  have hsb : IsLit c := hs.c
  obtain ⟨-, -, -, -, -, -, -, -, -, c0, -⟩ := h1.cells
  have hlt := h1.lt
  have k0 : (w.alloc (.cells #[.int .i64 5, .string nm, .int .i64 n, .int .u32 a, .int .u32 b, .int .u32 c, .slice la ln lc] 93)).cell? ⟨w.heap.size, 0, none⟩ = some (.int .i64 5) := by simp [go_sem]
  have k4 : (w.alloc (.cells #[.int .i64 5, .string nm, .int .i64 n, .int .u32 a, .int .u32 b, .int .u32 c, .slice la ln lc] 93)).cell? ⟨w.heap.size, 4, none⟩ = some (.int .u32 b) := by simp [go_sem]
  have k5 : (w.alloc (.cells #[.int .i64 5, .string nm, .int .i64 n, .int .u32 a, .int .u32 b, .int .u32 c, .slice la ln lc] 93)).cell? ⟨w.heap.size, 5, none⟩ = some (.int .u32 c) := by simp [go_sem]
  rw [show doesN N ⟨5, nm, n, a, b, c, la, ln, lc, zs⟩ = ((gateN andG N b c).1, [(gateN andG N b c).2.1], (gateN andG N b c).2.2) from rfl]
  simp only []
  generalize hw1 : w.alloc (.cells #[.int .i64 5, .string nm, .int .i64 n, .int .u32 a, .int .u32 b, .int .u32 c, .slice la ln lc] 93) = w1 at *
  have hba : Below w1.heap.size w1 (w1.alloc (.cells #[.int .u32 b, .int .u32 c] 40)).drew := ((Below.refl w1.heap.size w1).alloc (Nat.le_refl _) _).drew
  have hc := Lib.hid (gate_any' And_any And_no and_ok (h1.below hba) hg (by omega) ((row2 w1 b c 40).step ((Below.refl _ _).drew)) hsa hsb (fun x hx hp => by cases hx; have := h1.g.has_lt (k := w1.heap.size) hp; omega))
  have hone := Lib.hid (fun x e w => one_any x e w)
  have hF := Lib.hid (fun q' w2 N2 (hn : NStep q (w1.alloc (.cells #[.int .u32 b, .int .u32 c] 40)).drew q' w2 N2) => hf.out q' w2 N2 (NStep.front h1 hba hn))
  have hbz : (w.heap.size : Nat) < w1.heap.size := World.block_lt_of_cell? w1 _ k4
  obtain ⟨sc, hsc⟩ : ∃ sc, w1.heap[w.heap.size]? = some (.cells sc 93 (0, 0)) := ⟨_, by rw [← hw1]; exact Deep.blk_alloc_new _ _⟩
  have hKK := Lib.hid (fun q' w2 (hn : NStep q (w1.alloc (.cells #[.int .u32 b, .int .u32 c] 40)).drew q' w2 (gateN andG N b c).1) => does_keep (h1.below hba) (hba.block _ hbz |>.trans hsc) (stepc hba hbz k4) (stepc hba hbz k5) hn)
  generalize (gateN andG N b c).1 = rN at *
  generalize (gateN andG N b c).2.1 = rx at *
  generalize (gateN andG N b c).2.2 = re at *
  have hba := Lib.hid hba
  clear h h1 hg hS hs hb1 hsa hsb hsc hbz
  go_enter Tryz.func34, Tryz.ntmps34
  go_upto_region 14 with fail
  go_region_held3 (fun w' => w'.cell? ⟨q.b, 0, none⟩ = some (.pointer (some ⟨q.g.b, 0, none⟩)) ∧ w'.cell? ⟨w.heap.size, 4, none⟩ = some (.int .u32 b) ∧ w'.cell? ⟨w.heap.size, 5, none⟩ = some (.int .u32 c)) (go_keep) (first
    | (go_at_call 72; (with_reducible refine hc.out.mono ?_); rintro e w5 ⟨rfl, q', hn⟩; obtain ⟨m0, m4, m5⟩ := hKK.out _ _ hn; have hn := Lib.hid hn)
    | (go_at_call 69; (with_reducible refine (hone.out _ _ _).mono ?_); rintro e w6 ⟨g, rfl, hl, hb6⟩; have n0 := stepc hb6 (World.block_lt_of_cell? w5 _ m0) m0; have n4 := stepc hb6 (World.block_lt_of_cell? w5 _ m4) m4; have n5 := stepc hb6 (World.block_lt_of_cell? w5 _ m5) m5; have hl := Lib.hid hl; have hb6 := Lib.hid hb6))
  all_goals go_wp2
  all_goals go_ret2
  all_goals exact ⟨_, _, rfl, hl.out, q', hF.out _ _ _ (hn.out.then hb6.out)⟩
set_option maxHeartbeats 2000000 in
theorem does_6 : Does_call (fun s => s.what = 6) := by
  intro w q N rest s h hg hS hs hw
  obtain ⟨K, nm, n, a, b, c, la, ln, lc, zs⟩ := s
  obtain rfl : K = 6 := hw
  have hb1 : Below w.heap.size w (w.alloc (.cells #[.int .i64 6, .string nm, .int .i64 n, .int .u32 a, .int .u32 b, .int .u32 c, .slice la ln lc] 93)) := (Below.refl _ _).alloc (Nat.le_refl _) _
  have h1 := h.below hb1
  have hsg := hS.g
  have hsi := hS.ins
  have hsr := hS.regs
  have hso := hS.outs
  have hf := Lib.hid (fun q' w2 N2 (hn : NStep q (w.alloc (.cells #[.int .i64 6, .string nm, .int .i64 n, .int .u32 a, .int .u32 b, .int .u32 c, .slice la ln lc] 93)) q' w2 N2) => NStep.front h hb1 hn)
  unfold stVal DoesQ
  have hsa : IsLit b := hs.b
  have hsb : IsLit c := hs.c
  obtain ⟨-, -, -, -, -, -, -, -, -, c0, -⟩ := h1.cells
  have hlt := h1.lt
  have k0 : (w.alloc (.cells #[.int .i64 6, .string nm, .int .i64 n, .int .u32 a, .int .u32 b, .int .u32 c, .slice la ln lc] 93)).cell? ⟨w.heap.size, 0, none⟩ = some (.int .i64 6) := by simp [go_sem]
  have k4 : (w.alloc (.cells #[.int .i64 6, .string nm, .int .i64 n, .int .u32 a, .int .u32 b, .int .u32 c, .slice la ln lc] 93)).cell? ⟨w.heap.size, 4, none⟩ = some (.int .u32 b) := by simp [go_sem]
  have k5 : (w.alloc (.cells #[.int .i64 6, .string nm, .int .i64 n, .int .u32 a, .int .u32 b, .int .u32 c, .slice la ln lc] 93)).cell? ⟨w.heap.size, 5, none⟩ = some (.int .u32 c) := by simp [go_sem]
  rw [show doesN N ⟨6, nm, n, a, b, c, la, ln, lc, zs⟩ = ((gateN andG N b c).1, [(gateN andG N b c).2.1], (gateN andG N b c).2.2) from rfl]
  simp only []
  generalize hw1 : w.alloc (.cells #[.int .i64 6, .string nm, .int .i64 n, .int .u32 a, .int .u32 b, .int .u32 c, .slice la ln lc] 93) = w1 at *
  have hba : Below w1.heap.size w1 (w1.alloc (.cells #[.int .u32 b, .int .u32 c] 40)).drew := ((Below.refl w1.heap.size w1).alloc (Nat.le_refl _) _).drew
  have hc := Lib.hid (gate_any' And_any And_no and_ok (h1.below hba) hg (by omega) ((row2 w1 b c 40).step ((Below.refl _ _).drew)) hsa hsb (fun x hx hp => by cases hx; have := h1.g.has_lt (k := w1.heap.size) hp; omega))
  have hone := Lib.hid (fun x e w => one_any x e w)
  have hF := Lib.hid (fun q' w2 N2 (hn : NStep q (w1.alloc (.cells #[.int .u32 b, .int .u32 c] 40)).drew q' w2 N2) => hf.out q' w2 N2 (NStep.front h1 hba hn))
  have hbz : (w.heap.size : Nat) < w1.heap.size := World.block_lt_of_cell? w1 _ k4
  obtain ⟨sc, hsc⟩ : ∃ sc, w1.heap[w.heap.size]? = some (.cells sc 93 (0, 0)) := ⟨_, by rw [← hw1]; exact Deep.blk_alloc_new _ _⟩
  have hKK := Lib.hid (fun q' w2 (hn : NStep q (w1.alloc (.cells #[.int .u32 b, .int .u32 c] 40)).drew q' w2 (gateN andG N b c).1) => does_keep (h1.below hba) (hba.block _ hbz |>.trans hsc) (stepc hba hbz k4) (stepc hba hbz k5) hn)
  generalize (gateN andG N b c).1 = rN at *
  generalize (gateN andG N b c).2.1 = rx at *
  generalize (gateN andG N b c).2.2 = re at *
  have hba := Lib.hid hba
  clear h h1 hg hS hs hb1 hsa hsb hsc hbz
  go_enter Tryz.func34, Tryz.ntmps34
  go_upto_region 14 with fail
  go_region_held3 (fun w' => w'.cell? ⟨q.b, 0, none⟩ = some (.pointer (some ⟨q.g.b, 0, none⟩)) ∧ w'.cell? ⟨w.heap.size, 4, none⟩ = some (.int .u32 b) ∧ w'.cell? ⟨w.heap.size, 5, none⟩ = some (.int .u32 c)) (go_keep) (first
    | (go_at_call 72; (with_reducible refine hc.out.mono ?_); rintro e w5 ⟨rfl, q', hn⟩; obtain ⟨m0, m4, m5⟩ := hKK.out _ _ hn; have hn := Lib.hid hn)
    | (go_at_call 69; (with_reducible refine (hone.out _ _ _).mono ?_); rintro e w6 ⟨g, rfl, hl, hb6⟩; have n0 := stepc hb6 (World.block_lt_of_cell? w5 _ m0) m0; have n4 := stepc hb6 (World.block_lt_of_cell? w5 _ m4) m4; have n5 := stepc hb6 (World.block_lt_of_cell? w5 _ m5) m5; have hl := Lib.hid hl; have hb6 := Lib.hid hb6))
  all_goals go_wp2
  all_goals go_ret2
  all_goals exact ⟨_, _, rfl, hl.out, q', hF.out _ _ _ (hn.out.then hb6.out)⟩
set_option maxHeartbeats 2000000 in
theorem does_7 : Does_call (fun s => s.what = 7) := by
  intro w q N rest s h hg hS hs hw
  obtain ⟨K, nm, n, a, b, c, la, ln, lc, zs⟩ := s
  obtain rfl : K = 7 := hw
  have hb1 : Below w.heap.size w (w.alloc (.cells #[.int .i64 7, .string nm, .int .i64 n, .int .u32 a, .int .u32 b, .int .u32 c, .slice la ln lc] 93)) := (Below.refl _ _).alloc (Nat.le_refl _) _
  have h1 := h.below hb1
  have hsg := hS.g
  have hsi := hS.ins
  have hsr := hS.regs
  have hso := hS.outs
  have hf := Lib.hid (fun q' w2 N2 (hn : NStep q (w.alloc (.cells #[.int .i64 7, .string nm, .int .i64 n, .int .u32 a, .int .u32 b, .int .u32 c, .slice la ln lc] 93)) q' w2 N2) => NStep.front h hb1 hn)
  unfold stVal DoesQ
  have hsa : IsLit b := hs.b
  have hsb : IsLit c := hs.c
  obtain ⟨-, -, -, -, -, -, -, -, -, c0, -⟩ := h1.cells
  have hlt := h1.lt
  have k0 : (w.alloc (.cells #[.int .i64 7, .string nm, .int .i64 n, .int .u32 a, .int .u32 b, .int .u32 c, .slice la ln lc] 93)).cell? ⟨w.heap.size, 0, none⟩ = some (.int .i64 7) := by simp [go_sem]
  have k4 : (w.alloc (.cells #[.int .i64 7, .string nm, .int .i64 n, .int .u32 a, .int .u32 b, .int .u32 c, .slice la ln lc] 93)).cell? ⟨w.heap.size, 4, none⟩ = some (.int .u32 b) := by simp [go_sem]
  have k5 : (w.alloc (.cells #[.int .i64 7, .string nm, .int .i64 n, .int .u32 a, .int .u32 b, .int .u32 c, .slice la ln lc] 93)).cell? ⟨w.heap.size, 5, none⟩ = some (.int .u32 c) := by simp [go_sem]
  rw [show doesN N ⟨7, nm, n, a, b, c, la, ln, lc, zs⟩ = ((gateN xorG N b c).1, [(gateN xorG N b c).2.1], (gateN xorG N b c).2.2) from rfl]
  simp only []
  generalize hw1 : w.alloc (.cells #[.int .i64 7, .string nm, .int .i64 n, .int .u32 a, .int .u32 b, .int .u32 c, .slice la ln lc] 93) = w1 at *
  have hba : Below w1.heap.size w1 (w1.alloc (.cells #[.int .u32 b, .int .u32 c] 40)).drew := ((Below.refl w1.heap.size w1).alloc (Nat.le_refl _) _).drew
  have hc := Lib.hid (gate_any' Xor_any Xor_no xor_ok (h1.below hba) hg (by omega) ((row2 w1 b c 40).step ((Below.refl _ _).drew)) hsa hsb (fun x hx hp => by cases hx; have := h1.g.has_lt (k := w1.heap.size) hp; omega))
  have hone := Lib.hid (fun x e w => one_any x e w)
  have hF := Lib.hid (fun q' w2 N2 (hn : NStep q (w1.alloc (.cells #[.int .u32 b, .int .u32 c] 40)).drew q' w2 N2) => hf.out q' w2 N2 (NStep.front h1 hba hn))
  have hbz : (w.heap.size : Nat) < w1.heap.size := World.block_lt_of_cell? w1 _ k4
  obtain ⟨sc, hsc⟩ : ∃ sc, w1.heap[w.heap.size]? = some (.cells sc 93 (0, 0)) := ⟨_, by rw [← hw1]; exact Deep.blk_alloc_new _ _⟩
  have hKK := Lib.hid (fun q' w2 (hn : NStep q (w1.alloc (.cells #[.int .u32 b, .int .u32 c] 40)).drew q' w2 (gateN xorG N b c).1) => does_keep (h1.below hba) (hba.block _ hbz |>.trans hsc) (stepc hba hbz k4) (stepc hba hbz k5) hn)
  generalize (gateN xorG N b c).1 = rN at *
  generalize (gateN xorG N b c).2.1 = rx at *
  generalize (gateN xorG N b c).2.2 = re at *
  have hba := Lib.hid hba
  clear h h1 hg hS hs hb1 hsa hsb hsc hbz
  go_enter Tryz.func34, Tryz.ntmps34
  go_upto_region 16 with fail
  go_region_held3 (fun w' => w'.cell? ⟨q.b, 0, none⟩ = some (.pointer (some ⟨q.g.b, 0, none⟩)) ∧ w'.cell? ⟨w.heap.size, 4, none⟩ = some (.int .u32 b) ∧ w'.cell? ⟨w.heap.size, 5, none⟩ = some (.int .u32 c)) (go_keep) (first
    | (go_at_call 73; (with_reducible refine hc.out.mono ?_); rintro e w5 ⟨rfl, q', hn⟩; obtain ⟨m0, m4, m5⟩ := hKK.out _ _ hn; have hn := Lib.hid hn)
    | (go_at_call 69; (with_reducible refine (hone.out _ _ _).mono ?_); rintro e w6 ⟨g, rfl, hl, hb6⟩; have n0 := stepc hb6 (World.block_lt_of_cell? w5 _ m0) m0; have n4 := stepc hb6 (World.block_lt_of_cell? w5 _ m4) m4; have n5 := stepc hb6 (World.block_lt_of_cell? w5 _ m5) m5; have hl := Lib.hid hl; have hb6 := Lib.hid hb6))
  all_goals go_wp2
  all_goals go_ret2
  all_goals exact ⟨_, _, rfl, hl.out, q', hF.out _ _ _ (hn.out.then hb6.out)⟩
set_option maxHeartbeats 2000000 in
theorem does_3 : Does_call (fun s => s.what = 3) := by
  intro w q N rest s h hg hS hs hw
  obtain ⟨K, nm, n, a, b, c, la, ln, lc, zs⟩ := s
  obtain rfl : K = 3 := hw
  have hb1 : Below w.heap.size w (w.alloc (.cells #[.int .i64 3, .string nm, .int .i64 n, .int .u32 a, .int .u32 b, .int .u32 c, .slice la ln lc] 93)) := (Below.refl _ _).alloc (Nat.le_refl _) _
  have h1 := h.below hb1
  have hsg := hS.g
  have hsi := hS.ins
  have hsr := hS.regs
  have hso := hS.outs
  have hf := Lib.hid (fun q' w2 N2 (hn : NStep q (w.alloc (.cells #[.int .i64 3, .string nm, .int .i64 n, .int .u32 a, .int .u32 b, .int .u32 c, .slice la ln lc] 93)) q' w2 N2) => NStep.front h hb1 hn)
  unfold stVal DoesQ
  have hzs := hs.lits
  have hrow : Row .u32 w la ln zs := hs.row
  have hlt := h1.lt
  have k0 : (w.alloc (.cells #[.int .i64 3, .string nm, .int .i64 n, .int .u32 a, .int .u32 b, .int .u32 c, .slice la ln lc] 93)).cell? ⟨w.heap.size, 0, none⟩ = some (.int .i64 3) := by simp [go_sem]
  have k1 : (w.alloc (.cells #[.int .i64 3, .string nm, .int .i64 n, .int .u32 a, .int .u32 b, .int .u32 c, .slice la ln lc] 93)).cell? ⟨w.heap.size, 1, none⟩ = some (.string nm) := by simp [go_sem]
  have k6 : (w.alloc (.cells #[.int .i64 3, .string nm, .int .i64 n, .int .u32 a, .int .u32 b, .int .u32 c, .slice la ln lc] 93)).cell? ⟨w.heap.size, 6, none⟩ = some (.slice la ln lc) := by simp [go_sem]
  rw [show doesN N ⟨3, nm, n, a, b, c, la, ln, lc, zs⟩ = ((addOut N nm (zs.take 70)).1, [], (addOut N nm (zs.take 70)).2) from rfl]
  simp only []
  generalize hw1 : w.alloc (.cells #[.int .i64 3, .string nm, .int .i64 n, .int .u32 a, .int .u32 b, .int .u32 c, .slice la ln lc] 93) = w1 at *
  have hbz : (w.heap.size : Nat) < w1.heap.size := World.block_lt_of_cell? w1 _ k1
  have hOf := Lib.hid (Of_any (c := lc) ((hrow.step hb1).step ((Below.refl w1.heap.size w1).drew)))
  have hc := Lib.hid (fun w2 (hb2 : Below w1.heap.size w1 w2) (a2 : Option Addr) (c2 : Nat) (hl : LRow w2 a2 (min ln 70) c2 (zs.take 70)) => AddOut_any (h1.below hb2) hg.wf (by omega) nm (c := c2) hl.row (fun x hx => hzs x (List.mem_of_mem_take hx)))
  have hF := Lib.hid (fun q' w2 w3 N2 (hb2 : Below w1.heap.size w1 w2) (hn : NStep q w2 q' w3 N2) => hf.out q' w3 N2 (NStep.front h1 hb2 hn))
  have hsc : w1.heap[w.heap.size]? = some (.cells #[.int .i64 3, .string nm, .int .i64 n, .int .u32 a, .int .u32 b, .int .u32 c, .slice la ln lc] 93 (0, 0)) := by rw [← hw1]; exact Deep.blk_alloc_new _ _
  have hKK := Lib.hid (fun q' w2 w3 N2 (hb2 : Below w1.heap.size w1 w2) (hn : NStep q w2 q' w3 N2) => (show w3.cell? ⟨w.heap.size, 1, none⟩ = some (.string nm) ∧ w3.cell? ⟨w.heap.size, 6, none⟩ = some (.slice la ln lc) by
    have hk := hn.kept.block w.heap.size (Nat.lt_of_lt_of_le hbz hb2.size) (fun hp => (h1.below hb2).other ((hb2.block _ hbz).trans hsc) (by decide) (by decide) (by decide) (by decide) (by decide) (by decide) hp)
    have e := hk.trans ((hb2.block _ hbz).trans hsc)
    exact ⟨by simp [World.cell?, e], by simp [World.cell?, e]⟩))
  have hdr := Lib.hid ((Below.refl w1.heap.size w1).drew)
  generalize (addOut N nm (zs.take 70)).1 = rN at *
  generalize (addOut N nm (zs.take 70)).2 = re at *
  clear h h1 hg hS hs hb1 hsc hrow hzs
  go_enter Tryz.func34, Tryz.ntmps34
  go_upto_region 10 with fail
  go_region_held3 (fun w' => w'.cell? ⟨w.heap.size, 1, none⟩ = some (.string nm) ∧ w'.cell? ⟨w.heap.size, 6, none⟩ = some (.slice la ln lc)) (go_keep) (first
    | (go_at_call 58; (with_reducible refine hOf.out.mono ?_); rintro e w5 ⟨a5, c5, rfl, hl5, hb5⟩; have hb6 := nextw hdr.out hb5; have m1 := stepc hb6 hbz k1; have m6 := stepc hb6 hbz k6; have hc2 := Lib.hid (hc.out _ hb6 _ _ hl5); have hb6 := Lib.hid hb6)
    | (go_at_call 11; (with_reducible refine hc2.out.mono ?_); rintro e w7 ⟨rfl, q', hn⟩; obtain ⟨n1, n6⟩ := hKK.out _ _ _ _ hb6.out hn; have hn := Lib.hid hn))
  all_goals go_wp2
  all_goals go_ret2
  all_goals exact ⟨none, 0, rfl, nilRow _, q', hF.out _ _ _ _ hb6.out hn.out⟩

theorem Does_any : Does_call (fun _ => True) := by
  intro w q N rest s h hg hS hs _
  by_cases h0 : s.what = 0
  · exact does_0 w q N rest s h hg hS hs h0
  by_cases h1 : s.what = 1
  · exact does_1 w q N rest s h hg hS hs h1
  by_cases h2 : s.what = 2
  · exact does_2 w q N rest s h hg hS hs h2
  by_cases h3 : s.what = 3
  · exact does_3 w q N rest s h hg hS hs h3
  by_cases h4 : s.what = 4
  · exact does_4 w q N rest s h hg hS hs h4
  by_cases h5 : s.what = 5
  · exact does_5 w q N rest s h hg hS hs h5
  by_cases h6 : s.what = 6
  · exact does_6 w q N rest s h hg hS hs h6
  by_cases h7 : s.what = 7
  · exact does_7 w q N rest s h hg hS hs h7
  by_cases h8 : s.what = 8
  · exact does_8 w q N rest s h hg hS hs h8
  exact does_n w q N rest s h hg hS hs ⟨h0, h1, h2, h3, h4, h5, h6, h7, h8⟩
end Go.Proofs.YtlkainmkhofpaaaGreat
end

section
namespace Go.Proofs.YtlkainmkhofpaaaGreat
open Go.RowKit Go.Maps Bits

/-- What a step leaves is well formed; what it tells is a row of literals. -/
theorem doesN_good {N : Nt} {rest : List Int} (hg : Good N rest) (hS : Small N) {w : World} {s : StV} (hs : StOk w s) (h8 : s.what ≠ 8) : Good (doesN N s).1 rest := by
  have := hS.g
  unfold doesN
  split
  · exact hg.addIn _ _
  split
  · exact hg.addReg _
  split
  · exact hg.setReg _ _ _ hs.b hs.c
  split
  · exact hg.addOut _ _ (fun x hx => hs.lits x (List.mem_of_mem_take hx))
  split
  · exact (gate_good and_ok hg (by omega) hs.b hs.c).1
  split
  · exact (gate_good xor_ok hg (by omega) hs.b hs.c).1
  exact hg
/-- How much a step makes. -/
theorem addIn_small (N : Nt) (s : ByteArray) (k : Int) : (addIn N s k).1.g.nodes.length ≤ N.g.nodes.length + 64 ∧ (addIn N s k).1.ins.length ≤ N.ins.length + 1 ∧ (addIn N s k).1.regs = N.regs ∧ (addIn N s k).1.outs = N.outs := by
  unfold addIn
  split
  · rename_i hc
    simp only [Bool.and_eq_true] at hc
    have hk := wide_iff.1 hc.2
    split
    · exact ⟨by simp only; omega, by simp only; omega, rfl, rfl⟩
    · exact ⟨by simp only [inputsN_len]; omega, by simp, rfl, rfl⟩
  · exact ⟨by simp only; omega, by simp only; omega, rfl, rfl⟩
theorem setReg_small (N : Nt) (x d e : Int) : (setReg N x d e).1.g = N.g ∧ (setReg N x d e).1.ins = N.ins ∧ (setReg N x d e).1.regs.length = N.regs.length ∧ (setReg N x d e).1.outs = N.outs := by
  unfold setReg
  split
  · exact ⟨rfl, rfl, rfl, rfl⟩
  · split
    · exact ⟨rfl, rfl, by simp, rfl⟩
    · exact ⟨rfl, rfl, rfl, rfl⟩
theorem addOut_small (N : Nt) (s : ByteArray) (l : List Int) : (addOut N s l).1.g = N.g ∧ (addOut N s l).1.ins = N.ins ∧ (addOut N s l).1.regs = N.regs ∧ (addOut N s l).1.outs.length ≤ N.outs.length + 1 := by
  unfold addOut
  split
  · split
    · exact ⟨rfl, rfl, rfl, by simp only; omega⟩
    · exact ⟨rfl, rfl, rfl, by simp⟩
  · exact ⟨rfl, rfl, rfl, by simp only; omega⟩
theorem gate_same (T : Gr → Int → Int → Gr × Int) (N : Nt) (b c : Int) : (gateN T N b c).1.ins = N.ins ∧ (gateN T N b c).1.regs = N.regs ∧ (gateN T N b c).1.outs = N.outs := by
  unfold gateN
  split <;> exact ⟨rfl, rfl, rfl⟩
/-- Bounds, step by step. -/
structure Upto (N : Nt) (j : Nat) : Prop where
  g : N.g.nodes.length ≤ 1 + 64 * j
  ins : N.ins.length ≤ j
  regs : N.regs.length ≤ j
  outs : N.outs.length ≤ j
theorem Upto.small {N : Nt} {j : Nat} (h : Upto N j) (hj : j ≤ 60) : Small N := ⟨by have := h.g; omega, by have := h.ins; omega, by have := h.regs; omega, by have := h.outs; omega⟩
theorem Upto.mono {N : Nt} {j k : Nat} (h : Upto N j) (hj : j ≤ k) : Upto N k := ⟨by have := h.g; omega, by have := h.ins; omega, by have := h.regs; omega, by have := h.outs; omega⟩
theorem Upto.does {N : Nt} {j : Nat} (h : Upto N j) (hj : j ≤ 60) {rest : List Int} (hg : Good N rest) {w : World} {s : StV} (hs : StOk w s) : Upto (doesN N s).1 (j + 1) := by
  have hm := (h.small hj).g
  obtain ⟨h1, h2, h3, h4⟩ := h
  unfold doesN
  split
  · obtain ⟨a, b, c, d⟩ := addIn_small N s.name s.n
    exact ⟨by omega, by omega, by rw [c]; omega, by rw [d]; omega⟩
  split
  · exact ⟨by show (inputG N.g).nodes.length ≤ _; rw [inputG_len]; omega, by show N.ins.length ≤ _; omega, by show (N.regs ++ [_]).length ≤ _; simp; omega, by show N.outs.length ≤ _; omega⟩
  split
  · obtain ⟨a, b, c, d⟩ := setReg_small N s.a s.b s.c
    exact ⟨by rw [a]; omega, by rw [b]; omega, by rw [c]; omega, by rw [d]; omega⟩
  split
  · obtain ⟨a, b, c, d⟩ := addOut_small N s.name (s.zs.take 70)
    exact ⟨by rw [a]; omega, by rw [b]; omega, by rw [c]; omega, by show (addOut N s.name (s.zs.take 70)).1.outs.length ≤ _; omega⟩
  split
  · have e := (gate_good and_ok hg (by omega) hs.b hs.c).2
    obtain ⟨a, b, c⟩ := gate_same andG N s.b s.c
    exact ⟨by show (gateN andG N s.b s.c).1.g.nodes.length ≤ _; omega, by rw [a]; omega, by rw [b]; omega, by rw [c]; omega⟩
  split
  · have e := (gate_good xor_ok hg (by omega) hs.b hs.c).2
    obtain ⟨a, b, c⟩ := gate_same xorG N s.b s.c
    exact ⟨by show (gateN xorG N s.b s.c).1.g.nodes.length ≤ _; omega, by rw [a]; omega, by rw [b]; omega, by rw [c]; omega⟩
  split
  · exact ⟨by show (inputG N.g).nodes.length ≤ _; rw [inputG_len]; omega, by show N.ins.length ≤ _; omega, by show N.regs.length ≤ _; omega, by show N.outs.length ≤ _; omega⟩
  · exact ⟨by show N.g.nodes.length ≤ _; omega, by show N.ins.length ≤ _; omega, by show N.regs.length ≤ _; omega, by show N.outs.length ≤ _; omega⟩
/-- What is refused changes nothing. -/
theorem doesN_refused {N : Nt} {s : StV} (h : (doesN N s).2.2 ≠ 0) : (doesN N s).1 = N := by
  unfold doesN at h ⊢
  split
  · rename_i e; rw [if_pos e] at h
    unfold addIn at h ⊢
    split
    · rename_i e2; rw [if_pos e2] at h
      split
      · rfl
      · rename_i e3; rw [if_neg e3] at h; exact absurd rfl h
    · rfl
  rename_i e0; rw [if_neg e0] at h
  split
  · rename_i e; rw [if_pos e] at h; exact absurd rfl h
  rename_i e1; rw [if_neg e1] at h
  split
  · rename_i e; rw [if_pos e] at h
    unfold setReg at h ⊢
    split
    · rfl
    · rename_i i hi
      rw [hi] at h
      simp only at h
      split
      · rename_i e2; rw [if_pos e2] at h; exact absurd rfl h
      · rfl
  rename_i e2; rw [if_neg e2] at h
  split
  · rename_i e; rw [if_pos e] at h
    unfold addOut at h ⊢
    split
    · rename_i e2; rw [if_pos e2] at h
      split
      · rfl
      · rename_i e3; rw [if_neg e3] at h; exact absurd rfl h
    · rfl
  rename_i e3; rw [if_neg e3] at h
  split
  · rename_i e; rw [if_pos e] at h
    unfold gateN at h ⊢
    split
    · rename_i e2; rw [if_pos e2] at h; exact absurd rfl h
    · rfl
  rename_i e4; rw [if_neg e4] at h
  split
  · rename_i e; rw [if_pos e] at h
    unfold gateN at h ⊢
    split
    · rename_i e2; rw [if_pos e2] at h; exact absurd rfl h
    · rfl
  rename_i e5; rw [if_neg e5] at h
  split
  · rename_i e; rw [if_pos e] at h; exact absurd rfl h
  · rfl
end Go.Proofs.YtlkainmkhofpaaaGreat
end

section
namespace Go.Proofs.YtlkainmkhofpaaaGreat
open Go.RowKit Go.Maps Bits
set_option maxRecDepth 100000

theorem omap_below {H : Type} {P : Program} {k : TypeId} {R : Value → Option (DataW H × List MemPlace)} {w w' : World} {b n : Nat} {D : DataW H} (h : w.ownsMap P k R b n D) (hb : Below w.heap.size w w') : w'.ownsMap P k R b n D := by
  have hl := h.lt
  obtain ⟨es, cl, h1, r⟩ := h
  exact ⟨es, cl, (hb.block _ hl).trans h1, r⟩
def skey (s : ByteArray) : Lit := .string s.data.toList
theorem slaw : Keyed Tryz.prog 9 := string_keyed Tryz.underlying9
theorem skey_of (s : ByteArray) (hs : s.size ≤ maxLen) : keyOf Tryz.prog 9 (.string s) = some (skey s) := WideMaps.keyOf_string_mk Tryz.underlying9 hs
theorem skey_key (s : ByteArray) (hs : s.size ≤ maxLen) : WideAt.IsKeyLit (skey s) := slaw.key (skey_of s hs)
theorem skey_same {s t : ByteArray} : skey s = skey t ↔ sameN s t = true := by
  unfold skey sameN
  rw [beq_iff_eq, ByteArray.toList_eq, ByteArray.toList_eq]
  constructor
  · intro h; exact Lit.string.inj h
  · intro h; rw [h]
theorem zeroU (w : World) : (zeroValue 195).run Tryz.prog w = .ok (.agg #[]) w := by kernel_rfl
theorem tidyE : Tidy (DataW.map [] : DataW Unit) := tidy_empty
/-- The names seen so far. -/
structure Names (w wr : World) (L : List Bus) (j : Nat) (D : DataW Unit) : Prop where
  own : wr.ownsMap Tryz.prog 9 unitElem w.heap.size j D
  map : IsMap D
  has : ∀ s, s.size ≤ maxLen → has D (skey s) = (L.take j).any (fun b => sameN b.name s)
theorem Names.step {w wr w2 : World} {L : List Bus} {j : Nat} {D : DataW Unit} (h : Names w wr L j D) (hb : Below wr.heap.size wr w2) : Names w w2 L j D := ⟨omap_below h.own hb, h.map, h.has⟩
theorem Names.next {w wr w7 : World} {L : List Bus} {j : Nat} {D : DataW Unit} (h : Names w wr L j D) (hj : j < L.length) (hs : L[j].name.size ≤ maxLen) (ho : w7.ownsMap Tryz.prog 9 unitElem w.heap.size (j + 1) (D.put (skey L[j].name) (.agg []))) : Names w w7 L (j + 1) (D.put (skey L[j].name) (.agg [])) := by
  refine ⟨ho, h.map.put _ _, fun s hs2 => ?_⟩
  rw [List.take_add_one, List.any_append]
  have e1 : L[j]? = some L[j] := List.getElem?_eq_getElem hj
  simp only [e1, Option.toList_some, List.any_cons, List.any_nil, Bool.or_false]
  by_cases e : skey s = skey L[j].name
  · rw [e, has_put_same h.map (skey_key _ hs)]
    have : sameN L[j].name s = true := skey_same.1 e.symm
    simp [this]
  · rw [has_put_other e, h.has s hs2]
    have : sameN L[j].name s = false := by
      cases hh : sameN L[j].name s with
      | false => rfl
      | true => exact absurd (skey_same.2 hh).symm e
    simp [this]
theorem mayName_size {s : ByteArray} (h : mayName s = true) : s.size ≤ 80 := by
  unfold mayName at h
  simp at h
  omega
theorem seen_not {L : List Bus} (h : NamesApart L) {j : Nat} (hj : j < L.length) : (L.take j).any (fun b => sameN b.name L[j].name) = false := by
  rw [List.any_eq_false]
  intro b hb
  obtain ⟨i, hi, rfl⟩ := List.getElem_of_mem hb
  simp only [List.length_take] at hi
  have := List.pairwise_iff_getElem.1 h i j (by omega) hj (by omega)
  simp [this]
set_option maxHeartbeats 2000000 in
theorem mayBe_any {w : World} {a : Option Addr} {n c : Nat} {L : List Bus} (h : BusRow w (.slice a n c) L) (hn : n = L.length) (hok : BusesOk L) (hm : n ≤ 10000) :
    Calls Tryz.prog 80 #[.slice a n c] w fun e w' => e = .returned (.bool true) ∧ Below w.heap.size w w' := by
  have H := Lib.hid h
  have HN := Lib.hid hn
  have HO := Lib.hid hok
  have hmm := @run_makeMap Tryz.prog
  have h0 : Hid (Names w (w.alloc (.map #[] 0)) L 0 (.map [])) := Lib.hid ⟨World.ownsMap_made _ _ _ _, isMap_empty, fun s _ => by simp [Maps.has]⟩
  have hb0 : Hid (Below w.heap.size w (w.alloc (.map #[] 0))) := Lib.hid ((Below.refl _ _).alloc (Nat.le_refl _) _)
  clear h hn hok
  go_enter Tryz.func80, Tryz.ntmps80
  go_wp2
  go_loopw [11] (fun i wr => ∃ (j : Nat) (D : DataW Unit), j ≤ n ∧ i = .int .i64 j ∧ Hid (Names w wr L j D) ∧ Hid (Below w.heap.size w wr)) (fun i _ => n - (intOf i).toNat)
  case atStart => exact ⟨0, _, Nat.zero_le _, rfl, h0, hb0⟩
  case round =>
    clear h0 hb0 hmm
    obtain ⟨j, D, hj, rfl, hF, hB⟩ := hrel
    by_cases hlt : j < n
    · have hjL : j < L.length := by rw [← HN.out]; exact hlt
      obtain ⟨g2, la, lc, rfl, hgl, b0, b1, -⟩ := H.out.at hjL
      have hsz := hB.out.size
      have c0 := stepc hB.out hgl b0
      have c1 := stepc hB.out hgl b1
      have hnm := HO.out.name _ (List.getElem_mem hjL)
      have hwd := HO.out.wide _ (List.getElem_mem hjL)
      have hsz80 := mayName_size hnm
      have hkey := skey_of L[j].name (by unfold maxLen; omega)
      have hhas : Hid (has D (skey L[j].name) = false) := Lib.hid (by rw [hF.out.has _ (by unfold maxLen; omega)]; exact seen_not HO.out.apart hjL)
      have hnext := Lib.hid (fun w7 ho => hF.out.next (w7 := w7) hjL (by unfold maxLen; omega) ho)
      have hown := Lib.hid (fun w2 (hb : Below wr.heap.size wr w2) => (hF.out.step hb).own)
      have hmN := Lib.hid (fun w => MayName_any L[j].name w)
      rw [hnm] at hmN
      have hww : wide (L[j].lits.length : Int) = true := by rw [wide_iff]; omega
      have hmW := Lib.hid (fun w => mayWide_any (L[j].lits.length : Int) w)
      rw [hww] at hmW
      have hkey := Lib.hid hkey
      clear b0 b1 hnm hwd hww hF
      generalize L[j].name = nm at *
      generalize L[j].lits.length = ll at *
      generalize skey nm = kl at *
      have hb4 : Hid (Below wr.heap.size wr ((wr.alloc (.cells #[.string nm, .slice la ll lc] 81)).alloc (.cells #[] 195))) := Lib.hid (((Below.refl _ _).alloc (Nat.le_refl _) _).alloc (by simp) _)
      have hb5 : Hid (Below wr.heap.size wr (wr.alloc (.cells #[.string nm, .slice la ll lc] 81))) := Lib.hid ((Below.refl _ _).alloc (Nat.le_refl _) _)
      have d0 : ((wr.alloc (.cells #[.string nm, .slice la ll lc] 81)).alloc (.cells #[] 195)).cell? ⟨wr.heap.size, 0, none⟩ = some (.string nm) := by simp [go_sem]
      have d1 : ((wr.alloc (.cells #[.string nm, .slice la ll lc] 81)).alloc (.cells #[] 195)).cell? ⟨wr.heap.size, 1, none⟩ = some (.slice la ll lc) := by simp [go_sem]
      have dz : wr.heap.size < ((wr.alloc (.cells #[.string nm, .slice la ll lc] 81)).alloc (.cells #[] 195)).heap.size := by simp; omega
      go_wp2_with (first
        | (at_lookup; refine wpList_lookup_own_unit _ rfl _ _ 194 rfl 9 195 slaw Tryz.underlying194 (zeroU _) w.heap.size j D rfl (hown.out _ hb5.out) _ _ rfl hkey.out ?_; rw [hhas.out])
        | (go_at_call 43; (with_reducible refine (hmN.out _).mono ?_); rintro e w2 ⟨rfl, hb2⟩; have e0 := stepc hb2 dz d0; have e1 := stepc hb2 dz d1; have hb6 := Lib.hid (nextw hb4.out hb2); clear hb2 d0 d1)
        | (go_at_call 44; (with_reducible refine (hmW.out _).mono ?_); rintro e w3 ⟨rfl, rfl⟩)
        | (at_mapUpdate; refine wpList_mapUpdate_own _ rfl _ _ _ 194 rfl 9 195 slaw Tryz.underlying194 unitElem w.heap.size j D rfl (hown.out _ hb6.out) (by unfold maxLen; omega) _ _ kl rfl rfl hkey.out (.agg []) [] unitElem_mk ?_; intro w7 hown7 hgrow7; have hN7 := Lib.hid (hnext.out _ hown7); have hB7 := Lib.hid ((nextw hB.out hb6.out).grown hgrow7 (nextw hB.out hb6.out).size (fun k hk => by cases hk; exact Nat.le_refl _)); clear hown7 hgrow7))
      exact ⟨⟨j + 1, _, by omega, by go_num, hN7, hB7⟩, by simp [intOf]; omega⟩
    · obtain rfl : j = n := by omega
      go_wp2
      go_ret
      exact ⟨rfl, hB.out⟩
theorem allHas_of {G : Gr} {l : List Int} (h : AllThere G l) : allHas G l = true := by
  unfold allHas
  rw [List.all_eq_true]
  intro x hx
  exact (hasB_there (h x hx).1).2 (h x hx)
set_option maxHeartbeats 2000000 in
theorem leansWell_any {w : World} {q : NPl} {N : Nt} {rest : List Int} (h : NetIs w q N) (hg : Good N rest) :
    Calls Tryz.prog 81 #[.pointer (some ⟨q.b, 0, none⟩)] w fun e w' => e = .returned (.bool true) ∧ Below w.heap.size w w' := by
  obtain ⟨ia, ic, ra, rc, oa, oc, e1, e2, e3, c0, c1, c2, c3, c4, -⟩ := h.cells
  have hqlt := h.lt
  have hleO : N.outs.length ≤ 9223372036854775807 := by obtain ⟨K, hK⟩ := h.outs; exact own_maxLen hK.own
  have hleR : N.regs.length ≤ 9223372036854775807 := own_maxLen h.regs
  have hO := Lib.hid (show BusRow w (.slice oa N.outs.length oc) N.outs by have := h.outs; rw [e3] at this; exact this)
  have hR := Lib.hid (show RegRow w (.slice ra N.regs.length rc) N.regs by have := h.regs; rw [e2] at this; exact this)
  have hhas := Lib.hid (fun w2 (hb2 : Below w.heap.size w w2) (a : Option Addr) (n c : Nat) (l : List Int) (hs : Row .u32 w2 a n l) (ht : AllThere N.g l) => (show Calls Tryz.prog 45 #[.pointer (some ⟨q.b, 0, none⟩), .slice a n c] w2 fun e w' => e = .returned (.bool true) ∧ Below w2.heap.size w2 w' from by have := has_any (h.below hb2) hg.wf.pos (c := c) hs (fun x hx => (ht x hx).1); rw [allHas_of ht] at this; exact this))
  have hOT := Lib.hid hg.outT
  have hRT := Lib.hid hg.regT
  generalize N.g = G at *
  clear h hg e1 e2 e3
  go_enter Tryz.func81, Tryz.ntmps81
  go_wp2
  generalize hno : N.outs.length = no at *
  have hno := Lib.hid hno
  go_loopw [12] (fun i wr => ∃ j : Nat, j ≤ no ∧ i = .int .i64 j ∧ Hid (Below w.heap.size w wr)) (fun i _ => no - (intOf i).toNat)
  case atStart => exact ⟨0, Nat.zero_le _, rfl, Lib.hid (Below.refl _ _)⟩
  case round =>
    obtain ⟨j, hj, rfl, hB⟩ := hrel
    by_cases hlt : j < no
    · have hjL : j < N.outs.length := by rw [hno.out]; exact hlt
      obtain ⟨g2, la, lc, rfl, hgl, b0, b1, hr⟩ := hO.out.at hjL
      have d0 := stepc hB.out hgl b0
      have d1 := stepc hB.out hgl b1
      have hT := hOT.out _ (List.getElem_mem hjL)
      have hb4 : Hid (∀ o, Below wr.heap.size wr (wr.alloc o)) := Lib.hid (fun o => (Below.refl _ _).alloc (Nat.le_refl _) _)
      have hh := Lib.hid (fun o => hhas.out (wr.alloc o) (nextw hB.out (hb4.out o)) la N.outs[j].lits.length lc N.outs[j].lits ((hr.below hB.out).below (hb4.out o)).row hT)
      clear b0 b1 hr hT
      generalize N.outs[j].name = nm at *
      generalize N.outs[j].lits.length = ll at *
      go_wp2_with (go_at_call 45; (with_reducible refine (hh.out _).mono ?_); rintro e w3 ⟨rfl, hb3⟩)
      exact ⟨⟨j + 1, by omega, by go_num, Lib.hid (nextw hB.out (nextw (hb4.out _) hb3))⟩, by simp [intOf]; omega⟩
    · obtain rfl : j = no := by omega
      have k3 := stepc hB.out hqlt c3
      clear c0 c1 c2 c4 hO hOT
      go_wp2
      generalize hnr : N.regs.length = nr at *
      have hnr := Lib.hid hnr
      go_loopw [27] (fun i wr => ∃ j : Nat, j ≤ nr ∧ i = .int .i64 j ∧ Hid (Below w.heap.size w wr)) (fun i _ => nr - (intOf i).toNat)
      case atStart => exact ⟨0, Nat.zero_le _, rfl, hB⟩
      case round =>
        clear hB k3
        obtain ⟨i, hi, rfl, hB⟩ := hrel
        by_cases hlt : i < nr
        · have hjL : i < N.regs.length := by rw [hnr.out]; exact hlt
          obtain ⟨g2, rfl, hgl, b0, b1, b2, b3⟩ := hR.out.at hjL
          have d0 := stepc hB.out hgl b0
          have d1 := stepc hB.out hgl b1
          have d2 := stepc hB.out hgl b2
          have d3 := stepc hB.out hgl b3
          obtain ⟨t1, t2⟩ := hRT.out _ (List.getElem_mem hjL)
          have hb4 : Hid (∀ o p, Below wr.heap.size wr ((wr.alloc o).alloc p)) := Lib.hid (fun o p => ((Below.refl _ _).alloc (Nat.le_refl _) _).alloc (by simp) _)
          have hh := Lib.hid (fun o => hhas.out ((wr.alloc o).alloc (.cells #[.int .u32 N.regs[i].d, .int .u32 N.regs[i].en] 40)) (nextw hB.out (hb4.out _ _)) (some ⟨wr.heap.size + 1, 0, none⟩) 2 2 _ (by have := row2 (wr.alloc o) N.regs[i].d N.regs[i].en 40; rw [show (wr.alloc o).heap.size = wr.heap.size + 1 by simp] at this; exact this) (by intro y hy; simp at hy; rcases hy with rfl | rfl <;> assumption))
          clear b0 b1 b2 b3 t1 t2
          generalize N.regs[i] = r at *
          obtain ⟨rq, rd, re, ri⟩ := r
          simp only [] at d0 d1 d2 d3 hh
          go_wp2_with (go_at_call 45; (with_reducible refine (hh.out _).mono ?_); rintro e w3 ⟨rfl, hb3⟩)
          exact ⟨⟨i + 1, by omega, by go_num, Lib.hid (nextw hB.out (nextw (hb4.out _ _) hb3))⟩, by simp [intOf]; omega⟩
        · obtain rfl : i = nr := by omega
          go_wp2
          go_ret
          exact ⟨rfl, hB.out⟩
end Go.Proofs.YtlkainmkhofpaaaGreat
end
