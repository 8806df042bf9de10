/-
  Wants: a step with the document's own netlist.
  The law package's own: a netlist of steps, and the document's.
  EmitOnce: the netlist that Built makes keeps its name.
  EmitOnce: what is used of the text.
  EmitOnce: one thing of a netlist stored anew: a register's D or Init, its own name.
-/
import Derived.Test.YtafoohdndlhbnaaGreatDoorFENR
import Derived.Test.YtafoohdndlhbnaaGreatDoorFENL
import Derived.Test.YtafoohdndlhbnaaGreatDoorFENO
import Derived.Test.YtafoohdndlhbnaaGreatDoorFENT
section
namespace Go.Proofs.YtafoohdndlhbnaaGreatDoor
open Go.RowKit Go.Maps Num Bits
set_option maxRecDepth 100000

def Wants_call (P : StV → Prop) : Prop := ∀ (w0 w : World) (B Bg : Nat) (p : RPl) (N : Nt) (rest : List Int) (s : StV), RN w0 w B Bg p N → Good N rest → Small N → StOk w s → P s →
    Calls Tryz.prog 41 #[.pointer (some ⟨B, 0, none⟩), stVal s] w fun e w' => (∃ v, e = .returned v) ∧ RNext w0 w B Bg (doesN N s).1 w'

theorem wants_0 : Wants_call (fun s => s.what = 0) := by
  intro w0 w B Bg p N rest s h hg hS hs hw
  obtain ⟨K, nm, n, a, b, c, la, ln, lc, zs⟩ := s
  obtain rfl : K = 0 := hw
  have hb1 : Below w.heap.size w (w.alloc (.cells #[.int .i64 0, .string nm, .int .i64 n, .int .u32 a, .int .u32 b, .int .u32 c, .slice la ln lc] 102)) := (Below.refl _ _).alloc (Nat.le_refl _) _
  have h1 := h.step hb1
  have hsg := hS.g
  have hsi := hS.ins
  have hsr := hS.regs
  have hso := hS.outs
  have hf := Lib.hid (fun w2 N2 (hn : RNext w0 (w.alloc (.cells #[.int .i64 0, .string nm, .int .i64 n, .int .u32 a, .int .u32 b, .int .u32 c, .slice la ln lc] 102)) B Bg N2 w2) => RNext.front hb1 hn)
  have hnw := Lib.hid (fun (w2 : World) o => (Below.refl w2.heap.size w2).alloc (Nat.le_refl _) o)
  have hc := Lib.hid (rAddIn_any h1 (by omega) (by omega) nm n)
  rw [show doesN N ⟨0, nm, n, a, b, c, la, ln, lc, zs⟩ = addIn N nm n from rfl]
  unfold stVal
  generalize (addIn N nm n).1 = N' at *
  clear h h1 hg hS hs hb1
  go_enter Tryz.func41, Tryz.ntmps41
  go_wp2_with (go_at_call 105; (with_reducible refine hc.out.mono ?_); rintro e w2 ⟨⟨v1, v2, rfl⟩, hn⟩)
  go_ret2
  exact ⟨⟨_, rfl⟩, hf.out _ _ hn⟩
theorem wants_1 : Wants_call (fun s => s.what = 1) := by
  intro w0 w B Bg p N rest s h hg hS hs hw
  obtain ⟨K, nm, n, a, b, c, la, ln, lc, zs⟩ := s
  obtain rfl : K = 1 := hw
  have hb1 : Below w.heap.size w (w.alloc (.cells #[.int .i64 1, .string nm, .int .i64 n, .int .u32 a, .int .u32 b, .int .u32 c, .slice la ln lc] 102)) := (Below.refl _ _).alloc (Nat.le_refl _) _
  have h1 := h.step hb1
  have hsg := hS.g
  have hsi := hS.ins
  have hsr := hS.regs
  have hso := hS.outs
  have hf := Lib.hid (fun w2 N2 (hn : RNext w0 (w.alloc (.cells #[.int .i64 1, .string nm, .int .i64 n, .int .u32 a, .int .u32 b, .int .u32 c, .slice la ln lc] 102)) B Bg N2 w2) => RNext.front hb1 hn)
  have hnw := Lib.hid (fun (w2 : World) o => (Below.refl w2.heap.size w2).alloc (Nat.le_refl _) o)
  have hc := Lib.hid (fun i => rAddReg_any h1 (by omega) (by omega) i)
  rw [show doesN N ⟨1, nm, n, a, b, c, la, ln, lc, zs⟩ = ((addReg N (n.tmod 2 != 0)).1, [(addReg N (n.tmod 2 != 0)).2], 0) from rfl]
  simp only []
  unfold stVal
  clear h h1 hg hS hs hb1
  go_enter Tryz.func41, Tryz.ntmps41
  go_wp2_with (go_at_call 106; (with_reducible refine (hc.out _).mono ?_); rintro e w2 ⟨⟨v1, v2, rfl⟩, hn⟩)
  go_ret2
  exact ⟨⟨_, rfl⟩, (hf.out _ _ hn).then (hnw.out _ _)⟩
theorem wants_2 : Wants_call (fun s => s.what = 2) := by
  intro w0 w B Bg p N rest s h hg hS hs hw
  obtain ⟨K, nm, n, a, b, c, la, ln, lc, zs⟩ := s
  obtain rfl : K = 2 := hw
  have hb1 : Below w.heap.size w (w.alloc (.cells #[.int .i64 2, .string nm, .int .i64 n, .int .u32 a, .int .u32 b, .int .u32 c, .slice la ln lc] 102)) := (Below.refl _ _).alloc (Nat.le_refl _) _
  have h1 := h.step hb1
  have hsg := hS.g
  have hsi := hS.ins
  have hsr := hS.regs
  have hso := hS.outs
  have hf := Lib.hid (fun w2 N2 (hn : RNext w0 (w.alloc (.cells #[.int .i64 2, .string nm, .int .i64 n, .int .u32 a, .int .u32 b, .int .u32 c, .slice la ln lc] 102)) B Bg N2 w2) => RNext.front hb1 hn)
  have hnw := Lib.hid (fun (w2 : World) o => (Below.refl w2.heap.size w2).alloc (Nat.le_refl _) o)
  have hc := Lib.hid (rSetReg_any h1 (by omega) (by omega) a b c hs.b hs.c)
  rw [show doesN N ⟨2, nm, n, a, b, c, la, ln, lc, zs⟩ = ((setReg N a b c).1, [], (setReg N a b c).2) from rfl]
  simp only []
  unfold stVal
  generalize (setReg N a b c).1 = N' at *
  clear h h1 hg hS hs hb1
  go_enter Tryz.func41, Tryz.ntmps41
  go_wp2_with (go_at_call 107; (with_reducible refine hc.out.mono ?_); rintro e w2 ⟨⟨v1, rfl⟩, hn⟩)
  go_ret2
  exact ⟨⟨_, rfl⟩, hf.out _ _ hn⟩
theorem wants_n : Wants_call (fun s => s.what ≠ 0 ∧ s.what ≠ 1 ∧ s.what ≠ 2 ∧ s.what ≠ 3 ∧ s.what ≠ 4 ∧ s.what ≠ 5 ∧ s.what ≠ 6 ∧ s.what ≠ 7 ∧ s.what ≠ 8) := by
  intro w0 w B Bg p N rest s h hg hS hs hw
  obtain ⟨K, nm, n, a, b, c, la, ln, lc, zs⟩ := s
  obtain ⟨k0, k1, k2, k3, k4, k5, k6, k7, k8⟩ := hw
  simp only [] at k0 k1 k2 k3 k4 k5 k6 k7 k8
  have hb1 : Below w.heap.size w (w.alloc (.cells #[.int .i64 K, .string nm, .int .i64 n, .int .u32 a, .int .u32 b, .int .u32 c, .slice la ln lc] 102)) := (Below.refl _ _).alloc (Nat.le_refl _) _
  have hf := Lib.hid (RNext.of_below h hb1)
  rw [show doesN N ⟨K, nm, n, a, b, c, la, ln, lc, zs⟩ = (N, [], 0) by unfold doesN; simp [k0, k1, k2, k3, k4, k5, k6, k7, k8]]
  unfold stVal
  simp only []
  have g0 := beqf k0
  have g1 := beqf k1
  have g2 := beqf k2
  have g3 := beqf k3
  have g4 := beqf k4
  have g5 := beqf k5
  have g6 := beqf k6
  have g7 := beqf k7
  have g8 := beqf k8
  clear h hg hS hs hb1
  go_enter Tryz.func41, Tryz.ntmps41
  go_wp2
  go_ret2
  exact ⟨⟨_, rfl⟩, hf.out⟩
set_option maxHeartbeats 2000000 in
theorem wants_4 : Wants_call (fun s => s.what = 4) := by
  intro w0 w B Bg p N rest s h hg hS hs hw
  obtain ⟨K, nm, n, a, b, c, la, ln, lc, zs⟩ := s
  obtain rfl : K = 4 := hw
  have hb1 : Below w.heap.size w (w.alloc (.cells #[.int .i64 4, .string nm, .int .i64 n, .int .u32 a, .int .u32 b, .int .u32 c, .slice la ln lc] 102)) := (Below.refl _ _).alloc (Nat.le_refl _) _
  have h1 := h.step hb1
  have hsg := hS.g
  have hsi := hS.ins
  have hsr := hS.regs
  have hso := hS.outs
  have hf := Lib.hid (fun w2 N2 (hn : RNext w0 (w.alloc (.cells #[.int .i64 4, .string nm, .int .i64 n, .int .u32 a, .int .u32 b, .int .u32 c, .slice la ln lc] 102)) B Bg N2 w2) => RNext.front hb1 hn)
  have hnw := Lib.hid (fun (w2 : World) o => (Below.refl w2.heap.size w2).alloc (Nat.le_refl _) o)
  have hbd := ((Below.refl (w.alloc (.cells #[.int .i64 4, .string nm, .int .i64 n, .int .u32 a, .int .u32 b, .int .u32 c, .slice la ln lc] 102)).heap.size (w.alloc (.cells #[.int .i64 4, .string nm, .int .i64 n, .int .u32 a, .int .u32 b, .int .u32 c, .slice la ln lc] 102))).alloc (Nat.le_refl _) (.cells #[.int .u32 b, .int .u32 c] 65)).drew
  have h2 := h1.step hbd
  have hma := Lib.hid (rmany_any (op := 1) rtwo_and' and_ok (by omega) h2.g hg.wf (by omega) hs.b hs.c (cap := 2) ((row2 (w.alloc (.cells #[.int .i64 4, .string nm, .int .i64 n, .int .u32 a, .int .u32 b, .int .u32 c, .slice la ln lc] 102)) b c 65).step ((Below.refl _ _).drew)))
  have hgr := Lib.hid (fun w2 g1 c1 (hR : Rf w0 w2 Bg g1 c1 (manyR andG N.g b c).fold (manyR andG N.g b c).hash (manyR andG N.g b c).nodes) hk => And.intro (h2.growN hR hk) (h2.grow hR hk).cells)
  have hrn : Hid ((doesN N ⟨4, nm, n, a, b, c, la, ln, lc, zs⟩).1 = { N with g := manyR andG N.g b c }) := Lib.hid (by
    show (gateN andG N b c).1 = _
    unfold gateN manyR
    split <;> rfl)
  rw [hrn.out]
  obtain ⟨-, -, -, -, -, -, -, -, -, c0, -⟩ := h1.cells
  have hlb := h1.lt
  generalize manyR andG N.g b c = G' at *
  have k0 : (w.alloc (.cells #[.int .i64 4, .string nm, .int .i64 n, .int .u32 a, .int .u32 b, .int .u32 c, .slice la ln lc] 102)).cell? ⟨w.heap.size, 0, none⟩ = some (.int .i64 4) := by simp [go_sem]
  have k4 : (w.alloc (.cells #[.int .i64 4, .string nm, .int .i64 n, .int .u32 a, .int .u32 b, .int .u32 c, .slice la ln lc] 102)).cell? ⟨w.heap.size, 4, none⟩ = some (.int .u32 b) := by simp [go_sem]
  have k5 : (w.alloc (.cells #[.int .i64 4, .string nm, .int .i64 n, .int .u32 a, .int .u32 b, .int .u32 c, .slice la ln lc] 102)).cell? ⟨w.heap.size, 5, none⟩ = some (.int .u32 c) := by simp [go_sem]
  have hsc : (w.alloc (.cells #[.int .i64 4, .string nm, .int .i64 n, .int .u32 a, .int .u32 b, .int .u32 c, .slice la ln lc] 102)).heap[w.heap.size]? = some (.cells #[.int .i64 4, .string nm, .int .i64 n, .int .u32 a, .int .u32 b, .int .u32 c, .slice la ln lc] 102 (0, 0)) := Deep.blk_alloc_new _ _
  generalize hw1 : w.alloc (.cells #[.int .i64 4, .string nm, .int .i64 n, .int .u32 a, .int .u32 b, .int .u32 c, .slice la ln lc] 102) = w1 at *
  have hbz : (w.heap.size : Nat) < w1.heap.size := World.block_lt_of_cell? w1 _ k4
  have hKK := Lib.hid (fun w3 (hn : Kept (RK (w1.alloc (.cells #[.int .u32 b, .int .u32 c] 65)).drew) (w1.alloc (.cells #[.int .u32 b, .int .u32 c] 65)).drew w3) => (show w3.cell? ⟨w.heap.size, 4, none⟩ = some (.int .u32 b) ∧ w3.cell? ⟨w.heap.size, 5, none⟩ = some (.int .u32 c) by
    have e0 := (hbd.block _ hbz).trans hsc
    have hk := hn.block w.heap.size (Nat.lt_of_lt_of_le hbz hbd.size) (fun ⟨cur, T, fz, e1, e2⟩ => by rw [e0] at e1; simp at e1; obtain ⟨-, rfl, -⟩ := e1; rcases e2 with e2 | e2 <;> revert e2 <;> decide)
    have e := hk.trans e0
    exact ⟨by simp [World.cell?, e], by simp [World.cell?, e]⟩))
  have hFr := Lib.hid (fun w3 N2 (hn : RNext w0 (w1.alloc (.cells #[.int .u32 b, .int .u32 c] 65)).drew B Bg N2 w3) => hf.out w3 N2 (RNext.front hbd hn))
  clear h h1 h2 hg hS hs hb1 hsc hbd hf
  unfold stVal
  go_enter Tryz.func41, Tryz.ntmps41
  go_upto_region 16 with fail
  go_region_held3 (fun w' => w'.cell? ⟨w.heap.size, 4, none⟩ = some (.int .u32 b) ∧ w'.cell? ⟨w.heap.size, 5, none⟩ = some (.int .u32 c) ∧ w'.cell? ⟨B, 0, none⟩ = some (.pointer (some ⟨Bg, 0, none⟩))) (go_keep) (first
    | (go_at_call 109; (with_reducible refine hma.out.mono ?_); rintro e w7 ⟨⟨v1, v2, rfl⟩, g7, c7, hR, hk7⟩; obtain ⟨n4, n5⟩ := hKK.out _ hk7; obtain ⟨hnx, ha⟩ := hgr.out _ _ _ hR hk7; obtain ⟨-, -, -, -, -, -, -, -, -, n0, -⟩ := ha; have hnx := Lib.hid hnx; clear hR hk7))
  all_goals go_wp2
  all_goals go_ret2
  all_goals exact ⟨⟨_, rfl⟩, (hFr.out _ _ hnx.out).then (hnw.out _ _)⟩
set_option maxHeartbeats 2000000 in
theorem wants_5 : Wants_call (fun s => s.what = 5) := by
  intro w0 w B Bg p N rest s h hg hS hs hw
  obtain ⟨K, nm, n, a, b, c, la, ln, lc, zs⟩ := s
  obtain rfl : K = 5 := hw
  have hb1 : Below w.heap.size w (w.alloc (.cells #[.int .i64 5, .string nm, .int .i64 n, .int .u32 a, .int .u32 b, .int .u32 c, .slice la ln lc] 102)) := (Below.refl _ _).alloc (Nat.le_refl _) _
  have h1 := h.step hb1
  have hsg := hS.g
  have hsi := hS.ins
  have hsr := hS.regs
  have hso := hS.outs
  have hf := Lib.hid (fun w2 N2 (hn : RNext w0 (w.alloc (.cells #[.int .i64 5, .string nm, .int .i64 n, .int .u32 a, .int .u32 b, .int .u32 c, .slice la ln lc] 102)) B Bg N2 w2) => RNext.front hb1 hn)
  have hnw := Lib.hid (fun (w2 : World) o => (Below.refl w2.heap.size w2).alloc (Nat.le_refl _) o)
  have hbd := ((Below.refl (w.alloc (.cells #[.int .i64 5, .string nm, .int .i64 n, .int .u32 a, .int .u32 b, .int .u32 c, .slice la ln lc] 102)).heap.size (w.alloc (.cells #[.int .i64 5, .string nm, .int .i64 n, .int .u32 a, .int .u32 b, .int .u32 c, .slice la ln lc] 102))).alloc (Nat.le_refl _) (.cells #[.int .u32 b, .int .u32 c] 65)).drew
  have h2 := h1.step hbd
  have hma := Lib.hid (rmany_any (op := 1) rtwo_and' and_ok (by omega) h2.g hg.wf (by omega) hs.b hs.c (cap := 2) ((row2 (w.alloc (.cells #[.int .i64 5, .string nm, .int .i64 n, .int .u32 a, .int .u32 b, .int .u32 c, .slice la ln lc] 102)) b c 65).step ((Below.refl _ _).drew)))
  have hgr := Lib.hid (fun w2 g1 c1 (hR : Rf w0 w2 Bg g1 c1 (manyR andG N.g b c).fold (manyR andG N.g b c).hash (manyR andG N.g b c).nodes) hk => And.intro (h2.growN hR hk) (h2.grow hR hk).cells)
  have hrn : Hid ((doesN N ⟨5, nm, n, a, b, c, la, ln, lc, zs⟩).1 = { N with g := manyR andG N.g b c }) := Lib.hid (by
    show (gateN andG N b c).1 = _
    unfold gateN manyR
    split <;> rfl)
  rw [hrn.out]
  obtain ⟨-, -, -, -, -, -, -, -, -, c0, -⟩ := h1.cells
  have hlb := h1.lt
  generalize manyR andG N.g b c = G' at *
  have k0 : (w.alloc (.cells #[.int .i64 5, .string nm, .int .i64 n, .int .u32 a, .int .u32 b, .int .u32 c, .slice la ln lc] 102)).cell? ⟨w.heap.size, 0, none⟩ = some (.int .i64 5) := by simp [go_sem]
  have k4 : (w.alloc (.cells #[.int .i64 5, .string nm, .int .i64 n, .int .u32 a, .int .u32 b, .int .u32 c, .slice la ln lc] 102)).cell? ⟨w.heap.size, 4, none⟩ = some (.int .u32 b) := by simp [go_sem]
  have k5 : (w.alloc (.cells #[.int .i64 5, .string nm, .int .i64 n, .int .u32 a, .int .u32 b, .int .u32 c, .slice la ln lc] 102)).cell? ⟨w.heap.size, 5, none⟩ = some (.int .u32 c) := by simp [go_sem]
  have hsc : (w.alloc (.cells #[.int .i64 5, .string nm, .int .i64 n, .int .u32 a, .int .u32 b, .int .u32 c, .slice la ln lc] 102)).heap[w.heap.size]? = some (.cells #[.int .i64 5, .string nm, .int .i64 n, .int .u32 a, .int .u32 b, .int .u32 c, .slice la ln lc] 102 (0, 0)) := Deep.blk_alloc_new _ _
  generalize hw1 : w.alloc (.cells #[.int .i64 5, .string nm, .int .i64 n, .int .u32 a, .int .u32 b, .int .u32 c, .slice la ln lc] 102) = w1 at *
  have hbz : (w.heap.size : Nat) < w1.heap.size := World.block_lt_of_cell? w1 _ k4
  have hKK := Lib.hid (fun w3 (hn : Kept (RK (w1.alloc (.cells #[.int .u32 b, .int .u32 c] 65)).drew) (w1.alloc (.cells #[.int .u32 b, .int .u32 c] 65)).drew w3) => (show w3.cell? ⟨w.heap.size, 4, none⟩ = some (.int .u32 b) ∧ w3.cell? ⟨w.heap.size, 5, none⟩ = some (.int .u32 c) by
    have e0 := (hbd.block _ hbz).trans hsc
    have hk := hn.block w.heap.size (Nat.lt_of_lt_of_le hbz hbd.size) (fun ⟨cur, T, fz, e1, e2⟩ => by rw [e0] at e1; simp at e1; obtain ⟨-, rfl, -⟩ := e1; rcases e2 with e2 | e2 <;> revert e2 <;> decide)
    have e := hk.trans e0
    exact ⟨by simp [World.cell?, e], by simp [World.cell?, e]⟩))
  have hFr := Lib.hid (fun w3 N2 (hn : RNext w0 (w1.alloc (.cells #[.int .u32 b, .int .u32 c] 65)).drew B Bg N2 w3) => hf.out w3 N2 (RNext.front hbd hn))
  clear h h1 h2 hg hS hs hb1 hsc hbd hf
  unfold stVal
  go_enter Tryz.func41, Tryz.ntmps41
  go_upto_region 16 with fail
  go_region_held3 (fun w' => w'.cell? ⟨w.heap.size, 4, none⟩ = some (.int .u32 b) ∧ w'.cell? ⟨w.heap.size, 5, none⟩ = some (.int .u32 c) ∧ w'.cell? ⟨B, 0, none⟩ = some (.pointer (some ⟨Bg, 0, none⟩))) (go_keep) (first
    | (go_at_call 109; (with_reducible refine hma.out.mono ?_); rintro e w7 ⟨⟨v1, v2, rfl⟩, g7, c7, hR, hk7⟩; obtain ⟨n4, n5⟩ := hKK.out _ hk7; obtain ⟨hnx, ha⟩ := hgr.out _ _ _ hR hk7; obtain ⟨-, -, -, -, -, -, -, -, -, n0, -⟩ := ha; have hnx := Lib.hid hnx; clear hR hk7))
  all_goals go_wp2
  all_goals go_ret2
  all_goals exact ⟨⟨_, rfl⟩, (hFr.out _ _ hnx.out).then (hnw.out _ _)⟩
set_option maxHeartbeats 2000000 in
theorem wants_6 : Wants_call (fun s => s.what = 6) := by
  intro w0 w B Bg p N rest s h hg hS hs hw
  obtain ⟨K, nm, n, a, b, c, la, ln, lc, zs⟩ := s
  obtain rfl : K = 6 := hw
  have hb1 : Below w.heap.size w (w.alloc (.cells #[.int .i64 6, .string nm, .int .i64 n, .int .u32 a, .int .u32 b, .int .u32 c, .slice la ln lc] 102)) := (Below.refl _ _).alloc (Nat.le_refl _) _
  have h1 := h.step hb1
  have hsg := hS.g
  have hsi := hS.ins
  have hsr := hS.regs
  have hso := hS.outs
  have hf := Lib.hid (fun w2 N2 (hn : RNext w0 (w.alloc (.cells #[.int .i64 6, .string nm, .int .i64 n, .int .u32 a, .int .u32 b, .int .u32 c, .slice la ln lc] 102)) B Bg N2 w2) => RNext.front hb1 hn)
  have hnw := Lib.hid (fun (w2 : World) o => (Below.refl w2.heap.size w2).alloc (Nat.le_refl _) o)
  have hbd := ((Below.refl (w.alloc (.cells #[.int .i64 6, .string nm, .int .i64 n, .int .u32 a, .int .u32 b, .int .u32 c, .slice la ln lc] 102)).heap.size (w.alloc (.cells #[.int .i64 6, .string nm, .int .i64 n, .int .u32 a, .int .u32 b, .int .u32 c, .slice la ln lc] 102))).alloc (Nat.le_refl _) (.cells #[.int .u32 b, .int .u32 c] 65)).drew
  have h2 := h1.step hbd
  have hma := Lib.hid (rmany_any (op := 1) rtwo_and' and_ok (by omega) h2.g hg.wf (by omega) hs.b hs.c (cap := 2) ((row2 (w.alloc (.cells #[.int .i64 6, .string nm, .int .i64 n, .int .u32 a, .int .u32 b, .int .u32 c, .slice la ln lc] 102)) b c 65).step ((Below.refl _ _).drew)))
  have hgr := Lib.hid (fun w2 g1 c1 (hR : Rf w0 w2 Bg g1 c1 (manyR andG N.g b c).fold (manyR andG N.g b c).hash (manyR andG N.g b c).nodes) hk => And.intro (h2.growN hR hk) (h2.grow hR hk).cells)
  have hrn : Hid ((doesN N ⟨6, nm, n, a, b, c, la, ln, lc, zs⟩).1 = { N with g := manyR andG N.g b c }) := Lib.hid (by
    show (gateN andG N b c).1 = _
    unfold gateN manyR
    split <;> rfl)
  rw [hrn.out]
  obtain ⟨-, -, -, -, -, -, -, -, -, c0, -⟩ := h1.cells
  have hlb := h1.lt
  generalize manyR andG N.g b c = G' at *
  have k0 : (w.alloc (.cells #[.int .i64 6, .string nm, .int .i64 n, .int .u32 a, .int .u32 b, .int .u32 c, .slice la ln lc] 102)).cell? ⟨w.heap.size, 0, none⟩ = some (.int .i64 6) := by simp [go_sem]
  have k4 : (w.alloc (.cells #[.int .i64 6, .string nm, .int .i64 n, .int .u32 a, .int .u32 b, .int .u32 c, .slice la ln lc] 102)).cell? ⟨w.heap.size, 4, none⟩ = some (.int .u32 b) := by simp [go_sem]
  have k5 : (w.alloc (.cells #[.int .i64 6, .string nm, .int .i64 n, .int .u32 a, .int .u32 b, .int .u32 c, .slice la ln lc] 102)).cell? ⟨w.heap.size, 5, none⟩ = some (.int .u32 c) := by simp [go_sem]
  have hsc : (w.alloc (.cells #[.int .i64 6, .string nm, .int .i64 n, .int .u32 a, .int .u32 b, .int .u32 c, .slice la ln lc] 102)).heap[w.heap.size]? = some (.cells #[.int .i64 6, .string nm, .int .i64 n, .int .u32 a, .int .u32 b, .int .u32 c, .slice la ln lc] 102 (0, 0)) := Deep.blk_alloc_new _ _
  generalize hw1 : w.alloc (.cells #[.int .i64 6, .string nm, .int .i64 n, .int .u32 a, .int .u32 b, .int .u32 c, .slice la ln lc] 102) = w1 at *
  have hbz : (w.heap.size : Nat) < w1.heap.size := World.block_lt_of_cell? w1 _ k4
  have hKK := Lib.hid (fun w3 (hn : Kept (RK (w1.alloc (.cells #[.int .u32 b, .int .u32 c] 65)).drew) (w1.alloc (.cells #[.int .u32 b, .int .u32 c] 65)).drew w3) => (show w3.cell? ⟨w.heap.size, 4, none⟩ = some (.int .u32 b) ∧ w3.cell? ⟨w.heap.size, 5, none⟩ = some (.int .u32 c) by
    have e0 := (hbd.block _ hbz).trans hsc
    have hk := hn.block w.heap.size (Nat.lt_of_lt_of_le hbz hbd.size) (fun ⟨cur, T, fz, e1, e2⟩ => by rw [e0] at e1; simp at e1; obtain ⟨-, rfl, -⟩ := e1; rcases e2 with e2 | e2 <;> revert e2 <;> decide)
    have e := hk.trans e0
    exact ⟨by simp [World.cell?, e], by simp [World.cell?, e]⟩))
  have hFr := Lib.hid (fun w3 N2 (hn : RNext w0 (w1.alloc (.cells #[.int .u32 b, .int .u32 c] 65)).drew B Bg N2 w3) => hf.out w3 N2 (RNext.front hbd hn))
  clear h h1 h2 hg hS hs hb1 hsc hbd hf
  unfold stVal
  go_enter Tryz.func41, Tryz.ntmps41
  go_upto_region 16 with fail
  go_region_held3 (fun w' => w'.cell? ⟨w.heap.size, 4, none⟩ = some (.int .u32 b) ∧ w'.cell? ⟨w.heap.size, 5, none⟩ = some (.int .u32 c) ∧ w'.cell? ⟨B, 0, none⟩ = some (.pointer (some ⟨Bg, 0, none⟩))) (go_keep) (first
    | (go_at_call 109; (with_reducible refine hma.out.mono ?_); rintro e w7 ⟨⟨v1, v2, rfl⟩, g7, c7, hR, hk7⟩; obtain ⟨n4, n5⟩ := hKK.out _ hk7; obtain ⟨hnx, ha⟩ := hgr.out _ _ _ hR hk7; obtain ⟨-, -, -, -, -, -, -, -, -, n0, -⟩ := ha; have hnx := Lib.hid hnx; clear hR hk7))
  all_goals go_wp2
  all_goals go_ret2
  all_goals exact ⟨⟨_, rfl⟩, (hFr.out _ _ hnx.out).then (hnw.out _ _)⟩
set_option maxHeartbeats 2000000 in
theorem wants_7 : Wants_call (fun s => s.what = 7) := by
  intro w0 w B Bg p N rest s h hg hS hs hw
  obtain ⟨K, nm, n, a, b, c, la, ln, lc, zs⟩ := s
  obtain rfl : K = 7 := hw
  have hb1 : Below w.heap.size w (w.alloc (.cells #[.int .i64 7, .string nm, .int .i64 n, .int .u32 a, .int .u32 b, .int .u32 c, .slice la ln lc] 102)) := (Below.refl _ _).alloc (Nat.le_refl _) _
  have h1 := h.step hb1
  have hsg := hS.g
  have hsi := hS.ins
  have hsr := hS.regs
  have hso := hS.outs
  have hf := Lib.hid (fun w2 N2 (hn : RNext w0 (w.alloc (.cells #[.int .i64 7, .string nm, .int .i64 n, .int .u32 a, .int .u32 b, .int .u32 c, .slice la ln lc] 102)) B Bg N2 w2) => RNext.front hb1 hn)
  have hnw := Lib.hid (fun (w2 : World) o => (Below.refl w2.heap.size w2).alloc (Nat.le_refl _) o)
  have hbd := ((Below.refl (w.alloc (.cells #[.int .i64 7, .string nm, .int .i64 n, .int .u32 a, .int .u32 b, .int .u32 c, .slice la ln lc] 102)).heap.size (w.alloc (.cells #[.int .i64 7, .string nm, .int .i64 n, .int .u32 a, .int .u32 b, .int .u32 c, .slice la ln lc] 102))).alloc (Nat.le_refl _) (.cells #[.int .u32 b, .int .u32 c] 65)).drew
  have h2 := h1.step hbd
  have hma := Lib.hid (rmany_any (op := 3) rtwo_xor xor_ok (by omega) h2.g hg.wf (by omega) hs.b hs.c (cap := 2) ((row2 (w.alloc (.cells #[.int .i64 7, .string nm, .int .i64 n, .int .u32 a, .int .u32 b, .int .u32 c, .slice la ln lc] 102)) b c 65).step ((Below.refl _ _).drew)))
  have hgr := Lib.hid (fun w2 g1 c1 (hR : Rf w0 w2 Bg g1 c1 (manyR xorG N.g b c).fold (manyR xorG N.g b c).hash (manyR xorG N.g b c).nodes) hk => And.intro (h2.growN hR hk) (h2.grow hR hk).cells)
  have hrn : Hid ((doesN N ⟨7, nm, n, a, b, c, la, ln, lc, zs⟩).1 = { N with g := manyR xorG N.g b c }) := Lib.hid (by
    show (gateN xorG N b c).1 = _
    unfold gateN manyR
    split <;> rfl)
  rw [hrn.out]
  obtain ⟨-, -, -, -, -, -, -, -, -, c0, -⟩ := h1.cells
  have hlb := h1.lt
  generalize manyR xorG N.g b c = G' at *
  have k0 : (w.alloc (.cells #[.int .i64 7, .string nm, .int .i64 n, .int .u32 a, .int .u32 b, .int .u32 c, .slice la ln lc] 102)).cell? ⟨w.heap.size, 0, none⟩ = some (.int .i64 7) := by simp [go_sem]
  have k4 : (w.alloc (.cells #[.int .i64 7, .string nm, .int .i64 n, .int .u32 a, .int .u32 b, .int .u32 c, .slice la ln lc] 102)).cell? ⟨w.heap.size, 4, none⟩ = some (.int .u32 b) := by simp [go_sem]
  have k5 : (w.alloc (.cells #[.int .i64 7, .string nm, .int .i64 n, .int .u32 a, .int .u32 b, .int .u32 c, .slice la ln lc] 102)).cell? ⟨w.heap.size, 5, none⟩ = some (.int .u32 c) := by simp [go_sem]
  have hsc : (w.alloc (.cells #[.int .i64 7, .string nm, .int .i64 n, .int .u32 a, .int .u32 b, .int .u32 c, .slice la ln lc] 102)).heap[w.heap.size]? = some (.cells #[.int .i64 7, .string nm, .int .i64 n, .int .u32 a, .int .u32 b, .int .u32 c, .slice la ln lc] 102 (0, 0)) := Deep.blk_alloc_new _ _
  generalize hw1 : w.alloc (.cells #[.int .i64 7, .string nm, .int .i64 n, .int .u32 a, .int .u32 b, .int .u32 c, .slice la ln lc] 102) = w1 at *
  have hbz : (w.heap.size : Nat) < w1.heap.size := World.block_lt_of_cell? w1 _ k4
  have hKK := Lib.hid (fun w3 (hn : Kept (RK (w1.alloc (.cells #[.int .u32 b, .int .u32 c] 65)).drew) (w1.alloc (.cells #[.int .u32 b, .int .u32 c] 65)).drew w3) => (show w3.cell? ⟨w.heap.size, 4, none⟩ = some (.int .u32 b) ∧ w3.cell? ⟨w.heap.size, 5, none⟩ = some (.int .u32 c) by
    have e0 := (hbd.block _ hbz).trans hsc
    have hk := hn.block w.heap.size (Nat.lt_of_lt_of_le hbz hbd.size) (fun ⟨cur, T, fz, e1, e2⟩ => by rw [e0] at e1; simp at e1; obtain ⟨-, rfl, -⟩ := e1; rcases e2 with e2 | e2 <;> revert e2 <;> decide)
    have e := hk.trans e0
    exact ⟨by simp [World.cell?, e], by simp [World.cell?, e]⟩))
  have hFr := Lib.hid (fun w3 N2 (hn : RNext w0 (w1.alloc (.cells #[.int .u32 b, .int .u32 c] 65)).drew B Bg N2 w3) => hf.out w3 N2 (RNext.front hbd hn))
  clear h h1 h2 hg hS hs hb1 hsc hbd hf
  unfold stVal
  go_enter Tryz.func41, Tryz.ntmps41
  go_upto_region 18 with fail
  go_region_held3 (fun w' => w'.cell? ⟨w.heap.size, 4, none⟩ = some (.int .u32 b) ∧ w'.cell? ⟨w.heap.size, 5, none⟩ = some (.int .u32 c) ∧ w'.cell? ⟨B, 0, none⟩ = some (.pointer (some ⟨Bg, 0, none⟩))) (go_keep) (first
    | (go_at_call 109; (with_reducible refine hma.out.mono ?_); rintro e w7 ⟨⟨v1, v2, rfl⟩, g7, c7, hR, hk7⟩; obtain ⟨n4, n5⟩ := hKK.out _ hk7; obtain ⟨hnx, ha⟩ := hgr.out _ _ _ hR hk7; obtain ⟨-, -, -, -, -, -, -, -, -, n0, -⟩ := ha; have hnx := Lib.hid hnx; clear hR hk7))
  all_goals go_wp2
  all_goals go_ret2
  all_goals exact ⟨⟨_, rfl⟩, (hFr.out _ _ hnx.out).then (hnw.out _ _)⟩
set_option maxHeartbeats 2000000 in
theorem wants_3 : Wants_call (fun s => s.what = 3) := by
  intro w0 w B Bg p N rest s h hg hS hs hw
  obtain ⟨K, nm, n, a, b, c, la, ln, lc, zs⟩ := s
  obtain rfl : K = 3 := hw
  have hb1 : Below w.heap.size w (w.alloc (.cells #[.int .i64 3, .string nm, .int .i64 n, .int .u32 a, .int .u32 b, .int .u32 c, .slice la ln lc] 102)) := (Below.refl _ _).alloc (Nat.le_refl _) _
  have h1 := h.step hb1
  have hsg := hS.g
  have hsi := hS.ins
  have hsr := hS.regs
  have hso := hS.outs
  have hf := Lib.hid (fun w2 N2 (hn : RNext w0 (w.alloc (.cells #[.int .i64 3, .string nm, .int .i64 n, .int .u32 a, .int .u32 b, .int .u32 c, .slice la ln lc] 102)) B Bg N2 w2) => RNext.front hb1 hn)
  have hnw := Lib.hid (fun (w2 : World) o => (Below.refl w2.heap.size w2).alloc (Nat.le_refl _) o)
  have hzs := hs.lits
  have hrow : Row .u32 w la ln zs := hs.row
  have hcp : ln ≤ lc := hs.cap
  have hlb := h1.lt
  have hmn70 : min ln 70 ≤ ln := Nat.min_le_left _ _
  have k0 : (w.alloc (.cells #[.int .i64 3, .string nm, .int .i64 n, .int .u32 a, .int .u32 b, .int .u32 c, .slice la ln lc] 102)).cell? ⟨w.heap.size, 0, none⟩ = some (.int .i64 3) := by simp [go_sem]
  have k1 : (w.alloc (.cells #[.int .i64 3, .string nm, .int .i64 n, .int .u32 a, .int .u32 b, .int .u32 c, .slice la ln lc] 102)).cell? ⟨w.heap.size, 1, none⟩ = some (.string nm) := by simp [go_sem]
  have k6 : (w.alloc (.cells #[.int .i64 3, .string nm, .int .i64 n, .int .u32 a, .int .u32 b, .int .u32 c, .slice la ln lc] 102)).cell? ⟨w.heap.size, 6, none⟩ = some (.slice la ln lc) := by simp [go_sem]
  rw [show (doesN N ⟨3, nm, n, a, b, c, la, ln, lc, zs⟩).1 = (addOut N nm (zs.take 70)).1 from rfl]
  have hle := hrow.le
  have hr70 : Row .u32 w la (min ln 70) (zs.take 70) := by
    have h := hrow.take (min ln 70) (Nat.min_le_left _ _)
    rw [show zs.take (min ln 70) = zs.take 70 by rw [← hrow.len, ← List.take_take]; simp [List.take_take, Nat.min_comm]] at h
    exact h
  have hsc : (w.alloc (.cells #[.int .i64 3, .string nm, .int .i64 n, .int .u32 a, .int .u32 b, .int .u32 c, .slice la ln lc] 102)).heap[w.heap.size]? = some (.cells #[.int .i64 3, .string nm, .int .i64 n, .int .u32 a, .int .u32 b, .int .u32 c, .slice la ln lc] 102 (0, 0)) := Deep.blk_alloc_new _ _
  generalize hw1 : w.alloc (.cells #[.int .i64 3, .string nm, .int .i64 n, .int .u32 a, .int .u32 b, .int .u32 c, .slice la ln lc] 102) = w1 at *
  have hbz : (w.heap.size : Nat) < w1.heap.size := World.block_lt_of_cell? w1 _ k1
  have hdr := (Below.refl w1.heap.size w1).drew
  have hc := Lib.hid (rAddOut_any (h1.step hdr) (by omega) (by omega) nm (c := lc) ((hr70.step hb1).step hdr) (fun x hx => hzs x (List.mem_of_mem_take hx)))
  have hKK := Lib.hid (fun w3 (hn : Kept (DK w1.drew) w1.drew w3) => (show w3.cell? ⟨w.heap.size, 1, none⟩ = some (.string nm) ∧ w3.cell? ⟨w.heap.size, 6, none⟩ = some (.slice la ln lc) by
    have e0 := (hdr.block _ hbz).trans hsc
    have hk := hn.block w.heap.size (Nat.lt_of_lt_of_le hbz hdr.size) (fun ⟨cur, T, fz, e1, e2⟩ => by rw [e0] at e1; simp at e1; obtain ⟨-, rfl, -⟩ := e1; rcases e2 with e2 | e2 | e2 | e2 | e2 <;> revert e2 <;> decide)
    have e := hk.trans e0
    exact ⟨by simp [World.cell?, e], by simp [World.cell?, e]⟩))
  have hFr := Lib.hid (fun w3 N2 (hn : RNext w0 w1.drew B Bg N2 w3) => hf.out w3 N2 (RNext.front hdr hn))
  generalize (addOut N nm (zs.take 70)).1 = rN at *
  clear h h1 hg hS hs hb1 hsc hrow hzs hr70 hf
  unfold stVal
  by_cases h7 : ln ≤ 70
  · have e7 : min ln 70 = ln := by omega
    rw [e7] at hc
    have g7 : min (ln : Int) 70 = ln := by omega
    have i0 : ¬ (70 : Int) < (ln : Int) := by omega
    have i1 : (0 : Int) ≤ (ln : Int) := by omega
    have i2 : (ln : Int) ≤ (lc : Int) := by omega
    go_enter Tryz.func41, Tryz.ntmps41
    go_upto_region 12 with fail
    go_region_held3 (fun w' => w'.cell? ⟨w.heap.size, 1, none⟩ = some (.string nm) ∧ w'.cell? ⟨w.heap.size, 6, none⟩ = some (.slice la ln lc)) (go_keep) (first
      | (go_at_call 108; (with_reducible refine hc.out.mono ?_); rintro e w7 ⟨⟨v1, rfl⟩, hn⟩; obtain ⟨n1, n6⟩ := hKK.out _ hn.2; have hn := Lib.hid hn))
    all_goals go_wp2
    all_goals go_ret2
    all_goals exact ⟨⟨_, rfl⟩, hFr.out _ _ hn.out⟩
  · have e7 : min ln 70 = 70 := by omega
    rw [e7] at hc
    have g7 : min (ln : Int) 70 = 70 := by omega
    have i0 : (70 : Int) < (ln : Int) := by omega
    have i1 : (0 : Int) ≤ (lc : Int) := by omega
    have i2 : (70 : Int) ≤ (lc : Int) := by omega
    go_enter Tryz.func41, Tryz.ntmps41
    go_upto_region 12 with fail
    go_region_held3 (fun w' => w'.cell? ⟨w.heap.size, 1, none⟩ = some (.string nm) ∧ w'.cell? ⟨w.heap.size, 6, none⟩ = some (.slice la ln lc)) (go_keep) (first
      | (go_at_call 108; (with_reducible refine hc.out.mono ?_); rintro e w7 ⟨⟨v1, rfl⟩, hn⟩; obtain ⟨n1, n6⟩ := hKK.out _ hn.2; have hn := Lib.hid hn))
    all_goals go_wp2
    all_goals go_ret2
    all_goals exact ⟨⟨_, rfl⟩, hFr.out _ _ hn.out⟩

theorem Wants_any : Wants_call (fun s => s.what ≠ 8) := by
  intro w0 w B Bg p N rest s h hg hS hs h8
  by_cases h0 : s.what = 0
  · exact wants_0 w0 w B Bg p N rest s h hg hS hs h0
  by_cases h1 : s.what = 1
  · exact wants_1 w0 w B Bg p N rest s h hg hS hs h1
  by_cases h2 : s.what = 2
  · exact wants_2 w0 w B Bg p N rest s h hg hS hs h2
  by_cases h3 : s.what = 3
  · exact wants_3 w0 w B Bg p N rest s h hg hS hs h3
  by_cases h4 : s.what = 4
  · exact wants_4 w0 w B Bg p N rest s h hg hS hs h4
  by_cases h5 : s.what = 5
  · exact wants_5 w0 w B Bg p N rest s h hg hS hs h5
  by_cases h6 : s.what = 6
  · exact wants_6 w0 w B Bg p N rest s h hg hS hs h6
  by_cases h7 : s.what = 7
  · exact wants_7 w0 w B Bg p N rest s h hg hS hs h7
  exact wants_n w0 w B Bg p N rest s h hg hS hs ⟨h0, h1, h2, h3, h4, h5, h6, h7, h8⟩
theorem wants_8 : Wants_call (fun s => s.what = 8) := by
  intro w0 w B Bg p N rest s h hg hS hs hw
  obtain ⟨K, nm, n, a, b, c, la, ln, lc, zs⟩ := s
  obtain rfl : K = 8 := hw
  have hb1 : Below w.heap.size w (w.alloc (.cells #[.int .i64 8, .string nm, .int .i64 n, .int .u32 a, .int .u32 b, .int .u32 c, .slice la ln lc] 102)) := (Below.refl _ _).alloc (Nat.le_refl _) _
  have h1 := h.step hb1
  have hsg := hS.g
  have hsi := hS.ins
  have hsr := hS.regs
  have hso := hS.outs
  have hf := Lib.hid (fun w2 N2 (hn : RNext w0 (w.alloc (.cells #[.int .i64 8, .string nm, .int .i64 n, .int .u32 a, .int .u32 b, .int .u32 c, .slice la ln lc] 102)) B Bg N2 w2) => RNext.front hb1 hn)
  have hnw := Lib.hid (fun (w2 : World) o => (Below.refl w2.heap.size w2).alloc (Nat.le_refl _) o)
  obtain ⟨-, -, -, -, -, -, -, -, -, c0, -⟩ := h1.cells
  have hma := Lib.hid (rinput_val h1.g (by omega))
  have hgr := Lib.hid (fun w2 g1 c1 (hR : Rf w0 w2 Bg g1 c1 N.g.fold N.g.hash (N.g.nodes ++ [⟨false, 0, 0⟩])) hk => h1.growN (G' := inputG N.g) hR hk)
  rw [show doesN N ⟨8, nm, n, a, b, c, la, ln, lc, zs⟩ = ({ N with g := inputG N.g }, [2 * (N.g.nodes.length : Int)], 0) from rfl]
  simp only []
  unfold stVal
  clear h h1 hg hS hs hb1
  go_enter Tryz.func41, Tryz.ntmps41
  go_wp2_with (go_at_call 110; (with_reducible refine hma.out.mono ?_); rintro e w2 ⟨rfl, g1, c1, hR, hk⟩; have hn := Lib.hid (hgr.out _ _ _ hR hk); clear hR hk)
  go_ret2
  exact ⟨⟨_, rfl⟩, (hf.out _ _ hn.out).then (hnw.out _ _)⟩
theorem Wants_all : Wants_call (fun _ => True) := by
  intro w0 w B Bg p N rest s h hg hS hs _
  by_cases h8 : s.what = 8
  · exact wants_8 w0 w B Bg p N rest s h hg hS hs h8
  · exact Wants_any w0 w B Bg p N rest s h hg hS hs h8
end Go.Proofs.YtafoohdndlhbnaaGreatDoor
end

section
namespace Go.Proofs.YtafoohdndlhbnaaGreatDoor
open Go.RowKit Go.Maps Bits Num
set_option maxRecDepth 100000

theorem AtN.asideD {w0 w w' : World} {B C : Nat} {q : NPl} {N : Nt} (h : AtN w0 B C w q N) (hk : Kept (DK w) w w') (hb : Below w0.heap.size w0 w') : AtN w0 B C w' q N := ⟨h.is.asideD hk, h.b, h.gb, h.out, hb⟩
theorem AtN.wants {w0 w : World} {B C : Nat} {q : NPl} {N : Nt} (h : AtN w0 B C w q N) {Bd Bg : Nat} {p : RPl} {M : Nt} (hR : RN w0 w Bd Bg p M) {rest : List Int} (hg : Good M rest) (hS : Small M) {s : StV} (hs : StOk w s) {N' : Nt} {ls : List Int} {r : Int} (hd : doesN M s = (N', ls, r)) :
    Calls Tryz.prog 41 #[.pointer (some ⟨Bd, 0, none⟩), .agg #[.int .i64 s.what, .string s.name, .int .i64 s.n, .int .u32 s.a, .int .u32 s.b, .int .u32 s.c, .slice s.la s.ln s.lc]] w fun e w' => (∃ v, e = .returned v) ∧ AtN w0 B C w' q N ∧ ∃ p', RN w0 w' Bd Bg p' N' := by
  have := Wants_all w0 w Bd Bg p M rest s hR hg hS hs trivial
  rw [hd] at this
  exact this.mono fun _ w' ⟨hv, ⟨p', hp⟩, hk⟩ => ⟨hv, h.asideD hk hp.below, p', hp⟩
theorem AtN.does2 {w0 w : World} {B C : Nat} {q : NPl} {N : Nt} (h : AtN w0 B C w q N) {Bd Bg : Nat} {p : RPl} {M : Nt} (hR : RN w0 w Bd Bg p M) {rest : List Int} (hg : Good N rest) (hS : Small N) {s : StV} (hs : StOk w s) {N' : Nt} {ls : List Int} {r : Int} (hd : doesN N s = (N', ls, r)) :
    Calls Tryz.prog 40 #[.pointer (some ⟨B, 0, none⟩), .agg #[.int .i64 s.what, .string s.name, .int .i64 s.n, .int .u32 s.a, .int .u32 s.b, .int .u32 s.c, .slice s.la s.ln s.lc]] w fun e w' => (∃ v1 v2, e = .returned (.tuple #[v1, v2])) ∧ (∃ q', AtN w0 B C w' q' N') ∧ RN w0 w' Bd Bg p M ∧ Below w0.heap.size w0 w' :=
  (h.does hg hS hs hd).mono fun _ w' ⟨a, c, q', he, hl, hA, hk, hn⟩ => ⟨⟨_, _, he⟩, ⟨q', hA⟩, hR.kept hk h.out h.is.noDoc, hA.below⟩

theorem doesN_goodR {N : Nt} (hg : ∃ rest, Good N rest) (hS : Small N) {w : World} {s : StV} (hs : StOk w s) : ∃ rest', Good (doesN N s).1 rest' := by
  obtain ⟨rest, hg⟩ := hg
  by_cases h8 : s.what = 8
  · unfold doesN
    rw [if_neg (by omega), if_neg (by omega), if_neg (by omega), if_neg (by omega), if_neg (by omega), if_neg (by omega), if_pos h8]
    exact ⟨_, hg.input⟩
  · exact ⟨rest, doesN_good hg hS hs h8⟩
set_option maxHeartbeats 4000000 in
theorem Built_any (F H : Bool) {w : World} {a : Option Addr} {n c : Nat} {S : Nat → StV} (hs : StRow w a n S) :
    Calls Tryz.prog 9 #[.agg #[.bool F, .bool H], .slice a n c] w fun e w' => ∃ (B C Bd Bg : Nat) (q : NPl) (p : RPl) (N : Nt), e = .returned (.tuple #[.pointer (some ⟨B, 0, none⟩), .pointer (some ⟨Bd, 0, none⟩)]) ∧ AtN w B C w' q N ∧ RN w w' Bd Bg p N ∧ (∃ rest, Good N rest) ∧ Upto N 60 := by
  have hb0 : Below w.heap.size w (w.alloc (.cells #[.bool F, .bool H] 23)) := (Below.refl _ _).alloc (Nat.le_refl _) _
  have hnew2 := Lib.hid (fun w2 (hb : Below w.heap.size w w2) => rNew_any w hb F H top_may)
  have k0 : (w.alloc (.cells #[.bool F, .bool H] 23)).cell? ⟨w.heap.size, 0, none⟩ = some (.bool F) := by simp [go_sem]
  have k1 : (w.alloc (.cells #[.bool F, .bool H] 23)).cell? ⟨w.heap.size, 1, none⟩ = some (.bool H) := by simp [go_sem]
  have HS := Lib.hid hs
  have hle := hs.le
  have hg0 : Hid (∃ rest, Good ⟨newG F H, sTop, [], [], []⟩ rest) := Lib.hid ⟨_, Good.new F H top_may⟩
  have hu0 := Lib.hid (upto0 F H)
  have hN2 := Lib.hid (New_ok F H top_may (w.alloc (.cells #[.bool F, .bool H] 23)))
  have hz0 : w.heap.size < (w.alloc (.cells #[.bool F, .bool H] 23)).heap.size := by simp
  have hb0 := Lib.hid hb0
  generalize hw1 : w.alloc (.cells #[.bool F, .bool H] 23) = w1 at *
  have hbz : w.heap.size ≤ w1.heap.size := hb0.out.size
  clear hs
  go_enter Tryz.func9, Tryz.ntmps9
  go_upto_block 0 with (first
    | (go_at_call 38; (with_reducible refine hN2.out.mono ?_); rintro e w2 ⟨q, rfl, hI, hb2, hqo⟩; have m0 := stepc hb2 hz0 k0; have m1 := stepc hb2 hz0 k1; have hnw := Lib.hid (hnew2.out _ (nextw hb0.out hb2)); have hA : AtN w q.b q.g.b w2 q ⟨newG F H, sTop, [], [], []⟩ := ⟨hI, rfl, rfl, fun k hk => Nat.le_trans hbz (hqo k hk), nextw hb0.out hb2⟩; have hA := Lib.hid hA; obtain ⟨b0, b1⟩ := hA.out.cells; clear hI hqo)
    | (go_at_call 39; (with_reducible refine hnw.out.mono ?_); rintro e w3 ⟨Bd, Bg, p, rfl, hRN, hb3⟩; have d0 := stepc hb3 b1 b0; have hA3 := Lib.hid (hA.out.step hb3); have hR3 := Lib.hid hRN; clear hRN hb3))
  generalize q.b = B at *
  generalize q.g.b = C at *
  clear hnew2 hN2 m0 m1 k0 k1 hnw hA d0 b0 b1 hb2
  go_wp2_with fail
  go_loopw [10] (fun i wr => ∃ (j : Nat) (q : NPl) (p : RPl) (N : Nt), j ≤ min n 60 ∧ i = .int .i64 j ∧ Hid (AtN w B C wr q N) ∧ Hid (RN w wr Bd Bg p N) ∧ Hid (∃ rest, Good N rest) ∧ Hid (Upto N j)) (fun i _ => min n 60 - (intOf i).toNat)
  case atStart => exact ⟨0, _, _, _, Nat.zero_le _, rfl, hA3, hR3, hg0, hu0⟩
  case round =>
    clear hA3 hR3 hg0 hu0
    obtain ⟨j, q, p, N, hj, rfl, hA, hR, hG, hU⟩ := hrel
    have hSm := Lib.hid (hU.out.small (by omega))
    by_cases hlt : j < min n 60
    · have hjn : j < n := by omega
      have hj60 : j < 60 := by omega
      obtain ⟨b, off, rfl, hb, k0, k1, k2, k3, k4, k5, k6⟩ := HS.out.at hjn
      have hcl := Lib.hid (fun w2 (hb2 : Below w.heap.size w w2) => And.intro (stepc hb2 hb k0) (And.intro (stepc hb2 hb k1) (And.intro (stepc hb2 hb k2) (And.intro (stepc hb2 hb k3) (And.intro (stepc hb2 hb k4) (And.intro (stepc hb2 hb k5) (stepc hb2 hb k6)))))))
      have k0 := stepc hA.out.below hb k0
      have k1 := stepc hA.out.below hb k1
      have k2 := stepc hA.out.below hb k2
      have k3 := stepc hA.out.below hb k3
      have k4 := stepc hA.out.below hb k4
      have k5 := stepc hA.out.below hb k5
      have k6 := stepc hA.out.below hb k6
      have hst := Lib.hid (HS.out.ok j hjn)
      have hbw := hb
      generalize S j = s at *
      obtain ⟨⟨N', ls, r⟩, hd⟩ : ∃ x, doesN N s = x := ⟨_, rfl⟩
      have hgd := Lib.hid (by have := doesN_goodR hG.out hSm.out hst.out; rw [hd] at this; exact this)
      have hup := Lib.hid (by have := hU.out.does (by omega) hG.out.choose_spec hst.out; rw [hd] at this; exact this)
      have hdo := Lib.hid (hA.out.does2 hR.out hG.out.choose_spec hSm.out (hst.out.step hA.out.below) hd)
      have hwa := Lib.hid (fun w2 q2 (hA2 : AtN w B C w2 q2 N') (hR2 : RN w w2 Bd Bg p N) => hA2.wants hR2 hG.out.choose_spec hSm.out (hst.out.step hA2.below) hd)
      clear hd hst hSm hG hU
      simp only [] at hgd hup
      generalize s.what = K at *
      generalize s.name = nm at *
      generalize s.n = sn at *
      generalize s.a = sa at *
      generalize s.b = sb at *
      generalize s.c = sc at *
      generalize s.la = la at *
      generalize s.ln = ln at *
      generalize s.lc = lc at *
      go_wp2_with (first
        | (go_at_call 40; (with_reducible refine hdo.out.mono ?_); rintro e w6 ⟨⟨v1, v2, rfl⟩, ⟨q6, hA6⟩, hR6, hb6⟩; obtain ⟨x0, x1, x2, x3, x4, x5, x6⟩ := hcl.out _ hb6; have hwa2 := Lib.hid (hwa.out _ _ hA6 hR6); clear hA6 hR6 hb6 hdo)
        | (go_at_call 41; (with_reducible refine hwa2.out.mono ?_); rintro e w7 ⟨⟨v3, rfl⟩, hA7, p7, hR7⟩; have hA7 := Lib.hid hA7; have hR7 := Lib.hid hR7))
      exact ⟨⟨j + 1, _, _, _, by omega, by go_num, hA7, hR7, hgd, hup⟩, by simp [intOf]; omega⟩
    · obtain rfl : j = min n 60 := by omega
      have hU6 := Lib.hid (hU.out.mono (show min n 60 ≤ 60 by omega))
      by_cases h6 : n ≤ 60
      · have hmn : min n 60 = n := by omega
        rw [hmn]
        go_wp2_with fail
        go_ret2
        exact ⟨_, _, _, _, _, _, _, rfl, hA.out, hR.out, hG.out, hU6.out⟩
      · have hmn : min n 60 = 60 := by omega
        have hn4 : 60 < n := by omega
        rw [hmn]
        go_wp2_with fail
        go_ret2
        exact ⟨_, _, _, _, _, _, _, rfl, hA.out, hR.out, hG.out, hU6.out⟩
end Go.Proofs.YtafoohdndlhbnaaGreatDoor
end

section
namespace Go.Proofs.YtafoohdndlhbnaaGreatDoor
open Go.RowKit Go.Maps Bits
set_option maxRecDepth 100000

theorem addIn_name (N : Nt) (s : ByteArray) (k : Int) : (addIn N s k).1.name = N.name := by
  unfold addIn
  repeat' (first | rfl | split)
theorem setReg_name (N : Nt) (q d en : Int) : (setReg N q d en).1.name = N.name := by
  unfold setReg
  repeat' (first | rfl | split)
theorem addOut_name (N : Nt) (s : ByteArray) (l : List Int) : (addOut N s l).1.name = N.name := by
  unfold addOut
  repeat' (first | rfl | split)
theorem gateN_name (T : Gr → Int → Int → Gr × Int) (N : Nt) (b c : Int) : (gateN T N b c).1.name = N.name := by
  unfold gateN
  repeat' (first | rfl | split)
theorem doesN_name (N : Nt) (s : StV) : (doesN N s).1.name = N.name := by
  unfold doesN
  split
  · exact addIn_name _ _ _
  split
  · rfl
  split
  · exact setReg_name _ _ _ _
  split
  · exact addOut_name _ _ _
  split
  · exact gateN_name _ _ _ _
  split
  · exact gateN_name _ _ _ _
  split
  · rfl
  · rfl
/-- .. and the name that it was made with. -/
def UpT (N : Nt) (j : Nat) : Prop := Upto N j ∧ N.name = sTop
set_option maxHeartbeats 4000000 in
theorem BuiltT_any (F H : Bool) {w : World} {a : Option Addr} {n c : Nat} {S : Nat → StV} (hs : StRow w a n S) :
    Calls Tryz.prog 9 #[.agg #[.bool F, .bool H], .slice a n c] w fun e w' => ∃ (B C Bd Bg : Nat) (q : NPl) (p : RPl) (N : Nt), e = .returned (.tuple #[.pointer (some ⟨B, 0, none⟩), .pointer (some ⟨Bd, 0, none⟩)]) ∧ AtN w B C w' q N ∧ RN w w' Bd Bg p N ∧ (∃ rest, Good N rest) ∧ Upto N 60 ∧ N.name = sTop := by
  have hb0 : Below w.heap.size w (w.alloc (.cells #[.bool F, .bool H] 23)) := (Below.refl _ _).alloc (Nat.le_refl _) _
  have hnew2 := Lib.hid (fun w2 (hb : Below w.heap.size w w2) => rNew_any w hb F H top_may)
  have k0 : (w.alloc (.cells #[.bool F, .bool H] 23)).cell? ⟨w.heap.size, 0, none⟩ = some (.bool F) := by simp [go_sem]
  have k1 : (w.alloc (.cells #[.bool F, .bool H] 23)).cell? ⟨w.heap.size, 1, none⟩ = some (.bool H) := by simp [go_sem]
  have HS := Lib.hid hs
  have hle := hs.le
  have hg0 : Hid (∃ rest, Good ⟨newG F H, sTop, [], [], []⟩ rest) := Lib.hid ⟨_, Good.new F H top_may⟩
  have hu0 : Hid (UpT ⟨newG F H, sTop, [], [], []⟩ 0) := Lib.hid ⟨upto0 F H, rfl⟩
  have hN2 := Lib.hid (New_ok F H top_may (w.alloc (.cells #[.bool F, .bool H] 23)))
  have hz0 : w.heap.size < (w.alloc (.cells #[.bool F, .bool H] 23)).heap.size := by simp
  have hb0 := Lib.hid hb0
  generalize hw1 : w.alloc (.cells #[.bool F, .bool H] 23) = w1 at *
  have hbz : w.heap.size ≤ w1.heap.size := hb0.out.size
  clear hs
  go_enter Tryz.func9, Tryz.ntmps9
  go_upto_block 0 with (first
    | (go_at_call 38; (with_reducible refine hN2.out.mono ?_); rintro e w2 ⟨q, rfl, hI, hb2, hqo⟩; have m0 := stepc hb2 hz0 k0; have m1 := stepc hb2 hz0 k1; have hnw := Lib.hid (hnew2.out _ (nextw hb0.out hb2)); have hA : AtN w q.b q.g.b w2 q ⟨newG F H, sTop, [], [], []⟩ := ⟨hI, rfl, rfl, fun k hk => Nat.le_trans hbz (hqo k hk), nextw hb0.out hb2⟩; have hA := Lib.hid hA; obtain ⟨b0, b1⟩ := hA.out.cells; clear hI hqo)
    | (go_at_call 39; (with_reducible refine hnw.out.mono ?_); rintro e w3 ⟨Bd, Bg, p, rfl, hRN, hb3⟩; have d0 := stepc hb3 b1 b0; have hA3 := Lib.hid (hA.out.step hb3); have hR3 := Lib.hid hRN; clear hRN hb3))
  generalize q.b = B at *
  generalize q.g.b = C at *
  clear hnew2 hN2 m0 m1 k0 k1 hnw hA d0 b0 b1 hb2
  go_wp2_with fail
  go_loopw [10] (fun i wr => ∃ (j : Nat) (q : NPl) (p : RPl) (N : Nt), j ≤ min n 60 ∧ i = .int .i64 j ∧ Hid (AtN w B C wr q N) ∧ Hid (RN w wr Bd Bg p N) ∧ Hid (∃ rest, Good N rest) ∧ Hid (UpT N j)) (fun i _ => min n 60 - (intOf i).toNat)
  case atStart => exact ⟨0, _, _, _, Nat.zero_le _, rfl, hA3, hR3, hg0, hu0⟩
  case round =>
    clear hA3 hR3 hg0 hu0
    obtain ⟨j, q, p, N, hj, rfl, hA, hR, hG, hU⟩ := hrel
    have hSm := Lib.hid (hU.out.1.small (by omega))
    by_cases hlt : j < min n 60
    · have hjn : j < n := by omega
      have hj60 : j < 60 := by omega
      obtain ⟨b, off, rfl, hb, k0, k1, k2, k3, k4, k5, k6⟩ := HS.out.at hjn
      have hcl := Lib.hid (fun w2 (hb2 : Below w.heap.size w w2) => And.intro (stepc hb2 hb k0) (And.intro (stepc hb2 hb k1) (And.intro (stepc hb2 hb k2) (And.intro (stepc hb2 hb k3) (And.intro (stepc hb2 hb k4) (And.intro (stepc hb2 hb k5) (stepc hb2 hb k6)))))))
      have k0 := stepc hA.out.below hb k0
      have k1 := stepc hA.out.below hb k1
      have k2 := stepc hA.out.below hb k2
      have k3 := stepc hA.out.below hb k3
      have k4 := stepc hA.out.below hb k4
      have k5 := stepc hA.out.below hb k5
      have k6 := stepc hA.out.below hb k6
      have hst := Lib.hid (HS.out.ok j hjn)
      have hbw := hb
      generalize S j = s at *
      obtain ⟨⟨N', ls, r⟩, hd⟩ : ∃ x, doesN N s = x := ⟨_, rfl⟩
      have hgd := Lib.hid (by have := doesN_goodR hG.out hSm.out hst.out; rw [hd] at this; exact this)
      have hup : Hid (UpT N' (j + 1)) := Lib.hid (by have h8 := And.intro (hU.out.1.does (by omega) hG.out.choose_spec hst.out) ((doesN_name N s).trans hU.out.2); rw [hd] at h8; exact h8)
      have hdo := Lib.hid (hA.out.does2 hR.out hG.out.choose_spec hSm.out (hst.out.step hA.out.below) hd)
      have hwa := Lib.hid (fun w2 q2 (hA2 : AtN w B C w2 q2 N') (hR2 : RN w w2 Bd Bg p N) => hA2.wants hR2 hG.out.choose_spec hSm.out (hst.out.step hA2.below) hd)
      clear hd hst hSm hG hU
      simp only [] at hgd hup
      generalize s.what = K at *
      generalize s.name = nm at *
      generalize s.n = sn at *
      generalize s.a = sa at *
      generalize s.b = sb at *
      generalize s.c = sc at *
      generalize s.la = la at *
      generalize s.ln = ln at *
      generalize s.lc = lc at *
      go_wp2_with (first
        | (go_at_call 40; (with_reducible refine hdo.out.mono ?_); rintro e w6 ⟨⟨v1, v2, rfl⟩, ⟨q6, hA6⟩, hR6, hb6⟩; obtain ⟨x0, x1, x2, x3, x4, x5, x6⟩ := hcl.out _ hb6; have hwa2 := Lib.hid (hwa.out _ _ hA6 hR6); clear hA6 hR6 hb6 hdo)
        | (go_at_call 41; (with_reducible refine hwa2.out.mono ?_); rintro e w7 ⟨⟨v3, rfl⟩, hA7, p7, hR7⟩; have hA7 := Lib.hid hA7; have hR7 := Lib.hid hR7))
      exact ⟨⟨j + 1, _, _, _, by omega, by go_num, hA7, hR7, hgd, hup⟩, by simp [intOf]; omega⟩
    · obtain rfl : j = min n 60 := by omega
      have hU6 := Lib.hid (And.intro (hU.out.1.mono (show min n 60 ≤ 60 by omega)) hU.out.2)
      by_cases h6 : n ≤ 60
      · have hmn : min n 60 = n := by omega
        rw [hmn]
        go_wp2_with fail
        go_ret2
        exact ⟨_, _, _, _, _, _, _, rfl, hA.out, hR.out, hG.out, hU6.out.1, hU6.out.2⟩
      · have hmn : min n 60 = 60 := by omega
        have hn4 : 60 < n := by omega
        rw [hmn]
        go_wp2_with fail
        go_ret2
        exact ⟨_, _, _, _, _, _, _, rfl, hA.out, hR.out, hG.out, hU6.out.1, hU6.out.2⟩
end Go.Proofs.YtafoohdndlhbnaaGreatDoor
end

section
namespace Go.Proofs.YtafoohdndlhbnaaGreatDoor
open Go.RowKit Go.Maps Bits Go.Shelf
set_option maxRecDepth 100000
set_option linter.unusedVariables false

theorem stRow_up {w w' : World} {a : Option Addr} {n : Nat} {S : Nat → StV} (h : StRow w a n S) (hb : Below w.heap.size w w') : StRow w' a n S := by
  refine ⟨h.le, ?_, fun i hi => (h.ok i hi).step hb⟩
  rcases h.cells with h0 | ⟨b, off, e, hlt, hc⟩
  · exact .inl h0
  · refine .inr ⟨b, off, e, Nat.lt_of_lt_of_le hlt hb.size, fun i hi => ?_⟩
    obtain ⟨k0, k1, k2, k3, k4, k5, k6⟩ := hc i hi
    exact ⟨stepc hb hlt k0, stepc hb hlt k1, stepc hb hlt k2, stepc hb hlt k3, stepc hb hlt k4, stepc hb hlt k5, stepc hb hlt k6⟩
theorem codeQ_few {N : Nt} {rest : List Int} (hg : Good N rest) (hU : Upto N 60) : codeQ (ckV rest) (textN N) = ckV rest := by
  unfold codeQ
  by_cases h : ckV rest = 0
  · rw [if_pos h, if_pos (text_few hg hU), h]
  · rw [if_neg h]
theorem strQ_bad {rest : List Int} {T : List UInt8} (h : ¬ ckV rest = 0) : (strQ (ckV rest) T).size = 0 := by
  unfold strQ
  rw [if_neg (fun h2 => h h2.1)]
  rfl
/-- The text, told as a row. -/
theorem all_row {w : World} {q : NPl} {N : Nt} {rest : List Int} (h : NetIs w q N) (hg : Good N rest) (hU : Upto N 60) (ht : PW w) (hz : ckV rest = 0) {T : List UInt8} (hT : textN N = T) :
    Calls Tryz.prog 10 #[.pointer (some ⟨q.b, 0, none⟩)] w fun e w' => ∃ g cap, e = .returned (.tuple #[.slice (some ⟨g, 0, none⟩) T.length cap, .int .i64 0]) ∧ w'.ownsRow w.heap.size 5 1 (.slice (some ⟨g, 0, none⟩) T.length cap) T.length (bys T) ∧ Below w.heap.size w w' := by
  have hf := text_few hg hU
  have hp := textN_pos N
  subst hT
  refine (All_good h hg (hU.small (Nat.le_refl _)) ht).mono ?_
  rintro e w' ⟨va, c, rfl, hQ, hB⟩
  rcases hQ with ⟨h0, -, -⟩ | ⟨-, -, rfl, ho⟩ | ⟨-, h1, -, -⟩
  · exact absurd hz h0
  · obtain ⟨g, cap, rfl⟩ := own_form ho (by omega)
    exact ⟨g, cap, rfl, ho, hB⟩
  · omega
/-- The text ends with a newline. -/
theorem text_end (N : Nt) : textN N = joinC 10 (linesL N) ++ [10] := text_join _ (linesL_ne N)
/-- All but the last byte of a row, as a string. -/
theorem conv_most {w : World} {base g cap : Nat} {J : List UInt8} (ho : w.ownsRow base 5 1 (.slice (some ⟨g, 0, none⟩) (J ++ [10]).length cap) (J ++ [10]).length (bys (J ++ [10]))) (cap2 : Nat) :
    (convert 29 9 (.slice (some ⟨g, 0, none⟩) J.length cap2)).run Tryz.prog w = .ok (.string ⟨J.toArray⟩) w := by
  refine run_convert_bytes_back w _ _ 5 _ cap2 J Tryz.underlying29 Tryz.underlying5 Tryz.underlying9 (fun j hj => ?_)
  rw [show (⟨g, 0, none⟩ : Addr).add j = ⟨g, j, none⟩ by simp [Addr.add]; omega, ho.cellAt (j := j) (by simp; omega)]
  unfold bys
  rw [List.map_append, List.getElem?_append_left (by simpa using hj)]
  simp [hj]
/-- The cells of a netlist and its rows, in a later world. -/
theorem net_cells {w0 w2 W : World} {B C : Nat} {q : NPl} {N : Nt} (h : AtN w0 B C w2 q N) (hb : Below w2.heap.size w2 W) : ∃ (ia : Option Addr) (ic : Nat) (ra : Option Addr) (rc : Nat) (oa : Option Addr) (oc : Nat), BusRow W (.slice ia N.ins.length ic) N.ins ∧ RegRow W (.slice ra N.regs.length rc) N.regs ∧ BusRow W (.slice oa N.outs.length oc) N.outs ∧
    W.cell? ⟨B, 0, none⟩ = some (.pointer (some ⟨C, 0, none⟩)) ∧ W.cell? ⟨B, 1, none⟩ = some (.string N.name) ∧ W.cell? ⟨B, 2, none⟩ = some (.slice ia N.ins.length ic) ∧ W.cell? ⟨B, 3, none⟩ = some (.slice ra N.regs.length rc) ∧ W.cell? ⟨B, 4, none⟩ = some (.slice oa N.outs.length oc) ∧ B < W.heap.size := by
  have hA := h.step hb
  obtain ⟨ia, ic, ra, rc, oa, oc, e1, e2, e3, n0, n1, n2, n3, n4, -⟩ := hA.is.cells
  have hl := hA.is.lt
  rw [hA.b] at n0 n1 n2 n3 n4 hl
  rw [hA.gb] at n0
  have r1 := hA.is.ins
  have r2 := hA.is.regs
  have r3 := hA.is.outs
  rw [e1] at r1; rw [e2] at r2; rw [e3] at r3
  exact ⟨ia, ic, ra, rc, oa, oc, r1, r2, r3, n0, n1, n2, n3, n4, hl⟩
theorem atB_own {L : List Bus} (hok : BusesOk L) {b : Bus} (hb : b ∈ L) : ∃ j, atB L b.name = some j ∧ L[j]? = some b := by
  obtain ⟨j, hj, e⟩ := List.getElem_of_mem hb
  subst e
  refine ⟨j, atB_hit hj (sameN_refl _) (fun i hi => ?_), List.getElem?_eq_getElem hj⟩
  exact List.pairwise_iff_getElem.1 hok.apart i j (by omega) hj hi
/-- A bus is found by its name. -/
theorem find_own {W : World} {a : Option Addr} {n c : Nat} {L : List Bus} (h : BusRow W (.slice a n c) L) (hn : n = L.length) (hok : BusesOk L) {b : Bus} (hb : b ∈ L) :
    Calls Tryz.prog 20 #[.slice a n c, .string b.name] W fun e w' => ∃ (a2 : Option Addr) (c2 : Nat), e = .returned (.tuple #[.slice a2 b.lits.length c2, .bool true]) ∧ Below W.heap.size W w' := by
  obtain ⟨j, h1, h2⟩ := atB_own hok hb
  have := Find_any h hn (fun x hx => (hok.wide x hx).2) b.name
  rw [h1] at this
  exact this.mono fun e w' ⟨b', a2, c2, e1, e2, e3, e4⟩ => by rw [h2] at e1; cases e1; exact ⟨a2, c2, e2, e4⟩
/-- Gates, quietly. -/
theorem gatesQ_any {w : World} {p : Pl} {F H : Bool} {ns : List Nd} {ins : List Int} (h : Lay w p F H ns ins) (h0 : 0 < ns.length) (hi : ins.length < ns.length) (hm : ns.length ≤ 10000000) :
    Calls Tryz.prog 22 #[.pointer (some ⟨p.b, 0, none⟩)] w fun e w' => e = .returned (.int .i64 ((ns.length : Int) - 1 - ins.length)) ∧ ∃ k, w' = w.drewN k := by
  have hst := Lib.hid (stands_any h h0)
  obtain ⟨-, -, c2, c3, -, -⟩ := h.cells
  obtain ⟨ia, ic, hiv⟩ := own_slice h.inputs
  rw [hiv] at c3
  generalize ns.length = n at *
  generalize ins.length = m at *
  clear h hiv
  go_enter Tryz.func22, Tryz.ntmps22
  go_wp2_with (go_at_call 58; refine hst.out.mono ?_; rintro e w2 ⟨rfl, rfl⟩)
  go_quiet (fail)
  go_wp2
  go_ret
  exact ⟨rfl, _, rfl⟩
theorem AtN.gatesQ {w0 w : World} {B C : Nat} {q : NPl} {N : Nt} (h : AtN w0 B C w q N) (hg : Good N []) (hS : Small N) :
    Calls Tryz.prog 22 #[.pointer (some ⟨C, 0, none⟩)] w fun e w' => e = .returned (.int .i64 (gatesTo N.g N.g.nodes.length : Nat)) ∧ ∃ k, w' = w.drewN k := by
  have h1 := gatesTo_all hg.wf
  have h2 := hS.g
  have := gatesQ_any h.is.g.lay hg.wf.pos (by omega) (by omega)
  rw [show q.g.b = C from h.gb, ← h1] at this
  exact this
theorem ba_ne {a b : Array UInt8} (h : a ≠ b) : ¬ (⟨a⟩ : ByteArray) = ⟨b⟩ := fun e => h (ByteArray.mk.inj e)
theorem cnt_end (N : Nt) : cntS ((lnsK N).map LnK.first) sEnd = 1 := by
  rw [cnt_lines, if_neg (ba_ne (by decide)), if_neg (ba_ne (by decide)), if_neg (ba_ne (by decide)), if_neg (ba_ne (by decide)), if_neg (ba_ne (by decide)), if_pos rfl]
theorem cnt_model (N : Nt) : cntS ((lnsK N).map LnK.first) sModel = 1 := by
  rw [cnt_lines, if_pos rfl, if_neg (ba_ne (by decide)), if_neg (ba_ne (by decide)), if_neg (ba_ne (by decide)), if_neg (ba_ne (by decide)), if_neg (ba_ne (by decide))]
theorem cnt_input (N : Nt) : cntS ((lnsK N).map LnK.first) sInput = N.ins.length := by
  rw [cnt_lines, if_neg (ba_ne (by decide)), if_pos rfl, if_neg (ba_ne (by decide)), if_neg (ba_ne (by decide)), if_neg (ba_ne (by decide)), if_neg (ba_ne (by decide))]; omega
theorem cnt_latch (N : Nt) : cntS ((lnsK N).map LnK.first) sLatch = N.regs.length := by
  rw [cnt_lines, if_neg (ba_ne (by decide)), if_neg (ba_ne (by decide)), if_pos rfl, if_neg (ba_ne (by decide)), if_neg (ba_ne (by decide)), if_neg (ba_ne (by decide))]; omega
theorem cnt_and (N : Nt) : cntS ((lnsK N).map LnK.first) sAnd = gatesTo N.g N.g.nodes.length := by
  rw [cnt_lines, if_neg (ba_ne (by decide)), if_neg (ba_ne (by decide)), if_neg (ba_ne (by decide)), if_pos rfl, if_neg (ba_ne (by decide)), if_neg (ba_ne (by decide)), gatesN_len (Nat.le_refl _)]; omega
theorem cnt_output (N : Nt) : cntS ((lnsK N).map LnK.first) sOutput = N.outs.length := by
  rw [cnt_lines, if_neg (ba_ne (by decide)), if_neg (ba_ne (by decide)), if_neg (ba_ne (by decide)), if_neg (ba_ne (by decide)), if_pos rfl, if_neg (ba_ne (by decide))]; omega
/-- What both maps tell in the end, however much was drawn. -/
structure Told (M G : Nat) (N : Nt) (W : World) : Prop where
  d : (Builtin.len_ #[45] 3 #[.map (some M)]).run Tryz.prog W = .ok (.int .i64 ((G : Int) - 1)) W
  e : (Instr.lookup 46 (.map (some (M + 1))) (.string sEnd) false).run Tryz.prog W = .ok (.int .i64 1) W
  m : (Instr.lookup 46 (.map (some (M + 1))) (.string sModel) false).run Tryz.prog W = .ok (.int .i64 1) W
  i : (Instr.lookup 46 (.map (some (M + 1))) (.string sInput) false).run Tryz.prog W = .ok (.int .i64 N.ins.length) W
  l : (Instr.lookup 46 (.map (some (M + 1))) (.string sLatch) false).run Tryz.prog W = .ok (.int .i64 N.regs.length) W
  a : (Instr.lookup 46 (.map (some (M + 1))) (.string sAnd) false).run Tryz.prog W = .ok (.int .i64 (gatesTo N.g N.g.nodes.length : Nat)) W
  o : (Instr.lookup 46 (.map (some (M + 1))) (.string sOutput) false).run Tryz.prog W = .ok (.int .i64 N.outs.length) W
theorem OS.told {M G : Nat} {X : List ByteArray} {w3 W : World} {N : Nt} (hg : Good N []) (hG : N.g.nodes.length = G) (h : OS M X w3 (drvL N) ((lnsK N).map LnK.first) W) : Told M G N W := by
  obtain ⟨D, hD, hDo⟩ := h.m
  obtain ⟨C, hC, hCo⟩ := h.c
  have hp := hg.wf.pos
  refine ⟨?_, ?_, ?_, ?_, ?_, ?_, ?_⟩
  · rw [hDo.len Tryz.underlying45, hD.size, drv_len hg, hG, show ((G - 1 : Nat) : Int) = (G : Int) - 1 by omega]
  · exact hC.look hCo (by decide) (cnt_end N)
  · exact hC.look hCo (by decide) (cnt_model N)
  · exact hC.look hCo (by decide) (cnt_input N)
  · exact hC.look hCo (by decide) (cnt_latch N)
  · exact hC.look hCo (by decide) (cnt_and N)
  · exact hC.look hCo (by decide) (cnt_output N)
end Go.Proofs.YtafoohdndlhbnaaGreatDoor
end

section
namespace Go.Proofs.YtafoohdndlhbnaaGreatDoor
open Go.RowKit Go.Maps Bits
set_option maxRecDepth 100000
set_option linter.unusedVariables false

theorem rgCells_d (R : List Rg) : ∀ (i : Nat) (r : Rg) (d : Int), R[i]? = some r → rgCells (R.set i { r with d := d }) = (rgCells R).set (i * 4 + 1) (.int .u32 d) := by
  induction R with
  | nil => intro i r d h; simp at h
  | cons m R ih =>
    intro i r d h
    cases i with
    | zero => simp at h; subst h; simp [rgCells, rgc]
    | succ i =>
      rw [List.set_cons_succ, show rgCells (m :: R.set i { r with d := d }) = rgc m ++ rgCells (R.set i { r with d := d }) from rfl, ih i r d (by simpa using h), show rgCells (m :: R) = rgc m ++ rgCells R from rfl]
      rw [List.set_append_right _ _ (by simp [rgc]; omega), show (i + 1) * 4 + 1 - (rgc m).length = i * 4 + 1 by simp [rgc]; omega]
theorem rgCells_i (R : List Rg) : ∀ (i : Nat) (r : Rg) (b : Bool), R[i]? = some r → rgCells (R.set i { r with init := b }) = (rgCells R).set (i * 4 + 3) (.bool b) := by
  induction R with
  | nil => intro i r d h; simp at h
  | cons m R ih =>
    intro i r d h
    cases i with
    | zero => simp at h; subst h; simp [rgCells, rgc]
    | succ i =>
      rw [List.set_cons_succ, show rgCells (m :: R.set i { r with init := d }) = rgc m ++ rgCells (R.set i { r with init := d }) from rfl, ih i r d (by simpa using h), show rgCells (m :: R) = rgc m ++ rgCells R from rfl]
      rw [List.set_append_right _ _ (by simp [rgc]; omega), show (i + 1) * 4 + 3 - (rgc m).length = i * 4 + 3 by simp [rgc]; omega]
theorem reg_store {w : World} {q : NPl} {N : Nt} (h : NetIs w q N) {g rc n : Nat} (hv : q.rv = .slice (some ⟨g, 0, none⟩) n rc) {i o : Nat} {v : Value} {r' : Rg} (hc : rgCells (N.regs.set i r') = (rgCells N.regs).set o v) :
    NetIs (w.setCell ⟨g, o, none⟩ v) q (setRegN N i r') := by
  have hr := h.regs
  unfold RegRow at hr
  rw [hv] at hr
  obtain ⟨a2, c2, e⟩ := own_slice hr
  simp only [Value.slice.injEq] at e
  obtain ⟨-, rfl, -⟩ := e
  have h1 := hr.stored o v
  have hgb : g ≠ q.b := by
    rintro rfl
    exact h.bFar.2.1 (by rw [hv]; rfl)
  have hk : Kept (fun k => k = q.b ∨ q.rv.ownBlock = some k) w (w.setCell ⟨g, o, none⟩ v) :=
    ⟨h1.2.os, h1.2.tape, h1.2.output, h1.2.size, fun k hlt hn => h1.2.block k hlt (fun e => hn (.inr (by rw [hv]; simpa [Value.ownBlock] using e.symm)))⟩
  have := h.setRegs (v := q.rv) (R := N.regs.set i r') hk (by
    rw [h1.2.block _ h.lt (by simpa using fun e => hgb e.symm)]; exact h.box) (by
    unfold RegRow
    rw [hc, hv, List.length_set]
    exact h1.1) (fun k hk => .inl hk)
  exact this.is
theorem nm_store {w : World} {q : NPl} {N : Nt} (h : NetIs w q N) (s : ByteArray) : NetIs (w.setCell ⟨q.b, 1, none⟩ (.string s)) q (setNm N s) := by
  have hk := kept_store (row := none) (Below.refl w.heap.size w) (World.grownBy.refl w none) q.b 1 (.string s)
  have hF : NoLits w (fun k => k = q.b ∨ none = some k) := fun k c fz hp => h.noLits k c fz (by rcases hp with hp | hp; exact .inl hp; cases hp)
  refine ⟨?_, h.g.beside hk (fun k hp hg => ?_), h.ins.keptF hk (fun k e hp => ?_) hF, own_keptF h.regs hk (fun k e hp => ?_), h.outs.keptF hk (fun k e hp => ?_) hF, h.apart⟩
  · have := box_set (o := 1) h.box (.string s)
    simpa [netBox, setNm] using this
  all_goals rcases hp with rfl | hp
  all_goals first | (cases hp; done) | skip
  · exact (h.gFar hg).1 rfl
  · exact h.bFar.1 e
  · exact h.bFar.2.1 e
  · exact h.bFar.2.2 e
theorem all_row2 {w : World} {q : NPl} {N : Nt} (h : NetIs w q N) (hg : Good N []) (hU : Upto N 60) (ht : PW w) {T : List UInt8} (hT : textN N = T) :
    Calls Tryz.prog 10 #[.pointer (some ⟨q.b, 0, none⟩)] w fun e w' => ∃ g cap, e = .returned (.tuple #[.slice (some ⟨g, 0, none⟩) T.length cap, .int .i64 0]) ∧ w'.ownsRow w.heap.size 5 1 (.slice (some ⟨g, 0, none⟩) T.length cap) T.length (bys T) ∧ Below w.heap.size w w' := all_row h hg hU ht rfl hT
/-- A row of bytes as a string. -/
theorem conv_full {w : World} {base g cap : Nat} {T : List UInt8} (ho : w.ownsRow base 5 1 (.slice (some ⟨g, 0, none⟩) T.length cap) T.length (bys T)) :
    (convert 29 9 (.slice (some ⟨g, 0, none⟩) T.length cap)).run Tryz.prog w = .ok (.string ⟨T.toArray⟩) w := by
  refine run_convert_bytes_back w _ _ 5 _ cap T Tryz.underlying29 Tryz.underlying5 Tryz.underlying9 (fun j hj => ?_)
  rw [show (⟨g, 0, none⟩ : Addr).add j = ⟨g, j, none⟩ by simp [Addr.add]; omega, ho.cellAt (j := j) (by omega)]
  unfold bys
  simp [hj]
theorem upto_nm {N : Nt} {s : ByteArray} {j : Nat} (h : Upto N j) : Upto (setNm N s) j := ⟨h.1, h.2, h.3, h.4⟩
theorem upto_reg {N : Nt} {i : Nat} {r : Rg} {j : Nat} (h : Upto N j) : Upto (setRegN N i r) j := ⟨h.1, h.2, by show (N.regs.set i r).length ≤ _; rw [List.length_set]; exact h.3, h.4⟩
theorem upto_out {N : Nt} {i : Nat} {b : Bus} {j : Nat} (h : Upto N j) : Upto (setOutN N i b) j := ⟨h.1, h.2, h.3, by show (N.outs.set i b).length ≤ _; rw [List.length_set]; exact h.4⟩
theorem str_neO {s t : ByteArray} (h : ¬ s = t) : (s.toList == t.toList) = false := by
  rw [ByteArray.toList_eq, ByteArray.toList_eq]
  cases e : (s.data.toList == t.data.toList) with
  | false => rfl
  | true =>
    have h1 : s.data.toList = t.data.toList := by simpa using e
    have h2 : s.data = t.data := by
      have := congrArg List.toArray h1
      simpa using this
    exact absurd (ByteArray.ext h2) h
theorem there_not {G : Gr} {x : Int} (h : There G x) : There G (notV x) := by
  obtain ⟨h1, h2⟩ := h
  unfold There IsLit at *
  unfold notV
  by_cases e : x % 2 = 0
  · rw [if_pos (by simpa using e)]
    omega
  · rw [if_neg (by simpa using e)]
    omega
theorem notV_neO (x : Int) : ¬ notV x = x := by
  unfold notV
  split <;> omega
end Go.Proofs.YtafoohdndlhbnaaGreatDoor
end
