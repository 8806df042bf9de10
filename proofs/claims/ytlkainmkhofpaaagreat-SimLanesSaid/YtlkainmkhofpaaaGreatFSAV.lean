/-
  Wants: a step with the document's own netlist.
  The law package's own: a netlist of steps, and the document's.
  The law package's own: rows of words compared; words for a netlist's buses.
-/
import Derived.Test.YtlkainmkhofpaaaGreatFSAU
import Derived.Test.YtlkainmkhofpaaaGreatFSAO
import Derived.Test.YtlkainmkhofpaaaGreatFSAS
section
namespace Go.Proofs.YtlkainmkhofpaaaGreat
open Go.RowKit Go.Maps Num Bits
set_option maxRecDepth 100000

def Wants_call (P : StV → Prop) : Prop := ∀ (w0 w : World) (B Bg : Nat) (p : RPl) (N : Nt) (rest : List Int) (s : StV), RN w0 w B Bg p N → Good N rest → Small N → StOk w s → P s →
    Calls Tryz.prog 35 #[.pointer (some ⟨B, 0, none⟩), stVal s] w fun e w' => (∃ v, e = .returned v) ∧ RNext w0 w B Bg (doesN N s).1 w'

theorem wants_0 : Wants_call (fun s => s.what = 0) := by
  intro w0 w B Bg p N rest s h hg hS hs hw
  obtain ⟨K, nm, n, a, b, c, la, ln, lc, zs⟩ := s
  obtain rfl : K = 0 := hw
  have hb1 : Below w.heap.size w (w.alloc (.cells #[.int .i64 0, .string nm, .int .i64 n, .int .u32 a, .int .u32 b, .int .u32 c, .slice la ln lc] 93)) := (Below.refl _ _).alloc (Nat.le_refl _) _
  have h1 := h.step hb1
  have hsg := hS.g
  have hsi := hS.ins
  have hsr := hS.regs
  have hso := hS.outs
  have hf := Lib.hid (fun w2 N2 (hn : RNext w0 (w.alloc (.cells #[.int .i64 0, .string nm, .int .i64 n, .int .u32 a, .int .u32 b, .int .u32 c, .slice la ln lc] 93)) B Bg N2 w2) => RNext.front hb1 hn)
  have hnw := Lib.hid (fun (w2 : World) o => (Below.refl w2.heap.size w2).alloc (Nat.le_refl _) o)
  have hc := Lib.hid (rAddIn_any h1 (by omega) (by omega) nm n)
  rw [show doesN N ⟨0, nm, n, a, b, c, la, ln, lc, zs⟩ = addIn N nm n from rfl]
  unfold stVal
  generalize (addIn N nm n).1 = N' at *
  clear h h1 hg hS hs hb1
  go_enter Tryz.func35, Tryz.ntmps35
  go_wp2_with (go_at_call 74; (with_reducible refine hc.out.mono ?_); rintro e w2 ⟨⟨v1, v2, rfl⟩, hn⟩)
  go_ret2
  exact ⟨⟨_, rfl⟩, hf.out _ _ hn⟩
theorem wants_1 : Wants_call (fun s => s.what = 1) := by
  intro w0 w B Bg p N rest s h hg hS hs hw
  obtain ⟨K, nm, n, a, b, c, la, ln, lc, zs⟩ := s
  obtain rfl : K = 1 := hw
  have hb1 : Below w.heap.size w (w.alloc (.cells #[.int .i64 1, .string nm, .int .i64 n, .int .u32 a, .int .u32 b, .int .u32 c, .slice la ln lc] 93)) := (Below.refl _ _).alloc (Nat.le_refl _) _
  have h1 := h.step hb1
  have hsg := hS.g
  have hsi := hS.ins
  have hsr := hS.regs
  have hso := hS.outs
  have hf := Lib.hid (fun w2 N2 (hn : RNext w0 (w.alloc (.cells #[.int .i64 1, .string nm, .int .i64 n, .int .u32 a, .int .u32 b, .int .u32 c, .slice la ln lc] 93)) B Bg N2 w2) => RNext.front hb1 hn)
  have hnw := Lib.hid (fun (w2 : World) o => (Below.refl w2.heap.size w2).alloc (Nat.le_refl _) o)
  have hc := Lib.hid (fun i => rAddReg_any h1 (by omega) (by omega) i)
  rw [show doesN N ⟨1, nm, n, a, b, c, la, ln, lc, zs⟩ = ((addReg N (n.tmod 2 != 0)).1, [(addReg N (n.tmod 2 != 0)).2], 0) from rfl]
  simp only []
  unfold stVal
  clear h h1 hg hS hs hb1
  go_enter Tryz.func35, Tryz.ntmps35
  go_wp2_with (go_at_call 75; (with_reducible refine (hc.out _).mono ?_); rintro e w2 ⟨⟨v1, v2, rfl⟩, hn⟩)
  go_ret2
  exact ⟨⟨_, rfl⟩, (hf.out _ _ hn).then (hnw.out _ _)⟩
theorem wants_2 : Wants_call (fun s => s.what = 2) := by
  intro w0 w B Bg p N rest s h hg hS hs hw
  obtain ⟨K, nm, n, a, b, c, la, ln, lc, zs⟩ := s
  obtain rfl : K = 2 := hw
  have hb1 : Below w.heap.size w (w.alloc (.cells #[.int .i64 2, .string nm, .int .i64 n, .int .u32 a, .int .u32 b, .int .u32 c, .slice la ln lc] 93)) := (Below.refl _ _).alloc (Nat.le_refl _) _
  have h1 := h.step hb1
  have hsg := hS.g
  have hsi := hS.ins
  have hsr := hS.regs
  have hso := hS.outs
  have hf := Lib.hid (fun w2 N2 (hn : RNext w0 (w.alloc (.cells #[.int .i64 2, .string nm, .int .i64 n, .int .u32 a, .int .u32 b, .int .u32 c, .slice la ln lc] 93)) B Bg N2 w2) => RNext.front hb1 hn)
  have hnw := Lib.hid (fun (w2 : World) o => (Below.refl w2.heap.size w2).alloc (Nat.le_refl _) o)
  have hc := Lib.hid (rSetReg_any h1 (by omega) (by omega) a b c hs.b hs.c)
  rw [show doesN N ⟨2, nm, n, a, b, c, la, ln, lc, zs⟩ = ((setReg N a b c).1, [], (setReg N a b c).2) from rfl]
  simp only []
  unfold stVal
  generalize (setReg N a b c).1 = N' at *
  clear h h1 hg hS hs hb1
  go_enter Tryz.func35, Tryz.ntmps35
  go_wp2_with (go_at_call 76; (with_reducible refine hc.out.mono ?_); rintro e w2 ⟨⟨v1, rfl⟩, hn⟩)
  go_ret2
  exact ⟨⟨_, rfl⟩, hf.out _ _ hn⟩
theorem wants_n : Wants_call (fun s => s.what ≠ 0 ∧ s.what ≠ 1 ∧ s.what ≠ 2 ∧ s.what ≠ 3 ∧ s.what ≠ 4 ∧ s.what ≠ 5 ∧ s.what ≠ 6 ∧ s.what ≠ 7 ∧ s.what ≠ 8) := by
  intro w0 w B Bg p N rest s h hg hS hs hw
  obtain ⟨K, nm, n, a, b, c, la, ln, lc, zs⟩ := s
  obtain ⟨k0, k1, k2, k3, k4, k5, k6, k7, k8⟩ := hw
  simp only [] at k0 k1 k2 k3 k4 k5 k6 k7 k8
  have hb1 : Below w.heap.size w (w.alloc (.cells #[.int .i64 K, .string nm, .int .i64 n, .int .u32 a, .int .u32 b, .int .u32 c, .slice la ln lc] 93)) := (Below.refl _ _).alloc (Nat.le_refl _) _
  have hf := Lib.hid (RNext.of_below h hb1)
  rw [show doesN N ⟨K, nm, n, a, b, c, la, ln, lc, zs⟩ = (N, [], 0) by unfold doesN; simp [k0, k1, k2, k3, k4, k5, k6, k7, k8]]
  unfold stVal
  simp only []
  have g0 := beqf k0
  have g1 := beqf k1
  have g2 := beqf k2
  have g3 := beqf k3
  have g4 := beqf k4
  have g5 := beqf k5
  have g6 := beqf k6
  have g7 := beqf k7
  have g8 := beqf k8
  clear h hg hS hs hb1
  go_enter Tryz.func35, Tryz.ntmps35
  go_wp2
  go_ret2
  exact ⟨⟨_, rfl⟩, hf.out⟩
set_option maxHeartbeats 2000000 in
theorem wants_4 : Wants_call (fun s => s.what = 4) := by
  intro w0 w B Bg p N rest s h hg hS hs hw
  obtain ⟨K, nm, n, a, b, c, la, ln, lc, zs⟩ := s
  obtain rfl : K = 4 := hw
  have hb1 : Below w.heap.size w (w.alloc (.cells #[.int .i64 4, .string nm, .int .i64 n, .int .u32 a, .int .u32 b, .int .u32 c, .slice la ln lc] 93)) := (Below.refl _ _).alloc (Nat.le_refl _) _
  have h1 := h.step hb1
  have hsg := hS.g
  have hsi := hS.ins
  have hsr := hS.regs
  have hso := hS.outs
  have hf := Lib.hid (fun w2 N2 (hn : RNext w0 (w.alloc (.cells #[.int .i64 4, .string nm, .int .i64 n, .int .u32 a, .int .u32 b, .int .u32 c, .slice la ln lc] 93)) B Bg N2 w2) => RNext.front hb1 hn)
  have hnw := Lib.hid (fun (w2 : World) o => (Below.refl w2.heap.size w2).alloc (Nat.le_refl _) o)
  have hbd := ((Below.refl (w.alloc (.cells #[.int .i64 4, .string nm, .int .i64 n, .int .u32 a, .int .u32 b, .int .u32 c, .slice la ln lc] 93)).heap.size (w.alloc (.cells #[.int .i64 4, .string nm, .int .i64 n, .int .u32 a, .int .u32 b, .int .u32 c, .slice la ln lc] 93))).alloc (Nat.le_refl _) (.cells #[.int .u32 b, .int .u32 c] 39)).drew
  have h2 := h1.step hbd
  have hma := Lib.hid (rmany_any (op := 1) rtwo_and' and_ok (by omega) h2.g hg.wf (by omega) hs.b hs.c (cap := 2) ((row2 (w.alloc (.cells #[.int .i64 4, .string nm, .int .i64 n, .int .u32 a, .int .u32 b, .int .u32 c, .slice la ln lc] 93)) b c 39).step ((Below.refl _ _).drew)))
  have hgr := Lib.hid (fun w2 g1 c1 (hR : Rf w0 w2 Bg g1 c1 (manyR andG N.g b c).fold (manyR andG N.g b c).hash (manyR andG N.g b c).nodes) hk => And.intro (h2.growN hR hk) (h2.grow hR hk).cells)
  have hrn : Hid ((doesN N ⟨4, nm, n, a, b, c, la, ln, lc, zs⟩).1 = { N with g := manyR andG N.g b c }) := Lib.hid (by
    show (gateN andG N b c).1 = _
    unfold gateN manyR
    split <;> rfl)
  rw [hrn.out]
  obtain ⟨-, -, -, -, -, -, -, -, -, c0, -⟩ := h1.cells
  have hlb := h1.lt
  generalize manyR andG N.g b c = G' at *
  have k0 : (w.alloc (.cells #[.int .i64 4, .string nm, .int .i64 n, .int .u32 a, .int .u32 b, .int .u32 c, .slice la ln lc] 93)).cell? ⟨w.heap.size, 0, none⟩ = some (.int .i64 4) := by simp [go_sem]
  have k4 : (w.alloc (.cells #[.int .i64 4, .string nm, .int .i64 n, .int .u32 a, .int .u32 b, .int .u32 c, .slice la ln lc] 93)).cell? ⟨w.heap.size, 4, none⟩ = some (.int .u32 b) := by simp [go_sem]
  have k5 : (w.alloc (.cells #[.int .i64 4, .string nm, .int .i64 n, .int .u32 a, .int .u32 b, .int .u32 c, .slice la ln lc] 93)).cell? ⟨w.heap.size, 5, none⟩ = some (.int .u32 c) := by simp [go_sem]
  have hsc : (w.alloc (.cells #[.int .i64 4, .string nm, .int .i64 n, .int .u32 a, .int .u32 b, .int .u32 c, .slice la ln lc] 93)).heap[w.heap.size]? = some (.cells #[.int .i64 4, .string nm, .int .i64 n, .int .u32 a, .int .u32 b, .int .u32 c, .slice la ln lc] 93 (0, 0)) := Deep.blk_alloc_new _ _
  generalize hw1 : w.alloc (.cells #[.int .i64 4, .string nm, .int .i64 n, .int .u32 a, .int .u32 b, .int .u32 c, .slice la ln lc] 93) = w1 at *
  have hbz : (w.heap.size : Nat) < w1.heap.size := World.block_lt_of_cell? w1 _ k4
  have hKK := Lib.hid (fun w3 (hn : Kept (RK (w1.alloc (.cells #[.int .u32 b, .int .u32 c] 39)).drew) (w1.alloc (.cells #[.int .u32 b, .int .u32 c] 39)).drew w3) => (show w3.cell? ⟨w.heap.size, 4, none⟩ = some (.int .u32 b) ∧ w3.cell? ⟨w.heap.size, 5, none⟩ = some (.int .u32 c) by
    have e0 := (hbd.block _ hbz).trans hsc
    have hk := hn.block w.heap.size (Nat.lt_of_lt_of_le hbz hbd.size) (fun ⟨cur, T, fz, e1, e2⟩ => by rw [e0] at e1; simp at e1; obtain ⟨-, rfl, -⟩ := e1; rcases e2 with e2 | e2 <;> revert e2 <;> decide)
    have e := hk.trans e0
    exact ⟨by simp [World.cell?, e], by simp [World.cell?, e]⟩))
  have hFr := Lib.hid (fun w3 N2 (hn : RNext w0 (w1.alloc (.cells #[.int .u32 b, .int .u32 c] 39)).drew B Bg N2 w3) => hf.out w3 N2 (RNext.front hbd hn))
  clear h h1 h2 hg hS hs hb1 hsc hbd hf
  unfold stVal
  go_enter Tryz.func35, Tryz.ntmps35
  go_upto_region 16 with fail
  go_region_held3 (fun w' => w'.cell? ⟨w.heap.size, 4, none⟩ = some (.int .u32 b) ∧ w'.cell? ⟨w.heap.size, 5, none⟩ = some (.int .u32 c) ∧ w'.cell? ⟨B, 0, none⟩ = some (.pointer (some ⟨Bg, 0, none⟩))) (go_keep) (first
    | (go_at_call 78; (with_reducible refine hma.out.mono ?_); rintro e w7 ⟨⟨v1, v2, rfl⟩, g7, c7, hR, hk7⟩; obtain ⟨n4, n5⟩ := hKK.out _ hk7; obtain ⟨hnx, ha⟩ := hgr.out _ _ _ hR hk7; obtain ⟨-, -, -, -, -, -, -, -, -, n0, -⟩ := ha; have hnx := Lib.hid hnx; clear hR hk7))
  all_goals go_wp2
  all_goals go_ret2
  all_goals exact ⟨⟨_, rfl⟩, (hFr.out _ _ hnx.out).then (hnw.out _ _)⟩
set_option maxHeartbeats 2000000 in
theorem wants_5 : Wants_call (fun s => s.what = 5) := by
  intro w0 w B Bg p N rest s h hg hS hs hw
  obtain ⟨K, nm, n, a, b, c, la, ln, lc, zs⟩ := s
  obtain rfl : K = 5 := hw
  have hb1 : Below w.heap.size w (w.alloc (.cells #[.int .i64 5, .string nm, .int .i64 n, .int .u32 a, .int .u32 b, .int .u32 c, .slice la ln lc] 93)) := (Below.refl _ _).alloc (Nat.le_refl _) _
  have h1 := h.step hb1
  have hsg := hS.g
  have hsi := hS.ins
  have hsr := hS.regs
  have hso := hS.outs
  have hf := Lib.hid (fun w2 N2 (hn : RNext w0 (w.alloc (.cells #[.int .i64 5, .string nm, .int .i64 n, .int .u32 a, .int .u32 b, .int .u32 c, .slice la ln lc] 93)) B Bg N2 w2) => RNext.front hb1 hn)
  have hnw := Lib.hid (fun (w2 : World) o => (Below.refl w2.heap.size w2).alloc (Nat.le_refl _) o)
  have hbd := ((Below.refl (w.alloc (.cells #[.int .i64 5, .string nm, .int .i64 n, .int .u32 a, .int .u32 b, .int .u32 c, .slice la ln lc] 93)).heap.size (w.alloc (.cells #[.int .i64 5, .string nm, .int .i64 n, .int .u32 a, .int .u32 b, .int .u32 c, .slice la ln lc] 93))).alloc (Nat.le_refl _) (.cells #[.int .u32 b, .int .u32 c] 39)).drew
  have h2 := h1.step hbd
  have hma := Lib.hid (rmany_any (op := 1) rtwo_and' and_ok (by omega) h2.g hg.wf (by omega) hs.b hs.c (cap := 2) ((row2 (w.alloc (.cells #[.int .i64 5, .string nm, .int .i64 n, .int .u32 a, .int .u32 b, .int .u32 c, .slice la ln lc] 93)) b c 39).step ((Below.refl _ _).drew)))
  have hgr := Lib.hid (fun w2 g1 c1 (hR : Rf w0 w2 Bg g1 c1 (manyR andG N.g b c).fold (manyR andG N.g b c).hash (manyR andG N.g b c).nodes) hk => And.intro (h2.growN hR hk) (h2.grow hR hk).cells)
  have hrn : Hid ((doesN N ⟨5, nm, n, a, b, c, la, ln, lc, zs⟩).1 = { N with g := manyR andG N.g b c }) := Lib.hid (by
    show (gateN andG N b c).1 = _
    unfold gateN manyR
    split <;> rfl)
  rw [hrn.out]
  obtain ⟨-, -, -, -, -, -, -, -, -, c0, -⟩ := h1.cells
  have hlb := h1.lt
  generalize manyR andG N.g b c = G' at *
  have k0 : (w.alloc (.cells #[.int .i64 5, .string nm, .int .i64 n, .int .u32 a, .int .u32 b, .int .u32 c, .slice la ln lc] 93)).cell? ⟨w.heap.size, 0, none⟩ = some (.int .i64 5) := by simp [go_sem]
  have k4 : (w.alloc (.cells #[.int .i64 5, .string nm, .int .i64 n, .int .u32 a, .int .u32 b, .int .u32 c, .slice la ln lc] 93)).cell? ⟨w.heap.size, 4, none⟩ = some (.int .u32 b) := by simp [go_sem]
  have k5 : (w.alloc (.cells #[.int .i64 5, .string nm, .int .i64 n, .int .u32 a, .int .u32 b, .int .u32 c, .slice la ln lc] 93)).cell? ⟨w.heap.size, 5, none⟩ = some (.int .u32 c) := by simp [go_sem]
  have hsc : (w.alloc (.cells #[.int .i64 5, .string nm, .int .i64 n, .int .u32 a, .int .u32 b, .int .u32 c, .slice la ln lc] 93)).heap[w.heap.size]? = some (.cells #[.int .i64 5, .string nm, .int .i64 n, .int .u32 a, .int .u32 b, .int .u32 c, .slice la ln lc] 93 (0, 0)) := Deep.blk_alloc_new _ _
  generalize hw1 : w.alloc (.cells #[.int .i64 5, .string nm, .int .i64 n, .int .u32 a, .int .u32 b, .int .u32 c, .slice la ln lc] 93) = w1 at *
  have hbz : (w.heap.size : Nat) < w1.heap.size := World.block_lt_of_cell? w1 _ k4
  have hKK := Lib.hid (fun w3 (hn : Kept (RK (w1.alloc (.cells #[.int .u32 b, .int .u32 c] 39)).drew) (w1.alloc (.cells #[.int .u32 b, .int .u32 c] 39)).drew w3) => (show w3.cell? ⟨w.heap.size, 4, none⟩ = some (.int .u32 b) ∧ w3.cell? ⟨w.heap.size, 5, none⟩ = some (.int .u32 c) by
    have e0 := (hbd.block _ hbz).trans hsc
    have hk := hn.block w.heap.size (Nat.lt_of_lt_of_le hbz hbd.size) (fun ⟨cur, T, fz, e1, e2⟩ => by rw [e0] at e1; simp at e1; obtain ⟨-, rfl, -⟩ := e1; rcases e2 with e2 | e2 <;> revert e2 <;> decide)
    have e := hk.trans e0
    exact ⟨by simp [World.cell?, e], by simp [World.cell?, e]⟩))
  have hFr := Lib.hid (fun w3 N2 (hn : RNext w0 (w1.alloc (.cells #[.int .u32 b, .int .u32 c] 39)).drew B Bg N2 w3) => hf.out w3 N2 (RNext.front hbd hn))
  clear h h1 h2 hg hS hs hb1 hsc hbd hf
  unfold stVal
  go_enter Tryz.func35, Tryz.ntmps35
  go_upto_region 16 with fail
  go_region_held3 (fun w' => w'.cell? ⟨w.heap.size, 4, none⟩ = some (.int .u32 b) ∧ w'.cell? ⟨w.heap.size, 5, none⟩ = some (.int .u32 c) ∧ w'.cell? ⟨B, 0, none⟩ = some (.pointer (some ⟨Bg, 0, none⟩))) (go_keep) (first
    | (go_at_call 78; (with_reducible refine hma.out.mono ?_); rintro e w7 ⟨⟨v1, v2, rfl⟩, g7, c7, hR, hk7⟩; obtain ⟨n4, n5⟩ := hKK.out _ hk7; obtain ⟨hnx, ha⟩ := hgr.out _ _ _ hR hk7; obtain ⟨-, -, -, -, -, -, -, -, -, n0, -⟩ := ha; have hnx := Lib.hid hnx; clear hR hk7))
  all_goals go_wp2
  all_goals go_ret2
  all_goals exact ⟨⟨_, rfl⟩, (hFr.out _ _ hnx.out).then (hnw.out _ _)⟩
set_option maxHeartbeats 2000000 in
theorem wants_6 : Wants_call (fun s => s.what = 6) := by
  intro w0 w B Bg p N rest s h hg hS hs hw
  obtain ⟨K, nm, n, a, b, c, la, ln, lc, zs⟩ := s
  obtain rfl : K = 6 := hw
  have hb1 : Below w.heap.size w (w.alloc (.cells #[.int .i64 6, .string nm, .int .i64 n, .int .u32 a, .int .u32 b, .int .u32 c, .slice la ln lc] 93)) := (Below.refl _ _).alloc (Nat.le_refl _) _
  have h1 := h.step hb1
  have hsg := hS.g
  have hsi := hS.ins
  have hsr := hS.regs
  have hso := hS.outs
  have hf := Lib.hid (fun w2 N2 (hn : RNext w0 (w.alloc (.cells #[.int .i64 6, .string nm, .int .i64 n, .int .u32 a, .int .u32 b, .int .u32 c, .slice la ln lc] 93)) B Bg N2 w2) => RNext.front hb1 hn)
  have hnw := Lib.hid (fun (w2 : World) o => (Below.refl w2.heap.size w2).alloc (Nat.le_refl _) o)
  have hbd := ((Below.refl (w.alloc (.cells #[.int .i64 6, .string nm, .int .i64 n, .int .u32 a, .int .u32 b, .int .u32 c, .slice la ln lc] 93)).heap.size (w.alloc (.cells #[.int .i64 6, .string nm, .int .i64 n, .int .u32 a, .int .u32 b, .int .u32 c, .slice la ln lc] 93))).alloc (Nat.le_refl _) (.cells #[.int .u32 b, .int .u32 c] 39)).drew
  have h2 := h1.step hbd
  have hma := Lib.hid (rmany_any (op := 1) rtwo_and' and_ok (by omega) h2.g hg.wf (by omega) hs.b hs.c (cap := 2) ((row2 (w.alloc (.cells #[.int .i64 6, .string nm, .int .i64 n, .int .u32 a, .int .u32 b, .int .u32 c, .slice la ln lc] 93)) b c 39).step ((Below.refl _ _).drew)))
  have hgr := Lib.hid (fun w2 g1 c1 (hR : Rf w0 w2 Bg g1 c1 (manyR andG N.g b c).fold (manyR andG N.g b c).hash (manyR andG N.g b c).nodes) hk => And.intro (h2.growN hR hk) (h2.grow hR hk).cells)
  have hrn : Hid ((doesN N ⟨6, nm, n, a, b, c, la, ln, lc, zs⟩).1 = { N with g := manyR andG N.g b c }) := Lib.hid (by
    show (gateN andG N b c).1 = _
    unfold gateN manyR
    split <;> rfl)
  rw [hrn.out]
  obtain ⟨-, -, -, -, -, -, -, -, -, c0, -⟩ := h1.cells
  have hlb := h1.lt
  generalize manyR andG N.g b c = G' at *
  have k0 : (w.alloc (.cells #[.int .i64 6, .string nm, .int .i64 n, .int .u32 a, .int .u32 b, .int .u32 c, .slice la ln lc] 93)).cell? ⟨w.heap.size, 0, none⟩ = some (.int .i64 6) := by simp [go_sem]
  have k4 : (w.alloc (.cells #[.int .i64 6, .string nm, .int .i64 n, .int .u32 a, .int .u32 b, .int .u32 c, .slice la ln lc] 93)).cell? ⟨w.heap.size, 4, none⟩ = some (.int .u32 b) := by simp [go_sem]
  have k5 : (w.alloc (.cells #[.int .i64 6, .string nm, .int .i64 n, .int .u32 a, .int .u32 b, .int .u32 c, .slice la ln lc] 93)).cell? ⟨w.heap.size, 5, none⟩ = some (.int .u32 c) := by simp [go_sem]
  have hsc : (w.alloc (.cells #[.int .i64 6, .string nm, .int .i64 n, .int .u32 a, .int .u32 b, .int .u32 c, .slice la ln lc] 93)).heap[w.heap.size]? = some (.cells #[.int .i64 6, .string nm, .int .i64 n, .int .u32 a, .int .u32 b, .int .u32 c, .slice la ln lc] 93 (0, 0)) := Deep.blk_alloc_new _ _
  generalize hw1 : w.alloc (.cells #[.int .i64 6, .string nm, .int .i64 n, .int .u32 a, .int .u32 b, .int .u32 c, .slice la ln lc] 93) = w1 at *
  have hbz : (w.heap.size : Nat) < w1.heap.size := World.block_lt_of_cell? w1 _ k4
  have hKK := Lib.hid (fun w3 (hn : Kept (RK (w1.alloc (.cells #[.int .u32 b, .int .u32 c] 39)).drew) (w1.alloc (.cells #[.int .u32 b, .int .u32 c] 39)).drew w3) => (show w3.cell? ⟨w.heap.size, 4, none⟩ = some (.int .u32 b) ∧ w3.cell? ⟨w.heap.size, 5, none⟩ = some (.int .u32 c) by
    have e0 := (hbd.block _ hbz).trans hsc
    have hk := hn.block w.heap.size (Nat.lt_of_lt_of_le hbz hbd.size) (fun ⟨cur, T, fz, e1, e2⟩ => by rw [e0] at e1; simp at e1; obtain ⟨-, rfl, -⟩ := e1; rcases e2 with e2 | e2 <;> revert e2 <;> decide)
    have e := hk.trans e0
    exact ⟨by simp [World.cell?, e], by simp [World.cell?, e]⟩))
  have hFr := Lib.hid (fun w3 N2 (hn : RNext w0 (w1.alloc (.cells #[.int .u32 b, .int .u32 c] 39)).drew B Bg N2 w3) => hf.out w3 N2 (RNext.front hbd hn))
  clear h h1 h2 hg hS hs hb1 hsc hbd hf
  unfold stVal
  go_enter Tryz.func35, Tryz.ntmps35
  go_upto_region 16 with fail
  go_region_held3 (fun w' => w'.cell? ⟨w.heap.size, 4, none⟩ = some (.int .u32 b) ∧ w'.cell? ⟨w.heap.size, 5, none⟩ = some (.int .u32 c) ∧ w'.cell? ⟨B, 0, none⟩ = some (.pointer (some ⟨Bg, 0, none⟩))) (go_keep) (first
    | (go_at_call 78; (with_reducible refine hma.out.mono ?_); rintro e w7 ⟨⟨v1, v2, rfl⟩, g7, c7, hR, hk7⟩; obtain ⟨n4, n5⟩ := hKK.out _ hk7; obtain ⟨hnx, ha⟩ := hgr.out _ _ _ hR hk7; obtain ⟨-, -, -, -, -, -, -, -, -, n0, -⟩ := ha; have hnx := Lib.hid hnx; clear hR hk7))
  all_goals go_wp2
  all_goals go_ret2
  all_goals exact ⟨⟨_, rfl⟩, (hFr.out _ _ hnx.out).then (hnw.out _ _)⟩
set_option maxHeartbeats 2000000 in
theorem wants_7 : Wants_call (fun s => s.what = 7) := by
  intro w0 w B Bg p N rest s h hg hS hs hw
  obtain ⟨K, nm, n, a, b, c, la, ln, lc, zs⟩ := s
  obtain rfl : K = 7 := hw
  have hb1 : Below w.heap.size w (w.alloc (.cells #[.int .i64 7, .string nm, .int .i64 n, .int .u32 a, .int .u32 b, .int .u32 c, .slice la ln lc] 93)) := (Below.refl _ _).alloc (Nat.le_refl _) _
  have h1 := h.step hb1
  have hsg := hS.g
  have hsi := hS.ins
  have hsr := hS.regs
  have hso := hS.outs
  have hf := Lib.hid (fun w2 N2 (hn : RNext w0 (w.alloc (.cells #[.int .i64 7, .string nm, .int .i64 n, .int .u32 a, .int .u32 b, .int .u32 c, .slice la ln lc] 93)) B Bg N2 w2) => RNext.front hb1 hn)
  have hnw := Lib.hid (fun (w2 : World) o => (Below.refl w2.heap.size w2).alloc (Nat.le_refl _) o)
  have hbd := ((Below.refl (w.alloc (.cells #[.int .i64 7, .string nm, .int .i64 n, .int .u32 a, .int .u32 b, .int .u32 c, .slice la ln lc] 93)).heap.size (w.alloc (.cells #[.int .i64 7, .string nm, .int .i64 n, .int .u32 a, .int .u32 b, .int .u32 c, .slice la ln lc] 93))).alloc (Nat.le_refl _) (.cells #[.int .u32 b, .int .u32 c] 39)).drew
  have h2 := h1.step hbd
  have hma := Lib.hid (rmany_any (op := 3) rtwo_xor xor_ok (by omega) h2.g hg.wf (by omega) hs.b hs.c (cap := 2) ((row2 (w.alloc (.cells #[.int .i64 7, .string nm, .int .i64 n, .int .u32 a, .int .u32 b, .int .u32 c, .slice la ln lc] 93)) b c 39).step ((Below.refl _ _).drew)))
  have hgr := Lib.hid (fun w2 g1 c1 (hR : Rf w0 w2 Bg g1 c1 (manyR xorG N.g b c).fold (manyR xorG N.g b c).hash (manyR xorG N.g b c).nodes) hk => And.intro (h2.growN hR hk) (h2.grow hR hk).cells)
  have hrn : Hid ((doesN N ⟨7, nm, n, a, b, c, la, ln, lc, zs⟩).1 = { N with g := manyR xorG N.g b c }) := Lib.hid (by
    show (gateN xorG N b c).1 = _
    unfold gateN manyR
    split <;> rfl)
  rw [hrn.out]
  obtain ⟨-, -, -, -, -, -, -, -, -, c0, -⟩ := h1.cells
  have hlb := h1.lt
  generalize manyR xorG N.g b c = G' at *
  have k0 : (w.alloc (.cells #[.int .i64 7, .string nm, .int .i64 n, .int .u32 a, .int .u32 b, .int .u32 c, .slice la ln lc] 93)).cell? ⟨w.heap.size, 0, none⟩ = some (.int .i64 7) := by simp [go_sem]
  have k4 : (w.alloc (.cells #[.int .i64 7, .string nm, .int .i64 n, .int .u32 a, .int .u32 b, .int .u32 c, .slice la ln lc] 93)).cell? ⟨w.heap.size, 4, none⟩ = some (.int .u32 b) := by simp [go_sem]
  have k5 : (w.alloc (.cells #[.int .i64 7, .string nm, .int .i64 n, .int .u32 a, .int .u32 b, .int .u32 c, .slice la ln lc] 93)).cell? ⟨w.heap.size, 5, none⟩ = some (.int .u32 c) := by simp [go_sem]
  have hsc : (w.alloc (.cells #[.int .i64 7, .string nm, .int .i64 n, .int .u32 a, .int .u32 b, .int .u32 c, .slice la ln lc] 93)).heap[w.heap.size]? = some (.cells #[.int .i64 7, .string nm, .int .i64 n, .int .u32 a, .int .u32 b, .int .u32 c, .slice la ln lc] 93 (0, 0)) := Deep.blk_alloc_new _ _
  generalize hw1 : w.alloc (.cells #[.int .i64 7, .string nm, .int .i64 n, .int .u32 a, .int .u32 b, .int .u32 c, .slice la ln lc] 93) = w1 at *
  have hbz : (w.heap.size : Nat) < w1.heap.size := World.block_lt_of_cell? w1 _ k4
  have hKK := Lib.hid (fun w3 (hn : Kept (RK (w1.alloc (.cells #[.int .u32 b, .int .u32 c] 39)).drew) (w1.alloc (.cells #[.int .u32 b, .int .u32 c] 39)).drew w3) => (show w3.cell? ⟨w.heap.size, 4, none⟩ = some (.int .u32 b) ∧ w3.cell? ⟨w.heap.size, 5, none⟩ = some (.int .u32 c) by
    have e0 := (hbd.block _ hbz).trans hsc
    have hk := hn.block w.heap.size (Nat.lt_of_lt_of_le hbz hbd.size) (fun ⟨cur, T, fz, e1, e2⟩ => by rw [e0] at e1; simp at e1; obtain ⟨-, rfl, -⟩ := e1; rcases e2 with e2 | e2 <;> revert e2 <;> decide)
    have e := hk.trans e0
    exact ⟨by simp [World.cell?, e], by simp [World.cell?, e]⟩))
  have hFr := Lib.hid (fun w3 N2 (hn : RNext w0 (w1.alloc (.cells #[.int .u32 b, .int .u32 c] 39)).drew B Bg N2 w3) => hf.out w3 N2 (RNext.front hbd hn))
  clear h h1 h2 hg hS hs hb1 hsc hbd hf
  unfold stVal
  go_enter Tryz.func35, Tryz.ntmps35
  go_upto_region 18 with fail
  go_region_held3 (fun w' => w'.cell? ⟨w.heap.size, 4, none⟩ = some (.int .u32 b) ∧ w'.cell? ⟨w.heap.size, 5, none⟩ = some (.int .u32 c) ∧ w'.cell? ⟨B, 0, none⟩ = some (.pointer (some ⟨Bg, 0, none⟩))) (go_keep) (first
    | (go_at_call 78; (with_reducible refine hma.out.mono ?_); rintro e w7 ⟨⟨v1, v2, rfl⟩, g7, c7, hR, hk7⟩; obtain ⟨n4, n5⟩ := hKK.out _ hk7; obtain ⟨hnx, ha⟩ := hgr.out _ _ _ hR hk7; obtain ⟨-, -, -, -, -, -, -, -, -, n0, -⟩ := ha; have hnx := Lib.hid hnx; clear hR hk7))
  all_goals go_wp2
  all_goals go_ret2
  all_goals exact ⟨⟨_, rfl⟩, (hFr.out _ _ hnx.out).then (hnw.out _ _)⟩
set_option maxHeartbeats 2000000 in
theorem wants_3 : Wants_call (fun s => s.what = 3) := by
  intro w0 w B Bg p N rest s h hg hS hs hw
  obtain ⟨K, nm, n, a, b, c, la, ln, lc, zs⟩ := s
  obtain rfl : K = 3 := hw
  have hb1 : Below w.heap.size w (w.alloc (.cells #[.int .i64 3, .string nm, .int .i64 n, .int .u32 a, .int .u32 b, .int .u32 c, .slice la ln lc] 93)) := (Below.refl _ _).alloc (Nat.le_refl _) _
  have h1 := h.step hb1
  have hsg := hS.g
  have hsi := hS.ins
  have hsr := hS.regs
  have hso := hS.outs
  have hf := Lib.hid (fun w2 N2 (hn : RNext w0 (w.alloc (.cells #[.int .i64 3, .string nm, .int .i64 n, .int .u32 a, .int .u32 b, .int .u32 c, .slice la ln lc] 93)) B Bg N2 w2) => RNext.front hb1 hn)
  have hnw := Lib.hid (fun (w2 : World) o => (Below.refl w2.heap.size w2).alloc (Nat.le_refl _) o)
  have hzs := hs.lits
  have hrow : Row .u32 w la ln zs := hs.row
  have hcp : ln ≤ lc := hs.cap
  have hlb := h1.lt
  have hmn70 : min ln 70 ≤ ln := Nat.min_le_left _ _
  have k0 : (w.alloc (.cells #[.int .i64 3, .string nm, .int .i64 n, .int .u32 a, .int .u32 b, .int .u32 c, .slice la ln lc] 93)).cell? ⟨w.heap.size, 0, none⟩ = some (.int .i64 3) := by simp [go_sem]
  have k1 : (w.alloc (.cells #[.int .i64 3, .string nm, .int .i64 n, .int .u32 a, .int .u32 b, .int .u32 c, .slice la ln lc] 93)).cell? ⟨w.heap.size, 1, none⟩ = some (.string nm) := by simp [go_sem]
  have k6 : (w.alloc (.cells #[.int .i64 3, .string nm, .int .i64 n, .int .u32 a, .int .u32 b, .int .u32 c, .slice la ln lc] 93)).cell? ⟨w.heap.size, 6, none⟩ = some (.slice la ln lc) := by simp [go_sem]
  rw [show (doesN N ⟨3, nm, n, a, b, c, la, ln, lc, zs⟩).1 = (addOut N nm (zs.take 70)).1 from rfl]
  have hle := hrow.le
  have hr70 : Row .u32 w la (min ln 70) (zs.take 70) := by
    have h := hrow.take (min ln 70) (Nat.min_le_left _ _)
    rw [show zs.take (min ln 70) = zs.take 70 by rw [← hrow.len, ← List.take_take]; simp [List.take_take, Nat.min_comm]] at h
    exact h
  have hsc : (w.alloc (.cells #[.int .i64 3, .string nm, .int .i64 n, .int .u32 a, .int .u32 b, .int .u32 c, .slice la ln lc] 93)).heap[w.heap.size]? = some (.cells #[.int .i64 3, .string nm, .int .i64 n, .int .u32 a, .int .u32 b, .int .u32 c, .slice la ln lc] 93 (0, 0)) := Deep.blk_alloc_new _ _
  generalize hw1 : w.alloc (.cells #[.int .i64 3, .string nm, .int .i64 n, .int .u32 a, .int .u32 b, .int .u32 c, .slice la ln lc] 93) = w1 at *
  have hbz : (w.heap.size : Nat) < w1.heap.size := World.block_lt_of_cell? w1 _ k1
  have hdr := (Below.refl w1.heap.size w1).drew
  have hc := Lib.hid (rAddOut_any (h1.step hdr) (by omega) (by omega) nm (c := lc) ((hr70.step hb1).step hdr) (fun x hx => hzs x (List.mem_of_mem_take hx)))
  have hKK := Lib.hid (fun w3 (hn : Kept (DK w1.drew) w1.drew w3) => (show w3.cell? ⟨w.heap.size, 1, none⟩ = some (.string nm) ∧ w3.cell? ⟨w.heap.size, 6, none⟩ = some (.slice la ln lc) by
    have e0 := (hdr.block _ hbz).trans hsc
    have hk := hn.block w.heap.size (Nat.lt_of_lt_of_le hbz hdr.size) (fun ⟨cur, T, fz, e1, e2⟩ => by rw [e0] at e1; simp at e1; obtain ⟨-, rfl, -⟩ := e1; rcases e2 with e2 | e2 | e2 | e2 | e2 <;> revert e2 <;> decide)
    have e := hk.trans e0
    exact ⟨by simp [World.cell?, e], by simp [World.cell?, e]⟩))
  have hFr := Lib.hid (fun w3 N2 (hn : RNext w0 w1.drew B Bg N2 w3) => hf.out w3 N2 (RNext.front hdr hn))
  generalize (addOut N nm (zs.take 70)).1 = rN at *
  clear h h1 hg hS hs hb1 hsc hrow hzs hr70 hf
  unfold stVal
  by_cases h7 : ln ≤ 70
  · have e7 : min ln 70 = ln := by omega
    rw [e7] at hc
    have g7 : min (ln : Int) 70 = ln := by omega
    have i0 : ¬ (70 : Int) < (ln : Int) := by omega
    have i1 : (0 : Int) ≤ (ln : Int) := by omega
    have i2 : (ln : Int) ≤ (lc : Int) := by omega
    go_enter Tryz.func35, Tryz.ntmps35
    go_upto_region 12 with fail
    go_region_held3 (fun w' => w'.cell? ⟨w.heap.size, 1, none⟩ = some (.string nm) ∧ w'.cell? ⟨w.heap.size, 6, none⟩ = some (.slice la ln lc)) (go_keep) (first
      | (go_at_call 77; (with_reducible refine hc.out.mono ?_); rintro e w7 ⟨⟨v1, rfl⟩, hn⟩; obtain ⟨n1, n6⟩ := hKK.out _ hn.2; have hn := Lib.hid hn))
    all_goals go_wp2
    all_goals go_ret2
    all_goals exact ⟨⟨_, rfl⟩, hFr.out _ _ hn.out⟩
  · have e7 : min ln 70 = 70 := by omega
    rw [e7] at hc
    have g7 : min (ln : Int) 70 = 70 := by omega
    have i0 : (70 : Int) < (ln : Int) := by omega
    have i1 : (0 : Int) ≤ (lc : Int) := by omega
    have i2 : (70 : Int) ≤ (lc : Int) := by omega
    go_enter Tryz.func35, Tryz.ntmps35
    go_upto_region 12 with fail
    go_region_held3 (fun w' => w'.cell? ⟨w.heap.size, 1, none⟩ = some (.string nm) ∧ w'.cell? ⟨w.heap.size, 6, none⟩ = some (.slice la ln lc)) (go_keep) (first
      | (go_at_call 77; (with_reducible refine hc.out.mono ?_); rintro e w7 ⟨⟨v1, rfl⟩, hn⟩; obtain ⟨n1, n6⟩ := hKK.out _ hn.2; have hn := Lib.hid hn))
    all_goals go_wp2
    all_goals go_ret2
    all_goals exact ⟨⟨_, rfl⟩, hFr.out _ _ hn.out⟩

theorem Wants_any : Wants_call (fun s => s.what ≠ 8) := by
  intro w0 w B Bg p N rest s h hg hS hs h8
  by_cases h0 : s.what = 0
  · exact wants_0 w0 w B Bg p N rest s h hg hS hs h0
  by_cases h1 : s.what = 1
  · exact wants_1 w0 w B Bg p N rest s h hg hS hs h1
  by_cases h2 : s.what = 2
  · exact wants_2 w0 w B Bg p N rest s h hg hS hs h2
  by_cases h3 : s.what = 3
  · exact wants_3 w0 w B Bg p N rest s h hg hS hs h3
  by_cases h4 : s.what = 4
  · exact wants_4 w0 w B Bg p N rest s h hg hS hs h4
  by_cases h5 : s.what = 5
  · exact wants_5 w0 w B Bg p N rest s h hg hS hs h5
  by_cases h6 : s.what = 6
  · exact wants_6 w0 w B Bg p N rest s h hg hS hs h6
  by_cases h7 : s.what = 7
  · exact wants_7 w0 w B Bg p N rest s h hg hS hs h7
  exact wants_n w0 w B Bg p N rest s h hg hS hs ⟨h0, h1, h2, h3, h4, h5, h6, h7, h8⟩
end Go.Proofs.YtlkainmkhofpaaaGreat
end

section
namespace Go.Proofs.YtlkainmkhofpaaaGreat
open Go.RowKit Go.Maps Bits Num
set_option maxRecDepth 100000

theorem AtN.asideD {w0 w w' : World} {B C : Nat} {q : NPl} {N : Nt} (h : AtN w0 B C w q N) (hk : Kept (DK w) w w') (hb : Below w0.heap.size w0 w') : AtN w0 B C w' q N := ⟨h.is.asideD hk, h.b, h.gb, h.out, hb⟩
theorem AtN.wants {w0 w : World} {B C : Nat} {q : NPl} {N : Nt} (h : AtN w0 B C w q N) {Bd Bg : Nat} {p : RPl} {M : Nt} (hR : RN w0 w Bd Bg p M) {rest : List Int} (hg : Good M rest) (hS : Small M) {s : StV} (hs : StOk w s) (h8 : s.what ≠ 8) {N' : Nt} {ls : List Int} {r : Int} (hd : doesN M s = (N', ls, r)) :
    Calls Tryz.prog 35 #[.pointer (some ⟨Bd, 0, none⟩), .agg #[.int .i64 s.what, .string s.name, .int .i64 s.n, .int .u32 s.a, .int .u32 s.b, .int .u32 s.c, .slice s.la s.ln s.lc]] w fun e w' => (∃ v, e = .returned v) ∧ AtN w0 B C w' q N ∧ ∃ p', RN w0 w' Bd Bg p' N' := by
  have := Wants_any w0 w Bd Bg p M rest s hR hg hS hs h8
  rw [hd] at this
  exact this.mono fun _ w' ⟨hv, ⟨p', hp⟩, hk⟩ => ⟨hv, h.asideD hk hp.below, p', hp⟩
theorem AtN.does2 {w0 w : World} {B C : Nat} {q : NPl} {N : Nt} (h : AtN w0 B C w q N) {Bd Bg : Nat} {p : RPl} {M : Nt} (hR : RN w0 w Bd Bg p M) {rest : List Int} (hg : Good N rest) (hS : Small N) {s : StV} (hs : StOk w s) {N' : Nt} {ls : List Int} {r : Int} (hd : doesN N s = (N', ls, r)) :
    Calls Tryz.prog 34 #[.pointer (some ⟨B, 0, none⟩), .agg #[.int .i64 s.what, .string s.name, .int .i64 s.n, .int .u32 s.a, .int .u32 s.b, .int .u32 s.c, .slice s.la s.ln s.lc]] w fun e w' => (∃ v1 v2, e = .returned (.tuple #[v1, v2])) ∧ (∃ q', AtN w0 B C w' q' N') ∧ RN w0 w' Bd Bg p M ∧ Below w0.heap.size w0 w' :=
  (h.does hg hS hs hd).mono fun _ w' ⟨a, c, q', he, hl, hA, hk, hn⟩ => ⟨⟨_, _, he⟩, ⟨q', hA⟩, hR.kept hk h.out h.is.noDoc, hA.below⟩

set_option maxHeartbeats 4000000 in
theorem Built_any (F H : Bool) {w : World} {a : Option Addr} {n c : Nat} {S : Nat → StV} (hs : StRow w a n S) :
    Calls Tryz.prog 7 #[.agg #[.bool F, .bool H], .slice a n c] w fun e w' => ∃ (B C Bd Bg : Nat) (q : NPl) (p : RPl) (N : Nt), e = .returned (.tuple #[.pointer (some ⟨B, 0, none⟩), .pointer (some ⟨Bd, 0, none⟩)]) ∧ AtN w B C w' q N ∧ RN w w' Bd Bg p N ∧ Good N [] ∧ Upto N 60 := by
  have hb0 : Below w.heap.size w (w.alloc (.cells #[.bool F, .bool H] 23)) := (Below.refl _ _).alloc (Nat.le_refl _) _
  have hnew2 := Lib.hid (fun w2 (hb : Below w.heap.size w w2) => rNew_any w hb F H top_may)
  have k0 : (w.alloc (.cells #[.bool F, .bool H] 23)).cell? ⟨w.heap.size, 0, none⟩ = some (.bool F) := by simp [go_sem]
  have k1 : (w.alloc (.cells #[.bool F, .bool H] 23)).cell? ⟨w.heap.size, 1, none⟩ = some (.bool H) := by simp [go_sem]
  have HS := Lib.hid hs
  have hle := hs.le
  have hg0 : Hid (Good ⟨newG F H, sTop, [], [], []⟩ []) := Lib.hid (Good.new F H top_may)
  have hu0 := Lib.hid (upto0 F H)
  have hN2 := Lib.hid (New_ok F H top_may (w.alloc (.cells #[.bool F, .bool H] 23)))
  have hz0 : w.heap.size < (w.alloc (.cells #[.bool F, .bool H] 23)).heap.size := by simp
  have hb0 := Lib.hid hb0
  generalize hw1 : w.alloc (.cells #[.bool F, .bool H] 23) = w1 at *
  have hbz : w.heap.size ≤ w1.heap.size := hb0.out.size
  clear hs
  go_enter Tryz.func7, Tryz.ntmps7
  go_upto_block 0 with (first
    | (go_at_call 32; (with_reducible refine hN2.out.mono ?_); rintro e w2 ⟨q, rfl, hI, hb2, hqo⟩; have m0 := stepc hb2 hz0 k0; have m1 := stepc hb2 hz0 k1; have hnw := Lib.hid (hnew2.out _ (nextw hb0.out hb2)); have hA : AtN w q.b q.g.b w2 q ⟨newG F H, sTop, [], [], []⟩ := ⟨hI, rfl, rfl, fun k hk => Nat.le_trans hbz (hqo k hk), nextw hb0.out hb2⟩; have hA := Lib.hid hA; obtain ⟨b0, b1⟩ := hA.out.cells; clear hI hqo)
    | (go_at_call 33; (with_reducible refine hnw.out.mono ?_); rintro e w3 ⟨Bd, Bg, p, rfl, hRN, hb3⟩; have d0 := stepc hb3 b1 b0; have hA3 := Lib.hid (hA.out.step hb3); have hR3 := Lib.hid hRN; clear hRN hb3))
  generalize q.b = B at *
  generalize q.g.b = C at *
  clear hnew2 hN2 m0 m1 k0 k1 hnw hA d0 b0 b1 hb2
  go_wp2_with fail
  go_loopw [10] (fun i wr => ∃ (j : Nat) (q : NPl) (p : RPl) (N : Nt), j ≤ min n 60 ∧ i = .int .i64 j ∧ Hid (AtN w B C wr q N) ∧ Hid (RN w wr Bd Bg p N) ∧ Hid (Good N []) ∧ Hid (Upto N j)) (fun i _ => min n 60 - (intOf i).toNat)
  case atStart => exact ⟨0, _, _, _, Nat.zero_le _, rfl, hA3, hR3, hg0, hu0⟩
  case round =>
    clear hA3 hR3 hg0 hu0
    obtain ⟨j, q, p, N, hj, rfl, hA, hR, hG, hU⟩ := hrel
    have hSm := Lib.hid (hU.out.small (by omega))
    by_cases hlt : j < min n 60
    · have hjn : j < n := by omega
      have hj60 : j < 60 := by omega
      obtain ⟨b, off, rfl, hb, k0, k1, k2, k3, k4, k5, k6⟩ := HS.out.at hjn
      have hcl := Lib.hid (fun w2 (hb2 : Below w.heap.size w w2) => And.intro (stepc hb2 hb k0) (And.intro (stepc hb2 hb k1) (And.intro (stepc hb2 hb k2) (And.intro (stepc hb2 hb k3) (And.intro (stepc hb2 hb k4) (And.intro (stepc hb2 hb k5) (stepc hb2 hb k6)))))))
      have k0 := stepc hA.out.below hb k0
      have k1 := stepc hA.out.below hb k1
      have k2 := stepc hA.out.below hb k2
      have k3 := stepc hA.out.below hb k3
      have k4 := stepc hA.out.below hb k4
      have k5 := stepc hA.out.below hb k5
      have k6 := stepc hA.out.below hb k6
      have hst := Lib.hid (HS.out.ok j hjn)
      have hbw := hb
      generalize S j = s at *
      by_cases h8 : s.what = 8
      · rw [h8] at k0
        have hU2 := Lib.hid (hU.out.mono (Nat.le_succ j))
        clear hSm
        go_wp2_with fail
        exact ⟨⟨j + 1, q, p, N, by omega, by go_num, hA, hR, hG, hU2⟩, by simp [intOf]; omega⟩
      · have g8 := beqf h8
        obtain ⟨⟨N', ls, r⟩, hd⟩ : ∃ x, doesN N s = x := ⟨_, rfl⟩
        have hgd := Lib.hid (by have := doesN_good hG.out hSm.out hst.out h8; rw [hd] at this; exact this)
        have hup := Lib.hid (by have := hU.out.does (by omega) hG.out hst.out; rw [hd] at this; exact this)
        have hdo := Lib.hid (hA.out.does2 hR.out hG.out hSm.out (hst.out.step hA.out.below) hd)
        have hwa := Lib.hid (fun w2 q2 (hA2 : AtN w B C w2 q2 N') (hR2 : RN w w2 Bd Bg p N) => hA2.wants hR2 hG.out hSm.out (hst.out.step hA2.below) h8 hd)
        clear hd hst hSm hG hU
        simp only [] at hgd hup
        generalize s.what = K at *
        generalize s.name = nm at *
        generalize s.n = sn at *
        generalize s.a = sa at *
        generalize s.b = sb at *
        generalize s.c = sc at *
        generalize s.la = la at *
        generalize s.ln = ln at *
        generalize s.lc = lc at *
        go_wp2_with (first
          | (go_at_call 34; (with_reducible refine hdo.out.mono ?_); rintro e w6 ⟨⟨v1, v2, rfl⟩, ⟨q6, hA6⟩, hR6, hb6⟩; obtain ⟨x0, x1, x2, x3, x4, x5, x6⟩ := hcl.out _ hb6; have hwa2 := Lib.hid (hwa.out _ _ hA6 hR6); clear hA6 hR6 hb6 hdo)
          | (go_at_call 35; (with_reducible refine hwa2.out.mono ?_); rintro e w7 ⟨⟨v3, rfl⟩, hA7, p7, hR7⟩; have hA7 := Lib.hid hA7; have hR7 := Lib.hid hR7))
        exact ⟨⟨j + 1, _, _, _, by omega, by go_num, hA7, hR7, hgd, hup⟩, by simp [intOf]; omega⟩
    · obtain rfl : j = min n 60 := by omega
      have hU6 := Lib.hid (hU.out.mono (show min n 60 ≤ 60 by omega))
      by_cases h6 : n ≤ 60
      · have hmn : min n 60 = n := by omega
        rw [hmn]
        go_wp2_with fail
        go_ret2
        exact ⟨_, _, _, _, _, _, _, rfl, hA.out, hR.out, hG.out, hU6.out⟩
      · have hmn : min n 60 = 60 := by omega
        have hn4 : 60 < n := by omega
        rw [hmn]
        go_wp2_with fail
        go_ret2
        exact ⟨_, _, _, _, _, _, _, rfl, hA.out, hR.out, hG.out, hU6.out⟩
end Go.Proofs.YtlkainmkhofpaaaGreat
end

section
namespace Go.Proofs.YtlkainmkhofpaaaGreat
open Go.RowKit Go.Maps Bits Num
set_option maxRecDepth 100000

set_option maxHeartbeats 1000000 in
theorem same_any {w : World} {a a2 : Option Addr} {n c c2 : Nat} {l : List Int} (h1 : Row .u64 w a n l) (h2 : Row .u64 w a2 n l) :
    Calls Tryz.prog 19 #[.slice a n c, .slice a2 n c2] w fun e w' => e = .returned (.bool true) ∧ Below w.heap.size w w' := by
  have H1 := Lib.hid h1
  have H2 := Lib.hid h2
  have hle := h1.le
  have hne := bnef (a := (n : Int)) (b := n) rfl
  clear h1 h2
  go_enter Tryz.func19, Tryz.ntmps19
  go_wp2
  go_loopw [5] (fun s wr => ∃ j : Nat, j ≤ n ∧ s = .int .i64 j ∧ Hid (Below w.heap.size w wr)) (fun s _ => n - (intOf s).toNat)
  case atStart => exact ⟨0, Nat.zero_le _, rfl, Lib.hid (Below.refl _ _)⟩
  case round =>
    obtain ⟨j, hj, rfl, hB⟩ := hrel
    by_cases hlt : j < n
    · obtain ⟨b, off, rfl, hb, hcell⟩ := H1.out.at (by omega)
      obtain ⟨b2, off2, rfl, hb2, hcell2⟩ := H2.out.at (by omega)
      have c1 := stepc hB.out hb (hcell j hlt)
      have c2 := stepc hB.out hb2 (hcell2 j hlt)
      have hjn : (j : Int) < n := by omega
      generalize l.getD j 0 = x at *
      have hxx := bnef (a := x) (b := x) rfl
      have hBr := Lib.hid (nextw hB.out (below_draws wr 0))
      have hBn := Lib.hid (fun q => nextw hB.out (below_draws wr q))
      clear hcell hcell2
      go_wp2
      go_quiet (fail)
      go_wp2
      exact ⟨⟨j + 1, by omega, by go_num, Lib.hid (hBn.out _)⟩, by simp [intOf]; omega⟩
    · obtain rfl : j = n := by omega
      go_wp2
      go_ret
      exact ⟨rfl, hB.out⟩

/-- Rows of words that a call has made. -/
def GR (w : World) (base : Nat) (v : Value) (L : List (List Int)) : Prop :=
  ∃ kv : List Value, w.ownsRow base 44 1 v L.length kv ∧ ∀ i, i < L.length → ∃ (ra : Option Addr) (rc : Nat), kv[i]? = some (.slice ra (L.getD i []).length rc) ∧ WR w ra (L.getD i []).length rc (L.getD i [])
theorem GR.step {w w' : World} {base : Nat} {v : Value} {L : List (List Int)} (h : GR w base v L) (hb : Below w.heap.size w w') : GR w' base v L := by
  obtain ⟨kv, h1, h2⟩ := h
  exact ⟨kv, own_below h1 hb, fun i hi => by obtain ⟨ra, rc, e1, e2⟩ := h2 i hi; exact ⟨ra, rc, e1, e2.below hb⟩⟩
theorem GR.nil (w : World) (base : Nat) : GR w base (.slice none 0 0) [] := ⟨[], own_nil _ _ _, fun i hi => by simp at hi⟩
theorem GR.sim {w w' : World} {base : Nat} {v : Value} {L : List (List Int)} (h : GR w base v L) {S2 : Nat} {q2 : NPl} {p2 : SPl} {N2 : Nt} {s2 : St} (h2 : SimIs w S2 q2 p2 N2 s2) (hk : Kept (fun k => k = S2) w w') : GR w' base v L := by
  obtain ⟨kv, e1, e2⟩ := h
  refine ⟨kv, own_keptF e1 hk (fun k e hf => ?_), fun i hi => ?_⟩
  · subst hf
    obtain ⟨c, hc⟩ := own_type e1 e
    rw [h2.box] at hc; simp [simBox] at hc
  · obtain ⟨ra, rc, e3, e4⟩ := e2 i hi
    exact ⟨ra, rc, e3, e4.keptF hk h2.self.2.1⟩
theorem GR.push {w wa w1 : World} {base m g cap : Nat} {a : Option Addr} {c : Nat} {L : List (List Int)} {kv : List Value} (ho : w.ownsRow base 44 1 (.slice a m c) m kv) (hL : m = L.length) (hb : Below w.heap.size w wa)
    (hW : ∀ i, i < m → ∃ (ra : Option Addr) (rc : Nat), kv[i]? = some (.slice ra (L.getD i []).length rc) ∧ WR w ra (L.getD i []).length rc (L.getD i [])) {ra : Option Addr} {rc : Nat} {l : List Int} (hl : WR wa ra l.length rc l)
    (hown : w1.ownsRow base 44 1 (.slice (some ⟨g, 0, none⟩) (m + 1) cap) (m + 1) (kv ++ [.slice ra l.length rc])) (hg : wa.grownBy w1 (Value.slice a m c).ownBlock) : GR w1 base (.slice (some ⟨g, 0, none⟩) (m + 1) cap) (L ++ [l]) := by
  subst hL
  have hk := kept_grown hg
  have hN : NoWd wa (fun k => (Value.slice a L.length c).ownBlock = some k) := by
    intro k cur fz e hh
    obtain ⟨d, hd⟩ := own_type (own_below ho hb) e
    rw [hd] at hh; simp at hh
  have hkl : kv.length = L.length := by have := ho.1; omega
  refine ⟨kv ++ [.slice ra l.length rc], by rw [List.length_append, List.length_singleton]; exact hown, fun i hi => ?_⟩
  rw [List.length_append, List.length_singleton] at hi
  by_cases e : i < L.length
  · obtain ⟨ra', rc', e1, e2⟩ := hW i e
    have eL : (L ++ [l]).getD i [] = L.getD i [] := by
      rw [List.getD_eq_getElem?_getD, List.getElem?_append_left e, ← List.getD_eq_getElem?_getD]
    rw [eL]
    exact ⟨ra', rc', by rw [List.getElem?_append_left (by omega)]; exact e1, (e2.below hb).keptF hk hN⟩
  · have ei : i = L.length := by omega
    subst ei
    have eL : (L ++ [l]).getD L.length [] = l := by simp [List.getD]
    rw [eL]
    exact ⟨ra, rc, by rw [← hkl]; simp, hl.keptF hk hN⟩
theorem GR.at {w : World} {base : Nat} {a : Option Addr} {n c : Nat} {L : List (List Int)} (h : GR w base (.slice a n c) L) {i : Nat} (hi : i < L.length) : ∃ g : Nat, a = some ⟨g, 0, none⟩ ∧ g < w.heap.size ∧ ∃ (ra : Option Addr) (rc : Nat), w.cell? ⟨g, i, none⟩ = some (.slice ra (L.getD i []).length rc) ∧ WR w ra (L.getD i []).length rc (L.getD i []) := by
  obtain ⟨kv, e1, e2⟩ := h
  obtain ⟨g, cap, e⟩ := own_form e1 (by omega)
  obtain ⟨ra, rc, e3, e4⟩ := e2 i hi
  simp only [Value.slice.injEq] at e
  obtain ⟨e5, e6, e7⟩ := e
  subst e5 e6 e7
  exact ⟨g, rfl, own_lt e1, ra, rc, by rw [e1.cellAt i (by omega)]; exact e3, e4⟩
theorem GR.slice {w : World} {base : Nat} {v : Value} {L : List (List Int)} (h : GR w base v L) : ∃ a c, v = .slice a L.length c := by
  obtain ⟨kv, e1, -⟩ := h
  exact own_slice e1

/-- The words for the buses that come in. -/
def padX (N : Nt) (l : List Int) : List Int := row (litsOf N.ins).length (fun k => l.getD k 0)
def pieceG (N : Nt) (l : List Int) (i : Nat) : List Int := row (N.ins.getD i ⟨ByteArray.empty, []⟩).lits.length (fun k => l.getD (offB N.ins i + k) 0)
def piecesG (N : Nt) (l : List Int) : List (List Int) := (List.range N.ins.length).map (pieceG N l)
theorem padX_words (N : Nt) {l : List Int} (h : Words l) : Words (padX N l) := by
  unfold padX row
  exact words_map _ _ (fun k => h k)
theorem piecesG_len (N : Nt) (l : List Int) : (piecesG N l).length = N.ins.length := by simp [piecesG]
theorem piecesG_at (N : Nt) (l : List Int) {i : Nat} (h : i < N.ins.length) : (piecesG N l).getD i [] = pieceG N l i := by simp [piecesG, List.getD, h]
theorem piecesG_take (N : Nt) (l : List Int) {i : Nat} (h : i < N.ins.length) : (piecesG N l).take (i + 1) = (piecesG N l).take i ++ [pieceG N l i] := by
  rw [List.take_add_one]
  congr 1
  simp [piecesG, h]
theorem pieceG_len (N : Nt) (l : List Int) {i : Nat} (h : i < N.ins.length) : (pieceG N l i).length = N.ins[i].lits.length := by
  simp [pieceG, row, List.getD, h]
theorem pieceG_eq (N : Nt) (l : List Int) {i : Nat} (h : i < N.ins.length) : piece N.ins (padX N l) i = pieceG N l i := by
  have hlen : (padX N l).length = (litsOf N.ins).length := by simp [padX, row]
  have hd : N.ins.getD i ⟨ByteArray.empty, []⟩ = N.ins[i] := by simp [List.getD, h]
  apply List.ext_getElem
  · unfold piece pieceG
    rw [hd, List.length_take, List.length_drop, hlen]
    by_cases h0 : N.ins[i].lits.length = 0
    · simp [row, h0]
    · have := offB_le N.ins h (k := N.ins[i].lits.length - 1) (by omega)
      simp [row]; omega
  · intro k h1 h2
    have hk : k < N.ins[i].lits.length := by rw [pieceG_len N l h] at h2; exact h2
    have e1 := piece_at (X := padX N l) h hk
    have e2 : (pieceG N l i).getD k 0 = l.getD (offB N.ins i + k) 0 := by
      unfold pieceG; rw [hd]; exact row_getD _ _ _ hk
    have e3 : (padX N l).getD (offB N.ins i + k) 0 = l.getD (offB N.ins i + k) 0 := row_getD _ _ _ (offB_le N.ins h hk)
    rw [e3, ← e2] at e1
    simpa [List.getD, h1, h2] using e1
/-- They fit. -/
theorem GR.inRows {w : World} {base : Nat} {a : Option Addr} {n c : Nat} {N : Nt} {l : List Int} (h : GR w base (.slice a n c) (piecesG N l)) (hw : Words l) (hS : Small N) : n = N.ins.length ∧ InRows w a n N.ins (padX N l) := by
  obtain ⟨a2, c2, e⟩ := h.slice
  simp only [Value.slice.injEq] at e
  have hn : n = N.ins.length := by rw [e.2.1, piecesG_len]
  have hsi := hS.ins
  refine ⟨hn, hn, by simp [padX, row], padX_words N hw, by omega, ?_⟩
  by_cases h0 : n = 0
  · exact .inl h0
  · right
    obtain ⟨g, rfl, hg, -⟩ := h.at (i := 0) (by rw [piecesG_len]; omega)
    refine ⟨g, 0, rfl, hg, fun i hi => ?_⟩
    obtain ⟨g', e', -, ra, rc, e1, e2⟩ := h.at (i := i) (by rw [piecesG_len]; exact hi)
    simp at e'; subst e'
    rw [piecesG_at N l hi] at e1 e2
    rw [pieceG_len N l hi] at e1 e2
    exact ⟨ra, rc, by rw [Nat.zero_add]; exact e1, by rw [pieceG_eq N l hi]; exact e2.row⟩
theorem lits_le {N : Nt} {rest : List Int} (hg : Good N rest) (hS : Small N) : (litsOf N.ins).length ≤ 180000 := by
  have h1 := hg.drv.length_eq
  have h2 := hg.wf.cnt
  have h3 := hS.g
  simp [inLits] at h1
  have := taken_len N
  omega
end Go.Proofs.YtlkainmkhofpaaaGreat
end
