/-
  Does: gates and buses that go out; any step.
-/
import Derived.Test.YtjdebancpgpebaaNetN
namespace Go.Proofs.Ytjdebancpgpebaa
open Go.RowKit Go.Maps Bits
set_option maxRecDepth 100000

theorem does_keep {wA w2 : World} {q q' : NPl} {N N' : Nt} {B : Nat} {cs : Array Value} {fz : Nat × Nat} {x y : Value} (h : NetIs wA q N) (hB : wA.heap[B]? = some (.cells cs 37 fz)) (c4 : wA.cell? ⟨B, 4, none⟩ = some x) (c5 : wA.cell? ⟨B, 5, none⟩ = some y) (hn : NStep q wA q' w2 N') :
    w2.cell? ⟨q.b, 0, none⟩ = some (.pointer (some ⟨q.g.b, 0, none⟩)) ∧ w2.cell? ⟨B, 4, none⟩ = some x ∧ w2.cell? ⟨B, 5, none⟩ = some y := by
  obtain ⟨-, -, -, -, -, -, -, -, -, c0, -⟩ := hn.is.cells
  rw [hn.b, hn.gb] at c0
  have hk := hn.kept.block B (Array.getElem?_eq_some_iff.1 hB).1 (fun hp => h.other hB (by decide) (by decide) (by decide) (by decide) (by decide) (by decide) hp)
  refine ⟨c0, ?_, ?_⟩
  · rw [← c4]; simp only [World.cell?, hk]
  · rw [← c5]; simp only [World.cell?, hk]
set_option maxHeartbeats 2000000 in
theorem does_4 : Does_call (fun s => s.what = 4) := by
  intro w q N rest s h hg hS hs hw
  obtain ⟨K, nm, n, a, b, c, la, ln, lc, zs⟩ := s
  obtain rfl : K = 4 := hw
  have hb1 : Below w.heap.size w (w.alloc (.cells #[.int .i64 4, .string nm, .int .i64 n, .int .u32 a, .int .u32 b, .int .u32 c, .slice la ln lc] 37)) := (Below.refl _ _).alloc (Nat.le_refl _) _
  have h1 := h.below hb1
  have hsg := hS.g
  have hsi := hS.ins
  have hsr := hS.regs
  have hso := hS.outs
  have hf := Lib.hid (fun q' w2 N2 (hn : NStep q (w.alloc (.cells #[.int .i64 4, .string nm, .int .i64 n, .int .u32 a, .int .u32 b, .int .u32 c, .slice la ln lc] 37)) q' w2 N2) => NStep.front h hb1 hn)
  unfold stVal DoesQ
  have hsa : IsLit b := hs.b
  have hsb : IsLit c := hs.c
  obtain ⟨-, -, -, -, -, -, -, -, -, c0, -⟩ := h1.cells
  have hlt := h1.lt
  have k0 : (w.alloc (.cells #[.int .i64 4, .string nm, .int .i64 n, .int .u32 a, .int .u32 b, .int .u32 c, .slice la ln lc] 37)).cell? ⟨w.heap.size, 0, none⟩ = some (.int .i64 4) := by simp [go_sem]
  have k4 : (w.alloc (.cells #[.int .i64 4, .string nm, .int .i64 n, .int .u32 a, .int .u32 b, .int .u32 c, .slice la ln lc] 37)).cell? ⟨w.heap.size, 4, none⟩ = some (.int .u32 b) := by simp [go_sem]
  have k5 : (w.alloc (.cells #[.int .i64 4, .string nm, .int .i64 n, .int .u32 a, .int .u32 b, .int .u32 c, .slice la ln lc] 37)).cell? ⟨w.heap.size, 5, none⟩ = some (.int .u32 c) := by simp [go_sem]
  rw [show doesN N ⟨4, nm, n, a, b, c, la, ln, lc, zs⟩ = ((gateN andG N b c).1, [(gateN andG N b c).2.1], (gateN andG N b c).2.2) from rfl]
  simp only []
  generalize hw1 : w.alloc (.cells #[.int .i64 4, .string nm, .int .i64 n, .int .u32 a, .int .u32 b, .int .u32 c, .slice la ln lc] 37) = w1 at *
  have hba : Below w1.heap.size w1 (w1.alloc (.cells #[.int .u32 b, .int .u32 c] 50)).drew := ((Below.refl w1.heap.size w1).alloc (Nat.le_refl _) _).drew
  have hc := Lib.hid (gate_any' And_any And_no and_ok (h1.below hba) hg (by omega) ((row2 w1 b c 50).step ((Below.refl _ _).drew)) hsa hsb (fun x hx hp => by cases hx; have := h1.g.has_lt (k := w1.heap.size) hp; omega))
  have hone := Lib.hid (fun x e w => one_any x e w)
  have hF := Lib.hid (fun q' w2 N2 (hn : NStep q (w1.alloc (.cells #[.int .u32 b, .int .u32 c] 50)).drew q' w2 N2) => hf.out q' w2 N2 (NStep.front h1 hba hn))
  have hbz : (w.heap.size : Nat) < w1.heap.size := World.block_lt_of_cell? w1 _ k4
  obtain ⟨sc, hsc⟩ : ∃ sc, w1.heap[w.heap.size]? = some (.cells sc 37 (0, 0)) := ⟨_, by rw [← hw1]; exact Deep.blk_alloc_new _ _⟩
  have hKK := Lib.hid (fun q' w2 (hn : NStep q (w1.alloc (.cells #[.int .u32 b, .int .u32 c] 50)).drew q' w2 (gateN andG N b c).1) => does_keep (h1.below hba) (hba.block _ hbz |>.trans hsc) (stepc hba hbz k4) (stepc hba hbz k5) hn)
  generalize (gateN andG N b c).1 = rN at *
  generalize (gateN andG N b c).2.1 = rx at *
  generalize (gateN andG N b c).2.2 = re at *
  have hba := Lib.hid hba
  clear h h1 hg hS hs hb1 hsa hsb hsc hbz
  go_enter Try.func7, Try.ntmps7
  go_upto_region 14 with fail
  go_region_held3 (fun w' => w'.cell? ⟨q.b, 0, none⟩ = some (.pointer (some ⟨q.g.b, 0, none⟩)) ∧ w'.cell? ⟨w.heap.size, 4, none⟩ = some (.int .u32 b) ∧ w'.cell? ⟨w.heap.size, 5, none⟩ = some (.int .u32 c)) (go_keep) (first
    | (go_at_call 31; (with_reducible refine hc.out.mono ?_); rintro e w5 ⟨rfl, q', hn⟩; obtain ⟨m0, m4, m5⟩ := hKK.out _ _ hn; have hn := Lib.hid hn)
    | (go_at_call 26; (with_reducible refine (hone.out _ _ _).mono ?_); rintro e w6 ⟨g, rfl, hl, hb6⟩; have n0 := stepc hb6 (World.block_lt_of_cell? w5 _ m0) m0; have n4 := stepc hb6 (World.block_lt_of_cell? w5 _ m4) m4; have n5 := stepc hb6 (World.block_lt_of_cell? w5 _ m5) m5; have hl := Lib.hid hl; have hb6 := Lib.hid hb6))
  all_goals go_wp2
  all_goals go_ret2
  all_goals exact ⟨_, _, rfl, hl.out, q', hF.out _ _ _ (hn.out.then hb6.out)⟩
set_option maxHeartbeats 2000000 in
theorem does_5 : Does_call (fun s => s.what = 5) := by
  intro w q N rest s h hg hS hs hw
  obtain ⟨K, nm, n, a, b, c, la, ln, lc, zs⟩ := s
  obtain rfl : K = 5 := hw
  have hb1 : Below w.heap.size w (w.alloc (.cells #[.int .i64 5, .string nm, .int .i64 n, .int .u32 a, .int .u32 b, .int .u32 c, .slice la ln lc] 37)) := (Below.refl _ _).alloc (Nat.le_refl _) _
  have h1 := h.below hb1
  have hsg := hS.g
  have hsi := hS.ins
  have hsr := hS.regs
  have hso := hS.outs
  have hf := Lib.hid (fun q' w2 N2 (hn : NStep q (w.alloc (.cells #[.int .i64 5, .string nm, .int .i64 n, .int .u32 a, .int .u32 b, .int .u32 c, .slice la ln lc] 37)) q' w2 N2) => NStep.front h hb1 hn)
  unfold stVal DoesQ
  have hsa : IsLit b := hs.b
  have hsb : IsLit c := hs.c
  obtain ⟨-, -, -, -, -, -, -, -, -, c0, -⟩ := h1.cells
  have hlt := h1.lt
  have k0 : (w.alloc (.cells #[.int .i64 5, .string nm, .int .i64 n, .int .u32 a, .int .u32 b, .int .u32 c, .slice la ln lc] 37)).cell? ⟨w.heap.size, 0, none⟩ = some (.int .i64 5) := by simp [go_sem]
  have k4 : (w.alloc (.cells #[.int .i64 5, .string nm, .int .i64 n, .int .u32 a, .int .u32 b, .int .u32 c, .slice la ln lc] 37)).cell? ⟨w.heap.size, 4, none⟩ = some (.int .u32 b) := by simp [go_sem]
  have k5 : (w.alloc (.cells #[.int .i64 5, .string nm, .int .i64 n, .int .u32 a, .int .u32 b, .int .u32 c, .slice la ln lc] 37)).cell? ⟨w.heap.size, 5, none⟩ = some (.int .u32 c) := by simp [go_sem]
  rw [show doesN N ⟨5, nm, n, a, b, c, la, ln, lc, zs⟩ = ((gateN andG N b c).1, [(gateN andG N b c).2.1], (gateN andG N b c).2.2) from rfl]
  simp only []
  generalize hw1 : w.alloc (.cells #[.int .i64 5, .string nm, .int .i64 n, .int .u32 a, .int .u32 b, .int .u32 c, .slice la ln lc] 37) = w1 at *
  have hba : Below w1.heap.size w1 (w1.alloc (.cells #[.int .u32 b, .int .u32 c] 50)).drew := ((Below.refl w1.heap.size w1).alloc (Nat.le_refl _) _).drew
  have hc := Lib.hid (gate_any' And_any And_no and_ok (h1.below hba) hg (by omega) ((row2 w1 b c 50).step ((Below.refl _ _).drew)) hsa hsb (fun x hx hp => by cases hx; have := h1.g.has_lt (k := w1.heap.size) hp; omega))
  have hone := Lib.hid (fun x e w => one_any x e w)
  have hF := Lib.hid (fun q' w2 N2 (hn : NStep q (w1.alloc (.cells #[.int .u32 b, .int .u32 c] 50)).drew q' w2 N2) => hf.out q' w2 N2 (NStep.front h1 hba hn))
  have hbz : (w.heap.size : Nat) < w1.heap.size := World.block_lt_of_cell? w1 _ k4
  obtain ⟨sc, hsc⟩ : ∃ sc, w1.heap[w.heap.size]? = some (.cells sc 37 (0, 0)) := ⟨_, by rw [← hw1]; exact Deep.blk_alloc_new _ _⟩
  have hKK := Lib.hid (fun q' w2 (hn : NStep q (w1.alloc (.cells #[.int .u32 b, .int .u32 c] 50)).drew q' w2 (gateN andG N b c).1) => does_keep (h1.below hba) (hba.block _ hbz |>.trans hsc) (stepc hba hbz k4) (stepc hba hbz k5) hn)
  generalize (gateN andG N b c).1 = rN at *
  generalize (gateN andG N b c).2.1 = rx at *
  generalize (gateN andG N b c).2.2 = re at *
  have hba := Lib.hid hba
  clear h h1 hg hS hs hb1 hsa hsb hsc hbz
  go_enter Try.func7, Try.ntmps7
  go_upto_region 14 with fail
  go_region_held3 (fun w' => w'.cell? ⟨q.b, 0, none⟩ = some (.pointer (some ⟨q.g.b, 0, none⟩)) ∧ w'.cell? ⟨w.heap.size, 4, none⟩ = some (.int .u32 b) ∧ w'.cell? ⟨w.heap.size, 5, none⟩ = some (.int .u32 c)) (go_keep) (first
    | (go_at_call 31; (with_reducible refine hc.out.mono ?_); rintro e w5 ⟨rfl, q', hn⟩; obtain ⟨m0, m4, m5⟩ := hKK.out _ _ hn; have hn := Lib.hid hn)
    | (go_at_call 26; (with_reducible refine (hone.out _ _ _).mono ?_); rintro e w6 ⟨g, rfl, hl, hb6⟩; have n0 := stepc hb6 (World.block_lt_of_cell? w5 _ m0) m0; have n4 := stepc hb6 (World.block_lt_of_cell? w5 _ m4) m4; have n5 := stepc hb6 (World.block_lt_of_cell? w5 _ m5) m5; have hl := Lib.hid hl; have hb6 := Lib.hid hb6))
  all_goals go_wp2
  all_goals go_ret2
  all_goals exact ⟨_, _, rfl, hl.out, q', hF.out _ _ _ (hn.out.then hb6.out)⟩
set_option maxHeartbeats 2000000 in
theorem does_6 : Does_call (fun s => s.what = 6) := by
  intro w q N rest s h hg hS hs hw
  obtain ⟨K, nm, n, a, b, c, la, ln, lc, zs⟩ := s
  obtain rfl : K = 6 := hw
  have hb1 : Below w.heap.size w (w.alloc (.cells #[.int .i64 6, .string nm, .int .i64 n, .int .u32 a, .int .u32 b, .int .u32 c, .slice la ln lc] 37)) := (Below.refl _ _).alloc (Nat.le_refl _) _
  have h1 := h.below hb1
  have hsg := hS.g
  have hsi := hS.ins
  have hsr := hS.regs
  have hso := hS.outs
  have hf := Lib.hid (fun q' w2 N2 (hn : NStep q (w.alloc (.cells #[.int .i64 6, .string nm, .int .i64 n, .int .u32 a, .int .u32 b, .int .u32 c, .slice la ln lc] 37)) q' w2 N2) => NStep.front h hb1 hn)
  unfold stVal DoesQ
  have hsa : IsLit b := hs.b
  have hsb : IsLit c := hs.c
  obtain ⟨-, -, -, -, -, -, -, -, -, c0, -⟩ := h1.cells
  have hlt := h1.lt
  have k0 : (w.alloc (.cells #[.int .i64 6, .string nm, .int .i64 n, .int .u32 a, .int .u32 b, .int .u32 c, .slice la ln lc] 37)).cell? ⟨w.heap.size, 0, none⟩ = some (.int .i64 6) := by simp [go_sem]
  have k4 : (w.alloc (.cells #[.int .i64 6, .string nm, .int .i64 n, .int .u32 a, .int .u32 b, .int .u32 c, .slice la ln lc] 37)).cell? ⟨w.heap.size, 4, none⟩ = some (.int .u32 b) := by simp [go_sem]
  have k5 : (w.alloc (.cells #[.int .i64 6, .string nm, .int .i64 n, .int .u32 a, .int .u32 b, .int .u32 c, .slice la ln lc] 37)).cell? ⟨w.heap.size, 5, none⟩ = some (.int .u32 c) := by simp [go_sem]
  rw [show doesN N ⟨6, nm, n, a, b, c, la, ln, lc, zs⟩ = ((gateN andG N b c).1, [(gateN andG N b c).2.1], (gateN andG N b c).2.2) from rfl]
  simp only []
  generalize hw1 : w.alloc (.cells #[.int .i64 6, .string nm, .int .i64 n, .int .u32 a, .int .u32 b, .int .u32 c, .slice la ln lc] 37) = w1 at *
  have hba : Below w1.heap.size w1 (w1.alloc (.cells #[.int .u32 b, .int .u32 c] 50)).drew := ((Below.refl w1.heap.size w1).alloc (Nat.le_refl _) _).drew
  have hc := Lib.hid (gate_any' And_any And_no and_ok (h1.below hba) hg (by omega) ((row2 w1 b c 50).step ((Below.refl _ _).drew)) hsa hsb (fun x hx hp => by cases hx; have := h1.g.has_lt (k := w1.heap.size) hp; omega))
  have hone := Lib.hid (fun x e w => one_any x e w)
  have hF := Lib.hid (fun q' w2 N2 (hn : NStep q (w1.alloc (.cells #[.int .u32 b, .int .u32 c] 50)).drew q' w2 N2) => hf.out q' w2 N2 (NStep.front h1 hba hn))
  have hbz : (w.heap.size : Nat) < w1.heap.size := World.block_lt_of_cell? w1 _ k4
  obtain ⟨sc, hsc⟩ : ∃ sc, w1.heap[w.heap.size]? = some (.cells sc 37 (0, 0)) := ⟨_, by rw [← hw1]; exact Deep.blk_alloc_new _ _⟩
  have hKK := Lib.hid (fun q' w2 (hn : NStep q (w1.alloc (.cells #[.int .u32 b, .int .u32 c] 50)).drew q' w2 (gateN andG N b c).1) => does_keep (h1.below hba) (hba.block _ hbz |>.trans hsc) (stepc hba hbz k4) (stepc hba hbz k5) hn)
  generalize (gateN andG N b c).1 = rN at *
  generalize (gateN andG N b c).2.1 = rx at *
  generalize (gateN andG N b c).2.2 = re at *
  have hba := Lib.hid hba
  clear h h1 hg hS hs hb1 hsa hsb hsc hbz
  go_enter Try.func7, Try.ntmps7
  go_upto_region 14 with fail
  go_region_held3 (fun w' => w'.cell? ⟨q.b, 0, none⟩ = some (.pointer (some ⟨q.g.b, 0, none⟩)) ∧ w'.cell? ⟨w.heap.size, 4, none⟩ = some (.int .u32 b) ∧ w'.cell? ⟨w.heap.size, 5, none⟩ = some (.int .u32 c)) (go_keep) (first
    | (go_at_call 31; (with_reducible refine hc.out.mono ?_); rintro e w5 ⟨rfl, q', hn⟩; obtain ⟨m0, m4, m5⟩ := hKK.out _ _ hn; have hn := Lib.hid hn)
    | (go_at_call 26; (with_reducible refine (hone.out _ _ _).mono ?_); rintro e w6 ⟨g, rfl, hl, hb6⟩; have n0 := stepc hb6 (World.block_lt_of_cell? w5 _ m0) m0; have n4 := stepc hb6 (World.block_lt_of_cell? w5 _ m4) m4; have n5 := stepc hb6 (World.block_lt_of_cell? w5 _ m5) m5; have hl := Lib.hid hl; have hb6 := Lib.hid hb6))
  all_goals go_wp2
  all_goals go_ret2
  all_goals exact ⟨_, _, rfl, hl.out, q', hF.out _ _ _ (hn.out.then hb6.out)⟩
set_option maxHeartbeats 2000000 in
theorem does_7 : Does_call (fun s => s.what = 7) := by
  intro w q N rest s h hg hS hs hw
  obtain ⟨K, nm, n, a, b, c, la, ln, lc, zs⟩ := s
  obtain rfl : K = 7 := hw
  have hb1 : Below w.heap.size w (w.alloc (.cells #[.int .i64 7, .string nm, .int .i64 n, .int .u32 a, .int .u32 b, .int .u32 c, .slice la ln lc] 37)) := (Below.refl _ _).alloc (Nat.le_refl _) _
  have h1 := h.below hb1
  have hsg := hS.g
  have hsi := hS.ins
  have hsr := hS.regs
  have hso := hS.outs
  have hf := Lib.hid (fun q' w2 N2 (hn : NStep q (w.alloc (.cells #[.int .i64 7, .string nm, .int .i64 n, .int .u32 a, .int .u32 b, .int .u32 c, .slice la ln lc] 37)) q' w2 N2) => NStep.front h hb1 hn)
  unfold stVal DoesQ
  have hsa : IsLit b := hs.b
  have hsb : IsLit c := hs.c
  obtain ⟨-, -, -, -, -, -, -, -, -, c0, -⟩ := h1.cells
  have hlt := h1.lt
  have k0 : (w.alloc (.cells #[.int .i64 7, .string nm, .int .i64 n, .int .u32 a, .int .u32 b, .int .u32 c, .slice la ln lc] 37)).cell? ⟨w.heap.size, 0, none⟩ = some (.int .i64 7) := by simp [go_sem]
  have k4 : (w.alloc (.cells #[.int .i64 7, .string nm, .int .i64 n, .int .u32 a, .int .u32 b, .int .u32 c, .slice la ln lc] 37)).cell? ⟨w.heap.size, 4, none⟩ = some (.int .u32 b) := by simp [go_sem]
  have k5 : (w.alloc (.cells #[.int .i64 7, .string nm, .int .i64 n, .int .u32 a, .int .u32 b, .int .u32 c, .slice la ln lc] 37)).cell? ⟨w.heap.size, 5, none⟩ = some (.int .u32 c) := by simp [go_sem]
  rw [show doesN N ⟨7, nm, n, a, b, c, la, ln, lc, zs⟩ = ((gateN xorG N b c).1, [(gateN xorG N b c).2.1], (gateN xorG N b c).2.2) from rfl]
  simp only []
  generalize hw1 : w.alloc (.cells #[.int .i64 7, .string nm, .int .i64 n, .int .u32 a, .int .u32 b, .int .u32 c, .slice la ln lc] 37) = w1 at *
  have hba : Below w1.heap.size w1 (w1.alloc (.cells #[.int .u32 b, .int .u32 c] 50)).drew := ((Below.refl w1.heap.size w1).alloc (Nat.le_refl _) _).drew
  have hc := Lib.hid (gate_any' Xor_any Xor_no xor_ok (h1.below hba) hg (by omega) ((row2 w1 b c 50).step ((Below.refl _ _).drew)) hsa hsb (fun x hx hp => by cases hx; have := h1.g.has_lt (k := w1.heap.size) hp; omega))
  have hone := Lib.hid (fun x e w => one_any x e w)
  have hF := Lib.hid (fun q' w2 N2 (hn : NStep q (w1.alloc (.cells #[.int .u32 b, .int .u32 c] 50)).drew q' w2 N2) => hf.out q' w2 N2 (NStep.front h1 hba hn))
  have hbz : (w.heap.size : Nat) < w1.heap.size := World.block_lt_of_cell? w1 _ k4
  obtain ⟨sc, hsc⟩ : ∃ sc, w1.heap[w.heap.size]? = some (.cells sc 37 (0, 0)) := ⟨_, by rw [← hw1]; exact Deep.blk_alloc_new _ _⟩
  have hKK := Lib.hid (fun q' w2 (hn : NStep q (w1.alloc (.cells #[.int .u32 b, .int .u32 c] 50)).drew q' w2 (gateN xorG N b c).1) => does_keep (h1.below hba) (hba.block _ hbz |>.trans hsc) (stepc hba hbz k4) (stepc hba hbz k5) hn)
  generalize (gateN xorG N b c).1 = rN at *
  generalize (gateN xorG N b c).2.1 = rx at *
  generalize (gateN xorG N b c).2.2 = re at *
  have hba := Lib.hid hba
  clear h h1 hg hS hs hb1 hsa hsb hsc hbz
  go_enter Try.func7, Try.ntmps7
  go_upto_region 16 with fail
  go_region_held3 (fun w' => w'.cell? ⟨q.b, 0, none⟩ = some (.pointer (some ⟨q.g.b, 0, none⟩)) ∧ w'.cell? ⟨w.heap.size, 4, none⟩ = some (.int .u32 b) ∧ w'.cell? ⟨w.heap.size, 5, none⟩ = some (.int .u32 c)) (go_keep) (first
    | (go_at_call 32; (with_reducible refine hc.out.mono ?_); rintro e w5 ⟨rfl, q', hn⟩; obtain ⟨m0, m4, m5⟩ := hKK.out _ _ hn; have hn := Lib.hid hn)
    | (go_at_call 26; (with_reducible refine (hone.out _ _ _).mono ?_); rintro e w6 ⟨g, rfl, hl, hb6⟩; have n0 := stepc hb6 (World.block_lt_of_cell? w5 _ m0) m0; have n4 := stepc hb6 (World.block_lt_of_cell? w5 _ m4) m4; have n5 := stepc hb6 (World.block_lt_of_cell? w5 _ m5) m5; have hl := Lib.hid hl; have hb6 := Lib.hid hb6))
  all_goals go_wp2
  all_goals go_ret2
  all_goals exact ⟨_, _, rfl, hl.out, q', hF.out _ _ _ (hn.out.then hb6.out)⟩
set_option maxHeartbeats 2000000 in
theorem does_3 : Does_call (fun s => s.what = 3) := by
  intro w q N rest s h hg hS hs hw
  obtain ⟨K, nm, n, a, b, c, la, ln, lc, zs⟩ := s
  obtain rfl : K = 3 := hw
  have hb1 : Below w.heap.size w (w.alloc (.cells #[.int .i64 3, .string nm, .int .i64 n, .int .u32 a, .int .u32 b, .int .u32 c, .slice la ln lc] 37)) := (Below.refl _ _).alloc (Nat.le_refl _) _
  have h1 := h.below hb1
  have hsg := hS.g
  have hsi := hS.ins
  have hsr := hS.regs
  have hso := hS.outs
  have hf := Lib.hid (fun q' w2 N2 (hn : NStep q (w.alloc (.cells #[.int .i64 3, .string nm, .int .i64 n, .int .u32 a, .int .u32 b, .int .u32 c, .slice la ln lc] 37)) q' w2 N2) => NStep.front h hb1 hn)
  unfold stVal DoesQ
  have hzs := hs.lits
  have hrow : Row .u32 w la ln zs := hs.row
  have hlt := h1.lt
  have k0 : (w.alloc (.cells #[.int .i64 3, .string nm, .int .i64 n, .int .u32 a, .int .u32 b, .int .u32 c, .slice la ln lc] 37)).cell? ⟨w.heap.size, 0, none⟩ = some (.int .i64 3) := by simp [go_sem]
  have k1 : (w.alloc (.cells #[.int .i64 3, .string nm, .int .i64 n, .int .u32 a, .int .u32 b, .int .u32 c, .slice la ln lc] 37)).cell? ⟨w.heap.size, 1, none⟩ = some (.string nm) := by simp [go_sem]
  have k6 : (w.alloc (.cells #[.int .i64 3, .string nm, .int .i64 n, .int .u32 a, .int .u32 b, .int .u32 c, .slice la ln lc] 37)).cell? ⟨w.heap.size, 6, none⟩ = some (.slice la ln lc) := by simp [go_sem]
  rw [show doesN N ⟨3, nm, n, a, b, c, la, ln, lc, zs⟩ = ((addOut N nm (zs.take 70)).1, [], (addOut N nm (zs.take 70)).2) from rfl]
  simp only []
  generalize hw1 : w.alloc (.cells #[.int .i64 3, .string nm, .int .i64 n, .int .u32 a, .int .u32 b, .int .u32 c, .slice la ln lc] 37) = w1 at *
  have hbz : (w.heap.size : Nat) < w1.heap.size := World.block_lt_of_cell? w1 _ k1
  have hOf := Lib.hid (Of_any (c := lc) ((hrow.step hb1).step ((Below.refl w1.heap.size w1).drew)))
  have hc := Lib.hid (fun w2 (hb2 : Below w1.heap.size w1 w2) (a2 : Option Addr) (c2 : Nat) (hl : LRow w2 a2 (min ln 70) c2 (zs.take 70)) => AddOut_any (h1.below hb2) hg.wf (by omega) nm (c := c2) hl.row (fun x hx => hzs x (List.mem_of_mem_take hx)))
  have hF := Lib.hid (fun q' w2 w3 N2 (hb2 : Below w1.heap.size w1 w2) (hn : NStep q w2 q' w3 N2) => hf.out q' w3 N2 (NStep.front h1 hb2 hn))
  have hsc : w1.heap[w.heap.size]? = some (.cells #[.int .i64 3, .string nm, .int .i64 n, .int .u32 a, .int .u32 b, .int .u32 c, .slice la ln lc] 37 (0, 0)) := by rw [← hw1]; exact Deep.blk_alloc_new _ _
  have hKK := Lib.hid (fun q' w2 w3 N2 (hb2 : Below w1.heap.size w1 w2) (hn : NStep q w2 q' w3 N2) => (show w3.cell? ⟨w.heap.size, 1, none⟩ = some (.string nm) ∧ w3.cell? ⟨w.heap.size, 6, none⟩ = some (.slice la ln lc) by
    have hk := hn.kept.block w.heap.size (Nat.lt_of_lt_of_le hbz hb2.size) (fun hp => (h1.below hb2).other ((hb2.block _ hbz).trans hsc) (by decide) (by decide) (by decide) (by decide) (by decide) (by decide) hp)
    have e := hk.trans ((hb2.block _ hbz).trans hsc)
    exact ⟨by simp [World.cell?, e], by simp [World.cell?, e]⟩))
  have hdr := Lib.hid ((Below.refl w1.heap.size w1).drew)
  generalize (addOut N nm (zs.take 70)).1 = rN at *
  generalize (addOut N nm (zs.take 70)).2 = re at *
  clear h h1 hg hS hs hb1 hsc hrow hzs
  go_enter Try.func7, Try.ntmps7
  go_upto_region 10 with fail
  go_region_held3 (fun w' => w'.cell? ⟨w.heap.size, 1, none⟩ = some (.string nm) ∧ w'.cell? ⟨w.heap.size, 6, none⟩ = some (.slice la ln lc)) (go_keep) (first
    | (go_at_call 18; (with_reducible refine hOf.out.mono ?_); rintro e w5 ⟨a5, c5, rfl, hl5, hb5⟩; have hb6 := nextw hdr.out hb5; have m1 := stepc hb6 hbz k1; have m6 := stepc hb6 hbz k6; have hc2 := Lib.hid (hc.out _ hb6 _ _ hl5); have hb6 := Lib.hid hb6)
    | (go_at_call 30; (with_reducible refine hc2.out.mono ?_); rintro e w7 ⟨rfl, q', hn⟩; obtain ⟨n1, n6⟩ := hKK.out _ _ _ _ hb6.out hn; have hn := Lib.hid hn))
  all_goals go_wp2
  all_goals go_ret2
  all_goals exact ⟨none, 0, rfl, nilRow _, q', hF.out _ _ _ _ hb6.out hn.out⟩

theorem Does_any : Does_call (fun _ => True) := by
  intro w q N rest s h hg hS hs _
  by_cases h0 : s.what = 0
  · exact does_0 w q N rest s h hg hS hs h0
  by_cases h1 : s.what = 1
  · exact does_1 w q N rest s h hg hS hs h1
  by_cases h2 : s.what = 2
  · exact does_2 w q N rest s h hg hS hs h2
  by_cases h3 : s.what = 3
  · exact does_3 w q N rest s h hg hS hs h3
  by_cases h4 : s.what = 4
  · exact does_4 w q N rest s h hg hS hs h4
  by_cases h5 : s.what = 5
  · exact does_5 w q N rest s h hg hS hs h5
  by_cases h6 : s.what = 6
  · exact does_6 w q N rest s h hg hS hs h6
  by_cases h7 : s.what = 7
  · exact does_7 w q N rest s h hg hS hs h7
  by_cases h8 : s.what = 8
  · exact does_8 w q N rest s h hg hS hs h8
  exact does_n w q N rest s h hg hS hs ⟨h0, h1, h2, h3, h4, h5, h6, h7, h8⟩
end Go.Proofs.Ytjdebancpgpebaa
