/-
  Simulations: a run that begins, what comes in, words of literals, the next run.
  Simulations: what comes in fits, or does not; what the graph's inputs have then.
-/
import Derived.Test.YtlkainmkhofpaaaGreatFSAO
import Derived.Test.YtlkainmkhofpaaaGreatFSAP
section
namespace Go.Proofs.YtlkainmkhofpaaaGreat
open Go.RowKit Go.Maps Bits Num
set_option maxRecDepth 100000

theorem keptc {F : Nat → Prop} {w w' : World} (hk : Kept F w w') {b o : Nat} {v : Value} (hn : ¬ F b) (c : w.cell? ⟨b, o, none⟩ = some v) : w'.cell? ⟨b, o, none⟩ = some v := by
  have hb := World.block_lt_of_cell? w _ c
  have := hk.block b hb hn
  unfold World.cell? at c ⊢
  simp only [this]
  exact c
theorem row_map {α : Type} (L : List α) (z : α) (f : α → Int) : row L.length (fun j => f (L.getD j z)) = L.map f := by
  apply List.ext_getElem
  · simp [row]
  · intro i h1 h2
    simp [row] at h1
    simp [row, List.getD, h1]
theorem begun_any {w : World} {q : NPl} {N : Nt} (h : NetIs w q N) (hS : Small N) :
    Calls Tryz.prog 37 #[.pointer (some ⟨q.b, 0, none⟩)] w fun e w' => ∃ g : Nat, e = .returned (.agg #[.pointer (some ⟨q.b, 0, none⟩), .slice (some ⟨g, 0, none⟩) N.regs.length N.regs.length, .slice none 0 0, .int .i64 0]) ∧ WR w' (some ⟨g, 0, none⟩) N.regs.length N.regs.length (iniR N.regs) ∧ w.heap.size ≤ g ∧ Below w.heap.size w w' := by
  obtain ⟨ia, ic, ra, rc, oa, oc, -, ev, -, c0, -, -, c3, -, -⟩ := h.cells
  have hlt := h.lt
  have hsr := hS.regs
  have hb : Below w.heap.size w (w.alloc (.cells #[.pointer none, .slice none 0 0, .slice none 0 0, .int .i64 0] 98)) := (Below.refl _ _).alloc (Nat.le_refl _) _
  have hea := Lib.hid (each_begun (a := ra) (c := rc) (by have := (h.below hb).regs; rw [ev] at this; exact this) rfl (by omega))
  have hd3 := stepc hb hlt c3
  have hrow : row N.regs.length (fun j => iniW (rgOf N.regs j)) = iniR N.regs := row_map _ _ _
  rw [hrow] at hea
  have hlen : Hid ((iniR N.regs).length = N.regs.length) := Lib.hid (by simp [iniR])
  have hwd : Hid (Words (iniR N.regs)) := Lib.hid (words_map _ _ iniW_bd)
  have k0 : (w.alloc (.cells #[.pointer none, .slice none 0 0, .slice none 0 0, .int .i64 0] 98)).cell? ⟨w.heap.size, 0, none⟩ = some (.pointer none) := by simp [go_sem]
  have k1 : (w.alloc (.cells #[.pointer none, .slice none 0 0, .slice none 0 0, .int .i64 0] 98)).cell? ⟨w.heap.size, 1, none⟩ = some (.slice none 0 0) := by simp [go_sem]
  have k2 : (w.alloc (.cells #[.pointer none, .slice none 0 0, .slice none 0 0, .int .i64 0] 98)).cell? ⟨w.heap.size, 2, none⟩ = some (.slice none 0 0) := by simp [go_sem]
  have k3 : (w.alloc (.cells #[.pointer none, .slice none 0 0, .slice none 0 0, .int .i64 0] 98)).cell? ⟨w.heap.size, 3, none⟩ = some (.int .i64 0) := by simp [go_sem]
  have kf : ∀ o, (w.alloc (.cells #[.pointer none, .slice none 0 0, .slice none 0 0, .int .i64 0] 98)).frozen? ⟨w.heap.size, o, none⟩ = false := fun o => by simp [go_sem]
  have hb := Lib.hid hb
  clear h hrow
  generalize hw1 : w.alloc (.cells #[.pointer none, .slice none 0 0, .slice none 0 0, .int .i64 0] 98) = w1 at *
  have hz : w.heap.size < w1.heap.size := World.block_lt_of_cell? w1 _ k0
  generalize iniR N.regs = I at *
  generalize N.regs.length = n at *
  go_enter Tryz.func37, Tryz.ntmps37
  go_wp2_with (go_at_call 83; (with_reducible refine hea.out.mono ?_); rintro e w2 ⟨rfl, ho, hb2⟩; have m0 := stepc hb2 hz k0; have m1 := stepc hb2 hz k1; have m2 := stepc hb2 hz k2; have m3 := stepc hb2 hz k3; have f0 := stepf hb2 hz (kf 0); have f1 := stepf hb2 hz (kf 1); have f2 := stepf hb2 hz (kf 2); have f3 := stepf hb2 hz (kf 3); have ho := Lib.hid ho; have hb2 := Lib.hid hb2)
  have hb3 : Below w.heap.size w ((((w2.setCell ⟨w.heap.size, 0, none⟩ (.pointer (some ⟨q.b, 0, none⟩))).setCell ⟨w.heap.size, 1, none⟩ (.slice (some ⟨w1.heap.size, 0, none⟩) n n)).setCell ⟨w.heap.size, 2, none⟩ (.slice none 0 0)).setCell ⟨w.heap.size, 3, none⟩ (.int .i64 0)) := ((((nextw hb.out hb2.out).setCell (Nat.le_refl _) _).setCell (Nat.le_refl _) _).setCell (Nat.le_refl _) _).setCell (Nat.le_refl _) _
  have ho3 : WR ((((w2.setCell ⟨w.heap.size, 0, none⟩ (.pointer (some ⟨q.b, 0, none⟩))).setCell ⟨w.heap.size, 1, none⟩ (.slice (some ⟨w1.heap.size, 0, none⟩) n n)).setCell ⟨w.heap.size, 2, none⟩ (.slice none 0 0)).setCell ⟨w.heap.size, 3, none⟩ (.int .i64 0)) (some ⟨w1.heap.size, 0, none⟩) n n I := ⟨hlen.out, own_moved (own_moved (own_moved (own_moved (own_base ho.out (Nat.zero_le _)) (by omega)) (by omega)) (by omega)) (by omega), hwd.out⟩
  refine bodyPost_ret (v := .agg #[.pointer (some ⟨q.b, 0, none⟩), .slice (some ⟨w1.heap.size, 0, none⟩) n n, .slice none 0 0, .int .i64 0]) (by simp [results, Tryz.results37, go_sem, *]) rfl ⟨w1.heap.size, rfl, ho3, by omega, hb3⟩

theorem regs_lit {N : Nt} {rest : List Int} (hg : Good N rest) (hS : Small N) : ∀ r ∈ N.regs, IsLit r.q ∧ IsLit r.d ∧ IsLit r.en := by
  intro r hr
  have hq : r.q ∈ takenN N := List.mem_append.2 (.inr (List.mem_map.2 ⟨r, hr, rfl⟩))
  obtain ⟨i, e, h0, h1, -⟩ := inLits_mem hg.wf (hg.drv.mem_iff.1 (List.mem_append.2 (.inl hq)))
  have := hS.g
  exact ⟨by unfold IsLit; omega, (hg.regT r hr).1.1, (hg.regT r hr).2.1⟩
theorem rwords_any {w : World} {pv : Value} {ha : Option Addr} {hn hc : Nat} {la : Option Addr} {ln lc : Nat} {cy : Int} {last : List Int} (hL : Row .u64 w la ln last) (hw : Words last) {a : Option Addr} {n c : Nat} {l : List Int} (hl : Row .u32 w a n l) (hlit : ∀ x ∈ l, IsLit x) (hm : n ≤ 400000) {pb : Option Addr} (hp : pv = .pointer pb) :
    Calls Tryz.prog 54 #[.agg #[pv, .slice ha hn hc, .slice la ln lc, .int .i64 cy], .slice a n c] w fun e w' => ∃ g : Nat, e = .returned (.slice (some ⟨g, 0, none⟩) n n) ∧ WR w' (some ⟨g, 0, none⟩) n n (l.map (fun x => wordV x last)) ∧ w.heap.size ≤ g ∧ Below w.heap.size w w' := by
  subst hp
  have hb : Below w.heap.size w (w.alloc (.cells #[.pointer pb, .slice ha hn hc, .slice la ln lc, .int .i64 cy] 98)) := (Below.refl _ _).alloc (Nat.le_refl _) _
  have hea := Lib.hid (each_lit (c := c) (hl.step hb) hm hlit (p := w.heap.size) (wa := la) (wn := ln) (wc := lc) (by simp) (by simp [go_sem]) (hL.step hb) hw)
  have hrow : row n (fun j => wordV (l.getD j 0) last) = l.map (fun x => wordV x last) := by rw [← hl.len]; exact row_map l 0 (fun x => wordV x last)
  rw [hrow] at hea
  have hlen : Hid ((l.map (fun x => wordV x last)).length = n) := Lib.hid (by simp [hl.len])
  have hwd : Hid (Words (l.map (fun x => wordV x last))) := Lib.hid (words_map _ _ (fun x => wordV_bd hw x))
  have hb := Lib.hid hb
  clear hl hL hrow hlit
  generalize l.map (fun x => wordV x last) = V at *
  go_enter Tryz.func54, Tryz.ntmps54
  go_wp2_with (go_at_call 102; (with_reducible refine hea.out.mono ?_); rintro e w2 ⟨rfl, ho, hb2⟩; have ho := Lib.hid ho; have hb2 := Lib.hid hb2)
  go_ret
  have ho2 : w2.ownsRow (w.heap.size + 1) 62 1 (.slice (some ⟨w.heap.size + 1, 0, none⟩) n n) n (V.map (Value.int .u64)) := by simpa using ho.out
  exact ⟨_, rfl, ⟨hlen.out, own_base ho2 (Nat.zero_le _), hwd.out⟩, by omega, nextw hb.out hb2.out⟩
set_option maxHeartbeats 2000000 in
theorem next_any {w : World} {q : NPl} {N : Nt} (h : NetIs w q N) (hg : Good N []) (hS : Small N) {ha : Option Addr} {hn hc : Nat} {la : Option Addr} {ln lc : Nat} {cy : Nat} (hcy : cy ≤ 1000000) {wa : Option Addr} {wn wc : Nat} {ws : List Int} (hW : WR w wa wn wc ws) :
    Calls Tryz.prog 53 #[.agg #[.pointer (some ⟨q.b, 0, none⟩), .slice ha hn hc, .slice la ln lc, .int .i64 cy], .slice wa wn wc] w fun e w' => ∃ g : Nat, e = .returned (.agg #[.pointer (some ⟨q.b, 0, none⟩), .slice (some ⟨g, 0, none⟩) N.regs.length N.regs.length, .slice wa wn wc, .int .i64 ((cy + 1 : Nat) : Int)]) ∧ WR w' (some ⟨g, 0, none⟩) N.regs.length N.regs.length (nxR N ws) ∧ w.heap.size ≤ g ∧ Below w.heap.size w w' := by
  obtain ⟨ia, ic, ra, rc, oa, oc, -, ev, -, c0, -, -, c3, -, -⟩ := h.cells
  have hlt := h.lt
  have hsr := hS.regs
  have hb : Below w.heap.size w (((w.alloc (.cells #[.pointer (some ⟨q.b, 0, none⟩), .slice ha hn hc, .slice la ln lc, .int .i64 cy] 98)).alloc (.cells #[.slice wa wn wc] 44)).alloc (.cells #[.pointer none, .slice none 0 0, .slice none 0 0, .int .i64 0] 98)) := (((Below.refl _ _).alloc (Nat.le_refl _) _).alloc (by simp) _).alloc (by simp; omega) _
  have hrow : row N.regs.length (fun j => nxW ws (rgOf N.regs j)) = nxR N ws := row_map _ _ _
  have k0 : (((w.alloc (.cells #[.pointer (some ⟨q.b, 0, none⟩), .slice ha hn hc, .slice la ln lc, .int .i64 cy] 98)).alloc (.cells #[.slice wa wn wc] 44)).alloc (.cells #[.pointer none, .slice none 0 0, .slice none 0 0, .int .i64 0] 98)).cell? ⟨w.heap.size, 0, none⟩ = some (.pointer (some ⟨q.b, 0, none⟩)) := by simp [go_sem]
  have k3 : (((w.alloc (.cells #[.pointer (some ⟨q.b, 0, none⟩), .slice ha hn hc, .slice la ln lc, .int .i64 cy] 98)).alloc (.cells #[.slice wa wn wc] 44)).alloc (.cells #[.pointer none, .slice none 0 0, .slice none 0 0, .int .i64 0] 98)).cell? ⟨w.heap.size, 3, none⟩ = some (.int .i64 cy) := by simp [go_sem]
  have k4 : (((w.alloc (.cells #[.pointer (some ⟨q.b, 0, none⟩), .slice ha hn hc, .slice la ln lc, .int .i64 cy] 98)).alloc (.cells #[.slice wa wn wc] 44)).alloc (.cells #[.pointer none, .slice none 0 0, .slice none 0 0, .int .i64 0] 98)).cell? ⟨w.heap.size + 1, 0, none⟩ = some (.slice wa wn wc) := by simp [go_sem]
  have n0 : (((w.alloc (.cells #[.pointer (some ⟨q.b, 0, none⟩), .slice ha hn hc, .slice la ln lc, .int .i64 cy] 98)).alloc (.cells #[.slice wa wn wc] 44)).alloc (.cells #[.pointer none, .slice none 0 0, .slice none 0 0, .int .i64 0] 98)).cell? ⟨w.heap.size + 1 + 1, 0, none⟩ = some (.pointer none) := by simp [go_sem]
  have n1 : (((w.alloc (.cells #[.pointer (some ⟨q.b, 0, none⟩), .slice ha hn hc, .slice la ln lc, .int .i64 cy] 98)).alloc (.cells #[.slice wa wn wc] 44)).alloc (.cells #[.pointer none, .slice none 0 0, .slice none 0 0, .int .i64 0] 98)).cell? ⟨w.heap.size + 1 + 1, 1, none⟩ = some (.slice none 0 0) := by simp [go_sem]
  have n2 : (((w.alloc (.cells #[.pointer (some ⟨q.b, 0, none⟩), .slice ha hn hc, .slice la ln lc, .int .i64 cy] 98)).alloc (.cells #[.slice wa wn wc] 44)).alloc (.cells #[.pointer none, .slice none 0 0, .slice none 0 0, .int .i64 0] 98)).cell? ⟨w.heap.size + 1 + 1, 2, none⟩ = some (.slice none 0 0) := by simp [go_sem]
  have n3 : (((w.alloc (.cells #[.pointer (some ⟨q.b, 0, none⟩), .slice ha hn hc, .slice la ln lc, .int .i64 cy] 98)).alloc (.cells #[.slice wa wn wc] 44)).alloc (.cells #[.pointer none, .slice none 0 0, .slice none 0 0, .int .i64 0] 98)).cell? ⟨w.heap.size + 1 + 1, 3, none⟩ = some (.int .i64 0) := by simp [go_sem]
  have nf : ∀ o, (((w.alloc (.cells #[.pointer (some ⟨q.b, 0, none⟩), .slice ha hn hc, .slice la ln lc, .int .i64 cy] 98)).alloc (.cells #[.slice wa wn wc] 44)).alloc (.cells #[.pointer none, .slice none 0 0, .slice none 0 0, .int .i64 0] 98)).frozen? ⟨w.heap.size + 1 + 1, o, none⟩ = false := fun o => by simp [go_sem]
  have hlen : Hid ((nxR N ws).length = N.regs.length) := Lib.hid (by simp [nxR])
  have hwd : Hid (Words (nxR N ws)) := Lib.hid (words_map _ _ (fun r => nxW_bd hW.words r))
  have hd3 := stepc hb hlt c3
  generalize hw1 : ((w.alloc (.cells #[.pointer (some ⟨q.b, 0, none⟩), .slice ha hn hc, .slice la ln lc, .int .i64 cy] 98)).alloc (.cells #[.slice wa wn wc] 44)).alloc (.cells #[.pointer none, .slice none 0 0, .slice none 0 0, .int .i64 0] 98) = w1 at *
  have hea := Lib.hid (fun w2 (hb2 : Below w1.heap.size w1 w2) => each_next (w := w2) (a := ra) (c := rc) (by have := ((h.below hb).below hb2).regs; rw [ev] at this; exact this) rfl (by omega) (regs_lit hg hS) (p := w.heap.size + 1) (wa := wa) (wn := wn) (wc := wc) (Nat.lt_of_lt_of_le (World.block_lt_of_cell? w1 _ k4) hb2.size) (stepc hb2 (World.block_lt_of_cell? w1 _ k4) k4) ((hW.row.step hb).step hb2) hW.words)
  rw [hrow] at hea
  have z0 : w.heap.size < w1.heap.size := World.block_lt_of_cell? w1 _ k0
  have z1 : w.heap.size + 1 < w1.heap.size := World.block_lt_of_cell? w1 _ k4
  have z2 : w.heap.size + 1 + 1 < w1.heap.size := World.block_lt_of_cell? w1 _ n0
  have zq : q.b < w1.heap.size := World.block_lt_of_cell? w1 _ hd3
  have hwr : IntKind.i64.wrap ((cy : Int) + 1) = (cy : Int) + 1 := IntWalk.i64_in _ (by omega)
  have hdr := Lib.hid ((Below.refl w1.heap.size w1).drew)
  have hb := Lib.hid hb
  have x1 : ¬ (w.heap.size = w.heap.size + 1 + 1) := by omega
  have x2 : ¬ (w.heap.size + 1 = w.heap.size + 1 + 1) := by omega
  have x3 : ¬ (q.b = w.heap.size + 1 + 1) := by omega
  have x4 : ¬ (w.heap.size + 1 + 1 = w.heap.size) := by omega
  have x5 : ¬ (w.heap.size + 1 + 1 = w.heap.size + 1) := by omega
  have x6 : ¬ (w.heap.size + 1 + 1 = q.b) := by omega
  clear h hrow hW hg hS c0
  generalize nxR N ws = I at *
  generalize N.regs.length = n at *
  go_enter Tryz.func53, Tryz.ntmps53
  go_upto_region 2 with fail
  go_region_held3 (fun w' => w'.cell? ⟨w.heap.size, 0, none⟩ = some (.pointer (some ⟨q.b, 0, none⟩)) ∧ w'.cell? ⟨w.heap.size, 3, none⟩ = some (.int .i64 cy) ∧ w'.cell? ⟨w.heap.size + 1, 0, none⟩ = some (.slice wa wn wc) ∧ w'.cell? ⟨q.b, 3, none⟩ = some (.slice ra n rc)) (go_keep) (first
    | (go_at_call 83; (with_reducible refine (hea.out _ hdr.out).mono ?_); rintro e w2 ⟨rfl, ho, hb2⟩; have hb3 := nextw hdr.out hb2; have m0 := stepc hb3 z2 n0; have m1 := stepc hb3 z2 n1; have m2 := stepc hb3 z2 n2; have m3 := stepc hb3 z2 n3; have f0 := stepf hb3 z2 (nf 0); have f1 := stepf hb3 z2 (nf 1); have f2 := stepf hb3 z2 (nf 2); have f3 := stepf hb3 z2 (nf 3); have r0 := stepc hb3 z0 k0; have r3 := stepc hb3 z0 k3; have r4 := stepc hb3 z1 k4; have rq := stepc hb3 zq hd3; have ho := Lib.hid ho; have hb3 := Lib.hid hb3; clear hb2))
  all_goals go_wp2
  all_goals
    have hb4 : Below w.heap.size w ((((w2.setCell ⟨w.heap.size + 1 + 1, 0, none⟩ (.pointer (some ⟨q.b, 0, none⟩))).setCell ⟨w.heap.size + 1 + 1, 1, none⟩ (.slice (some ⟨w1.heap.size, 0, none⟩) n n)).setCell ⟨w.heap.size + 1 + 1, 2, none⟩ (.slice wa wn wc)).setCell ⟨w.heap.size + 1 + 1, 3, none⟩ (.int .i64 ((cy : Int) + 1))) := ((((nextw hb.out hb3.out).setCell (by simp; omega) _).setCell (by simp; omega) _).setCell (by simp; omega) _).setCell (by simp; omega) _
    have hoo : w2.ownsRow w1.heap.size 62 1 (.slice (some ⟨w1.heap.size, 0, none⟩) n n) n (I.map (Value.int .u64)) := by simpa using ho.out
    have ho3 : WR ((((w2.setCell ⟨w.heap.size + 1 + 1, 0, none⟩ (.pointer (some ⟨q.b, 0, none⟩))).setCell ⟨w.heap.size + 1 + 1, 1, none⟩ (.slice (some ⟨w1.heap.size, 0, none⟩) n n)).setCell ⟨w.heap.size + 1 + 1, 2, none⟩ (.slice wa wn wc)).setCell ⟨w.heap.size + 1 + 1, 3, none⟩ (.int .i64 ((cy : Int) + 1))) (some ⟨w1.heap.size, 0, none⟩) n n I := ⟨hlen.out, own_moved (own_moved (own_moved (own_moved (own_base hoo (Nat.zero_le _)) (by omega)) (by omega)) (by omega)) (by omega), hwd.out⟩
    refine bodyPost_ret (v := .agg #[.pointer (some ⟨q.b, 0, none⟩), .slice (some ⟨w1.heap.size, 0, none⟩) n n, .slice wa wn wc, .int .i64 ((cy : Int) + 1)]) (by simp [results, Tryz.results53, go_sem, *]) rfl ⟨w1.heap.size, by simp, ho3, by omega, hb4⟩
end Go.Proofs.YtlkainmkhofpaaaGreat
end

section
namespace Go.Proofs.YtlkainmkhofpaaaGreat
open Go.RowKit Go.Maps Bits Num
set_option maxRecDepth 100000

/-- Where a bus's literals stand among those of all. -/
def offB (L : List Bus) (i : Nat) : Nat := (litsOf (L.take i)).length
theorem offB_zero (L : List Bus) : offB L 0 = 0 := by simp [offB, litsOf]
theorem offB_succ (L : List Bus) {i : Nat} (h : i < L.length) : offB L (i + 1) = offB L i + L[i].lits.length := by
  unfold offB
  rw [List.take_add_one, List.getElem?_eq_getElem h, Option.toList_some]
  unfold litsOf
  rw [List.flatMap_append, List.length_append]
  congr 1
  simp only [List.flatMap_cons, List.flatMap_nil, List.append_nil]
theorem offB_all (L : List Bus) : offB L L.length = (litsOf L).length := by simp [offB]
theorem lits_split (L : List Bus) {i : Nat} (h : i < L.length) : litsOf L = litsOf (L.take i) ++ (L[i].lits ++ litsOf (L.drop (i + 1))) := by
  have e : L = L.take i ++ (L[i] :: L.drop (i + 1)) := by rw [List.getElem_cons_drop, List.take_append_drop]
  have e2 : litsOf L = litsOf (L.take i ++ (L[i] :: L.drop (i + 1))) := congrArg litsOf e
  rw [e2]
  unfold litsOf
  rw [List.flatMap_append, List.flatMap_cons]
theorem offB_le (L : List Bus) {i k : Nat} (h : i < L.length) (hk : k < L[i].lits.length) : offB L i + k < (litsOf L).length := by
  rw [lits_split L h]
  simp only [List.length_append]
  unfold offB
  omega
theorem lits_at (L : List Bus) {i k : Nat} (h : i < L.length) (hk : k < L[i].lits.length) : (litsOf L).getD (offB L i + k) 0 = L[i].lits.getD k 0 := by
  rw [lits_split L h]
  unfold offB
  rw [List.getD_eq_getElem?_getD, List.getElem?_append_right (by omega), List.getElem?_append_left (by omega), show (litsOf (L.take i)).length + k - (litsOf (L.take i)).length = k by omega, ← List.getD_eq_getElem?_getD]
theorem taken_lit (N : Nt) {i k : Nat} (h : i < N.ins.length) (hk : k < N.ins[i].lits.length) : (takenN N).getD (offB N.ins i + k) 0 = N.ins[i].lits.getD k 0 := by
  rw [← lits_at N.ins h hk]
  have := offB_le N.ins h hk
  unfold takenN
  rw [List.getD_eq_getElem?_getD, List.getElem?_append_left this, ← List.getD_eq_getElem?_getD]
theorem taken_reg (N : Nt) {j : Nat} (h : j < N.regs.length) : (takenN N).getD ((litsOf N.ins).length + j) 0 = N.regs[j].q := by
  unfold takenN
  rw [List.getD_eq_getElem?_getD, List.getElem?_append_right (by omega), show (litsOf N.ins).length + j - (litsOf N.ins).length = j by omega]
  simp [h]
theorem app_left {X H : List Int} {k : Nat} (h : k < X.length) : (X ++ H).getD k 0 = X.getD k 0 := by
  rw [List.getD_eq_getElem?_getD, List.getElem?_append_left h, ← List.getD_eq_getElem?_getD]
theorem app_right {X H : List Int} {m j : Nat} (h : X.length = m) : (X ++ H).getD (m + j) 0 = H.getD j 0 := by
  rw [List.getD_eq_getElem?_getD, List.getElem?_append_right (by omega), show m + j - X.length = j by omega, ← List.getD_eq_getElem?_getD]
/-- The words of one bus. -/
def piece (L : List Bus) (X : List Int) (i : Nat) : List Int := (X.drop (offB L i)).take (L.getD i ⟨ByteArray.empty, []⟩).lits.length
theorem piece_at {L : List Bus} {X : List Int} {i k : Nat} (h : i < L.length) (hk : k < L[i].lits.length) : (piece L X i).getD k 0 = X.getD (offB L i + k) 0 := by
  unfold piece
  have e : L.getD i ⟨ByteArray.empty, []⟩ = L[i] := by simp [List.getD, h]
  rw [e]
  simp only [List.getD, List.getElem?_take, if_pos hk, List.getElem?_drop]
/-- Rows of words for the buses that come in. -/
structure InRows (w : World) (a : Option Addr) (n : Nat) (L : List Bus) (X : List Int) : Prop where
  len : n = L.length
  len2 : X.length = (litsOf L).length
  words : Words X
  max : n ≤ 9223372036854775807
  rows : n = 0 ∨ ∃ b off, a = some ⟨b, off, none⟩ ∧ b < w.heap.size ∧ ∀ i, (hi : i < L.length) → ∃ (ra : Option Addr) (rc : Nat), w.cell? ⟨b, off + i, none⟩ = some (.slice ra L[i].lits.length rc) ∧ Row .u64 w ra L[i].lits.length (piece L X i)
theorem InRows.step {w w' : World} {a : Option Addr} {n : Nat} {L : List Bus} {X : List Int} (h : InRows w a n L X) (hb : Below w.heap.size w w') : InRows w' a n L X :=
  ⟨h.len, h.len2, h.words, h.max, by
    rcases h.rows with h0 | ⟨b, off, e, hl, hr⟩
    · exact .inl h0
    · exact .inr ⟨b, off, e, Nat.lt_of_lt_of_le hl hb.size, fun i hi => by obtain ⟨ra, rc, h1, h2⟩ := hr i hi; exact ⟨ra, rc, stepc hb hl h1, h2.step hb⟩⟩⟩
theorem InRows.at {w : World} {a : Option Addr} {n : Nat} {L : List Bus} {X : List Int} (h : InRows w a n L X) {i : Nat} (hi : i < L.length) : ∃ b off, a = some ⟨b, off, none⟩ ∧ b < w.heap.size ∧ ∃ (ra : Option Addr) (rc : Nat), w.cell? ⟨b, off + i, none⟩ = some (.slice ra L[i].lits.length rc) ∧ Row .u64 w ra L[i].lits.length (piece L X i) := by
  rcases h.rows with h0 | ⟨b, off, e, hl, hr⟩
  · have := h.len; omega
  · exact ⟨b, off, e, hl, hr i hi⟩

set_option maxHeartbeats 1000000 in
theorem fits_yes {w : World} {q : NPl} {N : Nt} (h : NetIs w q N) {ha : Option Addr} {hn hc : Nat} {la : Option Addr} {ln lc : Nat} {cy : Int} {a : Option Addr} {n c : Nat} {X : List Int} (hI : InRows w a n N.ins X) :
    Calls Tryz.prog 50 #[.agg #[.pointer (some ⟨q.b, 0, none⟩), .slice ha hn hc, .slice la ln lc, .int .i64 cy], .slice a n c] w fun e w' => e = .returned (.bool true) ∧ Below w.heap.size w w' := by
  obtain ⟨ia, ic, ra, rc, oa, oc, ev, -, -, c0, -, c2, -, -, -⟩ := h.cells
  have hlt := h.lt
  have hb : Below w.heap.size w (w.alloc (.cells #[.pointer (some ⟨q.b, 0, none⟩), .slice ha hn hc, .slice la ln lc, .int .i64 cy] 98)) := (Below.refl _ _).alloc (Nat.le_refl _) _
  have heq : Hid (Calls Tryz.prog 95 #[.slice a n c, .slice ia N.ins.length ic, .func (.func 96) #[] #[]] (w.alloc (.cells #[.pointer (some ⟨q.b, 0, none⟩), .slice ha hn hc, .slice la ln lc, .int .i64 cy] 98)) fun e w' => e = .returned (.bool true) ∧ Below w.heap.size w w') := by
    show Calls _ _ _ _ _
    have HI := Lib.hid (hI.step hb)
    have HB : Hid (BusRow (w.alloc (.cells #[.pointer (some ⟨q.b, 0, none⟩), .slice ha hn hc, .slice la ln lc, .int .i64 cy] 98)) (.slice ia N.ins.length ic) N.ins) := Lib.hid (by have := h.ins.below hb; rw [ev] at this; exact this)
    have hb := Lib.hid hb
    have hnl : n = N.ins.length := hI.len
    have hmx := hI.max
    clear h hI c0 c2
    generalize hw1 : w.alloc (.cells #[.pointer (some ⟨q.b, 0, none⟩), .slice ha hn hc, .slice la ln lc, .int .i64 cy] 98) = w1 at *
    clear hw1
    rw [← hnl] at HB ⊢
    have HN := Lib.hid hnl
    clear hnl
    have gne := bnef (a := (n : Int)) (b := n) rfl
    go_enter Tryz.func95, Tryz.ntmps95
    go_wp2
    go_loopw [17] (fun i wr => ∃ j : Nat, j ≤ n ∧ i = .int .i64 j ∧ Hid (Below w1.heap.size w1 wr)) (fun i _ => n - (intOf i).toNat)
    case atStart => exact ⟨0, Nat.zero_le _, rfl, Lib.hid (Below.refl _ _)⟩
    case round =>
      obtain ⟨j, hj, rfl, hB⟩ := hrel
      by_cases hlt2 : j < n
      · have hjL : j < N.ins.length := by rw [← HN.out]; exact hlt2
        obtain ⟨b, off, rfl, hbl, xa, xc, e0, -⟩ := HI.out.at hjL
        obtain ⟨g, la2, lc2, rfl, hg, b0, b1, -⟩ := HB.out.at hjL
        have e0 := stepc hB.out hbl e0
        have b0 := stepc hB.out hg b0
        have b1 := stepc hB.out hg b1
        have hf := Lib.hid (fun w => fits1_any xa N.ins[j].lits.length xc N.ins[j].name la2 N.ins[j].lits.length lc2 w)
        generalize N.ins[j].lits.length = m at *
        generalize N.ins[j].name = s at *
        rw [show decide ((m : Int) = m) = true by simp] at hf
        have hbx : Hid (Below wr.heap.size wr (wr.alloc (.cells #[.string s, .slice la2 m lc2] 81))) := Lib.hid ((Below.refl _ _).alloc (Nat.le_refl _) _)
        go_wp2_with (go_at_call 96; (with_reducible refine (hf.out _).mono ?_); rintro e w2 ⟨rfl, hb2⟩; have hb3 := Lib.hid (nextw hB.out (nextw hbx.out hb2)); clear hb2)
        exact ⟨⟨j + 1, by omega, by go_num, hb3⟩, by simp [intOf]; omega⟩
      · obtain rfl : j = n := by omega
        go_wp2
        go_ret
        exact ⟨rfl, nextw hb.out hB.out⟩
  have hd2 := stepc hb hlt c2
  clear h hI hb
  go_enter Tryz.func50, Tryz.ntmps50
  go_wp2_with (go_at_call 95; (with_reducible refine heq.out.mono ?_); rintro e w2 ⟨rfl, hb2⟩)
  go_ret
  exact ⟨rfl, hb2⟩
theorem fits_no {w : World} {q : NPl} {N : Nt} (h : NetIs w q N) {ha : Option Addr} {hn hc : Nat} {la : Option Addr} {ln lc : Nat} {cy : Int} {a : Option Addr} {n c : Nat} (hne : n ≠ N.ins.length) :
    Calls Tryz.prog 50 #[.agg #[.pointer (some ⟨q.b, 0, none⟩), .slice ha hn hc, .slice la ln lc, .int .i64 cy], .slice a n c] w fun e w' => e = .returned (.bool false) ∧ Below w.heap.size w w' := by
  obtain ⟨ia, ic, ra, rc, oa, oc, ev, -, -, c0, -, c2, -, -, -⟩ := h.cells
  have hlt := h.lt
  have hb : Below w.heap.size w (w.alloc (.cells #[.pointer (some ⟨q.b, 0, none⟩), .slice ha hn hc, .slice la ln lc, .int .i64 cy] 98)) := (Below.refl _ _).alloc (Nat.le_refl _) _
  have hd2 := stepc hb hlt c2
  have hb := Lib.hid hb
  have gne : ((n : Int) != (N.ins.length : Int)) = true := by simp; omega
  have heq : Hid (∀ w1, Calls Tryz.prog 95 #[.slice a n c, .slice ia N.ins.length ic, .func (.func 96) #[] #[]] w1 fun e w' => e = .returned (.bool false) ∧ w1 = w') := by
    show ∀ w1, Calls _ _ _ _ _
    intro w1
    clear h hd2 hb c0 c2
    go_enter Tryz.func95, Tryz.ntmps95
    go_wp2
    go_ret
    exact ⟨rfl, rfl⟩
  clear h gne hne
  go_enter Tryz.func50, Tryz.ntmps50
  go_wp2_with (go_at_call 95; (with_reducible refine (heq.out _).mono ?_); rintro e w2 ⟨rfl, rfl⟩)
  go_ret
  exact ⟨rfl, hb.out⟩
end Go.Proofs.YtlkainmkhofpaaaGreat
end
