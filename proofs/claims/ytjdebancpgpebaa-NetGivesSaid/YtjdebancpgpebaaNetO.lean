/-
  Each input once: open, and what it takes.
-/
import Derived.Test.YtjdebancpgpebaaNetK
import Derived.Test.YtjdebancpgpebaaCpy
namespace Go.Proofs.Ytjdebancpgpebaa
open Go.RowKit Go.Maps Bits
set_option maxRecDepth 100000

/-- The free nodes, while they are taken. -/
structure Tk (w0 : World) (q : NPl) (n qn qf qt fb : Nat) (rest : List Int) (t : Int) (wr : World) : Prop where
  below : Below w0.heap.size w0 wr
  cn : wr.cell? ⟨qn, 0, none⟩ = some (.pointer (some ⟨q.b, 0, none⟩))
  cf : wr.cell? ⟨qf, 0, none⟩ = some (.slice (some ⟨fb, 0, none⟩) n n)
  ct : wr.cell? ⟨qt, 0, none⟩ = some (.int .i64 t)
  ft : wr.frozen? ⟨qt, 0, none⟩ = false
  free : wr.ownsRow w0.heap.size 4 1 (.slice (some ⟨fb, 0, none⟩) n n) n (freeL n rest)
  far : qn ≠ fb ∧ qf ≠ fb ∧ qt ≠ fb ∧ qn ≠ qt ∧ qf ≠ qt
  old : w0.heap.size ≤ qt
theorem Tk.step {w0 : World} {q : NPl} {n qn qf qt fb : Nat} {rest : List Int} {t : Int} {wr w2 : World} (h : Tk w0 q n qn qf qt fb rest t wr) (hb : Below wr.heap.size wr w2) : Tk w0 q n qn qf qt fb rest t w2 :=
  ⟨nextw h.below hb, stepc hb (World.block_lt_of_cell? wr _ h.cn) h.cn, stepc hb (World.block_lt_of_cell? wr _ h.cf) h.cf, stepc hb (World.block_lt_of_cell? wr _ h.ct) h.ct, ((bcell hb).2 _ _ (World.block_lt_of_cell? wr _ h.ct)).trans h.ft, own_below h.free hb, h.far, h.old⟩
theorem Tk.take {w0 : World} {q : NPl} {n qn qf qt fb k : Nat} {G : Gr} {rest : List Int} {t : Int} {wr : World} (h : Tk w0 q n qn qf qt fb (2 * (k : Int) :: rest) t wr) (hl : Left G (2 * (k : Int) :: rest)) : Tk w0 q n qn qf qt fb rest t (wr.setCell ⟨fb, k, none⟩ (.bool false)) := by
  obtain ⟨f1, f2, f3, f4, f5⟩ := h.far
  have hst := (h.free.stored k (.bool false)).1
  rw [freeL_take hl] at hst
  have hge := own_ge h.free fb rfl
  refine ⟨h.below.setCell hge _, ?_, ?_, ?_, ?_, hst, h.far, h.old⟩
  · have := h.cn; simp [go_sem]; exact this
  · have := h.cf; simp [go_sem]; exact this
  · have := h.ct; simp [go_sem]; exact this
  · have := h.ft; simp [go_sem]; exact this
theorem Tk.count {w0 : World} {q : NPl} {n qn qf qt fb : Nat} {rest : List Int} {t : Int} {wr : World} (h : Tk w0 q n qn qf qt fb rest t wr) (t' : Int) : Tk w0 q n qn qf qt fb rest t' (wr.setCell ⟨qt, 0, none⟩ (.int .i64 t')) := by
  obtain ⟨f1, f2, f3, f4, f5⟩ := h.far
  refine ⟨h.below.setCell h.old _, ?_, ?_, ?_, ?_, ?_, h.far, h.old⟩
  · have := h.cn; simp [go_sem]; exact this
  · have := h.cf; simp [go_sem]; exact this
  · obtain ⟨u, hu⟩ : ∃ u, wr.cell? ⟨qt, 0, none⟩ = some u := ⟨_, h.ct⟩
    simp [go_sem, hu]
  · have := h.ft; simp [go_sem]; exact this
  · have hf := h.free
    refine ⟨hf.1, ?_⟩
    rcases hf.2 with h0 | ⟨g, cap, cur, hv, hg, hh, r⟩
    · exact .inl h0
    · have e : g = fb := by simp at hv; exact hv.1.symm
      subst e
      exact .inr ⟨_, cap, cur, hv, hg, by rw [Below.heap_setCell _ _ _ _ (fun e => f3 e.symm)]; exact hh, r⟩
theorem row1 (w : World) (x : Int) (T : Nat) : Row .u32 (w.alloc (.cells #[.int .u32 x] T)) (some ⟨w.heap.size, 0, none⟩) 1 [x] := by
  refine ⟨rfl, by omega, .inr ⟨w.heap.size, 0, rfl, by simp, fun i hi => ?_⟩⟩
  match i, hi with
  | 0, _ => simp [go_sem]
  | i + 1, h => omega
set_option maxHeartbeats 2000000 in
theorem take_any {w0 wr : World} {q : NPl} {N : Nt} {rest : List Int} {l : List Int} (h : NetIs w0 q N) (hg : Good N rest) {qn qf qt fb k : Nat} {t : Nat} (hT : Tk w0 q N.g.nodes.length qn qf qt fb (2 * (k : Int) :: l) t wr) (hl : Left N.g (2 * (k : Int) :: l)) (ht : t ≤ 1000000) (hm : N.g.nodes.length ≤ 200000) :
    Calls Try.prog 60 #[.int .u32 (2 * (k : Int)), .pointer (some ⟨qn, 0, none⟩), .pointer (some ⟨qf, 0, none⟩), .pointer (some ⟨qt, 0, none⟩)] wr fun e w' => e = .returned (.bool true) ∧ Tk w0 q N.g.nodes.length qn qf qt fb l (t + 1 : Nat) w' := by
  obtain ⟨i, hi, h0, hin⟩ := hl.lit (2 * (k : Int)) (by simp)
  obtain rfl : i = k := by omega
  have hx : IsLit (2 * (i : Int)) := by unfold IsLit; omega
  have htu := Lib.hid (fun w => turned_any (2 * (i : Int)) hx w)
  have htv : turnV (2 * (i : Int)) = false := by unfold turnV; rw [show (2 * (i : Int)) % 2 = 0 by omega]; rfl
  rw [htv] at htu
  have hnd := Lib.hid (fun w => (show Calls Try.prog 12 #[.int .u32 (2 * (i : Int))] w fun e w' => e = .returned (.int .i64 (i : Int)) ∧ w = w' by have := node_any (2 * (i : Int)) hx w; rw [show 2 * (i : Int) / 2 = i by omega] at this; exact this))
  have hba : Below wr.heap.size wr (wr.alloc (.cells #[.int .u32 (2 * (i : Int))] 50)).drew := ((Below.refl wr.heap.size wr).alloc (Nat.le_refl _) _).drew
  have hhas := Lib.hid (show Calls Try.prog 53 #[.pointer (some ⟨q.b, 0, none⟩), .slice (some ⟨wr.heap.size, 0, none⟩) 1 1] (wr.alloc (.cells #[.int .u32 (2 * (i : Int))] 50)).drew fun e w' => e = .returned (.bool true) ∧ Below (wr.alloc (.cells #[.int .u32 (2 * (i : Int))] 50)).drew.heap.size (wr.alloc (.cells #[.int .u32 (2 * (i : Int))] 50)).drew w' from by
    have hb3 := nextw hT.below hba
    have := has_any (h.below hb3) hg.wf.pos (c := 1) ((row1 wr (2 * (i : Int)) 50).step ((Below.refl _ _).drew)) (by intro y hy; simp at hy; subst hy; exact hx)
    rw [allHas_of (G := N.g) (l := [2 * (i : Int)]) (by intro y hy; simp at hy; subst hy; exact ⟨hx, by omega⟩)] at this
    exact this)
  have hba := Lib.hid hba
  have hS := Lib.hid (fun w2 (hb2 : Below wr.heap.size wr w2) => hT.step hb2)
  have hfin := Lib.hid (fun w2 (h2 : Tk w0 q N.g.nodes.length qn qf qt fb (2 * (i : Int) :: l) t w2) => (h2.take hl))
  have hcell := Lib.hid (fun w2 (h2 : Tk w0 q N.g.nodes.length qn qf qt fb (2 * (i : Int) :: l) t w2) => (show w2.cell? ⟨fb, i, none⟩ = some (.bool true) ∧ w2.frozen? ⟨fb, i, none⟩ = false from ⟨by rw [h2.free.cellAt i (by omega), freeL_at _ _ hin, freeB_head], h2.free.frozenAt i⟩))
  have hcnt := Lib.hid (fun w2 (h2 : Tk w0 q N.g.nodes.length qn qf qt fb l t w2) => (show w2.cell? ⟨qt, 0, none⟩ = some (.int .i64 t) ∧ w2.frozen? ⟨qt, 0, none⟩ = false ∧ Tk w0 q N.g.nodes.length qn qf qt fb l (t + 1 : Nat) (w2.setCell ⟨qt, 0, none⟩ (.int .i64 ((t : Int) + 1))) from ⟨h2.ct, h2.ft, h2.count _⟩))
  have c0 := hT.cn
  have c1 := hT.cf
  obtain ⟨c3, c4⟩ := hcell.out _ hT
  have l0 := World.block_lt_of_cell? wr _ c0
  have l1 := World.block_lt_of_cell? wr _ c1
  have l3 := World.block_lt_of_cell? wr _ c3
  simp only [] at l0 l1 l3
  have hwr := Lib.hid (Below.refl wr.heap.size wr)
  clear h hg hT hl htv hx hi
  generalize N.g.nodes.length = n at *
  go_enter Try.func60, Try.ntmps60
  go_upto_region 1 with fail
  generalize hxx : 2 * (i : Int) = x at *
  clear hxx
  go_region_law (first
    | (go_simp; go_at_call 17; (with_reducible refine (htu.out _).mono ?_); rintro e w5 ⟨rfl, rfl⟩)
    | (go_simp; go_at_call 12; (with_reducible refine (hnd.out _).mono ?_); rintro e w5 ⟨rfl, rfl⟩)
    | (go_simp; go_at_call 53; (with_reducible refine hhas.out.mono ?_); rintro e w6 ⟨rfl, hb6⟩; have hb7 := nextw hba.out hb6; have d0 := stepc hb7 l0 c0; have d1 := stepc hb7 l1 c1; have d3 := stepc hb7 l3 c3; have hb7 := Lib.hid hb7))
  all_goals simp only [List.getElem_toArray, List.getElem_cons_succ, List.getElem_cons_zero, Act.put, List.setIfInBounds_toArray, List.set_cons_succ, List.set_cons_zero]
  all_goals
    have hT6 := hS.out _ hb7.out
    obtain ⟨-, m4⟩ := hcell.out _ hT6
    have hT7 := hfin.out _ hT6
    have hT8 := Lib.hid (hT7.step (Below.refl _ _).drew)
    have m1 := hT7.ct
    have m2 := hT7.ft
    clear hT6 hT7 hb6 c0 c1 c3 c4 d0 hS hfin hcell hwr hhas hba htu
    go_wp2
    go_region_law (go_simp; go_at_call 12; (with_reducible refine (hnd.out _).mono ?_); rintro e w5 ⟨rfl, rfl⟩)
    all_goals go_wp2
    all_goals go_ret
    all_goals exact ⟨rfl, (hcnt.out _ hT8.out).2.2⟩
theorem take_lit {w0 wr : World} {q : NPl} {N : Nt} {rest : List Int} {l : List Int} (h : NetIs w0 q N) (hg : Good N rest) {qn qf qt fb : Nat} {x : Int} {t : Nat} (hT : Tk w0 q N.g.nodes.length qn qf qt fb (x :: l) t wr) (hl : Left N.g (x :: l)) (ht : t ≤ 1000000) (hm : N.g.nodes.length ≤ 200000) :
    Calls Try.prog 60 #[.int .u32 x, .pointer (some ⟨qn, 0, none⟩), .pointer (some ⟨qf, 0, none⟩), .pointer (some ⟨qt, 0, none⟩)] wr fun e w' => e = .returned (.bool true) ∧ Tk w0 q N.g.nodes.length qn qf qt fb l (t + 1 : Nat) w' := by
  obtain ⟨k, hk, h0, hin⟩ := hl.lit x (by simp)
  subst hk
  exact take_any h hg hT hl ht hm

/-- The free nodes, while they are marked. -/
structure Mk (w0 : World) (q : NPl) (n qn qf fb : Nat) (ia : Option Addr) (m ic : Nat) (I l : List Int) (wr : World) : Prop where
  below : Below w0.heap.size w0 wr
  cn : wr.cell? ⟨qn, 0, none⟩ = some (.pointer (some ⟨q.b, 0, none⟩))
  cf : wr.cell? ⟨qf, 0, none⟩ = some (.slice (some ⟨fb, 0, none⟩) n n)
  free : wr.ownsRow w0.heap.size 4 1 (.slice (some ⟨fb, 0, none⟩) n n) n (freeL n l)
  ins : wr.ownsRow w0.heap.size 3 1 (.slice ia m ic) m (I.map (Value.int .i64))
  far : qn ≠ fb ∧ qf ≠ fb
theorem Mk.mark {w0 wr : World} {q : NPl} {n qn qf fb : Nat} {ia : Option Addr} {m ic : Nat} {I : List Int} {j i : Nat} (h : Mk w0 q n qn qf fb ia m ic I (marked I j) wr) (hi : I[j]? = some (i : Int)) :
    Mk w0 q n qn qf fb ia m ic I (marked I (j + 1)) (wr.setCell ⟨fb, i, none⟩ (.bool true)) := by
  obtain ⟨f1, f2⟩ := h.far
  have hst := (h.free.stored i (.bool true)).1
  rw [freeL_mark n I hi] at hst
  have hge := own_ge h.free fb rfl
  refine ⟨h.below.setCell hge _, ?_, ?_, hst, ?_, h.far⟩
  · have := h.cn; simp [go_sem]; exact this
  · have := h.cf; simp [go_sem]; exact this
  · obtain ⟨c, hc⟩ := own_type h.free (k := fb) rfl
    have hk : Kept (fun k => k = fb) wr (wr.setCell ⟨fb, i, none⟩ (.bool true)) := ⟨rfl, rfl, rfl, by simp [World.setCell], fun k _ hn => Below.heap_setCell _ _ _ _ hn⟩
    refine own_keptF h.ins hk (fun k e hf => ?_)
    subst hf
    obtain ⟨c2, hc2⟩ := own_type h.ins e
    rw [hc] at hc2
    simp at hc2
theorem Mk.tk {w0 wr : World} {q : NPl} {n qn qf fb : Nat} {ia : Option Addr} {m ic : Nat} {I l l2 : List Int} (h : Mk w0 q n qn qf fb ia m ic I l wr) (hp : freeL n l = freeL n l2) :
    Tk w0 q n qn qf wr.heap.size fb l2 0 (wr.alloc (.cells #[.int .i64 0] 3)) := by
  have hb : Below wr.heap.size wr (wr.alloc (.cells #[.int .i64 0] 3)) := (Below.refl _ _).alloc (Nat.le_refl _) _
  have l1 := World.block_lt_of_cell? wr _ h.cn
  have l2' := World.block_lt_of_cell? wr _ h.cf
  have l3 := own_lt h.free
  simp only [] at l1 l2'
  refine ⟨nextw h.below hb, stepc hb l1 h.cn, stepc hb l2' h.cf, by simp [go_sem], by simp [go_sem], by rw [← hp]; exact own_below h.free hb, ⟨h.far.1, h.far.2, by omega, by omega, by omega⟩, h.below.size⟩
theorem made_free (n : Nat) : (madeCells (Value.bool false).cells (n * 1)).toList = freeL n [] := by
  rw [freeL_none, Nat.mul_one]
  exact toList_madeCells_one _ _
theorem info_boolO : (Try.prog.info? 4).map (fun i => (i.zero, i.size, i.bytes)) = some (some (.bool false), 1, 1) := by kernel_rfl
/-- What is still to be taken behind the first j buses; behind those and the first i literals of the next. -/
def leftB (N : Nt) (rest : List Int) (j : Nat) : List Int := litsOf (N.ins.drop j) ++ (N.regs.map (fun r => r.q) ++ rest)
def leftR (N : Nt) (rest : List Int) (j : Nat) : List Int := (N.regs.drop j).map (fun r => r.q) ++ rest
theorem leftB_zero (N : Nt) (rest : List Int) : leftB N rest 0 = takenN N ++ rest := by simp [leftB, takenN]
theorem leftB_next (N : Nt) (rest : List Int) {j : Nat} (hj : j < N.ins.length) : leftB N rest j = N.ins[j].lits ++ leftB N rest (j + 1) := by
  unfold leftB
  rw [List.drop_eq_getElem_cons hj, show litsOf (N.ins[j] :: N.ins.drop (j + 1)) = N.ins[j].lits ++ litsOf (N.ins.drop (j + 1)) from rfl, List.append_assoc]
theorem leftB_end (N : Nt) (rest : List Int) : leftB N rest N.ins.length = leftR N rest 0 := by simp [leftB, leftR, litsOf]
theorem leftR_next (N : Nt) (rest : List Int) {j : Nat} (hj : j < N.regs.length) : leftR N rest j = N.regs[j].q :: leftR N rest (j + 1) := by
  unfold leftR
  rw [List.drop_eq_getElem_cons hj, List.map_cons, List.cons_append]
theorem leftR_end (N : Nt) (rest : List Int) : leftR N rest N.regs.length = rest := by simp [leftR]
theorem leftB_left {N : Nt} {rest : List Int} (hg : Good N rest) : ∀ j, j ≤ N.ins.length → Left N.g (leftB N rest j) ∧ (leftB N rest j).length ≤ N.g.inputs.length := by
  intro j
  induction j with
  | zero =>
    intro _
    rw [leftB_zero]
    refine ⟨hg.left, ?_⟩
    have := hg.drv.length_eq
    unfold inLits at this
    rw [List.length_map] at this
    omega
  | succ j ih =>
    intro hj
    obtain ⟨h1, h2⟩ := ih (by omega)
    rw [leftB_next N rest (by omega)] at h1 h2
    refine ⟨h1.suffix, ?_⟩
    rw [List.length_append] at h2
    omega
theorem leftR_left {N : Nt} {rest : List Int} (hg : Good N rest) : ∀ j, j ≤ N.regs.length → Left N.g (leftR N rest j) ∧ (leftR N rest j).length ≤ N.g.inputs.length := by
  intro j
  induction j with
  | zero => intro _; rw [← leftB_end]; exact leftB_left hg _ (Nat.le_refl _)
  | succ j ih =>
    intro hj
    obtain ⟨h1, h2⟩ := ih (by omega)
    rw [leftR_next N rest (by omega)] at h1 h2
    refine ⟨h1.tail, ?_⟩
    rw [List.length_cons] at h2
    omega
/-- Behind the first k literals of bus j. -/
def leftD (N : Nt) (rest : List Int) (j k : Nat) : List Int := ((N.ins.getD j ⟨ByteArray.empty, []⟩).lits.drop k) ++ leftB N rest (j + 1)
theorem leftD_zero (N : Nt) (rest : List Int) {j : Nat} (hj : j < N.ins.length) : leftD N rest j 0 = leftB N rest j := by
  rw [leftB_next N rest hj]; simp [leftD, List.getD, hj]
theorem leftD_next (N : Nt) (rest : List Int) {j k : Nat} (hj : j < N.ins.length) (hk : k < N.ins[j].lits.length) : leftD N rest j k = N.ins[j].lits.getD k 0 :: leftD N rest j (k + 1) := by
  unfold leftD
  rw [show N.ins.getD j ⟨ByteArray.empty, []⟩ = N.ins[j] by simp [List.getD, hj], List.drop_eq_getElem_cons hk, List.cons_append]
  simp [List.getD, hk]
theorem leftD_end (N : Nt) (rest : List Int) {j : Nat} (hj : j < N.ins.length) : leftD N rest j N.ins[j].lits.length = leftB N rest (j + 1) := by
  unfold leftD
  rw [show N.ins.getD j ⟨ByteArray.empty, []⟩ = N.ins[j] by simp [List.getD, hj]]
  simp
theorem leftD_left {N : Nt} {rest : List Int} (hg : Good N rest) {j : Nat} (hj : j < N.ins.length) : ∀ k, k ≤ N.ins[j].lits.length → Left N.g (leftD N rest j k) ∧ (leftD N rest j k).length ≤ N.g.inputs.length := by
  intro k
  induction k with
  | zero => intro _; rw [leftD_zero N rest hj]; exact leftB_left hg j (by omega)
  | succ k ih =>
    intro hk
    obtain ⟨h1, h2⟩ := ih (by omega)
    rw [leftD_next N rest hj (by omega)] at h1 h2
    refine ⟨h1.tail, ?_⟩
    rw [List.length_cons] at h2
    omega
theorem leftB_full {N : Nt} {rest : List Int} (hg : Good N rest) : (leftB N rest 0).length = N.g.inputs.length := by
  rw [leftB_zero]
  have := hg.drv.length_eq
  unfold inLits at this
  rw [List.length_map] at this
  exact this
end Go.Proofs.Ytjdebancpgpebaa
