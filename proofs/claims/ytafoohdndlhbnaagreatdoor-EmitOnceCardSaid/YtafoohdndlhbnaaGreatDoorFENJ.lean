/-
  Each input once: open, and what it takes.
  open, Check.
  Copies of netlists.
-/
import Derived.Test.YtafoohdndlhbnaaGreatDoorFENI
import Derived.Test.YtafoohdndlhbnaaGreatDoorFENH
section
namespace Go.Proofs.YtafoohdndlhbnaaGreatDoor
open Go.RowKit Go.Maps Bits
set_option maxRecDepth 100000

/-- The free nodes, while they are taken. -/
structure Tk (w0 : World) (q : NPl) (n qn qf qt fb : Nat) (rest : List Int) (t : Int) (wr : World) : Prop where
  below : Below w0.heap.size w0 wr
  cn : wr.cell? ⟨qn, 0, none⟩ = some (.pointer (some ⟨q.b, 0, none⟩))
  cf : wr.cell? ⟨qf, 0, none⟩ = some (.slice (some ⟨fb, 0, none⟩) n n)
  ct : wr.cell? ⟨qt, 0, none⟩ = some (.int .i64 t)
  ft : wr.frozen? ⟨qt, 0, none⟩ = false
  free : wr.ownsRow w0.heap.size 4 1 (.slice (some ⟨fb, 0, none⟩) n n) n (freeL n rest)
  far : qn ≠ fb ∧ qf ≠ fb ∧ qt ≠ fb ∧ qn ≠ qt ∧ qf ≠ qt
  old : w0.heap.size ≤ qt
theorem Tk.step {w0 : World} {q : NPl} {n qn qf qt fb : Nat} {rest : List Int} {t : Int} {wr w2 : World} (h : Tk w0 q n qn qf qt fb rest t wr) (hb : Below wr.heap.size wr w2) : Tk w0 q n qn qf qt fb rest t w2 :=
  ⟨nextw h.below hb, stepc hb (World.block_lt_of_cell? wr _ h.cn) h.cn, stepc hb (World.block_lt_of_cell? wr _ h.cf) h.cf, stepc hb (World.block_lt_of_cell? wr _ h.ct) h.ct, ((bcell hb).2 _ _ (World.block_lt_of_cell? wr _ h.ct)).trans h.ft, own_below h.free hb, h.far, h.old⟩
theorem Tk.take {w0 : World} {q : NPl} {n qn qf qt fb k : Nat} {G : Gr} {rest : List Int} {t : Int} {wr : World} (h : Tk w0 q n qn qf qt fb (2 * (k : Int) :: rest) t wr) (hl : Left G (2 * (k : Int) :: rest)) : Tk w0 q n qn qf qt fb rest t (wr.setCell ⟨fb, k, none⟩ (.bool false)) := by
  obtain ⟨f1, f2, f3, f4, f5⟩ := h.far
  have hst := (h.free.stored k (.bool false)).1
  rw [freeL_take hl] at hst
  have hge := own_ge h.free fb rfl
  refine ⟨h.below.setCell hge _, ?_, ?_, ?_, ?_, hst, h.far, h.old⟩
  · have := h.cn; simp [go_sem]; exact this
  · have := h.cf; simp [go_sem]; exact this
  · have := h.ct; simp [go_sem]; exact this
  · have := h.ft; simp [go_sem]; exact this
theorem Tk.count {w0 : World} {q : NPl} {n qn qf qt fb : Nat} {rest : List Int} {t : Int} {wr : World} (h : Tk w0 q n qn qf qt fb rest t wr) (t' : Int) : Tk w0 q n qn qf qt fb rest t' (wr.setCell ⟨qt, 0, none⟩ (.int .i64 t')) := by
  obtain ⟨f1, f2, f3, f4, f5⟩ := h.far
  refine ⟨h.below.setCell h.old _, ?_, ?_, ?_, ?_, ?_, h.far, h.old⟩
  · have := h.cn; simp [go_sem]; exact this
  · have := h.cf; simp [go_sem]; exact this
  · obtain ⟨u, hu⟩ : ∃ u, wr.cell? ⟨qt, 0, none⟩ = some u := ⟨_, h.ct⟩
    simp [go_sem, hu]
  · have := h.ft; simp [go_sem]; exact this
  · have hf := h.free
    refine ⟨hf.1, ?_⟩
    rcases hf.2 with h0 | ⟨g, cap, cur, hv, hg, hh, r⟩
    · exact .inl h0
    · have e : g = fb := by simp at hv; exact hv.1.symm
      subst e
      exact .inr ⟨_, cap, cur, hv, hg, by rw [Below.heap_setCell _ _ _ _ (fun e => f3 e.symm)]; exact hh, r⟩
theorem row1 (w : World) (x : Int) (T : Nat) : Row .u32 (w.alloc (.cells #[.int .u32 x] T)) (some ⟨w.heap.size, 0, none⟩) 1 [x] := by
  refine ⟨rfl, by omega, .inr ⟨w.heap.size, 0, rfl, by simp, fun i hi => ?_⟩⟩
  match i, hi with
  | 0, _ => simp [go_sem]
  | i + 1, h => omega
set_option maxHeartbeats 2000000 in
theorem take_anyP {w0 wr : World} {q : NPl} {N : Nt} {l : List Int} (h : NetIs w0 q N) (hp : 0 < N.g.nodes.length) {qn qf qt fb k : Nat} {t : Nat} (hT : Tk w0 q N.g.nodes.length qn qf qt fb (2 * (k : Int) :: l) t wr) (hl : Left N.g (2 * (k : Int) :: l)) (ht : t ≤ 1000000) (hm : N.g.nodes.length ≤ 200000) :
    Calls Tryz.prog 126 #[.int .u32 (2 * (k : Int)), .pointer (some ⟨qn, 0, none⟩), .pointer (some ⟨qf, 0, none⟩), .pointer (some ⟨qt, 0, none⟩)] wr fun e w' => e = .returned (.bool true) ∧ Tk w0 q N.g.nodes.length qn qf qt fb l (t + 1 : Nat) w' := by
  obtain ⟨i, hi, h0, hin⟩ := hl.lit (2 * (k : Int)) (by simp)
  obtain rfl : i = k := by omega
  have hx : IsLit (2 * (i : Int)) := by unfold IsLit; omega
  have htu := Lib.hid (fun w => turned_any (2 * (i : Int)) hx w)
  have htv : turnV (2 * (i : Int)) = false := by unfold turnV; rw [show (2 * (i : Int)) % 2 = 0 by omega]; rfl
  rw [htv] at htu
  have hnd := Lib.hid (fun w => (show Calls Tryz.prog 128 #[.int .u32 (2 * (i : Int))] w fun e w' => e = .returned (.int .i64 (i : Int)) ∧ w = w' by have := node_any (2 * (i : Int)) hx w; rw [show 2 * (i : Int) / 2 = i by omega] at this; exact this))
  have hba : Below wr.heap.size wr (wr.alloc (.cells #[.int .u32 (2 * (i : Int))] 66)).drew := ((Below.refl wr.heap.size wr).alloc (Nat.le_refl _) _).drew
  have hhas := Lib.hid (show Calls Tryz.prog 124 #[.pointer (some ⟨q.b, 0, none⟩), .slice (some ⟨wr.heap.size, 0, none⟩) 1 1] (wr.alloc (.cells #[.int .u32 (2 * (i : Int))] 66)).drew fun e w' => e = .returned (.bool true) ∧ Below (wr.alloc (.cells #[.int .u32 (2 * (i : Int))] 66)).drew.heap.size (wr.alloc (.cells #[.int .u32 (2 * (i : Int))] 66)).drew w' from by
    have hb3 := nextw hT.below hba
    have := has_any (h.below hb3) hp (c := 1) ((row1 wr (2 * (i : Int)) 66).step ((Below.refl _ _).drew)) (by intro y hy; simp at hy; subst hy; exact hx)
    rw [allHas_of (G := N.g) (l := [2 * (i : Int)]) (by intro y hy; simp at hy; subst hy; exact ⟨hx, by omega⟩)] at this
    exact this)
  have hba := Lib.hid hba
  have hS := Lib.hid (fun w2 (hb2 : Below wr.heap.size wr w2) => hT.step hb2)
  have hfin := Lib.hid (fun w2 (h2 : Tk w0 q N.g.nodes.length qn qf qt fb (2 * (i : Int) :: l) t w2) => (h2.take hl))
  have hcell := Lib.hid (fun w2 (h2 : Tk w0 q N.g.nodes.length qn qf qt fb (2 * (i : Int) :: l) t w2) => (show w2.cell? ⟨fb, i, none⟩ = some (.bool true) ∧ w2.frozen? ⟨fb, i, none⟩ = false from ⟨by rw [h2.free.cellAt i (by omega), freeL_at _ _ hin, freeB_head], h2.free.frozenAt i⟩))
  have hcnt := Lib.hid (fun w2 (h2 : Tk w0 q N.g.nodes.length qn qf qt fb l t w2) => (show w2.cell? ⟨qt, 0, none⟩ = some (.int .i64 t) ∧ w2.frozen? ⟨qt, 0, none⟩ = false ∧ Tk w0 q N.g.nodes.length qn qf qt fb l (t + 1 : Nat) (w2.setCell ⟨qt, 0, none⟩ (.int .i64 ((t : Int) + 1))) from ⟨h2.ct, h2.ft, h2.count _⟩))
  have c0 := hT.cn
  have c1 := hT.cf
  obtain ⟨c3, c4⟩ := hcell.out _ hT
  have l0 := World.block_lt_of_cell? wr _ c0
  have l1 := World.block_lt_of_cell? wr _ c1
  have l3 := World.block_lt_of_cell? wr _ c3
  simp only [] at l0 l1 l3
  have hwr := Lib.hid (Below.refl wr.heap.size wr)
  clear h hp hT hl htv hx hi
  generalize N.g.nodes.length = n at *
  go_enter Tryz.func126, Tryz.ntmps126
  go_upto_region 1 with fail
  generalize hxx : 2 * (i : Int) = x at *
  clear hxx
  go_region_law (first
    | (go_simp; go_at_call 127; (with_reducible refine (htu.out _).mono ?_); rintro e w5 ⟨rfl, rfl⟩)
    | (go_simp; go_at_call 128; (with_reducible refine (hnd.out _).mono ?_); rintro e w5 ⟨rfl, rfl⟩)
    | (go_simp; go_at_call 124; (with_reducible refine hhas.out.mono ?_); rintro e w6 ⟨rfl, hb6⟩; have hb7 := nextw hba.out hb6; have d0 := stepc hb7 l0 c0; have d1 := stepc hb7 l1 c1; have d3 := stepc hb7 l3 c3; have hb7 := Lib.hid hb7))
  all_goals simp only [List.getElem_toArray, List.getElem_cons_succ, List.getElem_cons_zero, Act.put, List.setIfInBounds_toArray, List.set_cons_succ, List.set_cons_zero]
  all_goals
    have hT6 := hS.out _ hb7.out
    obtain ⟨-, m4⟩ := hcell.out _ hT6
    have hT7 := hfin.out _ hT6
    have hT8 := Lib.hid (hT7.step (Below.refl _ _).drew)
    have m1 := hT7.ct
    have m2 := hT7.ft
    clear hT6 hT7 hb6 c0 c1 c3 c4 d0 hS hfin hcell hwr hhas hba htu
    go_wp2
    go_region_law (go_simp; go_at_call 128; (with_reducible refine (hnd.out _).mono ?_); rintro e w5 ⟨rfl, rfl⟩)
    all_goals go_wp2
    all_goals go_ret
    all_goals exact ⟨rfl, (hcnt.out _ hT8.out).2.2⟩
theorem take_litP {w0 wr : World} {q : NPl} {N : Nt} {l : List Int} (h : NetIs w0 q N) (hp : 0 < N.g.nodes.length) {qn qf qt fb : Nat} {x : Int} {t : Nat} (hT : Tk w0 q N.g.nodes.length qn qf qt fb (x :: l) t wr) (hl : Left N.g (x :: l)) (ht : t ≤ 1000000) (hm : N.g.nodes.length ≤ 200000) :
    Calls Tryz.prog 126 #[.int .u32 x, .pointer (some ⟨qn, 0, none⟩), .pointer (some ⟨qf, 0, none⟩), .pointer (some ⟨qt, 0, none⟩)] wr fun e w' => e = .returned (.bool true) ∧ Tk w0 q N.g.nodes.length qn qf qt fb l (t + 1 : Nat) w' := by
  obtain ⟨k, hk, h0, hin⟩ := hl.lit x (by simp)
  subst hk
  exact take_anyP h hp hT hl ht hm
theorem take_lit {w0 wr : World} {q : NPl} {N : Nt} {rest : List Int} {l : List Int} (h : NetIs w0 q N) (hg : Good N rest) {qn qf qt fb : Nat} {x : Int} {t : Nat} (hT : Tk w0 q N.g.nodes.length qn qf qt fb (x :: l) t wr) (hl : Left N.g (x :: l)) (ht : t ≤ 1000000) (hm : N.g.nodes.length ≤ 200000) :
    Calls Tryz.prog 126 #[.int .u32 x, .pointer (some ⟨qn, 0, none⟩), .pointer (some ⟨qf, 0, none⟩), .pointer (some ⟨qt, 0, none⟩)] wr fun e w' => e = .returned (.bool true) ∧ Tk w0 q N.g.nodes.length qn qf qt fb l (t + 1 : Nat) w' :=
  take_litP h hg.wf.pos hT hl ht hm

/-- The free nodes, while they are marked. -/
structure Mk (w0 : World) (q : NPl) (n qn qf fb : Nat) (ia : Option Addr) (m ic : Nat) (I l : List Int) (wr : World) : Prop where
  below : Below w0.heap.size w0 wr
  cn : wr.cell? ⟨qn, 0, none⟩ = some (.pointer (some ⟨q.b, 0, none⟩))
  cf : wr.cell? ⟨qf, 0, none⟩ = some (.slice (some ⟨fb, 0, none⟩) n n)
  free : wr.ownsRow w0.heap.size 4 1 (.slice (some ⟨fb, 0, none⟩) n n) n (freeL n l)
  ins : wr.ownsRow w0.heap.size 3 1 (.slice ia m ic) m (I.map (Value.int .i64))
  far : qn ≠ fb ∧ qf ≠ fb
theorem Mk.mark {w0 wr : World} {q : NPl} {n qn qf fb : Nat} {ia : Option Addr} {m ic : Nat} {I : List Int} {j i : Nat} (h : Mk w0 q n qn qf fb ia m ic I (marked I j) wr) (hi : I[j]? = some (i : Int)) :
    Mk w0 q n qn qf fb ia m ic I (marked I (j + 1)) (wr.setCell ⟨fb, i, none⟩ (.bool true)) := by
  obtain ⟨f1, f2⟩ := h.far
  have hst := (h.free.stored i (.bool true)).1
  rw [freeL_mark n I hi] at hst
  have hge := own_ge h.free fb rfl
  refine ⟨h.below.setCell hge _, ?_, ?_, hst, ?_, h.far⟩
  · have := h.cn; simp [go_sem]; exact this
  · have := h.cf; simp [go_sem]; exact this
  · obtain ⟨c, hc⟩ := own_type h.free (k := fb) rfl
    have hk : Kept (fun k => k = fb) wr (wr.setCell ⟨fb, i, none⟩ (.bool true)) := ⟨rfl, rfl, rfl, by simp [World.setCell], fun k _ hn => Below.heap_setCell _ _ _ _ hn⟩
    refine own_keptF h.ins hk (fun k e hf => ?_)
    subst hf
    obtain ⟨c2, hc2⟩ := own_type h.ins e
    rw [hc] at hc2
    simp at hc2
theorem Mk.tk {w0 wr : World} {q : NPl} {n qn qf fb : Nat} {ia : Option Addr} {m ic : Nat} {I l l2 : List Int} (h : Mk w0 q n qn qf fb ia m ic I l wr) (hp : freeL n l = freeL n l2) :
    Tk w0 q n qn qf wr.heap.size fb l2 0 (wr.alloc (.cells #[.int .i64 0] 3)) := by
  have hb : Below wr.heap.size wr (wr.alloc (.cells #[.int .i64 0] 3)) := (Below.refl _ _).alloc (Nat.le_refl _) _
  have l1 := World.block_lt_of_cell? wr _ h.cn
  have l2' := World.block_lt_of_cell? wr _ h.cf
  have l3 := own_lt h.free
  simp only [] at l1 l2'
  refine ⟨nextw h.below hb, stepc hb l1 h.cn, stepc hb l2' h.cf, by simp [go_sem], by simp [go_sem], by rw [← hp]; exact own_below h.free hb, ⟨h.far.1, h.far.2, by omega, by omega, by omega⟩, h.below.size⟩
theorem made_free (n : Nat) : (madeCells (Value.bool false).cells (n * 1)).toList = freeL n [] := by
  rw [freeL_none, Nat.mul_one]
  exact toList_madeCells_one _ _
theorem info_boolO : (Tryz.prog.info? 4).map (fun i => (i.zero, i.size, i.bytes)) = some (some (.bool false), 1, 1) := by kernel_rfl
/-- What is still to be taken behind the first j buses; behind those and the first i literals of the next. -/
def leftB (N : Nt) (rest : List Int) (j : Nat) : List Int := litsOf (N.ins.drop j) ++ (N.regs.map (fun r => r.q) ++ rest)
def leftR (N : Nt) (rest : List Int) (j : Nat) : List Int := (N.regs.drop j).map (fun r => r.q) ++ rest
theorem leftB_zero (N : Nt) (rest : List Int) : leftB N rest 0 = takenN N ++ rest := by simp [leftB, takenN]
theorem leftB_next (N : Nt) (rest : List Int) {j : Nat} (hj : j < N.ins.length) : leftB N rest j = N.ins[j].lits ++ leftB N rest (j + 1) := by
  unfold leftB
  rw [List.drop_eq_getElem_cons hj, show litsOf (N.ins[j] :: N.ins.drop (j + 1)) = N.ins[j].lits ++ litsOf (N.ins.drop (j + 1)) from rfl, List.append_assoc]
theorem leftB_end (N : Nt) (rest : List Int) : leftB N rest N.ins.length = leftR N rest 0 := by simp [leftB, leftR, litsOf]
theorem leftR_next (N : Nt) (rest : List Int) {j : Nat} (hj : j < N.regs.length) : leftR N rest j = N.regs[j].q :: leftR N rest (j + 1) := by
  unfold leftR
  rw [List.drop_eq_getElem_cons hj, List.map_cons, List.cons_append]
theorem leftR_end (N : Nt) (rest : List Int) : leftR N rest N.regs.length = rest := by simp [leftR]
theorem leftB_left {N : Nt} {rest : List Int} (hg : Good N rest) : ∀ j, j ≤ N.ins.length → Left N.g (leftB N rest j) ∧ (leftB N rest j).length ≤ N.g.inputs.length := by
  intro j
  induction j with
  | zero =>
    intro _
    rw [leftB_zero]
    refine ⟨hg.left, ?_⟩
    have := hg.drv.length_eq
    unfold inLits at this
    rw [List.length_map] at this
    omega
  | succ j ih =>
    intro hj
    obtain ⟨h1, h2⟩ := ih (by omega)
    rw [leftB_next N rest (by omega)] at h1 h2
    refine ⟨h1.suffix, ?_⟩
    rw [List.length_append] at h2
    omega
theorem leftR_left {N : Nt} {rest : List Int} (hg : Good N rest) : ∀ j, j ≤ N.regs.length → Left N.g (leftR N rest j) ∧ (leftR N rest j).length ≤ N.g.inputs.length := by
  intro j
  induction j with
  | zero => intro _; rw [← leftB_end]; exact leftB_left hg _ (Nat.le_refl _)
  | succ j ih =>
    intro hj
    obtain ⟨h1, h2⟩ := ih (by omega)
    rw [leftR_next N rest (by omega)] at h1 h2
    refine ⟨h1.tail, ?_⟩
    rw [List.length_cons] at h2
    omega
/-- Behind the first k literals of bus j. -/
def leftD (N : Nt) (rest : List Int) (j k : Nat) : List Int := ((N.ins.getD j ⟨ByteArray.empty, []⟩).lits.drop k) ++ leftB N rest (j + 1)
theorem leftD_zero (N : Nt) (rest : List Int) {j : Nat} (hj : j < N.ins.length) : leftD N rest j 0 = leftB N rest j := by
  rw [leftB_next N rest hj]; simp [leftD, List.getD, hj]
theorem leftD_next (N : Nt) (rest : List Int) {j k : Nat} (hj : j < N.ins.length) (hk : k < N.ins[j].lits.length) : leftD N rest j k = N.ins[j].lits.getD k 0 :: leftD N rest j (k + 1) := by
  unfold leftD
  rw [show N.ins.getD j ⟨ByteArray.empty, []⟩ = N.ins[j] by simp [List.getD, hj], List.drop_eq_getElem_cons hk, List.cons_append]
  simp [List.getD, hk]
theorem leftD_end (N : Nt) (rest : List Int) {j : Nat} (hj : j < N.ins.length) : leftD N rest j N.ins[j].lits.length = leftB N rest (j + 1) := by
  unfold leftD
  rw [show N.ins.getD j ⟨ByteArray.empty, []⟩ = N.ins[j] by simp [List.getD, hj]]
  simp
theorem leftD_left {N : Nt} {rest : List Int} (hg : Good N rest) {j : Nat} (hj : j < N.ins.length) : ∀ k, k ≤ N.ins[j].lits.length → Left N.g (leftD N rest j k) ∧ (leftD N rest j k).length ≤ N.g.inputs.length := by
  intro k
  induction k with
  | zero => intro _; rw [leftD_zero N rest hj]; exact leftB_left hg j (by omega)
  | succ k ih =>
    intro hk
    obtain ⟨h1, h2⟩ := ih (by omega)
    rw [leftD_next N rest hj (by omega)] at h1 h2
    refine ⟨h1.tail, ?_⟩
    rw [List.length_cons] at h2
    omega
theorem leftB_full {N : Nt} {rest : List Int} (hg : Good N rest) : (leftB N rest 0).length = N.g.inputs.length := by
  rw [leftB_zero]
  have := hg.drv.length_eq
  unfold inLits at this
  rw [List.length_map] at this
  exact this
end Go.Proofs.YtafoohdndlhbnaaGreatDoor
end

section
namespace Go.Proofs.YtafoohdndlhbnaaGreatDoor
open Go.RowKit Go.Maps Bits
set_option maxRecDepth 100000

set_option maxHeartbeats 4000000 in
theorem open_any {w : World} {q : NPl} {N : Nt} {rest : List Int} (h : NetIs w q N) (hg : Good N rest) (hm : N.g.nodes.length ≤ 190000) :
    Calls Tryz.prog 52 #[.pointer (some ⟨q.b, 0, none⟩)] w fun e w' => e = .returned (.tuple #[.int .i64 rest.length, .bool true]) ∧ Below w.heap.size w w' := by
  have hb1 : Below w.heap.size w (w.alloc (.cells #[.pointer (some ⟨q.b, 0, none⟩)] 25)) := (Below.refl _ _).alloc (Nat.le_refl _) _
  have hz1 : (w.alloc (.cells #[.pointer (some ⟨q.b, 0, none⟩)] 25)).heap.size = w.heap.size + 1 := by simp
  have k0 : (w.alloc (.cells #[.pointer (some ⟨q.b, 0, none⟩)] 25)).cell? ⟨w.heap.size, 0, none⟩ = some (.pointer (some ⟨q.b, 0, none⟩)) := by simp [go_sem]
  have h1 := h.below hb1
  obtain ⟨ia, ic, ra, rc, oa, oc, e1, e2, e3, a0, -, a2, a3, -, -⟩ := h.cells
  have hqlt := h.lt
  have c0 := stepc hb1 hqlt a0
  have hlt := h1.lt
  have hcn := hg.wf.cnt
  have hin := Lib.hid (InputsOf_any h1.g hg.wf (by omega))
  have hnd := Lib.hid (fun w2 (hb : Below (w.alloc (.cells #[.pointer (some ⟨q.b, 0, none⟩)] 25)).heap.size (w.alloc (.cells #[.pointer (some ⟨q.b, 0, none⟩)] 25)) w2) => nodes_any (h1.g.below hb).lay hg.wf.pos)
  have htk := Lib.hid (fun (wr : World) (qn qf qt fb : Nat) (x : Int) (l : List Int) (t : Nat) (hT : Tk w q N.g.nodes.length qn qf qt fb (x :: l) t wr) (hl : Left N.g (x :: l)) (ht : t ≤ 1000000) => take_lit h hg hT hl ht (by omega))
  have hI := Lib.hid (show BusRow w (.slice ia N.ins.length ic) N.ins by have := h.ins; rw [e1] at this; exact this)
  have hR := Lib.hid (show RegRow w (.slice ra N.regs.length rc) N.regs by have := h.regs; rw [e2] at this; exact this)
  have hleI : N.ins.length ≤ 9223372036854775807 := by obtain ⟨K, hK⟩ := h.ins; exact own_maxLen hK.own
  have hleR : N.regs.length ≤ 9223372036854775807 := own_maxLen h.regs
  have hLR := Lib.hid (leftR_left hg)
  have hLD := Lib.hid (fun (j : Nat) (hj : j < N.ins.length) => leftD_left hg hj)
  have hL0 := Lib.hid (fun (j : Nat) (hj : j < N.ins.length) => leftD_zero N rest hj)
  have hL1 := Lib.hid (fun (j k : Nat) (hj : j < N.ins.length) (hk : k < N.ins[j].lits.length) => leftD_next N rest hj hk)
  have hL2 := Lib.hid (fun (j : Nat) (hj : j < N.ins.length) => leftD_end N rest hj)
  have hL3 := Lib.hid (leftB_end N rest)
  have hR1 := Lib.hid (fun (j : Nat) (hj : j < N.regs.length) => leftR_next N rest hj)
  have hR2 := Lib.hid (leftR_end N rest)
  have hfull := Lib.hid (leftB_full hg)
  have hmark : Hid (∀ j, j < N.g.inputs.length → ∃ i : Nat, N.g.inputs[j]? = some (i : Int) ∧ i < N.g.nodes.length) := Lib.hid (fun j hj => by
    obtain ⟨i, e, _, n, hn, _⟩ := hg.wf.ins j _ (List.getElem?_eq_getElem hj)
    exact ⟨i, by rw [List.getElem?_eq_getElem hj, e], (List.getElem?_eq_some_iff.1 hn).1⟩)
  have hperm : Hid (freeL N.g.nodes.length (marked N.g.inputs N.g.inputs.length) = freeL N.g.nodes.length (leftB N rest 0)) := Lib.hid (by
    rw [leftB_zero]
    unfold marked
    rw [List.take_length]
    exact (freeL_perm _ hg.drv).symm)
  obtain ⟨i0, hi, hz0, hz2, hz3⟩ := info_parts info_boolO
  have HI := Lib.hid (made_free N.g.nodes.length)
  have hlen := hg.drv.length_eq
  unfold inLits at hlen
  rw [List.length_map, List.length_append] at hlen
  have hrl : rest.length ≤ N.g.inputs.length := by omega
  obtain ⟨ni, hni0⟩ : ∃ ni, N.ins.length = ni := ⟨_, rfl⟩
  obtain ⟨nr, hnr0⟩ : ∃ nr, N.regs.length = nr := ⟨_, rfl⟩
  rw [hni0] at a2 hI hleI hL3
  rw [hnr0] at a3 hR hleR hR2
  have hni := Lib.hid hni0
  have hnr := Lib.hid hnr0
  clear h h1 hg hlen e1 e2 e3 hni0 hnr0
  generalize hw1 : w.alloc (.cells #[.pointer (some ⟨q.b, 0, none⟩)] 25) = w1 at *
  generalize hnn : N.g.nodes.length = n at *
  generalize hnI : N.g.inputs = I at *
  generalize hmm : I.length = m at *
  have hmm := Lib.hid hmm
  clear hnn hnI
  go_enter Tryz.func52, Tryz.ntmps52
  go_wp2_with (first
    | (go_at_call 125; (with_reducible refine hin.out.mono ?_); rintro e w2 ⟨na, nc, rfl, hio, hb2⟩; have d0 := stepc hb2 hlt c0; have kk := stepc hb2 (by omega) k0; have hn2 := Lib.hid (hnd.out _ hb2); have hio := Lib.hid hio; have hB2 := Lib.hid (nextw hb1 hb2); clear hin hnd)
    | (go_at_call 21; (with_reducible refine hn2.out.mono ?_); rintro e w3 ⟨rfl, rfl⟩)
    | (at_make; refine wpList_make_full _ rfl _ _ 205 rfl w2.heap.size 4 i0 (.bool false) 1 Tryz.underlying205 hi hz0 hz2 .i64 .i64 n n n rfl rfl rfl rfl (by rw [hz3]; omega) (by unfold maxLen; omega) (Nat.le_refl _) ?_; intro w5 hown hgr))
  have hb25 : Below w2.heap.size w2 w5 := (Below.refl w2.heap.size w2).grown hgr (Nat.le_refl _) (fun _ h => by cases h)
  have hba : Below w5.heap.size w5 (w5.alloc (.cells #[.slice (some ⟨w2.heap.size, 0, none⟩) n n] 205)) := (Below.refl _ _).alloc (Nat.le_refl _) _
  rw [HI.out] at hown
  have hl5 := own_lt hown
  have hs2 := hb2.size
  have hs25 := hb25.size
  have hMk : Hid (Mk w q n w.heap.size w5.heap.size w2.heap.size na m nc I (marked I 0) (w5.alloc (.cells #[.slice (some ⟨w2.heap.size, 0, none⟩) n n] 205))) := Lib.hid ⟨nextw (nextw hB2.out hb25) hba, stepc hba (by omega) (stepc hb25 (by omega) kk), by simp [go_sem], own_base (own_below hown hba) (by omega), own_base (own_below (own_below hio.out hb25) hba) (by omega), by omega, by omega⟩
  clear HI hown hgr hio hb25 hba hb2 hB2 hn2 d0 kk k0 hi hz0 hz2 hz3 c0
  generalize w2.heap.size = fb at *
  generalize w5.heap.size = qf at *
  generalize hqn : w.heap.size = qn at *
  have hm2 : m ≤ 190000 := by omega
  go_loopw [29] (fun i wr => ∃ j : Nat, j ≤ m ∧ i = .int .i64 j ∧ Hid (Mk w q n qn qf fb na m nc I (marked I j) wr)) (fun i _ => m - (intOf i).toNat)
  case atStart => exact ⟨0, Nat.zero_le _, rfl, hMk⟩
  case round =>
    clear hMk
    obtain ⟨j, hj, rfl, hF⟩ := hrel
    have f1 := hF.out.cf
    by_cases hlt : j < m
    · obtain ⟨i, hIj, hin⟩ := hmark.out j hlt
      obtain ⟨gi, cap, e⟩ := own_form hF.out.ins (by omega)
      simp only [Value.slice.injEq] at e
      obtain ⟨rfl, -, -⟩ := e
      have b0 : wr.cell? ⟨gi, j, none⟩ = some (.int .i64 i) := by rw [hF.out.ins.cellAt j (by omega)]; simp [hIj]
      obtain ⟨u, hu⟩ := own_some hF.out.free hin
      have hfz := hF.out.free.frozenAt i
      have hnx := Lib.hid (hF.out.mark hIj)
      clear hF hmark
      go_wp2
      exact ⟨⟨j + 1, by omega, by go_num, hnx⟩, by simp [intOf]; omega⟩
    · obtain rfl : j = m := by omega
      have hT := Lib.hid (hF.out.tk hperm.out)
      have hins := Lib.hid hF.out.ins
      clear hmark hperm hF
      have k1 := hT.out.cn
      have k2 := stepc hT.out.below (by omega) a2
      have hT0 : Hid (Tk w q n qn qf wr.heap.size fb (leftB N rest 0) ((j - (leftB N rest 0).length : Nat) : Int) (wr.alloc (.cells #[.int .i64 0] 3))) := Lib.hid (by rw [hfull.out, Nat.sub_self]; exact hT.out)
      clear hT hfull hins
      obtain ⟨wz, rfl⟩ : ∃ wz : World, wz = wr := ⟨_, rfl⟩
      generalize leftB N rest = LB at *
      generalize leftR N rest = LR at *
      go_wp2
      go_loopw [43] (fun i wr => ∃ i' : Nat, i' ≤ ni ∧ i = .int .i64 i' ∧ Hid (Tk w q n qn qf wz.heap.size fb (LB i') ((j - (LB i').length : Nat) : Int) wr)) (fun i _ => ni - (intOf i).toNat)
      case atStart => exact ⟨0, Nat.zero_le _, rfl, hT0⟩
      case round =>
        clear hT0
        obtain ⟨i, hi, rfl, hT⟩ := hrel
        by_cases hlt : i < ni
        · have hiL : i < N.ins.length := by rw [hni.out]; exact hlt
          obtain ⟨g2, la, lc, rfl, hgl, b0, b1, hr⟩ := hI.out.at hiL
          have hgl2 : g2 < qn := by omega
          have d0 := stepc hT.out.below hgl b0
          have d1 := stepc hT.out.below hgl b1
          have hT2 : Hid (Tk w q n qn qf wz.heap.size fb (leftD N rest i 0) ((j - (leftD N rest i 0).length : Nat) : Int) (wr.alloc (.cells #[.string N.ins[i].name, .slice la N.ins[i].lits.length lc] 71))) := Lib.hid (by rw [hL0.out i hiL]; exact hT.out.step ((Below.refl _ _).alloc (Nat.le_refl _) _))
          have hD := Lib.hid (hLD.out i hiL)
          have hD1 := Lib.hid (fun k => hL1.out i k hiL)
          have hD2 := Lib.hid (hL2.out i hiL)
          have hr := Lib.hid hr.row
          have hle := hr.out.le
          clear hT b0 b1
          generalize hB : N.ins[i] = B at *
          clear hB
          generalize leftD N rest i = LD at *
          generalize hll : B.lits.length = ll at *
          clear hll
          generalize B.name = nm at *
          go_wp2
          go_loopw [50] (fun s wr => ∃ k : Nat, k ≤ ll ∧ s = .int .i64 k ∧ Hid (Tk w q n qn qf wz.heap.size fb (LD k) ((j - (LD k).length : Nat) : Int) wr)) (fun s _ => ll - (intOf s).toNat)
          case atStart => exact ⟨0, Nat.zero_le _, rfl, hT2⟩
          case round =>
            clear hT2 d0 d1
            obtain ⟨k, hk, rfl, hT⟩ := hrel
            by_cases hkl : k < ll
            · obtain ⟨b, off, rfl, hb, hc⟩ := hr.out.at (by omega)
              have c1 := stepc hT.out.below hb (hc k hkl)
              obtain ⟨hl1, hl2⟩ := hD.out k hk
              have e := hD1.out k hkl
              have hT := hT.out
              rw [e] at hl1 hl2 hT
              have htt := Lib.hid (htk.out _ _ _ _ _ _ _ _ hT hl1 (by omega))
              have hcnt : j - (B.lits.getD k 0 :: LD (k + 1)).length + 1 = j - (LD (k + 1)).length := by
                rw [List.length_cons] at hl2 ⊢; omega
              rw [hcnt] at htt
              clear hT hl1 e hcnt hc
              generalize B.lits.getD k 0 = x at *
              go_wp2_with (go_at_call 126; (with_reducible refine htt.out.mono ?_); rintro e w7 ⟨rfl, hT7⟩; have hT7 := Lib.hid hT7)
              exact ⟨⟨k + 1, by omega, by go_num, hT7⟩, by simp [intOf]; omega⟩
            · obtain rfl : k = ll := by omega
              rw [hD2.out] at hT
              go_wp2
              exact ⟨⟨i + 1, by omega, by go_num, hT⟩, by simp [intOf]; omega⟩
        · obtain rfl : i = ni := by omega
          rw [hL3.out] at hT
          have k1 := hT.out.cn
          have k3 := stepc hT.out.below (by omega) a3
          clear hL0 hL1 hL2 hL3 hLD hI a2
          go_wp2
          go_loopw [65] (fun i wr => ∃ i' : Nat, i' ≤ nr ∧ i = .int .i64 i' ∧ Hid (Tk w q n qn qf wz.heap.size fb (LR i') ((j - (LR i').length : Nat) : Int) wr)) (fun i _ => nr - (intOf i).toNat)
          case atStart => exact ⟨0, Nat.zero_le _, rfl, hT⟩
          case round =>
            clear hT k1 k3
            obtain ⟨i, hi, rfl, hT⟩ := hrel
            by_cases hlt : i < nr
            · have hiL : i < N.regs.length := by rw [hnr.out]; exact hlt
              obtain ⟨g2, rfl, hgl, b0, b1, b2, b3⟩ := hR.out.at hiL
              have d0 := stepc hT.out.below hgl b0
              have d1 := stepc hT.out.below hgl b1
              have d2 := stepc hT.out.below hgl b2
              have d3 := stepc hT.out.below hgl b3
              obtain ⟨hl1, hl2⟩ := hLR.out i (by rw [hnr.out]; omega)
              have e := hR1.out i hiL
              have hT := hT.out
              rw [e] at hl1 hl2 hT
              have hT2 := hT.step ((Below.refl wr.heap.size wr).alloc (Nat.le_refl _) (.cells #[.int .u32 N.regs[i].q, .int .u32 N.regs[i].d, .int .u32 N.regs[i].en, .bool N.regs[i].init] 68))
              have htt := Lib.hid (htk.out _ _ _ _ _ _ _ _ hT2 hl1 (by omega))
              have hcnt : j - (N.regs[i].q :: LR (i + 1)).length + 1 = j - (LR (i + 1)).length := by
                rw [List.length_cons] at hl2 ⊢; omega
              rw [hcnt] at htt
              clear hT hT2 hl1 e hcnt b0 b1 b2 b3
              generalize N.regs[i] = r at *
              obtain ⟨rq, rd, re, ri⟩ := r
              simp only [] at d0 d1 d2 d3 htt
              go_wp2_with (go_at_call 126; (with_reducible refine htt.out.mono ?_); rintro e w7 ⟨rfl, hT7⟩; have hT7 := Lib.hid hT7)
              exact ⟨⟨i + 1, by omega, by go_num, hT7⟩, by simp [intOf]; omega⟩
            · obtain rfl : i = nr := by omega
              rw [hR2.out] at hT
              have kt := hT.out.ct
              have hcc : (j : Int) - ((j - rest.length : Nat) : Int) = rest.length := by omega
              generalize ((j - rest.length : Nat) : Int) = tt at *
              go_wp2
              go_ret2
              exact ⟨by rw [← hcc]; rfl, hT.out.below⟩
def ckV (rest : List Int) : Int := if rest.length = 0 then 0 else 37
set_option maxHeartbeats 2000000 in
theorem Check_any {w : World} {q : NPl} {N : Nt} {rest : List Int} (h : NetIs w q N) (hg : Good N rest) (hm : N.g.nodes.length ≤ 190000) (hi : N.ins.length ≤ 10000) (hr : N.regs.length ≤ 10000) (ho : N.outs.length ≤ 10000) :
    Calls Tryz.prog 17 #[.pointer (some ⟨q.b, 0, none⟩)] w fun e w' => e = .returned (.int .i64 (ckV rest)) ∧ Below w.heap.size w w' := by
  have hst := Lib.hid (nstands_any h hg.wf.pos)
  obtain ⟨ia, ic, ra, rc, oa, oc, e1, e2, e3, a0, a1, a2, a3, a4, -⟩ := h.cells
  have hlt := h.lt
  have hmn := Lib.hid (fun w => MayName_any N.name w)
  rw [hg.name] at hmn
  have hbI := Lib.hid (fun w2 (hb : Below w.heap.size w w2) => mayBe_any (by have := h.ins.below hb; rw [e1] at this; exact this) rfl hg.ins hi)
  have hbO := Lib.hid (fun w2 (hb : Below w.heap.size w w2) => mayBe_any (by have := h.outs.below hb; rw [e3] at this; exact this) rfl hg.outs ho)
  have hle := Lib.hid (fun w2 (hb : Below w.heap.size w w2) => leansWell_any (h.below hb) hg)
  have hop := Lib.hid (fun w2 (hb : Below w.heap.size w w2) => open_any (h.below hb) hg hm)
  have g0 : decide (16384 < (N.regs.length : Int)) = false := by simp; omega
  clear h hg e1 e2 e3 hm
  generalize N.ins.length = ni at *
  generalize N.regs.length = nr at *
  generalize N.outs.length = no at *
  generalize N.name = nm at *
  unfold ckV
  generalize rest.length = rl at *
  by_cases hz : rl = 0
  · subst hz
    rw [if_pos rfl]
    go_enter Tryz.func17, Tryz.ntmps17
    go_wp2_with (first
      | (go_at_call 48; (with_reducible refine hst.out.mono ?_); rintro e w2 ⟨rfl, rfl⟩)
      | (go_at_call 49; (with_reducible refine (hmn.out _).mono ?_); rintro e w2 ⟨rfl, hb2⟩; have b2 := stepc hb2 hlt a2; have b3 := stepc hb2 hlt a3; have b4 := stepc hb2 hlt a4; have B := Lib.hid hb2; clear hb2)
      | (go_at_call 50; (with_reducible refine (hbI.out _ B.out).mono ?_); rintro e w3 ⟨rfl, hb3⟩; have b3 := stepc hb3 (Nat.lt_of_lt_of_le hlt B.out.size) b3; have b4 := stepc hb3 (Nat.lt_of_lt_of_le hlt B.out.size) b4; have B := Lib.hid (nextw B.out hb3); clear hb3)
      | (go_at_call 50; (with_reducible refine (hbO.out _ B.out).mono ?_); rintro e w3 ⟨rfl, hb3⟩; have b3 := stepc hb3 (Nat.lt_of_lt_of_le hlt B.out.size) b3; have B := Lib.hid (nextw B.out hb3); clear hb3)
      | (go_at_call 51; (with_reducible refine (hle.out _ B.out).mono ?_); rintro e w3 ⟨rfl, hb3⟩; have B := Lib.hid (nextw B.out hb3); clear hb3)
      | (go_at_call 52; (with_reducible refine (hop.out _ B.out).mono ?_); rintro e w3 ⟨rfl, hb3⟩; have B := Lib.hid (nextw B.out hb3); clear hb3))
    go_ret
    exact ⟨rfl, B.out⟩
  · rw [if_neg hz]
    have g1 : decide (0 < (rl : Int)) = true := by simp; omega
    go_enter Tryz.func17, Tryz.ntmps17
    go_wp2_with (first
      | (go_at_call 48; (with_reducible refine hst.out.mono ?_); rintro e w2 ⟨rfl, rfl⟩)
      | (go_at_call 49; (with_reducible refine (hmn.out _).mono ?_); rintro e w2 ⟨rfl, hb2⟩; have b2 := stepc hb2 hlt a2; have b3 := stepc hb2 hlt a3; have b4 := stepc hb2 hlt a4; have B := Lib.hid hb2; clear hb2)
      | (go_at_call 50; (with_reducible refine (hbI.out _ B.out).mono ?_); rintro e w3 ⟨rfl, hb3⟩; have b3 := stepc hb3 (Nat.lt_of_lt_of_le hlt B.out.size) b3; have b4 := stepc hb3 (Nat.lt_of_lt_of_le hlt B.out.size) b4; have B := Lib.hid (nextw B.out hb3); clear hb3)
      | (go_at_call 50; (with_reducible refine (hbO.out _ B.out).mono ?_); rintro e w3 ⟨rfl, hb3⟩; have b3 := stepc hb3 (Nat.lt_of_lt_of_le hlt B.out.size) b3; have B := Lib.hid (nextw B.out hb3); clear hb3)
      | (go_at_call 51; (with_reducible refine (hle.out _ B.out).mono ?_); rintro e w3 ⟨rfl, hb3⟩; have B := Lib.hid (nextw B.out hb3); clear hb3)
      | (go_at_call 52; (with_reducible refine (hop.out _ B.out).mono ?_); rintro e w3 ⟨rfl, hb3⟩; have B := Lib.hid (nextw B.out hb3); clear hb3))
    go_ret
    exact ⟨rfl, B.out⟩
end Go.Proofs.YtafoohdndlhbnaaGreatDoor
end

section
namespace Go.Proofs.YtafoohdndlhbnaaGreatDoor
open Go.RowKit Go.Maps Bits
set_option maxRecDepth 100000

def bv0 : BV := ⟨ByteArray.empty, none, 0, 0⟩
theorem made_pair (x y : Value) (n : Nat) : (madeCells #[x, y] (n * 2)).toList = (List.replicate n [x, y]).flatten := by
  induction n with
  | zero => simp [madeCells]
  | succ n ih =>
    rw [List.replicate_succ', List.flatten_append, ← ih]
    unfold madeCells
    simp only [Array.toList_map, Array.toList_range]
    rw [show (n + 1) * 2 = n * 2 + 1 + 1 by omega, List.range_succ, List.range_succ]
    simp [show n * 2 % 2 = 0 by omega, show (n * 2 + 1) % 2 = 1 by omega]
theorem made_bv (n : Nat) : (madeCells (Value.agg #[.string ByteArray.empty, .slice none 0 0]).cells (n * 2)).toList = bvCells (List.replicate n bv0) := by
  rw [show (Value.agg #[.string ByteArray.empty, .slice none 0 0]).cells = #[.string ByteArray.empty, .slice none 0 0] from rfl, made_pair]
  unfold bvCells
  rw [List.flatMap_def]
  simp [bvc, bv0]
theorem bvCells_set (K : List BV) (i : Nat) (k : BV) (h : i < K.length) : bvCells (K.set i k) = ((bvCells K).set (i * 2) (.string k.name)).set (i * 2 + 1) (.slice k.a k.n k.c) := by
  induction K generalizing i with
  | nil => simp at h
  | cons r R ih =>
    cases i with
    | zero => simp [bvCells, bvc]
    | succ i =>
      rw [List.set_cons_succ, show bvCells (r :: R.set i k) = bvc r ++ bvCells (R.set i k) from rfl, ih i (by simpa using h), show bvCells (r :: R) = bvc r ++ bvCells R from rfl]
      rw [List.set_append_right _ _ (by simp [bvc]; omega), List.set_append_right _ _ (by simp [bvc]; omega)]
      rw [show (i + 1) * 2 - (bvc r).length = i * 2 by simp [bvc]; omega, show (i + 1) * 2 + 1 - (bvc r).length = i * 2 + 1 by simp [bvc]; omega]
theorem own_some' {w : World} {base e size k g cap : Nat} {xs : List Value} (h : w.ownsRow base e size (.slice (some ⟨g, 0, none⟩) k cap) k xs) {i : Nat} (hj : i < k * size) : ∃ u, w.cell? ⟨g, i, none⟩ = some u := by
  have hl : xs.length = k * size := h.1
  have hc := h.cellAt i hj
  exact ⟨xs[i]'(by omega), by rw [hc]; exact List.getElem?_eq_getElem _⟩
/-- A copy of buses that is being made. -/
structure CopT (w wr : World) (g n j : Nat) (L : List Bus) (K : List BV) : Prop where
  len : K.length = j
  own : wr.ownsRow w.heap.size 71 2 (.slice (some ⟨g, 0, none⟩) n n) n (bvCells (K ++ List.replicate (n - j) bv0))
  row : ∀ (i : Nat) (k : BV) (b : Bus), K[i]? = some k → L[i]? = some b → k.name = b.name ∧ LRow wr k.a k.n k.c b.lits
theorem CopT.step {w wr w2 : World} {g n j : Nat} {L : List Bus} {K : List BV} (h : CopT w wr g n j L K) (hb : Below wr.heap.size wr w2) : CopT w w2 g n j L K :=
  ⟨h.len, own_below h.own hb, fun i k b e1 e2 => ⟨(h.row i k b e1 e2).1, (h.row i k b e1 e2).2.below hb⟩⟩
theorem CopT.next {w wr : World} {g n j : Nat} {L : List Bus} {K : List BV} (h : CopT w wr g n j L K) (hj : j < n) {b : Bus} (hb : L[j]? = some b) {a : Option Addr} {c : Nat} (hl : LRow wr a b.lits.length c b.lits) :
    CopT w ((wr.setCell ⟨g, j * 2, none⟩ (.string b.name)).setCell ⟨g, j * 2 + 1, none⟩ (.slice a b.lits.length c)) g n (j + 1) L (K ++ [⟨b.name, a, b.lits.length, c⟩])
      ∧ (∀ k, k < w.heap.size → ((wr.setCell ⟨g, j * 2, none⟩ (.string b.name)).setCell ⟨g, j * 2 + 1, none⟩ (.slice a b.lits.length c)).heap[k]? = wr.heap[k]?) := by
  have h1 := h.own.stored (j * 2) (.string b.name)
  have h2 := h1.1.stored (j * 2 + 1) (.slice a b.lits.length c)
  have hg2 := h1.2.trans h2.2
  have hge := own_ge h.own g rfl
  have hglt := own_lt h.own
  have hk : Kept (fun k => k = g) wr ((wr.setCell ⟨g, j * 2, none⟩ (.string b.name)).setCell ⟨g, j * 2 + 1, none⟩ (.slice a b.lits.length c)) :=
    ⟨hg2.os, hg2.tape, hg2.output, hg2.size, fun k hlt hn => hg2.block k hlt (fun e => hn (by simpa using e))⟩
  have hN : NoLits wr (fun k => k = g) := by
    intro k cur fz e hh
    subst e
    obtain ⟨c2, hc2⟩ := own_type h.own (k := k) rfl
    rw [hc2] at hh; simp at hh
  have hlen := h.len
  have e : (K ++ List.replicate (n - j) bv0).set j ⟨b.name, a, b.lits.length, c⟩ = K ++ [⟨b.name, a, b.lits.length, c⟩] ++ List.replicate (n - (j + 1)) bv0 := by
    rw [show n - j = n - (j + 1) + 1 by omega, List.replicate_succ, List.set_append_right _ _ (by omega), hlen]
    simp
  refine ⟨⟨by simp [hlen], ?_, ?_⟩, fun k hlt => hk.block k (by omega) (by omega)⟩
  · have := h2.1
    rw [← bvCells_set _ j ⟨b.name, a, b.lits.length, c⟩ (by simp; omega), e] at this
    exact this
  · intro i k bb e1 e2
    by_cases hi : i < K.length
    · rw [List.getElem?_append_left hi] at e1
      obtain ⟨r1, r2⟩ := h.row i k bb e1 e2
      exact ⟨r1, r2.keptF hk hN⟩
    · have hi2 := (List.getElem?_eq_some_iff.1 e1).1
      simp at hi2
      have ei : i = j := by omega
      subst ei
      rw [← hlen, List.getElem?_append_right (Nat.le_refl _)] at e1
      simp at e1
      subst e1
      rw [hb] at e2
      cases e2
      exact ⟨rfl, hl.keptF hk hN⟩
set_option maxHeartbeats 1000000 in
theorem copied_any {w : World} {a : Option Addr} {n c : Nat} {L : List Bus} (h : BusRow w (.slice a n c) L) (hn : n = L.length) (hw : ∀ b ∈ L, b.lits.length ≤ 64) (hm : n ≤ 10000) :
    Calls Tryz.prog 60 #[.slice a n c] w fun e w' => ∃ (a2 : Option Addr) (c2 : Nat), e = .returned (.slice a2 n c2) ∧ BusRow w' (.slice a2 n c2) L ∧ (∀ x, a2 = some x → w.heap.size ≤ x.block) ∧ Below w.heap.size w w' := by
  obtain ⟨i0, hi, hz0, hz1, hz2⟩ := info_parts info_bus
  have HI := Lib.hid (made_bv n)
  have H := Lib.hid h
  have HN := Lib.hid hn
  have HW := Lib.hid hw
  clear h hn hw
  go_enter Tryz.func60, Tryz.ntmps60
  go_wp2_with (at_make; refine wpList_make_full _ rfl _ _ 58 rfl w.heap.size 71 i0 (.agg #[.string ByteArray.empty, .slice none 0 0]) 2 Tryz.underlying58 hi hz0 hz1 .i64 .i64 n n n rfl rfl rfl rfl (by rw [hz2]; omega) (by unfold maxLen; omega) (Nat.le_refl _) ?_; intro w3 hown hg)
  rw [HI.out] at hown
  have hb3 := Lib.hid ((Below.refl w.heap.size w).grown hg (Nat.le_refl _) (fun _ h => by cases h))
  have hF : Hid (CopT w w3 w.heap.size n 0 L []) := Lib.hid ⟨rfl, hown, fun i k b e => by simp at e⟩
  have hz3 : Hid (w.heap.size < w3.heap.size) := Lib.hid (own_lt hown)
  clear HI hown hg
  go_loopw [11] (fun i wr => ∃ (j : Nat) (K : List BV), j ≤ n ∧ i = .int .i64 j ∧ Hid (CopT w wr w.heap.size n j L K) ∧ Hid (Below w.heap.size w wr)) (fun i _ => n - (intOf i).toNat)
  case atStart => exact ⟨0, [], Nat.zero_le _, rfl, hF, hb3⟩
  case round =>
    clear hF hb3 hz3
    obtain ⟨j, K, hj, rfl, hF, hB⟩ := hrel
    by_cases hlt : j < n
    · have hjL : j < L.length := by rw [← HN.out]; exact hlt
      obtain ⟨g2, la, lc, rfl, hgl, b0, b1, hr⟩ := H.out.at hjL
      have c0 := stepc hB.out hgl b0
      have c1 := stepc hB.out hgl b1
      have hr := Lib.hid (hr.below hB.out)
      have h64 := HW.out _ (List.getElem_mem hjL)
      have hLj : L[j]? = some L[j] := List.getElem?_eq_getElem hjL
      clear b0 b1
      generalize L[j] = B at *
      have hLj := Lib.hid hLj
      have hb4 : Hid (Below wr.heap.size wr (wr.alloc (.cells #[.string B.name, .slice la B.lits.length lc] 71))) := Lib.hid ((Below.refl _ _).alloc (Nat.le_refl _) _)
      have d0 : (wr.alloc (.cells #[.string B.name, .slice la B.lits.length lc] 71)).cell? ⟨wr.heap.size, 0, none⟩ = some (.string B.name) := by simp [go_sem]
      have d1 : (wr.alloc (.cells #[.string B.name, .slice la B.lits.length lc] 71)).cell? ⟨wr.heap.size, 1, none⟩ = some (.slice la B.lits.length lc) := by simp [go_sem]
      have hz4 : wr.heap.size < (wr.alloc (.cells #[.string B.name, .slice la B.lits.length lc] 71)).heap.size := by simp
      have hcl := Lib.hid (fun w2 (hb2 : Below wr.heap.size wr w2) => clone_lit (c := lc) (hr.out.below hb2).row (by omega))
      have hFs := Lib.hid (fun w2 (hb2 : Below wr.heap.size wr w2) => hF.out.step hb2)
      have hs0 := own_some' hF.out.own (i := j * 2) (by omega)
      have hs1 := own_some' hF.out.own (i := j * 2 + 1) (by omega)
      obtain ⟨u0, hu0⟩ := hs0
      obtain ⟨u1, hu1⟩ := hs1
      have hfz := hF.out.own.frozenAt
      have hgw := own_lt hF.out.own
      have f0 := hfz (j * 2)
      have f1 := hfz (j * 2 + 1)
      clear hr hfz hF
      generalize hll : B.lits.length = ll at *
      generalize hnm : B.name = nm at *
      have hll := Lib.hid hll
      have hnm := Lib.hid hnm
      go_upto_region 5 with fail
      generalize wr.alloc (.cells #[.string nm, .slice la ll lc] 71) = w4 at *
      have e0 := stepc hb4.out hgw hu0
      have e1 := stepc hb4.out hgw hu1
      clear c0 c1
      go_region_law (first
        | (go_simp; go_at_call 57; (with_reducible refine (hcl.out _ hb4.out.drew).mono ?_); rintro e w6 ⟨a2, c2, rfl, hM⟩; have hM := Lib.hid hM; have hb5 := nextw ((Below.refl w4.heap.size w4).drew) hM.out.below; have k0 := stepc hb5 hz4 d0; have k1 := stepc hb5 hz4 d1; have m0 := stepc hb5 (Nat.lt_of_lt_of_le hgw hb4.out.size) e0; have m1 := stepc hb5 (Nat.lt_of_lt_of_le hgw hb4.out.size) e1; have hb6 := nextw hb4.out hb5; have n0 := ((bcell hb6).2 _ (j * 2) hgw).trans f0; have n1 := ((bcell hb6).2 _ (j * 2 + 1) hgw).trans f1; have hb6 := Lib.hid hb6; clear hb5))
      all_goals go_wp2
      all_goals
        have hC := hFs.out _ hb6.out
        have hnx := hC.next hlt hLj.out (a := a2) (c := c2) (by rw [hll.out]; exact hM.out.lrow)
        rw [hll.out, hnm.out] at hnx
        exact ⟨⟨j + 1, _, by omega, by go_num, Lib.hid hnx.1, Lib.hid (((nextw hB.out hb6.out).setCell (Nat.le_refl _) _).setCell (Nat.le_refl _) _)⟩, by simp [intOf]; omega⟩
    · obtain rfl : j = n := by omega
      go_wp2
      go_ret
      exact ⟨some ⟨w.heap.size, 0, none⟩, j, rfl, ⟨K, by rw [← HN.out]; have := hF.out.own; simp only [Nat.sub_self, List.replicate_zero, List.append_nil] at this; exact own_base this (Nat.zero_le _), by rw [hF.out.len, HN.out], hF.out.row⟩, fun x hx => by cases hx; exact Nat.le_refl _, hB.out⟩
end Go.Proofs.YtafoohdndlhbnaaGreatDoor
end
