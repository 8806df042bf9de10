/-
  AddReg, SetReg.
-/
import Derived.Test.YtjdebancpgpebaaNetC
namespace Go.Proofs.Ytjdebancpgpebaa
open Go.RowKit Go.Maps
set_option maxRecDepth 100000

theorem news_list (w : World) (cs : List Value) (T : Nat) : ∀ (j : Nat) (u : Value), cs[j]? = some u → (w.alloc (.cells cs.toArray T)).cell? ((⟨w.heap.size, 0, none⟩ : Addr).add j) = some u := by
  intro j u h
  rw [show (⟨w.heap.size, 0, none⟩ : Addr).add j = ⟨w.heap.size, j, none⟩ by simp [Addr.add]; omega]
  rw [World.cell?_alloc_mark]
  simpa using h
theorem netBox_far {w : World} {q : NPl} {N : Nt} (h : NetIs w q N) {v : Value} (hv : v = q.iv ∨ v = q.rv ∨ v = q.ov) : some q.b ≠ v.ownBlock := by
  obtain ⟨h1, h2, h3⟩ := h.bFar
  rcases hv with rfl | rfl | rfl
  · exact fun e => h1 e.symm
  · exact fun e => h2 e.symm
  · exact fun e => h3 e.symm

set_option maxHeartbeats 1000000 in
theorem AddReg_any {w : World} {q : NPl} {N : Nt} (h : NetIs w q N) (hW : Wf N.g) (hm : N.g.nodes.length ≤ 190000) (hr : N.regs.length ≤ 10000) (i : Bool) :
    Calls Try.prog 28 #[.pointer (some ⟨q.b, 0, none⟩), .bool i] w fun e w' => e = .returned (.tuple #[.int .u32 (2 * (N.g.nodes.length : Int)), .int .i64 0]) ∧ ∃ q', NStep q w q' w' (addReg N i).1 := by
  have hst := Lib.hid (nstands_any h hW.pos)
  have hin := Lib.hid (Input_any h.g hW (by omega))
  obtain ⟨ia, ic, ra, rc, oa, oc, -, -, -, c0, -, -, c3, -, -⟩ := h.cells
  have hpush := Lib.hid (fun (p' : Pl) (w2 : World) (hS : Step q.g w p' w2 (inputG N.g)) => h.grow hS)
  obtain ⟨i0, hi, hz0, hz1, hz2⟩ := info_parts info_reg
  have hg0 : decide (16384 ≤ (N.regs.length : Int)) = false := by simp; omega
  unfold addReg
  generalize 2 * (N.g.nodes.length : Int) = x at *
  clear h hW hm
  go_enter Try.func28, Try.ntmps28
  go_wp2_with (first
    | (go_at_call 22; (with_reducible refine hst.out.mono ?_); rintro e w2 ⟨rfl, rfl⟩)
    | (go_at_call 33; (with_reducible refine hin.out.mono ?_); rintro e w2 ⟨rfl, p', hS⟩; have hP := Lib.hid (hpush.out _ _ hS); clear hS hin hpush c0 c3; obtain ⟨ja, jc, sa, sc, ta, tc, -, ev, -, d0, -, -, d3, -, fz⟩ := hP.out.is.cells; have f3 := fz 3; clear fz; have hne := netBox_far hP.out.is (v := .slice sa N.regs.length sc) (.inr (.inl ev.symm)); have hrow : Hid (w2.ownsRow 0 52 4 (.slice sa N.regs.length sc) N.regs.length (rgCells N.regs)) := (by have := hP.out.is.regs; unfold RegRow at this; rw [ev] at this; exact this); have hlb := hP.out.is.lt; simp only [] at d0 d3 f3 hne hlb)
    | (at_builtin; refine wpList_append_lies _ rfl (.tmp 32) (.tmp 36) 31 rfl 0 52 i0 (.agg #[.int .u32 0, .int .u32 0, .int .u32 0, .bool false]) 4 16 Try.underlying31 hi hz0 hz1 hz2 rfl (by decide) (.slice sa N.regs.length sc) N.regs.length (rgCells N.regs) rfl (hrow.out.alloc _) ⟨w2.heap.size, 0, none⟩ 1 1 [.int .u32 x, .int .u32 0, .int .u32 0, .bool i] rfl rfl (news_list _ _ _) (by simp [Value.oneCell']) (by decide) (by unfold maxLen; omega) (by omega) (by simp) _ rfl ?_; intro g1 cap1 w7 hown1 hgrow1 hat1 hlt1; obtain ⟨x0, x1⟩ := grow_box hgrow1 (b := q.b) (o := 3) (v := .slice sa N.regs.length sc) (by go_simp) (by go_simp) hne))
  go_ret2
  rw [← ev] at hgrow1 hat1
  obtain ⟨q', hq⟩ := reg_push hP.out.is ((Below.refl _ _).alloc (Nat.le_refl _) _) ⟨x, 0, 0, i⟩ hown1 hgrow1 hat1
  exact ⟨rfl, q', hP.out.trans hq⟩

theorem rgCells_set (R : List Rg) (i : Nat) (d en : Int) : rgCells (R.modify i (setRg d en)) = ((rgCells R).set (i * 4 + 1) (.int .u32 d)).set (i * 4 + 2) (.int .u32 en) := by
  induction R generalizing i with
  | nil => simp [rgCells]
  | cons r R ih =>
    cases i with
    | zero => simp [rgCells, rgc, setRg]
    | succ i =>
      rw [List.modify_succ_cons, show rgCells (r :: R.modify i (setRg d en)) = rgc r ++ rgCells (R.modify i (setRg d en)) from rfl, ih, show rgCells (r :: R) = rgc r ++ rgCells R from rfl]
      rw [List.set_append_right _ _ (by simp [rgc]; omega), List.set_append_right _ _ (by simp [rgc]; omega)]
      rw [show (i + 1) * 4 + 1 - (rgc r).length = i * 4 + 1 by simp [rgc]; omega, show (i + 1) * 4 + 2 - (rgc r).length = i * 4 + 2 by simp [rgc]; omega]
/-- A register's D and En are others now. -/
theorem reg_set {w : World} {q : NPl} {N : Nt} (h : NetIs w q N) {g rc n : Nat} (hv : q.rv = .slice (some ⟨g, 0, none⟩) n rc) (i : Nat) (d en : Int) :
    NStep q w q ((w.setCell ⟨g, i * 4 + 1, none⟩ (.int .u32 d)).setCell ⟨g, i * 4 + 2, none⟩ (.int .u32 en)) { N with regs := N.regs.modify i (setRg d en) } := by
  have hr := h.regs
  unfold RegRow at hr
  rw [hv] at hr
  obtain ⟨a2, c2, e⟩ := own_slice hr
  simp only [Value.slice.injEq] at e
  obtain ⟨-, rfl, -⟩ := e
  have h1 := hr.stored (i * 4 + 1) (.int .u32 d)
  have h2 := h1.1.stored (i * 4 + 2) (.int .u32 en)
  have hg2 := h1.2.trans h2.2
  have hgb : g ≠ q.b := by
    rintro rfl
    exact h.bFar.2.1 (by rw [hv]; rfl)
  have hk : Kept (fun k => k = q.b ∨ q.rv.ownBlock = some k) w ((w.setCell ⟨g, i * 4 + 1, none⟩ (.int .u32 d)).setCell ⟨g, i * 4 + 2, none⟩ (.int .u32 en)) :=
    ⟨hg2.os, hg2.tape, hg2.output, hg2.size, fun k hlt hn => hg2.block k hlt (fun e => hn (.inr (by rw [hv]; simpa [Value.ownBlock] using e.symm)))⟩
  have := h.setRegs (v := q.rv) (R := N.regs.modify i (setRg d en)) hk (by
    rw [hg2.block _ h.lt (by simpa using fun e => hgb e.symm)]; exact h.box) (by
    unfold RegRow
    rw [rgCells_set, hv, List.length_modify]
    exact h2.1) (fun k hk => .inl hk)
  exact this

set_option maxHeartbeats 1000000 in
theorem SetReg_any {w : World} {q : NPl} {N : Nt} (h : NetIs w q N) (hW : Wf N.g) (x d en : Int) (hd : IsLit d) (he : IsLit en) :
    Calls Try.prog 29 #[.pointer (some ⟨q.b, 0, none⟩), .int .u32 x, .int .u32 d, .int .u32 en] w fun e w' => e = .returned (.int .i64 (setReg N x d en).2) ∧ ∃ q', NStep q w q' w' (setReg N x d en).1 := by
  have hb : Below w.heap.size w (w.alloc (.cells #[.int .u32 x] 50)) := (Below.refl _ _).alloc (Nat.le_refl _) _
  have h1 := h.below hb
  have hst := Lib.hid (nstands_any h1 hW.pos)
  obtain ⟨ia, ic, ra, rc, oa, oc, -, ev, -, c0, -, -, c3, -, fz⟩ := h1.cells
  have hlb := h1.lt
  have hix := Lib.hid (idxReg_any (a := ra) (n := N.regs.length) (c := rc) (by have := h1.regs; rw [ev] at this; exact this) rfl (q := w.heap.size) (x := x) (by simp) (by simp [go_sem]))
  have hhas := Lib.hid (fun w2 (hb2 : Below (w.alloc (.cells #[.int .u32 x] 50)).heap.size (w.alloc (.cells #[.int .u32 x] 50)) w2) => has_any ((h1.below hb2).below ((Below.refl w2.heap.size w2).alloc (Nat.le_refl _) (.cells #[.int .u32 d, .int .u32 en] 50))) hW.pos (c := 2) (row2 w2 d en 50) (by intro y hy; simp at hy; rcases hy with rfl | rfl <;> assumption))
  have hfin := Lib.hid (fun w2 (hb2 : Below (w.alloc (.cells #[.int .u32 x] 50)).heap.size (w.alloc (.cells #[.int .u32 x] 50)) w2) => NStep.front h hb (NStep.of_below h1 hb2))
  have hrg := Lib.hid h1.regs
  unfold setReg
  cases e : regAt N.regs x with
  | none =>
    rw [e] at hix
    change Hid (Calls _ _ _ _ fun e w' => e = .returned (.int .i64 (-1)) ∧ _) at hix
    clear h h1 hb
    go_enter Try.func29, Try.ntmps29
    go_wp2_with (first
      | (go_at_call 22; (with_reducible refine hst.out.mono ?_); rintro e w2 ⟨rfl, rfl⟩)
      | (go_at_call 51; (with_reducible refine hix.out.mono ?_); rintro e w2 ⟨rfl, hb2⟩))
    go_ret
    exact ⟨rfl, _, hfin.out _ hb2⟩
  | some j =>
    rw [e] at hix
    change Hid (Calls _ _ _ _ fun e w' => e = .returned (.int .i64 (j : Int)) ∧ _) at hix
    have hj : j < N.regs.length := by
      unfold regAt at e
      exact (List.findIdx?_eq_some_iff_getElem.1 e).1
    have g0 : decide ((j : Int) < 0) = false := by simp
    by_cases hh : allHas N.g [d, en] = true
    · rw [hh] at hhas
      simp only [hh, if_true]
      obtain ⟨g, rfl, hgl, b0, b1, b2, b3⟩ := RegRow.at (a := ra) (c := rc) (by have := h1.regs; rw [ev] at this; exact this) hj
      have hfz : ∀ o, (w.alloc (.cells #[.int .u32 x] 50)).frozen? ⟨g, o, none⟩ = false := fun o => by
        have := h1.regs
        unfold RegRow at this
        rw [ev] at this
        exact this.frozenAt o
      have hset := Lib.hid (fun w3 (hb3 : Below (w.alloc (.cells #[.int .u32 x] 50)).heap.size (w.alloc (.cells #[.int .u32 x] 50)) w3) => (NStep.front h hb (NStep.of_below h1 hb3)).trans (reg_set (h1.below hb3) ev j d en))
      have hdr := Lib.hid (fun w3 => below_draws w3)
      generalize N.regs[j].q = r0 at *
      generalize N.regs[j].d = r1 at *
      generalize N.regs[j].en = r2 at *
      have hjn : j < N.regs.length := hj
      clear h h1 hb b0 b3 hrg hfin e hj hd he
      generalize N.regs.length = n at *
      generalize hw1 : w.alloc (.cells #[.int .u32 x] 50) = w1 at *
      have hdr := Lib.hid (fun (w3 : World) (k : Nat) => below_draws w3 k)
      go_enter Try.func29, Try.ntmps29
      go_wp2_with (first
        | (go_at_call 22; (with_reducible refine hst.out.mono ?_); rintro e w2 ⟨rfl, rfl⟩)
        | (go_at_call 51; (with_reducible refine hix.out.mono ?_); rintro e w2 ⟨rfl, hb2⟩; have hh2 := Lib.hid (hhas.out _ hb2))
        | (go_at_call 53; (with_reducible refine hh2.out.mono ?_); rintro e w3 ⟨rfl, hb3⟩; have hb4 := nextw hb2 (nextw ((Below.refl _ _).alloc (Nat.le_refl _) _) hb3); have d3 := stepc hb4 hlb c3; have e1 := stepc hb4 hgl b1; have e2 := stepc hb4 hgl b2; have f1 := (bcell hb4).2 g (j * 4 + 1) hgl; rw [hfz] at f1; have f2 := (bcell hb4).2 g (j * 4 + 2) hgl; rw [hfz] at f2; have hb4 := Lib.hid hb4; clear hb3 hb2 hh2))
      go_region_law (fail)
      all_goals go_wp2
      all_goals go_ret
      all_goals exact ⟨rfl, _, (hset.out w3 hb4.out).then ((Below.refl _ _).drew)⟩
    · have hh' : allHas N.g [d, en] = false := by simpa using hh
      rw [hh'] at hhas
      simp only [hh', if_neg (show ¬ (false = true) by simp)]
      have hjn : j < N.regs.length := hj
      clear h h1 hb hrg e hj hd he hh
      generalize N.regs.length = n at *
      generalize hw1 : w.alloc (.cells #[.int .u32 x] 50) = w1 at *
      go_enter Try.func29, Try.ntmps29
      go_wp2_with (first
        | (go_at_call 22; (with_reducible refine hst.out.mono ?_); rintro e w2 ⟨rfl, rfl⟩)
        | (go_at_call 51; (with_reducible refine hix.out.mono ?_); rintro e w2 ⟨rfl, hb2⟩; have hh2 := Lib.hid (hhas.out _ hb2))
        | (go_at_call 53; (with_reducible refine hh2.out.mono ?_); rintro e w3 ⟨rfl, hb3⟩; have hb4 := nextw hb2 (nextw ((Below.refl _ _).alloc (Nat.le_refl _) _) hb3)))
      go_ret
      exact ⟨rfl, _, hfin.out _ hb4⟩
end Go.Proofs.Ytjdebancpgpebaa
