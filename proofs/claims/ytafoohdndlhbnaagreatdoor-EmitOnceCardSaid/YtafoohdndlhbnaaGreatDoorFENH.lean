/-
  AddReg, SetReg.
  AddOut, AddIn.
  Literals that are not there: the graph refuses them. What a gate of two is to a netlist. The law package's own: Of, one.
-/
import Derived.Test.YtafoohdndlhbnaaGreatDoorFENG
import Derived.Test.YtafoohdndlhbnaaGreatDoorFEND
section
namespace Go.Proofs.YtafoohdndlhbnaaGreatDoor
open Go.RowKit Go.Maps
set_option maxRecDepth 100000

theorem news_list (w : World) (cs : List Value) (T : Nat) : ∀ (j : Nat) (u : Value), cs[j]? = some u → (w.alloc (.cells cs.toArray T)).cell? ((⟨w.heap.size, 0, none⟩ : Addr).add j) = some u := by
  intro j u h
  rw [show (⟨w.heap.size, 0, none⟩ : Addr).add j = ⟨w.heap.size, j, none⟩ by simp [Addr.add]; omega]
  rw [World.cell?_alloc_mark]
  simpa using h
theorem netBox_far {w : World} {q : NPl} {N : Nt} (h : NetIs w q N) {v : Value} (hv : v = q.iv ∨ v = q.rv ∨ v = q.ov) : some q.b ≠ v.ownBlock := by
  obtain ⟨h1, h2, h3⟩ := h.bFar
  rcases hv with rfl | rfl | rfl
  · exact fun e => h1 e.symm
  · exact fun e => h2 e.symm
  · exact fun e => h3 e.symm

set_option maxHeartbeats 1000000 in
theorem AddReg_any {w : World} {q : NPl} {N : Nt} (h : NetIs w q N) (hW : Wf N.g) (hm : N.g.nodes.length ≤ 190000) (hr : N.regs.length ≤ 10000) (i : Bool) :
    Calls Tryz.prog 74 #[.pointer (some ⟨q.b, 0, none⟩), .bool i] w fun e w' => e = .returned (.tuple #[.int .u32 (2 * (N.g.nodes.length : Int)), .int .i64 0]) ∧ ∃ q', NStep q w q' w' (addReg N i).1 := by
  have hst := Lib.hid (nstands_any h hW.pos)
  have hin := Lib.hid (Input_any h.g hW (by omega))
  obtain ⟨ia, ic, ra, rc, oa, oc, -, -, -, c0, -, -, c3, -, -⟩ := h.cells
  have hpush := Lib.hid (fun (p' : Pl) (w2 : World) (hS : Step q.g w p' w2 (inputG N.g)) => h.grow hS)
  obtain ⟨i0, hi, hz0, hz1, hz2⟩ := info_parts info_reg
  have hg0 : decide (16384 ≤ (N.regs.length : Int)) = false := by simp; omega
  unfold addReg
  generalize 2 * (N.g.nodes.length : Int) = x at *
  clear h hW hm
  go_enter Tryz.func74, Tryz.ntmps74
  go_wp2_with (first
    | (go_at_call 48; (with_reducible refine hst.out.mono ?_); rintro e w2 ⟨rfl, rfl⟩)
    | (go_at_call 104; (with_reducible refine hin.out.mono ?_); rintro e w2 ⟨rfl, p', hS⟩; have hP := Lib.hid (hpush.out _ _ hS); clear hS hin hpush c0 c3; obtain ⟨ja, jc, sa, sc, ta, tc, -, ev, -, d0, -, -, d3, -, fz⟩ := hP.out.is.cells; have f3 := fz 3; clear fz; have hne := netBox_far hP.out.is (v := .slice sa N.regs.length sc) (.inr (.inl ev.symm)); have hrow : Hid (w2.ownsRow 0 68 4 (.slice sa N.regs.length sc) N.regs.length (rgCells N.regs)) := (by have := hP.out.is.regs; unfold RegRow at this; rw [ev] at this; exact this); have hlb := hP.out.is.lt; simp only [] at d0 d3 f3 hne hlb)
    | (at_builtin; refine wpList_append_lies _ rfl (.tmp 32) (.tmp 36) 59 rfl 0 68 i0 (.agg #[.int .u32 0, .int .u32 0, .int .u32 0, .bool false]) 4 16 Tryz.underlying59 hi hz0 hz1 hz2 rfl (by decide) (.slice sa N.regs.length sc) N.regs.length (rgCells N.regs) rfl (hrow.out.alloc _) ⟨w2.heap.size, 0, none⟩ 1 1 [.int .u32 x, .int .u32 0, .int .u32 0, .bool i] rfl rfl (news_list _ _ _) (by simp [Value.oneCell']) (by decide) (by unfold maxLen; omega) (by omega) (by simp) _ rfl ?_; intro g1 cap1 w7 hown1 hgrow1 hat1 hlt1; obtain ⟨x0, x1⟩ := grow_box hgrow1 (b := q.b) (o := 3) (v := .slice sa N.regs.length sc) (by go_simp) (by go_simp) hne))
  go_ret2
  rw [← ev] at hgrow1 hat1
  obtain ⟨q', hq⟩ := reg_push hP.out.is ((Below.refl _ _).alloc (Nat.le_refl _) _) ⟨x, 0, 0, i⟩ hown1 hgrow1 hat1
  exact ⟨rfl, q', hP.out.trans hq⟩

theorem rgCells_set (R : List Rg) (i : Nat) (d en : Int) : rgCells (R.modify i (setRg d en)) = ((rgCells R).set (i * 4 + 1) (.int .u32 d)).set (i * 4 + 2) (.int .u32 en) := by
  induction R generalizing i with
  | nil => simp [rgCells]
  | cons r R ih =>
    cases i with
    | zero => simp [rgCells, rgc, setRg]
    | succ i =>
      rw [List.modify_succ_cons, show rgCells (r :: R.modify i (setRg d en)) = rgc r ++ rgCells (R.modify i (setRg d en)) from rfl, ih, show rgCells (r :: R) = rgc r ++ rgCells R from rfl]
      rw [List.set_append_right _ _ (by simp [rgc]; omega), List.set_append_right _ _ (by simp [rgc]; omega)]
      rw [show (i + 1) * 4 + 1 - (rgc r).length = i * 4 + 1 by simp [rgc]; omega, show (i + 1) * 4 + 2 - (rgc r).length = i * 4 + 2 by simp [rgc]; omega]
/-- A register's D and En are others now. -/
theorem reg_set {w : World} {q : NPl} {N : Nt} (h : NetIs w q N) {g rc n : Nat} (hv : q.rv = .slice (some ⟨g, 0, none⟩) n rc) (i : Nat) (d en : Int) :
    NStep q w q ((w.setCell ⟨g, i * 4 + 1, none⟩ (.int .u32 d)).setCell ⟨g, i * 4 + 2, none⟩ (.int .u32 en)) { N with regs := N.regs.modify i (setRg d en) } := by
  have hr := h.regs
  unfold RegRow at hr
  rw [hv] at hr
  obtain ⟨a2, c2, e⟩ := own_slice hr
  simp only [Value.slice.injEq] at e
  obtain ⟨-, rfl, -⟩ := e
  have h1 := hr.stored (i * 4 + 1) (.int .u32 d)
  have h2 := h1.1.stored (i * 4 + 2) (.int .u32 en)
  have hg2 := h1.2.trans h2.2
  have hgb : g ≠ q.b := by
    rintro rfl
    exact h.bFar.2.1 (by rw [hv]; rfl)
  have hk : Kept (fun k => k = q.b ∨ q.rv.ownBlock = some k) w ((w.setCell ⟨g, i * 4 + 1, none⟩ (.int .u32 d)).setCell ⟨g, i * 4 + 2, none⟩ (.int .u32 en)) :=
    ⟨hg2.os, hg2.tape, hg2.output, hg2.size, fun k hlt hn => hg2.block k hlt (fun e => hn (.inr (by rw [hv]; simpa [Value.ownBlock] using e.symm)))⟩
  have := h.setRegs (v := q.rv) (R := N.regs.modify i (setRg d en)) hk (by
    rw [hg2.block _ h.lt (by simpa using fun e => hgb e.symm)]; exact h.box) (by
    unfold RegRow
    rw [rgCells_set, hv, List.length_modify]
    exact h2.1) (fun k hk => .inl hk)
  exact this

set_option maxHeartbeats 1000000 in
theorem SetReg_any {w : World} {q : NPl} {N : Nt} (h : NetIs w q N) (hW : Wf N.g) (x d en : Int) (hd : IsLit d) (he : IsLit en) :
    Calls Tryz.prog 75 #[.pointer (some ⟨q.b, 0, none⟩), .int .u32 x, .int .u32 d, .int .u32 en] w fun e w' => e = .returned (.int .i64 (setReg N x d en).2) ∧ ∃ q', NStep q w q' w' (setReg N x d en).1 := by
  have hb : Below w.heap.size w (w.alloc (.cells #[.int .u32 x] 66)) := (Below.refl _ _).alloc (Nat.le_refl _) _
  have h1 := h.below hb
  have hst := Lib.hid (nstands_any h1 hW.pos)
  obtain ⟨ia, ic, ra, rc, oa, oc, -, ev, -, c0, -, -, c3, -, fz⟩ := h1.cells
  have hlb := h1.lt
  have hix := Lib.hid (idxReg_any (a := ra) (n := N.regs.length) (c := rc) (by have := h1.regs; rw [ev] at this; exact this) rfl (q := w.heap.size) (x := x) (by simp) (by simp [go_sem]))
  have hhas := Lib.hid (fun w2 (hb2 : Below (w.alloc (.cells #[.int .u32 x] 66)).heap.size (w.alloc (.cells #[.int .u32 x] 66)) w2) => has_any ((h1.below hb2).below ((Below.refl w2.heap.size w2).alloc (Nat.le_refl _) (.cells #[.int .u32 d, .int .u32 en] 66))) hW.pos (c := 2) (row2 w2 d en 66) (by intro y hy; simp at hy; rcases hy with rfl | rfl <;> assumption))
  have hfin := Lib.hid (fun w2 (hb2 : Below (w.alloc (.cells #[.int .u32 x] 66)).heap.size (w.alloc (.cells #[.int .u32 x] 66)) w2) => NStep.front h hb (NStep.of_below h1 hb2))
  have hrg := Lib.hid h1.regs
  unfold setReg
  cases e : regAt N.regs x with
  | none =>
    rw [e] at hix
    change Hid (Calls _ _ _ _ fun e w' => e = .returned (.int .i64 (-1)) ∧ _) at hix
    clear h h1 hb
    go_enter Tryz.func75, Tryz.ntmps75
    go_wp2_with (first
      | (go_at_call 48; (with_reducible refine hst.out.mono ?_); rintro e w2 ⟨rfl, rfl⟩)
      | (go_at_call 151; (with_reducible refine hix.out.mono ?_); rintro e w2 ⟨rfl, hb2⟩))
    go_ret
    exact ⟨rfl, _, hfin.out _ hb2⟩
  | some j =>
    rw [e] at hix
    change Hid (Calls _ _ _ _ fun e w' => e = .returned (.int .i64 (j : Int)) ∧ _) at hix
    have hj : j < N.regs.length := by
      unfold regAt at e
      exact (List.findIdx?_eq_some_iff_getElem.1 e).1
    have g0 : decide ((j : Int) < 0) = false := by simp
    by_cases hh : allHas N.g [d, en] = true
    · rw [hh] at hhas
      simp only [hh, if_true]
      obtain ⟨g, rfl, hgl, b0, b1, b2, b3⟩ := RegRow.at (a := ra) (c := rc) (by have := h1.regs; rw [ev] at this; exact this) hj
      have hfz : ∀ o, (w.alloc (.cells #[.int .u32 x] 66)).frozen? ⟨g, o, none⟩ = false := fun o => by
        have := h1.regs
        unfold RegRow at this
        rw [ev] at this
        exact this.frozenAt o
      have hset := Lib.hid (fun w3 (hb3 : Below (w.alloc (.cells #[.int .u32 x] 66)).heap.size (w.alloc (.cells #[.int .u32 x] 66)) w3) => (NStep.front h hb (NStep.of_below h1 hb3)).trans (reg_set (h1.below hb3) ev j d en))
      have hdr := Lib.hid (fun w3 => below_draws w3)
      generalize N.regs[j].q = r0 at *
      generalize N.regs[j].d = r1 at *
      generalize N.regs[j].en = r2 at *
      have hjn : j < N.regs.length := hj
      clear h h1 hb b0 b3 hrg hfin e hj hd he
      generalize N.regs.length = n at *
      generalize hw1 : w.alloc (.cells #[.int .u32 x] 66) = w1 at *
      have hdr := Lib.hid (fun (w3 : World) (k : Nat) => below_draws w3 k)
      go_enter Tryz.func75, Tryz.ntmps75
      go_wp2_with (first
        | (go_at_call 48; (with_reducible refine hst.out.mono ?_); rintro e w2 ⟨rfl, rfl⟩)
        | (go_at_call 151; (with_reducible refine hix.out.mono ?_); rintro e w2 ⟨rfl, hb2⟩; have hh2 := Lib.hid (hhas.out _ hb2))
        | (go_at_call 124; (with_reducible refine hh2.out.mono ?_); rintro e w3 ⟨rfl, hb3⟩; have hb4 := nextw hb2 (nextw ((Below.refl _ _).alloc (Nat.le_refl _) _) hb3); have d3 := stepc hb4 hlb c3; have e1 := stepc hb4 hgl b1; have e2 := stepc hb4 hgl b2; have f1 := (bcell hb4).2 g (j * 4 + 1) hgl; rw [hfz] at f1; have f2 := (bcell hb4).2 g (j * 4 + 2) hgl; rw [hfz] at f2; have hb4 := Lib.hid hb4; clear hb3 hb2 hh2))
      go_region_law (fail)
      all_goals go_wp2
      all_goals go_ret
      all_goals exact ⟨rfl, _, (hset.out w3 hb4.out).then ((Below.refl _ _).drew)⟩
    · have hh' : allHas N.g [d, en] = false := by simpa using hh
      rw [hh'] at hhas
      simp only [hh', if_neg (show ¬ (false = true) by simp)]
      have hjn : j < N.regs.length := hj
      clear h h1 hb hrg e hj hd he hh
      generalize N.regs.length = n at *
      generalize hw1 : w.alloc (.cells #[.int .u32 x] 66) = w1 at *
      go_enter Tryz.func75, Tryz.ntmps75
      go_wp2_with (first
        | (go_at_call 48; (with_reducible refine hst.out.mono ?_); rintro e w2 ⟨rfl, rfl⟩)
        | (go_at_call 151; (with_reducible refine hix.out.mono ?_); rintro e w2 ⟨rfl, hb2⟩; have hh2 := Lib.hid (hhas.out _ hb2))
        | (go_at_call 124; (with_reducible refine hh2.out.mono ?_); rintro e w3 ⟨rfl, hb3⟩; have hb4 := nextw hb2 (nextw ((Below.refl _ _).alloc (Nat.le_refl _) _) hb3)))
      go_ret
      exact ⟨rfl, _, hfin.out _ hb4⟩
end Go.Proofs.YtafoohdndlhbnaaGreatDoor
end

section
namespace Go.Proofs.YtafoohdndlhbnaaGreatDoor
open Go.RowKit Go.Maps Bits
set_option maxRecDepth 100000

theorem info_bus : (Tryz.prog.info? 71).map (fun i => (i.zero, i.size, i.bytes)) = some (some (.agg #[.string ByteArray.empty, .slice none 0 0]), 2, 40) := by kernel_rfl
theorem wide_le {n : Nat} (h : wide (n : Int) = true) : n ≤ 64 := by have := wide_iff.1 h; omega

set_option maxHeartbeats 1000000 in
theorem AddOut_any {w : World} {q : NPl} {N : Nt} (h : NetIs w q N) (hW : Wf N.g) (ho : N.outs.length ≤ 10000) (s : ByteArray) {a : Option Addr} {n c : Nat} {l : List Int} (hs : Row .u32 w a n l) (hl : ∀ x ∈ l, IsLit x) :
    Calls Tryz.prog 76 #[.pointer (some ⟨q.b, 0, none⟩), .string s, .slice a n c] w fun e w' => e = .returned (.int .i64 (addOut N s l).2) ∧ ∃ q', NStep q w q' w' (addOut N s l).1 := by
  have hst := Lib.hid (nstands_any h hW.pos)
  obtain ⟨ia, ic, ra, rc, oa, oc, -, -, ev, c0, -, -, -, c4, fz⟩ := h.cells
  have hlb := h.lt
  have hmn := Lib.hid (fun w => MayName_any s w)
  have hwd := Lib.hid (fun w => mayWide_any n w)
  have hlen := hs.len
  have hhas := Lib.hid (fun w2 (hb2 : Below w.heap.size w w2) => has_any (h.below hb2) hW.pos (c := c) (hs.step hb2) hl)
  have hfin := Lib.hid (fun w2 (hb2 : Below w.heap.size w w2) => NStep.of_below h hb2)
  have hat := Lib.hid (fun w2 (hb2 : Below w.heap.size w w2) => at_any (a := oa) (n := N.outs.length) (c := oc) (by have := h.outs.below hb2; rw [ev] at this; exact this) rfl s)
  unfold addOut
  rw [hlen]
  cases hm : mayName s with
  | false =>
    rw [hm] at hmn
    simp only [Bool.false_and, if_neg (show ¬ (false = true) by simp)]
    clear h hs hhas hat hwd
    go_enter Tryz.func76, Tryz.ntmps76
    go_wp2_with (first
      | (go_at_call 48; (with_reducible refine hst.out.mono ?_); rintro e w2 ⟨rfl, rfl⟩)
      | (go_at_call 49; (with_reducible refine (hmn.out _).mono ?_); rintro e w2 ⟨rfl, hb2⟩))
    go_ret
    exact ⟨rfl, _, hfin.out _ hb2⟩
  | true =>
    rw [hm] at hmn
    cases hw : wide n with
    | false =>
      rw [hw] at hwd
      simp only [Bool.false_and, Bool.and_false, if_neg (show ¬ (false = true) by simp)]
      clear h hs hhas hat
      go_enter Tryz.func76, Tryz.ntmps76
      go_wp2_with (first
        | (go_at_call 48; (with_reducible refine hst.out.mono ?_); rintro e w2 ⟨rfl, rfl⟩)
        | (go_at_call 49; (with_reducible refine (hmn.out _).mono ?_); rintro e w2 ⟨rfl, hb2⟩)
        | (go_at_call 123; (with_reducible refine (hwd.out _).mono ?_); rintro e w3 ⟨rfl, rfl⟩))
      go_ret
      exact ⟨rfl, _, hfin.out _ hb2⟩
    | true =>
      rw [hw] at hwd
      have hn64 := wide_le hw
      cases hh : allHas N.g l with
      | false =>
        rw [hh] at hhas
        simp only [Bool.false_and, Bool.and_false, if_neg (show ¬ (false = true) by simp)]
        clear h hs hat
        go_enter Tryz.func76, Tryz.ntmps76
        go_wp2_with (first
          | (go_at_call 48; (with_reducible refine hst.out.mono ?_); rintro e w2 ⟨rfl, rfl⟩)
          | (go_at_call 49; (with_reducible refine (hmn.out _).mono ?_); rintro e w2 ⟨rfl, hb2⟩)
          | (go_at_call 123; (with_reducible refine (hwd.out _).mono ?_); rintro e w3 ⟨rfl, rfl⟩)
          | (go_at_call 124; (with_reducible refine (hhas.out _ hb2).mono ?_); rintro e w3 ⟨rfl, hb3⟩; have hb4 := nextw hb2 hb3))
        go_ret
        exact ⟨rfl, _, hfin.out _ hb4⟩
      | true =>
        rw [hh] at hhas
        simp only [Bool.true_and, if_true]
        cases he : atB N.outs s with
        | some j =>
          rw [he] at hat
          change Hid (∀ w2, Below w.heap.size w w2 → Calls _ _ _ _ fun e w' => e = .returned (.int .i64 (j : Int)) ∧ _) at hat
          have g0 : decide (0 ≤ (j : Int)) = true := by simp
          simp only [Option.isSome_some, if_true]
          clear h hs
          go_enter Tryz.func76, Tryz.ntmps76
          go_wp2_with (first
            | (go_at_call 48; (with_reducible refine hst.out.mono ?_); rintro e w2 ⟨rfl, rfl⟩)
            | (go_at_call 49; (with_reducible refine (hmn.out _).mono ?_); rintro e w2 ⟨rfl, hb2⟩)
            | (go_at_call 123; (with_reducible refine (hwd.out _).mono ?_); rintro e w3 ⟨rfl, rfl⟩)
            | (go_at_call 124; (with_reducible refine (hhas.out _ hb2).mono ?_); rintro e w3 ⟨rfl, hb3⟩; have hb4 := nextw hb2 hb3; have d4 := stepc hb4 hlb c4)
            | (go_at_call 56; (with_reducible refine (hat.out _ hb4).mono ?_); rintro e w5 ⟨rfl, hb5⟩; have hb6 := nextw hb4 hb5))
          go_ret
          exact ⟨rfl, _, hfin.out _ hb6⟩
        | none =>
          rw [he] at hat
          change Hid (∀ w2, Below w.heap.size w w2 → Calls _ _ _ _ fun e w' => e = .returned (.int .i64 (-1)) ∧ _) at hat
          simp only [Option.isSome_none, if_neg (show ¬ (false = true) by simp)]
          obtain ⟨K, hK⟩ := h.outs
          have hcl := Lib.hid (fun w2 (hb2 : Below w.heap.size w w2) => clone_lit (c := c) (hs.step hb2) (by omega))
          have hrow := Lib.hid (fun w2 (hb2 : Below w.heap.size w w2) => (show w2.ownsRow 0 71 2 (.slice oa N.outs.length oc) N.outs.length (bvCells K) by have := (hK.below hb2).own; rw [ev] at this; exact this))
          have hpush := Lib.hid (fun (wa w1 : World) (hb : Below w.heap.size w wa) (la : Option Addr) (lc : Nat) (hl : LRow wa la n lc l) (g cap : Nat) hown hg hat => out_push (w1 := w1) h hb hK (s := s) hl (g := g) (cap := cap) hown hg hat)
          rw [ev] at hpush
          have hne := netBox_far h (v := .slice oa N.outs.length oc) (.inr (.inr ev.symm))
          have f4 := fz 4
          obtain ⟨i0, hi, hz0, hz1, hz2⟩ := info_parts info_bus
          clear h hs hK fz hlen hl
          generalize N.outs.length = k at *
          go_enter Tryz.func76, Tryz.ntmps76
          go_upto_region 7 with (first
            | (go_at_call 48; (with_reducible refine hst.out.mono ?_); rintro e w2 ⟨rfl, rfl⟩)
            | (go_at_call 49; (with_reducible refine (hmn.out _).mono ?_); rintro e w2 ⟨rfl, hb2⟩)
            | (go_at_call 123; (with_reducible refine (hwd.out _).mono ?_); rintro e w3 ⟨rfl, rfl⟩)
            | (go_at_call 124; (with_reducible refine (hhas.out _ hb2).mono ?_); rintro e w3 ⟨rfl, hb3⟩; have hb4 := nextw hb2 hb3; have d4 := stepc hb4 hlb c4)
            | (go_at_call 56; (with_reducible refine (hat.out _ hb4).mono ?_); rintro e w5 ⟨rfl, hb5⟩; have hb6 := nextw hb4 hb5; have e4 := stepc hb6 hlb c4))
          have hb6 := Lib.hid hb6
          clear hb2 hb3 hb4 hb5 d4 hst hmn hwd hhas hat c4 c0
          go_region_law (first
            | (go_simp; go_at_call 57; (with_reducible refine (hcl.out _ hb6.out.drew).mono ?_); rintro e w6 ⟨a2, c2, rfl, hM⟩; have hb7 := nextw hb6.out.drew hM.below; have f5 := stepc (nextw ((Below.refl _ _).drew) hM.below) (by have := hb6.out.size; omega) e4; have ff5 := ((bcell hb7).2 q.b 4 hlb).trans f4; have hlr := Lib.hid hM.lrow; have hlb6 : q.b < w6.heap.size := Nat.lt_of_lt_of_le hlb hb7.size; have hb7 := Lib.hid hb7; clear hM)
            | (refine step_append_lies _ (by rfl) (.tmp 36) (.tmp 41) _ (by rfl) 0 71 i0 (.agg #[.string ByteArray.empty, .slice none 0 0]) 2 40 Tryz.underlying58 hi hz0 hz1 hz2 rfl (by decide) (.slice oa k oc) k (bvCells K) (by rfl) (hrow.out _ (hb7.out.alloc hb7.out.size _)) ⟨w6.heap.size, 0, none⟩ 1 1 [.string s, .slice a2 n c2] (by rfl) rfl (news_list _ _ _) (by simp [Value.oneCell']) (by decide) (by unfold maxLen; omega) (by omega) (by simp) _ rfl ?_; intro g1 cap1 w7 hown1 hgrow1 hat1 hlt1; obtain ⟨x0, x1⟩ := grow_box hgrow1 (b := q.b) (o := 4) (v := .slice oa k oc) (by go_simp) (by go_simp) hne))
          all_goals go_wp2
          all_goals go_ret
          all_goals
            obtain ⟨q', hq⟩ := hpush.out _ _ (hb7.out.alloc hb7.out.size _) _ _ (hlr.out.below ((Below.refl _ _).alloc (Nat.le_refl _) _)) _ _ hown1 hgrow1 hat1
            exact ⟨rfl, q', hq⟩

/-! ### AddIn -/
theorem Step.store {p p' : Pl} {w w' : World} {G' : Gr} (h : Step p w p' w' G') {g : Nat} {cur : Array Value} {fz : Nat × Nat} (hg : w.heap.size ≤ g) (ht : w'.heap[g]? = some (.cells cur 66 fz)) (o : Nat) (v : Value) : Step p w p' (w'.setCell ⟨g, o, none⟩ v) G' := by
  have hk : Kept (fun k => k = g) w' (w'.setCell ⟨g, o, none⟩ v) := ⟨rfl, rfl, rfl, by simp [World.setCell], fun k _ hn => Below.heap_setCell _ _ _ _ hn⟩
  refine ⟨h.is.beside hk (fun k e hp => by subst e; exact h.is.other ht (by decide) (by decide) (by decide) hp), ?_, h.b, h.new⟩
  exact ⟨h.kept.os, h.kept.tape, h.kept.output, by have := h.kept.size; simp [World.setCell]; omega, fun k hlt hn => by rw [Below.heap_setCell _ _ _ _ (show k ≠ g by omega)]; exact h.kept.block k hlt hn⟩
def nf (n i : Nat) : Int := 2 * ((n + i : Nat) : Int)
theorem newL_row (G : Gr) (k : Nat) : newL G k = row k (nf G.nodes.length) := rfl
/-- One input more, and its literal laid. -/
structure Fill (w : World) (q : NPl) (G : Gr) (g m j : Nat) (wr : World) : Prop where
  step : ∃ p', Step q.g w p' wr (inputsN G j)
  own : wr.ownsRow w.heap.size 66 1 (.slice (some ⟨g, 0, none⟩) m m) m ((fillF (nf G.nodes.length) m j).map (Value.int .u32))
theorem Fill.next {w wr w2 : World} {q : NPl} {G : Gr} {g m j : Nat} (h : Fill w q G g m j wr) {p p' : Pl} (h1 : Step q.g w p wr (inputsN G j)) (hS : Step p wr p' w2 (inputG (inputsN G j))) : Fill w q G g m (j + 1) (w2.setCell ⟨g, j, none⟩ (.int .u32 (2 * ((inputsN G j).nodes.length : Int)))) ∧ w2.cell? ⟨g, j, none⟩ = wr.cell? ⟨g, j, none⟩ ∧ w2.frozen? ⟨g, j, none⟩ = false := by
  have hb := own_beside h1.is h.own hS.kept (by decide) (by decide) (by decide)
  have hst := (hb.stored j (.int .u32 (nf G.nodes.length j))).1
  rw [fillK_set] at hst
  have e : 2 * ((inputsN G j).nodes.length : Int) = nf G.nodes.length j := by rw [inputsN_len]; rfl
  obtain ⟨c, hc⟩ := own_type hb (k := g) rfl
  have hg := own_ge h.own g rfl
  refine ⟨⟨⟨p', (h1.trans hS).store hg hc _ _⟩, by rw [e]; exact hst⟩, ?_, hb.frozenAt j⟩
  obtain ⟨c0, hc0⟩ := own_type h.own (k := g) rfl
  have := hS.kept.block g (Array.getElem?_eq_some_iff.1 hc0).1 (fun hp => h1.is.other hc0 (by decide) (by decide) (by decide) hp)
  unfold World.cell?
  simp only [this]
set_option maxHeartbeats 1000000 in
theorem AddIn_any {w : World} {q : NPl} {N : Nt} (h : NetIs w q N) (hW : Wf N.g) (hm : N.g.nodes.length ≤ 190000) (ho : N.ins.length ≤ 10000) (s : ByteArray) (kw : Int) :
    Calls Tryz.prog 67 #[.pointer (some ⟨q.b, 0, none⟩), .string s, .int .i64 kw] w fun e w' => ∃ (a2 : Option Addr) (c2 : Nat), e = .returned (.tuple #[.slice a2 (addIn N s kw).2.1.length c2, .int .i64 (addIn N s kw).2.2]) ∧ LRow w' a2 (addIn N s kw).2.1.length c2 (addIn N s kw).2.1 ∧ ∃ q', NStep q w q' w' (addIn N s kw).1 := by
  have hst := Lib.hid (nstands_any h hW.pos)
  obtain ⟨ia, ic, ra, rc, oa, oc, ev, -, -, c0, -, c2, -, -, fz⟩ := h.cells
  have hlb := h.lt
  have hmn := Lib.hid (fun w => MayName_any s w)
  have hwd := Lib.hid (fun w => mayWide_any kw w)
  have hfin := Lib.hid (fun w2 (hb2 : Below w.heap.size w w2) => NStep.of_below h hb2)
  have hat := Lib.hid (fun w2 (hb2 : Below w.heap.size w w2) => at_any (a := ia) (n := N.ins.length) (c := ic) (by have := h.ins.below hb2; rw [ev] at this; exact this) rfl s)
  have hnil : ∀ w : World, LRow w none 0 0 [] := fun w => ⟨rfl, own_nil _ _ _⟩
  unfold addIn
  cases hmy : mayName s with
  | false =>
    rw [hmy] at hmn
    simp only [Bool.false_and, if_neg (show ¬ (false = true) by simp)]
    clear h hat hwd
    go_enter Tryz.func67, Tryz.ntmps67
    go_wp2_with (first
      | (go_at_call 48; (with_reducible refine hst.out.mono ?_); rintro e w2 ⟨rfl, rfl⟩)
      | (go_at_call 49; (with_reducible refine (hmn.out _).mono ?_); rintro e w2 ⟨rfl, hb2⟩))
    go_ret2
    exact ⟨none, 0, rfl, hnil _, _, hfin.out _ hb2⟩
  | true =>
    rw [hmy] at hmn
    cases hw : wide kw with
    | false =>
      rw [hw] at hwd
      simp only [Bool.and_false, if_neg (show ¬ (false = true) by simp)]
      clear h hat
      go_enter Tryz.func67, Tryz.ntmps67
      go_wp2_with (first
        | (go_at_call 48; (with_reducible refine hst.out.mono ?_); rintro e w2 ⟨rfl, rfl⟩)
        | (go_at_call 49; (with_reducible refine (hmn.out _).mono ?_); rintro e w2 ⟨rfl, hb2⟩)
        | (go_at_call 123; (with_reducible refine (hwd.out _).mono ?_); rintro e w3 ⟨rfl, rfl⟩))
      go_ret2
      exact ⟨none, 0, rfl, hnil _, _, hfin.out _ hb2⟩
    | true =>
      rw [hw] at hwd
      simp only [Bool.true_and, if_true]
      cases he : atB N.ins s with
      | some j =>
        rw [he] at hat
        change Hid (∀ w2, Below w.heap.size w w2 → Calls _ _ _ _ fun e w' => e = .returned (.int .i64 (j : Int)) ∧ _) at hat
        have g0 : decide (0 ≤ (j : Int)) = true := by simp
        simp only [Option.isSome_some, if_true]
        clear h
        go_enter Tryz.func67, Tryz.ntmps67
        go_wp2_with (first
          | (go_at_call 48; (with_reducible refine hst.out.mono ?_); rintro e w2 ⟨rfl, rfl⟩)
          | (go_at_call 49; (with_reducible refine (hmn.out _).mono ?_); rintro e w2 ⟨rfl, hb2⟩; have d2 := stepc hb2 hlb c2)
          | (go_at_call 123; (with_reducible refine (hwd.out _).mono ?_); rintro e w3 ⟨rfl, rfl⟩)
          | (go_at_call 56; (with_reducible refine (hat.out _ hb2).mono ?_); rintro e w5 ⟨rfl, hb5⟩; have hb6 := nextw hb2 hb5))
        go_ret2
        exact ⟨none, 0, rfl, hnil _, _, hfin.out _ hb6⟩
      | none =>
        rw [he] at hat
        change Hid (∀ w2, Below w.heap.size w w2 → Calls _ _ _ _ fun e w' => e = .returned (.int .i64 (-1)) ∧ _) at hat
        simp only [Option.isSome_none, if_neg (show ¬ (false = true) by simp)]
        obtain ⟨hk1, hk2⟩ := wide_iff.1 hw
        obtain ⟨m, rfl⟩ := Int.eq_ofNat_of_zero_le (show 0 ≤ kw by omega)
        rw [newL_len, show ((m : Int)).toNat = m by omega]
        have hnd := Lib.hid (fun w2 (hb2 : Below w.heap.size w w2) => nodes_any (h.g.below hb2).lay hW.pos)
        have hs0 := Lib.hid (fun w2 (hb2 : Below w.heap.size w w2) => Step.of_below h.g hb2)
        have hin := Lib.hid (fun (p' : Pl) (w2 : World) (j : Nat) (hj : j ≤ 64) (hS : Step q.g w p' w2 (inputsN N.g j)) => Input_any hS.is (inputsN_wf hW j) (by rw [inputsN_len]; omega))
        have hgb := Lib.hid (fun (p' : Pl) (w2 : World) (j : Nat) (hS : Step q.g w p' w2 (inputsN N.g j)) => (show p'.b = q.g.b ∧ NStep q w { q with g := p' } w2 { N with g := inputsN N.g j } from ⟨hS.b, h.grow hS⟩))
        obtain ⟨i0, hi, hz0, hz1, hz2⟩ := info_parts info_bus
        obtain ⟨i1, hi1, hy0, hy1, hy2⟩ := info_parts info_lit
        have hg1 : decide (278528 < (N.g.nodes.length : Int) - 1 + m) = false := by simp; omega
        have hm64 : m ≤ 64 := by omega
        have hm1 : 1 ≤ m := by omega
        have HI := Lib.hid (fillK_zero .u32 (nf N.g.nodes.length) m)
        have hNL := Lib.hid (newL_row N.g m)
        clear h hW hk1 hk2 fz
        go_enter Tryz.func67, Tryz.ntmps67
        go_wp2_with (first
          | (go_at_call 48; (with_reducible refine hst.out.mono ?_); rintro e w2 ⟨rfl, rfl⟩)
          | (go_at_call 49; (with_reducible refine (hmn.out _).mono ?_); rintro e w2 ⟨rfl, hb2⟩; have d2 := stepc hb2 hlb c2)
          | (go_at_call 123; (with_reducible refine (hwd.out _).mono ?_); rintro e w3 ⟨rfl, rfl⟩)
          | (go_at_call 56; (with_reducible refine (hat.out _ hb2).mono ?_); rintro e w5 ⟨rfl, hb5⟩; have hb6 := nextw hb2 hb5; have d0 := stepc hb6 hlb c0)
          | (go_at_call 21; (with_reducible refine (hnd.out _ hb6).mono ?_); rintro e w6 ⟨rfl, rfl⟩)
          | (at_make; refine wpList_make_full _ rfl _ _ 54 rfl w5.heap.size 66 i1 (.int .u32 0) 1 Tryz.underlying54 hi1 hy0 hy1 .i64 .i64 m m m rfl rfl rfl rfl (by rw [hy2]; omega) (by unfold maxLen; omega) (Nat.le_refl _) ?_; intro w7 hown hg))
        rw [HI.out] at hown
        have hb7 := (hb6).grown hg hb6.size (fun _ h => by cases h)
        have hgz := hb6.size
        generalize w5.heap.size = g at *
        have hF : Hid (Fill w q N.g g m 0 w7) := Lib.hid ⟨⟨_, hs0.out _ hb7⟩, own_base hown hgz⟩
        clear hst hmn hwd hat hnd hs0 HI hown hg hb7 hb6 hb5 hb2 d0 d2 hg1
        go_loopw [43] (fun i wr => ∃ j : Nat, j ≤ m ∧ i = .int .i64 j ∧ Hid (Fill w q N.g g m j wr)) (fun i _ => m - (intOf i).toNat)
        case atStart => exact ⟨0, Nat.zero_le _, rfl, hF⟩
        case round =>
          clear hF
          obtain ⟨j, hj, rfl, hF⟩ := hrel
          obtain ⟨p, hS⟩ := hF.out.step
          obtain ⟨hpb, hNS⟩ := hgb.out _ _ _ hS
          by_cases hlt : j < m
          · have hin1 := Lib.hid (hin.out _ _ j (by omega) hS)
            rw [hpb] at hin1
            have hnx := Lib.hid (fun p' w2 (h2 : Step p wr p' w2 (inputG (inputsN N.g j))) => hF.out.next hS h2)
            have hsome := Lib.hid (own_some hF.out.own hlt)
            obtain ⟨-, -, -, -, -, -, -, -, -, d0, -⟩ := hNS.is.cells
            simp only [hpb] at d0
            have hfr := hF.out.own.frozenAt j
            generalize 2 * ((inputsN N.g j).nodes.length : Int) = x at *
            clear hS hNS hgb hin
            go_wp2_with (go_at_call 104; (with_reducible refine hin1.out.mono ?_); rintro e w8 ⟨rfl, p', hS2⟩; obtain ⟨n1, n2, n3⟩ := hnx.out _ _ hS2; obtain ⟨u, hu⟩ := hsome.out; rw [hu] at n2; have n1 := Lib.hid n1; clear hS2 hin1 hnx)
            exact ⟨⟨j + 1, by omega, by go_num, n1⟩, by simp [intOf]; omega⟩
          · obtain rfl : j = m := by omega
            have hL : Hid (Row .u32 wr (some ⟨g, 0, none⟩) j (newL N.g j)) := Lib.hid (by have := hF.out.own; rw [fillF_full, ← hNL.out] at this; exact Row.of_own this (newL_len _ _) (by omega))
            have hLR : Hid (LRow wr (some ⟨g, 0, none⟩) j j (newL N.g j)) := Lib.hid (by have := hF.out.own; rw [fillF_full, ← hNL.out] at this; exact ⟨newL_len _ _, own_base this (Nat.zero_le _)⟩)
            have hI := Lib.hid hNS.is
            obtain ⟨K, hK⟩ := hNS.is.ins
            have hcl := Lib.hid (fun w2 (hb2 : Below wr.heap.size wr w2) => clone_lit (c := j) (hL.out.step hb2) (by omega))
            have hrow := Lib.hid (fun w2 (hb2 : Below wr.heap.size wr w2) => (show w2.ownsRow 0 71 2 (.slice ia N.ins.length ic) N.ins.length (bvCells K) by have := (hK.below hb2).own; simp only [ev] at this; exact this))
            have hpush := Lib.hid (fun (wa w1 : World) (hb : Below wr.heap.size wr wa) (la : Option Addr) (lc : Nat) (hl : LRow wa la j lc (newL N.g j)) (g cap : Nat) hown hg hat => in_push (w1 := w1) hNS.is hb hK (s := s) hl (g := g) (cap := cap) hown hg hat)
            simp only [ev] at hpush
            have hne := netBox_far hNS.is (v := .slice ia N.ins.length ic) (.inl ev.symm)
            have hlr := hNS.is.lt
            obtain ⟨ja, jc, sa, sc, ta, tc, e1, -, -, -, -, d2, -, -, fz⟩ := hNS.is.cells
            simp only [ev, Value.slice.injEq] at e1
            obtain ⟨e1, -, e3⟩ := e1
            rw [← e1, ← e3] at d2
            have f2 := fz 2
            have hNL2 := Lib.hid hNS.is.noLits
            simp only [ev] at hNS hNL2
            have hNS2 := Lib.hid hNS
            simp only [] at hne hlr d2 f2
            clear hNS hI
            clear hS hK hL fz hF hgb hin e1 e3 hNL
            generalize N.ins.length = k at *
            have hwr := Lib.hid (Below.refl wr.heap.size wr)
            go_upto_region 18 with fail
            go_region_law (first
              | (go_simp; go_at_call 57; (with_reducible refine (hcl.out _ hwr.out.drew).mono ?_); rintro e w6 ⟨a2, c2, rfl, hM⟩; have hb7 := nextw hwr.out.drew hM.below; have f5 := stepc hb7 hlr d2; have ff5 := ((bcell hb7).2 q.b 2 hlr).trans f2; have hlr6 := Lib.hid hM.lrow; have hlb6 : q.b < w6.heap.size := Nat.lt_of_lt_of_le hlr hb7.size; have hb7 := Lib.hid hb7; clear hM)
              | (refine step_append_lies _ (by rfl) (.tmp 66) (.tmp 71) _ (by rfl) 0 71 i0 (.agg #[.string ByteArray.empty, .slice none 0 0]) 2 40 Tryz.underlying58 hi hz0 hz1 hz2 rfl (by decide) (.slice ia k ic) k (bvCells K) (by rfl) (hrow.out _ (hb7.out.alloc hb7.out.size _)) ⟨w6.heap.size, 0, none⟩ 1 1 [.string s, .slice a2 j c2] (by rfl) rfl (news_list _ _ _) (by simp [Value.oneCell']) (by decide) (by unfold maxLen; omega) (by omega) (by simp) _ rfl ?_; intro g1 cap1 w7 hown1 hgrow1 hat1 hlt1; obtain ⟨x0, x1⟩ := grow_box hgrow1 (b := q.b) (o := 2) (v := .slice ia k ic) (by go_simp) (by go_simp) hne))
            all_goals go_wp2
            all_goals go_ret2
            all_goals
              obtain ⟨q', hq⟩ := hpush.out _ _ (hb7.out.alloc hb7.out.size _) _ _ (hlr6.out.below ((Below.refl _ _).alloc (Nat.le_refl _) _)) _ _ hown1 hgrow1 hat1
              exact ⟨_, _, rfl, hLR.out.keptF hq.kept hNL2.out, q', hNS2.out.trans hq⟩
end Go.Proofs.YtafoohdndlhbnaaGreatDoor
end

section
namespace Go.Proofs.YtafoohdndlhbnaaGreatDoor
open Go.RowKit Go.Maps Bits
set_option maxRecDepth 100000

theorem check_no {w : World} {p : Pl} {G : Gr} (hG : Is w p G) (hW : Wf G) {a : Option Addr} {n cap : Nat} {l : List Int} (hs : Row .u32 w a n l) (hl : ∀ x ∈ l, IsLit x) (hh : allHas G l = false) :
    Calls Tryz.prog 147 #[.pointer (some ⟨p.b, 0, none⟩), .slice a n cap] w fun e w' => e = .returned (.int .i64 1) ∧ Below w.heap.size w w' := by
  have hst := Lib.hid (stands_any hG.lay hW.pos)
  obtain ⟨-, -, c2, -, -, -⟩ := hG.lay.cells
  have hlt := hG.lay.lt
  have HS := Lib.hid hs
  have hn := hs.le
  have HT := Lib.hid (fun j (hj : j < n) => allHas_take G l j (by rw [hs.len]; exact hj))
  have HL := Lib.hid (fun j (hj : j < n) => hl (l.getD j 0) (by simp [List.getD, hs.len, hj]))
  have HA : Hid (allHas G (l.take n) = false) := Lib.hid (by rw [← hs.len, List.take_length]; exact hh)
  have HZ : Hid (allHas G (l.take 0) = true) := Lib.hid rfl
  have HB : Hid (∀ x, hasB G x = decide (x / 2 < (G.nodes.length : Int))) := Lib.hid (fun x => rfl)
  have h0 := hW.pos
  clear hG hW hs hl hh
  generalize G.nodes.length = k at *
  generalize allHas G = P at *
  generalize hasB G = B at *
  go_enter Tryz.func147, Tryz.ntmps147
  go_wp2_with (go_at_call 58; refine hst.out.mono ?_; rintro e w2 ⟨rfl, rfl⟩)
  go_loopw [12] (fun i wr => ∃ j : Nat, j ≤ n ∧ i = .int .i64 j ∧ Hid (Below w.heap.size w wr) ∧ Hid (P (l.take j) = true)) (fun i _ => n - (intOf i).toNat)
  case atStart => exact ⟨0, Nat.zero_le _, rfl, Lib.hid (Below.refl _ _), HZ⟩
  case round =>
    obtain ⟨j, hj, rfl, hB, ht⟩ := hrel
    by_cases hjn : j < n
    · obtain ⟨b, off, rfl, hb, hc⟩ := HS.out.at (by omega)
      have hcj := (hB.out.cell (p := ⟨b, off + j, none⟩) hb).trans (hc j hjn)
      have htk := Lib.hid (HT.out j hjn)
      have hlj := HL.out j hjn
      have hBx := Lib.hid (HB.out (l.getD j 0))
      have d2 := stepc hB.out hlt c2
      generalize l.getD j 0 = x at *
      have hnode := Lib.hid (fun w => node_any x hlj w)
      have hBn := Lib.hid (fun q => nextw hB.out (below_draws wr q))
      clear hc
      by_cases hx : x / 2 < (k : Int)
      · have g0 : decide ((k : Int) ≤ x / 2) = false := by simp; omega
        go_wp2
        go_quiet (first | (go_at_call 128; exact Calls.quiet_of_same ((hnode.out _).mono (fun _ _ h => ⟨h.1, h.2.symm⟩))))
        go_wp2
        exact ⟨⟨j + 1, by omega, by go_num, Lib.hid (hBn.out _), Lib.hid (by rw [htk.out, ht.out, hBx.out]; simp [hx])⟩, by simp [intOf]; omega⟩
      · have g0 : decide ((k : Int) ≤ x / 2) = true := by simp; omega
        go_wp2
        go_quiet (first | (go_at_call 128; exact Calls.quiet_of_same ((hnode.out _).mono (fun _ _ h => ⟨h.1, h.2.symm⟩))))
        go_wp2
        go_ret
        exact ⟨rfl, hBn.out _⟩
    · obtain rfl : j = n := by omega
      have := ht.out.symm.trans HA.out
      cases this
theorem together_no {w : World} {p : Pl} {G : Gr} (hG : Is w p G) (hW : Wf G) {a : Option Addr} {n cap : Nat} {l : List Int} (hs : Row .u32 w a n l) (hl : ∀ x ∈ l, IsLit x) (hh : allHas G l = false) (z : Int) (V : Value) :
    Calls Tryz.prog 143 #[.pointer (some ⟨p.b, 0, none⟩), .int .u32 z, V, .slice a n cap] w fun e w' => e = .returned (.tuple #[.int .u32 0, .int .i64 1]) ∧ Below w.heap.size w w' := by
  have hck := Lib.hid (check_no hG hW hs hl hh (cap := cap))
  clear hG hW hs hl hh
  go_enter Tryz.func143, Tryz.ntmps143
  go_wp2_with (go_at_call 147; (with_reducible refine hck.out.mono ?_); rintro e w2 ⟨rfl, hB⟩)
  go_ret2
  exact ⟨rfl, hB⟩
def NoCall (f : FuncId) : Prop := ∀ (w : World) (p : Pl) (G : Gr) (a : Option Addr) (n cap : Nat) (l : List Int), Is w p G → Wf G → Row .u32 w a n l → (∀ x ∈ l, IsLit x) → allHas G l = false →
    Calls Tryz.prog f #[.pointer (some ⟨p.b, 0, none⟩), .slice a n cap] w fun e w' => e = .returned (.tuple #[.int .u32 0, .int .i64 1]) ∧ Below w.heap.size w w'
theorem And_no : NoCall 69 := by
  intro w p G a n cap l hG hW hs hl hh
  have ht := Lib.hid (fun V => together_no hG hW hs hl hh (cap := cap) 1 V)
  clear hG hW hs hl hh
  go_enter Tryz.func69, Tryz.ntmps69
  go_wp2_with (go_at_call 143; (with_reducible refine (ht.out _).mono ?_); rintro e w2 ⟨rfl, hB⟩)
  go_ret2
  exact ⟨rfl, hB⟩
theorem Xor_no : NoCall 71 := by
  intro w p G a n cap l hG hW hs hl hh
  have ht := Lib.hid (fun V => together_no hG hW hs hl hh (cap := cap) 0 V)
  clear hG hW hs hl hh
  go_enter Tryz.func71, Tryz.ntmps71
  go_wp2_with (go_at_call 143; (with_reducible refine (ht.out _).mono ?_); rintro e w2 ⟨rfl, hB⟩)
  go_ret2
  exact ⟨rfl, hB⟩
/-- A gate of two, asked of a netlist's graph. -/
theorem gate_any' {f : FuncId} {T : Gr → Int → Int → Gr × Int} {z : Int} {k : Nat} (hf : ManyCall f T z) (hn : NoCall f) (hT : OpOk T k) {w : World} {q : NPl} {N : Nt} {rest : List Int} (h : NetIs w q N) (hg : Good N rest) (hm : N.g.nodes.length ≤ 190000) {a : Option Addr} {b c : Int} (hs : Row .u32 w a 2 [b, c]) (hb : IsLit b) (hc : IsLit c) (hfar : ∀ x, a = some x → ¬ q.g.has x.block) :
    Calls Tryz.prog f #[.pointer (some ⟨q.g.b, 0, none⟩), .slice a 2 2] w fun e w' => e = .returned (.tuple #[.int .u32 (gateN T N b c).2.1, .int .i64 (gateN T N b c).2.2]) ∧ ∃ q', NStep q w q' w' (gateN T N b c).1 := by
  have hl : ∀ x ∈ [b, c], IsLit x := by intro x hx; simp at hx; rcases hx with rfl | rfl <;> assumption
  unfold gateN
  cases hh : allHas N.g [b, c] with
  | true =>
    have hA := allHas_there hl hh
    have := hf w q.g N.g a 2 2 [b, c] h.g hg.wf hs (by omega) hfar hA (by omega)
    simp only [if_true]
    exact this.mono fun e w' ⟨he, p', hS⟩ => ⟨he, _, h.grow hS⟩
  | false =>
    have := hn w q.g N.g a 2 2 [b, c] h.g hg.wf hs hl hh
    simp only [if_neg (show ¬ (false = true) by simp)]
    exact this.mono fun e w' ⟨he, hB⟩ => ⟨he, _, NStep.of_below h hB⟩
theorem gate_good {T : Gr → Int → Int → Gr × Int} {k : Nat} (hT : OpOk T k) {N : Nt} {rest : List Int} (hg : Good N rest) (hm : N.g.nodes.length ≤ 190000) {b c : Int} (hb : IsLit b) (hc : IsLit c) : Good (gateN T N b c).1 rest ∧ (gateN T N b c).1.g.nodes.length ≤ N.g.nodes.length + k := by
  have hl : ∀ x ∈ [b, c], IsLit x := by intro x hx; simp at hx; rcases hx with rfl | rfl <;> assumption
  unfold gateN
  cases hh : allHas N.g [b, c] with
  | true =>
    have hA := allHas_there hl hh
    have g := hT N.g b c hg.wf (hA b (by simp)) (hA c (by simp)) (by omega)
    simp only [if_true]
    exact ⟨hg.grow g, g.len⟩
  | false =>
    simp only [if_neg (show ¬ (false = true) by simp)]
    exact ⟨hg, by omega⟩

end Go.Proofs.YtafoohdndlhbnaaGreatDoor
end
