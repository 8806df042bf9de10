/-
  open, Check.
-/
import Derived.Test.YtjdebancpgpebaaNetO
namespace Go.Proofs.Ytjdebancpgpebaa
open Go.RowKit Go.Maps Bits
set_option maxRecDepth 100000

set_option maxHeartbeats 4000000 in
theorem open_any {w : World} {q : NPl} {N : Nt} {rest : List Int} (h : NetIs w q N) (hg : Good N rest) (hm : N.g.nodes.length ≤ 190000) :
    Calls Try.prog 40 #[.pointer (some ⟨q.b, 0, none⟩)] w fun e w' => e = .returned (.tuple #[.int .i64 rest.length, .bool true]) ∧ Below w.heap.size w w' := by
  have hb1 : Below w.heap.size w (w.alloc (.cells #[.pointer (some ⟨q.b, 0, none⟩)] 25)) := (Below.refl _ _).alloc (Nat.le_refl _) _
  have hz1 : (w.alloc (.cells #[.pointer (some ⟨q.b, 0, none⟩)] 25)).heap.size = w.heap.size + 1 := by simp
  have k0 : (w.alloc (.cells #[.pointer (some ⟨q.b, 0, none⟩)] 25)).cell? ⟨w.heap.size, 0, none⟩ = some (.pointer (some ⟨q.b, 0, none⟩)) := by simp [go_sem]
  have h1 := h.below hb1
  obtain ⟨ia, ic, ra, rc, oa, oc, e1, e2, e3, a0, -, a2, a3, -, -⟩ := h.cells
  have hqlt := h.lt
  have c0 := stepc hb1 hqlt a0
  have hlt := h1.lt
  have hcn := hg.wf.cnt
  have hin := Lib.hid (InputsOf_any h1.g hg.wf (by omega))
  have hnd := Lib.hid (fun w2 (hb : Below (w.alloc (.cells #[.pointer (some ⟨q.b, 0, none⟩)] 25)).heap.size (w.alloc (.cells #[.pointer (some ⟨q.b, 0, none⟩)] 25)) w2) => nodes_any (h1.g.below hb).lay hg.wf.pos)
  have htk := Lib.hid (fun (wr : World) (qn qf qt fb : Nat) (x : Int) (l : List Int) (t : Nat) (hT : Tk w q N.g.nodes.length qn qf qt fb (x :: l) t wr) (hl : Left N.g (x :: l)) (ht : t ≤ 1000000) => take_lit h hg hT hl ht (by omega))
  have hI := Lib.hid (show BusRow w (.slice ia N.ins.length ic) N.ins by have := h.ins; rw [e1] at this; exact this)
  have hR := Lib.hid (show RegRow w (.slice ra N.regs.length rc) N.regs by have := h.regs; rw [e2] at this; exact this)
  have hleI : N.ins.length ≤ 9223372036854775807 := by obtain ⟨K, hK⟩ := h.ins; exact own_maxLen hK.own
  have hleR : N.regs.length ≤ 9223372036854775807 := own_maxLen h.regs
  have hLR := Lib.hid (leftR_left hg)
  have hLD := Lib.hid (fun (j : Nat) (hj : j < N.ins.length) => leftD_left hg hj)
  have hL0 := Lib.hid (fun (j : Nat) (hj : j < N.ins.length) => leftD_zero N rest hj)
  have hL1 := Lib.hid (fun (j k : Nat) (hj : j < N.ins.length) (hk : k < N.ins[j].lits.length) => leftD_next N rest hj hk)
  have hL2 := Lib.hid (fun (j : Nat) (hj : j < N.ins.length) => leftD_end N rest hj)
  have hL3 := Lib.hid (leftB_end N rest)
  have hR1 := Lib.hid (fun (j : Nat) (hj : j < N.regs.length) => leftR_next N rest hj)
  have hR2 := Lib.hid (leftR_end N rest)
  have hfull := Lib.hid (leftB_full hg)
  have hmark : Hid (∀ j, j < N.g.inputs.length → ∃ i : Nat, N.g.inputs[j]? = some (i : Int) ∧ i < N.g.nodes.length) := Lib.hid (fun j hj => by
    obtain ⟨i, e, _, n, hn, _⟩ := hg.wf.ins j _ (List.getElem?_eq_getElem hj)
    exact ⟨i, by rw [List.getElem?_eq_getElem hj, e], (List.getElem?_eq_some_iff.1 hn).1⟩)
  have hperm : Hid (freeL N.g.nodes.length (marked N.g.inputs N.g.inputs.length) = freeL N.g.nodes.length (leftB N rest 0)) := Lib.hid (by
    rw [leftB_zero]
    unfold marked
    rw [List.take_length]
    exact (freeL_perm _ hg.drv).symm)
  obtain ⟨i0, hi, hz0, hz2, hz3⟩ := info_parts info_boolO
  have HI := Lib.hid (made_free N.g.nodes.length)
  have hlen := hg.drv.length_eq
  unfold inLits at hlen
  rw [List.length_map, List.length_append] at hlen
  have hrl : rest.length ≤ N.g.inputs.length := by omega
  obtain ⟨ni, hni0⟩ : ∃ ni, N.ins.length = ni := ⟨_, rfl⟩
  obtain ⟨nr, hnr0⟩ : ∃ nr, N.regs.length = nr := ⟨_, rfl⟩
  rw [hni0] at a2 hI hleI hL3
  rw [hnr0] at a3 hR hleR hR2
  have hni := Lib.hid hni0
  have hnr := Lib.hid hnr0
  clear h h1 hg hlen e1 e2 e3 hni0 hnr0
  generalize hw1 : w.alloc (.cells #[.pointer (some ⟨q.b, 0, none⟩)] 25) = w1 at *
  generalize hnn : N.g.nodes.length = n at *
  generalize hnI : N.g.inputs = I at *
  generalize hmm : I.length = m at *
  have hmm := Lib.hid hmm
  clear hnn hnI
  go_enter Try.func40, Try.ntmps40
  go_wp2_with (first
    | (go_at_call 14; (with_reducible refine hin.out.mono ?_); rintro e w2 ⟨na, nc, rfl, hio, hb2⟩; have d0 := stepc hb2 hlt c0; have kk := stepc hb2 (by omega) k0; have hn2 := Lib.hid (hnd.out _ hb2); have hio := Lib.hid hio; have hB2 := Lib.hid (nextw hb1 hb2); clear hin hnd)
    | (go_at_call 13; (with_reducible refine hn2.out.mono ?_); rintro e w3 ⟨rfl, rfl⟩)
    | (at_make; refine wpList_make_full _ rfl _ _ 112 rfl w2.heap.size 4 i0 (.bool false) 1 Try.underlying112 hi hz0 hz2 .i64 .i64 n n n rfl rfl rfl rfl (by rw [hz3]; omega) (by unfold maxLen; omega) (Nat.le_refl _) ?_; intro w5 hown hgr))
  have hb25 : Below w2.heap.size w2 w5 := (Below.refl w2.heap.size w2).grown hgr (Nat.le_refl _) (fun _ h => by cases h)
  have hba : Below w5.heap.size w5 (w5.alloc (.cells #[.slice (some ⟨w2.heap.size, 0, none⟩) n n] 112)) := (Below.refl _ _).alloc (Nat.le_refl _) _
  rw [HI.out] at hown
  have hl5 := own_lt hown
  have hs2 := hb2.size
  have hs25 := hb25.size
  have hMk : Hid (Mk w q n w.heap.size w5.heap.size w2.heap.size na m nc I (marked I 0) (w5.alloc (.cells #[.slice (some ⟨w2.heap.size, 0, none⟩) n n] 112))) := Lib.hid ⟨nextw (nextw hB2.out hb25) hba, stepc hba (by omega) (stepc hb25 (by omega) kk), by simp [go_sem], own_base (own_below hown hba) (by omega), own_base (own_below (own_below hio.out hb25) hba) (by omega), by omega, by omega⟩
  clear HI hown hgr hio hb25 hba hb2 hB2 hn2 d0 kk k0 hi hz0 hz2 hz3 c0
  generalize w2.heap.size = fb at *
  generalize w5.heap.size = qf at *
  generalize hqn : w.heap.size = qn at *
  have hm2 : m ≤ 190000 := by omega
  go_loopw [29] (fun i wr => ∃ j : Nat, j ≤ m ∧ i = .int .i64 j ∧ Hid (Mk w q n qn qf fb na m nc I (marked I j) wr)) (fun i _ => m - (intOf i).toNat)
  case atStart => exact ⟨0, Nat.zero_le _, rfl, hMk⟩
  case round =>
    clear hMk
    obtain ⟨j, hj, rfl, hF⟩ := hrel
    have f1 := hF.out.cf
    by_cases hlt : j < m
    · obtain ⟨i, hIj, hin⟩ := hmark.out j hlt
      obtain ⟨gi, cap, e⟩ := own_form hF.out.ins (by omega)
      simp only [Value.slice.injEq] at e
      obtain ⟨rfl, -, -⟩ := e
      have b0 : wr.cell? ⟨gi, j, none⟩ = some (.int .i64 i) := by rw [hF.out.ins.cellAt j (by omega)]; simp [hIj]
      obtain ⟨u, hu⟩ := own_some hF.out.free hin
      have hfz := hF.out.free.frozenAt i
      have hnx := Lib.hid (hF.out.mark hIj)
      clear hF hmark
      go_wp2
      exact ⟨⟨j + 1, by omega, by go_num, hnx⟩, by simp [intOf]; omega⟩
    · obtain rfl : j = m := by omega
      have hT := Lib.hid (hF.out.tk hperm.out)
      have hins := Lib.hid hF.out.ins
      clear hmark hperm hF
      have k1 := hT.out.cn
      have k2 := stepc hT.out.below (by omega) a2
      have hT0 : Hid (Tk w q n qn qf wr.heap.size fb (leftB N rest 0) ((j - (leftB N rest 0).length : Nat) : Int) (wr.alloc (.cells #[.int .i64 0] 3))) := Lib.hid (by rw [hfull.out, Nat.sub_self]; exact hT.out)
      clear hT hfull hins
      obtain ⟨wz, rfl⟩ : ∃ wz : World, wz = wr := ⟨_, rfl⟩
      generalize leftB N rest = LB at *
      generalize leftR N rest = LR at *
      go_wp2
      go_loopw [43] (fun i wr => ∃ i' : Nat, i' ≤ ni ∧ i = .int .i64 i' ∧ Hid (Tk w q n qn qf wz.heap.size fb (LB i') ((j - (LB i').length : Nat) : Int) wr)) (fun i _ => ni - (intOf i).toNat)
      case atStart => exact ⟨0, Nat.zero_le _, rfl, hT0⟩
      case round =>
        clear hT0
        obtain ⟨i, hi, rfl, hT⟩ := hrel
        by_cases hlt : i < ni
        · have hiL : i < N.ins.length := by rw [hni.out]; exact hlt
          obtain ⟨g2, la, lc, rfl, hgl, b0, b1, hr⟩ := hI.out.at hiL
          have hgl2 : g2 < qn := by omega
          have d0 := stepc hT.out.below hgl b0
          have d1 := stepc hT.out.below hgl b1
          have hT2 : Hid (Tk w q n qn qf wz.heap.size fb (leftD N rest i 0) ((j - (leftD N rest i 0).length : Nat) : Int) (wr.alloc (.cells #[.string N.ins[i].name, .slice la N.ins[i].lits.length lc] 46))) := Lib.hid (by rw [hL0.out i hiL]; exact hT.out.step ((Below.refl _ _).alloc (Nat.le_refl _) _))
          have hD := Lib.hid (hLD.out i hiL)
          have hD1 := Lib.hid (fun k => hL1.out i k hiL)
          have hD2 := Lib.hid (hL2.out i hiL)
          have hr := Lib.hid hr.row
          have hle := hr.out.le
          clear hT b0 b1
          generalize hB : N.ins[i] = B at *
          clear hB
          generalize leftD N rest i = LD at *
          generalize hll : B.lits.length = ll at *
          clear hll
          generalize B.name = nm at *
          go_wp2
          go_loopw [50] (fun s wr => ∃ k : Nat, k ≤ ll ∧ s = .int .i64 k ∧ Hid (Tk w q n qn qf wz.heap.size fb (LD k) ((j - (LD k).length : Nat) : Int) wr)) (fun s _ => ll - (intOf s).toNat)
          case atStart => exact ⟨0, Nat.zero_le _, rfl, hT2⟩
          case round =>
            clear hT2 d0 d1
            obtain ⟨k, hk, rfl, hT⟩ := hrel
            by_cases hkl : k < ll
            · obtain ⟨b, off, rfl, hb, hc⟩ := hr.out.at (by omega)
              have c1 := stepc hT.out.below hb (hc k hkl)
              obtain ⟨hl1, hl2⟩ := hD.out k hk
              have e := hD1.out k hkl
              have hT := hT.out
              rw [e] at hl1 hl2 hT
              have htt := Lib.hid (htk.out _ _ _ _ _ _ _ _ hT hl1 (by omega))
              have hcnt : j - (B.lits.getD k 0 :: LD (k + 1)).length + 1 = j - (LD (k + 1)).length := by
                rw [List.length_cons] at hl2 ⊢; omega
              rw [hcnt] at htt
              clear hT hl1 e hcnt hc
              generalize B.lits.getD k 0 = x at *
              go_wp2_with (go_at_call 60; (with_reducible refine htt.out.mono ?_); rintro e w7 ⟨rfl, hT7⟩; have hT7 := Lib.hid hT7)
              exact ⟨⟨k + 1, by omega, by go_num, hT7⟩, by simp [intOf]; omega⟩
            · obtain rfl : k = ll := by omega
              rw [hD2.out] at hT
              go_wp2
              exact ⟨⟨i + 1, by omega, by go_num, hT⟩, by simp [intOf]; omega⟩
        · obtain rfl : i = ni := by omega
          rw [hL3.out] at hT
          have k1 := hT.out.cn
          have k3 := stepc hT.out.below (by omega) a3
          clear hL0 hL1 hL2 hL3 hLD hI a2
          go_wp2
          go_loopw [65] (fun i wr => ∃ i' : Nat, i' ≤ nr ∧ i = .int .i64 i' ∧ Hid (Tk w q n qn qf wz.heap.size fb (LR i') ((j - (LR i').length : Nat) : Int) wr)) (fun i _ => nr - (intOf i).toNat)
          case atStart => exact ⟨0, Nat.zero_le _, rfl, hT⟩
          case round =>
            clear hT k1 k3
            obtain ⟨i, hi, rfl, hT⟩ := hrel
            by_cases hlt : i < nr
            · have hiL : i < N.regs.length := by rw [hnr.out]; exact hlt
              obtain ⟨g2, rfl, hgl, b0, b1, b2, b3⟩ := hR.out.at hiL
              have d0 := stepc hT.out.below hgl b0
              have d1 := stepc hT.out.below hgl b1
              have d2 := stepc hT.out.below hgl b2
              have d3 := stepc hT.out.below hgl b3
              obtain ⟨hl1, hl2⟩ := hLR.out i (by rw [hnr.out]; omega)
              have e := hR1.out i hiL
              have hT := hT.out
              rw [e] at hl1 hl2 hT
              have hT2 := hT.step ((Below.refl wr.heap.size wr).alloc (Nat.le_refl _) (.cells #[.int .u32 N.regs[i].q, .int .u32 N.regs[i].d, .int .u32 N.regs[i].en, .bool N.regs[i].init] 52))
              have htt := Lib.hid (htk.out _ _ _ _ _ _ _ _ hT2 hl1 (by omega))
              have hcnt : j - (N.regs[i].q :: LR (i + 1)).length + 1 = j - (LR (i + 1)).length := by
                rw [List.length_cons] at hl2 ⊢; omega
              rw [hcnt] at htt
              clear hT hT2 hl1 e hcnt b0 b1 b2 b3
              generalize N.regs[i] = r at *
              obtain ⟨rq, rd, re, ri⟩ := r
              simp only [] at d0 d1 d2 d3 htt
              go_wp2_with (go_at_call 60; (with_reducible refine htt.out.mono ?_); rintro e w7 ⟨rfl, hT7⟩; have hT7 := Lib.hid hT7)
              exact ⟨⟨i + 1, by omega, by go_num, hT7⟩, by simp [intOf]; omega⟩
            · obtain rfl : i = nr := by omega
              rw [hR2.out] at hT
              have kt := hT.out.ct
              have hcc : (j : Int) - ((j - rest.length : Nat) : Int) = rest.length := by omega
              generalize ((j - rest.length : Nat) : Int) = tt at *
              go_wp2
              go_ret2
              exact ⟨by rw [← hcc]; rfl, hT.out.below⟩
def ckV (rest : List Int) : Int := if rest.length = 0 then 0 else 37
set_option maxHeartbeats 2000000 in
theorem Check_any {w : World} {q : NPl} {N : Nt} {rest : List Int} (h : NetIs w q N) (hg : Good N rest) (hm : N.g.nodes.length ≤ 190000) (hi : N.ins.length ≤ 10000) (hr : N.regs.length ≤ 10000) (ho : N.outs.length ≤ 10000) :
    Calls Try.prog 9 #[.pointer (some ⟨q.b, 0, none⟩)] w fun e w' => e = .returned (.int .i64 (ckV rest)) ∧ Below w.heap.size w w' := by
  have hst := Lib.hid (nstands_any h hg.wf.pos)
  obtain ⟨ia, ic, ra, rc, oa, oc, e1, e2, e3, a0, a1, a2, a3, a4, -⟩ := h.cells
  have hlt := h.lt
  have hmn := Lib.hid (fun w => MayName_any N.name w)
  rw [hg.name] at hmn
  have hbI := Lib.hid (fun w2 (hb : Below w.heap.size w w2) => mayBe_any (by have := h.ins.below hb; rw [e1] at this; exact this) rfl hg.ins hi)
  have hbO := Lib.hid (fun w2 (hb : Below w.heap.size w w2) => mayBe_any (by have := h.outs.below hb; rw [e3] at this; exact this) rfl hg.outs ho)
  have hle := Lib.hid (fun w2 (hb : Below w.heap.size w w2) => leansWell_any (h.below hb) hg)
  have hop := Lib.hid (fun w2 (hb : Below w.heap.size w w2) => open_any (h.below hb) hg hm)
  have g0 : decide (16384 < (N.regs.length : Int)) = false := by simp; omega
  clear h hg e1 e2 e3 hm
  generalize N.ins.length = ni at *
  generalize N.regs.length = nr at *
  generalize N.outs.length = no at *
  generalize N.name = nm at *
  unfold ckV
  generalize rest.length = rl at *
  by_cases hz : rl = 0
  · subst hz
    rw [if_pos rfl]
    go_enter Try.func9, Try.ntmps9
    go_wp2_with (first
      | (go_at_call 22; (with_reducible refine hst.out.mono ?_); rintro e w2 ⟨rfl, rfl⟩)
      | (go_at_call 10; (with_reducible refine (hmn.out _).mono ?_); rintro e w2 ⟨rfl, hb2⟩; have b2 := stepc hb2 hlt a2; have b3 := stepc hb2 hlt a3; have b4 := stepc hb2 hlt a4; have B := Lib.hid hb2; clear hb2)
      | (go_at_call 38; (with_reducible refine (hbI.out _ B.out).mono ?_); rintro e w3 ⟨rfl, hb3⟩; have b3 := stepc hb3 (Nat.lt_of_lt_of_le hlt B.out.size) b3; have b4 := stepc hb3 (Nat.lt_of_lt_of_le hlt B.out.size) b4; have B := Lib.hid (nextw B.out hb3); clear hb3)
      | (go_at_call 38; (with_reducible refine (hbO.out _ B.out).mono ?_); rintro e w3 ⟨rfl, hb3⟩; have b3 := stepc hb3 (Nat.lt_of_lt_of_le hlt B.out.size) b3; have B := Lib.hid (nextw B.out hb3); clear hb3)
      | (go_at_call 39; (with_reducible refine (hle.out _ B.out).mono ?_); rintro e w3 ⟨rfl, hb3⟩; have B := Lib.hid (nextw B.out hb3); clear hb3)
      | (go_at_call 40; (with_reducible refine (hop.out _ B.out).mono ?_); rintro e w3 ⟨rfl, hb3⟩; have B := Lib.hid (nextw B.out hb3); clear hb3))
    go_ret
    exact ⟨rfl, B.out⟩
  · rw [if_neg hz]
    have g1 : decide (0 < (rl : Int)) = true := by simp; omega
    go_enter Try.func9, Try.ntmps9
    go_wp2_with (first
      | (go_at_call 22; (with_reducible refine hst.out.mono ?_); rintro e w2 ⟨rfl, rfl⟩)
      | (go_at_call 10; (with_reducible refine (hmn.out _).mono ?_); rintro e w2 ⟨rfl, hb2⟩; have b2 := stepc hb2 hlt a2; have b3 := stepc hb2 hlt a3; have b4 := stepc hb2 hlt a4; have B := Lib.hid hb2; clear hb2)
      | (go_at_call 38; (with_reducible refine (hbI.out _ B.out).mono ?_); rintro e w3 ⟨rfl, hb3⟩; have b3 := stepc hb3 (Nat.lt_of_lt_of_le hlt B.out.size) b3; have b4 := stepc hb3 (Nat.lt_of_lt_of_le hlt B.out.size) b4; have B := Lib.hid (nextw B.out hb3); clear hb3)
      | (go_at_call 38; (with_reducible refine (hbO.out _ B.out).mono ?_); rintro e w3 ⟨rfl, hb3⟩; have b3 := stepc hb3 (Nat.lt_of_lt_of_le hlt B.out.size) b3; have B := Lib.hid (nextw B.out hb3); clear hb3)
      | (go_at_call 39; (with_reducible refine (hle.out _ B.out).mono ?_); rintro e w3 ⟨rfl, hb3⟩; have B := Lib.hid (nextw B.out hb3); clear hb3)
      | (go_at_call 40; (with_reducible refine (hop.out _ B.out).mono ?_); rintro e w3 ⟨rfl, hb3⟩; have B := Lib.hid (nextw B.out hb3); clear hb3))
    go_ret
    exact ⟨rfl, B.out⟩
end Go.Proofs.Ytjdebancpgpebaa
