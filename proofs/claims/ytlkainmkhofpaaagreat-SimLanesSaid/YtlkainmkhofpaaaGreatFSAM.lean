/-
  open, Check.
  Copies of netlists.
  A copy of a netlist.
-/
import Derived.Test.YtlkainmkhofpaaaGreatFSAL
import Derived.Test.YtlkainmkhofpaaaGreatFSAJ
section
namespace Go.Proofs.YtlkainmkhofpaaaGreat
open Go.RowKit Go.Maps Bits
set_option maxRecDepth 100000

set_option maxHeartbeats 4000000 in
theorem open_any {w : World} {q : NPl} {N : Nt} {rest : List Int} (h : NetIs w q N) (hg : Good N rest) (hm : N.g.nodes.length ≤ 190000) :
    Calls Tryz.prog 82 #[.pointer (some ⟨q.b, 0, none⟩)] w fun e w' => e = .returned (.tuple #[.int .i64 rest.length, .bool true]) ∧ Below w.heap.size w w' := by
  have hb1 : Below w.heap.size w (w.alloc (.cells #[.pointer (some ⟨q.b, 0, none⟩)] 26)) := (Below.refl _ _).alloc (Nat.le_refl _) _
  have hz1 : (w.alloc (.cells #[.pointer (some ⟨q.b, 0, none⟩)] 26)).heap.size = w.heap.size + 1 := by simp
  have k0 : (w.alloc (.cells #[.pointer (some ⟨q.b, 0, none⟩)] 26)).cell? ⟨w.heap.size, 0, none⟩ = some (.pointer (some ⟨q.b, 0, none⟩)) := by simp [go_sem]
  have h1 := h.below hb1
  obtain ⟨ia, ic, ra, rc, oa, oc, e1, e2, e3, a0, -, a2, a3, -, -⟩ := h.cells
  have hqlt := h.lt
  have c0 := stepc hb1 hqlt a0
  have hlt := h1.lt
  have hcn := hg.wf.cnt
  have hin := Lib.hid (InputsOf_any h1.g hg.wf (by omega))
  have hnd := Lib.hid (fun w2 (hb : Below (w.alloc (.cells #[.pointer (some ⟨q.b, 0, none⟩)] 26)).heap.size (w.alloc (.cells #[.pointer (some ⟨q.b, 0, none⟩)] 26)) w2) => nodes_any (h1.g.below hb).lay hg.wf.pos)
  have htk := Lib.hid (fun (wr : World) (qn qf qt fb : Nat) (x : Int) (l : List Int) (t : Nat) (hT : Tk w q N.g.nodes.length qn qf qt fb (x :: l) t wr) (hl : Left N.g (x :: l)) (ht : t ≤ 1000000) => take_lit h hg hT hl ht (by omega))
  have hI := Lib.hid (show BusRow w (.slice ia N.ins.length ic) N.ins by have := h.ins; rw [e1] at this; exact this)
  have hR := Lib.hid (show RegRow w (.slice ra N.regs.length rc) N.regs by have := h.regs; rw [e2] at this; exact this)
  have hleI : N.ins.length ≤ 9223372036854775807 := by obtain ⟨K, hK⟩ := h.ins; exact own_maxLen hK.own
  have hleR : N.regs.length ≤ 9223372036854775807 := own_maxLen h.regs
  have hLR := Lib.hid (leftR_left hg)
  have hLD := Lib.hid (fun (j : Nat) (hj : j < N.ins.length) => leftD_left hg hj)
  have hL0 := Lib.hid (fun (j : Nat) (hj : j < N.ins.length) => leftD_zero N rest hj)
  have hL1 := Lib.hid (fun (j k : Nat) (hj : j < N.ins.length) (hk : k < N.ins[j].lits.length) => leftD_next N rest hj hk)
  have hL2 := Lib.hid (fun (j : Nat) (hj : j < N.ins.length) => leftD_end N rest hj)
  have hL3 := Lib.hid (leftB_end N rest)
  have hR1 := Lib.hid (fun (j : Nat) (hj : j < N.regs.length) => leftR_next N rest hj)
  have hR2 := Lib.hid (leftR_end N rest)
  have hfull := Lib.hid (leftB_full hg)
  have hmark : Hid (∀ j, j < N.g.inputs.length → ∃ i : Nat, N.g.inputs[j]? = some (i : Int) ∧ i < N.g.nodes.length) := Lib.hid (fun j hj => by
    obtain ⟨i, e, _, n, hn, _⟩ := hg.wf.ins j _ (List.getElem?_eq_getElem hj)
    exact ⟨i, by rw [List.getElem?_eq_getElem hj, e], (List.getElem?_eq_some_iff.1 hn).1⟩)
  have hperm : Hid (freeL N.g.nodes.length (marked N.g.inputs N.g.inputs.length) = freeL N.g.nodes.length (leftB N rest 0)) := Lib.hid (by
    rw [leftB_zero]
    unfold marked
    rw [List.take_length]
    exact (freeL_perm _ hg.drv).symm)
  obtain ⟨i0, hi, hz0, hz2, hz3⟩ := info_parts info_boolO
  have HI := Lib.hid (made_free N.g.nodes.length)
  have hlen := hg.drv.length_eq
  unfold inLits at hlen
  rw [List.length_map, List.length_append] at hlen
  have hrl : rest.length ≤ N.g.inputs.length := by omega
  obtain ⟨ni, hni0⟩ : ∃ ni, N.ins.length = ni := ⟨_, rfl⟩
  obtain ⟨nr, hnr0⟩ : ∃ nr, N.regs.length = nr := ⟨_, rfl⟩
  rw [hni0] at a2 hI hleI hL3
  rw [hnr0] at a3 hR hleR hR2
  have hni := Lib.hid hni0
  have hnr := Lib.hid hnr0
  clear h h1 hg hlen e1 e2 e3 hni0 hnr0
  generalize hw1 : w.alloc (.cells #[.pointer (some ⟨q.b, 0, none⟩)] 26) = w1 at *
  generalize hnn : N.g.nodes.length = n at *
  generalize hnI : N.g.inputs = I at *
  generalize hmm : I.length = m at *
  have hmm := Lib.hid hmm
  clear hnn hnI
  go_enter Tryz.func82, Tryz.ntmps82
  go_wp2_with (first
    | (go_at_call 99; (with_reducible refine hin.out.mono ?_); rintro e w2 ⟨na, nc, rfl, hio, hb2⟩; have d0 := stepc hb2 hlt c0; have kk := stepc hb2 (by omega) k0; have hn2 := Lib.hid (hnd.out _ hb2); have hio := Lib.hid hio; have hB2 := Lib.hid (nextw hb1 hb2); clear hin hnd)
    | (go_at_call 26; (with_reducible refine hn2.out.mono ?_); rintro e w3 ⟨rfl, rfl⟩)
    | (at_make; refine wpList_make_full _ rfl _ _ 197 rfl w2.heap.size 4 i0 (.bool false) 1 Tryz.underlying197 hi hz0 hz2 .i64 .i64 n n n rfl rfl rfl rfl (by rw [hz3]; omega) (by unfold maxLen; omega) (Nat.le_refl _) ?_; intro w5 hown hgr))
  have hb25 : Below w2.heap.size w2 w5 := (Below.refl w2.heap.size w2).grown hgr (Nat.le_refl _) (fun _ h => by cases h)
  have hba : Below w5.heap.size w5 (w5.alloc (.cells #[.slice (some ⟨w2.heap.size, 0, none⟩) n n] 197)) := (Below.refl _ _).alloc (Nat.le_refl _) _
  rw [HI.out] at hown
  have hl5 := own_lt hown
  have hs2 := hb2.size
  have hs25 := hb25.size
  have hMk : Hid (Mk w q n w.heap.size w5.heap.size w2.heap.size na m nc I (marked I 0) (w5.alloc (.cells #[.slice (some ⟨w2.heap.size, 0, none⟩) n n] 197))) := Lib.hid ⟨nextw (nextw hB2.out hb25) hba, stepc hba (by omega) (stepc hb25 (by omega) kk), by simp [go_sem], own_base (own_below hown hba) (by omega), own_base (own_below (own_below hio.out hb25) hba) (by omega), by omega, by omega⟩
  clear HI hown hgr hio hb25 hba hb2 hB2 hn2 d0 kk k0 hi hz0 hz2 hz3 c0
  generalize w2.heap.size = fb at *
  generalize w5.heap.size = qf at *
  generalize hqn : w.heap.size = qn at *
  have hm2 : m ≤ 190000 := by omega
  go_loopw [29] (fun i wr => ∃ j : Nat, j ≤ m ∧ i = .int .i64 j ∧ Hid (Mk w q n qn qf fb na m nc I (marked I j) wr)) (fun i _ => m - (intOf i).toNat)
  case atStart => exact ⟨0, Nat.zero_le _, rfl, hMk⟩
  case round =>
    clear hMk
    obtain ⟨j, hj, rfl, hF⟩ := hrel
    have f1 := hF.out.cf
    by_cases hlt : j < m
    · obtain ⟨i, hIj, hin⟩ := hmark.out j hlt
      obtain ⟨gi, cap, e⟩ := own_form hF.out.ins (by omega)
      simp only [Value.slice.injEq] at e
      obtain ⟨rfl, -, -⟩ := e
      have b0 : wr.cell? ⟨gi, j, none⟩ = some (.int .i64 i) := by rw [hF.out.ins.cellAt j (by omega)]; simp [hIj]
      obtain ⟨u, hu⟩ := own_some hF.out.free hin
      have hfz := hF.out.free.frozenAt i
      have hnx := Lib.hid (hF.out.mark hIj)
      clear hF hmark
      go_wp2
      exact ⟨⟨j + 1, by omega, by go_num, hnx⟩, by simp [intOf]; omega⟩
    · obtain rfl : j = m := by omega
      have hT := Lib.hid (hF.out.tk hperm.out)
      have hins := Lib.hid hF.out.ins
      clear hmark hperm hF
      have k1 := hT.out.cn
      have k2 := stepc hT.out.below (by omega) a2
      have hT0 : Hid (Tk w q n qn qf wr.heap.size fb (leftB N rest 0) ((j - (leftB N rest 0).length : Nat) : Int) (wr.alloc (.cells #[.int .i64 0] 3))) := Lib.hid (by rw [hfull.out, Nat.sub_self]; exact hT.out)
      clear hT hfull hins
      obtain ⟨wz, rfl⟩ : ∃ wz : World, wz = wr := ⟨_, rfl⟩
      generalize leftB N rest = LB at *
      generalize leftR N rest = LR at *
      go_wp2
      go_loopw [43] (fun i wr => ∃ i' : Nat, i' ≤ ni ∧ i = .int .i64 i' ∧ Hid (Tk w q n qn qf wz.heap.size fb (LB i') ((j - (LB i').length : Nat) : Int) wr)) (fun i _ => ni - (intOf i).toNat)
      case atStart => exact ⟨0, Nat.zero_le _, rfl, hT0⟩
      case round =>
        clear hT0
        obtain ⟨i, hi, rfl, hT⟩ := hrel
        by_cases hlt : i < ni
        · have hiL : i < N.ins.length := by rw [hni.out]; exact hlt
          obtain ⟨g2, la, lc, rfl, hgl, b0, b1, hr⟩ := hI.out.at hiL
          have hgl2 : g2 < qn := by omega
          have d0 := stepc hT.out.below hgl b0
          have d1 := stepc hT.out.below hgl b1
          have hT2 : Hid (Tk w q n qn qf wz.heap.size fb (leftD N rest i 0) ((j - (leftD N rest i 0).length : Nat) : Int) (wr.alloc (.cells #[.string N.ins[i].name, .slice la N.ins[i].lits.length lc] 81))) := Lib.hid (by rw [hL0.out i hiL]; exact hT.out.step ((Below.refl _ _).alloc (Nat.le_refl _) _))
          have hD := Lib.hid (hLD.out i hiL)
          have hD1 := Lib.hid (fun k => hL1.out i k hiL)
          have hD2 := Lib.hid (hL2.out i hiL)
          have hr := Lib.hid hr.row
          have hle := hr.out.le
          clear hT b0 b1
          generalize hB : N.ins[i] = B at *
          clear hB
          generalize leftD N rest i = LD at *
          generalize hll : B.lits.length = ll at *
          clear hll
          generalize B.name = nm at *
          go_wp2
          go_loopw [50] (fun s wr => ∃ k : Nat, k ≤ ll ∧ s = .int .i64 k ∧ Hid (Tk w q n qn qf wz.heap.size fb (LD k) ((j - (LD k).length : Nat) : Int) wr)) (fun s _ => ll - (intOf s).toNat)
          case atStart => exact ⟨0, Nat.zero_le _, rfl, hT2⟩
          case round =>
            clear hT2 d0 d1
            obtain ⟨k, hk, rfl, hT⟩ := hrel
            by_cases hkl : k < ll
            · obtain ⟨b, off, rfl, hb, hc⟩ := hr.out.at (by omega)
              have c1 := stepc hT.out.below hb (hc k hkl)
              obtain ⟨hl1, hl2⟩ := hD.out k hk
              have e := hD1.out k hkl
              have hT := hT.out
              rw [e] at hl1 hl2 hT
              have htt := Lib.hid (htk.out _ _ _ _ _ _ _ _ hT hl1 (by omega))
              have hcnt : j - (B.lits.getD k 0 :: LD (k + 1)).length + 1 = j - (LD (k + 1)).length := by
                rw [List.length_cons] at hl2 ⊢; omega
              rw [hcnt] at htt
              clear hT hl1 e hcnt hc
              generalize B.lits.getD k 0 = x at *
              go_wp2_with (go_at_call 112; (with_reducible refine htt.out.mono ?_); rintro e w7 ⟨rfl, hT7⟩; have hT7 := Lib.hid hT7)
              exact ⟨⟨k + 1, by omega, by go_num, hT7⟩, by simp [intOf]; omega⟩
            · obtain rfl : k = ll := by omega
              rw [hD2.out] at hT
              go_wp2
              exact ⟨⟨i + 1, by omega, by go_num, hT⟩, by simp [intOf]; omega⟩
        · obtain rfl : i = ni := by omega
          rw [hL3.out] at hT
          have k1 := hT.out.cn
          have k3 := stepc hT.out.below (by omega) a3
          clear hL0 hL1 hL2 hL3 hLD hI a2
          go_wp2
          go_loopw [65] (fun i wr => ∃ i' : Nat, i' ≤ nr ∧ i = .int .i64 i' ∧ Hid (Tk w q n qn qf wz.heap.size fb (LR i') ((j - (LR i').length : Nat) : Int) wr)) (fun i _ => nr - (intOf i).toNat)
          case atStart => exact ⟨0, Nat.zero_le _, rfl, hT⟩
          case round =>
            clear hT k1 k3
            obtain ⟨i, hi, rfl, hT⟩ := hrel
            by_cases hlt : i < nr
            · have hiL : i < N.regs.length := by rw [hnr.out]; exact hlt
              obtain ⟨g2, rfl, hgl, b0, b1, b2, b3⟩ := hR.out.at hiL
              have d0 := stepc hT.out.below hgl b0
              have d1 := stepc hT.out.below hgl b1
              have d2 := stepc hT.out.below hgl b2
              have d3 := stepc hT.out.below hgl b3
              obtain ⟨hl1, hl2⟩ := hLR.out i (by rw [hnr.out]; omega)
              have e := hR1.out i hiL
              have hT := hT.out
              rw [e] at hl1 hl2 hT
              have hT2 := hT.step ((Below.refl wr.heap.size wr).alloc (Nat.le_refl _) (.cells #[.int .u32 N.regs[i].q, .int .u32 N.regs[i].d, .int .u32 N.regs[i].en, .bool N.regs[i].init] 71))
              have htt := Lib.hid (htk.out _ _ _ _ _ _ _ _ hT2 hl1 (by omega))
              have hcnt : j - (N.regs[i].q :: LR (i + 1)).length + 1 = j - (LR (i + 1)).length := by
                rw [List.length_cons] at hl2 ⊢; omega
              rw [hcnt] at htt
              clear hT hT2 hl1 e hcnt b0 b1 b2 b3
              generalize N.regs[i] = r at *
              obtain ⟨rq, rd, re, ri⟩ := r
              simp only [] at d0 d1 d2 d3 htt
              go_wp2_with (go_at_call 112; (with_reducible refine htt.out.mono ?_); rintro e w7 ⟨rfl, hT7⟩; have hT7 := Lib.hid hT7)
              exact ⟨⟨i + 1, by omega, by go_num, hT7⟩, by simp [intOf]; omega⟩
            · obtain rfl : i = nr := by omega
              rw [hR2.out] at hT
              have kt := hT.out.ct
              have hcc : (j : Int) - ((j - rest.length : Nat) : Int) = rest.length := by omega
              generalize ((j - rest.length : Nat) : Int) = tt at *
              go_wp2
              go_ret2
              exact ⟨by rw [← hcc]; rfl, hT.out.below⟩
def ckV (rest : List Int) : Int := if rest.length = 0 then 0 else 37
set_option maxHeartbeats 2000000 in
theorem Check_any {w : World} {q : NPl} {N : Nt} {rest : List Int} (h : NetIs w q N) (hg : Good N rest) (hm : N.g.nodes.length ≤ 190000) (hi : N.ins.length ≤ 10000) (hr : N.regs.length ≤ 10000) (ho : N.outs.length ≤ 10000) :
    Calls Tryz.prog 36 #[.pointer (some ⟨q.b, 0, none⟩)] w fun e w' => e = .returned (.int .i64 (ckV rest)) ∧ Below w.heap.size w w' := by
  have hst := Lib.hid (nstands_any h hg.wf.pos)
  obtain ⟨ia, ic, ra, rc, oa, oc, e1, e2, e3, a0, a1, a2, a3, a4, -⟩ := h.cells
  have hlt := h.lt
  have hmn := Lib.hid (fun w => MayName_any N.name w)
  rw [hg.name] at hmn
  have hbI := Lib.hid (fun w2 (hb : Below w.heap.size w w2) => mayBe_any (by have := h.ins.below hb; rw [e1] at this; exact this) rfl hg.ins hi)
  have hbO := Lib.hid (fun w2 (hb : Below w.heap.size w w2) => mayBe_any (by have := h.outs.below hb; rw [e3] at this; exact this) rfl hg.outs ho)
  have hle := Lib.hid (fun w2 (hb : Below w.heap.size w w2) => leansWell_any (h.below hb) hg)
  have hop := Lib.hid (fun w2 (hb : Below w.heap.size w w2) => open_any (h.below hb) hg hm)
  have g0 : decide (16384 < (N.regs.length : Int)) = false := by simp; omega
  clear h hg e1 e2 e3 hm
  generalize N.ins.length = ni at *
  generalize N.regs.length = nr at *
  generalize N.outs.length = no at *
  generalize N.name = nm at *
  unfold ckV
  generalize rest.length = rl at *
  by_cases hz : rl = 0
  · subst hz
    rw [if_pos rfl]
    go_enter Tryz.func36, Tryz.ntmps36
    go_wp2_with (first
      | (go_at_call 39; (with_reducible refine hst.out.mono ?_); rintro e w2 ⟨rfl, rfl⟩)
      | (go_at_call 43; (with_reducible refine (hmn.out _).mono ?_); rintro e w2 ⟨rfl, hb2⟩; have b2 := stepc hb2 hlt a2; have b3 := stepc hb2 hlt a3; have b4 := stepc hb2 hlt a4; have B := Lib.hid hb2; clear hb2)
      | (go_at_call 80; (with_reducible refine (hbI.out _ B.out).mono ?_); rintro e w3 ⟨rfl, hb3⟩; have b3 := stepc hb3 (Nat.lt_of_lt_of_le hlt B.out.size) b3; have b4 := stepc hb3 (Nat.lt_of_lt_of_le hlt B.out.size) b4; have B := Lib.hid (nextw B.out hb3); clear hb3)
      | (go_at_call 80; (with_reducible refine (hbO.out _ B.out).mono ?_); rintro e w3 ⟨rfl, hb3⟩; have b3 := stepc hb3 (Nat.lt_of_lt_of_le hlt B.out.size) b3; have B := Lib.hid (nextw B.out hb3); clear hb3)
      | (go_at_call 81; (with_reducible refine (hle.out _ B.out).mono ?_); rintro e w3 ⟨rfl, hb3⟩; have B := Lib.hid (nextw B.out hb3); clear hb3)
      | (go_at_call 82; (with_reducible refine (hop.out _ B.out).mono ?_); rintro e w3 ⟨rfl, hb3⟩; have B := Lib.hid (nextw B.out hb3); clear hb3))
    go_ret
    exact ⟨rfl, B.out⟩
  · rw [if_neg hz]
    have g1 : decide (0 < (rl : Int)) = true := by simp; omega
    go_enter Tryz.func36, Tryz.ntmps36
    go_wp2_with (first
      | (go_at_call 39; (with_reducible refine hst.out.mono ?_); rintro e w2 ⟨rfl, rfl⟩)
      | (go_at_call 43; (with_reducible refine (hmn.out _).mono ?_); rintro e w2 ⟨rfl, hb2⟩; have b2 := stepc hb2 hlt a2; have b3 := stepc hb2 hlt a3; have b4 := stepc hb2 hlt a4; have B := Lib.hid hb2; clear hb2)
      | (go_at_call 80; (with_reducible refine (hbI.out _ B.out).mono ?_); rintro e w3 ⟨rfl, hb3⟩; have b3 := stepc hb3 (Nat.lt_of_lt_of_le hlt B.out.size) b3; have b4 := stepc hb3 (Nat.lt_of_lt_of_le hlt B.out.size) b4; have B := Lib.hid (nextw B.out hb3); clear hb3)
      | (go_at_call 80; (with_reducible refine (hbO.out _ B.out).mono ?_); rintro e w3 ⟨rfl, hb3⟩; have b3 := stepc hb3 (Nat.lt_of_lt_of_le hlt B.out.size) b3; have B := Lib.hid (nextw B.out hb3); clear hb3)
      | (go_at_call 81; (with_reducible refine (hle.out _ B.out).mono ?_); rintro e w3 ⟨rfl, hb3⟩; have B := Lib.hid (nextw B.out hb3); clear hb3)
      | (go_at_call 82; (with_reducible refine (hop.out _ B.out).mono ?_); rintro e w3 ⟨rfl, hb3⟩; have B := Lib.hid (nextw B.out hb3); clear hb3))
    go_ret
    exact ⟨rfl, B.out⟩
end Go.Proofs.YtlkainmkhofpaaaGreat
end

section
namespace Go.Proofs.YtlkainmkhofpaaaGreat
open Go.RowKit Go.Maps Bits
set_option maxRecDepth 100000

def bv0 : BV := ⟨ByteArray.empty, none, 0, 0⟩
theorem made_pair (x y : Value) (n : Nat) : (madeCells #[x, y] (n * 2)).toList = (List.replicate n [x, y]).flatten := by
  induction n with
  | zero => simp [madeCells]
  | succ n ih =>
    rw [List.replicate_succ', List.flatten_append, ← ih]
    unfold madeCells
    simp only [Array.toList_map, Array.toList_range]
    rw [show (n + 1) * 2 = n * 2 + 1 + 1 by omega, List.range_succ, List.range_succ]
    simp [show n * 2 % 2 = 0 by omega, show (n * 2 + 1) % 2 = 1 by omega]
theorem made_bv (n : Nat) : (madeCells (Value.agg #[.string ByteArray.empty, .slice none 0 0]).cells (n * 2)).toList = bvCells (List.replicate n bv0) := by
  rw [show (Value.agg #[.string ByteArray.empty, .slice none 0 0]).cells = #[.string ByteArray.empty, .slice none 0 0] from rfl, made_pair]
  unfold bvCells
  rw [List.flatMap_def]
  simp [bvc, bv0]
theorem bvCells_set (K : List BV) (i : Nat) (k : BV) (h : i < K.length) : bvCells (K.set i k) = ((bvCells K).set (i * 2) (.string k.name)).set (i * 2 + 1) (.slice k.a k.n k.c) := by
  induction K generalizing i with
  | nil => simp at h
  | cons r R ih =>
    cases i with
    | zero => simp [bvCells, bvc]
    | succ i =>
      rw [List.set_cons_succ, show bvCells (r :: R.set i k) = bvc r ++ bvCells (R.set i k) from rfl, ih i (by simpa using h), show bvCells (r :: R) = bvc r ++ bvCells R from rfl]
      rw [List.set_append_right _ _ (by simp [bvc]; omega), List.set_append_right _ _ (by simp [bvc]; omega)]
      rw [show (i + 1) * 2 - (bvc r).length = i * 2 by simp [bvc]; omega, show (i + 1) * 2 + 1 - (bvc r).length = i * 2 + 1 by simp [bvc]; omega]
theorem own_some' {w : World} {base e size k g cap : Nat} {xs : List Value} (h : w.ownsRow base e size (.slice (some ⟨g, 0, none⟩) k cap) k xs) {i : Nat} (hj : i < k * size) : ∃ u, w.cell? ⟨g, i, none⟩ = some u := by
  have hl : xs.length = k * size := h.1
  have hc := h.cellAt i hj
  exact ⟨xs[i]'(by omega), by rw [hc]; exact List.getElem?_eq_getElem _⟩
/-- A copy of buses that is being made. -/
structure CopT (w wr : World) (g n j : Nat) (L : List Bus) (K : List BV) : Prop where
  len : K.length = j
  own : wr.ownsRow w.heap.size 81 2 (.slice (some ⟨g, 0, none⟩) n n) n (bvCells (K ++ List.replicate (n - j) bv0))
  row : ∀ (i : Nat) (k : BV) (b : Bus), K[i]? = some k → L[i]? = some b → k.name = b.name ∧ LRow wr k.a k.n k.c b.lits
theorem CopT.step {w wr w2 : World} {g n j : Nat} {L : List Bus} {K : List BV} (h : CopT w wr g n j L K) (hb : Below wr.heap.size wr w2) : CopT w w2 g n j L K :=
  ⟨h.len, own_below h.own hb, fun i k b e1 e2 => ⟨(h.row i k b e1 e2).1, (h.row i k b e1 e2).2.below hb⟩⟩
theorem CopT.next {w wr : World} {g n j : Nat} {L : List Bus} {K : List BV} (h : CopT w wr g n j L K) (hj : j < n) {b : Bus} (hb : L[j]? = some b) {a : Option Addr} {c : Nat} (hl : LRow wr a b.lits.length c b.lits) :
    CopT w ((wr.setCell ⟨g, j * 2, none⟩ (.string b.name)).setCell ⟨g, j * 2 + 1, none⟩ (.slice a b.lits.length c)) g n (j + 1) L (K ++ [⟨b.name, a, b.lits.length, c⟩])
      ∧ (∀ k, k < w.heap.size → ((wr.setCell ⟨g, j * 2, none⟩ (.string b.name)).setCell ⟨g, j * 2 + 1, none⟩ (.slice a b.lits.length c)).heap[k]? = wr.heap[k]?) := by
  have h1 := h.own.stored (j * 2) (.string b.name)
  have h2 := h1.1.stored (j * 2 + 1) (.slice a b.lits.length c)
  have hg2 := h1.2.trans h2.2
  have hge := own_ge h.own g rfl
  have hglt := own_lt h.own
  have hk : Kept (fun k => k = g) wr ((wr.setCell ⟨g, j * 2, none⟩ (.string b.name)).setCell ⟨g, j * 2 + 1, none⟩ (.slice a b.lits.length c)) :=
    ⟨hg2.os, hg2.tape, hg2.output, hg2.size, fun k hlt hn => hg2.block k hlt (fun e => hn (by simpa using e))⟩
  have hN : NoLits wr (fun k => k = g) := by
    intro k cur fz e hh
    subst e
    obtain ⟨c2, hc2⟩ := own_type h.own (k := k) rfl
    rw [hc2] at hh; simp at hh
  have hlen := h.len
  have e : (K ++ List.replicate (n - j) bv0).set j ⟨b.name, a, b.lits.length, c⟩ = K ++ [⟨b.name, a, b.lits.length, c⟩] ++ List.replicate (n - (j + 1)) bv0 := by
    rw [show n - j = n - (j + 1) + 1 by omega, List.replicate_succ, List.set_append_right _ _ (by omega), hlen]
    simp
  refine ⟨⟨by simp [hlen], ?_, ?_⟩, fun k hlt => hk.block k (by omega) (by omega)⟩
  · have := h2.1
    rw [← bvCells_set _ j ⟨b.name, a, b.lits.length, c⟩ (by simp; omega), e] at this
    exact this
  · intro i k bb e1 e2
    by_cases hi : i < K.length
    · rw [List.getElem?_append_left hi] at e1
      obtain ⟨r1, r2⟩ := h.row i k bb e1 e2
      exact ⟨r1, r2.keptF hk hN⟩
    · have hi2 := (List.getElem?_eq_some_iff.1 e1).1
      simp at hi2
      have ei : i = j := by omega
      subst ei
      rw [← hlen, List.getElem?_append_right (Nat.le_refl _)] at e1
      simp at e1
      subst e1
      rw [hb] at e2
      cases e2
      exact ⟨rfl, hl.keptF hk hN⟩
set_option maxHeartbeats 1000000 in
theorem copied_any {w : World} {a : Option Addr} {n c : Nat} {L : List Bus} (h : BusRow w (.slice a n c) L) (hn : n = L.length) (hw : ∀ b ∈ L, b.lits.length ≤ 64) (hm : n ≤ 10000) :
    Calls Tryz.prog 41 #[.slice a n c] w fun e w' => ∃ (a2 : Option Addr) (c2 : Nat), e = .returned (.slice a2 n c2) ∧ BusRow w' (.slice a2 n c2) L ∧ (∀ x, a2 = some x → w.heap.size ≤ x.block) ∧ Below w.heap.size w w' := by
  obtain ⟨i0, hi, hz0, hz1, hz2⟩ := info_parts info_bus
  have HI := Lib.hid (made_bv n)
  have H := Lib.hid h
  have HN := Lib.hid hn
  have HW := Lib.hid hw
  clear h hn hw
  go_enter Tryz.func41, Tryz.ntmps41
  go_wp2_with (at_make; refine wpList_make_full _ rfl _ _ 66 rfl w.heap.size 81 i0 (.agg #[.string ByteArray.empty, .slice none 0 0]) 2 Tryz.underlying66 hi hz0 hz1 .i64 .i64 n n n rfl rfl rfl rfl (by rw [hz2]; omega) (by unfold maxLen; omega) (Nat.le_refl _) ?_; intro w3 hown hg)
  rw [HI.out] at hown
  have hb3 := Lib.hid ((Below.refl w.heap.size w).grown hg (Nat.le_refl _) (fun _ h => by cases h))
  have hF : Hid (CopT w w3 w.heap.size n 0 L []) := Lib.hid ⟨rfl, hown, fun i k b e => by simp at e⟩
  have hz3 : Hid (w.heap.size < w3.heap.size) := Lib.hid (own_lt hown)
  clear HI hown hg
  go_loopw [11] (fun i wr => ∃ (j : Nat) (K : List BV), j ≤ n ∧ i = .int .i64 j ∧ Hid (CopT w wr w.heap.size n j L K) ∧ Hid (Below w.heap.size w wr)) (fun i _ => n - (intOf i).toNat)
  case atStart => exact ⟨0, [], Nat.zero_le _, rfl, hF, hb3⟩
  case round =>
    clear hF hb3 hz3
    obtain ⟨j, K, hj, rfl, hF, hB⟩ := hrel
    by_cases hlt : j < n
    · have hjL : j < L.length := by rw [← HN.out]; exact hlt
      obtain ⟨g2, la, lc, rfl, hgl, b0, b1, hr⟩ := H.out.at hjL
      have c0 := stepc hB.out hgl b0
      have c1 := stepc hB.out hgl b1
      have hr := Lib.hid (hr.below hB.out)
      have h64 := HW.out _ (List.getElem_mem hjL)
      have hLj : L[j]? = some L[j] := List.getElem?_eq_getElem hjL
      clear b0 b1
      generalize L[j] = B at *
      have hLj := Lib.hid hLj
      have hb4 : Hid (Below wr.heap.size wr (wr.alloc (.cells #[.string B.name, .slice la B.lits.length lc] 81))) := Lib.hid ((Below.refl _ _).alloc (Nat.le_refl _) _)
      have d0 : (wr.alloc (.cells #[.string B.name, .slice la B.lits.length lc] 81)).cell? ⟨wr.heap.size, 0, none⟩ = some (.string B.name) := by simp [go_sem]
      have d1 : (wr.alloc (.cells #[.string B.name, .slice la B.lits.length lc] 81)).cell? ⟨wr.heap.size, 1, none⟩ = some (.slice la B.lits.length lc) := by simp [go_sem]
      have hz4 : wr.heap.size < (wr.alloc (.cells #[.string B.name, .slice la B.lits.length lc] 81)).heap.size := by simp
      have hcl := Lib.hid (fun w2 (hb2 : Below wr.heap.size wr w2) => clone_lit (c := lc) (hr.out.below hb2).row (by omega))
      have hFs := Lib.hid (fun w2 (hb2 : Below wr.heap.size wr w2) => hF.out.step hb2)
      have hs0 := own_some' hF.out.own (i := j * 2) (by omega)
      have hs1 := own_some' hF.out.own (i := j * 2 + 1) (by omega)
      obtain ⟨u0, hu0⟩ := hs0
      obtain ⟨u1, hu1⟩ := hs1
      have hfz := hF.out.own.frozenAt
      have hgw := own_lt hF.out.own
      have f0 := hfz (j * 2)
      have f1 := hfz (j * 2 + 1)
      clear hr hfz hF
      generalize hll : B.lits.length = ll at *
      generalize hnm : B.name = nm at *
      have hll := Lib.hid hll
      have hnm := Lib.hid hnm
      go_upto_region 5 with fail
      generalize wr.alloc (.cells #[.string nm, .slice la ll lc] 81) = w4 at *
      have e0 := stepc hb4.out hgw hu0
      have e1 := stepc hb4.out hgw hu1
      clear c0 c1
      go_region_law (first
        | (go_simp; go_at_call 47; (with_reducible refine (hcl.out _ hb4.out.drew).mono ?_); rintro e w6 ⟨a2, c2, rfl, hM⟩; have hM := Lib.hid hM; have hb5 := nextw ((Below.refl w4.heap.size w4).drew) hM.out.below; have k0 := stepc hb5 hz4 d0; have k1 := stepc hb5 hz4 d1; have m0 := stepc hb5 (Nat.lt_of_lt_of_le hgw hb4.out.size) e0; have m1 := stepc hb5 (Nat.lt_of_lt_of_le hgw hb4.out.size) e1; have hb6 := nextw hb4.out hb5; have n0 := ((bcell hb6).2 _ (j * 2) hgw).trans f0; have n1 := ((bcell hb6).2 _ (j * 2 + 1) hgw).trans f1; have hb6 := Lib.hid hb6; clear hb5))
      all_goals go_wp2
      all_goals
        have hC := hFs.out _ hb6.out
        have hnx := hC.next hlt hLj.out (a := a2) (c := c2) (by rw [hll.out]; exact hM.out.lrow)
        rw [hll.out, hnm.out] at hnx
        exact ⟨⟨j + 1, _, by omega, by go_num, Lib.hid hnx.1, Lib.hid (((nextw hB.out hb6.out).setCell (Nat.le_refl _) _).setCell (Nat.le_refl _) _)⟩, by simp [intOf]; omega⟩
    · obtain rfl : j = n := by omega
      go_wp2
      go_ret
      exact ⟨some ⟨w.heap.size, 0, none⟩, j, rfl, ⟨K, by rw [← HN.out]; have := hF.out.own; simp only [Nat.sub_self, List.replicate_zero, List.append_nil] at this; exact own_base this (Nat.zero_le _), by rw [hF.out.len, HN.out], hF.out.row⟩, fun x hx => by cases hx; exact Nat.le_refl _, hB.out⟩
end Go.Proofs.YtlkainmkhofpaaaGreat
end

section
namespace Go.Proofs.YtlkainmkhofpaaaGreat
open Go.RowKit Go.Maps Bits
set_option maxRecDepth 100000

/-- Where a slice of a call's own lies. -/
def NewA (W : World) (a : Option Addr) : Prop := ∀ x, a = some x → W.heap.size ≤ x.block
theorem NewA.mono {W w : World} {a : Option Addr} (h : NewA w a) (hs : W.heap.size ≤ w.heap.size) : NewA W a := fun x hx => Nat.le_trans hs (h x hx)
theorem own_newA {W w : World} {base e size n m c : Nat} {a : Option Addr} {xs : List Value} (h : w.ownsRow base e size (.slice a m c) n xs) (hb : W.heap.size ≤ base) : NewA W a := by
  intro x hx
  have := own_ge h x.block (by rw [hx]; rfl)
  omega
def FarA (a b : Option Addr) : Prop := ∀ x y, a = some x → b = some y → x.block ≠ y.block
theorem BusRow.farA {w : World} {a b : Option Addr} {n c : Nat} {L : List Bus} (h : BusRow w (.slice a n c) L) (hb : NewA w b) : FarA a b := by
  intro x y hx hy e
  obtain ⟨cur, hc⟩ := h.type (k := x.block) (by rw [hx]; rfl)
  have := (Array.getElem?_eq_some_iff.1 hc).1
  have := hb y hy
  omega
theorem FarA.symm {a b : Option Addr} (h : FarA a b) : FarA b a := fun x y hx hy e => h y x hy hx e.symm
theorem blk_some {a : Option Addr} {n c k : Nat} (h : (Value.slice a n c).ownBlock = some k) : ∃ x, a = some x ∧ x.block = k := by
  cases a with
  | none => simp [Value.ownBlock] at h
  | some x => simp [Value.ownBlock] at h; exact ⟨x, rfl, h⟩
theorem ncopy_end {w wk : World} {N : Nt} {p2 : Pl} {a r b : Option Addr} {c d e : Nat} (hB : Below w.heap.size w wk) (hG : Is wk p2 N.g) (hGn : ∀ k, p2.has k → w.heap.size ≤ k) (hI : BusRow wk (.slice a N.ins.length c) N.ins) (hIn : NewA w a)
    (hR : RegRow wk (.slice r N.regs.length d) N.regs) (hRn : NewA w r) (hO : BusRow wk (.slice b N.outs.length e) N.outs) (hOn : NewA w b) (hap : FarA a b) :
    ∃ q : NPl, q.b = wk.heap.size ∧ NetIs (wk.alloc (.cells #[.pointer (some ⟨p2.b, 0, none⟩), .string N.name, .slice a N.ins.length c, .slice r N.regs.length d, .slice b N.outs.length e] 69)) q N ∧ ∀ k, q.has k → w.heap.size ≤ k := by
  have hb1 : ∀ o, Below wk.heap.size wk (wk.alloc o) := fun o => (Below.refl _ _).alloc (Nat.le_refl _) _
  refine ⟨⟨wk.heap.size, p2, .slice a N.ins.length c, .slice r N.regs.length d, .slice b N.outs.length e⟩, rfl, ⟨Deep.blk_alloc_new _ _, hG.below (hb1 _), hI.below (hb1 _), own_below hR (hb1 _), hO.below (hb1 _), fun k h1 h2 => ?_⟩, fun k hk => ?_⟩
  · obtain ⟨x, hx, e1⟩ := blk_some h1
    obtain ⟨y, hy, e2⟩ := blk_some h2
    exact hap x y hx hy (e1.trans e2.symm)
  · rcases hk with rfl | hk | hk | hk | hk
    · exact hB.size
    · exact hGn k hk
    · obtain ⟨x, hx, rfl⟩ := blk_some hk; exact hIn x hx
    · obtain ⟨x, hx, rfl⟩ := blk_some hk; exact hRn x hx
    · obtain ⟨x, hx, rfl⟩ := blk_some hk; exact hOn x hx

set_option maxHeartbeats 4000000 in
theorem NCopy_any {w : World} {q : NPl} {N : Nt} {rest : List Int} (h : NetIs w q N) (hg : Good N rest) (hm : N.g.nodes.length ≤ 190000) (hi : N.ins.length ≤ 10000) (hr : N.regs.length ≤ 10000) (ho : N.outs.length ≤ 10000) :
    Calls Tryz.prog 10 #[.pointer (some ⟨q.b, 0, none⟩)] w fun e w' => ∃ q2 : NPl, e = .returned (.pointer (some ⟨q2.b, 0, none⟩)) ∧ NetIs w' q2 N ∧ Below w.heap.size w w' ∧ ∀ k, q2.has k → w.heap.size ≤ k := by
  have hst := Lib.hid (nstands_any h hg.wf.pos)
  obtain ⟨ia, ic, ra, rc, oa, oc, e1, e2, e3, c0, c1, c2, c3, c4, -⟩ := h.cells
  have hlt := h.lt
  have hIr := h.ins
  rw [e1] at hIr
  have hOr := h.outs
  rw [e3] at hOr
  have hRr := h.regs
  rw [e2] at hRr
  have hKG := Lib.hid (fun wk (hb : Below w.heap.size w wk) => (CpQ (Copy_any (h.g.below hb) hg.wf (by omega)) (fun e w2 => ∃ p2 : Pl, e = .returned (.pointer (some ⟨p2.b, 0, none⟩)) ∧ Is w2 p2 N.g ∧ (∀ k, p2.has k → w.heap.size ≤ k) ∧ Below wk.heap.size wk w2) (fun _ _ ⟨p2, he, h1, h2, h3⟩ => ⟨p2, he, h1, fun k hk => Nat.le_trans hb.size (h3 k hk), h2⟩)))
  have hKI := Lib.hid (fun wk (hb : Below w.heap.size w wk) => copied_any (hIr.below hb) rfl (fun b hb => (hg.ins.wide b hb).2) hi)
  have hKO := Lib.hid (fun wk (hb : Below w.heap.size w wk) => copied_any (hOr.below hb) rfl (fun b hb => (hg.outs.wide b hb).2) ho)
  have hKR := Lib.hid (fun wk (hb : Below w.heap.size w wk) => (CpQ (clone_reg (own_below hRr hb) rfl (by omega)) (fun e w2 => ∃ (a2 : Option Addr) (c2 : Nat), e = .returned (.slice a2 N.regs.length c2) ∧ RegRow w2 (.slice a2 N.regs.length c2) N.regs ∧ NewA w a2 ∧ Below wk.heap.size wk w2) (fun _ _ ⟨a2, c2, he, h1, h2⟩ => ⟨a2, c2, he, own_base h1 (Nat.zero_le _), own_newA h1 hb.size, h2⟩)))
  have hend := Lib.hid (fun wk p2 a r b c d e (h1 : Below w.heap.size w wk) hG hGn hI hIn hR hRn hO hOn hap => ncopy_end (N := N) (p2 := p2) (a := a) (r := r) (b := b) (c := c) (d := d) (e := e) h1 hG hGn hI hIn hR hRn hO hOn hap)
  have hKeep := Lib.hid (fun (wk w2 : World) (hb : Below w.heap.size w wk) (hb2 : Below wk.heap.size wk w2) (o : Nat) (v : Value) (h : wk.cell? ⟨q.b, o, none⟩ = some v) => stepc hb2 (Nat.lt_of_lt_of_le hlt hb.size) h)
  have I : Below w.heap.size w w.drew := (Below.refl _ _).drew
  clear h hg hIr hOr hRr e1 e2 e3 hlt hm
  generalize hni : N.ins.length = ni at *
  generalize hnr : N.regs.length = nr at *
  generalize hno : N.outs.length = no at *
  generalize hnn : N.name = nm at *
  generalize q.g.b = gb at *
  clear hni hnr hno hnn
  go_enter Tryz.func10, Tryz.ntmps10
  go_upto_region 3 with (go_at_call 39; (with_reducible refine hst.out.mono ?_); rintro e w2 ⟨rfl, rfl⟩)
  clear hst
  go_region_held3 (fun w' => w'.cell? ⟨q.b, 0, none⟩ = some (.pointer (some ⟨gb, 0, none⟩)) ∧ w'.cell? ⟨q.b, 1, none⟩ = some (.string nm) ∧ w'.cell? ⟨q.b, 2, none⟩ = some (.slice ia ni ic) ∧ w'.cell? ⟨q.b, 3, none⟩ = some (.slice ra nr rc) ∧ w'.cell? ⟨q.b, 4, none⟩ = some (.slice oa no oc)) (go_keep)
    (first
      | (go_at_call 40; (with_reducible refine (hKG.out _ I).mono ?_); rintro e w2 ⟨p2, rfl, hG, hGn, hb⟩; have hG := Lib.hid hG; have hGn := Lib.hid hGn; (first | (have h1 := Lib.hid (hG.out.below hb); clear hG; have hG := h1; clear h1) | skip); (first | (have h1 := Lib.hid (hI.out.below hb); clear hI; have hI := h1; clear h1) | skip); (first | (have h1 := Lib.hid (own_below hR.out hb); clear hR; have hR := h1; clear h1) | skip); (first | (have h1 := Lib.hid (hO.out.below hb); clear hO; have hO := h1; clear h1) | skip); have q0 := hKeep.out _ _ I hb 0 _ c0; have q1 := hKeep.out _ _ I hb 1 _ c1; have q2 := hKeep.out _ _ I hb 2 _ c2; have q3 := hKeep.out _ _ I hb 3 _ c3; have q4 := hKeep.out _ _ I hb 4 _ c4; have I2 := nextw I hb; clear I hb c0 c1 c2 c3 c4; have I := I2; have c0 := q0; have c1 := q1; have c2 := q2; have c3 := q3; have c4 := q4; clear I2 q0 q1 q2 q3 q4)
      | (go_at_call 42; (with_reducible refine (hKR.out _ I).mono ?_); rintro e w2 ⟨a5, c5, rfl, hR, hRn, hb⟩; have hR := Lib.hid hR; have hRn := Lib.hid hRn; (first | (have h1 := Lib.hid (hG.out.below hb); clear hG; have hG := h1; clear h1) | skip); (first | (have h1 := Lib.hid (hI.out.below hb); clear hI; have hI := h1; clear h1) | skip); (first | (have h1 := Lib.hid (own_below hR.out hb); clear hR; have hR := h1; clear h1) | skip); (first | (have h1 := Lib.hid (hO.out.below hb); clear hO; have hO := h1; clear h1) | skip); have q0 := hKeep.out _ _ I hb 0 _ c0; have q1 := hKeep.out _ _ I hb 1 _ c1; have q2 := hKeep.out _ _ I hb 2 _ c2; have q3 := hKeep.out _ _ I hb 3 _ c3; have q4 := hKeep.out _ _ I hb 4 _ c4; have I2 := nextw I hb; clear I hb c0 c1 c2 c3 c4; have I := I2; have c0 := q0; have c1 := q1; have c2 := q2; have c3 := q3; have c4 := q4; clear I2 q0 q1 q2 q3 q4)
      | (go_at_call 41; (with_reducible refine (hKI.out _ I).mono ?_); rintro e w2 ⟨a6, c6, rfl, hI, hIn, hb⟩; (first | have hap := Lib.hid (hO.out.farA hIn).symm | skip); have hI := Lib.hid hI; have hIn := Lib.hid (NewA.mono hIn I.size); (first | (have h1 := Lib.hid (hG.out.below hb); clear hG; have hG := h1; clear h1) | skip); (first | (have h1 := Lib.hid (hI.out.below hb); clear hI; have hI := h1; clear h1) | skip); (first | (have h1 := Lib.hid (own_below hR.out hb); clear hR; have hR := h1; clear h1) | skip); (first | (have h1 := Lib.hid (hO.out.below hb); clear hO; have hO := h1; clear h1) | skip); have q0 := hKeep.out _ _ I hb 0 _ c0; have q1 := hKeep.out _ _ I hb 1 _ c1; have q2 := hKeep.out _ _ I hb 2 _ c2; have q3 := hKeep.out _ _ I hb 3 _ c3; have q4 := hKeep.out _ _ I hb 4 _ c4; have I2 := nextw I hb; clear I hb c0 c1 c2 c3 c4; have I := I2; have c0 := q0; have c1 := q1; have c2 := q2; have c3 := q3; have c4 := q4; clear I2 q0 q1 q2 q3 q4)
      | (go_at_call 41; (with_reducible refine (hKO.out _ I).mono ?_); rintro e w2 ⟨a7, c7, rfl, hO, hOn, hb⟩; (first | have hap := Lib.hid (hI.out.farA hOn) | skip); have hO := Lib.hid hO; have hOn := Lib.hid (NewA.mono hOn I.size); (first | (have h1 := Lib.hid (hG.out.below hb); clear hG; have hG := h1; clear h1) | skip); (first | (have h1 := Lib.hid (hI.out.below hb); clear hI; have hI := h1; clear h1) | skip); (first | (have h1 := Lib.hid (own_below hR.out hb); clear hR; have hR := h1; clear h1) | skip); (first | (have h1 := Lib.hid (hO.out.below hb); clear hO; have hO := h1; clear h1) | skip); have q0 := hKeep.out _ _ I hb 0 _ c0; have q1 := hKeep.out _ _ I hb 1 _ c1; have q2 := hKeep.out _ _ I hb 2 _ c2; have q3 := hKeep.out _ _ I hb 3 _ c3; have q4 := hKeep.out _ _ I hb 4 _ c4; have I2 := nextw I hb; clear I hb c0 c1 c2 c3 c4; have I := I2; have c0 := q0; have c1 := q1; have c2 := q2; have c3 := q3; have c4 := q4; clear I2 q0 q1 q2 q3 q4))
  all_goals go_wp2
  all_goals go_ret
  all_goals
    obtain ⟨q2, e1, h1, h2⟩ := hend.out _ _ _ _ _ _ _ _ I hG.out hGn.out hI.out hIn.out hR.out hRn.out hO.out hOn.out hap.out
    exact ⟨q2, by rw [e1]; rfl, h1, I.alloc I.size _, h2⟩
end Go.Proofs.YtlkainmkhofpaaaGreat
end
