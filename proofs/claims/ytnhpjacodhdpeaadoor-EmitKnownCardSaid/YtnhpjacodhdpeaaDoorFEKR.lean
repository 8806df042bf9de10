/-
  Package emit: All's text as a string; the chapter's netlist, its rows (tells).
  Check of the netlist whose first register's Q is turned: none.
  Package emit: nil, and netlists that Check tells an error of: All, Size, Lines.
-/
import Derived.Test.YtnhpjacodhdpeaaDoorFEKQ
import Derived.Laws.IdiomStrings
section
namespace Go.Proofs.YtnhpjacodhdpeaaDoor
open Go.RowKit Go.Maps Bits Go.Shelf
set_option maxRecDepth 100000
set_option linter.unusedVariables false

theorem textN_pos (N : Nt) : 0 < (textN N).length := by
  unfold textN linesL
  rw [List.flatMap_cons, List.length_append, List.length_append, List.length_cons]
  omega
def codeQ (ck : Int) (T : List UInt8) : Int := if ck = 0 then (if T.length ≤ 16777216 then 0 else 3) else ck
def strQ (ck : Int) (T : List UInt8) : ByteArray := if ck = 0 ∧ T.length ≤ 16777216 then ⟨T.toArray⟩ else ⟨#[]⟩
theorem conv_nil (W : World) : (convert 31 9 (.slice none 0 0)).run Tryd.prog W = .ok (.string ⟨#[]⟩) W := by kernel_rfl
/-- A row of bytes as a string. -/
def ConvQ (w' : World) (va : Value) (S : ByteArray) : Prop := ∀ W, Below w'.heap.size w' W → (convert 31 9 va).run Tryd.prog W = .ok (.string S) W
theorem ConvQ.step {w w' : World} {va : Value} {S : ByteArray} (h : ConvQ w va S) (hb : Below w.heap.size w w') : ConvQ w' va S := fun W hW => h W (nextw hb hW)
theorem AllQ.tell {w w' : World} {ck : Int} {T : List UInt8} {va : Value} {c : Int} (h : AllQ w w' ck T va c) (hT : 0 < T.length) :
    c = codeQ ck T ∧ (∃ a cap, va = .slice a (strQ ck T).size cap) ∧ ConvQ w' va (strQ ck T) := by
  rcases h with ⟨h0, rfl, rfl⟩ | ⟨rfl, hl, rfl, ho⟩ | ⟨rfl, hl, rfl, rfl⟩
  · rw [show strQ c T = ⟨#[]⟩ by simp [strQ, h0]]
    exact ⟨by simp [codeQ, h0], ⟨none, 0, rfl⟩, fun W hW => conv_nil W⟩
  · rw [show strQ 0 T = ⟨T.toArray⟩ by simp [strQ, hl]]
    obtain ⟨g, cap, rfl⟩ := own_form ho (by omega)
    refine ⟨by simp [codeQ, hl], ⟨_, cap, rfl⟩, fun W hW => ?_⟩
    have ho2 := own_below ho hW
    refine run_convert_bytes_back W _ _ 5 _ cap T Tryd.underlying31 Tryd.underlying5 Tryd.underlying9 (fun j hj => ?_)
    rw [show (⟨g, 0, none⟩ : Addr).add j = ⟨g, j, none⟩ by simp [Addr.add]; omega, ho2.cellAt (j := j) (by omega)]
    simp [bys, hj]
  · rw [show strQ 0 T = ⟨#[]⟩ by simp [strQ]; omega]
    exact ⟨by simp [codeQ]; omega, ⟨none, 0, rfl⟩, fun W hW => conv_nil W⟩
theorem All_tell {w : World} {q : NPl} {N : Nt} {rest : List Int} (h : NetIs w q N) (hg : Good N rest) (hS : Small N) (ht : PW w) :
    Calls Tryd.prog 34 #[.pointer (some ⟨q.b, 0, none⟩)] w fun e w' => ∃ a cap, e = .returned (.tuple #[.slice a (strQ (ckV rest) (textN N)).size cap, .int .i64 (codeQ (ckV rest) (textN N))]) ∧ ConvQ w' (.slice a (strQ (ckV rest) (textN N)).size cap) (strQ (ckV rest) (textN N)) ∧ Below w.heap.size w w' := by
  refine (All_good h hg hS ht).mono ?_
  rintro e w' ⟨va, c, rfl, hQ, hB⟩
  obtain ⟨rfl, ⟨a, cap, rfl⟩, hc⟩ := hQ.tell (textN_pos N)
  exact ⟨a, cap, rfl, hc, hB⟩

abbrev sT5 : ByteArray := ⟨#[46, 109, 111, 100, 101, 108, 32, 116, 111, 112, 10, 46, 105, 110, 112, 117, 116, 32, 97, 32, 50, 32, 52, 10, 46, 108, 97, 116, 99, 104, 32, 54, 32, 56, 32, 49, 32, 49, 10, 46, 97, 110, 100, 32, 56, 32, 54, 32, 50, 10, 46, 111, 117, 116, 112, 117, 116, 32, 120, 32, 57, 10, 46, 101, 110, 100, 10]⟩
theorem text5 : textN t5 = [46, 109, 111, 100, 101, 108, 32, 116, 111, 112, 10, 46, 105, 110, 112, 117, 116, 32, 97, 32, 50, 32, 52, 10, 46, 108, 97, 116, 99, 104, 32, 54, 32, 56, 32, 49, 32, 49, 10, 46, 97, 110, 100, 32, 56, 32, 54, 32, 50, 10, 46, 111, 117, 116, 112, 117, 116, 32, 120, 32, 57, 10, 46, 101, 110, 100, 10] := by kernel_rfl
theorem str5 : strQ (ckV []) (textN t5) = sT5 := by rw [text5]; rfl
theorem code5 : codeQ (ckV []) (textN t5) = 0 := by rw [text5]; rfl
theorem all5 {w0 w : World} {B C : Nat} {q : NPl} (h : AtN w0 B C w q t5) (ht : PW w) :
    Calls Tryd.prog 34 #[.pointer (some ⟨B, 0, none⟩)] w fun e w' => ∃ a cap, e = .returned (.tuple #[.slice a 67 cap, .int .i64 0]) ∧ ConvQ w' (.slice a 67 cap) sT5 ∧ Below w.heap.size w w' := by
  have h1 := All_tell h.is t5_good (small_t (by decide)) ht
  rw [str5, code5, h.b] at h1
  exact h1
theorem size5 {w0 w : World} {B C : Nat} {q : NPl} (h : AtN w0 B C w q t5) (ht : PW w) :
    Calls Tryd.prog 35 #[.pointer (some ⟨B, 0, none⟩)] w fun e w' => e = .returned (.tuple #[.int .i64 67, .int .i64 0]) ∧ Below w.heap.size w w' := by
  have h1 := Size_good h.is t5_good (small_t (by decide)) ht
  rw [text5, h.b] at h1
  exact h1
set_option maxHeartbeats 4000000 in
theorem small10_any (w : World) : Calls Tryd.prog 39 #[] w fun e w' => ∃ (q : NPl) (B C : Nat), e = .returned (.pointer (some ⟨B, 0, none⟩)) ∧ AtN w B C w' q t5 := by
  have hnew := Lib.hid (AtN.new w (Below.refl w.heap.size w) false false top_may)
  go_enter Tryd.func39, Tryd.ntmps39
  go_wp2_with (first
    | (go_at_call 37; refine hnew.out.mono ?_; rintro e w2 ⟨q0, B, C, rfl, hA0⟩; obtain ⟨c0, c1⟩ := hA0.cells; have hk1 := Lib.hid (hA0.addIn t0_good.wf (by decide) (by decide) e1))
    | (go_at_call 80; (with_reducible refine hk1.out.mono ?_); rintro e w3 ⟨a, c, q1, rfl, hA1'⟩; have hA1 : AtL w B C a 2 c [2, 4] w3 q1 t1 := hA1'; clear hA1'; have hk2 := Lib.hid (hA1.addReg t1_good.wf (by decide) (by decide) e2); clear hk1)
    | (go_at_call 81; (with_reducible refine hk2.out.mono ?_); rintro e w4 ⟨q2, rfl, hA2⟩; obtain ⟨c2, c3⟩ := hA2.at_.cells; have hk3 := Lib.hid (hA2.and t2_good (by decide) lit2 lit6 e3); clear hk2)
    | (go_at_call 82; (with_reducible refine hk3.out.mono ?_); rintro e w5 ⟨q3, rfl, hA3⟩; have hk4 := Lib.hid (hA3.setReg t3_good.wf lit8 lit1 e4); clear hk3)
    | (go_at_call 83; (with_reducible refine hk4.out.mono ?_); rintro e w6 ⟨q4, rfl, hA4⟩; have hk5 := Lib.hid (hA4.addOut1 t4_good.wf (by decide) lit9 e5); clear hk4)
    | (go_at_call 84; (with_reducible refine hk5.out.mono ?_); rintro e w7 ⟨q5, rfl, hA5⟩; clear hk5))
  go_ret
  exact ⟨q5, B, C, rfl, hA5.at_⟩
set_option maxHeartbeats 4000000 in
theorem tells10_any {w : World} (ht : PW w) : Calls Tryd.prog 40 #[] w fun e w' => e = .returned (.bool true) ∧ Below w.heap.size w w' := by
  have hsm := Lib.hid (small10_any w)
  have hPW := Lib.hid (fun W (hb : Below w.heap.size w W) => ht.step hb)
  go_enter Tryd.func40, Tryd.ntmps40
  go_wp2_with (first
    | (go_at_call 39; (with_reducible refine hsm.out.mono ?_); rintro e w2 ⟨q, B, C, rfl, hA⟩; have hal := Lib.hid (all5 hA (hPW.out _ hA.below)); have hA := Lib.hid hA; clear hsm)
    | (go_at_call 34; (with_reducible refine hal.out.mono ?_); rintro e w3 ⟨a, cap, rfl, hcv, hb3⟩; have hA3 := Lib.hid (hA.out.step hb3); have hsz := Lib.hid (size5 hA3.out (hPW.out _ hA3.out.below)); have hcv := Lib.hid hcv; clear hal hb3 hA)
    | (go_at_call 35; (with_reducible refine hsz.out.mono ?_); rintro e w4 ⟨rfl, hb4⟩; have hc4 := hcv.out _ hb4; have hA4 := Lib.hid (hA3.out.step hb4); clear hsz hb4 hA3))
  go_ret
  exact ⟨rfl, hA4.out.below⟩
end Go.Proofs.YtnhpjacodhdpeaaDoor
end

section
namespace Go.Proofs.YtnhpjacodhdpeaaDoor
open Go.RowKit Go.Maps Bits
set_option maxRecDepth 100000

theorem take_bad (a b c : Option Addr) (w : World) :
    Calls Tryd.prog 145 #[.int .u32 1, .pointer a, .pointer b, .pointer c] w fun e w' => e = .returned (.bool false) ∧ Below w.heap.size w w' := by
  have htu := Lib.hid (fun w => turned_any 1 lit1 w)
  rw [show turnV 1 = true by rfl] at htu
  go_enter Tryd.func145, Tryd.ntmps145
  go_upto_region 1 with fail
  go_quiet (first | (go_at_call 146; with_reducible exact Calls.quiet_of_same ((htu.out _).mono (fun _ _ h => ⟨h.1, h.2.symm⟩))))
  go_wp2
  go_ret
  exact ⟨rfl, by first | exact Below.refl _ _ | exact (Below.refl _ _).drew | exact below_draws _ _⟩
set_option maxHeartbeats 4000000 in
theorem open_bad {w : World} {q : NPl} {N : Nt} {rest : List Int} {d0 e0 : Int} {i0 : Bool} {rs : List Rg} (h : NetIs w q { N with regs := ⟨1, d0, e0, i0⟩ :: rs }) (hg : Good N rest) (hm : N.g.nodes.length ≤ 190000) :
    Calls Tryd.prog 111 #[.pointer (some ⟨q.b, 0, none⟩)] w fun e w' => e = .returned (.tuple #[.int .i64 0, .bool false]) ∧ Below w.heap.size w w' := by
  have hb1 : Below w.heap.size w (w.alloc (.cells #[.pointer (some ⟨q.b, 0, none⟩)] 78)) := (Below.refl _ _).alloc (Nat.le_refl _) _
  have hz1 : (w.alloc (.cells #[.pointer (some ⟨q.b, 0, none⟩)] 78)).heap.size = w.heap.size + 1 := by simp
  have k0 : (w.alloc (.cells #[.pointer (some ⟨q.b, 0, none⟩)] 78)).cell? ⟨w.heap.size, 0, none⟩ = some (.pointer (some ⟨q.b, 0, none⟩)) := by simp [go_sem]
  have h1 := h.below hb1
  obtain ⟨ia, ic, ra, rc, oa, oc, e1, e2, e3, a0, -, a2, a3, -, -⟩ := h.cells
  have hqlt := h.lt
  have c0 := stepc hb1 hqlt a0
  have hlt := h1.lt
  have hcn := hg.wf.cnt
  have hin := Lib.hid (InputsOf_any h1.g hg.wf (by show N.g.nodes.length ≤ 200000; omega))
  have hnd := Lib.hid (fun w2 (hb : Below (w.alloc (.cells #[.pointer (some ⟨q.b, 0, none⟩)] 78)).heap.size (w.alloc (.cells #[.pointer (some ⟨q.b, 0, none⟩)] 78)) w2) => nodes_any (h1.g.below hb).lay hg.wf.pos)
  have htk := Lib.hid (fun (wr : World) (qn qf qt fb : Nat) (x : Int) (l : List Int) (t : Nat) (hT : Tk w q N.g.nodes.length qn qf qt fb (x :: l) t wr) (hl : Left N.g (x :: l)) (ht : t ≤ 1000000) => take_litP h hg.wf.pos hT hl ht (by show N.g.nodes.length ≤ 200000; omega))
  have hI := Lib.hid (show BusRow w (.slice ia N.ins.length ic) N.ins by have := h.ins; rw [e1] at this; exact this)
  have hR := Lib.hid (show RegRow w (.slice ra (rs.length + 1) rc) (⟨1, d0, e0, i0⟩ :: rs) by have := h.regs; rw [e2] at this; exact this)
  have hleI : N.ins.length ≤ 9223372036854775807 := by obtain ⟨K, hK⟩ := h.ins; exact own_maxLen hK.own
  have hleR : rs.length + 1 ≤ 9223372036854775807 := own_maxLen h.regs
  have hbad := Lib.hid (fun (w : World) a b c => take_bad a b c w)
  have hLD := Lib.hid (fun (j : Nat) (hj : j < N.ins.length) => leftD_left hg hj)
  have hL0 := Lib.hid (fun (j : Nat) (hj : j < N.ins.length) => leftD_zero N rest hj)
  have hL1 := Lib.hid (fun (j k : Nat) (hj : j < N.ins.length) (hk : k < N.ins[j].lits.length) => leftD_next N rest hj hk)
  have hL2 := Lib.hid (fun (j : Nat) (hj : j < N.ins.length) => leftD_end N rest hj)
  have hfull := Lib.hid (leftB_full hg)
  have hmark : Hid (∀ j, j < N.g.inputs.length → ∃ i : Nat, N.g.inputs[j]? = some (i : Int) ∧ i < N.g.nodes.length) := Lib.hid (fun j hj => by
    obtain ⟨i, e, _, n, hn, _⟩ := hg.wf.ins j _ (List.getElem?_eq_getElem hj)
    exact ⟨i, by rw [List.getElem?_eq_getElem hj, e], (List.getElem?_eq_some_iff.1 hn).1⟩)
  have hperm : Hid (freeL N.g.nodes.length (marked N.g.inputs N.g.inputs.length) = freeL N.g.nodes.length (leftB N rest 0)) := Lib.hid (by
    rw [leftB_zero]
    unfold marked
    rw [List.take_length]
    exact (freeL_perm _ hg.drv).symm)
  obtain ⟨i0, hi, hz0, hz2, hz3⟩ := info_parts info_boolO
  have HI := Lib.hid (made_free N.g.nodes.length)
  have hlen := hg.drv.length_eq
  unfold inLits at hlen
  rw [List.length_map, List.length_append] at hlen
  have hrl : rest.length ≤ N.g.inputs.length := by omega
  obtain ⟨ni, hni0⟩ : ∃ ni, N.ins.length = ni := ⟨_, rfl⟩
  obtain ⟨nr, hnr0⟩ : ∃ nr, rs.length + 1 = nr := ⟨_, rfl⟩
  have hnr1 : 1 ≤ nr := by omega
  rw [hni0] at a2 hI hleI
  simp only [List.length_cons] at a3
  rw [hnr0] at a3 hR hleR
  have hni := Lib.hid hni0
  have hnr := Lib.hid hnr0
  clear h h1 hg hlen e1 e2 e3 hni0 hnr0
  generalize hw1 : w.alloc (.cells #[.pointer (some ⟨q.b, 0, none⟩)] 78) = w1 at *
  generalize hnn : N.g.nodes.length = n at *
  generalize hnI : N.g.inputs = I at *
  generalize hmm : I.length = m at *
  have hmm := Lib.hid hmm
  clear hnn hnI
  go_enter Tryd.func111, Tryd.ntmps111
  go_wp2_with (first
    | (go_at_call 144; (with_reducible refine hin.out.mono ?_); rintro e w2 ⟨na, nc, rfl, hio, hb2⟩; have d0 := stepc hb2 hlt c0; have kk := stepc hb2 (by omega) k0; have hn2 := Lib.hid (hnd.out _ hb2); have hio := Lib.hid hio; have hB2 := Lib.hid (nextw hb1 hb2); clear hin hnd)
    | (go_at_call 116; (with_reducible refine hn2.out.mono ?_); rintro e w3 ⟨rfl, rfl⟩)
    | (at_make; refine wpList_make_full _ rfl _ _ 219 rfl w2.heap.size 4 i0 (.bool false) 1 Tryd.underlying219 hi hz0 hz2 .i64 .i64 n n n rfl rfl rfl rfl (by rw [hz3]; omega) (by unfold maxLen; omega) (Nat.le_refl _) ?_; intro w5 hown hgr))
  have hb25 : Below w2.heap.size w2 w5 := (Below.refl w2.heap.size w2).grown hgr (Nat.le_refl _) (fun _ h => by cases h)
  have hba : Below w5.heap.size w5 (w5.alloc (.cells #[.slice (some ⟨w2.heap.size, 0, none⟩) n n] 219)) := (Below.refl _ _).alloc (Nat.le_refl _) _
  rw [HI.out] at hown
  have hl5 := own_lt hown
  have hs2 := hb2.size
  have hs25 := hb25.size
  have hMk : Hid (Mk w q n w.heap.size w5.heap.size w2.heap.size na m nc I (marked I 0) (w5.alloc (.cells #[.slice (some ⟨w2.heap.size, 0, none⟩) n n] 219))) := Lib.hid ⟨nextw (nextw hB2.out hb25) hba, stepc hba (by omega) (stepc hb25 (by omega) kk), by simp [go_sem], own_base (own_below hown hba) (by omega), own_base (own_below (own_below hio.out hb25) hba) (by omega), by omega, by omega⟩
  clear HI hown hgr hio hb25 hba hb2 hB2 hn2 d0 kk k0 hi hz0 hz2 hz3 c0
  generalize w2.heap.size = fb at *
  generalize w5.heap.size = qf at *
  generalize hqn : w.heap.size = qn at *
  have hm2 : m ≤ 190000 := by omega
  go_loopw [29] (fun i wr => ∃ j : Nat, j ≤ m ∧ i = .int .i64 j ∧ Hid (Mk w q n qn qf fb na m nc I (marked I j) wr)) (fun i _ => m - (intOf i).toNat)
  case atStart => exact ⟨0, Nat.zero_le _, rfl, hMk⟩
  case round =>
    clear hMk
    obtain ⟨j, hj, rfl, hF⟩ := hrel
    have f1 := hF.out.cf
    by_cases hlt : j < m
    · obtain ⟨i, hIj, hin⟩ := hmark.out j hlt
      obtain ⟨gi, cap, e⟩ := own_form hF.out.ins (by omega)
      simp only [Value.slice.injEq] at e
      obtain ⟨rfl, -, -⟩ := e
      have b0 : wr.cell? ⟨gi, j, none⟩ = some (.int .i64 i) := by rw [hF.out.ins.cellAt j (by omega)]; simp [hIj]
      obtain ⟨u, hu⟩ := own_some hF.out.free hin
      have hfz := hF.out.free.frozenAt i
      have hnx := Lib.hid (hF.out.mark hIj)
      clear hF hmark
      go_wp2
      exact ⟨⟨j + 1, by omega, by go_num, hnx⟩, by simp [intOf]; omega⟩
    · obtain rfl : j = m := by omega
      have hT := Lib.hid (hF.out.tk hperm.out)
      have hins := Lib.hid hF.out.ins
      clear hmark hperm hF
      have k1 := hT.out.cn
      have k2 := stepc hT.out.below (by omega) a2
      have hT0 : Hid (Tk w q n qn qf wr.heap.size fb (leftB N rest 0) ((j - (leftB N rest 0).length : Nat) : Int) (wr.alloc (.cells #[.int .i64 0] 3))) := Lib.hid (by rw [hfull.out, Nat.sub_self]; exact hT.out)
      clear hT hfull hins
      obtain ⟨wz, rfl⟩ : ∃ wz : World, wz = wr := ⟨_, rfl⟩
      generalize leftB N rest = LB at *
      generalize leftR N rest = LR at *
      go_wp2
      go_loopw [43] (fun i wr => ∃ i' : Nat, i' ≤ ni ∧ i = .int .i64 i' ∧ Hid (Tk w q n qn qf wz.heap.size fb (LB i') ((j - (LB i').length : Nat) : Int) wr)) (fun i _ => ni - (intOf i).toNat)
      case atStart => exact ⟨0, Nat.zero_le _, rfl, hT0⟩
      case round =>
        clear hT0
        obtain ⟨i, hi, rfl, hT⟩ := hrel
        by_cases hlt : i < ni
        · have hiL : i < N.ins.length := by rw [hni.out]; exact hlt
          obtain ⟨g2, la, lc, rfl, hgl, b0, b1, hr⟩ := hI.out.at hiL
          have hgl2 : g2 < qn := by omega
          have d0 := stepc hT.out.below hgl b0
          have d1 := stepc hT.out.below hgl b1
          have hT2 : Hid (Tk w q n qn qf wz.heap.size fb (leftD N rest i 0) ((j - (leftD N rest i 0).length : Nat) : Int) (wr.alloc (.cells #[.string N.ins[i].name, .slice la N.ins[i].lits.length lc] 184))) := Lib.hid (by rw [hL0.out i hiL]; exact hT.out.step ((Below.refl _ _).alloc (Nat.le_refl _) _))
          have hD := Lib.hid (hLD.out i hiL)
          have hD1 := Lib.hid (fun k => hL1.out i k hiL)
          have hD2 := Lib.hid (hL2.out i hiL)
          have hr := Lib.hid hr.row
          have hle := hr.out.le
          clear hT b0 b1
          generalize hB : N.ins[i] = B at *
          clear hB
          generalize leftD N rest i = LD at *
          generalize hll : B.lits.length = ll at *
          clear hll
          generalize B.name = nm at *
          go_wp2
          go_loopw [50] (fun s wr => ∃ k : Nat, k ≤ ll ∧ s = .int .i64 k ∧ Hid (Tk w q n qn qf wz.heap.size fb (LD k) ((j - (LD k).length : Nat) : Int) wr)) (fun s _ => ll - (intOf s).toNat)
          case atStart => exact ⟨0, Nat.zero_le _, rfl, hT2⟩
          case round =>
            clear hT2 d0 d1
            obtain ⟨k, hk, rfl, hT⟩ := hrel
            by_cases hkl : k < ll
            · obtain ⟨b, off, rfl, hb, hc⟩ := hr.out.at (by omega)
              have c1 := stepc hT.out.below hb (hc k hkl)
              obtain ⟨hl1, hl2⟩ := hD.out k hk
              have e := hD1.out k hkl
              have hT := hT.out
              rw [e] at hl1 hl2 hT
              have htt := Lib.hid (htk.out _ _ _ _ _ _ _ _ hT hl1 (by omega))
              have hcnt : j - (B.lits.getD k 0 :: LD (k + 1)).length + 1 = j - (LD (k + 1)).length := by
                rw [List.length_cons] at hl2 ⊢; omega
              rw [hcnt] at htt
              clear hT hl1 e hcnt hc
              generalize B.lits.getD k 0 = x at *
              go_wp2_with (go_at_call 145; (with_reducible refine htt.out.mono ?_); rintro e w7 ⟨rfl, hT7⟩; have hT7 := Lib.hid hT7)
              exact ⟨⟨k + 1, by omega, by go_num, hT7⟩, by simp [intOf]; omega⟩
            · obtain rfl : k = ll := by omega
              rw [hD2.out] at hT
              go_wp2
              exact ⟨⟨i + 1, by omega, by go_num, hT⟩, by simp [intOf]; omega⟩
        · obtain rfl : i = ni := by omega
          have k1 := hT.out.cn
          have k3 := stepc hT.out.below (by omega) a3
          clear hL0 hL1 hL2 hLD hI a2
          have hT0 := hT
          go_wp2
          go_loopw [65] (fun v wr => v = .int .i64 0 ∧ Hid (Tk w q n qn qf wz.heap.size fb (LB i) ((j - (LB i).length : Nat) : Int) wr)) (fun v _ => 1)
          case atStart => exact ⟨rfl, hT⟩
          case round =>
            clear hT k1 k3 hT0
            obtain ⟨rfl, hT⟩ := hrel
            obtain ⟨g2, rfl, hgl, b0, b1, b2, b3⟩ := hR.out.at (j := 0) (by simp)
            have d0' := stepc hT.out.below hgl b0
            have d1' := stepc hT.out.below hgl b1
            have d2' := stepc hT.out.below hgl b2
            have d3' := stepc hT.out.below hgl b3
            simp only [Nat.zero_mul, Nat.zero_add, List.getElem_cons_zero] at d0' d1' d2' d3'
            have hnn : (0 : Int) < nr := by omega
            clear b0 b1 b2 b3
            go_wp2_with (go_at_call 145; (with_reducible refine (hbad.out _ _ _ _).mono ?_); rintro e w7 ⟨rfl, hb7⟩)
            go_ret2
            exact ⟨rfl, nextw hT.out.below (nextw ((Below.refl _ _).alloc (Nat.le_refl _) _) hb7)⟩
set_option maxHeartbeats 2000000 in
theorem Check_bad {w : World} {q : NPl} {N : Nt} {rest : List Int} {d0 e0 : Int} {i0 : Bool} {rs : List Rg} (h : NetIs w q { N with regs := ⟨1, d0, e0, i0⟩ :: rs }) (hg : Good N rest) (hd : There N.g d0 ∧ There N.g e0) (hrs : ∀ r ∈ rs, There N.g r.d ∧ There N.g r.en) (hm : N.g.nodes.length ≤ 190000) (hi : N.ins.length ≤ 10000) (hr : rs.length ≤ 9999) (ho : N.outs.length ≤ 10000) :
    Calls Tryd.prog 71 #[.pointer (some ⟨q.b, 0, none⟩)] w fun e w' => e = .returned (.int .i64 1) ∧ Below w.heap.size w w' := by
  have hst := Lib.hid (nstands_any h hg.wf.pos)
  obtain ⟨ia, ic, ra, rc, oa, oc, e1, e2, e3, a0, a1, a2, a3, a4, -⟩ := h.cells
  have hlt := h.lt
  have hmn := Lib.hid (fun w => MayName_any N.name w)
  rw [hg.name] at hmn
  have hbI := Lib.hid (fun w2 (hb : Below w.heap.size w w2) => mayBe_any (by have := h.ins.below hb; rw [e1] at this; exact this) rfl hg.ins hi)
  have hbO := Lib.hid (fun w2 (hb : Below w.heap.size w w2) => mayBe_any (by have := h.outs.below hb; rw [e3] at this; exact this) rfl hg.outs ho)
  have hle := Lib.hid (fun w2 (hb : Below w.heap.size w w2) => leansWell_anyP (h.below hb) hg.wf.pos hg.outT (fun r hr2 => by rcases List.mem_cons.1 hr2 with rfl | hr2; exact hd; exact hrs r hr2))
  have hop := Lib.hid (fun w2 (hb : Below w.heap.size w w2) => open_bad (h.below hb) hg hm)
  have g0 : decide (16384 < ((rs.length + 1 : Nat) : Int)) = false := by simp; omega
  simp only [List.length_cons] at a3
  clear h hg e1 e2 e3 hm hd hrs
  generalize N.ins.length = ni at *
  generalize rs.length + 1 = nr at *
  generalize N.outs.length = no at *
  generalize N.name = nm at *
  go_enter Tryd.func71, Tryd.ntmps71
  go_wp2_with (first
    | (go_at_call 108; (with_reducible refine hst.out.mono ?_); rintro e w2 ⟨rfl, rfl⟩)
    | (go_at_call 75; (with_reducible refine (hmn.out _).mono ?_); rintro e w2 ⟨rfl, hb2⟩; have b2 := stepc hb2 hlt a2; have b3 := stepc hb2 hlt a3; have b4 := stepc hb2 hlt a4; have B := Lib.hid hb2; clear hb2)
    | (go_at_call 109; (with_reducible refine (hbI.out _ B.out).mono ?_); rintro e w3 ⟨rfl, hb3⟩; have b3 := stepc hb3 (Nat.lt_of_lt_of_le hlt B.out.size) b3; have b4 := stepc hb3 (Nat.lt_of_lt_of_le hlt B.out.size) b4; have B := Lib.hid (nextw B.out hb3); clear hb3)
    | (go_at_call 109; (with_reducible refine (hbO.out _ B.out).mono ?_); rintro e w3 ⟨rfl, hb3⟩; have b3 := stepc hb3 (Nat.lt_of_lt_of_le hlt B.out.size) b3; have B := Lib.hid (nextw B.out hb3); clear hb3)
    | (go_at_call 110; (with_reducible refine (hle.out _ B.out).mono ?_); rintro e w3 ⟨rfl, hb3⟩; have B := Lib.hid (nextw B.out hb3); clear hb3)
    | (go_at_call 111; (with_reducible refine (hop.out _ B.out).mono ?_); rintro e w3 ⟨rfl, hb3⟩; have B := Lib.hid (nextw B.out hb3); clear hb3))
  go_ret
  exact ⟨rfl, B.out⟩
end Go.Proofs.YtnhpjacodhdpeaaDoor
end

section
namespace Go.Proofs.YtnhpjacodhdpeaaDoor
open Go.RowKit Go.Maps Bits Go.Shelf
attribute [local go_sem] Oper.semAt_some
set_option maxRecDepth 100000
set_option linter.unusedVariables false

theorem stands_nil (w : World) : Calls Tryd.prog 108 #[.pointer none] w fun e w' => e = .returned (.bool false) ∧ w = w' := by
  go_enter Tryd.func108, Tryd.ntmps108
  go_wp2
  go_ret
  exact ⟨rfl, rfl⟩
theorem check_nil (w : World) : Calls Tryd.prog 71 #[.pointer none] w fun e w' => e = .returned (.int .i64 2) ∧ Below w.heap.size w w' := by
  have hst := Lib.hid (stands_nil w)
  go_enter Tryd.func71, Tryd.ntmps71
  go_wp2_with (go_at_call 108; (with_reducible refine hst.out.mono ?_); rintro e w2 ⟨rfl, rfl⟩)
  go_ret
  exact ⟨rfl, Below.refl _ _⟩
/-- What Check tells of a pointer in this world and behind it. -/
def Errs (w : World) (p : Option Addr) (c : Int) : Prop := c ≠ 0 ∧ ∀ W, Below w.heap.size w W → Calls Tryd.prog 71 #[.pointer p] W fun e w' => e = .returned (.int .i64 c) ∧ Below W.heap.size W w'
theorem Errs.step {w w2 : World} {p : Option Addr} {c : Int} (h : Errs w p c) (hb : Below w.heap.size w w2) : Errs w2 p c := ⟨h.1, fun W hW => h.2 W (nextw hb hW)⟩
theorem errs_nil (w : World) : Errs w none 2 := ⟨by decide, fun W _ => check_nil W⟩
set_option maxHeartbeats 4000000 in
theorem All_err {w : World} {p : Option Addr} {c : Int} (h : Errs w p c) :
    Calls Tryd.prog 34 #[.pointer p] w fun e w' => e = .returned (.tuple #[.slice none 0 0, .int .i64 c]) ∧ Below w.heap.size w w' := by
  obtain ⟨w1, hw1⟩ : ∃ w1, w1 = (w.alloc (.cells #[.slice none 0 0] 31)).alloc (.cells #[.int .i64 0] 32) := ⟨_, rfl⟩
  have hB1 : Below w.heap.size w w1 := by rw [hw1]; exact ((Below.refl _ w).alloc (Nat.le_refl _) _).alloc (by simp) _
  have hR0 : Boxed w1 w.heap.size 31 (.slice none 0 0) := by rw [hw1]; exact (Boxed.new w _ _).alloc _
  have hR1 : Boxed w1 (w.heap.size + 1) 32 (.int .i64 0) := by
    rw [hw1]
    have := Boxed.new (w.alloc (.cells #[.slice none 0 0] 31)) 32 (.int .i64 0)
    rw [World.size_alloc] at this
    exact this
  have hsz1 : w1.heap.size = w.heap.size + 2 := by rw [hw1]; simp
  have hck := Lib.hid (h.2 w1 hB1)
  have hbx := Lib.hid (fun W (hb : Below w1.heap.size w1 W) => (⟨(hb.block _ (by omega)).trans hR0, (hb.block _ (by omega)).trans hR1, nextw hB1 hb⟩ : Boxed W w.heap.size 31 (.slice none 0 0) ∧ Boxed W (w.heap.size + 1) 32 (.int .i64 0) ∧ Below w.heap.size w W))
  have hz := h.1
  rw [hw1] at hck hbx
  clear h hR0 hR1
  go_enter Tryd.func34, Tryd.ntmps34
  go_wp2_with (go_at_call 71; (with_reducible refine hck.out.mono ?_); rintro e w2 ⟨rfl, hb2⟩; obtain ⟨y0, y1, hb3⟩ := hbx.out _ hb2; have r0 := y0.cell; have r1 := y1.cell; have r2 := y0.frozen; have r3 := y1.frozen; have y0 := Lib.hid y0; have y1 := Lib.hid y1; have hb3 := Lib.hid hb3; clear hb2)
  have z0 := ((y0.out.set (.slice none 0 0)).other (B' := w.heap.size + 1) (by omega) (.int .i64 c)).cell
  have z1 := ((y1.out.other (B' := w.heap.size) (by omega) (.slice none 0 0)).set (.int .i64 c)).cell
  refine bodyPost_ret (v := .tuple #[.slice none 0 0, .int .i64 c]) (by simp [results, Tryd.f34, go_sem, z0, z1]) rfl ⟨rfl, (hb3.out.setCell (p := ⟨w.heap.size, 0, none⟩) (Nat.le_refl _) _).setCell (p := ⟨w.heap.size + 1, 0, none⟩) (by show w.heap.size ≤ w.heap.size + 1; omega) _⟩
theorem Size_err {w : World} {p : Option Addr} {c : Int} (h : Errs w p c) :
    Calls Tryd.prog 35 #[.pointer p] w fun e w' => e = .returned (.tuple #[.int .i64 0, .int .i64 c]) ∧ Below w.heap.size w w' := by
  have hck := Lib.hid (h.2 w (Below.refl _ _))
  have hz := h.1
  clear h
  go_enter Tryd.func35, Tryd.ntmps35
  go_wp2_with (go_at_call 71; (with_reducible refine hck.out.mono ?_); rintro e w2 ⟨rfl, hb2⟩; have hb2 := Lib.hid hb2)
  refine bodyPost_ret (v := .tuple #[.int .i64 0, .int .i64 c]) (by simp [results, Tryd.results35, go_sem]) rfl ⟨rfl, hb2.out⟩
theorem Lines_err {w : World} {p : Option Addr} {c : Int} (h : Errs w p c) :
    Calls Tryd.prog 36 #[.pointer p] w fun e w' => e = .returned (.func (.func 73) #[] #[]) ∧ Below w.heap.size w w' := by
  have hck := Lib.hid (h.2 w (Below.refl _ _))
  have hz := h.1
  clear h
  go_enter Tryd.func36, Tryd.ntmps36
  go_wp2_with (go_at_call 71; (with_reducible refine hck.out.mono ?_); rintro e w2 ⟨rfl, hb2⟩; have hb2 := Lib.hid hb2)
  go_ret
  exact ⟨rfl, hb2.out⟩
/-- The iterator that yields nothing. -/
theorem lines0_in (w0 wL : World) (n : Nat) (hn : 1 ≤ n) :
    SeqStopsK Fence.wide n Tryd.prog 73 #[] (fun x : Ln => #[Value.string x.1]) (fun A B => Below w0.heap.size A B) (fun ys => ys = []) (fun pre => pre <+: ([] : List Ln)) 0 wL := fun l J Jx W hW hJ hJx hY h0 => by
  clear hY
  refine callsIn_of_wp Tryd.func73 rfl trivial ?_ rfl
  simp only [Tryd.ntmps73, List.size_toArray, List.length_cons, List.length_nil, Nat.reduceAdd, Nat.reduceSub, Array.replicate_succ, Array.replicate_zero, List.push_toArray, List.append_toArray, List.nil_append, List.cons_append]
  gi_wp2
  go_end0
  exact ⟨⟨_, rfl⟩, .inl ⟨[], rfl, h0⟩⟩
end Go.Proofs.YtnhpjacodhdpeaaDoor
end
