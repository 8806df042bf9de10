/-
  Package emit: the lines of a netlist's text, one by one: the iterator.
  A new netlist; a bus or a register more, and where they lie then.
-/
import Derived.Test.YtnhpjacodhdpeaaDoorFEKK
import Derived.Test.YtnhpjacodhdpeaaDoorFEKL
import Derived.RangeFuncNested
import Derived.RangeFuncBound
import Derived.RangeFuncCalls
import Derived.RangeFuncLeaves
import Derived.Shelf.Abstract
import Derived.Shelf.RegionOpen
import Derived.WalkKit
import Derived.OwnWalkIn
import Derived.TacticsInMore
import Derived.LoopNIn
import Derived.LoopIn
section
namespace Go.Proofs.YtnhpjacodhdpeaaDoor
open Go.RowKit Go.Maps Bits
attribute [local go_sem] Oper.semAt_some
set_option maxRecDepth 100000
set_option linter.unusedVariables false

abbrev sModel : ByteArray := ⟨#[46, 109, 111, 100, 101, 108]⟩
abbrev sInput : ByteArray := ⟨#[46, 105, 110, 112, 117, 116]⟩
abbrev sOutput : ByteArray := ⟨#[46, 111, 117, 116, 112, 117, 116]⟩
abbrev sEnd : ByteArray := ⟨#[46, 101, 110, 100]⟩
def busS (s : ByteArray) (b : Bus) : ByteArray := spellS ([s, b.name] ++ (List.range b.lits.length).map (fun i => decS (b.lits.getD i 0)))
def regS (r : Rg) : ByteArray := spellS [sLatch, decS r.q, decS r.d, decS r.en, sBegin r.init]
def gatesL (G : Gr) (k : Nat) : List ByteArray := ((List.range k).filter (fun j => (nodeAt G j).gate)).map (gateS G)
/-- The lines of a netlist's text. -/
def linesL (N : Nt) : List ByteArray := spellS [sModel, N.name] :: (N.ins.map (busS sInput) ++ (N.regs.map regS ++ (gatesL N.g N.g.nodes.length ++ (N.outs.map (busS sOutput) ++ [spellS [sEnd]]))))
/-- What the lines need. -/
structure EmOk (N : Nt) : Prop where
  wf : Wf N.g
  few : N.g.nodes.length ≤ 200000
  name : N.name.size ≤ 1000
  ni : N.ins.length ≤ 1000000
  nr : N.regs.length ≤ 1000000
  no : N.outs.length ≤ 1000000
  ins : ∀ b ∈ N.ins, b.lits.length ≤ 64 ∧ (∀ i, 0 ≤ b.lits.getD i 0 ∧ b.lits.getD i 0 < 4294967296) ∧ b.name.size ≤ 1000
  outs : ∀ b ∈ N.outs, b.lits.length ≤ 64 ∧ (∀ i, 0 ≤ b.lits.getD i 0 ∧ b.lits.getD i 0 < 4294967296) ∧ b.name.size ≤ 1000
  regs : ∀ r ∈ N.regs, (0 ≤ r.q ∧ r.q < 4294967296) ∧ (0 ≤ r.d ∧ r.d < 4294967296) ∧ (0 ≤ r.en ∧ r.en < 4294967296)
/-- A line is no longer than this. -/
abbrev Ln := { x : ByteArray // x.size ≤ 1000000 }

theorem gatesL_succ (G : Gr) (j : Nat) : gatesL G (j + 1) = gatesL G j ++ (if (nodeAt G j).gate then [gateS G j] else []) := by
  unfold gatesL
  rw [List.range_succ, List.filter_append, List.map_append]
  by_cases h : (nodeAt G j).gate = true
  · simp [h]
  · simp [h]
theorem gatesL_at (G : Gr) {j : Nat} (hg : (nodeAt G j).gate = true) : ∀ n, j < n → (gatesL G n)[(gatesL G j).length]? = some (gateS G j)
  | 0, h => by omega
  | n + 1, h => by
    rw [gatesL_succ]
    by_cases e : j = n
    · subst e
      rw [if_pos hg, List.getElem?_append_right (Nat.le_refl _)]
      simp
    · have ih := gatesL_at G hg n (by omega)
      rw [List.getElem?_append_left (List.getElem?_eq_some_iff.1 ih).1]
      exact ih
theorem linesL_in (N : Nt) {j : Nat} (hj : j < N.ins.length) : (linesL N)[1 + j]? = some (busS sInput N.ins[j]) := by
  unfold linesL
  rw [Nat.add_comm, List.getElem?_cons_succ, List.getElem?_append_left (by simpa using hj)]
  simp [hj]
theorem linesL_reg (N : Nt) {j : Nat} (hj : j < N.regs.length) : (linesL N)[1 + N.ins.length + j]? = some (regS N.regs[j]) := by
  unfold linesL
  rw [show 1 + N.ins.length + j = (N.ins.length + j) + 1 by omega, List.getElem?_cons_succ, List.getElem?_append_right (by simp), List.getElem?_append_left (by simp <;> omega)]
  simp [hj]
theorem linesL_gate (N : Nt) {j : Nat} (hj : j < N.g.nodes.length) (hg : (nodeAt N.g j).gate = true) : (linesL N)[1 + N.ins.length + N.regs.length + (gatesL N.g j).length]? = some (gateS N.g j) := by
  have h := gatesL_at N.g hg _ hj
  have hl := (List.getElem?_eq_some_iff.1 h).1
  unfold linesL
  rw [show 1 + N.ins.length + N.regs.length + (gatesL N.g j).length = (N.ins.length + (N.regs.length + (gatesL N.g j).length)) + 1 by omega, List.getElem?_cons_succ, List.getElem?_append_right (by simp), List.getElem?_append_right (by simp <;> omega), List.getElem?_append_left (by simp <;> omega)]
  rw [← h]
  congr 1
  simp
theorem linesL_out (N : Nt) {j : Nat} (hj : j < N.outs.length) : (linesL N)[1 + N.ins.length + N.regs.length + (gatesL N.g N.g.nodes.length).length + j]? = some (busS sOutput N.outs[j]) := by
  unfold linesL
  rw [show 1 + N.ins.length + N.regs.length + (gatesL N.g N.g.nodes.length).length + j = (N.ins.length + (N.regs.length + ((gatesL N.g N.g.nodes.length).length + j))) + 1 by omega, List.getElem?_cons_succ, List.getElem?_append_right (by simp), List.getElem?_append_right (by simp <;> omega), List.getElem?_append_right (by simp <;> omega), List.getElem?_append_left (by simp <;> omega)]
  simp [hj]
theorem linesL_end (N : Nt) : (linesL N)[1 + N.ins.length + N.regs.length + (gatesL N.g N.g.nodes.length).length + N.outs.length]? = some (spellS [sEnd]) := by
  unfold linesL
  rw [show 1 + N.ins.length + N.regs.length + (gatesL N.g N.g.nodes.length).length + N.outs.length = (N.ins.length + (N.regs.length + ((gatesL N.g N.g.nodes.length).length + N.outs.length))) + 1 by omega, List.getElem?_cons_succ, List.getElem?_append_right (by simp), List.getElem?_append_right (by simp <;> omega), List.getElem?_append_right (by simp <;> omega), List.getElem?_append_right (by simp <;> omega)]
  simp
theorem linesL_len (N : Nt) : (linesL N).length = 1 + N.ins.length + N.regs.length + (gatesL N.g N.g.nodes.length).length + N.outs.length + 1 := by
  unfold linesL
  simp
  omega

theorem busLine_any {w : World} {la : Option Addr} {lc : Nat} (s : ByteArray) (B : Bus) (h : Row .u32 w la B.lits.length B.lits) (hl : ∀ i, 0 ≤ B.lits.getD i 0 ∧ B.lits.getD i 0 < 4294967296) (hn : B.lits.length ≤ 90000) (ht : PW w) (hs : s.size ≤ 1000) (hnm : B.name.size ≤ 1000) :
    Calls Tryd.prog 114 #[.string s, .agg #[.string B.name, .slice la B.lits.length lc]] w fun e w' => e = .returned (.string (busS s B)) ∧ Below w.heap.size w w' :=
  ofBus_any s B.name h hl hn ht hs hnm
theorem regLine_any {w : World} (r : Rg) (h : (0 ≤ r.q ∧ r.q < 4294967296) ∧ (0 ≤ r.d ∧ r.d < 4294967296) ∧ (0 ≤ r.en ∧ r.en < 4294967296)) (ht : PW w) :
    Calls Tryd.prog 115 #[.agg #[.int .u32 r.q, .int .u32 r.d, .int .u32 r.en, .bool r.init]] w fun e w' => e = .returned (.string (regS r)) ∧ Below w.heap.size w w' :=
  ofReg_any r.q r.d r.en r.init h.1 h.2.1 h.2.2 ht
theorem grown_of {w w' : World} (h : Below w.heap.size w w') : w.grownBy w' none := ⟨h.os, h.tape, h.output, h.size, fun k hk _ => h.block k hk⟩
theorem J_below {J : List Ln → World → Prop} {B : Nat} (hJ : AbidesFrom B J) {s : List Ln} {w w' : World} (h : J s w) (hb : Below w.heap.size w w') : J s w' :=
  hJ s w w' none h (grown_of hb) (fun r e => by cases e)

/-- What a round keeps: what lay below a mark, and the cell that holds the netlist. -/
def KpN (n₀ Bn : Nat) (W W' : World) : Prop := Below n₀ W W' ∧ ∀ v, W.cell? ⟨Bn, 0, none⟩ = some v → W'.cell? ⟨Bn, 0, none⟩ = some v
structure BNk (w wr : World) (Bn : Nat) (q : NPl) : Prop where
  b : Below w.heap.size w wr
  lt : Bn < wr.heap.size
  c : wr.cell? ⟨Bn, 0, none⟩ = some (.pointer (some ⟨q.b, 0, none⟩))
theorem BNk.step {w wr w2 : World} {Bn : Nat} {q : NPl} (h : BNk w wr Bn q) (hb : Below wr.heap.size wr w2) : BNk w w2 Bn q := ⟨nextw h.b hb, Nat.lt_of_lt_of_le h.lt hb.size, stepc hb h.lt h.c⟩
theorem BNk.kp {w wr w2 : World} {Bn : Nat} {q : NPl} (h : BNk w wr Bn q) (hk : KpN w.heap.size Bn wr w2) : BNk w w2 Bn q := ⟨h.b.trans hk.1, Nat.lt_of_lt_of_le h.lt hk.1.size, hk.2 _ h.c⟩

set_option maxHeartbeats 4000000 in
theorem lines1_in {w wL : World} {q : NPl} {N : Nt} (h : NetIs w q N) (hok : EmOk N) (ht : PW w) {Bn : Nat} (hN0 : BNk w wL Bn q) (L : List Ln) (hL : L.map (·.1) = linesL N) (n : Nat) (hn : 1 ≤ n) :
    SeqStopsK Fence.wide n Tryd.prog 112 #[.pointer (some ⟨Bn, 0, none⟩)] (fun x : Ln => #[Value.string x.1]) (KpN w.heap.size Bn) (fun ys => ys = L) (fun pre => pre <+: L) L.length wL := fun l J Jx W hW hJ hJx hY h0 => by
  have hY' : Hid (∀ (k : Nat) (s : ByteArray) (W1 : World), (linesL N)[k]? = some s → J (L.take k) W1 → YieldAt Fence.wide (n - 1) Tryd.prog l #[.string s] W1 fun e W' =>
      (e = .returned (.bool true) ∧ J (L.take (k + 1)) W' ∧ KpN w.heap.size Bn W1 W') ∨ (e = .returned (.bool false) ∧ Jx (L.take (k + 1)) W')) := Lib.hid (by
    intro k s W1 hs hj
    rw [← hL, List.getElem?_map] at hs
    cases hx : L[k]? with
    | none => rw [hx] at hs; cases hs
    | some x =>
      rw [hx] at hs
      cases hs
      have hk : k < L.length := (List.getElem?_eq_some_iff.1 hx).1
      have hlen : (L.take k).length < L.length := by rw [List.length_take]; omega
      have e : L.take (k + 1) = L.take k ++ [x] := by rw [List.take_add_one, hx]; rfl
      rw [e]
      exact hY _ x W1 hj hlen)
  clear hY
  have hstep : Hid (∀ (s : List Ln) (W1 W2 : World), J s W1 → Below W1.heap.size W1 W2 → J s W2) := Lib.hid (fun s W1 W2 hj hb => J_below hJ hj hb)
  have h0 := Lib.hid h0
  have hW := Lib.hid (hN0.step hW)
  clear hN0
  obtain ⟨ia, ic, ra, rc, oa, oc, ei, er, eo, c0, c1, c2, c3, c4, -⟩ := h.cells
  have hqb := h.lt
  have hni := hok.ni
  have hnr := hok.nr
  have hno := hok.no
  have hnn := hok.few
  have hs0 := Lib.hid (fun (W1 : World) => spell_own [sModel, N.name] (own_pair W1 W1.heap.size 9 (.string sModel) (.string N.name) (Nat.le_refl _)) rfl (by omega) (by
    intro s hs
    simp at hs
    rcases hs with rfl | rfl
    · decide
    · exact hok.name))
  have H := Lib.hid h
  have HL := Lib.hid hL
  clear h hL hJ hJx
  refine callsIn_of_wp Tryd.func112 rfl trivial ?_ rfl
  simp only [Tryd.ntmps112, List.size_toArray, List.length_cons, List.length_nil, Nat.reduceAdd, Nat.reduceSub, Array.replicate_succ, Array.replicate_zero, List.push_toArray, List.append_toArray, List.nil_append, List.cons_append]
  have d0 := hW.out.c
  have d1 := stepc hW.out.b hqb c1
  have hnil : ∀ W, Sem.run Tryd.prog (binOp .eql 112 (.func (.yield l) #[] #[]) .nilFunc) W = .ok (.bool false) W := fun W => by kernel_rfl
  have hl0 : (linesL N)[0]? = some (spellS [sModel, N.name]) := rfl
  gi_wp2_with (refine ⟨trivial, ?_⟩; gi_at_call 113; refine (callsIn_wide.2 (hs0.out W)).mono ?_; rintro e w2 ⟨rfl, hb2⟩; have hB2 := Lib.hid (nextw ((Below.refl W.heap.size W).alloc (Nat.le_refl _) _) hb2); obtain ⟨fn, tmps, assign, body, hy, hR⟩ := hY'.out 0 _ w2 hl0 (hstep.out _ _ _ h0.out hB2.out); have hR := Lib.hid hR)
  refine hR.out.mono ?_
  rintro e w3 (⟨rfl, hJ3, hk3⟩ | ⟨rfl, hJx3⟩)
  · have hB3 := Lib.hid ((hW.out.step hB2.out).kp hk3)
    have hJ3 := Lib.hid hJ3
    clear d0 d1
    have d0 := hB3.out.c
    have d2 := stepc hB3.out.b hqb c2
    clear hR hy hk3 hb2 hB2 h0 hl0
    gi_wp2
    gi_loopw [30] (fun i wr => ∃ j : Nat, j ≤ N.ins.length ∧ i = .int .i64 j ∧ Hid (J (L.take (1 + j)) wr) ∧ Hid (BNk w wr Bn q)) (fun i _ => N.ins.length - (intOf i).toNat)
    case atStart => exact ⟨0, Nat.zero_le _, rfl, hJ3, hB3⟩
    case round =>
      obtain ⟨j, hj, rfl, hJr, hBr⟩ := hrel
      by_cases hlt : j < N.ins.length
      · have hrow : BusRow w (.slice ia N.ins.length ic) N.ins := ei ▸ H.out.ins
        obtain ⟨g, la, lc, rfl, hg, b0, b1, hr0⟩ := hrow.at hlt
        have x0 := stepc hBr.out.b hg b0
        have x1 := stepc hBr.out.b hg b1
        obtain ⟨k1, k2, k3⟩ := hok.ins _ (List.getElem_mem hlt)
        have hbus := Lib.hid (fun W1 (hb : Below w.heap.size w W1) => busLine_any (lc := lc) sInput N.ins[j] (hr0.row.step hb) k2 (by omega) (ht.step hb) (by decide) k3)
        have hyj := Lib.hid (fun W1 => hY'.out (1 + j) (busS sInput N.ins[j]) W1 (linesL_in N hlt))
        clear b0 b1 hr0 hrow k1 k2 k3
        obtain ⟨B, hBd⟩ : ∃ B, B = N.ins[j] := ⟨_, rfl⟩
        rw [← hBd] at x0 x1 hbus hyj
        clear hBd
        generalize busS sInput B = S at *
        generalize B.name = bn at *
        generalize B.lits.length = bk at *
        gi_wp2_with (refine ⟨trivial, ?_⟩; gi_at_call 114; refine (callsIn_wide.2 (hbus.out _ (hBr.out.b.alloc hBr.out.b.size _))).mono ?_; rintro e w2 ⟨rfl, hb2⟩; have hB2 := Lib.hid (nextw ((Below.refl wr.heap.size wr).alloc (Nat.le_refl _) _) hb2); obtain ⟨fn, tmps, assign, body, hy, hR⟩ := hyj.out w2 (hstep.out _ _ _ hJr.out hB2.out); have hR := Lib.hid hR)
        refine hR.out.mono ?_
        rintro e w3 (⟨rfl, hJ3, hk3⟩ | ⟨rfl, hJx3⟩)
        · have hB3 := Lib.hid ((hBr.out.step hB2.out).kp hk3)
          have hJ3 := Lib.hid hJ3
          clear hR hk3 hB2 hbus hyj x0 x1
          gi_wp2
          go_roundw
          case rel => exact ⟨j + 1, by omega, by go_num, hJ3, hB3⟩
          case measure => simp [intOf]; omega
        · gi_wp2
          refine bodyPost_ret (results_none rfl _ _ _) rfl ?_
          exact ⟨⟨_, rfl⟩, .inr ⟨_, List.take_prefix _ _, hJx3⟩⟩
      · obtain rfl : j = N.ins.length := by omega
        have d0 := hBr.out.c
        have d3 := stepc hBr.out.b hqb c3
        gi_wp2
        gi_loopw [45] (fun i wr => ∃ j : Nat, j ≤ N.regs.length ∧ i = .int .i64 j ∧ Hid (J (L.take (1 + N.ins.length + j)) wr) ∧ Hid (BNk w wr Bn q)) (fun i _ => N.regs.length - (intOf i).toNat)
        case atStart => exact ⟨0, Nat.zero_le _, rfl, hJr, hBr⟩
        case round =>
          clear hJr hBr d0 d3
          obtain ⟨j, hj, rfl, hJr, hBr⟩ := hrel
          by_cases hlt : j < N.regs.length
          · have hrow : RegRow w (.slice ra N.regs.length rc) N.regs := er ▸ H.out.regs
            obtain ⟨g, rfl, hg, b0, b1, b2, b3⟩ := hrow.at hlt
            have x0 := stepc hBr.out.b hg b0
            have x1 := stepc hBr.out.b hg b1
            have x2 := stepc hBr.out.b hg b2
            have x3 := stepc hBr.out.b hg b3
            have hreg := Lib.hid (fun W1 (hb : Below w.heap.size w W1) => regLine_any N.regs[j] (hok.regs _ (List.getElem_mem hlt)) (ht.step hb))
            have hyj := Lib.hid (fun W1 => hY'.out (1 + N.ins.length + j) (regS N.regs[j]) W1 (linesL_reg N hlt))
            clear b0 b1 b2 b3 hrow
            obtain ⟨B, hBd⟩ : ∃ B, B = N.regs[j] := ⟨_, rfl⟩
            rw [← hBd] at x0 x1 x2 x3 hreg hyj
            clear hBd
            generalize regS B = S at *
            generalize B.q = rq at *
            generalize B.d = rd at *
            generalize B.en = re at *
            generalize B.init = ri at *
            gi_wp2_with (refine ⟨trivial, ?_⟩; gi_at_call 115; refine (callsIn_wide.2 (hreg.out _ (hBr.out.b.alloc hBr.out.b.size _))).mono ?_; rintro e w2 ⟨rfl, hb2⟩; have hB2 := Lib.hid (nextw ((Below.refl wr.heap.size wr).alloc (Nat.le_refl _) _) hb2); obtain ⟨fn, tmps, assign, body, hy, hR⟩ := hyj.out w2 (hstep.out _ _ _ hJr.out hB2.out); have hR := Lib.hid hR)
            refine hR.out.mono ?_
            rintro e w3 (⟨rfl, hJ3, hk3⟩ | ⟨rfl, hJx3⟩)
            · have hB3 := Lib.hid ((hBr.out.step hB2.out).kp hk3)
              have hJ3 := Lib.hid hJ3
              clear hR hk3 hB2 hreg hyj x0 x1 x2 x3
              gi_wp2
              go_roundw
              case rel => exact ⟨j + 1, by omega, by go_num, hJ3, hB3⟩
              case measure => simp [intOf]; omega
            · gi_wp2
              refine bodyPost_ret (results_none rfl _ _ _) rfl ?_
              exact ⟨⟨_, rfl⟩, .inr ⟨_, List.take_prefix _ _, hJx3⟩⟩
          · obtain rfl : j = N.regs.length := by omega
            have d0 := hBr.out.c
            have d4 := stepc hBr.out.b hqb c0
            have hnod := Lib.hid (nodes_any (H.out.below hBr.out.b).g.lay hok.wf.pos)
            gi_wp2_with (refine ⟨trivial, ?_⟩; gi_at_call 116; refine (callsIn_wide.2 hnod.out).mono ?_; rintro e w2 ⟨rfl, rfl⟩)
            clear hnod
            gi_loopw [60] (fun i wr => ∃ j : Nat, j ≤ N.g.nodes.length ∧ i = .int .i64 j ∧ Hid (J (L.take (1 + N.ins.length + N.regs.length + (gatesL N.g j).length)) wr) ∧ Hid (BNk w wr Bn q)) (fun i _ => N.g.nodes.length - (intOf i).toNat)
            case atStart => exact ⟨0, Nat.zero_le _, rfl, hJr, hBr⟩
            case round =>
              clear hJr hBr d0 d4
              obtain ⟨j, hj, rfl, hJr, hBr⟩ := hrel
              by_cases hlt : j < N.g.nodes.length
              · have d0 := hBr.out.c
                have hgt := Lib.hid (fun W1 (hb : Below w.heap.size w W1) => ofGate_any (H.out.below hb) hok.wf hok.few hlt (ht.step hb))
                have hgs := gatesL_succ N.g j
                by_cases hgk : (nodeAt N.g j).gate = true
                · have hyj := Lib.hid (fun W1 => hY'.out _ (gateS N.g j) W1 (linesL_gate N hlt hgk))
                  unfold gateL at hgt
                  rw [hgk] at hgt
                  rw [if_pos rfl] at hgt
                  rw [if_pos hgk] at hgs
                  have hgs := Lib.hid (congrArg List.length hgs)
                  clear hgk
                  generalize gateS N.g j = S at *
                  gi_wp2_with (refine ⟨trivial, ?_⟩; gi_at_call 117; refine (callsIn_wide.2 (hgt.out _ hBr.out.b)).mono ?_; rintro e w2 ⟨rfl, hb2⟩; have hB2 := Lib.hid hb2; obtain ⟨fn, tmps, assign, body, hy, hR⟩ := hyj.out w2 (hstep.out _ _ _ hJr.out hB2.out); have hR := Lib.hid hR)
                  refine hR.out.mono ?_
                  rintro e w3 (⟨rfl, hJ3, hk3⟩ | ⟨rfl, hJx3⟩)
                  · have hB3 := Lib.hid ((hBr.out.step hB2.out).kp hk3)
                    have hJ3 := Lib.hid hJ3
                    clear hR hk3 hB2 hgt hyj
                    gi_wp2
                    go_roundw
                    case rel => exact ⟨j + 1, by omega, by go_num, by rw [hgs.out]; simp only [List.length_append, List.length_singleton, ← Nat.add_assoc]; exact hJ3, hB3⟩
                    case measure => simp [intOf]; omega
                  · gi_wp2
                    refine bodyPost_ret (results_none rfl _ _ _) rfl ?_
                    exact ⟨⟨_, rfl⟩, .inr ⟨_, List.take_prefix _ _, hJx3⟩⟩
                · have hgk : (nodeAt N.g j).gate = false := by simpa using hgk
                  unfold gateL at hgt
                  rw [hgk] at hgt
                  rw [if_neg (by simp)] at hgt
                  rw [hgk] at hgs
                  rw [if_neg (by simp), List.append_nil] at hgs
                  have hgs := Lib.hid hgs
                  clear hgk
                  gi_wp2_with (refine ⟨trivial, ?_⟩; gi_at_call 117; refine (callsIn_wide.2 (hgt.out _ hBr.out.b)).mono ?_; rintro e w2 ⟨rfl, hb2⟩; have hB2 := Lib.hid hb2)
                  refine ⟨fun _ h => (by cases h), ?_⟩
                  gi_wp2
                  go_roundw
                  case rel => exact ⟨j + 1, by omega, by go_num, by rw [hgs.out]; exact Lib.hid (hstep.out _ _ _ hJr.out hB2.out), Lib.hid (hBr.out.step hB2.out)⟩
                  case measure => simp [intOf]; omega
              · obtain rfl : j = N.g.nodes.length := by omega
                have d0 := hBr.out.c
                have d4 := stepc hBr.out.b hqb c4
                gi_wp2
                obtain ⟨M, hM⟩ : ∃ M, M = 1 + N.ins.length + N.regs.length + (gatesL N.g N.g.nodes.length).length := ⟨_, rfl⟩
                have hJr : Hid (J (L.take M) wr) := by rw [hM]; exact hJr
                gi_loopw [82] (fun i wr => ∃ j : Nat, j ≤ N.outs.length ∧ i = .int .i64 j ∧ Hid (J (L.take (M + j)) wr) ∧ Hid (BNk w wr Bn q)) (fun i _ => N.outs.length - (intOf i).toNat)
                case atStart => exact ⟨0, Nat.zero_le _, rfl, hJr, hBr⟩
                case round =>
                  clear hJr hBr d0 d4
                  obtain ⟨j, hj, rfl, hJr, hBr⟩ := hrel
                  by_cases hlt : j < N.outs.length
                  · have hrow : BusRow w (.slice oa N.outs.length oc) N.outs := eo ▸ H.out.outs
                    obtain ⟨g, la, lc, rfl, hg, b0, b1, hr0⟩ := hrow.at hlt
                    have x0 := stepc hBr.out.b hg b0
                    have x1 := stepc hBr.out.b hg b1
                    obtain ⟨k1, k2, k3⟩ := hok.outs _ (List.getElem_mem hlt)
                    have hbus := Lib.hid (fun W1 (hb : Below w.heap.size w W1) => busLine_any (lc := lc) sOutput N.outs[j] (hr0.row.step hb) k2 (by omega) (ht.step hb) (by decide) k3)
                    have hyj := Lib.hid (fun W1 => hY'.out (M + j) (busS sOutput N.outs[j]) W1 (by rw [hM]; exact linesL_out N hlt))
                    clear b0 b1 hr0 hrow k1 k2 k3
                    obtain ⟨B, hBd⟩ : ∃ B, B = N.outs[j] := ⟨_, rfl⟩
                    rw [← hBd] at x0 x1 hbus hyj
                    clear hBd
                    generalize busS sOutput B = S at *
                    generalize B.name = bn at *
                    generalize B.lits.length = bk at *
                    gi_wp2_with (refine ⟨trivial, ?_⟩; gi_at_call 114; refine (callsIn_wide.2 (hbus.out _ (hBr.out.b.alloc hBr.out.b.size _))).mono ?_; rintro e w2 ⟨rfl, hb2⟩; have hB2 := Lib.hid (nextw ((Below.refl wr.heap.size wr).alloc (Nat.le_refl _) _) hb2); obtain ⟨fn, tmps, assign, body, hy, hR⟩ := hyj.out w2 (hstep.out _ _ _ hJr.out hB2.out); have hR := Lib.hid hR)
                    refine hR.out.mono ?_
                    rintro e w3 (⟨rfl, hJ3, hk3⟩ | ⟨rfl, hJx3⟩)
                    · have hB3 := Lib.hid ((hBr.out.step hB2.out).kp hk3)
                      have hJ3 := Lib.hid hJ3
                      clear hR hk3 hB2 hbus hyj x0 x1
                      gi_wp2
                      go_roundw
                      case rel => exact ⟨j + 1, by omega, by go_num, hJ3, hB3⟩
                      case measure => simp [intOf]; omega
                    · gi_wp2
                      refine bodyPost_ret (results_none rfl _ _ _) rfl ?_
                      exact ⟨⟨_, rfl⟩, .inr ⟨_, List.take_prefix _ _, hJx3⟩⟩
                  · obtain rfl : j = N.outs.length := by omega
                    have hse := Lib.hid (spell_own [sEnd] (own_single wr wr.heap.size 9 (.string sEnd) (Nat.le_refl _)) rfl (by omega) (by
                      intro s hs
                      simp at hs
                      rcases hs with rfl
                      decide))
                    have hye := Lib.hid (fun W1 => hY'.out (M + N.outs.length) (spellS [sEnd]) W1 (by rw [hM]; exact linesL_end N))
                    have hall : Hid (L.take (M + N.outs.length + 1) = L) := Lib.hid (by
                      apply List.take_of_length_le
                      have := congrArg List.length HL.out
                      rw [List.length_map, linesL_len, ← hM] at this
                      omega)
                    gi_wp2_with (refine ⟨trivial, ?_⟩; gi_at_call 113; refine (callsIn_wide.2 hse.out).mono ?_; rintro e w2 ⟨rfl, hb2⟩; have hB2 := Lib.hid (nextw ((Below.refl wr.heap.size wr).alloc (Nat.le_refl _) _) hb2); obtain ⟨fn, tmps, assign, body, hy, hR⟩ := hye.out w2 (hstep.out _ _ _ hJr.out hB2.out); have hR := Lib.hid hR)
                    refine hR.out.mono ?_
                    rintro e w3 (⟨rfl, hJ3, hk3⟩ | ⟨rfl, hJx3⟩)
                    · gi_wp2
                      go_end0
                      exact ⟨⟨_, rfl⟩, .inl ⟨_, hall.out, hJ3⟩⟩
                    · gi_wp2
                      go_end0
                      exact ⟨⟨_, rfl⟩, .inr ⟨_, List.take_prefix _ _, hJx3⟩⟩
  · gi_wp2
    refine bodyPost_ret (results_none rfl _ _ _) rfl ?_
    exact ⟨⟨_, rfl⟩, .inr ⟨_, List.take_prefix _ _, hJx3⟩⟩
end Go.Proofs.YtnhpjacodhdpeaaDoor
end

section
namespace Go.Proofs.YtnhpjacodhdpeaaDoor
open Go.RowKit Go.Maps
set_option maxRecDepth 100000

theorem kept_store {wS wa w1 : World} {row : Option Nat} (hb : Below wS.heap.size wS wa) (hg : wa.grownBy w1 row) (b o : Nat) (v : Value) : Kept (fun k => k = b ∨ row = some k) wS (w1.setCell ⟨b, o, none⟩ v) :=
  ⟨hg.os.trans hb.os, hg.tape.trans hb.tape, hg.output.trans hb.output, by have := hg.size; have := hb.size; simp [World.setCell]; omega, fun k hk hn => by
    have n1 : k ≠ b := fun e => hn (.inl e)
    have n2 : some k ≠ row := fun e => hn (.inr e.symm)
    rw [Below.heap_setCell _ _ _ _ n1, hg.block k (by have := hb.size; omega) n2, hb.block k hk]⟩

/-- The buses that come in are others now. -/
theorem NetIs.setIn {w w' : World} {q : NPl} {N : Nt} (h : NetIs w q N) {v : Value} {L : List Bus} (hk : Kept (fun k => k = q.b ∨ q.iv.ownBlock = some k) w w') (hbox : w'.heap[q.b]? = some (netBox { q with iv := v } N.name)) (hrow : BusRow w' v L)
    (hv : ∀ k, v.ownBlock = some k → q.iv.ownBlock = some k ∨ w.heap.size ≤ k) : NStep q w { q with iv := v } w' { N with ins := L } := by
  have hF : NoLits w (fun k => k = q.b ∨ q.iv.ownBlock = some k) := fun k c fz hp => h.noLits k c fz (by rcases hp with hp | hp; exact .inl hp; exact .inr (.inr (.inl hp)))
  refine ⟨⟨hbox, h.g.beside hk (fun k hp hg => ?_), hrow, own_keptF h.regs hk (fun k e hp => ?_), h.outs.keptF hk (fun k e hp => ?_) hF, fun k hk1 hk2 => ?_⟩, ?_, rfl, rfl, fun k hk => ?_⟩
  · rcases hp with hp | hp
    · exact (h.gFar hg).1 hp
    · exact (h.gFar hg).2.1 hp
  · rcases hp with rfl | hp
    · exact h.bFar.2.1 e
    · exact (h.rFar e).1 hp
  · rcases hp with rfl | hp
    · exact h.bFar.2.2 e
    · exact h.apart k hp e
  · rcases hv k hk1 with h1 | h1
    · exact h.apart k h1 hk2
    · have := h.has_lt (k := k) (.inr (.inr (.inr (.inr hk2)))); omega
  · exact ⟨hk.os, hk.tape, hk.output, hk.size, fun k hlt hn => hk.block k hlt (fun hp => hn (by rcases hp with hp | hp; exact .inl hp; exact .inr (.inr (.inl hp))))⟩
  · rcases hk with hk | hk | hk | hk | hk
    · exact .inl (.inl hk)
    · exact .inl (.inr (.inl hk))
    · rcases hv k hk with h1 | h1
      · exact .inl (.inr (.inr (.inl h1)))
      · exact .inr h1
    · exact .inl (.inr (.inr (.inr (.inl hk))))
    · exact .inl (.inr (.inr (.inr (.inr hk))))
theorem NetIs.setOut {w w' : World} {q : NPl} {N : Nt} (h : NetIs w q N) {v : Value} {L : List Bus} (hk : Kept (fun k => k = q.b ∨ q.ov.ownBlock = some k) w w') (hbox : w'.heap[q.b]? = some (netBox { q with ov := v } N.name)) (hrow : BusRow w' v L)
    (hv : ∀ k, v.ownBlock = some k → q.ov.ownBlock = some k ∨ w.heap.size ≤ k) : NStep q w { q with ov := v } w' { N with outs := L } := by
  have hF : NoLits w (fun k => k = q.b ∨ q.ov.ownBlock = some k) := fun k c fz hp => h.noLits k c fz (by rcases hp with hp | hp; exact .inl hp; exact .inr (.inr (.inr (.inr hp))))
  refine ⟨⟨hbox, h.g.beside hk (fun k hp hg => ?_), h.ins.keptF hk (fun k e hp => ?_) hF, own_keptF h.regs hk (fun k e hp => ?_), hrow, fun k hk1 hk2 => ?_⟩, ?_, rfl, rfl, fun k hk => ?_⟩
  · rcases hp with hp | hp
    · exact (h.gFar hg).1 hp
    · exact (h.gFar hg).2.2.2 hp
  · rcases hp with rfl | hp
    · exact h.bFar.1 e
    · exact h.apart k e hp
  · rcases hp with rfl | hp
    · exact h.bFar.2.1 e
    · exact (h.rFar e).2 hp
  · rcases hv k hk2 with h1 | h1
    · exact h.apart k hk1 h1
    · have := h.has_lt (k := k) (.inr (.inr (.inl hk1))); omega
  · exact ⟨hk.os, hk.tape, hk.output, hk.size, fun k hlt hn => hk.block k hlt (fun hp => hn (by rcases hp with hp | hp; exact .inl hp; exact .inr (.inr (.inr (.inr hp)))))⟩
  · rcases hk with hk | hk | hk | hk | hk
    · exact .inl (.inl hk)
    · exact .inl (.inr (.inl hk))
    · exact .inl (.inr (.inr (.inl hk)))
    · exact .inl (.inr (.inr (.inr (.inl hk))))
    · rcases hv k hk with h1 | h1
      · exact .inl (.inr (.inr (.inr (.inr h1))))
      · exact .inr h1
theorem NetIs.setRegs {w w' : World} {q : NPl} {N : Nt} (h : NetIs w q N) {v : Value} {R : List Rg} (hk : Kept (fun k => k = q.b ∨ q.rv.ownBlock = some k) w w') (hbox : w'.heap[q.b]? = some (netBox { q with rv := v } N.name)) (hrow : RegRow w' v R)
    (hv : ∀ k, v.ownBlock = some k → q.rv.ownBlock = some k ∨ w.heap.size ≤ k) : NStep q w { q with rv := v } w' { N with regs := R } := by
  have hF : NoLits w (fun k => k = q.b ∨ q.rv.ownBlock = some k) := fun k c fz hp => h.noLits k c fz (by rcases hp with hp | hp; exact .inl hp; exact .inr (.inr (.inr (.inl hp))))
  refine ⟨⟨hbox, h.g.beside hk (fun k hp hg => ?_), h.ins.keptF hk (fun k e hp => ?_) hF, hrow, h.outs.keptF hk (fun k e hp => ?_) hF, h.apart⟩, ?_, rfl, rfl, fun k hk => ?_⟩
  · rcases hp with hp | hp
    · exact (h.gFar hg).1 hp
    · exact (h.gFar hg).2.2.1 hp
  · rcases hp with rfl | hp
    · exact h.bFar.1 e
    · exact (h.rFar hp).1 e
  · rcases hp with rfl | hp
    · exact h.bFar.2.2 e
    · exact (h.rFar hp).2 e
  · exact ⟨hk.os, hk.tape, hk.output, hk.size, fun k hlt hn => hk.block k hlt (fun hp => hn (by rcases hp with hp | hp; exact .inl hp; exact .inr (.inr (.inr (.inl hp)))))⟩
  · rcases hk with hk | hk | hk | hk | hk
    · exact .inl (.inl hk)
    · exact .inl (.inr (.inl hk))
    · exact .inl (.inr (.inr (.inl hk)))
    · rcases hv k hk with h1 | h1
      · exact .inl (.inr (.inr (.inr (.inl h1))))
      · exact .inr h1
    · exact .inl (.inr (.inr (.inr (.inr hk))))

/-- A row of buses behind an append, and a store elsewhere. -/
theorem push_row {wS wa w1 : World} {b : Nat} {cs : Array Value} {fz : Nat × Nat} (hbb : wS.heap[b]? = some (.cells cs 92 fz)) (hb : Below wS.heap.size wS wa) {v : Value} {L : List Bus} {K : List BV} (hK : BusAt wS v L K) {s : ByteArray} {la : Option Addr} {m lc : Nat} {l : List Int}
    (hl : LRow wa la m lc l) {g cap : Nat} (hown : w1.ownsRow 0 184 2 (.slice (some ⟨g, 0, none⟩) (L.length + 1) cap) (L.length + 1) (bvCells K ++ [.string s, .slice la m lc]))
    (hg : wa.grownBy w1 v.ownBlock) (hat : v.ownBlock = some g ∨ g = wa.heap.size) (o : Nat) (x : Value) :
    BusRow (w1.setCell ⟨b, o, none⟩ x) (.slice (some ⟨g, 0, none⟩) (L.length + 1) cap) (L ++ [⟨s, l⟩]) ∧ w1.heap[b]? = some (.cells cs 92 fz) := by
  have hlt := (Array.getElem?_eq_some_iff.1 hbb).1
  have hvt : ∀ k, v.ownBlock = some k → ∃ c, wS.heap[k]? = some (.cells c 184 (0, 0)) := fun k hk => own_type hK.own hk
  have hvb : v.ownBlock ≠ some b := fun e => by obtain ⟨c, hc⟩ := hvt b e; rw [hbb] at hc; simp at hc
  have hgb : g ≠ b := by
    rcases hat with h | h
    · rintro rfl; exact hvb h
    · have := hb.size; omega
  have hNS : NoLits wS (fun k => k = b ∨ v.ownBlock = some k) := by
    intro k c fz2 hp hh
    rcases hp with rfl | hp
    · rw [hbb] at hh; simp at hh
    · obtain ⟨c2, hc2⟩ := hvt k hp; rw [hc2] at hh; simp at hh
  have hNa : NoLits wa (fun k => k = b ∨ v.ownBlock = some k) := by
    intro k c fz2 hp hh
    rcases hp with rfl | hp
    · rw [hb.block _ hlt, hbb] at hh; simp at hh
    · obtain ⟨c2, hc2⟩ := hvt k hp; rw [hb.block _ (Array.getElem?_eq_some_iff.1 hc2).1, hc2] at hh; simp at hh
  have kS := kept_store hb hg b o x
  have ka := kept_store (Below.refl wa.heap.size wa) hg b o x
  refine ⟨⟨K ++ [⟨s, la, m, lc⟩], ?_, by simp [hK.len], ?_⟩, ?_⟩
  · rw [bvCells_push]
    have : (w1.setCell ⟨b, o, none⟩ x).ownsRow 0 184 2 (.slice (some ⟨g, 0, none⟩) (L.length + 1) cap) (L.length + 1) (bvCells K ++ [.string s, .slice la m lc]) := by
      refine ⟨hown.1, ?_⟩
      rcases hown.2 with h0 | ⟨g', cap', cur', hv', hg', hh, r⟩
      · exact .inl h0
      · simp at hv'
        obtain ⟨rfl, rfl⟩ := hv'
        exact .inr ⟨_, _, cur', rfl, hg', by rw [Below.heap_setCell _ _ _ _ hgb]; exact hh, r⟩
    simpa using this
  · intro i k bb e1 e2
    by_cases hi : i < K.length
    · rw [List.getElem?_append_left hi] at e1
      rw [List.getElem?_append_left (by rw [← hK.len]; exact hi)] at e2
      obtain ⟨r1, r2⟩ := hK.row i k bb e1 e2
      exact ⟨r1, r2.keptF kS hNS⟩
    · have hlen := hK.len
      have hi2 := (List.getElem?_eq_some_iff.1 e1).1
      simp at hi2
      have e : i = K.length := by omega
      rw [e, List.getElem?_append_right (Nat.le_refl _)] at e1
      rw [e, hlen, List.getElem?_append_right (Nat.le_refl _)] at e2
      simp at e1 e2
      subst e1 e2
      exact ⟨rfl, hl.keptF ka hNa⟩
  · rw [hg.block b (by have := hb.size; omega) (fun e => hvb e.symm), hb.block _ hlt]; exact hbb
theorem new_block {wa : World} {v : Value} {g n cap : Nat} {W : World} (hb : Below W.heap.size W wa) (hat : v.ownBlock = some g ∨ g = wa.heap.size) : ∀ k, (Value.slice (some ⟨g, 0, none⟩) n cap).ownBlock = some k → v.ownBlock = some k ∨ W.heap.size ≤ k := by
  intro k hk
  simp [Value.ownBlock] at hk
  subst hk
  rcases hat with h | h
  · exact .inl h
  · have := hb.size; exact .inr (by omega)
/-- A bus more, that comes in. -/
theorem in_push {wS wa w1 : World} {q : NPl} {N : Nt} (h : NetIs wS q N) (hb : Below wS.heap.size wS wa) {K : List BV} (hK : BusAt wS q.iv N.ins K) {s : ByteArray} {la : Option Addr} {m lc : Nat} {l : List Int}
    (hl : LRow wa la m lc l) {g cap : Nat} (hown : w1.ownsRow 0 184 2 (.slice (some ⟨g, 0, none⟩) (N.ins.length + 1) cap) (N.ins.length + 1) (bvCells K ++ [.string s, .slice la m lc]))
    (hg : wa.grownBy w1 q.iv.ownBlock) (hat : q.iv.ownBlock = some g ∨ g = wa.heap.size) :
    ∃ q', NStep q wS q' (w1.setCell ⟨q.b, 2, none⟩ (.slice (some ⟨g, 0, none⟩) (N.ins.length + 1) cap)) { N with ins := N.ins ++ [⟨s, l⟩] } := by
  obtain ⟨r1, r2⟩ := push_row h.box hb hK hl hown hg hat 2 (.slice (some ⟨g, 0, none⟩) (N.ins.length + 1) cap)
  refine ⟨_, h.setIn (kept_store hb hg q.b 2 _) ?_ r1 (new_block hb hat)⟩
  have := box_set (o := 2) r2 (.slice (some ⟨g, 0, none⟩) (N.ins.length + 1) cap)
  simpa [netBox] using this
/-- A bus more, that goes out. -/
theorem out_push {wS wa w1 : World} {q : NPl} {N : Nt} (h : NetIs wS q N) (hb : Below wS.heap.size wS wa) {K : List BV} (hK : BusAt wS q.ov N.outs K) {s : ByteArray} {la : Option Addr} {m lc : Nat} {l : List Int}
    (hl : LRow wa la m lc l) {g cap : Nat} (hown : w1.ownsRow 0 184 2 (.slice (some ⟨g, 0, none⟩) (N.outs.length + 1) cap) (N.outs.length + 1) (bvCells K ++ [.string s, .slice la m lc]))
    (hg : wa.grownBy w1 q.ov.ownBlock) (hat : q.ov.ownBlock = some g ∨ g = wa.heap.size) :
    ∃ q', NStep q wS q' (w1.setCell ⟨q.b, 4, none⟩ (.slice (some ⟨g, 0, none⟩) (N.outs.length + 1) cap)) { N with outs := N.outs ++ [⟨s, l⟩] } := by
  obtain ⟨r1, r2⟩ := push_row h.box hb hK hl hown hg hat 4 (.slice (some ⟨g, 0, none⟩) (N.outs.length + 1) cap)
  refine ⟨_, h.setOut (kept_store hb hg q.b 4 _) ?_ r1 (new_block hb hat)⟩
  have := box_set (o := 4) r2 (.slice (some ⟨g, 0, none⟩) (N.outs.length + 1) cap)
  simpa [netBox] using this
/-- A register more. -/
theorem reg_push {wS wa w1 : World} {q : NPl} {N : Nt} (h : NetIs wS q N) (hb : Below wS.heap.size wS wa) (r : Rg) {g cap : Nat}
    (hown : w1.ownsRow 0 99 4 (.slice (some ⟨g, 0, none⟩) (N.regs.length + 1) cap) (N.regs.length + 1) (rgCells N.regs ++ [.int .u32 r.q, .int .u32 r.d, .int .u32 r.en, .bool r.init]))
    (hg : wa.grownBy w1 q.rv.ownBlock) (hat : q.rv.ownBlock = some g ∨ g = wa.heap.size) :
    ∃ q', NStep q wS q' (w1.setCell ⟨q.b, 3, none⟩ (.slice (some ⟨g, 0, none⟩) (N.regs.length + 1) cap)) { N with regs := N.regs ++ [r] } := by
  have hgb : g ≠ q.b := by
    rcases hat with h1 | h1
    · rintro rfl; exact h.bFar.2.1 h1
    · have := hb.size; have := h.lt; omega
  have hbox : w1.heap[q.b]? = some (netBox q N.name) := by rw [hg.block q.b (by have := hb.size; have := h.lt; omega) (fun e => h.bFar.2.1 e.symm), hb.block _ h.lt]; exact h.box
  refine ⟨_, h.setRegs (v := .slice (some ⟨g, 0, none⟩) (N.regs.length + 1) cap) (kept_store hb hg q.b 3 _) ?_ ?_ (new_block hb hat)⟩
  · have := box_set (o := 3) hbox (.slice (some ⟨g, 0, none⟩) (N.regs.length + 1) cap)
    simpa [netBox] using this
  · unfold RegRow
    rw [rgCells_push, List.length_append]
    refine ⟨hown.1, ?_⟩
    rcases hown.2 with h0 | ⟨g', cap', cur', hv', hg', hh, r⟩
    · exact .inl h0
    · simp at hv'
      obtain ⟨rfl, rfl⟩ := hv'
      exact .inr ⟨_, _, cur', rfl, hg', by rw [Below.heap_setCell _ _ _ _ hgb]; exact hh, r⟩

/-- A new netlist. -/
theorem New_ok (F H : Bool) {s : ByteArray} (hs : mayName s = true) (w : World) :
    Calls Tryd.prog 37 #[.string s, .agg #[.bool F, .bool H]] w fun e w' => ∃ q : NPl, e = .returned (.tuple #[.pointer (some ⟨q.b, 0, none⟩), .int .i64 0]) ∧ NetIs w' q ⟨newG F H, s, [], [], []⟩ ∧ Below w.heap.size w w' ∧ ∀ k, q.has k → w.heap.size ≤ k := by
  have hb : Below w.heap.size w (w.alloc (.cells #[.bool F, .bool H] 87)) := (Below.refl _ _).alloc (Nat.le_refl _) _
  have hm := Lib.hid (fun w => MayName_any s w)
  rw [hs] at hm
  have hz : (w.alloc (.cells #[.bool F, .bool H] 87)).heap.size = w.heap.size + 1 := by simp
  have c0 : (w.alloc (.cells #[.bool F, .bool H] 87)).cell? ⟨w.heap.size, 0, none⟩ = some (.bool F) := by simp [go_sem]
  have c1 : (w.alloc (.cells #[.bool F, .bool H] 87)).cell? ⟨w.heap.size, 1, none⟩ = some (.bool H) := by simp [go_sem]
  have hnew := Lib.hid (fun w => new_any F H w)
  have hb := Lib.hid hb
  clear hs
  go_enter Tryd.func37, Tryd.ntmps37
  go_wp2_with (first
    | (go_at_call 75; (with_reducible refine (hm.out _).mono ?_); rintro e w2 ⟨rfl, hb2⟩; have d0 := stepc hb2 (by omega) c0; have d1 := stepc hb2 (by omega) c1; clear c0 c1)
    | (go_at_call 76; (with_reducible refine (hnew.out _).mono ?_); rintro e w3 ⟨p, rfl, hI, hb3, hout⟩))
  go_ret2
  have hw := nextw hb.out hb2
  have hb4 : ∀ o, Below w3.heap.size w3 (w3.alloc o) := fun o => (Below.refl _ _).alloc (Nat.le_refl _) _
  refine ⟨⟨w3.heap.size, p, .slice none 0 0, .slice none 0 0, .slice none 0 0⟩, rfl, ⟨Deep.blk_alloc_new _ _, hI.below (hb4 _), BusRow.nil _, ⟨rfl, .inl ⟨rfl, rfl⟩⟩, BusRow.nil _, fun k hk => by simp [Value.ownBlock] at hk⟩, (nextw hw hb3).alloc (nextw hw hb3).size _, ?_⟩
  intro k hk
  have := hw.size
  rcases hk with rfl | hk | hk | hk | hk
  · exact (nextw hw hb3).size
  · have := hout k hk; omega
  · simp [Value.ownBlock] at hk
  · simp [Value.ownBlock] at hk
  · simp [Value.ownBlock] at hk
end Go.Proofs.YtnhpjacodhdpeaaDoor
end
