/-
  The law package's own: a netlist of steps, and the document's.
  EmitOptions: a graph that is laid gate by gate, plainly; the steps of that.
  EmitOptions: the walk.
  What a row's condition says of the table of powers of ten.
  EmitOptions: for every input the law's Go text returns true and leaves its arguments as they were; the tables that the text of the program lays hold what it lays there.
-/
import Derived.Test.YtnhpjacodhdpeaaGreatDoorFEOR
import Derived.Test.YtnhpjacodhdpeaaGreatDoorFEOO
import Derived.BigRegion
import Derived.Test.YtnhpjacodhdpeaaGreatDoorFEOA
import Derived.Test.YtnhpjacodhdpeaaGreatDoorFEOL
import Derived.Test.YtnhpjacodhdpeaaGreatDoorCards
import Derived.Test.YtnhpjacodhdpeaaGreatDoorTie
import Derived.SevenTiedAt
section
namespace Go.Proofs.YtnhpjacodhdpeaaGreatDoor
open Go.RowKit Go.Maps Bits Num
set_option maxRecDepth 100000

theorem AtN.asideD {w0 w w' : World} {B C : Nat} {q : NPl} {N : Nt} (h : AtN w0 B C w q N) (hk : Kept (DK w) w w') (hb : Below w0.heap.size w0 w') : AtN w0 B C w' q N := ⟨h.is.asideD hk, h.b, h.gb, h.out, hb⟩
theorem AtN.wants {w0 w : World} {B C : Nat} {q : NPl} {N : Nt} (h : AtN w0 B C w q N) {Bd Bg : Nat} {p : RPl} {M : Nt} (hR : RN w0 w Bd Bg p M) {rest : List Int} (hg : Good M rest) (hS : Small M) {s : StV} (hs : StOk w s) {N' : Nt} {ls : List Int} {r : Int} (hd : doesN M s = (N', ls, r)) :
    Calls Tryz.prog 28 #[.pointer (some ⟨Bd, 0, none⟩), .agg #[.int .i64 s.what, .string s.name, .int .i64 s.n, .int .u32 s.a, .int .u32 s.b, .int .u32 s.c, .slice s.la s.ln s.lc]] w fun e w' => (∃ v, e = .returned v) ∧ AtN w0 B C w' q N ∧ ∃ p', RN w0 w' Bd Bg p' N' := by
  have := Wants_all w0 w Bd Bg p M rest s hR hg hS hs trivial
  rw [hd] at this
  exact this.mono fun _ w' ⟨hv, ⟨p', hp⟩, hk⟩ => ⟨hv, h.asideD hk hp.below, p', hp⟩
theorem AtN.does2 {w0 w : World} {B C : Nat} {q : NPl} {N : Nt} (h : AtN w0 B C w q N) {Bd Bg : Nat} {p : RPl} {M : Nt} (hR : RN w0 w Bd Bg p M) {rest : List Int} (hg : Good N rest) (hS : Small N) {s : StV} (hs : StOk w s) {N' : Nt} {ls : List Int} {r : Int} (hd : doesN N s = (N', ls, r)) :
    Calls Tryz.prog 27 #[.pointer (some ⟨B, 0, none⟩), .agg #[.int .i64 s.what, .string s.name, .int .i64 s.n, .int .u32 s.a, .int .u32 s.b, .int .u32 s.c, .slice s.la s.ln s.lc]] w fun e w' => (∃ v1 v2, e = .returned (.tuple #[v1, v2])) ∧ (∃ q', AtN w0 B C w' q' N') ∧ RN w0 w' Bd Bg p M ∧ Below w0.heap.size w0 w' :=
  (h.does hg hS hs hd).mono fun _ w' ⟨a, c, q', he, hl, hA, hk, hn⟩ => ⟨⟨_, _, he⟩, ⟨q', hA⟩, hR.kept hk h.out h.is.noDoc, hA.below⟩

theorem doesN_goodR {N : Nt} (hg : ∃ rest, Good N rest) (hS : Small N) {w : World} {s : StV} (hs : StOk w s) : ∃ rest', Good (doesN N s).1 rest' := by
  obtain ⟨rest, hg⟩ := hg
  by_cases h8 : s.what = 8
  · unfold doesN
    rw [if_neg (by omega), if_neg (by omega), if_neg (by omega), if_neg (by omega), if_neg (by omega), if_neg (by omega), if_pos h8]
    exact ⟨_, hg.input⟩
  · exact ⟨rest, doesN_good hg hS hs h8⟩
set_option maxHeartbeats 4000000 in
theorem Built_any (F H : Bool) {w : World} {a : Option Addr} {n c : Nat} {S : Nat → StV} (hs : StRow w a n S) :
    Calls Tryz.prog 6 #[.agg #[.bool F, .bool H], .slice a n c] w fun e w' => ∃ (B C Bd Bg : Nat) (q : NPl) (p : RPl) (N : Nt), e = .returned (.tuple #[.pointer (some ⟨B, 0, none⟩), .pointer (some ⟨Bd, 0, none⟩)]) ∧ AtN w B C w' q N ∧ RN w w' Bd Bg p N ∧ (∃ rest, Good N rest) ∧ Upto N 60 := by
  have hb0 : Below w.heap.size w (w.alloc (.cells #[.bool F, .bool H] 23)) := (Below.refl _ _).alloc (Nat.le_refl _) _
  have hnew2 := Lib.hid (fun w2 (hb : Below w.heap.size w w2) => rNew_any w hb F H top_may)
  have k0 : (w.alloc (.cells #[.bool F, .bool H] 23)).cell? ⟨w.heap.size, 0, none⟩ = some (.bool F) := by simp [go_sem]
  have k1 : (w.alloc (.cells #[.bool F, .bool H] 23)).cell? ⟨w.heap.size, 1, none⟩ = some (.bool H) := by simp [go_sem]
  have HS := Lib.hid hs
  have hle := hs.le
  have hg0 : Hid (∃ rest, Good ⟨newG F H, sTop, [], [], []⟩ rest) := Lib.hid ⟨_, Good.new F H top_may⟩
  have hu0 := Lib.hid (upto0 F H)
  have hN2 := Lib.hid (New_ok F H top_may (w.alloc (.cells #[.bool F, .bool H] 23)))
  have hz0 : w.heap.size < (w.alloc (.cells #[.bool F, .bool H] 23)).heap.size := by simp
  have hb0 := Lib.hid hb0
  generalize hw1 : w.alloc (.cells #[.bool F, .bool H] 23) = w1 at *
  have hbz : w.heap.size ≤ w1.heap.size := hb0.out.size
  clear hs
  go_enter Tryz.func6, Tryz.ntmps6
  go_upto_block 0 with (first
    | (go_at_call 22; (with_reducible refine hN2.out.mono ?_); rintro e w2 ⟨q, rfl, hI, hb2, hqo⟩; have m0 := stepc hb2 hz0 k0; have m1 := stepc hb2 hz0 k1; have hnw := Lib.hid (hnew2.out _ (nextw hb0.out hb2)); have hA : AtN w q.b q.g.b w2 q ⟨newG F H, sTop, [], [], []⟩ := ⟨hI, rfl, rfl, fun k hk => Nat.le_trans hbz (hqo k hk), nextw hb0.out hb2⟩; have hA := Lib.hid hA; obtain ⟨b0, b1⟩ := hA.out.cells; clear hI hqo)
    | (go_at_call 26; (with_reducible refine hnw.out.mono ?_); rintro e w3 ⟨Bd, Bg, p, rfl, hRN, hb3⟩; have d0 := stepc hb3 b1 b0; have hA3 := Lib.hid (hA.out.step hb3); have hR3 := Lib.hid hRN; clear hRN hb3))
  generalize q.b = B at *
  generalize q.g.b = C at *
  clear hnew2 hN2 m0 m1 k0 k1 hnw hA d0 b0 b1 hb2
  go_wp2_with fail
  go_loopw [10] (fun i wr => ∃ (j : Nat) (q : NPl) (p : RPl) (N : Nt), j ≤ min n 60 ∧ i = .int .i64 j ∧ Hid (AtN w B C wr q N) ∧ Hid (RN w wr Bd Bg p N) ∧ Hid (∃ rest, Good N rest) ∧ Hid (Upto N j)) (fun i _ => min n 60 - (intOf i).toNat)
  case atStart => exact ⟨0, _, _, _, Nat.zero_le _, rfl, hA3, hR3, hg0, hu0⟩
  case round =>
    clear hA3 hR3 hg0 hu0
    obtain ⟨j, q, p, N, hj, rfl, hA, hR, hG, hU⟩ := hrel
    have hSm := Lib.hid (hU.out.small (by omega))
    by_cases hlt : j < min n 60
    · have hjn : j < n := by omega
      have hj60 : j < 60 := by omega
      obtain ⟨b, off, rfl, hb, k0, k1, k2, k3, k4, k5, k6⟩ := HS.out.at hjn
      have hcl := Lib.hid (fun w2 (hb2 : Below w.heap.size w w2) => And.intro (stepc hb2 hb k0) (And.intro (stepc hb2 hb k1) (And.intro (stepc hb2 hb k2) (And.intro (stepc hb2 hb k3) (And.intro (stepc hb2 hb k4) (And.intro (stepc hb2 hb k5) (stepc hb2 hb k6)))))))
      have k0 := stepc hA.out.below hb k0
      have k1 := stepc hA.out.below hb k1
      have k2 := stepc hA.out.below hb k2
      have k3 := stepc hA.out.below hb k3
      have k4 := stepc hA.out.below hb k4
      have k5 := stepc hA.out.below hb k5
      have k6 := stepc hA.out.below hb k6
      have hst := Lib.hid (HS.out.ok j hjn)
      have hbw := hb
      generalize S j = s at *
      obtain ⟨⟨N', ls, r⟩, hd⟩ : ∃ x, doesN N s = x := ⟨_, rfl⟩
      have hgd := Lib.hid (by have := doesN_goodR hG.out hSm.out hst.out; rw [hd] at this; exact this)
      have hup := Lib.hid (by have := hU.out.does (by omega) hG.out.choose_spec hst.out; rw [hd] at this; exact this)
      have hdo := Lib.hid (hA.out.does2 hR.out hG.out.choose_spec hSm.out (hst.out.step hA.out.below) hd)
      have hwa := Lib.hid (fun w2 q2 (hA2 : AtN w B C w2 q2 N') (hR2 : RN w w2 Bd Bg p N) => hA2.wants hR2 hG.out.choose_spec hSm.out (hst.out.step hA2.below) hd)
      clear hd hst hSm hG hU
      simp only [] at hgd hup
      generalize s.what = K at *
      generalize s.name = nm at *
      generalize s.n = sn at *
      generalize s.a = sa at *
      generalize s.b = sb at *
      generalize s.c = sc at *
      generalize s.la = la at *
      generalize s.ln = ln at *
      generalize s.lc = lc at *
      go_wp2_with (first
        | (go_at_call 27; (with_reducible refine hdo.out.mono ?_); rintro e w6 ⟨⟨v1, v2, rfl⟩, ⟨q6, hA6⟩, hR6, hb6⟩; obtain ⟨x0, x1, x2, x3, x4, x5, x6⟩ := hcl.out _ hb6; have hwa2 := Lib.hid (hwa.out _ _ hA6 hR6); clear hA6 hR6 hb6 hdo)
        | (go_at_call 28; (with_reducible refine hwa2.out.mono ?_); rintro e w7 ⟨⟨v3, rfl⟩, hA7, p7, hR7⟩; have hA7 := Lib.hid hA7; have hR7 := Lib.hid hR7))
      exact ⟨⟨j + 1, _, _, _, by omega, by go_num, hA7, hR7, hgd, hup⟩, by simp [intOf]; omega⟩
    · obtain rfl : j = min n 60 := by omega
      have hU6 := Lib.hid (hU.out.mono (show min n 60 ≤ 60 by omega))
      by_cases h6 : n ≤ 60
      · have hmn : min n 60 = n := by omega
        rw [hmn]
        go_wp2_with fail
        go_ret2
        exact ⟨_, _, _, _, _, _, _, rfl, hA.out, hR.out, hG.out, hU6.out⟩
      · have hmn : min n 60 = 60 := by omega
        have hn4 : 60 < n := by omega
        rw [hmn]
        go_wp2_with fail
        go_ret2
        exact ⟨_, _, _, _, _, _, _, rfl, hA.out, hR.out, hG.out, hU6.out⟩
end Go.Proofs.YtnhpjacodhdpeaaGreatDoor
end

section
namespace Go.Proofs.YtnhpjacodhdpeaaGreatDoor
open Go.RowKit Go.Maps Bits
set_option maxRecDepth 100000

theorem mem_in {G : Gr} (h : Wf G) {x : Int} : (∃ k : Nat, G.inputs[k]? = some x) ↔ ∃ i : Nat, x = i ∧ 0 < i ∧ ∃ n, G.nodes[i]? = some n ∧ n.gate = false := by
  constructor
  · rintro ⟨k, hk⟩
    exact h.ins k x hk
  · rintro ⟨i, rfl, h0, n, hn, hg⟩
    exact h.all i n h0 hn hg
theorem inputs_le {G G2 : Gr} (h : Wf G) (h2 : Wf G2) (e : G2.nodes = G.nodes) (k : Nat) (ih : ∀ j, j < k → G2.inputs[j]? = G.inputs[j]?) {x y : Int} (hx : G.inputs[k]? = some x) (hy : G2.inputs[k]? = some y) : y ≤ x := by
  obtain ⟨m, hm⟩ := (mem_in h2).2 (by rw [e]; exact (mem_in h).1 ⟨k, hx⟩)
  rcases Nat.lt_trichotomy m k with hlt | rfl | hgt
  · have h3 := ih m hlt
    rw [hm] at h3
    have := h.rise m k x x hlt h3.symm hx
    omega
  · rw [hy] at hm
    cases hm
    omega
  · have := h2.rise k m y x hgt hy hm
    omega
/-- Two graphs of the same nodes have the same inputs. -/
theorem inputs_eq {G G2 : Gr} (h : Wf G) (h2 : Wf G2) (e : G2.nodes = G.nodes) : G2.inputs = G.inputs := by
  have hl : G2.inputs.length = G.inputs.length := by
    have h3 := h.cnt
    have h4 := h2.cnt
    rw [e] at h4
    omega
  apply List.ext_getElem?
  intro k
  induction k using Nat.strongRecOn with
  | _ k ih =>
    by_cases hk : k < G.inputs.length
    · have hx := List.getElem?_eq_getElem hk
      have hy := List.getElem?_eq_getElem (show k < G2.inputs.length by omega)
      have a := inputs_le h h2 e k ih hx hy
      have b := inputs_le h2 h e.symm k (fun j hj => (ih j hj).symm) hy hx
      rw [hx, hy]
      congr 1
      omega
    · rw [List.getElem?_eq_none (by omega), List.getElem?_eq_none (by omega)]
theorem good_again {N : Nt} {rest : List Int} (hg : Good N rest) {G2 : Gr} (hW : Wf G2) (e : G2.nodes = N.g.nodes) : Good ⟨G2, N.name, N.ins, N.regs, N.outs⟩ rest := by
  have hi := inputs_eq hg.wf hW e
  have ht : ∀ x, There N.g x → There G2 x := fun x hx => ⟨hx.1, by rw [e]; exact hx.2⟩
  refine ⟨hW, hg.name, hg.ins, hg.outs, fun b hb x hx => ht x (hg.outT b hb x hx), fun r hr => ⟨ht _ (hg.regT r hr).1, ht _ (hg.regT r hr).2⟩, ?_⟩
  have := hg.drv
  unfold inLits at this ⊢
  rw [← hi] at this
  exact this
theorem text_again {N : Nt} {G2 : Gr} (e : G2.nodes = N.g.nodes) : textN ⟨G2, N.name, N.ins, N.regs, N.outs⟩ = textN N := by
  unfold textN linesL gatesL gateS nodeAt
  simp only [e]
/-- The first j nodes of one, laid in another. -/
structure Laid (N : Nt) (G : Gr) (j : Nat) : Prop where
  wf : Wf G
  nodes : G.nodes = N.g.nodes.take j
theorem Laid.len {N : Nt} {G : Gr} {j : Nat} (h : Laid N G j) (hj : j ≤ N.g.nodes.length) : G.nodes.length = j := by
  rw [h.nodes, List.length_take]
  omega
theorem node_at {G : Gr} {j : Nat} (hj : j < G.nodes.length) : G.nodes[j]? = some (nodeAt G j) := by
  unfold nodeAt
  rw [List.getD_eq_getElem?_getD, List.getElem?_eq_getElem hj]
  rfl
theorem take_node {G : Gr} {j : Nat} (hj : j < G.nodes.length) : G.nodes.take (j + 1) = G.nodes.take j ++ [nodeAt G j] := by
  rw [List.take_add_one, node_at hj]
  rfl
theorem Laid.gate {N : Nt} {G : Gr} {j : Nat} (h : Laid N G j) (hW : Wf N.g) (hj : j < N.g.nodes.length) (hg : (nodeAt N.g j).gate = true) :
    (There G (nodeAt N.g j).a ∧ There G (nodeAt N.g j).b) ∧ gateG G (nodeAt N.g j).a (nodeAt N.g j).b = (addN G (nodeAt N.g j).a (nodeAt N.g j).b, 2 * (G.nodes.length : Int)) ∧ Laid N (addN G (nodeAt N.g j).a (nodeAt N.g j).b) (j + 1) := by
  obtain ⟨h1, h2, h3, h4⟩ := hW.gates j _ (node_at hj) hg
  have hl := h.len (by omega)
  have ha : There G (nodeAt N.g j).a := ⟨h1, by omega⟩
  have hb : There G (nodeAt N.g j).b := ⟨h2, by omega⟩
  refine ⟨⟨ha, hb⟩, ?_, Wf_addN h.wf ha hb h3, ?_⟩
  · unfold gateG hiV loV
    rw [if_neg (by omega), if_neg (by omega)]
  · rw [take_node hj, ← h.nodes]
    show G.nodes ++ [_] = _
    congr 2
    rcases hn : nodeAt N.g j with ⟨g, a, b⟩
    rw [hn] at hg
    simp only at hg
    rw [hg]
theorem Laid.input {N : Nt} {G : Gr} {j : Nat} (h : Laid N G j) (hW : Wf N.g) (hj : j < N.g.nodes.length) (hg : (nodeAt N.g j).gate = false) : Laid N (inputG G) (j + 1) := by
  obtain ⟨h1, h2⟩ := hW.plain j _ (node_at hj) hg
  refine ⟨Wf_inputG h.wf, ?_⟩
  rw [take_node hj, ← h.nodes]
  show G.nodes ++ [_] = _
  congr 2
  rcases hn : nodeAt N.g j with ⟨g, a, b⟩
  rw [hn] at hg h1 h2
  simp only at hg h1 h2
  rw [hg, h1, h2]
theorem Laid.new {N : Nt} (F H : Bool) (hW : Wf N.g) : Laid N (newG F H) 1 := by
  refine ⟨Wf_new F H, ?_⟩
  have h := hW.zero
  cases e : N.g.nodes with
  | nil => rw [e] at h; simp at h
  | cons x r => rw [e] at h; simp at h; subst h; rfl
/-- A bare netlist grows. -/
theorem AtN.raw {w0 w : World} {B C : Nat} {q : NPl} {G : Gr} {s : ByteArray} (h : AtN w0 B C w q ⟨G, s, [], [], []⟩) (hW : Wf G) (hm : G.nodes.length ≤ 190000) {a b x : Int} (ha : There G a) (hb : There G b) {G' : Gr} (hg : gateG G a b = (G', x)) :
    Calls Tryz.prog 24 #[.pointer (some ⟨C, 0, none⟩), .int .u32 a, .int .u32 b] w fun e w' => e = .returned (.tuple #[.int .u32 x, .int .i64 0]) ∧ ∃ q' : NPl, AtN w0 B C w' q' ⟨G', s, [], [], []⟩ := by
  have := Raw_any h.is.g hW (by show G.nodes.length ≤ 198000; omega) ha hb
  rw [show q.g.b = C from h.gb, hg] at this
  exact this.mono fun _ w' ⟨he, p', hS⟩ => ⟨he, _, h.next (h.is.grow hS)⟩
theorem AtN.inp {w0 w : World} {B C : Nat} {q : NPl} {G : Gr} {s : ByteArray} (h : AtN w0 B C w q ⟨G, s, [], [], []⟩) (hW : Wf G) (hm : G.nodes.length ≤ 190000) :
    Calls Tryz.prog 25 #[.pointer (some ⟨C, 0, none⟩)] w fun e w' => e = .returned (.tuple #[.int .u32 (2 * (G.nodes.length : Int)), .int .i64 0]) ∧ ∃ q' : NPl, AtN w0 B C w' q' ⟨inputG G, s, [], [], []⟩ := by
  have := Input_any h.is.g hW (by show G.nodes.length ≤ 200000; omega)
  rw [show q.g.b = C from h.gb] at this
  exact this.mono fun _ w' ⟨he, p', hS⟩ => ⟨he, _, h.next (h.is.grow hS)⟩
/-- The other one's rows are handed over. -/
theorem NetIs.again {w w4 : World} {q q2 : NPl} {N : Nt} {G : Gr} (h : NetIs w q N) (hb : Below w.heap.size w w4) (h2 : NetIs w4 q2 ⟨G, N.name, [], [], []⟩) (hq : q2.b ≥ w.heap.size) (W : World)
    (hW : W = ((w4.setCell ⟨q2.b, 2, none⟩ q.iv).setCell ⟨q2.b, 3, none⟩ q.rv).setCell ⟨q2.b, 4, none⟩ q.ov) :
    NetIs W ⟨q2.b, q2.g, q.iv, q.rv, q.ov⟩ ⟨G, N.name, N.ins, N.regs, N.outs⟩ ∧ Below w.heap.size w W ∧ Kept (fun k => k = q2.b) w4 W := by
  have hk : Kept (fun k => k = q2.b) w4 W := by
    subst hW
    exact ⟨rfl, rfl, rfl, by simp [World.setCell], fun k _ hn => by
      rw [Below.heap_setCell _ _ _ _ hn, Below.heap_setCell _ _ _ _ hn, Below.heap_setCell _ _ _ _ hn]⟩
  have hB : Below w.heap.size w W := hb.trans (hk.below (fun k e => by subst e; exact hq) hb.size)
  have h5 := h.below hB
  refine ⟨⟨?_, ?_, h5.ins, h5.regs, h5.outs, h5.apart⟩, hB, hk⟩
  · have hbx := h2.box
    subst hW
    have h6 := box_set (o := 4) (box_set (o := 3) (box_set (o := 2) hbx q.iv) q.rv) q.ov
    simpa [netBox] using h6
  · exact h2.g.beside hk (fun k e hp => by
      subst e
      exact (h2.gFar hp).1 rfl)
end Go.Proofs.YtnhpjacodhdpeaaGreatDoor
end

section
namespace Go.Proofs.YtnhpjacodhdpeaaGreatDoor
open Go.RowKit Go.Maps Bits Go.Shelf
set_option maxRecDepth 100000
set_option linter.unusedVariables false

theorem StRow.step {w w' : World} {a : Option Addr} {n : Nat} {S : Nat → StV} (h : StRow w a n S) (hb : Below w.heap.size w w') : StRow w' a n S := by
  refine ⟨h.le, ?_, fun i hi => (h.ok i hi).step hb⟩
  rcases h.cells with h0 | ⟨b, off, e, hlt, hc⟩
  · exact .inl h0
  · refine .inr ⟨b, off, e, Nat.lt_of_lt_of_le hlt hb.size, fun i hi => ?_⟩
    obtain ⟨k0, k1, k2, k3, k4, k5, k6⟩ := hc i hi
    exact ⟨stepc hb hlt k0, stepc hb hlt k1, stepc hb hlt k2, stepc hb hlt k3, stepc hb hlt k4, stepc hb hlt k5, stepc hb hlt k6⟩

/-- All of a netlist whose text and error are named. -/
def AllN (w : World) (S : ByteArray) (cd : Int) (e : Ending) (w' : World) : Prop := ∃ a cap, e = .returned (.tuple #[.slice a S.size cap, .int .i64 cd]) ∧ ConvQ w' (.slice a S.size cap) S ∧ Below w.heap.size w w'
theorem NetIs.all {w : World} {q : NPl} {N : Nt} {rest : List Int} (h : NetIs w q N) (hg : Good N rest) (hS : Small N) (ht : PW w) {B : Nat} (hB : q.b = B) {S : ByteArray} {cd : Int} (h1 : strQ (ckV rest) (textN N) = S) (h2 : codeQ (ckV rest) (textN N) = cd) :
    Calls Tryz.prog 7 #[.pointer (some ⟨B, 0, none⟩)] w (AllN w S cd) := by
  have h3 := All_tell h hg hS ht
  rw [h1, h2, hB] at h3
  exact h3
set_option maxHeartbeats 8000000 in
theorem options_any {w : World} (ht : PW w) (F H F2 H2 : Bool) {a : Option Addr} {n c : Nat} {S : Nat → StV} (hs : StRow w a n S) :
    Calls Tryz.prog 5 #[.agg #[.bool F, .bool H], .agg #[.bool F2, .bool H2], .slice a n c] w fun e w' => e = .returned (.bool true) ∧ Below w.heap.size w w' := by
  have hPW := Lib.hid (fun W (hb : Below w.heap.size w W) => ht.step hb)
  obtain ⟨wA, hwA⟩ : ∃ wA, wA = (w.alloc (.cells #[.bool F, .bool H] 23)).alloc (.cells #[.bool F2, .bool H2] 23) := ⟨_, rfl⟩
  have hbA : Below w.heap.size w wA := by rw [hwA]; exact ((Below.refl _ w).alloc (Nat.le_refl _) _).alloc (by simp) _
  have k0 : wA.cell? ⟨w.heap.size, 0, none⟩ = some (.bool F) := by rw [hwA]; simp [go_sem]
  have k1 : wA.cell? ⟨w.heap.size, 1, none⟩ = some (.bool H) := by rw [hwA]; simp [go_sem]
  have k2 : wA.cell? ⟨w.heap.size + 1, 0, none⟩ = some (.bool F2) := by rw [hwA]; simp [go_sem]
  have k3 : wA.cell? ⟨w.heap.size + 1, 1, none⟩ = some (.bool H2) := by rw [hwA]; simp [go_sem]
  have hzA : wA.heap.size = w.heap.size + 2 := by rw [hwA]; simp
  have hBu := Lib.hid (Built_any F H (c := c) (hs.step hbA))
  have hBA := Lib.hid hbA
  rw [hwA] at k0 k1 k2 k3
  rw [hwA] at hBu
  have hwA := Lib.hid hwA
  clear ht hs hbA
  go_enter Tryz.func5, Tryz.ntmps5
  go_upto_region 4 with (go_at_call 6; (with_reducible refine hBu.out.mono ?_); rintro e w2 ⟨B, C, Bd, Bg, q, p, N, rfl, hA, -, ⟨rest, hG⟩, hU⟩)
  have hA : AtN wA B C w2 q N := by rw [hwA.out]; exact hA
  rw [← hwA.out] at k2 k3
  have m2 := stepc hA.below (by show w.heap.size + 1 < wA.heap.size; omega) k2
  have m3 := stepc hA.below (by show w.heap.size + 1 < wA.heap.size; omega) k3
  have hw2 := Lib.hid (nextw hBA.out hA.below)
  have hSm := hU.small (Nat.le_refl _)
  obtain ⟨ia, ic, ra, rc, oa, oc, e1, e2, e3, c0, c1, c2, c3, c4, -⟩ := hA.is.cells
  have hlt := hA.is.lt
  rw [hA.b] at c0 c1 c2 c3 c4 hlt
  rw [hA.gb] at c0
  have hnew := Lib.hid (fun W (hW : Below w2.heap.size w2 W) => AtN.new w2 hW F2 H2 hG.name)
  have hA := Lib.hid hA
  have hG := Lib.hid hG
  have hSm := Lib.hid hSm
  clear k0 k1 k2 k3 hBu hU hwA hBA hzA
  go_cut [9, 10] (fun s9 s10 wx => ∃ (q2 : NPl) (B2 C2 : Nat), s9 = .pointer (some ⟨B2, 0, none⟩) ∧ s10 = .int .i64 0 ∧ Hid (AtN w2 B2 C2 wx q2 ⟨newG F2 H2, N.name, [], [], []⟩))
  case first =>
    -- @slow
    go_region_law (go_simp; go_at_call 22; (with_reducible refine (hnew.out _ (by first | exact Below.refl _ _ | exact (Below.refl _ _).drew)).mono ?_); rintro e w5 ⟨q2, B2, C2, rfl, hA5⟩; have hA5 := Lib.hid hA5)
    all_goals simp only [List.getElem_toArray, List.getElem_cons_succ, List.getElem_cons_zero, Act.put, List.setIfInBounds_toArray, List.set_cons_succ, List.set_cons_zero]
    all_goals (go_wp2_with fail; go_meet)
    all_goals exact ⟨q2, B2, C2, rfl, rfl, hA5⟩
-- @end
  case rest =>
    obtain ⟨q2, B2, C2, rfl, rfl, hA5⟩ := hcut
    obtain ⟨nn, hnn⟩ : ∃ nn, N.g.nodes.length = nn := ⟨_, rfl⟩
    have hnb : nn ≤ 180000 := by have := hSm.out.g; omega
    have hnn := Lib.hid hnn
    have hL0 := Lib.hid (Laid.new F2 H2 hG.out.wf)
    have hn1 : 1 ≤ nn := by have := hG.out.wf.pos; rw [hnn.out] at this; exact this
    have x0 := stepc hA5.out.below hlt c0
    obtain ⟨y0, y1⟩ := hA5.out.cells
    clear hnew m2 m3
    generalize newG F2 H2 = G0 at *
    generalize hsn : N.name = s at *
    have hsn := Lib.hid hsn
    go_wp2_with fail
    go_loopw [11] (fun k wr => ∃ (j : Nat) (q2 : NPl) (G : Gr), 1 ≤ j ∧ j ≤ nn ∧ k = .int .i64 j ∧ Hid (AtN w2 B2 C2 wr q2 ⟨G, s, [], [], []⟩) ∧ Hid (Laid N G j)) (fun k _ => nn - (intOf k).toNat)
    case atStart => exact ⟨1, q2, G0, Nat.le_refl _, hn1, rfl, hA5, hL0⟩
    case round =>
      clear hA5 hL0 x0 y0 y1
      obtain ⟨j, q2, G, hj1, hj, rfl, hA5, hL⟩ := hrel
      have x0 := stepc hA5.out.below hlt c0
      obtain ⟨y0, y1⟩ := hA5.out.cells
      have hI := Lib.hid (hA.out.is.below hA5.out.below)
      have hno := Lib.hid (by have h := nodes_any hI.out.g.lay hG.out.wf.pos; rw [hnn.out, show q.g.b = C from hA.out.gb] at h; exact h)
      by_cases hlt2 : j < nn
      -- @slow
      · have hjl : j < N.g.nodes.length := by rw [hnn.out]; exact hlt2
        have hga := Lib.hid (by have h := Gate_any hI.out.g hG.out.wf (by have := hSm.out.g; omega) hjl; rw [show q.g.b = C from hA.out.gb] at h; exact h)
        by_cases hgt : (nodeAt N.g j).gate = true
        · obtain ⟨⟨t1, t2⟩, t3, hL2⟩ := hL.out.gate hG.out.wf hjl hgt
          have hlen := hL.out.len (by omega)
          have hra := Lib.hid (fun w5 (hb : Below wr.heap.size wr w5) => (hA5.out.step hb).raw hL.out.wf (by omega) t1 t2 t3)
          have hL2 := Lib.hid hL2
          have hy := Lib.hid (fun w5 (hb : Below wr.heap.size wr w5) => stepc hb y1 y0)
          rw [hgt] at hga
          clear hgt t1 t2 t3 hL hlen hI
          generalize addN G (nodeAt N.g j).a (nodeAt N.g j).b = G' at *
          generalize (nodeAt N.g j).a = na at *
          generalize (nodeAt N.g j).b = nb at *
          go_wp2_with (first
            | (go_at_call 18; (with_reducible refine hno.out.mono ?_); rintro e w4 ⟨rfl, rfl⟩)
            | (go_at_call 23; (with_reducible refine hga.out.mono ?_); rintro e w5 ⟨rfl, hb5⟩; have y2 := hy.out _ hb5; have hra5 := Lib.hid (hra.out _ hb5); clear hb5)
            | (go_at_call 24; (with_reducible refine hra5.out.mono ?_); rintro e w6 ⟨rfl, q6, hA6⟩; have hA6 := Lib.hid hA6))
          exact ⟨⟨j + 1, q6, G', by omega, by omega, by go_num, hA6, hL2⟩, by simp [intOf]; omega⟩
        · have hgt : (nodeAt N.g j).gate = false := by simpa using hgt
          have hL2 := Lib.hid (hL.out.input hG.out.wf hjl hgt)
          have hlen := hL.out.len (by omega)
          have hra := Lib.hid (fun w5 (hb : Below wr.heap.size wr w5) => (hA5.out.step hb).inp hL.out.wf (by omega))
          have hy := Lib.hid (fun w5 (hb : Below wr.heap.size wr w5) => stepc hb y1 y0)
          rw [hgt] at hga
          clear hgt hL hlen hI
          generalize inputG G = G' at *
          generalize (nodeAt N.g j).a = na at *
          generalize (nodeAt N.g j).b = nb at *
          go_wp2_with (first
            | (go_at_call 18; (with_reducible refine hno.out.mono ?_); rintro e w4 ⟨rfl, rfl⟩)
            | (go_at_call 23; (with_reducible refine hga.out.mono ?_); rintro e w5 ⟨rfl, hb5⟩; have y2 := hy.out _ hb5; have hra5 := Lib.hid (hra.out _ hb5); clear hb5)
            | (go_at_call 25; (with_reducible refine hra5.out.mono ?_); rintro e w6 ⟨rfl, q6, hA6⟩; have hA6 := Lib.hid hA6))
          exact ⟨⟨j + 1, q6, G', by omega, by omega, by go_num, hA6, hL2⟩, by simp [intOf]; omega⟩
-- @end
      · obtain rfl : j = nn := by omega
        have x2 := stepc hA5.out.below hlt c2
        have x3 := stepc hA5.out.below hlt c3
        have x4 := stepc hA5.out.below hlt c4
        obtain ⟨_, _, _, _, _, _, -, -, -, -, -, z2, z3, z4, fz⟩ := hA5.out.is.cells
        rw [hA5.out.b] at z2 z3 z4 fz
        have f2 := fz 2
        have f3 := fz 3
        have f4 := fz 4
        have hne : B2 ≠ B := by
          have h1 := hA5.out.out q2.b (.inl rfl)
          rw [hA5.out.b] at h1
          omega
        clear fz
        go_upto_region 14 with (go_at_call 18; (with_reducible refine hno.out.mono ?_); rintro e w4 ⟨rfl, rfl⟩)
        go_region
        have hag := NetIs.again hA.out.is hA5.out.below (by rw [hsn.out]; exact hA5.out.is) (hA5.out.out q2.b (.inl rfl)) _ rfl
        rw [e1, e2, e3, hA5.out.b] at hag
        obtain ⟨hI4, hB4, -⟩ := hag
        have hI5 := Lib.hid (hI4.below (Below.refl _ _).drew)
        have hB5 := Lib.hid hB4.drew
        obtain ⟨w4, hw4⟩ : ∃ w4, w4 = (((wr.setCell ⟨B2, 2, none⟩ (.slice ia N.ins.length ic)).setCell ⟨B2, 3, none⟩ (.slice ra N.regs.length rc)).setCell ⟨B2, 4, none⟩ (.slice oa N.outs.length oc)).drew := ⟨_, rfl⟩
        rw [← hw4] at hI5 hB5 ⊢
        have hnd : G.nodes = N.g.nodes := by rw [hL.out.nodes, ← hnn.out, List.take_length]
        have hG2 := Lib.hid (good_again hG.out hL.out.wf hnd)
        have hS2 : Hid (Small ⟨G, N.name, N.ins, N.regs, N.outs⟩) := Lib.hid ⟨by show G.nodes.length ≤ _; rw [hnd]; exact hSm.out.g, hSm.out.ins, hSm.out.regs, hSm.out.outs⟩
        have htx := text_again (N := N) hnd
        obtain ⟨S, hSS⟩ : ∃ S, strQ (ckV rest) (textN N) = S := ⟨_, rfl⟩
        obtain ⟨cd, hcd⟩ : ∃ cd, codeQ (ckV rest) (textN N) = cd := ⟨_, rfl⟩
        have hal := Lib.hid (fun W (hW : Below w2.heap.size w2 W) => (hA.out.is.below hW).all hG.out hSm.out (hPW.out W (nextw hw2.out hW)) hA.out.b hSS hcd)
        have hal2 := Lib.hid (fun W (hW : Below w4.heap.size w4 W) => (hI5.out.below hW).all hG2.out hS2.out (hPW.out W (nextw hw2.out (nextw hB5.out hW))) rfl (S := S) (cd := cd) ((congrArg (strQ (ckV rest)) htx).trans hSS) ((congrArg (codeQ (ckV rest)) htx).trans hcd))
        have hcp := Lib.hid (fun W (hW : Below w2.heap.size w2 W) => (hA.out.step hW).copy hG.out hSm.out)
        have hal3 := Lib.hid (fun W q3 (hI : NetIs W q3 N) (hW : Below w2.heap.size w2 W) => hI.all hG.out hSm.out (hPW.out W (nextw hw2.out hW)) rfl hSS hcd)
        have hte := Lib.hid (fun W (hW : Below w2.heap.size w2 W) => tells10_any (hPW.out W (nextw hw2.out hW)))
        clear hI4 hB4 hw4 hnd htx hSS hcd x0 x2 x3 x4 z2 z3 z4 f2 f3 f4 hI hno y0 y1 hL hA5 hsn hG2 hS2 hI5 c0 c1 c2 c3 c4
        go_wp2_with (first
          | (go_at_call 7; (with_reducible refine (hal.out w4 hB5.out).mono ?_); rintro e w5 ⟨a5, n5, rfl, hv5, hb5⟩; have hv5 := Lib.hid hv5; have hB25 := Lib.hid (nextw hB5.out hb5); have hx5 := Lib.hid (hal2.out _ hb5); clear hb5)
          | (go_at_call 7; (with_reducible refine hx5.out.mono ?_); rintro e w6 ⟨a6, n6, rfl, hv6, hb6⟩; have hv56 := Lib.hid (hv5.out.step hb6); have hv6 := Lib.hid hv6; have hB26 := Lib.hid (nextw hB25.out hb6); clear hb6)
          | (go_at_call 20; (with_reducible refine (hcp.out w6 hB26.out).mono ?_); rintro e w7 ⟨q3, rfl, hI7, hb7, -⟩; have hv57 := Lib.hid (hv56.out.step hb7); have hv67 := Lib.hid (hv6.out.step hb7); have hB27 := Lib.hid (nextw hB26.out hb7); have hx7 := Lib.hid (hal3.out _ _ hI7 hB27.out); clear hb7 hI7)
          | (go_at_call 7; (with_reducible refine hx7.out.mono ?_); rintro e w8 ⟨a8, n8, rfl, hv8, hb8⟩; have r5 := (hv57.out.step hb8) w8 (Below.refl _ _); have r6 := (hv67.out.step hb8) w8 (Below.refl _ _); have r8 := hv8 w8 (Below.refl _ _); have hB28 := Lib.hid (nextw hB27.out hb8); have hx8 := Lib.hid (hte.out _ hB28.out); clear hb8)
          | (go_at_call 13; (with_reducible refine hx8.out.mono ?_); rintro e w9 ⟨rfl, hb9⟩))
        go_ret
        exact ⟨rfl, nextw (nextw hw2.out hB28.out) hb9⟩
end Go.Proofs.YtnhpjacodhdpeaaGreatDoor
end

section
namespace Go.Proofs.YtnhpjacodhdpeaaGreatDoor
open Go.ChangeShapes Go.WideShapes Go.ChangeAt Go.RowKit
set_option maxRecDepth 100000

theorem tPow : (Tryz.prog.globals[5]?).map (·.type) = some 236 := by kernel_rfl
theorem pw_of_laid {W : World} (h : laidMetH Tryz.prog laid3 W) : PW W := by
  have h2 : laidMet Tryz.prog laid3 W := by
    have e := MakeChecks.laidMetH_plain Tryz.prog laid3 W (by kernel_rfl)
    rw [e] at h; exact h
  have h3 := h2.filter (fun x => x.1 == "internal/strconv.uint64pow10")
  have e : (laid3.filter fun x => x.1 == "internal/strconv.uint64pow10") = [("internal/strconv.uint64pow10", Lib.tabData .u64 Lib.pow10Tab)] := by kernel_rfl
  rw [e] at h3
  exact Lib.tabIs_of_head gPow tPow Tryz.underlying236 Tryz.underlying49 (by kernel_rfl) (by kernel_rfl) h3
end Go.Proofs.YtnhpjacodhdpeaaGreatDoor
end

section
namespace Go.Proofs.YtnhpjacodhdpeaaGreatDoor.emitOptions
open Go.ChangeShapes Go.WideShapes Go.ChangeAt Go.RowKit Go.Joins
open Go.ChangeMaps (open_string shut_string)
set_option linter.unusedVariables false

set_option maxRecDepth 100000 in
theorem lifted (os : Os) (started : os.Started) (H : Type) (enc : TypeId × Value → H) :
    ReturnsInHanded {} Tryz.checked os 5 .any (fun w args => (Rows.emitOptionsSpec.pre enc Tryz.prog Tryz.f5 [] false w args ∧ laidMetH Tryz.prog laid3 w) ∧ sizedMet enc Tryz.prog Tryz.f5 (OpenSpec.ofChange Rows.emitOptionsSpec) false w args) (Rows.emitOptionsSpec.post enc Tryz.prog Tryz.f5 false true false false) := by
  refine returnsInHanded_of_change_and (C := Tryz.checked) (X := fun w _ => laidMetH Tryz.prog laid3 w) (fun _ _ _ hh h => h.of_heap hh) own started (by kernel_rfl) Tryz.func5
    (ChangeSpec.witness_shaped (enc := enc) (C := Tryz.checked) (os := os) (X := fun w _ => laidMetH Tryz.prog laid3 w) false (World.doorLaid Tryz.prog 4000 os) #[.agg #[.bool false, .bool false], .agg #[.bool false, .bool false], .slice none 0 0] 8 rfl (World.shaped_of_RefB (by kernel_rfl) (by kernel_rfl)) (by kernel_rfl) (by kernel_rfl) (by kernel_rfl) (door_met os _)) ?_
  intro W base args ds gs before hval0 hW _ hwt hL _
  have hval : ∀ (j : Nat) t v, Tryz.f5.params[j]? = some t → args[j]? = some v → Value.okWide Tryz.prog W .any base t v := hval0
  have hW' := hW
  obtain ⟨p, q, hA0, hV, rfl, hfz, hnd⟩ := hW
  have hA : DataW.TrodAll enc Tryz.prog W 0 (fun _ => true) true Tryz.f5.params.toList args.toList ds p := hA0
  rw [Tryz.params5] at hA hval
  obtain ⟨v0, vs0, d0, ds0, p0, q0, hargs, rfl, rfl, h0, r0⟩ := trodAll_cons hA
  obtain ⟨v1, vs1, d1, ds1, p1, q1, rfl, rfl, rfl, h1, r1⟩ := trodAll_cons r0
  obtain ⟨v2, vs2, d2, ds2, p2, q2, rfl, rfl, rfl, h2, r2⟩ := trodAll_cons r1
  obtain ⟨rfl, rfl, rfl⟩ := trodAll_nil r2
  obtain rfl : args = #[v0, v1, v2] := by cases args; simp_all
  obtain ⟨rfl, rfl⟩ := trodVars_none hV
  have k0 := h0
  have lt0 : ∀ x ∈ p0, x.block < W.heap.size := by obtain ⟨m, hm⟩ := k0; exact DataW.trod_lt m _ _ _ hm
  obtain ⟨F0, H0, rfl⟩ := options_in (hval 0 23 v0 rfl rfl) h0
  have k1 := h1
  have lt1 : ∀ x ∈ p1, x.block < W.heap.size := by obtain ⟨m, hm⟩ := k1; exact DataW.trod_lt m _ _ _ hm
  obtain ⟨F1, H1, rfl⟩ := options_in (hval 1 23 v1 rfl rfl) h1
  have k2 := h2
  have lt2 : ∀ x ∈ p2, x.block < W.heap.size := by obtain ⟨m, hm⟩ := k2; exact DataW.trod_lt m _ _ _ hm
  obtain ⟨a2, len2, cap2, rfl⟩ := okWide_slice Tryz.underlying24 (hval 2 24 v2 rfl rfl)
  obtain ⟨S2, w2⟩ := steps_in h2
  clear hA0 hval0
  refine (options_any (pw_of_laid hL) F0 H0 F1 H1 w2).mono fun e W' ⟨he, bel⟩ => ?_
  subst he
  exact ⟨_, rfl, _, _, _, [], _, [], hW', trodAll_mk1 (shut_bool Tryz.underlying4 _), (trodAll_cons_mk (Below.trod laidOut (by kernel_rfl) (of_decide_eq_true (by kernel_rfl)) k0 bel lt0) (trodAll_cons_mk (Below.trod laidOut (by kernel_rfl) (of_decide_eq_true (by kernel_rfl)) k1 bel lt1) (trodAll_cons_mk (Below.trod laidOut (by kernel_rfl) (of_decide_eq_true (by kernel_rfl)) k2 bel lt2) trodAll_mk0))), rfl, bel.frame _, fun h => by cases h⟩

theorem row_holds : Rows.EmitOptionsSaid :=
  OpenClaim.holds_of_wide 5 Tryz.f5 rfl rfl rfl rfl rfl rfl rfl ⟨rfl, rfl, rfl, rfl, rfl⟩ rfl rfl rfl rfl rfl (by kernel_rfl) Tryz.func5 (by kernel_rfl)
    (of_decide_eq_true (by kernel_rfl)) (by unfold Func.isWrapper; first | (rw [if_pos (by decide +kernel)]; kernel_rfl) | (rw [if_neg (by decide +kernel)]; exact ⟨rfl, rfl⟩))
    (fun os started H enc _ => lifted os started H enc)

set_option maxRecDepth 100000 in
theorem holds : Rows.EmitOptionsCardSaid :=
  Claim7.holds_tied_plain_at .later [] [.data, .data, .data] true Rows.emitOptionsCard.stood.harness true
    row_holds (fun _ h => by cases h) (by kernel_rfl) (fun _ h => by cases h) emitOptions_row_tie rfl ⟨rfl, rfl⟩ (by kernel_rfl) rfl
    (fun f fn hf hfn => by
      obtain rfl : f = 5 := Option.some.inj ((show Tryz.prog.funcNamed "orrery/orrerylaw10.EmitOptions" = some 5 by kernel_rfl).symm.trans hf) |>.symm
      obtain rfl : fn = Tryz.f5 := (Option.some.inj (Tryz.func5.symm.trans hfn)).symm
      exact ⟨by kernel_rfl, fun j t ht => by
        rw [Tryz.params5] at ht
        have hm : t ∈ [23, 23, 24] := by simpa using Array.mem_of_getElem? ht
        have hall : ([23, 23, 24].all fun u => !Tryz.prog.wantsStandIn u) = true := by kernel_rfl
        exact (show Tryz.prog.wantsStandIn t = false by simpa using List.all_eq_true.1 hall t hm)⟩)
    (by kernel_rfl)
#print axioms holds
end Go.Proofs.YtnhpjacodhdpeaaGreatDoor.emitOptions
end
