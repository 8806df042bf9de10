/-
  A copy of a netlist.
  A netlist that a call has made for itself; the chapter's netlist, step by step.
  The law package's own: Of, one.
  Does: a step with a netlist.
  Does: gates and buses that go out; any step.
  What a step leaves is well formed; how much it makes; what is refused.
-/
import Derived.Test.YtafoohdndlhbnaaGreatDoorFENJ
import Derived.Test.YtafoohdndlhbnaaGreatDoorFENH
section
namespace Go.Proofs.YtafoohdndlhbnaaGreatDoor
open Go.RowKit Go.Maps Bits
set_option maxRecDepth 100000

/-- Where a slice of a call's own lies. -/
def NewA (W : World) (a : Option Addr) : Prop := ∀ x, a = some x → W.heap.size ≤ x.block
theorem NewA.mono {W w : World} {a : Option Addr} (h : NewA w a) (hs : W.heap.size ≤ w.heap.size) : NewA W a := fun x hx => Nat.le_trans hs (h x hx)
theorem own_newA {W w : World} {base e size n m c : Nat} {a : Option Addr} {xs : List Value} (h : w.ownsRow base e size (.slice a m c) n xs) (hb : W.heap.size ≤ base) : NewA W a := by
  intro x hx
  have := own_ge h x.block (by rw [hx]; rfl)
  omega
def FarA (a b : Option Addr) : Prop := ∀ x y, a = some x → b = some y → x.block ≠ y.block
theorem BusRow.farA {w : World} {a b : Option Addr} {n c : Nat} {L : List Bus} (h : BusRow w (.slice a n c) L) (hb : NewA w b) : FarA a b := by
  intro x y hx hy e
  obtain ⟨cur, hc⟩ := h.type (k := x.block) (by rw [hx]; rfl)
  have := (Array.getElem?_eq_some_iff.1 hc).1
  have := hb y hy
  omega
theorem FarA.symm {a b : Option Addr} (h : FarA a b) : FarA b a := fun x y hx hy e => h y x hy hx e.symm
theorem blk_some {a : Option Addr} {n c k : Nat} (h : (Value.slice a n c).ownBlock = some k) : ∃ x, a = some x ∧ x.block = k := by
  cases a with
  | none => simp [Value.ownBlock] at h
  | some x => simp [Value.ownBlock] at h; exact ⟨x, rfl, h⟩
theorem ncopy_end {w wk : World} {N : Nt} {p2 : Pl} {a r b : Option Addr} {c d e : Nat} (hB : Below w.heap.size w wk) (hG : Is wk p2 N.g) (hGn : ∀ k, p2.has k → w.heap.size ≤ k) (hI : BusRow wk (.slice a N.ins.length c) N.ins) (hIn : NewA w a)
    (hR : RegRow wk (.slice r N.regs.length d) N.regs) (hRn : NewA w r) (hO : BusRow wk (.slice b N.outs.length e) N.outs) (hOn : NewA w b) (hap : FarA a b) :
    ∃ q : NPl, q.b = wk.heap.size ∧ NetIs (wk.alloc (.cells #[.pointer (some ⟨p2.b, 0, none⟩), .string N.name, .slice a N.ins.length c, .slice r N.regs.length d, .slice b N.outs.length e] 61)) q N ∧ ∀ k, q.has k → w.heap.size ≤ k := by
  have hb1 : ∀ o, Below wk.heap.size wk (wk.alloc o) := fun o => (Below.refl _ _).alloc (Nat.le_refl _) _
  refine ⟨⟨wk.heap.size, p2, .slice a N.ins.length c, .slice r N.regs.length d, .slice b N.outs.length e⟩, rfl, ⟨Deep.blk_alloc_new _ _, hG.below (hb1 _), hI.below (hb1 _), own_below hR (hb1 _), hO.below (hb1 _), fun k h1 h2 => ?_⟩, fun k hk => ?_⟩
  · obtain ⟨x, hx, e1⟩ := blk_some h1
    obtain ⟨y, hy, e2⟩ := blk_some h2
    exact hap x y hx hy (e1.trans e2.symm)
  · rcases hk with rfl | hk | hk | hk | hk
    · exact hB.size
    · exact hGn k hk
    · obtain ⟨x, hx, rfl⟩ := blk_some hk; exact hIn x hx
    · obtain ⟨x, hx, rfl⟩ := blk_some hk; exact hRn x hx
    · obtain ⟨x, hx, rfl⟩ := blk_some hk; exact hOn x hx

set_option maxHeartbeats 4000000 in
theorem NCopy_any {w : World} {q : NPl} {N : Nt} {rest : List Int} (h : NetIs w q N) (hg : Good N rest) (hm : N.g.nodes.length ≤ 190000) (hi : N.ins.length ≤ 10000) (hr : N.regs.length ≤ 10000) (ho : N.outs.length ≤ 10000) :
    Calls Tryz.prog 23 #[.pointer (some ⟨q.b, 0, none⟩)] w fun e w' => ∃ q2 : NPl, e = .returned (.pointer (some ⟨q2.b, 0, none⟩)) ∧ NetIs w' q2 N ∧ Below w.heap.size w w' ∧ ∀ k, q2.has k → w.heap.size ≤ k := by
  have hst := Lib.hid (nstands_any h hg.wf.pos)
  obtain ⟨ia, ic, ra, rc, oa, oc, e1, e2, e3, c0, c1, c2, c3, c4, -⟩ := h.cells
  have hlt := h.lt
  have hIr := h.ins
  rw [e1] at hIr
  have hOr := h.outs
  rw [e3] at hOr
  have hRr := h.regs
  rw [e2] at hRr
  have hKG := Lib.hid (fun wk (hb : Below w.heap.size w wk) => (CpQ (Copy_any (h.g.below hb) hg.wf (by omega)) (fun e w2 => ∃ p2 : Pl, e = .returned (.pointer (some ⟨p2.b, 0, none⟩)) ∧ Is w2 p2 N.g ∧ (∀ k, p2.has k → w.heap.size ≤ k) ∧ Below wk.heap.size wk w2) (fun _ _ ⟨p2, he, h1, h2, h3⟩ => ⟨p2, he, h1, fun k hk => Nat.le_trans hb.size (h3 k hk), h2⟩)))
  have hKI := Lib.hid (fun wk (hb : Below w.heap.size w wk) => copied_any (hIr.below hb) rfl (fun b hb => (hg.ins.wide b hb).2) hi)
  have hKO := Lib.hid (fun wk (hb : Below w.heap.size w wk) => copied_any (hOr.below hb) rfl (fun b hb => (hg.outs.wide b hb).2) ho)
  have hKR := Lib.hid (fun wk (hb : Below w.heap.size w wk) => (CpQ (clone_reg (own_below hRr hb) rfl (by omega)) (fun e w2 => ∃ (a2 : Option Addr) (c2 : Nat), e = .returned (.slice a2 N.regs.length c2) ∧ RegRow w2 (.slice a2 N.regs.length c2) N.regs ∧ NewA w a2 ∧ Below wk.heap.size wk w2) (fun _ _ ⟨a2, c2, he, h1, h2⟩ => ⟨a2, c2, he, own_base h1 (Nat.zero_le _), own_newA h1 hb.size, h2⟩)))
  have hend := Lib.hid (fun wk p2 a r b c d e (h1 : Below w.heap.size w wk) hG hGn hI hIn hR hRn hO hOn hap => ncopy_end (N := N) (p2 := p2) (a := a) (r := r) (b := b) (c := c) (d := d) (e := e) h1 hG hGn hI hIn hR hRn hO hOn hap)
  have hKeep := Lib.hid (fun (wk w2 : World) (hb : Below w.heap.size w wk) (hb2 : Below wk.heap.size wk w2) (o : Nat) (v : Value) (h : wk.cell? ⟨q.b, o, none⟩ = some v) => stepc hb2 (Nat.lt_of_lt_of_le hlt hb.size) h)
  have I : Below w.heap.size w w.drew := (Below.refl _ _).drew
  clear h hg hIr hOr hRr e1 e2 e3 hlt hm
  generalize hni : N.ins.length = ni at *
  generalize hnr : N.regs.length = nr at *
  generalize hno : N.outs.length = no at *
  generalize hnn : N.name = nm at *
  generalize q.g.b = gb at *
  clear hni hnr hno hnn
  go_enter Tryz.func23, Tryz.ntmps23
  go_upto_region 3 with (go_at_call 48; (with_reducible refine hst.out.mono ?_); rintro e w2 ⟨rfl, rfl⟩)
  clear hst
  go_region_held3 (fun w' => w'.cell? ⟨q.b, 0, none⟩ = some (.pointer (some ⟨gb, 0, none⟩)) ∧ w'.cell? ⟨q.b, 1, none⟩ = some (.string nm) ∧ w'.cell? ⟨q.b, 2, none⟩ = some (.slice ia ni ic) ∧ w'.cell? ⟨q.b, 3, none⟩ = some (.slice ra nr rc) ∧ w'.cell? ⟨q.b, 4, none⟩ = some (.slice oa no oc)) (go_keep)
    (first
      | (go_at_call 59; (with_reducible refine (hKG.out _ I).mono ?_); rintro e w2 ⟨p2, rfl, hG, hGn, hb⟩; have hG := Lib.hid hG; have hGn := Lib.hid hGn; (first | (have h1 := Lib.hid (hG.out.below hb); clear hG; have hG := h1; clear h1) | skip); (first | (have h1 := Lib.hid (hI.out.below hb); clear hI; have hI := h1; clear h1) | skip); (first | (have h1 := Lib.hid (own_below hR.out hb); clear hR; have hR := h1; clear h1) | skip); (first | (have h1 := Lib.hid (hO.out.below hb); clear hO; have hO := h1; clear h1) | skip); have q0 := hKeep.out _ _ I hb 0 _ c0; have q1 := hKeep.out _ _ I hb 1 _ c1; have q2 := hKeep.out _ _ I hb 2 _ c2; have q3 := hKeep.out _ _ I hb 3 _ c3; have q4 := hKeep.out _ _ I hb 4 _ c4; have I2 := nextw I hb; clear I hb c0 c1 c2 c3 c4; have I := I2; have c0 := q0; have c1 := q1; have c2 := q2; have c3 := q3; have c4 := q4; clear I2 q0 q1 q2 q3 q4)
      | (go_at_call 61; (with_reducible refine (hKR.out _ I).mono ?_); rintro e w2 ⟨a5, c5, rfl, hR, hRn, hb⟩; have hR := Lib.hid hR; have hRn := Lib.hid hRn; (first | (have h1 := Lib.hid (hG.out.below hb); clear hG; have hG := h1; clear h1) | skip); (first | (have h1 := Lib.hid (hI.out.below hb); clear hI; have hI := h1; clear h1) | skip); (first | (have h1 := Lib.hid (own_below hR.out hb); clear hR; have hR := h1; clear h1) | skip); (first | (have h1 := Lib.hid (hO.out.below hb); clear hO; have hO := h1; clear h1) | skip); have q0 := hKeep.out _ _ I hb 0 _ c0; have q1 := hKeep.out _ _ I hb 1 _ c1; have q2 := hKeep.out _ _ I hb 2 _ c2; have q3 := hKeep.out _ _ I hb 3 _ c3; have q4 := hKeep.out _ _ I hb 4 _ c4; have I2 := nextw I hb; clear I hb c0 c1 c2 c3 c4; have I := I2; have c0 := q0; have c1 := q1; have c2 := q2; have c3 := q3; have c4 := q4; clear I2 q0 q1 q2 q3 q4)
      | (go_at_call 60; (with_reducible refine (hKI.out _ I).mono ?_); rintro e w2 ⟨a6, c6, rfl, hI, hIn, hb⟩; (first | have hap := Lib.hid (hO.out.farA hIn).symm | skip); have hI := Lib.hid hI; have hIn := Lib.hid (NewA.mono hIn I.size); (first | (have h1 := Lib.hid (hG.out.below hb); clear hG; have hG := h1; clear h1) | skip); (first | (have h1 := Lib.hid (hI.out.below hb); clear hI; have hI := h1; clear h1) | skip); (first | (have h1 := Lib.hid (own_below hR.out hb); clear hR; have hR := h1; clear h1) | skip); (first | (have h1 := Lib.hid (hO.out.below hb); clear hO; have hO := h1; clear h1) | skip); have q0 := hKeep.out _ _ I hb 0 _ c0; have q1 := hKeep.out _ _ I hb 1 _ c1; have q2 := hKeep.out _ _ I hb 2 _ c2; have q3 := hKeep.out _ _ I hb 3 _ c3; have q4 := hKeep.out _ _ I hb 4 _ c4; have I2 := nextw I hb; clear I hb c0 c1 c2 c3 c4; have I := I2; have c0 := q0; have c1 := q1; have c2 := q2; have c3 := q3; have c4 := q4; clear I2 q0 q1 q2 q3 q4)
      | (go_at_call 60; (with_reducible refine (hKO.out _ I).mono ?_); rintro e w2 ⟨a7, c7, rfl, hO, hOn, hb⟩; (first | have hap := Lib.hid (hI.out.farA hOn) | skip); have hO := Lib.hid hO; have hOn := Lib.hid (NewA.mono hOn I.size); (first | (have h1 := Lib.hid (hG.out.below hb); clear hG; have hG := h1; clear h1) | skip); (first | (have h1 := Lib.hid (hI.out.below hb); clear hI; have hI := h1; clear h1) | skip); (first | (have h1 := Lib.hid (own_below hR.out hb); clear hR; have hR := h1; clear h1) | skip); (first | (have h1 := Lib.hid (hO.out.below hb); clear hO; have hO := h1; clear h1) | skip); have q0 := hKeep.out _ _ I hb 0 _ c0; have q1 := hKeep.out _ _ I hb 1 _ c1; have q2 := hKeep.out _ _ I hb 2 _ c2; have q3 := hKeep.out _ _ I hb 3 _ c3; have q4 := hKeep.out _ _ I hb 4 _ c4; have I2 := nextw I hb; clear I hb c0 c1 c2 c3 c4; have I := I2; have c0 := q0; have c1 := q1; have c2 := q2; have c3 := q3; have c4 := q4; clear I2 q0 q1 q2 q3 q4))
  all_goals go_wp2
  all_goals go_ret
  all_goals
    obtain ⟨q2, e1, h1, h2⟩ := hend.out _ _ _ _ _ _ _ _ I hG.out hGn.out hI.out hIn.out hR.out hRn.out hO.out hOn.out hap.out
    exact ⟨q2, by rw [e1]; rfl, h1, I.alloc I.size _, h2⟩
end Go.Proofs.YtafoohdndlhbnaaGreatDoor
end

section
namespace Go.Proofs.YtafoohdndlhbnaaGreatDoor
open Go.RowKit Go.Maps Bits
set_option maxRecDepth 100000

structure AtN (w0 : World) (B C : Nat) (w : World) (q : NPl) (N : Nt) : Prop where
  is : NetIs w q N
  b : q.b = B
  gb : q.g.b = C
  out : ∀ k, q.has k → w0.heap.size ≤ k
  below : Below w0.heap.size w0 w
theorem AtN.step {w0 w w2 : World} {B C : Nat} {q : NPl} {N : Nt} (h : AtN w0 B C w q N) (hb : Below w.heap.size w w2) : AtN w0 B C w2 q N :=
  ⟨h.is.below hb, h.b, h.gb, h.out, nextw h.below hb⟩
theorem AtN.next {w0 w w2 : World} {B C : Nat} {q q' : NPl} {N N' : Nt} (h : AtN w0 B C w q N) (hS : NStep q w q' w2 N') : AtN w0 B C w2 q' N' :=
  ⟨hS.is, hS.b.trans h.b, hS.gb.trans h.gb, fun k hk => by
    rcases hS.new k hk with h1 | h1
    · exact h.out k h1
    · exact Nat.le_trans h.below.size h1, h.below.trans (hS.kept.below h.out h.below.size)⟩
theorem AtN.cells {w0 w : World} {B C : Nat} {q : NPl} {N : Nt} (h : AtN w0 B C w q N) : w.cell? ⟨B, 0, none⟩ = some (.pointer (some ⟨C, 0, none⟩)) ∧ B < w.heap.size := by
  obtain ⟨-, -, -, -, -, -, -, -, -, c0, -⟩ := h.is.cells
  rw [h.b, h.gb] at c0
  exact ⟨c0, World.block_lt_of_cell? w _ c0⟩
theorem AtN.new (w0 : World) {w : World} (h0 : Below w0.heap.size w0 w) (F H : Bool) {s : ByteArray} (hs : mayName s = true) :
    Calls Tryz.prog 38 #[.string s, .agg #[.bool F, .bool H]] w fun e w' => ∃ (q : NPl) (B C : Nat), e = .returned (.tuple #[.pointer (some ⟨B, 0, none⟩), .int .i64 0]) ∧ AtN w0 B C w' q ⟨newG F H, s, [], [], []⟩ :=
  (New_ok F H hs w).mono fun e w' ⟨q, he, hI, hB, hout⟩ => ⟨q, q.b, q.g.b, he, hI, rfl, rfl, fun k hk => Nat.le_trans h0.size (hout k hk), nextw h0 hB⟩

abbrev sTop : ByteArray := { data := #[116, 111, 112] }
abbrev sA : ByteArray := { data := #[97] }
abbrev sX : ByteArray := { data := #[120] }
theorem top_may : mayName sTop = true := by decide
def t0 : Nt := ⟨newG false false, sTop, [], [], []⟩
def t1 : Nt := ⟨inputsN (newG false false) 2, sTop, [⟨sA, [2, 4]⟩], [], []⟩
def t2 : Nt := ⟨inputsN (newG false false) 3, sTop, [⟨sA, [2, 4]⟩], [⟨6, 0, 0, true⟩], []⟩
def t3 : Nt := { t2 with g := (gateG t2.g 2 6).1 }
def t4 : Nt := { t3 with regs := [⟨6, 8, 1, true⟩] }
def t5 : Nt := { t4 with outs := [⟨sX, [9]⟩] }
theorem t0_good : Good t0 [] := Good.new false false top_may
theorem e1 : addIn t0 sA 2 = (t1, [2, 4], 0) := by rfl
theorem e2 : addReg t1 true = (t2, 6) := by rfl
theorem e3 : gateN andG t2 2 6 = (t3, 8, 0) := by rfl
theorem e4 : setReg t3 6 8 1 = (t4, 0) := by rfl
theorem e5 : addOut t4 sX [9] = (t5, 0) := by rfl
theorem lit2 : IsLit 2 := by unfold IsLit; omega
theorem lit6 : IsLit 6 := by unfold IsLit; omega
theorem lit8 : IsLit 8 := by unfold IsLit; omega
theorem lit1 : IsLit 1 := by unfold IsLit; omega
theorem lit9 : IsLit 9 := by unfold IsLit; omega
theorem t1_good : Good t1 [] := by have := t0_good.addIn sA 2; rw [e1] at this; exact this
theorem t2_good : Good t2 [] := by have := t1_good.addReg true; rw [e2] at this; exact this
theorem t3_good : Good t3 [] := by have := (gate_good and_ok t2_good (by decide) lit2 lit6).1; rw [e3] at this; exact this
theorem t4_good : Good t4 [] := by have := t3_good.setReg 6 8 1 lit8 lit1; rw [e4] at this; exact this
theorem t5_good : Good t5 [] := by have := t4_good.addOut sX [9] (by intro x hx; simp at hx; subst hx; exact lit9); rw [e5] at this; exact this
theorem t6_good : Good { t5 with g := inputG t5.g } [10] := t5_good.input
/-- .. with a row of literals beside it. -/
structure AtL (w0 : World) (B C : Nat) (a : Option Addr) (n c : Nat) (l : List Int) (w : World) (q : NPl) (N : Nt) : Prop where
  at_ : AtN w0 B C w q N
  row : LRow w a n c l
theorem AtL.step {w0 w w2 : World} {B C : Nat} {a : Option Addr} {n c : Nat} {l : List Int} {q : NPl} {N : Nt} (h : AtL w0 B C a n c l w q N) (hb : Below w.heap.size w w2) : AtL w0 B C a n c l w2 q N := ⟨h.at_.step hb, h.row.below hb⟩
theorem AtL.next {w0 w w2 : World} {B C : Nat} {a : Option Addr} {n c : Nat} {l : List Int} {q q' : NPl} {N N' : Nt} (h : AtL w0 B C a n c l w q N) (hS : NStep q w q' w2 N') : AtL w0 B C a n c l w2 q' N' := ⟨h.at_.next hS, h.row.keptF hS.kept h.at_.is.noLits⟩
theorem AtN.addIn {w0 w : World} {B C : Nat} {q : NPl} {N N' : Nt} {l : List Int} {k : Int} {s : ByteArray} (h : AtN w0 B C w q N) (hW : Wf N.g) (hm : N.g.nodes.length ≤ 190000) (ho : N.ins.length ≤ 10000) (e : addIn N s k = (N', l, 0)) :
    Calls Tryz.prog 67 #[.pointer (some ⟨B, 0, none⟩), .string s, .int .i64 k] w fun e w' => ∃ (a : Option Addr) (c : Nat) (q' : NPl), e = .returned (.tuple #[.slice a l.length c, .int .i64 0]) ∧ AtL w0 B C a l.length c l w' q' N' := by
  have := AddIn_any h.is hW hm ho s k
  rw [e, h.b] at this
  exact this.mono fun _ w' ⟨a, c, he, hl, q', hS⟩ => ⟨a, c, q', he, h.next hS, hl⟩
theorem AtL.addReg {w0 w : World} {B C : Nat} {a : Option Addr} {n c : Nat} {l : List Int} {q : NPl} {N N' : Nt} {x : Int} {i : Bool} (h : AtL w0 B C a n c l w q N) (hW : Wf N.g) (hm : N.g.nodes.length ≤ 190000) (hr : N.regs.length ≤ 10000) (e : addReg N i = (N', x)) :
    Calls Tryz.prog 74 #[.pointer (some ⟨B, 0, none⟩), .bool i] w fun e w' => ∃ q' : NPl, e = .returned (.tuple #[.int .u32 x, .int .i64 0]) ∧ AtL w0 B C a n c l w' q' N' := by
  have := AddReg_any h.at_.is hW hm hr i
  rw [e, h.at_.b] at this
  have hx : 2 * (N.g.nodes.length : Int) = x := by have := congrArg Prod.snd e; exact this
  rw [hx] at this
  exact this.mono fun _ w' ⟨he, q', hS⟩ => ⟨q', he, h.next hS⟩
theorem AtL.and {w0 w : World} {B C : Nat} {a : Option Addr} {n c : Nat} {l : List Int} {q : NPl} {N N' : Nt} {x y z : Int} (h : AtL w0 B C a n c l w q N) {rest : List Int} (hg : Good N rest) (hm : N.g.nodes.length ≤ 190000) (hx : IsLit x) (hy : IsLit y) (e : gateN andG N x y = (N', z, 0)) :
    Calls Tryz.prog 69 #[.pointer (some ⟨C, 0, none⟩), .slice (some ⟨w.heap.size, 0, none⟩) 2 2] (w.alloc (.cells #[.int .u32 x, .int .u32 y] 66)) fun e w' => ∃ q' : NPl, e = .returned (.tuple #[.int .u32 z, .int .i64 0]) ∧ AtL w0 B C a n c l w' q' N' := by
  have hb : Below w.heap.size w (w.alloc (.cells #[.int .u32 x, .int .u32 y] 66)) := (Below.refl _ _).alloc (Nat.le_refl _) _
  have h1 := h.step hb
  have := gate_any' And_any And_no and_ok h1.at_.is hg hm (row2 w x y 66) hx hy (fun u hu hp => by cases hu; have := h.at_.is.g.has_lt (k := w.heap.size) hp; omega)
  rw [e, h.at_.gb] at this
  exact this.mono fun _ w' ⟨he, q', hS⟩ => ⟨q', he, h1.next hS⟩
theorem AtL.setReg {w0 w : World} {B C : Nat} {a : Option Addr} {n c : Nat} {l : List Int} {q : NPl} {N N' : Nt} {x d en r : Int} (h : AtL w0 B C a n c l w q N) (hW : Wf N.g) (hd : IsLit d) (hen : IsLit en) (e : setReg N x d en = (N', r)) :
    Calls Tryz.prog 75 #[.pointer (some ⟨B, 0, none⟩), .int .u32 x, .int .u32 d, .int .u32 en] w fun e w' => ∃ q' : NPl, e = .returned (.int .i64 r) ∧ AtL w0 B C a n c l w' q' N' := by
  have := SetReg_any h.at_.is hW x d en hd hen
  rw [e, h.at_.b] at this
  exact this.mono fun _ w' ⟨he, q', hS⟩ => ⟨q', he, h.next hS⟩
theorem AtL.addOut1 {w0 w : World} {B C : Nat} {a : Option Addr} {n c : Nat} {l : List Int} {q : NPl} {N N' : Nt} {x r : Int} {s : ByteArray} (h : AtL w0 B C a n c l w q N) (hW : Wf N.g) (ho : N.outs.length ≤ 10000) (hx : IsLit x) (e : addOut N s [x] = (N', r)) :
    Calls Tryz.prog 76 #[.pointer (some ⟨B, 0, none⟩), .string s, .slice (some ⟨w.heap.size, 0, none⟩) 1 1] (w.alloc (.cells #[.int .u32 x] 66)) fun e w' => ∃ q' : NPl, e = .returned (.int .i64 r) ∧ AtL w0 B C a n c l w' q' N' := by
  have hb : Below w.heap.size w (w.alloc (.cells #[.int .u32 x] 66)) := (Below.refl _ _).alloc (Nat.le_refl _) _
  have h1 := h.step hb
  have := AddOut_any h1.at_.is hW ho s (c := 1) (row1 w x 66) (by intro y hy; simp at hy; subst hy; exact hx)
  rw [e, h.at_.b] at this
  exact this.mono fun _ w' ⟨he, q', hS⟩ => ⟨q', he, h1.next hS⟩
theorem AtN.check {w0 w : World} {B C : Nat} {q : NPl} {N : Nt} (h : AtN w0 B C w q N) {rest : List Int} (hg : Good N rest) (hS : Small N) {v : Int} (hv : ckV rest = v) :
    Calls Tryz.prog 17 #[.pointer (some ⟨B, 0, none⟩)] w fun e w' => e = .returned (.int .i64 v) ∧ Below w.heap.size w w' := by
  have := Check_any h.is hg (by have := hS.g; omega) (by have := hS.ins; omega) (by have := hS.regs; omega) (by have := hS.outs; omega)
  rw [h.b, hv] at this
  exact this
theorem AtL.input {w0 w : World} {B C : Nat} {a : Option Addr} {n c : Nat} {l : List Int} {q : NPl} {N N' : Nt} {x : Int} (h : AtL w0 B C a n c l w q N) (hW : Wf N.g) (hm : N.g.nodes.length ≤ 190000) (hx : 2 * (N.g.nodes.length : Int) = x) (hN : { N with g := inputG N.g } = N') :
    Calls Tryz.prog 104 #[.pointer (some ⟨C, 0, none⟩)] w fun e w' => ∃ q' : NPl, e = .returned (.tuple #[.int .u32 x, .int .i64 0]) ∧ AtL w0 B C a n c l w' q' N' := by
  have := Input_any h.at_.is.g hW (by omega)
  rw [show q.g.b = C from h.at_.gb, hx] at this
  subst hN
  exact this.mono fun _ w' ⟨he, p', hS⟩ => ⟨_, he, h.next (h.at_.is.grow hS)⟩
theorem small_t {N : Nt} (h : decide (N.g.nodes.length ≤ 180000) && (decide (N.ins.length ≤ 9000) && (decide (N.regs.length ≤ 9000) && decide (N.outs.length ≤ 9000))) = true) : Small N := by
  simp at h; exact ⟨h.1, h.2.1, h.2.2.1, h.2.2.2⟩

end Go.Proofs.YtafoohdndlhbnaaGreatDoor
end

section
namespace Go.Proofs.YtafoohdndlhbnaaGreatDoor
open Go.RowKit Go.Maps Bits
set_option maxRecDepth 100000

theorem one_any (x e : Int) (w : World) :
    Calls Tryz.prog 102 #[.int .u32 x, .int .i64 e] w fun e' w' => ∃ g : Nat, e' = .returned (.tuple #[.slice (some ⟨g, 0, none⟩) 1 1, .int .i64 e]) ∧ LRow w' (some ⟨g, 0, none⟩) 1 1 [x] ∧ Below w.heap.size w w' := by
  go_enter Tryz.func102, Tryz.ntmps102
  go_wp2
  go_ret2
  have hb : Below w.heap.size w (w.alloc (.cells #[.int .u32 x] 66)) := (Below.refl _ _).alloc (Nat.le_refl _) _
  exact ⟨w.heap.size, rfl, ⟨rfl, rfl, .inr ⟨w.heap.size, 1, #[.int .u32 x], rfl, Nat.zero_le _, Deep.blk_alloc_new _ _, Nat.le_refl _, by decide, rfl, rfl⟩⟩, hb⟩
set_option maxHeartbeats 2000000 in
theorem Of_any {w : World} {a : Option Addr} {n c : Nat} {l : List Int} (hs : Row .u32 w a n l) :
    Calls Tryz.prog 103 #[.slice a n c] w fun e w' => ∃ (a2 : Option Addr) (c2 : Nat), e = .returned (.slice a2 (min n 70) c2) ∧ LRow w' a2 (min n 70) c2 (l.take 70) ∧ Below w.heap.size w w' := by
  have HS := Lib.hid hs
  have hlen := hs.len
  obtain ⟨i0, hi, hz0, hz1, hz2⟩ := info_parts info_lit
  have hsu := Lib.hid (fun j (hj : j < n) => (show (l.take (j + 1)).map (Value.int .u32) = (l.take j).map (Value.int .u32) ++ [.int .u32 (l.getD j 0)] by rw [List.take_add_one, List.map_append]; simp [List.getD, show j < l.length by omega]))
  have h0 : Hid ((l.take 0).map (Value.int .u32) = []) := Lib.hid (by simp)
  have hful : Hid (l.take (min n 70) = l.take 70) := Lib.hid (by
    by_cases h : n ≤ 70
    · rw [show min n 70 = n by omega, List.take_of_length_le (by omega), List.take_of_length_le (by omega)]
    · rw [show min n 70 = 70 by omega])
  have hlt70 : Hid ((l.take 70).length = min n 70) := Lib.hid (by rw [List.length_take]; omega)
  have hle := hs.le
  clear hs
  go_enter Tryz.func103, Tryz.ntmps103
  go_wp2
  go_loopw [3, 4] (fun v s wr => ∃ j : Nat, j ≤ min n 70 ∧ s = .int .i64 j ∧ Hid (wr.ownsRow w.heap.size 66 1 v j ((l.take j).map (Value.int .u32))) ∧ Hid (Below w.heap.size w wr)) (fun _ s _ => min n 70 - (intOf s).toNat)
  case atStart => exact ⟨0, Nat.zero_le _, rfl, Lib.hid (by rw [h0.out]; exact own_nil _ _ _), Lib.hid (Below.refl _ _)⟩
  case round =>
    obtain ⟨j, hj, rfl, ho, hB⟩ := hrel
    obtain ⟨va, vc, rfl⟩ := own_slice ho.out
    by_cases hlt : j < min n 70
    · have hjn : j < n := by omega
      have hj4 : j < 70 := by omega
      obtain ⟨b, off, rfl, hb, hcell⟩ := HS.out.at (by omega)
      have hcj := stepc hB.out hb (hcell j hjn)
      have hsj := Lib.hid (hsu.out j hjn)
      have hsz := hB.out.size
      generalize l.getD j 0 = x at *
      clear hcell
      go_wp2_with (at_builtin; refine wpList_append_lies _ rfl _ _ 54 rfl w.heap.size 66 i0 (.int .u32 0) 1 4 Tryz.underlying54 hi hz0 hz1 hz2 rfl (by decide) (.slice va j vc) j _ rfl (ho.out.alloc _) ⟨wr.heap.size, 0, none⟩ 1 1 [.int .u32 _] rfl rfl (news1 _ _ _) (by simp [Value.oneCell']) (by decide) (by unfold maxLen; omega) (by omega) (by simp; omega) _ rfl ?_; intro g cap1 w7 hown1 hgrow1 hat1 hlt1)
      exact ⟨⟨j + 1, by omega, by go_num, Lib.hid (by rw [hsj.out]; exact hown1), Lib.hid ((hB.out.alloc hsz _).grown hgrow1 (by simp; omega) (fun k hk => own_ge ho.out k hk))⟩, by simp [intOf]; omega⟩
    · obtain rfl : j = min n 70 := by omega
      rw [hful.out] at ho
      by_cases h6 : n ≤ 70
      · have hmn : min n 70 = n := by omega
        rw [hmn] at ho hlt70 ⊢
        go_wp2
        go_ret
        exact ⟨va, vc, by rw [hmn]; rfl, by rw [hmn]; exact ⟨hlt70.out, own_base ho.out (Nat.zero_le _)⟩, hB.out⟩
      · have hmn : min n 70 = 70 := by omega
        rw [hmn] at ho hlt70 ⊢
        have hn4 : 70 < n := by omega
        go_wp2
        go_ret
        exact ⟨va, vc, by rw [hmn]; rfl, by rw [hmn]; exact ⟨hlt70.out, own_base ho.out (Nat.zero_le _)⟩, hB.out⟩
end Go.Proofs.YtafoohdndlhbnaaGreatDoor
end

section
namespace Go.Proofs.YtafoohdndlhbnaaGreatDoor
open Go.RowKit Go.Maps Bits
set_option maxRecDepth 100000

/-- A step, as a call reads it. -/
structure StV where
  what : Int
  name : ByteArray
  n : Int
  a : Int
  b : Int
  c : Int
  la : Option Addr
  ln : Nat
  lc : Nat
  zs : List Int
def stVal (s : StV) : Value := .agg #[.int .i64 s.what, .string s.name, .int .i64 s.n, .int .u32 s.a, .int .u32 s.b, .int .u32 s.c, .slice s.la s.ln s.lc]
structure StOk (w : World) (s : StV) : Prop where
  row : Row .u32 w s.la s.ln s.zs
  a : IsLit s.a
  b : IsLit s.b
  c : IsLit s.c
  lits : ∀ x ∈ s.zs, IsLit x
  cap : s.ln ≤ s.lc
theorem StOk.step {w w' : World} {s : StV} (h : StOk w s) (hb : Below w.heap.size w w') : StOk w' s := ⟨h.row.step hb, h.a, h.b, h.c, h.lits, h.cap⟩
/-- What a step makes of a netlist. -/
def doesN (N : Nt) (s : StV) : Nt × List Int × Int :=
  if s.what = 0 then addIn N s.name s.n
  else if s.what = 1 then ((addReg N (s.n.tmod 2 != 0)).1, [(addReg N (s.n.tmod 2 != 0)).2], 0)
  else if s.what = 2 then ((setReg N s.a s.b s.c).1, [], (setReg N s.a s.b s.c).2)
  else if s.what = 3 then ((addOut N s.name (s.zs.take 70)).1, [], (addOut N s.name (s.zs.take 70)).2)
  else if s.what = 4 ∨ s.what = 5 ∨ s.what = 6 then ((gateN andG N s.b s.c).1, [(gateN andG N s.b s.c).2.1], (gateN andG N s.b s.c).2.2)
  else if s.what = 7 then ((gateN xorG N s.b s.c).1, [(gateN xorG N s.b s.c).2.1], (gateN xorG N s.b s.c).2.2)
  else if s.what = 8 then ({ N with g := inputG N.g }, [2 * (N.g.nodes.length : Int)], 0)
  else (N, [], 0)
def DoesQ (q : NPl) (w : World) (r : Nt × List Int × Int) (e : Ending) (w' : World) : Prop :=
  ∃ (a2 : Option Addr) (c2 : Nat), e = .returned (.tuple #[.slice a2 r.2.1.length c2, .int .i64 r.2.2]) ∧ LRow w' a2 r.2.1.length c2 r.2.1 ∧ ∃ q', NStep q w q' w' r.1
theorem nilRow (w : World) : LRow w none 0 0 [] := ⟨rfl, own_nil _ _ _⟩

def Does_call (P : StV → Prop) : Prop := ∀ (w : World) (q : NPl) (N : Nt) (rest : List Int) (s : StV), NetIs w q N → Good N rest → Small N → StOk w s → P s →
    Calls Tryz.prog 40 #[.pointer (some ⟨q.b, 0, none⟩), stVal s] w (DoesQ q w (doesN N s))

theorem does_0 : Does_call (fun s => s.what = 0) := by
  intro w q N rest s h hg hS hs hw
  obtain ⟨K, nm, n, a, b, c, la, ln, lc, zs⟩ := s
  obtain rfl : K = 0 := hw
  have hb1 : Below w.heap.size w (w.alloc (.cells #[.int .i64 0, .string nm, .int .i64 n, .int .u32 a, .int .u32 b, .int .u32 c, .slice la ln lc] 102)) := (Below.refl _ _).alloc (Nat.le_refl _) _
  have hc := Lib.hid (AddIn_any (h.below hb1) hg.wf (by have := hS.g; omega) (by have := hS.ins; omega) nm n)
  have hf := Lib.hid (fun q' w2 N2 (hn : NStep q (w.alloc (.cells #[.int .i64 0, .string nm, .int .i64 n, .int .u32 a, .int .u32 b, .int .u32 c, .slice la ln lc] 102)) q' w2 N2) => NStep.front h hb1 hn)
  rw [show doesN N ⟨0, nm, n, a, b, c, la, ln, lc, zs⟩ = addIn N nm n from rfl]
  unfold stVal DoesQ
  simp only []
  generalize addIn N nm n = r at *
  clear h hg hS hs
  go_enter Tryz.func40, Tryz.ntmps40
  go_wp2_with (go_at_call 67; (with_reducible refine hc.out.mono ?_); rintro e w2 ⟨a2, c2, rfl, hl, q', hn⟩)
  go_ret2
  exact ⟨a2, c2, rfl, hl, q', hf.out _ _ _ hn⟩
theorem does_1 : Does_call (fun s => s.what = 1) := by
  intro w q N rest s h hg hS hs hw
  obtain ⟨K, nm, n, a, b, c, la, ln, lc, zs⟩ := s
  obtain rfl : K = 1 := hw
  have hb1 : Below w.heap.size w (w.alloc (.cells #[.int .i64 1, .string nm, .int .i64 n, .int .u32 a, .int .u32 b, .int .u32 c, .slice la ln lc] 102)) := (Below.refl _ _).alloc (Nat.le_refl _) _
  have h1 := h.below hb1
  have hsg := hS.g
  have hsi := hS.ins
  have hsr := hS.regs
  have hso := hS.outs
  have hf := Lib.hid (fun q' w2 N2 (hn : NStep q (w.alloc (.cells #[.int .i64 1, .string nm, .int .i64 n, .int .u32 a, .int .u32 b, .int .u32 c, .slice la ln lc] 102)) q' w2 N2) => NStep.front h hb1 hn)
  unfold stVal DoesQ
  have hc := Lib.hid (fun i => AddReg_any h1 hg.wf (by omega) (by omega) i)
  have hone := Lib.hid (fun x e w => one_any x e w)
  rw [show doesN N ⟨1, nm, n, a, b, c, la, ln, lc, zs⟩ = ((addReg N (n.tmod 2 != 0)).1, [(addReg N (n.tmod 2 != 0)).2], 0) from rfl]
  simp only []
  rw [show (addReg N (n.tmod 2 != 0)).2 = 2 * (N.g.nodes.length : Int) from rfl]
  generalize 2 * (N.g.nodes.length : Int) = x at *
  clear h h1 hg hS hs hb1
  go_enter Tryz.func40, Tryz.ntmps40
  go_wp2_with (first
    | (go_at_call 74; (with_reducible refine (hc.out _).mono ?_); rintro e w2 ⟨rfl, q', hn⟩)
    | (go_at_call 102; (with_reducible refine (hone.out _ _ _).mono ?_); rintro e w3 ⟨g, rfl, hl, hb3⟩))
  go_ret2
  exact ⟨_, _, rfl, hl, q', hf.out _ _ _ (hn.then hb3)⟩
theorem does_2 : Does_call (fun s => s.what = 2) := by
  intro w q N rest s h hg hS hs hw
  obtain ⟨K, nm, n, a, b, c, la, ln, lc, zs⟩ := s
  obtain rfl : K = 2 := hw
  have hb1 : Below w.heap.size w (w.alloc (.cells #[.int .i64 2, .string nm, .int .i64 n, .int .u32 a, .int .u32 b, .int .u32 c, .slice la ln lc] 102)) := (Below.refl _ _).alloc (Nat.le_refl _) _
  have h1 := h.below hb1
  have hsg := hS.g
  have hsi := hS.ins
  have hsr := hS.regs
  have hso := hS.outs
  have hf := Lib.hid (fun q' w2 N2 (hn : NStep q (w.alloc (.cells #[.int .i64 2, .string nm, .int .i64 n, .int .u32 a, .int .u32 b, .int .u32 c, .slice la ln lc] 102)) q' w2 N2) => NStep.front h hb1 hn)
  unfold stVal DoesQ
  have hc := Lib.hid (SetReg_any h1 hg.wf a b c hs.b hs.c)
  rw [show doesN N ⟨2, nm, n, a, b, c, la, ln, lc, zs⟩ = ((setReg N a b c).1, [], (setReg N a b c).2) from rfl]
  simp only []
  generalize setReg N a b c = r at *
  clear h h1 hg hS hs hb1
  go_enter Tryz.func40, Tryz.ntmps40
  go_wp2_with (go_at_call 75; (with_reducible refine hc.out.mono ?_); rintro e w2 ⟨rfl, q', hn⟩)
  go_ret2
  exact ⟨none, 0, rfl, nilRow _, q', hf.out _ _ _ hn⟩
theorem does_8 : Does_call (fun s => s.what = 8) := by
  intro w q N rest s h hg hS hs hw
  obtain ⟨K, nm, n, a, b, c, la, ln, lc, zs⟩ := s
  obtain rfl : K = 8 := hw
  have hb1 : Below w.heap.size w (w.alloc (.cells #[.int .i64 8, .string nm, .int .i64 n, .int .u32 a, .int .u32 b, .int .u32 c, .slice la ln lc] 102)) := (Below.refl _ _).alloc (Nat.le_refl _) _
  have h1 := h.below hb1
  have hsg := hS.g
  have hsi := hS.ins
  have hsr := hS.regs
  have hso := hS.outs
  have hf := Lib.hid (fun q' w2 N2 (hn : NStep q (w.alloc (.cells #[.int .i64 8, .string nm, .int .i64 n, .int .u32 a, .int .u32 b, .int .u32 c, .slice la ln lc] 102)) q' w2 N2) => NStep.front h hb1 hn)
  unfold stVal DoesQ
  have hc := Lib.hid (Input_any h1.g hg.wf (by omega))
  have hgr := Lib.hid (fun p' w2 (hs : Step q.g _ p' w2 (inputG N.g)) => h1.grow hs)
  obtain ⟨-, -, -, -, -, -, -, -, -, c0, -⟩ := h1.cells
  have hone := Lib.hid (fun x e w => one_any x e w)
  rw [show doesN N ⟨8, nm, n, a, b, c, la, ln, lc, zs⟩ = ({ N with g := inputG N.g }, [2 * (N.g.nodes.length : Int)], 0) from rfl]
  simp only []
  generalize 2 * (N.g.nodes.length : Int) = x at *
  clear h h1 hg hS hs hb1
  go_enter Tryz.func40, Tryz.ntmps40
  go_wp2_with (first
    | (go_at_call 104; (with_reducible refine hc.out.mono ?_); rintro e w2 ⟨rfl, p', hn⟩)
    | (go_at_call 102; (with_reducible refine (hone.out _ _ _).mono ?_); rintro e w3 ⟨g, rfl, hl, hb3⟩))
  go_ret2
  exact ⟨_, _, rfl, hl, _, hf.out _ _ _ ((hgr.out _ _ hn).then hb3)⟩
theorem does_n : Does_call (fun s => s.what ≠ 0 ∧ s.what ≠ 1 ∧ s.what ≠ 2 ∧ s.what ≠ 3 ∧ s.what ≠ 4 ∧ s.what ≠ 5 ∧ s.what ≠ 6 ∧ s.what ≠ 7 ∧ s.what ≠ 8) := by
  intro w q N rest s h hg hS hs hw
  obtain ⟨K, nm, n, a, b, c, la, ln, lc, zs⟩ := s
  obtain ⟨k0, k1, k2, k3, k4, k5, k6, k7, k8⟩ := hw
  simp only [] at k0 k1 k2 k3 k4 k5 k6 k7 k8
  have hb1 : Below w.heap.size w (w.alloc (.cells #[.int .i64 K, .string nm, .int .i64 n, .int .u32 a, .int .u32 b, .int .u32 c, .slice la ln lc] 102)) := (Below.refl _ _).alloc (Nat.le_refl _) _
  have hf := Lib.hid (NStep.of_below h hb1)
  rw [show doesN N ⟨K, nm, n, a, b, c, la, ln, lc, zs⟩ = (N, [], 0) by unfold doesN; simp [k0, k1, k2, k3, k4, k5, k6, k7, k8]]
  unfold stVal DoesQ
  simp only []
  have g0 := beqf k0
  have g1 := beqf k1
  have g2 := beqf k2
  have g3 := beqf k3
  have g4 := beqf k4
  have g5 := beqf k5
  have g6 := beqf k6
  have g7 := beqf k7
  have g8 := beqf k8
  clear h hg hS hs hb1
  go_enter Tryz.func40, Tryz.ntmps40
  go_wp2
  go_ret2
  exact ⟨none, 0, rfl, nilRow _, q, hf.out⟩
end Go.Proofs.YtafoohdndlhbnaaGreatDoor
end

section
namespace Go.Proofs.YtafoohdndlhbnaaGreatDoor
open Go.RowKit Go.Maps Bits
set_option maxRecDepth 100000

theorem does_keep {wA w2 : World} {q q' : NPl} {N N' : Nt} {B : Nat} {cs : Array Value} {fz : Nat × Nat} {x y : Value} (h : NetIs wA q N) (hB : wA.heap[B]? = some (.cells cs 102 fz)) (c4 : wA.cell? ⟨B, 4, none⟩ = some x) (c5 : wA.cell? ⟨B, 5, none⟩ = some y) (hn : NStep q wA q' w2 N') :
    w2.cell? ⟨q.b, 0, none⟩ = some (.pointer (some ⟨q.g.b, 0, none⟩)) ∧ w2.cell? ⟨B, 4, none⟩ = some x ∧ w2.cell? ⟨B, 5, none⟩ = some y := by
  obtain ⟨-, -, -, -, -, -, -, -, -, c0, -⟩ := hn.is.cells
  rw [hn.b, hn.gb] at c0
  have hk := hn.kept.block B (Array.getElem?_eq_some_iff.1 hB).1 (fun hp => h.other hB (by decide) (by decide) (by decide) (by decide) (by decide) (by decide) hp)
  refine ⟨c0, ?_, ?_⟩
  · rw [← c4]; simp only [World.cell?, hk]
  · rw [← c5]; simp only [World.cell?, hk]
set_option maxHeartbeats 2000000 in
theorem does_4 : Does_call (fun s => s.what = 4) := by
  intro w q N rest s h hg hS hs hw
  obtain ⟨K, nm, n, a, b, c, la, ln, lc, zs⟩ := s
  obtain rfl : K = 4 := hw
  have hb1 : Below w.heap.size w (w.alloc (.cells #[.int .i64 4, .string nm, .int .i64 n, .int .u32 a, .int .u32 b, .int .u32 c, .slice la ln lc] 102)) := (Below.refl _ _).alloc (Nat.le_refl _) _
  have h1 := h.below hb1
  have hsg := hS.g
  have hsi := hS.ins
  have hsr := hS.regs
  have hso := hS.outs
  have hf := Lib.hid (fun q' w2 N2 (hn : NStep q (w.alloc (.cells #[.int .i64 4, .string nm, .int .i64 n, .int .u32 a, .int .u32 b, .int .u32 c, .slice la ln lc] 102)) q' w2 N2) => NStep.front h hb1 hn)
  unfold stVal DoesQ
  have hsa : IsLit b := hs.b
  have hsb : IsLit c := hs.c
  obtain ⟨-, -, -, -, -, -, -, -, -, c0, -⟩ := h1.cells
  have hlt := h1.lt
  have k0 : (w.alloc (.cells #[.int .i64 4, .string nm, .int .i64 n, .int .u32 a, .int .u32 b, .int .u32 c, .slice la ln lc] 102)).cell? ⟨w.heap.size, 0, none⟩ = some (.int .i64 4) := by simp [go_sem]
  have k4 : (w.alloc (.cells #[.int .i64 4, .string nm, .int .i64 n, .int .u32 a, .int .u32 b, .int .u32 c, .slice la ln lc] 102)).cell? ⟨w.heap.size, 4, none⟩ = some (.int .u32 b) := by simp [go_sem]
  have k5 : (w.alloc (.cells #[.int .i64 4, .string nm, .int .i64 n, .int .u32 a, .int .u32 b, .int .u32 c, .slice la ln lc] 102)).cell? ⟨w.heap.size, 5, none⟩ = some (.int .u32 c) := by simp [go_sem]
  rw [show doesN N ⟨4, nm, n, a, b, c, la, ln, lc, zs⟩ = ((gateN andG N b c).1, [(gateN andG N b c).2.1], (gateN andG N b c).2.2) from rfl]
  simp only []
  generalize hw1 : w.alloc (.cells #[.int .i64 4, .string nm, .int .i64 n, .int .u32 a, .int .u32 b, .int .u32 c, .slice la ln lc] 102) = w1 at *
  have hba : Below w1.heap.size w1 (w1.alloc (.cells #[.int .u32 b, .int .u32 c] 66)).drew := ((Below.refl w1.heap.size w1).alloc (Nat.le_refl _) _).drew
  have hc := Lib.hid (gate_any' And_any And_no and_ok (h1.below hba) hg (by omega) ((row2 w1 b c 66).step ((Below.refl _ _).drew)) hsa hsb (fun x hx hp => by cases hx; have := h1.g.has_lt (k := w1.heap.size) hp; omega))
  have hone := Lib.hid (fun x e w => one_any x e w)
  have hF := Lib.hid (fun q' w2 N2 (hn : NStep q (w1.alloc (.cells #[.int .u32 b, .int .u32 c] 66)).drew q' w2 N2) => hf.out q' w2 N2 (NStep.front h1 hba hn))
  have hbz : (w.heap.size : Nat) < w1.heap.size := World.block_lt_of_cell? w1 _ k4
  obtain ⟨sc, hsc⟩ : ∃ sc, w1.heap[w.heap.size]? = some (.cells sc 102 (0, 0)) := ⟨_, by rw [← hw1]; exact Deep.blk_alloc_new _ _⟩
  have hKK := Lib.hid (fun q' w2 (hn : NStep q (w1.alloc (.cells #[.int .u32 b, .int .u32 c] 66)).drew q' w2 (gateN andG N b c).1) => does_keep (h1.below hba) (hba.block _ hbz |>.trans hsc) (stepc hba hbz k4) (stepc hba hbz k5) hn)
  generalize (gateN andG N b c).1 = rN at *
  generalize (gateN andG N b c).2.1 = rx at *
  generalize (gateN andG N b c).2.2 = re at *
  have hba := Lib.hid hba
  clear h h1 hg hS hs hb1 hsa hsb hsc hbz
  go_enter Tryz.func40, Tryz.ntmps40
  go_upto_region 14 with fail
  go_region_held3 (fun w' => w'.cell? ⟨q.b, 0, none⟩ = some (.pointer (some ⟨q.g.b, 0, none⟩)) ∧ w'.cell? ⟨w.heap.size, 4, none⟩ = some (.int .u32 b) ∧ w'.cell? ⟨w.heap.size, 5, none⟩ = some (.int .u32 c)) (go_keep) (first
    | (go_at_call 69; (with_reducible refine hc.out.mono ?_); rintro e w5 ⟨rfl, q', hn⟩; obtain ⟨m0, m4, m5⟩ := hKK.out _ _ hn; have hn := Lib.hid hn)
    | (go_at_call 102; (with_reducible refine (hone.out _ _ _).mono ?_); rintro e w6 ⟨g, rfl, hl, hb6⟩; have n0 := stepc hb6 (World.block_lt_of_cell? w5 _ m0) m0; have n4 := stepc hb6 (World.block_lt_of_cell? w5 _ m4) m4; have n5 := stepc hb6 (World.block_lt_of_cell? w5 _ m5) m5; have hl := Lib.hid hl; have hb6 := Lib.hid hb6))
  all_goals go_wp2
  all_goals go_ret2
  all_goals exact ⟨_, _, rfl, hl.out, q', hF.out _ _ _ (hn.out.then hb6.out)⟩
set_option maxHeartbeats 2000000 in
theorem does_5 : Does_call (fun s => s.what = 5) := by
  intro w q N rest s h hg hS hs hw
  obtain ⟨K, nm, n, a, b, c, la, ln, lc, zs⟩ := s
  obtain rfl : K = 5 := hw
  have hb1 : Below w.heap.size w (w.alloc (.cells #[.int .i64 5, .string nm, .int .i64 n, .int .u32 a, .int .u32 b, .int .u32 c, .slice la ln lc] 102)) := (Below.refl _ _).alloc (Nat.le_refl _) _
  have h1 := h.below hb1
  have hsg := hS.g
  have hsi := hS.ins
  have hsr := hS.regs
  have hso := hS.outs
  have hf := Lib.hid (fun q' w2 N2 (hn : NStep q (w.alloc (.cells #[.int .i64 5, .string nm, .int .i64 n, .int .u32 a, .int .u32 b, .int .u32 c, .slice la ln lc] 102)) q' w2 N2) => NStep.front h hb1 hn)
  unfold stVal DoesQ
  have hsa : IsLit b := hs.b
  have hsb : IsLit c := hs.c
  obtain ⟨-, -, -, -, -, -, -, -, -, c0, -⟩ := h1.cells
  have hlt := h1.lt
  have k0 : (w.alloc (.cells #[.int .i64 5, .string nm, .int .i64 n, .int .u32 a, .int .u32 b, .int .u32 c, .slice la ln lc] 102)).cell? ⟨w.heap.size, 0, none⟩ = some (.int .i64 5) := by simp [go_sem]
  have k4 : (w.alloc (.cells #[.int .i64 5, .string nm, .int .i64 n, .int .u32 a, .int .u32 b, .int .u32 c, .slice la ln lc] 102)).cell? ⟨w.heap.size, 4, none⟩ = some (.int .u32 b) := by simp [go_sem]
  have k5 : (w.alloc (.cells #[.int .i64 5, .string nm, .int .i64 n, .int .u32 a, .int .u32 b, .int .u32 c, .slice la ln lc] 102)).cell? ⟨w.heap.size, 5, none⟩ = some (.int .u32 c) := by simp [go_sem]
  rw [show doesN N ⟨5, nm, n, a, b, c, la, ln, lc, zs⟩ = ((gateN andG N b c).1, [(gateN andG N b c).2.1], (gateN andG N b c).2.2) from rfl]
  simp only []
  generalize hw1 : w.alloc (.cells #[.int .i64 5, .string nm, .int .i64 n, .int .u32 a, .int .u32 b, .int .u32 c, .slice la ln lc] 102) = w1 at *
  have hba : Below w1.heap.size w1 (w1.alloc (.cells #[.int .u32 b, .int .u32 c] 66)).drew := ((Below.refl w1.heap.size w1).alloc (Nat.le_refl _) _).drew
  have hc := Lib.hid (gate_any' And_any And_no and_ok (h1.below hba) hg (by omega) ((row2 w1 b c 66).step ((Below.refl _ _).drew)) hsa hsb (fun x hx hp => by cases hx; have := h1.g.has_lt (k := w1.heap.size) hp; omega))
  have hone := Lib.hid (fun x e w => one_any x e w)
  have hF := Lib.hid (fun q' w2 N2 (hn : NStep q (w1.alloc (.cells #[.int .u32 b, .int .u32 c] 66)).drew q' w2 N2) => hf.out q' w2 N2 (NStep.front h1 hba hn))
  have hbz : (w.heap.size : Nat) < w1.heap.size := World.block_lt_of_cell? w1 _ k4
  obtain ⟨sc, hsc⟩ : ∃ sc, w1.heap[w.heap.size]? = some (.cells sc 102 (0, 0)) := ⟨_, by rw [← hw1]; exact Deep.blk_alloc_new _ _⟩
  have hKK := Lib.hid (fun q' w2 (hn : NStep q (w1.alloc (.cells #[.int .u32 b, .int .u32 c] 66)).drew q' w2 (gateN andG N b c).1) => does_keep (h1.below hba) (hba.block _ hbz |>.trans hsc) (stepc hba hbz k4) (stepc hba hbz k5) hn)
  generalize (gateN andG N b c).1 = rN at *
  generalize (gateN andG N b c).2.1 = rx at *
  generalize (gateN andG N b c).2.2 = re at *
  have hba := Lib.hid hba
  clear h h1 hg hS hs hb1 hsa hsb hsc hbz
  go_enter Tryz.func40, Tryz.ntmps40
  go_upto_region 14 with fail
  go_region_held3 (fun w' => w'.cell? ⟨q.b, 0, none⟩ = some (.pointer (some ⟨q.g.b, 0, none⟩)) ∧ w'.cell? ⟨w.heap.size, 4, none⟩ = some (.int .u32 b) ∧ w'.cell? ⟨w.heap.size, 5, none⟩ = some (.int .u32 c)) (go_keep) (first
    | (go_at_call 69; (with_reducible refine hc.out.mono ?_); rintro e w5 ⟨rfl, q', hn⟩; obtain ⟨m0, m4, m5⟩ := hKK.out _ _ hn; have hn := Lib.hid hn)
    | (go_at_call 102; (with_reducible refine (hone.out _ _ _).mono ?_); rintro e w6 ⟨g, rfl, hl, hb6⟩; have n0 := stepc hb6 (World.block_lt_of_cell? w5 _ m0) m0; have n4 := stepc hb6 (World.block_lt_of_cell? w5 _ m4) m4; have n5 := stepc hb6 (World.block_lt_of_cell? w5 _ m5) m5; have hl := Lib.hid hl; have hb6 := Lib.hid hb6))
  all_goals go_wp2
  all_goals go_ret2
  all_goals exact ⟨_, _, rfl, hl.out, q', hF.out _ _ _ (hn.out.then hb6.out)⟩
set_option maxHeartbeats 2000000 in
theorem does_6 : Does_call (fun s => s.what = 6) := by
  intro w q N rest s h hg hS hs hw
  obtain ⟨K, nm, n, a, b, c, la, ln, lc, zs⟩ := s
  obtain rfl : K = 6 := hw
  have hb1 : Below w.heap.size w (w.alloc (.cells #[.int .i64 6, .string nm, .int .i64 n, .int .u32 a, .int .u32 b, .int .u32 c, .slice la ln lc] 102)) := (Below.refl _ _).alloc (Nat.le_refl _) _
  have h1 := h.below hb1
  have hsg := hS.g
  have hsi := hS.ins
  have hsr := hS.regs
  have hso := hS.outs
  have hf := Lib.hid (fun q' w2 N2 (hn : NStep q (w.alloc (.cells #[.int .i64 6, .string nm, .int .i64 n, .int .u32 a, .int .u32 b, .int .u32 c, .slice la ln lc] 102)) q' w2 N2) => NStep.front h hb1 hn)
  unfold stVal DoesQ
  have hsa : IsLit b := hs.b
  have hsb : IsLit c := hs.c
  obtain ⟨-, -, -, -, -, -, -, -, -, c0, -⟩ := h1.cells
  have hlt := h1.lt
  have k0 : (w.alloc (.cells #[.int .i64 6, .string nm, .int .i64 n, .int .u32 a, .int .u32 b, .int .u32 c, .slice la ln lc] 102)).cell? ⟨w.heap.size, 0, none⟩ = some (.int .i64 6) := by simp [go_sem]
  have k4 : (w.alloc (.cells #[.int .i64 6, .string nm, .int .i64 n, .int .u32 a, .int .u32 b, .int .u32 c, .slice la ln lc] 102)).cell? ⟨w.heap.size, 4, none⟩ = some (.int .u32 b) := by simp [go_sem]
  have k5 : (w.alloc (.cells #[.int .i64 6, .string nm, .int .i64 n, .int .u32 a, .int .u32 b, .int .u32 c, .slice la ln lc] 102)).cell? ⟨w.heap.size, 5, none⟩ = some (.int .u32 c) := by simp [go_sem]
  rw [show doesN N ⟨6, nm, n, a, b, c, la, ln, lc, zs⟩ = ((gateN andG N b c).1, [(gateN andG N b c).2.1], (gateN andG N b c).2.2) from rfl]
  simp only []
  generalize hw1 : w.alloc (.cells #[.int .i64 6, .string nm, .int .i64 n, .int .u32 a, .int .u32 b, .int .u32 c, .slice la ln lc] 102) = w1 at *
  have hba : Below w1.heap.size w1 (w1.alloc (.cells #[.int .u32 b, .int .u32 c] 66)).drew := ((Below.refl w1.heap.size w1).alloc (Nat.le_refl _) _).drew
  have hc := Lib.hid (gate_any' And_any And_no and_ok (h1.below hba) hg (by omega) ((row2 w1 b c 66).step ((Below.refl _ _).drew)) hsa hsb (fun x hx hp => by cases hx; have := h1.g.has_lt (k := w1.heap.size) hp; omega))
  have hone := Lib.hid (fun x e w => one_any x e w)
  have hF := Lib.hid (fun q' w2 N2 (hn : NStep q (w1.alloc (.cells #[.int .u32 b, .int .u32 c] 66)).drew q' w2 N2) => hf.out q' w2 N2 (NStep.front h1 hba hn))
  have hbz : (w.heap.size : Nat) < w1.heap.size := World.block_lt_of_cell? w1 _ k4
  obtain ⟨sc, hsc⟩ : ∃ sc, w1.heap[w.heap.size]? = some (.cells sc 102 (0, 0)) := ⟨_, by rw [← hw1]; exact Deep.blk_alloc_new _ _⟩
  have hKK := Lib.hid (fun q' w2 (hn : NStep q (w1.alloc (.cells #[.int .u32 b, .int .u32 c] 66)).drew q' w2 (gateN andG N b c).1) => does_keep (h1.below hba) (hba.block _ hbz |>.trans hsc) (stepc hba hbz k4) (stepc hba hbz k5) hn)
  generalize (gateN andG N b c).1 = rN at *
  generalize (gateN andG N b c).2.1 = rx at *
  generalize (gateN andG N b c).2.2 = re at *
  have hba := Lib.hid hba
  clear h h1 hg hS hs hb1 hsa hsb hsc hbz
  go_enter Tryz.func40, Tryz.ntmps40
  go_upto_region 14 with fail
  go_region_held3 (fun w' => w'.cell? ⟨q.b, 0, none⟩ = some (.pointer (some ⟨q.g.b, 0, none⟩)) ∧ w'.cell? ⟨w.heap.size, 4, none⟩ = some (.int .u32 b) ∧ w'.cell? ⟨w.heap.size, 5, none⟩ = some (.int .u32 c)) (go_keep) (first
    | (go_at_call 69; (with_reducible refine hc.out.mono ?_); rintro e w5 ⟨rfl, q', hn⟩; obtain ⟨m0, m4, m5⟩ := hKK.out _ _ hn; have hn := Lib.hid hn)
    | (go_at_call 102; (with_reducible refine (hone.out _ _ _).mono ?_); rintro e w6 ⟨g, rfl, hl, hb6⟩; have n0 := stepc hb6 (World.block_lt_of_cell? w5 _ m0) m0; have n4 := stepc hb6 (World.block_lt_of_cell? w5 _ m4) m4; have n5 := stepc hb6 (World.block_lt_of_cell? w5 _ m5) m5; have hl := Lib.hid hl; have hb6 := Lib.hid hb6))
  all_goals go_wp2
  all_goals go_ret2
  all_goals exact ⟨_, _, rfl, hl.out, q', hF.out _ _ _ (hn.out.then hb6.out)⟩
set_option maxHeartbeats 2000000 in
theorem does_7 : Does_call (fun s => s.what = 7) := by
  intro w q N rest s h hg hS hs hw
  obtain ⟨K, nm, n, a, b, c, la, ln, lc, zs⟩ := s
  obtain rfl : K = 7 := hw
  have hb1 : Below w.heap.size w (w.alloc (.cells #[.int .i64 7, .string nm, .int .i64 n, .int .u32 a, .int .u32 b, .int .u32 c, .slice la ln lc] 102)) := (Below.refl _ _).alloc (Nat.le_refl _) _
  have h1 := h.below hb1
  have hsg := hS.g
  have hsi := hS.ins
  have hsr := hS.regs
  have hso := hS.outs
  have hf := Lib.hid (fun q' w2 N2 (hn : NStep q (w.alloc (.cells #[.int .i64 7, .string nm, .int .i64 n, .int .u32 a, .int .u32 b, .int .u32 c, .slice la ln lc] 102)) q' w2 N2) => NStep.front h hb1 hn)
  unfold stVal DoesQ
  have hsa : IsLit b := hs.b
  have hsb : IsLit c := hs.c
  obtain ⟨-, -, -, -, -, -, -, -, -, c0, -⟩ := h1.cells
  have hlt := h1.lt
  have k0 : (w.alloc (.cells #[.int .i64 7, .string nm, .int .i64 n, .int .u32 a, .int .u32 b, .int .u32 c, .slice la ln lc] 102)).cell? ⟨w.heap.size, 0, none⟩ = some (.int .i64 7) := by simp [go_sem]
  have k4 : (w.alloc (.cells #[.int .i64 7, .string nm, .int .i64 n, .int .u32 a, .int .u32 b, .int .u32 c, .slice la ln lc] 102)).cell? ⟨w.heap.size, 4, none⟩ = some (.int .u32 b) := by simp [go_sem]
  have k5 : (w.alloc (.cells #[.int .i64 7, .string nm, .int .i64 n, .int .u32 a, .int .u32 b, .int .u32 c, .slice la ln lc] 102)).cell? ⟨w.heap.size, 5, none⟩ = some (.int .u32 c) := by simp [go_sem]
  rw [show doesN N ⟨7, nm, n, a, b, c, la, ln, lc, zs⟩ = ((gateN xorG N b c).1, [(gateN xorG N b c).2.1], (gateN xorG N b c).2.2) from rfl]
  simp only []
  generalize hw1 : w.alloc (.cells #[.int .i64 7, .string nm, .int .i64 n, .int .u32 a, .int .u32 b, .int .u32 c, .slice la ln lc] 102) = w1 at *
  have hba : Below w1.heap.size w1 (w1.alloc (.cells #[.int .u32 b, .int .u32 c] 66)).drew := ((Below.refl w1.heap.size w1).alloc (Nat.le_refl _) _).drew
  have hc := Lib.hid (gate_any' Xor_any Xor_no xor_ok (h1.below hba) hg (by omega) ((row2 w1 b c 66).step ((Below.refl _ _).drew)) hsa hsb (fun x hx hp => by cases hx; have := h1.g.has_lt (k := w1.heap.size) hp; omega))
  have hone := Lib.hid (fun x e w => one_any x e w)
  have hF := Lib.hid (fun q' w2 N2 (hn : NStep q (w1.alloc (.cells #[.int .u32 b, .int .u32 c] 66)).drew q' w2 N2) => hf.out q' w2 N2 (NStep.front h1 hba hn))
  have hbz : (w.heap.size : Nat) < w1.heap.size := World.block_lt_of_cell? w1 _ k4
  obtain ⟨sc, hsc⟩ : ∃ sc, w1.heap[w.heap.size]? = some (.cells sc 102 (0, 0)) := ⟨_, by rw [← hw1]; exact Deep.blk_alloc_new _ _⟩
  have hKK := Lib.hid (fun q' w2 (hn : NStep q (w1.alloc (.cells #[.int .u32 b, .int .u32 c] 66)).drew q' w2 (gateN xorG N b c).1) => does_keep (h1.below hba) (hba.block _ hbz |>.trans hsc) (stepc hba hbz k4) (stepc hba hbz k5) hn)
  generalize (gateN xorG N b c).1 = rN at *
  generalize (gateN xorG N b c).2.1 = rx at *
  generalize (gateN xorG N b c).2.2 = re at *
  have hba := Lib.hid hba
  clear h h1 hg hS hs hb1 hsa hsb hsc hbz
  go_enter Tryz.func40, Tryz.ntmps40
  go_upto_region 16 with fail
  go_region_held3 (fun w' => w'.cell? ⟨q.b, 0, none⟩ = some (.pointer (some ⟨q.g.b, 0, none⟩)) ∧ w'.cell? ⟨w.heap.size, 4, none⟩ = some (.int .u32 b) ∧ w'.cell? ⟨w.heap.size, 5, none⟩ = some (.int .u32 c)) (go_keep) (first
    | (go_at_call 71; (with_reducible refine hc.out.mono ?_); rintro e w5 ⟨rfl, q', hn⟩; obtain ⟨m0, m4, m5⟩ := hKK.out _ _ hn; have hn := Lib.hid hn)
    | (go_at_call 102; (with_reducible refine (hone.out _ _ _).mono ?_); rintro e w6 ⟨g, rfl, hl, hb6⟩; have n0 := stepc hb6 (World.block_lt_of_cell? w5 _ m0) m0; have n4 := stepc hb6 (World.block_lt_of_cell? w5 _ m4) m4; have n5 := stepc hb6 (World.block_lt_of_cell? w5 _ m5) m5; have hl := Lib.hid hl; have hb6 := Lib.hid hb6))
  all_goals go_wp2
  all_goals go_ret2
  all_goals exact ⟨_, _, rfl, hl.out, q', hF.out _ _ _ (hn.out.then hb6.out)⟩
set_option maxHeartbeats 2000000 in
theorem does_3 : Does_call (fun s => s.what = 3) := by
  intro w q N rest s h hg hS hs hw
  obtain ⟨K, nm, n, a, b, c, la, ln, lc, zs⟩ := s
  obtain rfl : K = 3 := hw
  have hb1 : Below w.heap.size w (w.alloc (.cells #[.int .i64 3, .string nm, .int .i64 n, .int .u32 a, .int .u32 b, .int .u32 c, .slice la ln lc] 102)) := (Below.refl _ _).alloc (Nat.le_refl _) _
  have h1 := h.below hb1
  have hsg := hS.g
  have hsi := hS.ins
  have hsr := hS.regs
  have hso := hS.outs
  have hf := Lib.hid (fun q' w2 N2 (hn : NStep q (w.alloc (.cells #[.int .i64 3, .string nm, .int .i64 n, .int .u32 a, .int .u32 b, .int .u32 c, .slice la ln lc] 102)) q' w2 N2) => NStep.front h hb1 hn)
  unfold stVal DoesQ
  have hzs := hs.lits
  have hrow : Row .u32 w la ln zs := hs.row
  have hlt := h1.lt
  have k0 : (w.alloc (.cells #[.int .i64 3, .string nm, .int .i64 n, .int .u32 a, .int .u32 b, .int .u32 c, .slice la ln lc] 102)).cell? ⟨w.heap.size, 0, none⟩ = some (.int .i64 3) := by simp [go_sem]
  have k1 : (w.alloc (.cells #[.int .i64 3, .string nm, .int .i64 n, .int .u32 a, .int .u32 b, .int .u32 c, .slice la ln lc] 102)).cell? ⟨w.heap.size, 1, none⟩ = some (.string nm) := by simp [go_sem]
  have k6 : (w.alloc (.cells #[.int .i64 3, .string nm, .int .i64 n, .int .u32 a, .int .u32 b, .int .u32 c, .slice la ln lc] 102)).cell? ⟨w.heap.size, 6, none⟩ = some (.slice la ln lc) := by simp [go_sem]
  rw [show doesN N ⟨3, nm, n, a, b, c, la, ln, lc, zs⟩ = ((addOut N nm (zs.take 70)).1, [], (addOut N nm (zs.take 70)).2) from rfl]
  simp only []
  generalize hw1 : w.alloc (.cells #[.int .i64 3, .string nm, .int .i64 n, .int .u32 a, .int .u32 b, .int .u32 c, .slice la ln lc] 102) = w1 at *
  have hbz : (w.heap.size : Nat) < w1.heap.size := World.block_lt_of_cell? w1 _ k1
  have hOf := Lib.hid (Of_any (c := lc) ((hrow.step hb1).step ((Below.refl w1.heap.size w1).drew)))
  have hc := Lib.hid (fun w2 (hb2 : Below w1.heap.size w1 w2) (a2 : Option Addr) (c2 : Nat) (hl : LRow w2 a2 (min ln 70) c2 (zs.take 70)) => AddOut_any (h1.below hb2) hg.wf (by omega) nm (c := c2) hl.row (fun x hx => hzs x (List.mem_of_mem_take hx)))
  have hF := Lib.hid (fun q' w2 w3 N2 (hb2 : Below w1.heap.size w1 w2) (hn : NStep q w2 q' w3 N2) => hf.out q' w3 N2 (NStep.front h1 hb2 hn))
  have hsc : w1.heap[w.heap.size]? = some (.cells #[.int .i64 3, .string nm, .int .i64 n, .int .u32 a, .int .u32 b, .int .u32 c, .slice la ln lc] 102 (0, 0)) := by rw [← hw1]; exact Deep.blk_alloc_new _ _
  have hKK := Lib.hid (fun q' w2 w3 N2 (hb2 : Below w1.heap.size w1 w2) (hn : NStep q w2 q' w3 N2) => (show w3.cell? ⟨w.heap.size, 1, none⟩ = some (.string nm) ∧ w3.cell? ⟨w.heap.size, 6, none⟩ = some (.slice la ln lc) by
    have hk := hn.kept.block w.heap.size (Nat.lt_of_lt_of_le hbz hb2.size) (fun hp => (h1.below hb2).other ((hb2.block _ hbz).trans hsc) (by decide) (by decide) (by decide) (by decide) (by decide) (by decide) hp)
    have e := hk.trans ((hb2.block _ hbz).trans hsc)
    exact ⟨by simp [World.cell?, e], by simp [World.cell?, e]⟩))
  have hdr := Lib.hid ((Below.refl w1.heap.size w1).drew)
  generalize (addOut N nm (zs.take 70)).1 = rN at *
  generalize (addOut N nm (zs.take 70)).2 = re at *
  clear h h1 hg hS hs hb1 hsc hrow hzs
  go_enter Tryz.func40, Tryz.ntmps40
  go_upto_region 10 with fail
  go_region_held3 (fun w' => w'.cell? ⟨w.heap.size, 1, none⟩ = some (.string nm) ∧ w'.cell? ⟨w.heap.size, 6, none⟩ = some (.slice la ln lc)) (go_keep) (first
    | (go_at_call 103; (with_reducible refine hOf.out.mono ?_); rintro e w5 ⟨a5, c5, rfl, hl5, hb5⟩; have hb6 := nextw hdr.out hb5; have m1 := stepc hb6 hbz k1; have m6 := stepc hb6 hbz k6; have hc2 := Lib.hid (hc.out _ hb6 _ _ hl5); have hb6 := Lib.hid hb6)
    | (go_at_call 76; (with_reducible refine hc2.out.mono ?_); rintro e w7 ⟨rfl, q', hn⟩; obtain ⟨n1, n6⟩ := hKK.out _ _ _ _ hb6.out hn; have hn := Lib.hid hn))
  all_goals go_wp2
  all_goals go_ret2
  all_goals exact ⟨none, 0, rfl, nilRow _, q', hF.out _ _ _ _ hb6.out hn.out⟩

theorem Does_any : Does_call (fun _ => True) := by
  intro w q N rest s h hg hS hs _
  by_cases h0 : s.what = 0
  · exact does_0 w q N rest s h hg hS hs h0
  by_cases h1 : s.what = 1
  · exact does_1 w q N rest s h hg hS hs h1
  by_cases h2 : s.what = 2
  · exact does_2 w q N rest s h hg hS hs h2
  by_cases h3 : s.what = 3
  · exact does_3 w q N rest s h hg hS hs h3
  by_cases h4 : s.what = 4
  · exact does_4 w q N rest s h hg hS hs h4
  by_cases h5 : s.what = 5
  · exact does_5 w q N rest s h hg hS hs h5
  by_cases h6 : s.what = 6
  · exact does_6 w q N rest s h hg hS hs h6
  by_cases h7 : s.what = 7
  · exact does_7 w q N rest s h hg hS hs h7
  by_cases h8 : s.what = 8
  · exact does_8 w q N rest s h hg hS hs h8
  exact does_n w q N rest s h hg hS hs ⟨h0, h1, h2, h3, h4, h5, h6, h7, h8⟩
end Go.Proofs.YtafoohdndlhbnaaGreatDoor
end

section
namespace Go.Proofs.YtafoohdndlhbnaaGreatDoor
open Go.RowKit Go.Maps Bits

/-- What a step leaves is well formed; what it tells is a row of literals. -/
theorem doesN_good {N : Nt} {rest : List Int} (hg : Good N rest) (hS : Small N) {w : World} {s : StV} (hs : StOk w s) (h8 : s.what ≠ 8) : Good (doesN N s).1 rest := by
  have := hS.g
  unfold doesN
  split
  · exact hg.addIn _ _
  split
  · exact hg.addReg _
  split
  · exact hg.setReg _ _ _ hs.b hs.c
  split
  · exact hg.addOut _ _ (fun x hx => hs.lits x (List.mem_of_mem_take hx))
  split
  · exact (gate_good and_ok hg (by omega) hs.b hs.c).1
  split
  · exact (gate_good xor_ok hg (by omega) hs.b hs.c).1
  exact hg
/-- How much a step makes. -/
theorem addIn_small (N : Nt) (s : ByteArray) (k : Int) : (addIn N s k).1.g.nodes.length ≤ N.g.nodes.length + 64 ∧ (addIn N s k).1.ins.length ≤ N.ins.length + 1 ∧ (addIn N s k).1.regs = N.regs ∧ (addIn N s k).1.outs = N.outs := by
  unfold addIn
  split
  · rename_i hc
    simp only [Bool.and_eq_true] at hc
    have hk := wide_iff.1 hc.2
    split
    · exact ⟨by simp only; omega, by simp only; omega, rfl, rfl⟩
    · exact ⟨by simp only [inputsN_len]; omega, by simp, rfl, rfl⟩
  · exact ⟨by simp only; omega, by simp only; omega, rfl, rfl⟩
theorem setReg_small (N : Nt) (x d e : Int) : (setReg N x d e).1.g = N.g ∧ (setReg N x d e).1.ins = N.ins ∧ (setReg N x d e).1.regs.length = N.regs.length ∧ (setReg N x d e).1.outs = N.outs := by
  unfold setReg
  split
  · exact ⟨rfl, rfl, rfl, rfl⟩
  · split
    · exact ⟨rfl, rfl, by simp, rfl⟩
    · exact ⟨rfl, rfl, rfl, rfl⟩
theorem addOut_small (N : Nt) (s : ByteArray) (l : List Int) : (addOut N s l).1.g = N.g ∧ (addOut N s l).1.ins = N.ins ∧ (addOut N s l).1.regs = N.regs ∧ (addOut N s l).1.outs.length ≤ N.outs.length + 1 := by
  unfold addOut
  split
  · split
    · exact ⟨rfl, rfl, rfl, by simp only; omega⟩
    · exact ⟨rfl, rfl, rfl, by simp⟩
  · exact ⟨rfl, rfl, rfl, by simp only; omega⟩
theorem gate_same (T : Gr → Int → Int → Gr × Int) (N : Nt) (b c : Int) : (gateN T N b c).1.ins = N.ins ∧ (gateN T N b c).1.regs = N.regs ∧ (gateN T N b c).1.outs = N.outs := by
  unfold gateN
  split <;> exact ⟨rfl, rfl, rfl⟩
/-- Bounds, step by step. -/
structure Upto (N : Nt) (j : Nat) : Prop where
  g : N.g.nodes.length ≤ 1 + 64 * j
  ins : N.ins.length ≤ j
  regs : N.regs.length ≤ j
  outs : N.outs.length ≤ j
theorem Upto.small {N : Nt} {j : Nat} (h : Upto N j) (hj : j ≤ 60) : Small N := ⟨by have := h.g; omega, by have := h.ins; omega, by have := h.regs; omega, by have := h.outs; omega⟩
theorem Upto.mono {N : Nt} {j k : Nat} (h : Upto N j) (hj : j ≤ k) : Upto N k := ⟨by have := h.g; omega, by have := h.ins; omega, by have := h.regs; omega, by have := h.outs; omega⟩
theorem Upto.does {N : Nt} {j : Nat} (h : Upto N j) (hj : j ≤ 60) {rest : List Int} (hg : Good N rest) {w : World} {s : StV} (hs : StOk w s) : Upto (doesN N s).1 (j + 1) := by
  have hm := (h.small hj).g
  obtain ⟨h1, h2, h3, h4⟩ := h
  unfold doesN
  split
  · obtain ⟨a, b, c, d⟩ := addIn_small N s.name s.n
    exact ⟨by omega, by omega, by rw [c]; omega, by rw [d]; omega⟩
  split
  · exact ⟨by show (inputG N.g).nodes.length ≤ _; rw [inputG_len]; omega, by show N.ins.length ≤ _; omega, by show (N.regs ++ [_]).length ≤ _; simp; omega, by show N.outs.length ≤ _; omega⟩
  split
  · obtain ⟨a, b, c, d⟩ := setReg_small N s.a s.b s.c
    exact ⟨by rw [a]; omega, by rw [b]; omega, by rw [c]; omega, by rw [d]; omega⟩
  split
  · obtain ⟨a, b, c, d⟩ := addOut_small N s.name (s.zs.take 70)
    exact ⟨by rw [a]; omega, by rw [b]; omega, by rw [c]; omega, by show (addOut N s.name (s.zs.take 70)).1.outs.length ≤ _; omega⟩
  split
  · have e := (gate_good and_ok hg (by omega) hs.b hs.c).2
    obtain ⟨a, b, c⟩ := gate_same andG N s.b s.c
    exact ⟨by show (gateN andG N s.b s.c).1.g.nodes.length ≤ _; omega, by rw [a]; omega, by rw [b]; omega, by rw [c]; omega⟩
  split
  · have e := (gate_good xor_ok hg (by omega) hs.b hs.c).2
    obtain ⟨a, b, c⟩ := gate_same xorG N s.b s.c
    exact ⟨by show (gateN xorG N s.b s.c).1.g.nodes.length ≤ _; omega, by rw [a]; omega, by rw [b]; omega, by rw [c]; omega⟩
  split
  · exact ⟨by show (inputG N.g).nodes.length ≤ _; rw [inputG_len]; omega, by show N.ins.length ≤ _; omega, by show N.regs.length ≤ _; omega, by show N.outs.length ≤ _; omega⟩
  · exact ⟨by show N.g.nodes.length ≤ _; omega, by show N.ins.length ≤ _; omega, by show N.regs.length ≤ _; omega, by show N.outs.length ≤ _; omega⟩
/-- What is refused changes nothing. -/
theorem doesN_refused {N : Nt} {s : StV} (h : (doesN N s).2.2 ≠ 0) : (doesN N s).1 = N := by
  unfold doesN at h ⊢
  split
  · rename_i e; rw [if_pos e] at h
    unfold addIn at h ⊢
    split
    · rename_i e2; rw [if_pos e2] at h
      split
      · rfl
      · rename_i e3; rw [if_neg e3] at h; exact absurd rfl h
    · rfl
  rename_i e0; rw [if_neg e0] at h
  split
  · rename_i e; rw [if_pos e] at h; exact absurd rfl h
  rename_i e1; rw [if_neg e1] at h
  split
  · rename_i e; rw [if_pos e] at h
    unfold setReg at h ⊢
    split
    · rfl
    · rename_i i hi
      rw [hi] at h
      simp only at h
      split
      · rename_i e2; rw [if_pos e2] at h; exact absurd rfl h
      · rfl
  rename_i e2; rw [if_neg e2] at h
  split
  · rename_i e; rw [if_pos e] at h
    unfold addOut at h ⊢
    split
    · rename_i e2; rw [if_pos e2] at h
      split
      · rfl
      · rename_i e3; rw [if_neg e3] at h; exact absurd rfl h
    · rfl
  rename_i e3; rw [if_neg e3] at h
  split
  · rename_i e; rw [if_pos e] at h
    unfold gateN at h ⊢
    split
    · rename_i e2; rw [if_pos e2] at h; exact absurd rfl h
    · rfl
  rename_i e4; rw [if_neg e4] at h
  split
  · rename_i e; rw [if_pos e] at h
    unfold gateN at h ⊢
    split
    · rename_i e2; rw [if_pos e2] at h; exact absurd rfl h
    · rfl
  rename_i e5; rw [if_neg e5] at h
  split
  · rename_i e; rw [if_pos e] at h; exact absurd rfl h
  · rfl
end Go.Proofs.YtafoohdndlhbnaaGreatDoor
end
