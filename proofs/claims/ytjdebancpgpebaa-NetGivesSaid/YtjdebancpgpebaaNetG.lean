/-
  A copy of a netlist.
-/
import Derived.Test.YtjdebancpgpebaaNetF
namespace Go.Proofs.Ytjdebancpgpebaa
open Go.RowKit Go.Maps Bits
set_option maxRecDepth 100000

/-- Where a slice of a call's own lies. -/
def NewA (W : World) (a : Option Addr) : Prop := ∀ x, a = some x → W.heap.size ≤ x.block
theorem NewA.mono {W w : World} {a : Option Addr} (h : NewA w a) (hs : W.heap.size ≤ w.heap.size) : NewA W a := fun x hx => Nat.le_trans hs (h x hx)
theorem own_newA {W w : World} {base e size n m c : Nat} {a : Option Addr} {xs : List Value} (h : w.ownsRow base e size (.slice a m c) n xs) (hb : W.heap.size ≤ base) : NewA W a := by
  intro x hx
  have := own_ge h x.block (by rw [hx]; rfl)
  omega
def FarA (a b : Option Addr) : Prop := ∀ x y, a = some x → b = some y → x.block ≠ y.block
theorem BusRow.farA {w : World} {a b : Option Addr} {n c : Nat} {L : List Bus} (h : BusRow w (.slice a n c) L) (hb : NewA w b) : FarA a b := by
  intro x y hx hy e
  obtain ⟨cur, hc⟩ := h.type (k := x.block) (by rw [hx]; rfl)
  have := (Array.getElem?_eq_some_iff.1 hc).1
  have := hb y hy
  omega
theorem FarA.symm {a b : Option Addr} (h : FarA a b) : FarA b a := fun x y hx hy e => h y x hy hx e.symm
theorem blk_some {a : Option Addr} {n c k : Nat} (h : (Value.slice a n c).ownBlock = some k) : ∃ x, a = some x ∧ x.block = k := by
  cases a with
  | none => simp [Value.ownBlock] at h
  | some x => simp [Value.ownBlock] at h; exact ⟨x, rfl, h⟩
theorem ncopy_end {w wk : World} {N : Nt} {p2 : Pl} {a r b : Option Addr} {c d e : Nat} (hB : Below w.heap.size w wk) (hG : Is wk p2 N.g) (hGn : ∀ k, p2.has k → w.heap.size ≤ k) (hI : BusRow wk (.slice a N.ins.length c) N.ins) (hIn : NewA w a)
    (hR : RegRow wk (.slice r N.regs.length d) N.regs) (hRn : NewA w r) (hO : BusRow wk (.slice b N.outs.length e) N.outs) (hOn : NewA w b) (hap : FarA a b) :
    ∃ q : NPl, q.b = wk.heap.size ∧ NetIs (wk.alloc (.cells #[.pointer (some ⟨p2.b, 0, none⟩), .string N.name, .slice a N.ins.length c, .slice r N.regs.length d, .slice b N.outs.length e] 33)) q N ∧ ∀ k, q.has k → w.heap.size ≤ k := by
  have hb1 : ∀ o, Below wk.heap.size wk (wk.alloc o) := fun o => (Below.refl _ _).alloc (Nat.le_refl _) _
  refine ⟨⟨wk.heap.size, p2, .slice a N.ins.length c, .slice r N.regs.length d, .slice b N.outs.length e⟩, rfl, ⟨Deep.blk_alloc_new _ _, hG.below (hb1 _), hI.below (hb1 _), own_below hR (hb1 _), hO.below (hb1 _), fun k h1 h2 => ?_⟩, fun k hk => ?_⟩
  · obtain ⟨x, hx, e1⟩ := blk_some h1
    obtain ⟨y, hy, e2⟩ := blk_some h2
    exact hap x y hx hy (e1.trans e2.symm)
  · rcases hk with rfl | hk | hk | hk | hk
    · exact hB.size
    · exact hGn k hk
    · obtain ⟨x, hx, rfl⟩ := blk_some hk; exact hIn x hx
    · obtain ⟨x, hx, rfl⟩ := blk_some hk; exact hRn x hx
    · obtain ⟨x, hx, rfl⟩ := blk_some hk; exact hOn x hx

set_option maxHeartbeats 4000000 in
theorem NCopy_any {w : World} {q : NPl} {N : Nt} {rest : List Int} (h : NetIs w q N) (hg : Good N rest) (hm : N.g.nodes.length ≤ 190000) (hi : N.ins.length ≤ 10000) (hr : N.regs.length ≤ 10000) (ho : N.outs.length ≤ 10000) :
    Calls Try.prog 6 #[.pointer (some ⟨q.b, 0, none⟩)] w fun e w' => ∃ q2 : NPl, e = .returned (.pointer (some ⟨q2.b, 0, none⟩)) ∧ NetIs w' q2 N ∧ Below w.heap.size w w' ∧ ∀ k, q2.has k → w.heap.size ≤ k := by
  have hst := Lib.hid (nstands_any h hg.wf.pos)
  obtain ⟨ia, ic, ra, rc, oa, oc, e1, e2, e3, c0, c1, c2, c3, c4, -⟩ := h.cells
  have hlt := h.lt
  have hIr := h.ins
  rw [e1] at hIr
  have hOr := h.outs
  rw [e3] at hOr
  have hRr := h.regs
  rw [e2] at hRr
  have hKG := Lib.hid (fun wk (hb : Below w.heap.size w wk) => (CpQ (Copy_any (h.g.below hb) hg.wf (by omega)) (fun e w2 => ∃ p2 : Pl, e = .returned (.pointer (some ⟨p2.b, 0, none⟩)) ∧ Is w2 p2 N.g ∧ (∀ k, p2.has k → w.heap.size ≤ k) ∧ Below wk.heap.size wk w2) (fun _ _ ⟨p2, he, h1, h2, h3⟩ => ⟨p2, he, h1, fun k hk => Nat.le_trans hb.size (h3 k hk), h2⟩)))
  have hKI := Lib.hid (fun wk (hb : Below w.heap.size w wk) => copied_any (hIr.below hb) rfl (fun b hb => (hg.ins.wide b hb).2) hi)
  have hKO := Lib.hid (fun wk (hb : Below w.heap.size w wk) => copied_any (hOr.below hb) rfl (fun b hb => (hg.outs.wide b hb).2) ho)
  have hKR := Lib.hid (fun wk (hb : Below w.heap.size w wk) => (CpQ (clone_reg (own_below hRr hb) rfl (by omega)) (fun e w2 => ∃ (a2 : Option Addr) (c2 : Nat), e = .returned (.slice a2 N.regs.length c2) ∧ RegRow w2 (.slice a2 N.regs.length c2) N.regs ∧ NewA w a2 ∧ Below wk.heap.size wk w2) (fun _ _ ⟨a2, c2, he, h1, h2⟩ => ⟨a2, c2, he, own_base h1 (Nat.zero_le _), own_newA h1 hb.size, h2⟩)))
  have hend := Lib.hid (fun wk p2 a r b c d e (h1 : Below w.heap.size w wk) hG hGn hI hIn hR hRn hO hOn hap => ncopy_end (N := N) (p2 := p2) (a := a) (r := r) (b := b) (c := c) (d := d) (e := e) h1 hG hGn hI hIn hR hRn hO hOn hap)
  have hKeep := Lib.hid (fun (wk w2 : World) (hb : Below w.heap.size w wk) (hb2 : Below wk.heap.size wk w2) (o : Nat) (v : Value) (h : wk.cell? ⟨q.b, o, none⟩ = some v) => stepc hb2 (Nat.lt_of_lt_of_le hlt hb.size) h)
  have I : Below w.heap.size w w.drew := (Below.refl _ _).drew
  clear h hg hIr hOr hRr e1 e2 e3 hlt hm
  generalize hni : N.ins.length = ni at *
  generalize hnr : N.regs.length = nr at *
  generalize hno : N.outs.length = no at *
  generalize hnn : N.name = nm at *
  generalize q.g.b = gb at *
  clear hni hnr hno hnn
  go_enter Try.func6, Try.ntmps6
  go_upto_region 3 with (go_at_call 22; (with_reducible refine hst.out.mono ?_); rintro e w2 ⟨rfl, rfl⟩)
  clear hst
  go_region_held3 (fun w' => w'.cell? ⟨q.b, 0, none⟩ = some (.pointer (some ⟨gb, 0, none⟩)) ∧ w'.cell? ⟨q.b, 1, none⟩ = some (.string nm) ∧ w'.cell? ⟨q.b, 2, none⟩ = some (.slice ia ni ic) ∧ w'.cell? ⟨q.b, 3, none⟩ = some (.slice ra nr rc) ∧ w'.cell? ⟨q.b, 4, none⟩ = some (.slice oa no oc)) (go_keep)
    (first
      | (go_at_call 23; (with_reducible refine (hKG.out _ I).mono ?_); rintro e w2 ⟨p2, rfl, hG, hGn, hb⟩; have hG := Lib.hid hG; have hGn := Lib.hid hGn; (first | (have h1 := Lib.hid (hG.out.below hb); clear hG; have hG := h1; clear h1) | skip); (first | (have h1 := Lib.hid (hI.out.below hb); clear hI; have hI := h1; clear h1) | skip); (first | (have h1 := Lib.hid (own_below hR.out hb); clear hR; have hR := h1; clear h1) | skip); (first | (have h1 := Lib.hid (hO.out.below hb); clear hO; have hO := h1; clear h1) | skip); have q0 := hKeep.out _ _ I hb 0 _ c0; have q1 := hKeep.out _ _ I hb 1 _ c1; have q2 := hKeep.out _ _ I hb 2 _ c2; have q3 := hKeep.out _ _ I hb 3 _ c3; have q4 := hKeep.out _ _ I hb 4 _ c4; have I2 := nextw I hb; clear I hb c0 c1 c2 c3 c4; have I := I2; have c0 := q0; have c1 := q1; have c2 := q2; have c3 := q3; have c4 := q4; clear I2 q0 q1 q2 q3 q4)
      | (go_at_call 25; (with_reducible refine (hKR.out _ I).mono ?_); rintro e w2 ⟨a5, c5, rfl, hR, hRn, hb⟩; have hR := Lib.hid hR; have hRn := Lib.hid hRn; (first | (have h1 := Lib.hid (hG.out.below hb); clear hG; have hG := h1; clear h1) | skip); (first | (have h1 := Lib.hid (hI.out.below hb); clear hI; have hI := h1; clear h1) | skip); (first | (have h1 := Lib.hid (own_below hR.out hb); clear hR; have hR := h1; clear h1) | skip); (first | (have h1 := Lib.hid (hO.out.below hb); clear hO; have hO := h1; clear h1) | skip); have q0 := hKeep.out _ _ I hb 0 _ c0; have q1 := hKeep.out _ _ I hb 1 _ c1; have q2 := hKeep.out _ _ I hb 2 _ c2; have q3 := hKeep.out _ _ I hb 3 _ c3; have q4 := hKeep.out _ _ I hb 4 _ c4; have I2 := nextw I hb; clear I hb c0 c1 c2 c3 c4; have I := I2; have c0 := q0; have c1 := q1; have c2 := q2; have c3 := q3; have c4 := q4; clear I2 q0 q1 q2 q3 q4)
      | (go_at_call 24; (with_reducible refine (hKI.out _ I).mono ?_); rintro e w2 ⟨a6, c6, rfl, hI, hIn, hb⟩; (first | have hap := Lib.hid (hO.out.farA hIn).symm | skip); have hI := Lib.hid hI; have hIn := Lib.hid (NewA.mono hIn I.size); (first | (have h1 := Lib.hid (hG.out.below hb); clear hG; have hG := h1; clear h1) | skip); (first | (have h1 := Lib.hid (hI.out.below hb); clear hI; have hI := h1; clear h1) | skip); (first | (have h1 := Lib.hid (own_below hR.out hb); clear hR; have hR := h1; clear h1) | skip); (first | (have h1 := Lib.hid (hO.out.below hb); clear hO; have hO := h1; clear h1) | skip); have q0 := hKeep.out _ _ I hb 0 _ c0; have q1 := hKeep.out _ _ I hb 1 _ c1; have q2 := hKeep.out _ _ I hb 2 _ c2; have q3 := hKeep.out _ _ I hb 3 _ c3; have q4 := hKeep.out _ _ I hb 4 _ c4; have I2 := nextw I hb; clear I hb c0 c1 c2 c3 c4; have I := I2; have c0 := q0; have c1 := q1; have c2 := q2; have c3 := q3; have c4 := q4; clear I2 q0 q1 q2 q3 q4)
      | (go_at_call 24; (with_reducible refine (hKO.out _ I).mono ?_); rintro e w2 ⟨a7, c7, rfl, hO, hOn, hb⟩; (first | have hap := Lib.hid (hI.out.farA hOn) | skip); have hO := Lib.hid hO; have hOn := Lib.hid (NewA.mono hOn I.size); (first | (have h1 := Lib.hid (hG.out.below hb); clear hG; have hG := h1; clear h1) | skip); (first | (have h1 := Lib.hid (hI.out.below hb); clear hI; have hI := h1; clear h1) | skip); (first | (have h1 := Lib.hid (own_below hR.out hb); clear hR; have hR := h1; clear h1) | skip); (first | (have h1 := Lib.hid (hO.out.below hb); clear hO; have hO := h1; clear h1) | skip); have q0 := hKeep.out _ _ I hb 0 _ c0; have q1 := hKeep.out _ _ I hb 1 _ c1; have q2 := hKeep.out _ _ I hb 2 _ c2; have q3 := hKeep.out _ _ I hb 3 _ c3; have q4 := hKeep.out _ _ I hb 4 _ c4; have I2 := nextw I hb; clear I hb c0 c1 c2 c3 c4; have I := I2; have c0 := q0; have c1 := q1; have c2 := q2; have c3 := q3; have c4 := q4; clear I2 q0 q1 q2 q3 q4))
  all_goals go_wp2
  all_goals go_ret
  all_goals
    obtain ⟨q2, e1, h1, h2⟩ := hend.out _ _ _ _ _ _ _ _ I hG.out hGn.out hI.out hIn.out hR.out hRn.out hO.out hOn.out hap.out
    exact ⟨q2, by rw [e1]; rfl, h1, I.alloc I.size _, h2⟩
end Go.Proofs.Ytjdebancpgpebaa
