/-
  The document's own netlist: a register more, a bus more, and where they lie then; AddReg, SetReg, New.
-/
import Derived.Test.YtafoohdndlhbnaaGreatDoorFENP
import Derived.Test.YtafoohdndlhbnaaGreatDoorFENH
section
namespace Go.Proofs.YtafoohdndlhbnaaGreatDoor
open Go.RowKit Go.Maps Num
set_option maxRecDepth 100000

theorem RN.dkI {w0 w : World} {B Bg : Nat} {p : RPl} {N : Nt} (h : RN w0 w B Bg p N) : ∀ k, p.iv.ownBlock = some k → w0.heap.size ≤ k ∧ DK w k := fun k e => by
  obtain ⟨K, hK⟩ := h.ins
  obtain ⟨c, hc⟩ := h.ins.type e
  exact ⟨own_ge hK.own k e, _, _, _, hc, .inr (.inr (.inr (.inl rfl)))⟩
theorem RN.dkO {w0 w : World} {B Bg : Nat} {p : RPl} {N : Nt} (h : RN w0 w B Bg p N) : ∀ k, p.ov.ownBlock = some k → w0.heap.size ≤ k ∧ DK w k := fun k e => by
  obtain ⟨K, hK⟩ := h.outs
  obtain ⟨c, hc⟩ := h.outs.type e
  exact ⟨own_ge hK.own k e, _, _, _, hc, .inr (.inr (.inr (.inl rfl)))⟩
theorem RN.dkR {w0 w : World} {B Bg : Nat} {p : RPl} {N : Nt} (h : RN w0 w B Bg p N) : ∀ k, p.rv.ownBlock = some k → w0.heap.size ≤ k ∧ DK w k := fun k e => by
  obtain ⟨c, hc⟩ := own_type h.regs e
  exact ⟨own_ge h.regs k e, _, _, _, hc, .inr (.inr (.inr (.inr rfl)))⟩
/-- None of the graph's blocks, none of numbers. -/
theorem RN.apartG {w0 w : World} {B Bg : Nat} {p : RPl} {N : Nt} (h : RN w0 w B Bg p N) {v : Value} {T : Nat} (hv : ∀ k, v.ownBlock = some k → ∃ c, w.heap[k]? = some (.cells c T (0, 0))) (h1 : T ≠ 117) (h2 : T ≠ 119) (h3 : T ≠ 65) :
    ¬ (Bg = B ∨ v.ownBlock = some Bg) ∧ ¬ (p.g = B ∨ v.ownBlock = some p.g) ∧ ∀ k cur fz, (k = B ∨ v.ownBlock = some k) → w.heap[k]? ≠ some (.cells cur 65 fz) := by
  have hb := h.box
  have hG := h.g.box
  obtain ⟨cg, hg⟩ := h.g.gty
  refine ⟨?_, ?_, ?_⟩
  · rintro (e | e)
    · rw [e, hb] at hG; simp [rnBox] at hG
    · obtain ⟨c, hc⟩ := hv _ e; rw [hc] at hG; simp at hG; first | exact h1 hG | exact h1 hG.2 | exact h1 hG.2.1
  · rintro (e | e)
    · rw [e, hb] at hg; simp [rnBox] at hg
    · obtain ⟨c, hc⟩ := hv _ e; rw [hc] at hg; simp at hg; first | exact h2 hg | exact h2 hg.2 | exact h2 hg.2.1
  · rintro k cur fz (rfl | e) hh
    · rw [hb] at hh; simp [rnBox] at hh
    · obtain ⟨c, hc⟩ := hv _ e; rw [hc] at hh; simp at hh; first | exact h3 hh | exact h3 hh.1 | exact h3 hh.2.1
theorem rn_box {w0 wS wa w1 : World} {B Bg : Nat} {p : RPl} {N : Nt} (h : RN w0 wS B Bg p N) (hb : Below wS.heap.size wS wa) {v : Value} (hv : v.ownBlock ≠ some B) (hg : wa.grownBy w1 v.ownBlock) : w1.heap[B]? = some (rnBox Bg N.name p) := by
  rw [hg.block B (by have := h.lt; have := hb.size; omega) (fun e => hv e.symm), hb.block _ h.lt]; exact h.box
theorem rn_regs {w0 wS wa w1 : World} {B Bg : Nat} {p : RPl} {N : Nt} (h : RN w0 wS B Bg p N) (hb : Below wS.heap.size wS wa) {R : List Rg} {m g1 cap1 : Nat} (hm : m = R.length) (hown : w1.ownsRow w0.heap.size 114 4 (.slice (some ⟨g1, 0, none⟩) m cap1) m (rgCells R))
    (hg : wa.grownBy w1 p.rv.ownBlock) (hat : p.rv.ownBlock = some g1 ∨ g1 = wa.heap.size) : RNext w0 wS B Bg { N with regs := R } (w1.setCell ⟨B, 3, none⟩ (.slice (some ⟨g1, 0, none⟩) m cap1)) := by
  obtain ⟨hk, hD, hB0⟩ := rn_push h hb h.dkR hg 3 (.slice (some ⟨g1, 0, none⟩) m cap1)
  obtain ⟨f1, f2, f3⟩ := h.far
  obtain ⟨a1, a2, a3⟩ := h.apartG (v := p.rv) (fun k e => own_type h.regs e) (by decide) (by decide) (by decide)
  have hbox1 := rn_box h hb f2 hg
  have hlt := h.lt
  have hgb : g1 ≠ B := by
    rcases hat with e | e
    · rintro rfl; exact f2 e
    · have := hb.size; omega
  have hge : ∀ k, (k = B ∨ p.rv.ownBlock = some k) → w0.heap.size ≤ k := by
    rintro k (rfl | e)
    · exact h.lo
    · exact (h.dkR k e).1
  refine ⟨⟨{ p with rv := .slice (some ⟨g1, 0, none⟩) m cap1 }, ?_, h.g.kept hk hge a1 a2, h.ins.keptF hk (fun k e hf => ?_) a3, ?_, h.outs.keptF hk (fun k e hf => ?_) a3, h.apart, h.lo⟩, hD⟩
  · have := box_set (o := 3) hbox1 (.slice (some ⟨g1, 0, none⟩) m cap1)
    simpa [rnBox] using this
  · rcases hf with rfl | hf
    · exact f1 e
    · exact (h.rFar hf).1 e
  · subst hm; exact own_moved hown hgb
  · rcases hf with rfl | hf
    · exact f3 e
    · exact (h.rFar hf).2 e
/-- A bus more. -/
theorem rb_push {w0 wS wa w1 w2 : World} {B Bg : Nat} {p : RPl} {N : Nt} (h : RN w0 wS B Bg p N) (hb : Below wS.heap.size wS wa) {v : Value} {L : List Bus} {K : List BV} (hK : RBusAt w0 wS v L K) (hvb : v.ownBlock ≠ some B) {s : ByteArray} {la : Option Addr} {m lc : Nat} {l : List Int} (hl : URow wa la m lc l) {g cap o : Nat} {x : Value}
    (hown : w1.ownsRow w0.heap.size 111 2 (.slice (some ⟨g, 0, none⟩) (L.length + 1) cap) (L.length + 1) (bvCells K ++ [.string s, .slice la m lc])) (hg : wa.grownBy w1 v.ownBlock) (hat : v.ownBlock = some g ∨ g = wa.heap.size) (h2 : w2 = w1.setCell ⟨B, o, none⟩ x) :
    RBusRow w0 w2 (.slice (some ⟨g, 0, none⟩) (L.length + 1) cap) (L ++ [⟨s, l⟩]) := by
  subst h2
  have hlt := h.lt
  have hvt : ∀ k, v.ownBlock = some k → ∃ c, wS.heap[k]? = some (.cells c 111 (0, 0)) := fun k hk => own_type hK.own hk
  have hgb : g ≠ B := by
    rcases hat with e | e
    · rintro rfl; exact hvb e
    · have := hb.size; omega
  obtain ⟨-, -, a3⟩ := h.apartG (v := v) hvt (by decide) (by decide) (by decide)
  have hNa : ∀ k cur fz, (k = B ∨ v.ownBlock = some k) → wa.heap[k]? ≠ some (.cells cur 65 fz) := by
    intro k cur fz hp hh
    have hlk : k < wS.heap.size := by
      rcases hp with rfl | hp
      · exact hlt
      · obtain ⟨c, hc⟩ := hvt k hp; exact (Array.getElem?_eq_some_iff.1 hc).1
    rw [hb.block _ hlk] at hh
    exact a3 k cur fz hp hh
  have kS := kept_store hb hg B o x
  have ka := kept_store (Below.refl wa.heap.size wa) hg B o x
  refine ⟨K ++ [⟨s, la, m, lc⟩], ?_, by simp [hK.len], ?_⟩
  · rw [bvCells_push]
    have := own_moved (B := B) (o := o) (x := x) hown hgb
    simpa using this
  · intro i k bb e1 e2
    by_cases hi : i < K.length
    · rw [List.getElem?_append_left hi] at e1
      rw [List.getElem?_append_left (by rw [← hK.len]; exact hi)] at e2
      obtain ⟨r1, r2⟩ := hK.row i k bb e1 e2
      exact ⟨r1, r2.keptF kS a3⟩
    · have hlen := hK.len
      have hi2 := (List.getElem?_eq_some_iff.1 e1).1
      simp at hi2
      have e : i = K.length := by omega
      rw [e, List.getElem?_append_right (Nat.le_refl _)] at e1
      rw [e, hlen, List.getElem?_append_right (Nat.le_refl _)] at e2
      simp at e1 e2
      subst e1 e2
      exact ⟨rfl, hl.keptF ka hNa⟩
theorem rn_ins {w0 wS wa w1 : World} {B Bg : Nat} {p : RPl} {N : Nt} (h : RN w0 wS B Bg p N) (hb : Below wS.heap.size wS wa) {K : List BV} (hK : RBusAt w0 wS p.iv N.ins K) {s : ByteArray} {la : Option Addr} {m lc : Nat} {l : List Int} (hl : URow wa la m lc l) {g cap : Nat}
    (hown : w1.ownsRow w0.heap.size 111 2 (.slice (some ⟨g, 0, none⟩) (N.ins.length + 1) cap) (N.ins.length + 1) (bvCells K ++ [.string s, .slice la m lc])) (hg : wa.grownBy w1 p.iv.ownBlock) (hat : p.iv.ownBlock = some g ∨ g = wa.heap.size) :
    RNext w0 wS B Bg { N with ins := N.ins ++ [⟨s, l⟩] } (w1.setCell ⟨B, 2, none⟩ (.slice (some ⟨g, 0, none⟩) (N.ins.length + 1) cap)) := by
  obtain ⟨hk, hD, hB0⟩ := rn_push h hb h.dkI hg 2 (.slice (some ⟨g, 0, none⟩) (N.ins.length + 1) cap)
  obtain ⟨f1, f2, f3⟩ := h.far
  obtain ⟨a1, a2, a3⟩ := h.apartG (v := p.iv) (fun k e => h.ins.type e) (by decide) (by decide) (by decide)
  have hbox1 := rn_box h hb f1 hg
  have hrow := rb_push h hb hK f1 hl (o := 2) (x := .slice (some ⟨g, 0, none⟩) (N.ins.length + 1) cap) hown hg hat rfl
  have hge : ∀ k, (k = B ∨ p.iv.ownBlock = some k) → w0.heap.size ≤ k := by
    rintro k (rfl | e)
    · exact h.lo
    · exact (h.dkI k e).1
  have hol : ∀ k, p.ov.ownBlock = some k → k < wS.heap.size := fun k e => by obtain ⟨c, hc⟩ := h.outs.type e; exact (Array.getElem?_eq_some_iff.1 hc).1
  refine ⟨⟨{ p with iv := .slice (some ⟨g, 0, none⟩) (N.ins.length + 1) cap }, ?_, h.g.kept hk hge a1 a2, hrow, own_keptF h.regs hk (fun k e hf => ?_), h.outs.keptF hk (fun k e hf => ?_) a3, fun k e1 e2 => ?_, h.lo⟩, hD⟩
  · have := box_set (o := 2) hbox1 (.slice (some ⟨g, 0, none⟩) (N.ins.length + 1) cap)
    simpa [rnBox] using this
  · rcases hf with rfl | hf
    · exact f2 e
    · exact (h.rFar e).1 hf
  · rcases hf with rfl | hf
    · exact f3 e
    · exact h.apart k hf e
  · simp [Value.ownBlock] at e1
    subst e1
    rcases hat with h1 | h1
    · exact h.apart _ h1 e2
    · have := hol _ e2; have := hb.size; omega
theorem rn_outs {w0 wS wa w1 : World} {B Bg : Nat} {p : RPl} {N : Nt} (h : RN w0 wS B Bg p N) (hb : Below wS.heap.size wS wa) {K : List BV} (hK : RBusAt w0 wS p.ov N.outs K) {s : ByteArray} {la : Option Addr} {m lc : Nat} {l : List Int} (hl : URow wa la m lc l) {g cap : Nat}
    (hown : w1.ownsRow w0.heap.size 111 2 (.slice (some ⟨g, 0, none⟩) (N.outs.length + 1) cap) (N.outs.length + 1) (bvCells K ++ [.string s, .slice la m lc])) (hg : wa.grownBy w1 p.ov.ownBlock) (hat : p.ov.ownBlock = some g ∨ g = wa.heap.size) :
    RNext w0 wS B Bg { N with outs := N.outs ++ [⟨s, l⟩] } (w1.setCell ⟨B, 4, none⟩ (.slice (some ⟨g, 0, none⟩) (N.outs.length + 1) cap)) := by
  obtain ⟨hk, hD, hB0⟩ := rn_push h hb h.dkO hg 4 (.slice (some ⟨g, 0, none⟩) (N.outs.length + 1) cap)
  obtain ⟨f1, f2, f3⟩ := h.far
  obtain ⟨a1, a2, a3⟩ := h.apartG (v := p.ov) (fun k e => h.outs.type e) (by decide) (by decide) (by decide)
  have hbox1 := rn_box h hb f3 hg
  have hrow := rb_push h hb hK f3 hl (o := 4) (x := .slice (some ⟨g, 0, none⟩) (N.outs.length + 1) cap) hown hg hat rfl
  have hge : ∀ k, (k = B ∨ p.ov.ownBlock = some k) → w0.heap.size ≤ k := by
    rintro k (rfl | e)
    · exact h.lo
    · exact (h.dkO k e).1
  have hil : ∀ k, p.iv.ownBlock = some k → k < wS.heap.size := fun k e => by obtain ⟨c, hc⟩ := h.ins.type e; exact (Array.getElem?_eq_some_iff.1 hc).1
  refine ⟨⟨{ p with ov := .slice (some ⟨g, 0, none⟩) (N.outs.length + 1) cap }, ?_, h.g.kept hk hge a1 a2, h.ins.keptF hk (fun k e hf => ?_) a3, own_keptF h.regs hk (fun k e hf => ?_), hrow, fun k e1 e2 => ?_, h.lo⟩, hD⟩
  · have := box_set (o := 4) hbox1 (.slice (some ⟨g, 0, none⟩) (N.outs.length + 1) cap)
    simpa [rnBox] using this
  · rcases hf with rfl | hf
    · exact f1 e
    · exact h.apart k e hf
  · rcases hf with rfl | hf
    · exact f2 e
    · exact (h.rFar e).2 hf
  · simp [Value.ownBlock] at e2
    subst e2
    rcases hat with h1 | h1
    · exact h.apart _ e1 h1
    · have := hil _ e1; have := hb.size; omega
theorem rinfo_reg : (Tryz.prog.info? 114).map (fun i => (i.zero, i.size, i.bytes)) = some (some (.agg #[.int .u32 0, .int .u32 0, .int .u32 0, .bool false]), 4, 16) := by kernel_rfl
theorem rinfo_bus : (Tryz.prog.info? 111).map (fun i => (i.zero, i.size, i.bytes)) = some (some (.agg #[.string ByteArray.empty, .slice none 0 0]), 2, 40) := by kernel_rfl

set_option maxHeartbeats 1000000 in
theorem rAddReg_any {w0 w : World} {B Bg : Nat} {p : RPl} {N : Nt} (h : RN w0 w B Bg p N) (hm : N.g.nodes.length ≤ 190000) (hr : N.regs.length ≤ 10000) (i : Bool) :
    Calls Tryz.prog 106 #[.pointer (some ⟨B, 0, none⟩), .bool i] w fun e w' => (∃ v1 v2, e = .returned (.tuple #[.int .u32 v1, .int .i64 v2])) ∧ RNext w0 w B Bg (addReg N i).1 w' := by
  have hin := Lib.hid (rinput_val h.g (by omega))
  obtain ⟨ia, ic, ra, rc, oa, oc, -, -, -, c0, -, -, c3, -, -⟩ := h.cells
  have hpush := Lib.hid (fun (w2 : World) (g c : Nat) (hR : Rf w0 w2 Bg g c N.g.fold N.g.hash (N.g.nodes ++ [⟨false, 0, 0⟩])) (hk : Kept (RK w) w w2) => And.intro (h.grow (G' := inputG N.g) hR hk) hk)
  obtain ⟨i0, hi, hz0, hz1, hz2⟩ := info_parts rinfo_reg
  have hg0 : decide ((16384 : Int) ≤ (N.regs.length : Int)) = false := by simp; omega
  unfold addReg
  generalize 2 * (N.g.nodes.length : Int) = x at *
  clear h hm
  go_enter Tryz.func106, Tryz.ntmps106
  go_wp2_with (first
    | (go_at_call 110; (with_reducible refine hin.out.mono ?_); rintro e w2 ⟨rfl, g3, c4, hR3, hK3⟩; obtain ⟨hP, hK3⟩ := hpush.out _ _ _ hR3 hK3; have hP := Lib.hid hP; have hK3 := Lib.hid hK3; clear hR3 hin hpush c0 c3; obtain ⟨ja, jc, sa, sc, ta, tc, -, ev, -, d0, -, -, d3, -, fz⟩ := hP.out.cells; have f3 := fz 3; clear fz; have hne : some B ≠ (Value.slice sa N.regs.length sc).ownBlock := (by have := hP.out.far.2.1; rw [ev] at this; exact fun e => this e.symm); have hrow : Hid (w2.ownsRow w0.heap.size 114 4 (.slice sa N.regs.length sc) N.regs.length (rgCells N.regs)) := (by have := hP.out.regs; unfold RRegRow at this; rw [ev] at this; exact this); have hlb := hP.out.lt; have hs0 := hP.out.below.size; simp only [] at d0 d3 f3 hne hlb)
    | (at_builtin; refine wpList_append_lies _ rfl _ _ 107 rfl w0.heap.size 114 i0 (.agg #[.int .u32 0, .int .u32 0, .int .u32 0, .bool false]) 4 16 Tryz.underlying107 hi hz0 hz1 hz2 rfl (by decide) (.slice sa N.regs.length sc) N.regs.length (rgCells N.regs) rfl (hrow.out.alloc _) ⟨w2.heap.size, 0, none⟩ 1 1 [.int .u32 x, .int .u32 0, .int .u32 0, .bool i] rfl rfl (news_list _ _ _) (by simp [Value.oneCell']) (by decide) (by unfold maxLen; omega) (by omega) (by simp; omega) _ rfl ?_; intro g1 cap1 w7 hown1 hgrow1 hat1 hlt1; obtain ⟨x0, x1⟩ := grow_box hgrow1 (b := B) (o := 3) (v := .slice sa N.regs.length sc) (by go_simp) (by go_simp) hne))
  go_ret2
  rw [← ev] at hgrow1 hat1
  have hq := rn_regs hP.out ((Below.refl _ _).alloc (Nat.le_refl _) _) (R := N.regs ++ [⟨x, 0, 0, i⟩]) (m := N.regs.length + 1) (by simp) (by rw [rgCells_push]; exact hown1) hgrow1 hat1
  exact ⟨⟨_, _, rfl⟩, hq.1, DK.trans (DK.of_RK hK3.out) hq.2⟩

/-- A register's D and En are others now. -/
theorem rn_set {w0 w : World} {B Bg : Nat} {p : RPl} {N : Nt} (h : RN w0 w B Bg p N) {g rc n : Nat} (hv : p.rv = .slice (some ⟨g, 0, none⟩) n rc) (i : Nat) (d en : Int) :
    RNext w0 w B Bg { N with regs := N.regs.modify i (setRg d en) } ((w.setCell ⟨g, i * 4 + 1, none⟩ (.int .u32 d)).setCell ⟨g, i * 4 + 2, none⟩ (.int .u32 en)) := by
  have hr := h.regs
  unfold RRegRow at hr
  rw [hv] at hr
  obtain ⟨a2, c2, e⟩ := own_slice hr
  simp only [Value.slice.injEq] at e
  obtain ⟨-, rfl, -⟩ := e
  have h1 := hr.stored (i * 4 + 1) (.int .u32 d)
  have h2 := h1.1.stored (i * 4 + 2) (.int .u32 en)
  have hg2 := h1.2.trans h2.2
  obtain ⟨f1, f2, f3⟩ := h.far
  have hgb : g ≠ B := by
    rintro rfl
    exact f2 (by rw [hv]; rfl)
  have hk : Kept (fun k => k = B ∨ p.rv.ownBlock = some k) w ((w.setCell ⟨g, i * 4 + 1, none⟩ (.int .u32 d)).setCell ⟨g, i * 4 + 2, none⟩ (.int .u32 en)) :=
    ⟨hg2.os, hg2.tape, hg2.output, hg2.size, fun k hlt hn => hg2.block k hlt (fun e => hn (.inr (by rw [hv]; simpa [Value.ownBlock] using e.symm)))⟩
  obtain ⟨a1, a2', a3⟩ := h.apartG (v := p.rv) (fun k e => own_type h.regs e) (by decide) (by decide) (by decide)
  have hge : ∀ k, (k = B ∨ p.rv.ownBlock = some k) → w0.heap.size ≤ k := by
    rintro k (rfl | e)
    · exact h.lo
    · exact (h.dkR k e).1
  refine ⟨⟨p, ?_, h.g.kept hk hge a1 a2', h.ins.keptF hk (fun k e hf => ?_) a3, ?_, h.outs.keptF hk (fun k e hf => ?_) a3, h.apart, h.lo⟩, hk.mono (fun k hf => ?_)⟩
  · rw [hg2.block _ h.lt (by simpa using fun e => hgb e.symm)]; exact h.box
  · rcases hf with rfl | hf
    · exact f1 e
    · exact (h.rFar hf).1 e
  · show RRegRow w0 _ p.rv (N.regs.modify i (setRg d en))
    unfold RRegRow
    rw [rgCells_set, hv, List.length_modify]
    exact h2.1
  · rcases hf with rfl | hf
    · exact f3 e
    · exact (h.rFar hf).2 e
  · rcases hf with rfl | hf
    · exact ⟨_, _, _, h.box, .inr (.inr (.inl rfl))⟩
    · exact (h.dkR k hf).2
end Go.Proofs.YtafoohdndlhbnaaGreatDoor
end
