/-
  The document's own netlist (orreryref06): where it lies; what is left as it was.
  Simulations: a run that begins, what comes in, words of literals, the next run.
  Simulations: what comes in fits, or does not; what the graph's inputs have then.
-/
import Derived.Test.YtafoohdndlhbnaaGreatFSSM
import Derived.Test.YtafoohdndlhbnaaGreatFSSF
import Derived.Test.YtafoohdndlhbnaaGreatFSSL
section
namespace Go.Proofs.YtafoohdndlhbnaaGreat
open Go.RowKit Go.Maps
set_option maxRecDepth 100000

/-- The document's netlists' blocks. -/
def DT (T : Nat) : Prop := T = 122 ∨ T = 124 ∨ T = 110 ∨ T = 119 ∨ T = 112
def DK (w : World) (k : Nat) : Prop := ∃ cur T fz, w.heap[k]? = some (.cells cur T fz) ∧ DT T
theorem Kept.mono {F F' : Nat → Prop} {w w' : World} (h : Kept F w w') (hF : ∀ k, F k → F' k) : Kept F' w w' := ⟨h.os, h.tape, h.output, h.size, fun k hk hn => h.block k hk (fun hf => hn (hF k hf))⟩
theorem DK.trans {a b c : World} (h : Kept (DK a) a b) (k : Kept (DK b) b c) : Kept (DK a) a c :=
  h.trans k (fun x hx => by
    by_cases hl : x < a.heap.size
    · by_cases hn : DK a x
      · exact .inl hn
      · obtain ⟨cur, T, fz, h1, h2⟩ := hx
        rw [h.block x hl hn] at h1
        exact absurd ⟨cur, T, fz, h1, h2⟩ hn
    · exact .inr (by omega))
theorem DK.refl (w : World) : Kept (DK w) w w := Kept.refl _ _
theorem DK.of_below {w w2 : World} (h : Below w.heap.size w w2) : Kept (DK w) w w2 := Kept.of_below h
theorem DK.of_RK {w w2 : World} (h : Kept (RK w) w w2) : Kept (DK w) w w2 := h.mono (fun k ⟨cur, T, fz, h1, h2⟩ => ⟨cur, T, fz, h1, by rcases h2 with h2 | h2; exact .inl h2; exact .inr (.inl h2)⟩)
/-- F holds no block of the document's netlist. -/
def NoDoc (w : World) (F : Nat → Prop) : Prop := ∀ k cur T fz, F k → w.heap[k]? = some (.cells cur T fz) → ¬ DT T ∧ T ≠ 39
theorem NetIs.noDoc {w : World} {q : NPl} {N : Nt} (h : NetIs w q N) : NoDoc w q.has := by
  intro k cur T fz hp hk
  refine ⟨fun hT => ?_, fun hT => ?_⟩
  · rcases hT with rfl | rfl | rfl | rfl | rfl <;> exact h.other hk (by decide) (by decide) (by decide) (by decide) (by decide) (by decide) hp
  · subst hT; exact h.other hk (by decide) (by decide) (by decide) (by decide) (by decide) (by decide) hp
/-- A netlist of the program is as it was, where the document's turned. -/
theorem NetIs.asideD {w w' : World} {q : NPl} {N : Nt} (h : NetIs w q N) (hk : Kept (DK w) w w') : NetIs w' q N := by
  refine h.beside hk (fun k ⟨cur, T, fz, h1, h2⟩ hp => (h.noDoc k cur T fz hp h1).1 h2) (fun k cur fz ⟨cur2, T, fz2, h1, h2⟩ h3 => ?_)
  rw [h1] at h3
  simp at h3
  obtain ⟨-, rfl, -⟩ := h3
  rcases h2 with h2 | h2 | h2 | h2 | h2 <;> revert h2 <;> decide

/-- A row of numbers. -/
structure URow (w : World) (a : Option Addr) (n c : Nat) (l : List Int) : Prop where
  len : l.length = n
  own : w.ownsRow 0 39 1 (.slice a n c) n (l.map (Value.int .u32))
theorem URow.below {w w' : World} {a : Option Addr} {n c : Nat} {l : List Int} (h : URow w a n c l) (hb : Below w.heap.size w w') : URow w' a n c l := ⟨h.len, own_below h.own hb⟩
theorem URow.row {w : World} {a : Option Addr} {n c : Nat} {l : List Int} (h : URow w a n c l) : Row .u32 w a n l := Row.of_own h.own h.len (own_maxLen h.own)
theorem URow.keptF {F : Nat → Prop} {w w' : World} {a : Option Addr} {n c : Nat} {l : List Int} (h : URow w a n c l) (hk : Kept F w w') (hF : ∀ k cur fz, F k → w.heap[k]? ≠ some (.cells cur 39 fz)) : URow w' a n c l :=
  ⟨h.len, own_keptF h.own hk (fun k e hf => by obtain ⟨cur, hh⟩ := own_type h.own e; exact hF k cur _ hf hh)⟩
theorem DK.noU {w : World} : ∀ k cur fz, DK w k → w.heap[k]? ≠ some (.cells cur 39 fz) := by
  intro k cur fz ⟨cur2, T, fz2, h1, h2⟩ h3
  rw [h1] at h3
  simp at h3
  obtain ⟨-, rfl, -⟩ := h3
  rcases h2 with h2 | h2 | h2 | h2 | h2 <;> revert h2 <;> decide

structure RBusAt (w0 w : World) (v : Value) (L : List Bus) (K : List BV) : Prop where
  own : w.ownsRow w0.heap.size 119 2 v L.length (bvCells K)
  len : K.length = L.length
  row : ∀ (i : Nat) (k : BV) (b : Bus), K[i]? = some k → L[i]? = some b → k.name = b.name ∧ URow w k.a k.n k.c b.lits
def RBusRow (w0 w : World) (v : Value) (L : List Bus) : Prop := ∃ K, RBusAt w0 w v L K
theorem RBusRow.nil (w0 w : World) : RBusRow w0 w (.slice none 0 0) [] := ⟨[], ⟨rfl, .inl ⟨rfl, rfl⟩⟩, rfl, fun i k b h => by simp at h⟩
theorem RBusAt.below {w0 w w' : World} {v : Value} {L : List Bus} {K : List BV} (h : RBusAt w0 w v L K) (hb : Below w.heap.size w w') : RBusAt w0 w' v L K :=
  ⟨own_below h.own hb, h.len, fun i k b e1 e2 => ⟨(h.row i k b e1 e2).1, (h.row i k b e1 e2).2.below hb⟩⟩
theorem RBusRow.below {w0 w w' : World} {v : Value} {L : List Bus} (h : RBusRow w0 w v L) (hb : Below w.heap.size w w') : RBusRow w0 w' v L := let ⟨K, hK⟩ := h; ⟨K, hK.below hb⟩
theorem RBusAt.keptF {F : Nat → Prop} {w0 w w' : World} {v : Value} {L : List Bus} {K : List BV} (h : RBusAt w0 w v L K) (hk : Kept F w w') (hn : ∀ k, v.ownBlock = some k → ¬ F k) (hF : ∀ k cur fz, F k → w.heap[k]? ≠ some (.cells cur 39 fz)) : RBusAt w0 w' v L K :=
  ⟨own_keptF h.own hk hn, h.len, fun i k b e1 e2 => ⟨(h.row i k b e1 e2).1, (h.row i k b e1 e2).2.keptF hk hF⟩⟩
theorem RBusRow.keptF {F : Nat → Prop} {w0 w w' : World} {v : Value} {L : List Bus} (h : RBusRow w0 w v L) (hk : Kept F w w') (hn : ∀ k, v.ownBlock = some k → ¬ F k) (hF : ∀ k cur fz, F k → w.heap[k]? ≠ some (.cells cur 39 fz)) : RBusRow w0 w' v L := let ⟨K, hK⟩ := h; ⟨K, hK.keptF hk hn hF⟩
theorem RBusRow.at {w0 w : World} {a : Option Addr} {n c : Nat} {L : List Bus} (h : RBusRow w0 w (.slice a n c) L) {j : Nat} (hj : j < L.length) :
    ∃ (g : Nat) (la : Option Addr) (lc : Nat), a = some ⟨g, 0, none⟩ ∧ g < w.heap.size ∧ w.cell? ⟨g, j * 2, none⟩ = some (.string L[j].name) ∧ w.cell? ⟨g, j * 2 + 1, none⟩ = some (.slice la L[j].lits.length lc) ∧ URow w la L[j].lits.length lc L[j].lits := by
  obtain ⟨K, hK⟩ := h
  obtain ⟨g, cap, e⟩ := own_form hK.own (by omega)
  have ho := hK.own
  rw [e] at ho
  have hl := bvCells_len K
  have hjK : j < K.length := by rw [hK.len]; exact hj
  obtain ⟨e0, e1⟩ := bvCells_at K j K[j] (List.getElem?_eq_getElem hjK)
  obtain ⟨n1, n2⟩ := hK.row j K[j] L[j] (List.getElem?_eq_getElem hjK) (List.getElem?_eq_getElem hj)
  have hn := n2.len
  simp only [Value.slice.injEq] at e
  refine ⟨g, K[j].a, K[j].c, e.1, own_lt ho, ?_, ?_, ?_⟩
  · rw [ho.cellAt _ (by omega), Nat.mul_comm j 2, e0, n1]
  · rw [ho.cellAt _ (by omega), Nat.mul_comm j 2, e1, hn]
  · rw [hn]; exact n2
theorem RBusRow.slice {w0 w : World} {v : Value} {L : List Bus} (h : RBusRow w0 w v L) : ∃ a c, v = .slice a L.length c := by
  obtain ⟨K, hK⟩ := h
  exact own_slice hK.own
theorem RBusRow.type {w0 w : World} {v : Value} {L : List Bus} (h : RBusRow w0 w v L) {k : Nat} (hk : v.ownBlock = some k) : ∃ cur, w.heap[k]? = some (.cells cur 119 (0, 0)) := by
  obtain ⟨K, hK⟩ := h
  exact own_type hK.own hk
def RRegRow (w0 w : World) (v : Value) (R : List Rg) : Prop := w.ownsRow w0.heap.size 112 4 v R.length (rgCells R)
theorem RRegRow.at {w0 w : World} {a : Option Addr} {n c : Nat} {R : List Rg} (h : RRegRow w0 w (.slice a n c) R) {j : Nat} (hj : j < R.length) :
    ∃ g : Nat, a = some ⟨g, 0, none⟩ ∧ g < w.heap.size ∧ w.cell? ⟨g, j * 4, none⟩ = some (.int .u32 R[j].q) ∧ w.cell? ⟨g, j * 4 + 1, none⟩ = some (.int .u32 R[j].d) ∧ w.cell? ⟨g, j * 4 + 2, none⟩ = some (.int .u32 R[j].en) ∧ w.cell? ⟨g, j * 4 + 3, none⟩ = some (.bool R[j].init) := by
  obtain ⟨g, cap, e⟩ := own_form h (by omega)
  unfold RRegRow at h
  rw [e] at h
  have hl := rgCells_len R
  obtain ⟨e0, e1, e2, e3⟩ := rgCells_at R j R[j] (List.getElem?_eq_getElem hj)
  simp only [Value.slice.injEq] at e
  refine ⟨g, e.1, own_lt h, ?_, ?_, ?_, ?_⟩
  · rw [h.cellAt _ (by omega), Nat.mul_comm j 4, e0]
  · rw [h.cellAt _ (by omega), Nat.mul_comm j 4, e1]
  · rw [h.cellAt _ (by omega), Nat.mul_comm j 4, e2]
  · rw [h.cellAt _ (by omega), Nat.mul_comm j 4, e3]

/-- Where the document's netlist lies. -/
structure RPl where
  g : Nat
  c : Nat
  iv : Value
  rv : Value
  ov : Value
def rnBox (Bg : Nat) (s : ByteArray) (p : RPl) : Obj := .cells #[.pointer (some ⟨Bg, 0, none⟩), .string s, p.iv, p.rv, p.ov] 110 (0, 0)
structure RN (w0 w : World) (B Bg : Nat) (p : RPl) (N : Nt) : Prop where
  box : w.heap[B]? = some (rnBox Bg N.name p)
  g : Rf w0 w Bg p.g p.c N.g.fold N.g.hash N.g.nodes
  ins : RBusRow w0 w p.iv N.ins
  regs : RRegRow w0 w p.rv N.regs
  outs : RBusRow w0 w p.ov N.outs
  apart : ∀ k, p.iv.ownBlock = some k → p.ov.ownBlock ≠ some k
  lo : w0.heap.size ≤ B
theorem RN.below {w0 w : World} {B Bg : Nat} {p : RPl} {N : Nt} (h : RN w0 w B Bg p N) : Below w0.heap.size w0 w := h.g.below
theorem RN.lt {w0 w : World} {B Bg : Nat} {p : RPl} {N : Nt} (h : RN w0 w B Bg p N) : B < w.heap.size := (Array.getElem?_eq_some_iff.1 h.box).1
theorem RN.step {w0 w w2 : World} {B Bg : Nat} {p : RPl} {N : Nt} (h : RN w0 w B Bg p N) (hb : Below w.heap.size w w2) : RN w0 w2 B Bg p N :=
  ⟨(hb.block _ h.lt).trans h.box, h.g.step hb, h.ins.below hb, own_below h.regs hb, h.outs.below hb, h.apart, h.lo⟩
/-- The cells of the netlist's own struct. -/
theorem RN.cells {w0 w : World} {B Bg : Nat} {p : RPl} {N : Nt} (h : RN w0 w B Bg p N) :
    ∃ (ia : Option Addr) (ic : Nat) (ra : Option Addr) (rc : Nat) (oa : Option Addr) (oc : Nat), p.iv = .slice ia N.ins.length ic ∧ p.rv = .slice ra N.regs.length rc ∧ p.ov = .slice oa N.outs.length oc ∧
      w.cell? ⟨B, 0, none⟩ = some (.pointer (some ⟨Bg, 0, none⟩)) ∧ w.cell? ⟨B, 1, none⟩ = some (.string N.name) ∧ w.cell? ⟨B, 2, none⟩ = some (.slice ia N.ins.length ic) ∧ w.cell? ⟨B, 3, none⟩ = some (.slice ra N.regs.length rc) ∧ w.cell? ⟨B, 4, none⟩ = some (.slice oa N.outs.length oc)
      ∧ ∀ o, w.frozen? ⟨B, o, none⟩ = false := by
  have hb := h.box
  obtain ⟨ia, ic, e1⟩ := h.ins.slice
  obtain ⟨ra, rc, e2⟩ := own_slice h.regs
  obtain ⟨oa, oc, e3⟩ := h.outs.slice
  refine ⟨ia, ic, ra, rc, oa, oc, e1, e2, e3, ?_, ?_, ?_, ?_, ?_, fun o => ?_⟩ <;> simp [World.cell?, World.frozen?, hb, rnBox, e1, e2, e3]
theorem RN.far {w0 w : World} {B Bg : Nat} {p : RPl} {N : Nt} (h : RN w0 w B Bg p N) : p.iv.ownBlock ≠ some B ∧ p.rv.ownBlock ≠ some B ∧ p.ov.ownBlock ≠ some B := by
  have hb := h.box
  refine ⟨?_, ?_, ?_⟩
  · intro e; obtain ⟨c, hc⟩ := h.ins.type e; rw [hc] at hb; simp [rnBox] at hb
  · intro e; obtain ⟨c, hc⟩ := own_type h.regs e; rw [hc] at hb; simp [rnBox] at hb
  · intro e; obtain ⟨c, hc⟩ := h.outs.type e; rw [hc] at hb; simp [rnBox] at hb
theorem RN.rFar {w0 w : World} {B Bg : Nat} {p : RPl} {N : Nt} (h : RN w0 w B Bg p N) {k : Nat} (hk : p.rv.ownBlock = some k) : p.iv.ownBlock ≠ some k ∧ p.ov.ownBlock ≠ some k := by
  obtain ⟨c, hc⟩ := own_type h.regs hk
  refine ⟨?_, ?_⟩
  · intro e; obtain ⟨d, hd⟩ := h.ins.type e; rw [hc] at hd; simp at hd
  · intro e; obtain ⟨d, hd⟩ := h.outs.type e; rw [hc] at hd; simp at hd
/-- As it was, where what turned is none of the document's. -/
theorem RN.kept {w0 w w2 : World} {B Bg : Nat} {p : RPl} {N : Nt} (h : RN w0 w B Bg p N) {K : Nat → Prop} (hk : Kept K w w2) (hK : ∀ k, K k → w0.heap.size ≤ k) (hT : NoDoc w K) : RN w0 w2 B Bg p N := by
  have nB : ¬ K B := fun hf => (hT _ _ _ _ hf h.box).1 (.inr (.inr (.inl rfl)))
  have nG : ¬ K Bg := fun hf => (hT _ _ _ _ hf h.g.box).1 (.inl rfl)
  have ng : ¬ K p.g := fun hf => by obtain ⟨c, hc⟩ := h.g.gty; exact (hT _ _ _ _ hf hc).1 (.inr (.inl rfl))
  have hU : ∀ k cur fz, K k → w.heap[k]? ≠ some (.cells cur 39 fz) := fun k cur fz hf hh => (hT _ _ _ _ hf hh).2 rfl
  refine ⟨(hk.block _ h.lt nB).trans h.box, h.g.kept hk hK nG ng, h.ins.keptF hk (fun k e hf => ?_) hU, own_keptF h.regs hk (fun k e hf => ?_), h.outs.keptF hk (fun k e hf => ?_) hU, h.apart, h.lo⟩
  · obtain ⟨c, hc⟩ := h.ins.type e; exact (hT _ _ _ _ hf hc).1 (.inr (.inr (.inr (.inl rfl))))
  · obtain ⟨c, hc⟩ := own_type h.regs e; exact (hT _ _ _ _ hf hc).1 (.inr (.inr (.inr (.inr rfl))))
  · obtain ⟨c, hc⟩ := h.outs.type e; exact (hT _ _ _ _ hf hc).1 (.inr (.inr (.inr (.inl rfl))))
/-- What a call of the document's netlist comes to. -/
def RNext (w0 w : World) (B Bg : Nat) (N' : Nt) (w' : World) : Prop := (∃ p', RN w0 w' B Bg p' N') ∧ Kept (DK w) w w'
theorem RNext.of_below {w0 w w' : World} {B Bg : Nat} {p : RPl} {N : Nt} (h : RN w0 w B Bg p N) (hb : Below w.heap.size w w') : RNext w0 w B Bg N w' := ⟨⟨p, h.step hb⟩, DK.of_below hb⟩
theorem RNext.front {w0 w w1 w' : World} {B Bg : Nat} {N' : Nt} (hb : Below w.heap.size w w1) (h : RNext w0 w1 B Bg N' w') : RNext w0 w B Bg N' w' := ⟨h.1, DK.trans (DK.of_below hb) h.2⟩
theorem RNext.then {w0 w w1 w' : World} {B Bg : Nat} {N' : Nt} (h : RNext w0 w B Bg N' w1) (hb : Below w1.heap.size w1 w') : RNext w0 w B Bg N' w' := ⟨let ⟨p, hp⟩ := h.1; ⟨p, hp.step hb⟩, DK.trans h.2 (DK.of_below hb)⟩
/-- The graph grows. -/
theorem RN.grow {w0 w w' : World} {B Bg g c : Nat} {p : RPl} {N : Nt} {G' : Gr} (h : RN w0 w B Bg p N) (hR : Rf w0 w' Bg g c G'.fold G'.hash G'.nodes) (hk : Kept (RK w) w w') : RN w0 w' B Bg { p with g := g, c := c } { N with g := G' } := by
  have n1 : ∀ {k cur T fz}, w.heap[k]? = some (.cells cur T fz) → T ≠ 122 → T ≠ 124 → ¬ RK w k := by
    rintro k cur T fz h1 t1 t2 ⟨cur2, T2, fz2, h2, h3⟩
    rw [h1] at h2; simp at h2
    obtain ⟨-, rfl, -⟩ := h2
    rcases h3 with h3 | h3
    · exact t1 h3
    · exact t2 h3
  have hU : ∀ k cur fz, RK w k → w.heap[k]? ≠ some (.cells cur 39 fz) := fun k cur fz hf hh => n1 hh (by decide) (by decide) hf
  refine ⟨(hk.block _ h.lt (n1 h.box (by decide) (by decide))).trans h.box, hR, h.ins.keptF hk (fun k e => ?_) hU, own_keptF h.regs hk (fun k e => ?_), h.outs.keptF hk (fun k e => ?_) hU, h.apart, h.lo⟩
  · obtain ⟨c, hc⟩ := h.ins.type e; exact n1 hc (by decide) (by decide)
  · obtain ⟨c, hc⟩ := own_type h.regs e; exact n1 hc (by decide) (by decide)
  · obtain ⟨c, hc⟩ := h.outs.type e; exact n1 hc (by decide) (by decide)
theorem RN.growN {w0 w w' : World} {B Bg g c : Nat} {p : RPl} {N : Nt} {G' : Gr} (h : RN w0 w B Bg p N) (hR : Rf w0 w' Bg g c G'.fold G'.hash G'.nodes) (hk : Kept (RK w) w w') : RNext w0 w B Bg { N with g := G' } w' := ⟨⟨_, h.grow hR hk⟩, DK.of_RK hk⟩

/-- A store into the netlist's own box, behind an append to one of its rows. -/
theorem rn_push {w0 wS wa w1 : World} {B Bg : Nat} {p : RPl} {N : Nt} (h : RN w0 wS B Bg p N) (hb : Below wS.heap.size wS wa) {v : Value} (hv : ∀ k, v.ownBlock = some k → w0.heap.size ≤ k ∧ DK wS k)
    (hg : wa.grownBy w1 v.ownBlock) (o : Nat) (x : Value) :
    Kept (fun k => k = B ∨ v.ownBlock = some k) wS (w1.setCell ⟨B, o, none⟩ x) ∧ Kept (DK wS) wS (w1.setCell ⟨B, o, none⟩ x) ∧ Below w0.heap.size w0 (w1.setCell ⟨B, o, none⟩ x) := by
  have hk : Kept (fun k => k = B ∨ v.ownBlock = some k) wS (w1.setCell ⟨B, o, none⟩ x) :=
    ⟨hg.os.trans hb.os, hg.tape.trans hb.tape, hg.output.trans hb.output, by have := hg.size; have := hb.size; simp [World.setCell]; omega, fun k hk hn => by
      have n1 : k ≠ B := fun e => hn (.inl e)
      have n2 : some k ≠ v.ownBlock := fun e => hn (.inr e.symm)
      rw [Below.heap_setCell _ _ _ _ n1, hg.block k (by have := hb.size; omega) n2, hb.block k hk]⟩
  refine ⟨hk, hk.mono (fun k hf => ?_), h.below.trans (hk.below (fun k hf => ?_) h.below.size)⟩
  · rcases hf with rfl | hf
    · exact ⟨_, _, _, h.box, .inr (.inr (.inl rfl))⟩
    · exact (hv k hf).2
  · rcases hf with rfl | hf
    · exact h.lo
    · exact (hv k hf).1
theorem own_moved {w1 : World} {base T size n g cap : Nat} {xs : List Value} {B o : Nat} {x : Value} (h : w1.ownsRow base T size (.slice (some ⟨g, 0, none⟩) n cap) n xs) (hg : g ≠ B) : (w1.setCell ⟨B, o, none⟩ x).ownsRow base T size (.slice (some ⟨g, 0, none⟩) n cap) n xs := by
  refine ⟨h.1, ?_⟩
  rcases h.2 with h0 | ⟨g', cap', cur', hv', hg', hh, r⟩
  · exact .inl h0
  · simp at hv'
    obtain ⟨rfl, rfl⟩ := hv'
    exact .inr ⟨_, _, cur', rfl, hg', by rw [Below.heap_setCell _ _ _ _ hg]; exact hh, r⟩
end Go.Proofs.YtafoohdndlhbnaaGreat
end

section
namespace Go.Proofs.YtafoohdndlhbnaaGreat
open Go.RowKit Go.Maps Bits Num
set_option maxRecDepth 100000

theorem keptc {F : Nat → Prop} {w w' : World} (hk : Kept F w w') {b o : Nat} {v : Value} (hn : ¬ F b) (c : w.cell? ⟨b, o, none⟩ = some v) : w'.cell? ⟨b, o, none⟩ = some v := by
  have hb := World.block_lt_of_cell? w _ c
  have := hk.block b hb hn
  unfold World.cell? at c ⊢
  simp only [this]
  exact c
theorem row_map {α : Type} (L : List α) (z : α) (f : α → Int) : row L.length (fun j => f (L.getD j z)) = L.map f := by
  apply List.ext_getElem
  · simp [row]
  · intro i h1 h2
    simp [row] at h1
    simp [row, List.getD, h1]
theorem begun_any {w : World} {q : NPl} {N : Nt} (h : NetIs w q N) (hS : Small N) :
    Calls Tryz.prog 33 #[.pointer (some ⟨q.b, 0, none⟩)] w fun e w' => ∃ g : Nat, e = .returned (.agg #[.pointer (some ⟨q.b, 0, none⟩), .slice (some ⟨g, 0, none⟩) N.regs.length N.regs.length, .slice none 0 0, .int .i64 0]) ∧ WR w' (some ⟨g, 0, none⟩) N.regs.length N.regs.length (iniR N.regs) ∧ w.heap.size ≤ g ∧ Below w.heap.size w w' := by
  obtain ⟨ia, ic, ra, rc, oa, oc, -, ev, -, c0, -, -, c3, -, -⟩ := h.cells
  have hlt := h.lt
  have hsr := hS.regs
  have hb : Below w.heap.size w (w.alloc (.cells #[.pointer none, .slice none 0 0, .slice none 0 0, .int .i64 0] 93)) := (Below.refl _ _).alloc (Nat.le_refl _) _
  have hea := Lib.hid (each_begun (a := ra) (c := rc) (by have := (h.below hb).regs; rw [ev] at this; exact this) rfl (by omega))
  have hd3 := stepc hb hlt c3
  have hrow : row N.regs.length (fun j => iniW (rgOf N.regs j)) = iniR N.regs := row_map _ _ _
  rw [hrow] at hea
  have hlen : Hid ((iniR N.regs).length = N.regs.length) := Lib.hid (by simp [iniR])
  have hwd : Hid (Words (iniR N.regs)) := Lib.hid (words_map _ _ iniW_bd)
  have k0 : (w.alloc (.cells #[.pointer none, .slice none 0 0, .slice none 0 0, .int .i64 0] 93)).cell? ⟨w.heap.size, 0, none⟩ = some (.pointer none) := by simp [go_sem]
  have k1 : (w.alloc (.cells #[.pointer none, .slice none 0 0, .slice none 0 0, .int .i64 0] 93)).cell? ⟨w.heap.size, 1, none⟩ = some (.slice none 0 0) := by simp [go_sem]
  have k2 : (w.alloc (.cells #[.pointer none, .slice none 0 0, .slice none 0 0, .int .i64 0] 93)).cell? ⟨w.heap.size, 2, none⟩ = some (.slice none 0 0) := by simp [go_sem]
  have k3 : (w.alloc (.cells #[.pointer none, .slice none 0 0, .slice none 0 0, .int .i64 0] 93)).cell? ⟨w.heap.size, 3, none⟩ = some (.int .i64 0) := by simp [go_sem]
  have kf : ∀ o, (w.alloc (.cells #[.pointer none, .slice none 0 0, .slice none 0 0, .int .i64 0] 93)).frozen? ⟨w.heap.size, o, none⟩ = false := fun o => by simp [go_sem]
  have hb := Lib.hid hb
  clear h hrow
  generalize hw1 : w.alloc (.cells #[.pointer none, .slice none 0 0, .slice none 0 0, .int .i64 0] 93) = w1 at *
  have hz : w.heap.size < w1.heap.size := World.block_lt_of_cell? w1 _ k0
  generalize iniR N.regs = I at *
  generalize N.regs.length = n at *
  go_enter Tryz.func33, Tryz.ntmps33
  go_wp2_with (go_at_call 79; (with_reducible refine hea.out.mono ?_); rintro e w2 ⟨rfl, ho, hb2⟩; have m0 := stepc hb2 hz k0; have m1 := stepc hb2 hz k1; have m2 := stepc hb2 hz k2; have m3 := stepc hb2 hz k3; have f0 := stepf hb2 hz (kf 0); have f1 := stepf hb2 hz (kf 1); have f2 := stepf hb2 hz (kf 2); have f3 := stepf hb2 hz (kf 3); have ho := Lib.hid ho; have hb2 := Lib.hid hb2)
  have hb3 : Below w.heap.size w ((((w2.setCell ⟨w.heap.size, 0, none⟩ (.pointer (some ⟨q.b, 0, none⟩))).setCell ⟨w.heap.size, 1, none⟩ (.slice (some ⟨w1.heap.size, 0, none⟩) n n)).setCell ⟨w.heap.size, 2, none⟩ (.slice none 0 0)).setCell ⟨w.heap.size, 3, none⟩ (.int .i64 0)) := ((((nextw hb.out hb2.out).setCell (Nat.le_refl _) _).setCell (Nat.le_refl _) _).setCell (Nat.le_refl _) _).setCell (Nat.le_refl _) _
  have ho3 : WR ((((w2.setCell ⟨w.heap.size, 0, none⟩ (.pointer (some ⟨q.b, 0, none⟩))).setCell ⟨w.heap.size, 1, none⟩ (.slice (some ⟨w1.heap.size, 0, none⟩) n n)).setCell ⟨w.heap.size, 2, none⟩ (.slice none 0 0)).setCell ⟨w.heap.size, 3, none⟩ (.int .i64 0)) (some ⟨w1.heap.size, 0, none⟩) n n I := ⟨hlen.out, own_moved (own_moved (own_moved (own_moved (own_base ho.out (Nat.zero_le _)) (by omega)) (by omega)) (by omega)) (by omega), hwd.out⟩
  refine bodyPost_ret (v := .agg #[.pointer (some ⟨q.b, 0, none⟩), .slice (some ⟨w1.heap.size, 0, none⟩) n n, .slice none 0 0, .int .i64 0]) (by simp [results, Tryz.results33, go_sem, *]) rfl ⟨w1.heap.size, rfl, ho3, by omega, hb3⟩

theorem regs_lit {N : Nt} {rest : List Int} (hg : Good N rest) (hS : Small N) : ∀ r ∈ N.regs, IsLit r.q ∧ IsLit r.d ∧ IsLit r.en := by
  intro r hr
  have hq : r.q ∈ takenN N := List.mem_append.2 (.inr (List.mem_map.2 ⟨r, hr, rfl⟩))
  obtain ⟨i, e, h0, h1, -⟩ := inLits_mem hg.wf (hg.drv.mem_iff.1 (List.mem_append.2 (.inl hq)))
  have := hS.g
  exact ⟨by unfold IsLit; omega, (hg.regT r hr).1.1, (hg.regT r hr).2.1⟩
theorem rwords_any {w : World} {pv : Value} {ha : Option Addr} {hn hc : Nat} {la : Option Addr} {ln lc : Nat} {cy : Int} {last : List Int} (hL : Row .u64 w la ln last) (hw : Words last) {a : Option Addr} {n c : Nat} {l : List Int} (hl : Row .u32 w a n l) (hlit : ∀ x ∈ l, IsLit x) (hm : n ≤ 400000) {pb : Option Addr} (hp : pv = .pointer pb) :
    Calls Tryz.prog 50 #[.agg #[pv, .slice ha hn hc, .slice la ln lc, .int .i64 cy], .slice a n c] w fun e w' => ∃ g : Nat, e = .returned (.slice (some ⟨g, 0, none⟩) n n) ∧ WR w' (some ⟨g, 0, none⟩) n n (l.map (fun x => wordV x last)) ∧ w.heap.size ≤ g ∧ Below w.heap.size w w' := by
  subst hp
  have hb : Below w.heap.size w (w.alloc (.cells #[.pointer pb, .slice ha hn hc, .slice la ln lc, .int .i64 cy] 93)) := (Below.refl _ _).alloc (Nat.le_refl _) _
  have hea := Lib.hid (each_lit (c := c) (hl.step hb) hm hlit (p := w.heap.size) (wa := la) (wn := ln) (wc := lc) (by simp) (by simp [go_sem]) (hL.step hb) hw)
  have hrow : row n (fun j => wordV (l.getD j 0) last) = l.map (fun x => wordV x last) := by rw [← hl.len]; exact row_map l 0 (fun x => wordV x last)
  rw [hrow] at hea
  have hlen : Hid ((l.map (fun x => wordV x last)).length = n) := Lib.hid (by simp [hl.len])
  have hwd : Hid (Words (l.map (fun x => wordV x last))) := Lib.hid (words_map _ _ (fun x => wordV_bd hw x))
  have hb := Lib.hid hb
  clear hl hL hrow hlit
  generalize l.map (fun x => wordV x last) = V at *
  go_enter Tryz.func50, Tryz.ntmps50
  go_wp2_with (go_at_call 98; (with_reducible refine hea.out.mono ?_); rintro e w2 ⟨rfl, ho, hb2⟩; have ho := Lib.hid ho; have hb2 := Lib.hid hb2)
  go_ret
  have ho2 : w2.ownsRow (w.heap.size + 1) 62 1 (.slice (some ⟨w.heap.size + 1, 0, none⟩) n n) n (V.map (Value.int .u64)) := by simpa using ho.out
  exact ⟨_, rfl, ⟨hlen.out, own_base ho2 (Nat.zero_le _), hwd.out⟩, by omega, nextw hb.out hb2.out⟩
set_option maxHeartbeats 2000000 in
theorem next_any {w : World} {q : NPl} {N : Nt} (h : NetIs w q N) (hg : Good N []) (hS : Small N) {ha : Option Addr} {hn hc : Nat} {la : Option Addr} {ln lc : Nat} {cy : Nat} (hcy : cy ≤ 1000000) {wa : Option Addr} {wn wc : Nat} {ws : List Int} (hW : WR w wa wn wc ws) :
    Calls Tryz.prog 49 #[.agg #[.pointer (some ⟨q.b, 0, none⟩), .slice ha hn hc, .slice la ln lc, .int .i64 cy], .slice wa wn wc] w fun e w' => ∃ g : Nat, e = .returned (.agg #[.pointer (some ⟨q.b, 0, none⟩), .slice (some ⟨g, 0, none⟩) N.regs.length N.regs.length, .slice wa wn wc, .int .i64 ((cy + 1 : Nat) : Int)]) ∧ WR w' (some ⟨g, 0, none⟩) N.regs.length N.regs.length (nxR N ws) ∧ w.heap.size ≤ g ∧ Below w.heap.size w w' := by
  obtain ⟨ia, ic, ra, rc, oa, oc, -, ev, -, c0, -, -, c3, -, -⟩ := h.cells
  have hlt := h.lt
  have hsr := hS.regs
  have hb : Below w.heap.size w (((w.alloc (.cells #[.pointer (some ⟨q.b, 0, none⟩), .slice ha hn hc, .slice la ln lc, .int .i64 cy] 93)).alloc (.cells #[.slice wa wn wc] 44)).alloc (.cells #[.pointer none, .slice none 0 0, .slice none 0 0, .int .i64 0] 93)) := (((Below.refl _ _).alloc (Nat.le_refl _) _).alloc (by simp) _).alloc (by simp; omega) _
  have hrow : row N.regs.length (fun j => nxW ws (rgOf N.regs j)) = nxR N ws := row_map _ _ _
  have k0 : (((w.alloc (.cells #[.pointer (some ⟨q.b, 0, none⟩), .slice ha hn hc, .slice la ln lc, .int .i64 cy] 93)).alloc (.cells #[.slice wa wn wc] 44)).alloc (.cells #[.pointer none, .slice none 0 0, .slice none 0 0, .int .i64 0] 93)).cell? ⟨w.heap.size, 0, none⟩ = some (.pointer (some ⟨q.b, 0, none⟩)) := by simp [go_sem]
  have k3 : (((w.alloc (.cells #[.pointer (some ⟨q.b, 0, none⟩), .slice ha hn hc, .slice la ln lc, .int .i64 cy] 93)).alloc (.cells #[.slice wa wn wc] 44)).alloc (.cells #[.pointer none, .slice none 0 0, .slice none 0 0, .int .i64 0] 93)).cell? ⟨w.heap.size, 3, none⟩ = some (.int .i64 cy) := by simp [go_sem]
  have k4 : (((w.alloc (.cells #[.pointer (some ⟨q.b, 0, none⟩), .slice ha hn hc, .slice la ln lc, .int .i64 cy] 93)).alloc (.cells #[.slice wa wn wc] 44)).alloc (.cells #[.pointer none, .slice none 0 0, .slice none 0 0, .int .i64 0] 93)).cell? ⟨w.heap.size + 1, 0, none⟩ = some (.slice wa wn wc) := by simp [go_sem]
  have n0 : (((w.alloc (.cells #[.pointer (some ⟨q.b, 0, none⟩), .slice ha hn hc, .slice la ln lc, .int .i64 cy] 93)).alloc (.cells #[.slice wa wn wc] 44)).alloc (.cells #[.pointer none, .slice none 0 0, .slice none 0 0, .int .i64 0] 93)).cell? ⟨w.heap.size + 1 + 1, 0, none⟩ = some (.pointer none) := by simp [go_sem]
  have n1 : (((w.alloc (.cells #[.pointer (some ⟨q.b, 0, none⟩), .slice ha hn hc, .slice la ln lc, .int .i64 cy] 93)).alloc (.cells #[.slice wa wn wc] 44)).alloc (.cells #[.pointer none, .slice none 0 0, .slice none 0 0, .int .i64 0] 93)).cell? ⟨w.heap.size + 1 + 1, 1, none⟩ = some (.slice none 0 0) := by simp [go_sem]
  have n2 : (((w.alloc (.cells #[.pointer (some ⟨q.b, 0, none⟩), .slice ha hn hc, .slice la ln lc, .int .i64 cy] 93)).alloc (.cells #[.slice wa wn wc] 44)).alloc (.cells #[.pointer none, .slice none 0 0, .slice none 0 0, .int .i64 0] 93)).cell? ⟨w.heap.size + 1 + 1, 2, none⟩ = some (.slice none 0 0) := by simp [go_sem]
  have n3 : (((w.alloc (.cells #[.pointer (some ⟨q.b, 0, none⟩), .slice ha hn hc, .slice la ln lc, .int .i64 cy] 93)).alloc (.cells #[.slice wa wn wc] 44)).alloc (.cells #[.pointer none, .slice none 0 0, .slice none 0 0, .int .i64 0] 93)).cell? ⟨w.heap.size + 1 + 1, 3, none⟩ = some (.int .i64 0) := by simp [go_sem]
  have nf : ∀ o, (((w.alloc (.cells #[.pointer (some ⟨q.b, 0, none⟩), .slice ha hn hc, .slice la ln lc, .int .i64 cy] 93)).alloc (.cells #[.slice wa wn wc] 44)).alloc (.cells #[.pointer none, .slice none 0 0, .slice none 0 0, .int .i64 0] 93)).frozen? ⟨w.heap.size + 1 + 1, o, none⟩ = false := fun o => by simp [go_sem]
  have hlen : Hid ((nxR N ws).length = N.regs.length) := Lib.hid (by simp [nxR])
  have hwd : Hid (Words (nxR N ws)) := Lib.hid (words_map _ _ (fun r => nxW_bd hW.words r))
  have hd3 := stepc hb hlt c3
  generalize hw1 : ((w.alloc (.cells #[.pointer (some ⟨q.b, 0, none⟩), .slice ha hn hc, .slice la ln lc, .int .i64 cy] 93)).alloc (.cells #[.slice wa wn wc] 44)).alloc (.cells #[.pointer none, .slice none 0 0, .slice none 0 0, .int .i64 0] 93) = w1 at *
  have hea := Lib.hid (fun w2 (hb2 : Below w1.heap.size w1 w2) => each_next (w := w2) (a := ra) (c := rc) (by have := ((h.below hb).below hb2).regs; rw [ev] at this; exact this) rfl (by omega) (regs_lit hg hS) (p := w.heap.size + 1) (wa := wa) (wn := wn) (wc := wc) (Nat.lt_of_lt_of_le (World.block_lt_of_cell? w1 _ k4) hb2.size) (stepc hb2 (World.block_lt_of_cell? w1 _ k4) k4) ((hW.row.step hb).step hb2) hW.words)
  rw [hrow] at hea
  have z0 : w.heap.size < w1.heap.size := World.block_lt_of_cell? w1 _ k0
  have z1 : w.heap.size + 1 < w1.heap.size := World.block_lt_of_cell? w1 _ k4
  have z2 : w.heap.size + 1 + 1 < w1.heap.size := World.block_lt_of_cell? w1 _ n0
  have zq : q.b < w1.heap.size := World.block_lt_of_cell? w1 _ hd3
  have hwr : IntKind.i64.wrap ((cy : Int) + 1) = (cy : Int) + 1 := IntWalk.i64_in _ (by omega)
  have hdr := Lib.hid ((Below.refl w1.heap.size w1).drew)
  have hb := Lib.hid hb
  have x1 : ¬ (w.heap.size = w.heap.size + 1 + 1) := by omega
  have x2 : ¬ (w.heap.size + 1 = w.heap.size + 1 + 1) := by omega
  have x3 : ¬ (q.b = w.heap.size + 1 + 1) := by omega
  have x4 : ¬ (w.heap.size + 1 + 1 = w.heap.size) := by omega
  have x5 : ¬ (w.heap.size + 1 + 1 = w.heap.size + 1) := by omega
  have x6 : ¬ (w.heap.size + 1 + 1 = q.b) := by omega
  clear h hrow hW hg hS c0
  generalize nxR N ws = I at *
  generalize N.regs.length = n at *
  go_enter Tryz.func49, Tryz.ntmps49
  go_upto_region 2 with fail
  go_region_held3 (fun w' => w'.cell? ⟨w.heap.size, 0, none⟩ = some (.pointer (some ⟨q.b, 0, none⟩)) ∧ w'.cell? ⟨w.heap.size, 3, none⟩ = some (.int .i64 cy) ∧ w'.cell? ⟨w.heap.size + 1, 0, none⟩ = some (.slice wa wn wc) ∧ w'.cell? ⟨q.b, 3, none⟩ = some (.slice ra n rc)) (go_keep) (first
    | (go_at_call 79; (with_reducible refine (hea.out _ hdr.out).mono ?_); rintro e w2 ⟨rfl, ho, hb2⟩; have hb3 := nextw hdr.out hb2; have m0 := stepc hb3 z2 n0; have m1 := stepc hb3 z2 n1; have m2 := stepc hb3 z2 n2; have m3 := stepc hb3 z2 n3; have f0 := stepf hb3 z2 (nf 0); have f1 := stepf hb3 z2 (nf 1); have f2 := stepf hb3 z2 (nf 2); have f3 := stepf hb3 z2 (nf 3); have r0 := stepc hb3 z0 k0; have r3 := stepc hb3 z0 k3; have r4 := stepc hb3 z1 k4; have rq := stepc hb3 zq hd3; have ho := Lib.hid ho; have hb3 := Lib.hid hb3; clear hb2))
  all_goals go_wp2
  all_goals
    have hb4 : Below w.heap.size w ((((w2.setCell ⟨w.heap.size + 1 + 1, 0, none⟩ (.pointer (some ⟨q.b, 0, none⟩))).setCell ⟨w.heap.size + 1 + 1, 1, none⟩ (.slice (some ⟨w1.heap.size, 0, none⟩) n n)).setCell ⟨w.heap.size + 1 + 1, 2, none⟩ (.slice wa wn wc)).setCell ⟨w.heap.size + 1 + 1, 3, none⟩ (.int .i64 ((cy : Int) + 1))) := ((((nextw hb.out hb3.out).setCell (by simp; omega) _).setCell (by simp; omega) _).setCell (by simp; omega) _).setCell (by simp; omega) _
    have hoo : w2.ownsRow w1.heap.size 62 1 (.slice (some ⟨w1.heap.size, 0, none⟩) n n) n (I.map (Value.int .u64)) := by simpa using ho.out
    have ho3 : WR ((((w2.setCell ⟨w.heap.size + 1 + 1, 0, none⟩ (.pointer (some ⟨q.b, 0, none⟩))).setCell ⟨w.heap.size + 1 + 1, 1, none⟩ (.slice (some ⟨w1.heap.size, 0, none⟩) n n)).setCell ⟨w.heap.size + 1 + 1, 2, none⟩ (.slice wa wn wc)).setCell ⟨w.heap.size + 1 + 1, 3, none⟩ (.int .i64 ((cy : Int) + 1))) (some ⟨w1.heap.size, 0, none⟩) n n I := ⟨hlen.out, own_moved (own_moved (own_moved (own_moved (own_base hoo (Nat.zero_le _)) (by omega)) (by omega)) (by omega)) (by omega), hwd.out⟩
    refine bodyPost_ret (v := .agg #[.pointer (some ⟨q.b, 0, none⟩), .slice (some ⟨w1.heap.size, 0, none⟩) n n, .slice wa wn wc, .int .i64 ((cy : Int) + 1)]) (by simp [results, Tryz.results49, go_sem, *]) rfl ⟨w1.heap.size, by simp, ho3, by omega, hb4⟩
end Go.Proofs.YtafoohdndlhbnaaGreat
end

section
namespace Go.Proofs.YtafoohdndlhbnaaGreat
open Go.RowKit Go.Maps Bits Num
set_option maxRecDepth 100000

/-- Where a bus's literals stand among those of all. -/
def offB (L : List Bus) (i : Nat) : Nat := (litsOf (L.take i)).length
theorem offB_zero (L : List Bus) : offB L 0 = 0 := by simp [offB, litsOf]
theorem offB_succ (L : List Bus) {i : Nat} (h : i < L.length) : offB L (i + 1) = offB L i + L[i].lits.length := by
  unfold offB
  rw [List.take_add_one, List.getElem?_eq_getElem h, Option.toList_some]
  unfold litsOf
  rw [List.flatMap_append, List.length_append]
  congr 1
  simp only [List.flatMap_cons, List.flatMap_nil, List.append_nil]
theorem offB_all (L : List Bus) : offB L L.length = (litsOf L).length := by simp [offB]
theorem lits_split (L : List Bus) {i : Nat} (h : i < L.length) : litsOf L = litsOf (L.take i) ++ (L[i].lits ++ litsOf (L.drop (i + 1))) := by
  have e : L = L.take i ++ (L[i] :: L.drop (i + 1)) := by rw [List.getElem_cons_drop, List.take_append_drop]
  have e2 : litsOf L = litsOf (L.take i ++ (L[i] :: L.drop (i + 1))) := congrArg litsOf e
  rw [e2]
  unfold litsOf
  rw [List.flatMap_append, List.flatMap_cons]
theorem offB_le (L : List Bus) {i k : Nat} (h : i < L.length) (hk : k < L[i].lits.length) : offB L i + k < (litsOf L).length := by
  rw [lits_split L h]
  simp only [List.length_append]
  unfold offB
  omega
theorem lits_at (L : List Bus) {i k : Nat} (h : i < L.length) (hk : k < L[i].lits.length) : (litsOf L).getD (offB L i + k) 0 = L[i].lits.getD k 0 := by
  rw [lits_split L h]
  unfold offB
  rw [List.getD_eq_getElem?_getD, List.getElem?_append_right (by omega), List.getElem?_append_left (by omega), show (litsOf (L.take i)).length + k - (litsOf (L.take i)).length = k by omega, ← List.getD_eq_getElem?_getD]
theorem taken_lit (N : Nt) {i k : Nat} (h : i < N.ins.length) (hk : k < N.ins[i].lits.length) : (takenN N).getD (offB N.ins i + k) 0 = N.ins[i].lits.getD k 0 := by
  rw [← lits_at N.ins h hk]
  have := offB_le N.ins h hk
  unfold takenN
  rw [List.getD_eq_getElem?_getD, List.getElem?_append_left this, ← List.getD_eq_getElem?_getD]
theorem taken_reg (N : Nt) {j : Nat} (h : j < N.regs.length) : (takenN N).getD ((litsOf N.ins).length + j) 0 = N.regs[j].q := by
  unfold takenN
  rw [List.getD_eq_getElem?_getD, List.getElem?_append_right (by omega), show (litsOf N.ins).length + j - (litsOf N.ins).length = j by omega]
  simp [h]
theorem app_left {X H : List Int} {k : Nat} (h : k < X.length) : (X ++ H).getD k 0 = X.getD k 0 := by
  rw [List.getD_eq_getElem?_getD, List.getElem?_append_left h, ← List.getD_eq_getElem?_getD]
theorem app_right {X H : List Int} {m j : Nat} (h : X.length = m) : (X ++ H).getD (m + j) 0 = H.getD j 0 := by
  rw [List.getD_eq_getElem?_getD, List.getElem?_append_right (by omega), show m + j - X.length = j by omega, ← List.getD_eq_getElem?_getD]
/-- The words of one bus. -/
def piece (L : List Bus) (X : List Int) (i : Nat) : List Int := (X.drop (offB L i)).take (L.getD i ⟨ByteArray.empty, []⟩).lits.length
theorem piece_at {L : List Bus} {X : List Int} {i k : Nat} (h : i < L.length) (hk : k < L[i].lits.length) : (piece L X i).getD k 0 = X.getD (offB L i + k) 0 := by
  unfold piece
  have e : L.getD i ⟨ByteArray.empty, []⟩ = L[i] := by simp [List.getD, h]
  rw [e]
  simp only [List.getD, List.getElem?_take, if_pos hk, List.getElem?_drop]
/-- Rows of words for the buses that come in. -/
structure InRows (w : World) (a : Option Addr) (n : Nat) (L : List Bus) (X : List Int) : Prop where
  len : n = L.length
  len2 : X.length = (litsOf L).length
  words : Words X
  max : n ≤ 9223372036854775807
  rows : n = 0 ∨ ∃ b off, a = some ⟨b, off, none⟩ ∧ b < w.heap.size ∧ ∀ i, (hi : i < L.length) → ∃ (ra : Option Addr) (rc : Nat), w.cell? ⟨b, off + i, none⟩ = some (.slice ra L[i].lits.length rc) ∧ Row .u64 w ra L[i].lits.length (piece L X i)
theorem InRows.step {w w' : World} {a : Option Addr} {n : Nat} {L : List Bus} {X : List Int} (h : InRows w a n L X) (hb : Below w.heap.size w w') : InRows w' a n L X :=
  ⟨h.len, h.len2, h.words, h.max, by
    rcases h.rows with h0 | ⟨b, off, e, hl, hr⟩
    · exact .inl h0
    · exact .inr ⟨b, off, e, Nat.lt_of_lt_of_le hl hb.size, fun i hi => by obtain ⟨ra, rc, h1, h2⟩ := hr i hi; exact ⟨ra, rc, stepc hb hl h1, h2.step hb⟩⟩⟩
theorem InRows.at {w : World} {a : Option Addr} {n : Nat} {L : List Bus} {X : List Int} (h : InRows w a n L X) {i : Nat} (hi : i < L.length) : ∃ b off, a = some ⟨b, off, none⟩ ∧ b < w.heap.size ∧ ∃ (ra : Option Addr) (rc : Nat), w.cell? ⟨b, off + i, none⟩ = some (.slice ra L[i].lits.length rc) ∧ Row .u64 w ra L[i].lits.length (piece L X i) := by
  rcases h.rows with h0 | ⟨b, off, e, hl, hr⟩
  · have := h.len; omega
  · exact ⟨b, off, e, hl, hr i hi⟩

set_option maxHeartbeats 1000000 in
theorem fits_yes {w : World} {q : NPl} {N : Nt} (h : NetIs w q N) {ha : Option Addr} {hn hc : Nat} {la : Option Addr} {ln lc : Nat} {cy : Int} {a : Option Addr} {n c : Nat} {X : List Int} (hI : InRows w a n N.ins X) :
    Calls Tryz.prog 46 #[.agg #[.pointer (some ⟨q.b, 0, none⟩), .slice ha hn hc, .slice la ln lc, .int .i64 cy], .slice a n c] w fun e w' => e = .returned (.bool true) ∧ Below w.heap.size w w' := by
  obtain ⟨ia, ic, ra, rc, oa, oc, ev, -, -, c0, -, c2, -, -, -⟩ := h.cells
  have hlt := h.lt
  have hb : Below w.heap.size w (w.alloc (.cells #[.pointer (some ⟨q.b, 0, none⟩), .slice ha hn hc, .slice la ln lc, .int .i64 cy] 93)) := (Below.refl _ _).alloc (Nat.le_refl _) _
  have heq : Hid (Calls Tryz.prog 91 #[.slice a n c, .slice ia N.ins.length ic, .func (.func 92) #[] #[]] (w.alloc (.cells #[.pointer (some ⟨q.b, 0, none⟩), .slice ha hn hc, .slice la ln lc, .int .i64 cy] 93)) fun e w' => e = .returned (.bool true) ∧ Below w.heap.size w w') := by
    show Calls _ _ _ _ _
    have HI := Lib.hid (hI.step hb)
    have HB : Hid (BusRow (w.alloc (.cells #[.pointer (some ⟨q.b, 0, none⟩), .slice ha hn hc, .slice la ln lc, .int .i64 cy] 93)) (.slice ia N.ins.length ic) N.ins) := Lib.hid (by have := h.ins.below hb; rw [ev] at this; exact this)
    have hb := Lib.hid hb
    have hnl : n = N.ins.length := hI.len
    have hmx := hI.max
    clear h hI c0 c2
    generalize hw1 : w.alloc (.cells #[.pointer (some ⟨q.b, 0, none⟩), .slice ha hn hc, .slice la ln lc, .int .i64 cy] 93) = w1 at *
    clear hw1
    rw [← hnl] at HB ⊢
    have HN := Lib.hid hnl
    clear hnl
    have gne := bnef (a := (n : Int)) (b := n) rfl
    go_enter Tryz.func91, Tryz.ntmps91
    go_wp2
    go_loopw [17] (fun i wr => ∃ j : Nat, j ≤ n ∧ i = .int .i64 j ∧ Hid (Below w1.heap.size w1 wr)) (fun i _ => n - (intOf i).toNat)
    case atStart => exact ⟨0, Nat.zero_le _, rfl, Lib.hid (Below.refl _ _)⟩
    case round =>
      obtain ⟨j, hj, rfl, hB⟩ := hrel
      by_cases hlt2 : j < n
      · have hjL : j < N.ins.length := by rw [← HN.out]; exact hlt2
        obtain ⟨b, off, rfl, hbl, xa, xc, e0, -⟩ := HI.out.at hjL
        obtain ⟨g, la2, lc2, rfl, hg, b0, b1, -⟩ := HB.out.at hjL
        have e0 := stepc hB.out hbl e0
        have b0 := stepc hB.out hg b0
        have b1 := stepc hB.out hg b1
        have hf := Lib.hid (fun w => fits1_any xa N.ins[j].lits.length xc N.ins[j].name la2 N.ins[j].lits.length lc2 w)
        generalize N.ins[j].lits.length = m at *
        generalize N.ins[j].name = s at *
        rw [show decide ((m : Int) = m) = true by simp] at hf
        have hbx : Hid (Below wr.heap.size wr (wr.alloc (.cells #[.string s, .slice la2 m lc2] 81))) := Lib.hid ((Below.refl _ _).alloc (Nat.le_refl _) _)
        go_wp2_with (go_at_call 92; (with_reducible refine (hf.out _).mono ?_); rintro e w2 ⟨rfl, hb2⟩; have hb3 := Lib.hid (nextw hB.out (nextw hbx.out hb2)); clear hb2)
        exact ⟨⟨j + 1, by omega, by go_num, hb3⟩, by simp [intOf]; omega⟩
      · obtain rfl : j = n := by omega
        go_wp2
        go_ret
        exact ⟨rfl, nextw hb.out hB.out⟩
  have hd2 := stepc hb hlt c2
  clear h hI hb
  go_enter Tryz.func46, Tryz.ntmps46
  go_wp2_with (go_at_call 91; (with_reducible refine heq.out.mono ?_); rintro e w2 ⟨rfl, hb2⟩)
  go_ret
  exact ⟨rfl, hb2⟩
theorem fits_no {w : World} {q : NPl} {N : Nt} (h : NetIs w q N) {ha : Option Addr} {hn hc : Nat} {la : Option Addr} {ln lc : Nat} {cy : Int} {a : Option Addr} {n c : Nat} (hne : n ≠ N.ins.length) :
    Calls Tryz.prog 46 #[.agg #[.pointer (some ⟨q.b, 0, none⟩), .slice ha hn hc, .slice la ln lc, .int .i64 cy], .slice a n c] w fun e w' => e = .returned (.bool false) ∧ Below w.heap.size w w' := by
  obtain ⟨ia, ic, ra, rc, oa, oc, ev, -, -, c0, -, c2, -, -, -⟩ := h.cells
  have hlt := h.lt
  have hb : Below w.heap.size w (w.alloc (.cells #[.pointer (some ⟨q.b, 0, none⟩), .slice ha hn hc, .slice la ln lc, .int .i64 cy] 93)) := (Below.refl _ _).alloc (Nat.le_refl _) _
  have hd2 := stepc hb hlt c2
  have hb := Lib.hid hb
  have gne : ((n : Int) != (N.ins.length : Int)) = true := by simp; omega
  have heq : Hid (∀ w1, Calls Tryz.prog 91 #[.slice a n c, .slice ia N.ins.length ic, .func (.func 92) #[] #[]] w1 fun e w' => e = .returned (.bool false) ∧ w1 = w') := by
    show ∀ w1, Calls _ _ _ _ _
    intro w1
    clear h hd2 hb c0 c2
    go_enter Tryz.func91, Tryz.ntmps91
    go_wp2
    go_ret
    exact ⟨rfl, rfl⟩
  clear h gne hne
  go_enter Tryz.func46, Tryz.ntmps46
  go_wp2_with (go_at_call 91; (with_reducible refine (heq.out _).mono ?_); rintro e w2 ⟨rfl, rfl⟩)
  go_ret
  exact ⟨rfl, hb.out⟩
end Go.Proofs.YtafoohdndlhbnaaGreat
end
