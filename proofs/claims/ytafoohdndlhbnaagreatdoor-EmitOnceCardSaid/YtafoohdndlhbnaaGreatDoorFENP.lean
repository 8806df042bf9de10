/-
  The document's own netlist (orreryref06): where it lies; what is left as it was.
  The document's own netlist: Find; are all there; an input with its literal; a gate of two.
-/
import Derived.Test.YtafoohdndlhbnaaGreatDoorFENO
import Derived.Test.YtafoohdndlhbnaaGreatDoorFENF
import Derived.Test.YtafoohdndlhbnaaGreatDoorFENG
import Derived.Laws.IdiomStrings
section
namespace Go.Proofs.YtafoohdndlhbnaaGreatDoor
open Go.RowKit Go.Maps
set_option maxRecDepth 100000

/-- The document's netlists' blocks. -/
def DT (T : Nat) : Prop := T = 117 ∨ T = 119 ∨ T = 109 ∨ T = 111 ∨ T = 114
def DK (w : World) (k : Nat) : Prop := ∃ cur T fz, w.heap[k]? = some (.cells cur T fz) ∧ DT T
theorem Kept.mono {F F' : Nat → Prop} {w w' : World} (h : Kept F w w') (hF : ∀ k, F k → F' k) : Kept F' w w' := ⟨h.os, h.tape, h.output, h.size, fun k hk hn => h.block k hk (fun hf => hn (hF k hf))⟩
theorem DK.trans {a b c : World} (h : Kept (DK a) a b) (k : Kept (DK b) b c) : Kept (DK a) a c :=
  h.trans k (fun x hx => by
    by_cases hl : x < a.heap.size
    · by_cases hn : DK a x
      · exact .inl hn
      · obtain ⟨cur, T, fz, h1, h2⟩ := hx
        rw [h.block x hl hn] at h1
        exact absurd ⟨cur, T, fz, h1, h2⟩ hn
    · exact .inr (by omega))
theorem DK.refl (w : World) : Kept (DK w) w w := Kept.refl _ _
theorem DK.of_below {w w2 : World} (h : Below w.heap.size w w2) : Kept (DK w) w w2 := Kept.of_below h
theorem DK.of_RK {w w2 : World} (h : Kept (RK w) w w2) : Kept (DK w) w w2 := h.mono (fun k ⟨cur, T, fz, h1, h2⟩ => ⟨cur, T, fz, h1, by rcases h2 with h2 | h2; exact .inl h2; exact .inr (.inl h2)⟩)
/-- F holds no block of the document's netlist. -/
def NoDoc (w : World) (F : Nat → Prop) : Prop := ∀ k cur T fz, F k → w.heap[k]? = some (.cells cur T fz) → ¬ DT T ∧ T ≠ 65
theorem NetIs.noDoc {w : World} {q : NPl} {N : Nt} (h : NetIs w q N) : NoDoc w q.has := by
  intro k cur T fz hp hk
  refine ⟨fun hT => ?_, fun hT => ?_⟩
  · rcases hT with rfl | rfl | rfl | rfl | rfl <;> exact h.other hk (by decide) (by decide) (by decide) (by decide) (by decide) (by decide) hp
  · subst hT; exact h.other hk (by decide) (by decide) (by decide) (by decide) (by decide) (by decide) hp
/-- A netlist of the program is as it was, where the document's turned. -/
theorem NetIs.asideD {w w' : World} {q : NPl} {N : Nt} (h : NetIs w q N) (hk : Kept (DK w) w w') : NetIs w' q N := by
  refine h.beside hk (fun k ⟨cur, T, fz, h1, h2⟩ hp => (h.noDoc k cur T fz hp h1).1 h2) (fun k cur fz ⟨cur2, T, fz2, h1, h2⟩ h3 => ?_)
  rw [h1] at h3
  simp at h3
  obtain ⟨-, rfl, -⟩ := h3
  rcases h2 with h2 | h2 | h2 | h2 | h2 <;> revert h2 <;> decide

/-- A row of numbers. -/
structure URow (w : World) (a : Option Addr) (n c : Nat) (l : List Int) : Prop where
  len : l.length = n
  own : w.ownsRow 0 65 1 (.slice a n c) n (l.map (Value.int .u32))
theorem URow.below {w w' : World} {a : Option Addr} {n c : Nat} {l : List Int} (h : URow w a n c l) (hb : Below w.heap.size w w') : URow w' a n c l := ⟨h.len, own_below h.own hb⟩
theorem URow.row {w : World} {a : Option Addr} {n c : Nat} {l : List Int} (h : URow w a n c l) : Row .u32 w a n l := Row.of_own h.own h.len (own_maxLen h.own)
theorem URow.keptF {F : Nat → Prop} {w w' : World} {a : Option Addr} {n c : Nat} {l : List Int} (h : URow w a n c l) (hk : Kept F w w') (hF : ∀ k cur fz, F k → w.heap[k]? ≠ some (.cells cur 65 fz)) : URow w' a n c l :=
  ⟨h.len, own_keptF h.own hk (fun k e hf => by obtain ⟨cur, hh⟩ := own_type h.own e; exact hF k cur _ hf hh)⟩
theorem DK.noU {w : World} : ∀ k cur fz, DK w k → w.heap[k]? ≠ some (.cells cur 65 fz) := by
  intro k cur fz ⟨cur2, T, fz2, h1, h2⟩ h3
  rw [h1] at h3
  simp at h3
  obtain ⟨-, rfl, -⟩ := h3
  rcases h2 with h2 | h2 | h2 | h2 | h2 <;> revert h2 <;> decide

structure RBusAt (w0 w : World) (v : Value) (L : List Bus) (K : List BV) : Prop where
  own : w.ownsRow w0.heap.size 111 2 v L.length (bvCells K)
  len : K.length = L.length
  row : ∀ (i : Nat) (k : BV) (b : Bus), K[i]? = some k → L[i]? = some b → k.name = b.name ∧ URow w k.a k.n k.c b.lits
def RBusRow (w0 w : World) (v : Value) (L : List Bus) : Prop := ∃ K, RBusAt w0 w v L K
theorem RBusRow.nil (w0 w : World) : RBusRow w0 w (.slice none 0 0) [] := ⟨[], ⟨rfl, .inl ⟨rfl, rfl⟩⟩, rfl, fun i k b h => by simp at h⟩
theorem RBusAt.below {w0 w w' : World} {v : Value} {L : List Bus} {K : List BV} (h : RBusAt w0 w v L K) (hb : Below w.heap.size w w') : RBusAt w0 w' v L K :=
  ⟨own_below h.own hb, h.len, fun i k b e1 e2 => ⟨(h.row i k b e1 e2).1, (h.row i k b e1 e2).2.below hb⟩⟩
theorem RBusRow.below {w0 w w' : World} {v : Value} {L : List Bus} (h : RBusRow w0 w v L) (hb : Below w.heap.size w w') : RBusRow w0 w' v L := let ⟨K, hK⟩ := h; ⟨K, hK.below hb⟩
theorem RBusAt.keptF {F : Nat → Prop} {w0 w w' : World} {v : Value} {L : List Bus} {K : List BV} (h : RBusAt w0 w v L K) (hk : Kept F w w') (hn : ∀ k, v.ownBlock = some k → ¬ F k) (hF : ∀ k cur fz, F k → w.heap[k]? ≠ some (.cells cur 65 fz)) : RBusAt w0 w' v L K :=
  ⟨own_keptF h.own hk hn, h.len, fun i k b e1 e2 => ⟨(h.row i k b e1 e2).1, (h.row i k b e1 e2).2.keptF hk hF⟩⟩
theorem RBusRow.keptF {F : Nat → Prop} {w0 w w' : World} {v : Value} {L : List Bus} (h : RBusRow w0 w v L) (hk : Kept F w w') (hn : ∀ k, v.ownBlock = some k → ¬ F k) (hF : ∀ k cur fz, F k → w.heap[k]? ≠ some (.cells cur 65 fz)) : RBusRow w0 w' v L := let ⟨K, hK⟩ := h; ⟨K, hK.keptF hk hn hF⟩
theorem RBusRow.at {w0 w : World} {a : Option Addr} {n c : Nat} {L : List Bus} (h : RBusRow w0 w (.slice a n c) L) {j : Nat} (hj : j < L.length) :
    ∃ (g : Nat) (la : Option Addr) (lc : Nat), a = some ⟨g, 0, none⟩ ∧ g < w.heap.size ∧ w.cell? ⟨g, j * 2, none⟩ = some (.string L[j].name) ∧ w.cell? ⟨g, j * 2 + 1, none⟩ = some (.slice la L[j].lits.length lc) ∧ URow w la L[j].lits.length lc L[j].lits := by
  obtain ⟨K, hK⟩ := h
  obtain ⟨g, cap, e⟩ := own_form hK.own (by omega)
  have ho := hK.own
  rw [e] at ho
  have hl := bvCells_len K
  have hjK : j < K.length := by rw [hK.len]; exact hj
  obtain ⟨e0, e1⟩ := bvCells_at K j K[j] (List.getElem?_eq_getElem hjK)
  obtain ⟨n1, n2⟩ := hK.row j K[j] L[j] (List.getElem?_eq_getElem hjK) (List.getElem?_eq_getElem hj)
  have hn := n2.len
  simp only [Value.slice.injEq] at e
  refine ⟨g, K[j].a, K[j].c, e.1, own_lt ho, ?_, ?_, ?_⟩
  · rw [ho.cellAt _ (by omega), Nat.mul_comm j 2, e0, n1]
  · rw [ho.cellAt _ (by omega), Nat.mul_comm j 2, e1, hn]
  · rw [hn]; exact n2
theorem RBusRow.slice {w0 w : World} {v : Value} {L : List Bus} (h : RBusRow w0 w v L) : ∃ a c, v = .slice a L.length c := by
  obtain ⟨K, hK⟩ := h
  exact own_slice hK.own
theorem RBusRow.type {w0 w : World} {v : Value} {L : List Bus} (h : RBusRow w0 w v L) {k : Nat} (hk : v.ownBlock = some k) : ∃ cur, w.heap[k]? = some (.cells cur 111 (0, 0)) := by
  obtain ⟨K, hK⟩ := h
  exact own_type hK.own hk
def RRegRow (w0 w : World) (v : Value) (R : List Rg) : Prop := w.ownsRow w0.heap.size 114 4 v R.length (rgCells R)
theorem RRegRow.at {w0 w : World} {a : Option Addr} {n c : Nat} {R : List Rg} (h : RRegRow w0 w (.slice a n c) R) {j : Nat} (hj : j < R.length) :
    ∃ g : Nat, a = some ⟨g, 0, none⟩ ∧ g < w.heap.size ∧ w.cell? ⟨g, j * 4, none⟩ = some (.int .u32 R[j].q) ∧ w.cell? ⟨g, j * 4 + 1, none⟩ = some (.int .u32 R[j].d) ∧ w.cell? ⟨g, j * 4 + 2, none⟩ = some (.int .u32 R[j].en) ∧ w.cell? ⟨g, j * 4 + 3, none⟩ = some (.bool R[j].init) := by
  obtain ⟨g, cap, e⟩ := own_form h (by omega)
  unfold RRegRow at h
  rw [e] at h
  have hl := rgCells_len R
  obtain ⟨e0, e1, e2, e3⟩ := rgCells_at R j R[j] (List.getElem?_eq_getElem hj)
  simp only [Value.slice.injEq] at e
  refine ⟨g, e.1, own_lt h, ?_, ?_, ?_, ?_⟩
  · rw [h.cellAt _ (by omega), Nat.mul_comm j 4, e0]
  · rw [h.cellAt _ (by omega), Nat.mul_comm j 4, e1]
  · rw [h.cellAt _ (by omega), Nat.mul_comm j 4, e2]
  · rw [h.cellAt _ (by omega), Nat.mul_comm j 4, e3]

/-- Where the document's netlist lies. -/
structure RPl where
  g : Nat
  c : Nat
  iv : Value
  rv : Value
  ov : Value
def rnBox (Bg : Nat) (s : ByteArray) (p : RPl) : Obj := .cells #[.pointer (some ⟨Bg, 0, none⟩), .string s, p.iv, p.rv, p.ov] 109 (0, 0)
structure RN (w0 w : World) (B Bg : Nat) (p : RPl) (N : Nt) : Prop where
  box : w.heap[B]? = some (rnBox Bg N.name p)
  g : Rf w0 w Bg p.g p.c N.g.fold N.g.hash N.g.nodes
  ins : RBusRow w0 w p.iv N.ins
  regs : RRegRow w0 w p.rv N.regs
  outs : RBusRow w0 w p.ov N.outs
  apart : ∀ k, p.iv.ownBlock = some k → p.ov.ownBlock ≠ some k
  lo : w0.heap.size ≤ B
theorem RN.below {w0 w : World} {B Bg : Nat} {p : RPl} {N : Nt} (h : RN w0 w B Bg p N) : Below w0.heap.size w0 w := h.g.below
theorem RN.lt {w0 w : World} {B Bg : Nat} {p : RPl} {N : Nt} (h : RN w0 w B Bg p N) : B < w.heap.size := (Array.getElem?_eq_some_iff.1 h.box).1
theorem RN.step {w0 w w2 : World} {B Bg : Nat} {p : RPl} {N : Nt} (h : RN w0 w B Bg p N) (hb : Below w.heap.size w w2) : RN w0 w2 B Bg p N :=
  ⟨(hb.block _ h.lt).trans h.box, h.g.step hb, h.ins.below hb, own_below h.regs hb, h.outs.below hb, h.apart, h.lo⟩
/-- The cells of the netlist's own struct. -/
theorem RN.cells {w0 w : World} {B Bg : Nat} {p : RPl} {N : Nt} (h : RN w0 w B Bg p N) :
    ∃ (ia : Option Addr) (ic : Nat) (ra : Option Addr) (rc : Nat) (oa : Option Addr) (oc : Nat), p.iv = .slice ia N.ins.length ic ∧ p.rv = .slice ra N.regs.length rc ∧ p.ov = .slice oa N.outs.length oc ∧
      w.cell? ⟨B, 0, none⟩ = some (.pointer (some ⟨Bg, 0, none⟩)) ∧ w.cell? ⟨B, 1, none⟩ = some (.string N.name) ∧ w.cell? ⟨B, 2, none⟩ = some (.slice ia N.ins.length ic) ∧ w.cell? ⟨B, 3, none⟩ = some (.slice ra N.regs.length rc) ∧ w.cell? ⟨B, 4, none⟩ = some (.slice oa N.outs.length oc)
      ∧ ∀ o, w.frozen? ⟨B, o, none⟩ = false := by
  have hb := h.box
  obtain ⟨ia, ic, e1⟩ := h.ins.slice
  obtain ⟨ra, rc, e2⟩ := own_slice h.regs
  obtain ⟨oa, oc, e3⟩ := h.outs.slice
  refine ⟨ia, ic, ra, rc, oa, oc, e1, e2, e3, ?_, ?_, ?_, ?_, ?_, fun o => ?_⟩ <;> simp [World.cell?, World.frozen?, hb, rnBox, e1, e2, e3]
theorem RN.far {w0 w : World} {B Bg : Nat} {p : RPl} {N : Nt} (h : RN w0 w B Bg p N) : p.iv.ownBlock ≠ some B ∧ p.rv.ownBlock ≠ some B ∧ p.ov.ownBlock ≠ some B := by
  have hb := h.box
  refine ⟨?_, ?_, ?_⟩
  · intro e; obtain ⟨c, hc⟩ := h.ins.type e; rw [hc] at hb; simp [rnBox] at hb
  · intro e; obtain ⟨c, hc⟩ := own_type h.regs e; rw [hc] at hb; simp [rnBox] at hb
  · intro e; obtain ⟨c, hc⟩ := h.outs.type e; rw [hc] at hb; simp [rnBox] at hb
theorem RN.rFar {w0 w : World} {B Bg : Nat} {p : RPl} {N : Nt} (h : RN w0 w B Bg p N) {k : Nat} (hk : p.rv.ownBlock = some k) : p.iv.ownBlock ≠ some k ∧ p.ov.ownBlock ≠ some k := by
  obtain ⟨c, hc⟩ := own_type h.regs hk
  refine ⟨?_, ?_⟩
  · intro e; obtain ⟨d, hd⟩ := h.ins.type e; rw [hc] at hd; simp at hd
  · intro e; obtain ⟨d, hd⟩ := h.outs.type e; rw [hc] at hd; simp at hd
/-- As it was, where what turned is none of the document's. -/
theorem RN.kept {w0 w w2 : World} {B Bg : Nat} {p : RPl} {N : Nt} (h : RN w0 w B Bg p N) {K : Nat → Prop} (hk : Kept K w w2) (hK : ∀ k, K k → w0.heap.size ≤ k) (hT : NoDoc w K) : RN w0 w2 B Bg p N := by
  have nB : ¬ K B := fun hf => (hT _ _ _ _ hf h.box).1 (.inr (.inr (.inl rfl)))
  have nG : ¬ K Bg := fun hf => (hT _ _ _ _ hf h.g.box).1 (.inl rfl)
  have ng : ¬ K p.g := fun hf => by obtain ⟨c, hc⟩ := h.g.gty; exact (hT _ _ _ _ hf hc).1 (.inr (.inl rfl))
  have hU : ∀ k cur fz, K k → w.heap[k]? ≠ some (.cells cur 65 fz) := fun k cur fz hf hh => (hT _ _ _ _ hf hh).2 rfl
  refine ⟨(hk.block _ h.lt nB).trans h.box, h.g.kept hk hK nG ng, h.ins.keptF hk (fun k e hf => ?_) hU, own_keptF h.regs hk (fun k e hf => ?_), h.outs.keptF hk (fun k e hf => ?_) hU, h.apart, h.lo⟩
  · obtain ⟨c, hc⟩ := h.ins.type e; exact (hT _ _ _ _ hf hc).1 (.inr (.inr (.inr (.inl rfl))))
  · obtain ⟨c, hc⟩ := own_type h.regs e; exact (hT _ _ _ _ hf hc).1 (.inr (.inr (.inr (.inr rfl))))
  · obtain ⟨c, hc⟩ := h.outs.type e; exact (hT _ _ _ _ hf hc).1 (.inr (.inr (.inr (.inl rfl))))
/-- What a call of the document's netlist comes to. -/
def RNext (w0 w : World) (B Bg : Nat) (N' : Nt) (w' : World) : Prop := (∃ p', RN w0 w' B Bg p' N') ∧ Kept (DK w) w w'
theorem RNext.of_below {w0 w w' : World} {B Bg : Nat} {p : RPl} {N : Nt} (h : RN w0 w B Bg p N) (hb : Below w.heap.size w w') : RNext w0 w B Bg N w' := ⟨⟨p, h.step hb⟩, DK.of_below hb⟩
theorem RNext.front {w0 w w1 w' : World} {B Bg : Nat} {N' : Nt} (hb : Below w.heap.size w w1) (h : RNext w0 w1 B Bg N' w') : RNext w0 w B Bg N' w' := ⟨h.1, DK.trans (DK.of_below hb) h.2⟩
theorem RNext.then {w0 w w1 w' : World} {B Bg : Nat} {N' : Nt} (h : RNext w0 w B Bg N' w1) (hb : Below w1.heap.size w1 w') : RNext w0 w B Bg N' w' := ⟨let ⟨p, hp⟩ := h.1; ⟨p, hp.step hb⟩, DK.trans h.2 (DK.of_below hb)⟩
/-- The graph grows. -/
theorem RN.grow {w0 w w' : World} {B Bg g c : Nat} {p : RPl} {N : Nt} {G' : Gr} (h : RN w0 w B Bg p N) (hR : Rf w0 w' Bg g c G'.fold G'.hash G'.nodes) (hk : Kept (RK w) w w') : RN w0 w' B Bg { p with g := g, c := c } { N with g := G' } := by
  have n1 : ∀ {k cur T fz}, w.heap[k]? = some (.cells cur T fz) → T ≠ 117 → T ≠ 119 → ¬ RK w k := by
    rintro k cur T fz h1 t1 t2 ⟨cur2, T2, fz2, h2, h3⟩
    rw [h1] at h2; simp at h2
    obtain ⟨-, rfl, -⟩ := h2
    rcases h3 with h3 | h3
    · exact t1 h3
    · exact t2 h3
  have hU : ∀ k cur fz, RK w k → w.heap[k]? ≠ some (.cells cur 65 fz) := fun k cur fz hf hh => n1 hh (by decide) (by decide) hf
  refine ⟨(hk.block _ h.lt (n1 h.box (by decide) (by decide))).trans h.box, hR, h.ins.keptF hk (fun k e => ?_) hU, own_keptF h.regs hk (fun k e => ?_), h.outs.keptF hk (fun k e => ?_) hU, h.apart, h.lo⟩
  · obtain ⟨c, hc⟩ := h.ins.type e; exact n1 hc (by decide) (by decide)
  · obtain ⟨c, hc⟩ := own_type h.regs e; exact n1 hc (by decide) (by decide)
  · obtain ⟨c, hc⟩ := h.outs.type e; exact n1 hc (by decide) (by decide)
theorem RN.growN {w0 w w' : World} {B Bg g c : Nat} {p : RPl} {N : Nt} {G' : Gr} (h : RN w0 w B Bg p N) (hR : Rf w0 w' Bg g c G'.fold G'.hash G'.nodes) (hk : Kept (RK w) w w') : RNext w0 w B Bg { N with g := G' } w' := ⟨⟨_, h.grow hR hk⟩, DK.of_RK hk⟩

/-- A store into the netlist's own box, behind an append to one of its rows. -/
theorem rn_push {w0 wS wa w1 : World} {B Bg : Nat} {p : RPl} {N : Nt} (h : RN w0 wS B Bg p N) (hb : Below wS.heap.size wS wa) {v : Value} (hv : ∀ k, v.ownBlock = some k → w0.heap.size ≤ k ∧ DK wS k)
    (hg : wa.grownBy w1 v.ownBlock) (o : Nat) (x : Value) :
    Kept (fun k => k = B ∨ v.ownBlock = some k) wS (w1.setCell ⟨B, o, none⟩ x) ∧ Kept (DK wS) wS (w1.setCell ⟨B, o, none⟩ x) ∧ Below w0.heap.size w0 (w1.setCell ⟨B, o, none⟩ x) := by
  have hk : Kept (fun k => k = B ∨ v.ownBlock = some k) wS (w1.setCell ⟨B, o, none⟩ x) :=
    ⟨hg.os.trans hb.os, hg.tape.trans hb.tape, hg.output.trans hb.output, by have := hg.size; have := hb.size; simp [World.setCell]; omega, fun k hk hn => by
      have n1 : k ≠ B := fun e => hn (.inl e)
      have n2 : some k ≠ v.ownBlock := fun e => hn (.inr e.symm)
      rw [Below.heap_setCell _ _ _ _ n1, hg.block k (by have := hb.size; omega) n2, hb.block k hk]⟩
  refine ⟨hk, hk.mono (fun k hf => ?_), h.below.trans (hk.below (fun k hf => ?_) h.below.size)⟩
  · rcases hf with rfl | hf
    · exact ⟨_, _, _, h.box, .inr (.inr (.inl rfl))⟩
    · exact (hv k hf).2
  · rcases hf with rfl | hf
    · exact h.lo
    · exact (hv k hf).1
theorem own_moved {w1 : World} {base T size n g cap : Nat} {xs : List Value} {B o : Nat} {x : Value} (h : w1.ownsRow base T size (.slice (some ⟨g, 0, none⟩) n cap) n xs) (hg : g ≠ B) : (w1.setCell ⟨B, o, none⟩ x).ownsRow base T size (.slice (some ⟨g, 0, none⟩) n cap) n xs := by
  refine ⟨h.1, ?_⟩
  rcases h.2 with h0 | ⟨g', cap', cur', hv', hg', hh, r⟩
  · exact .inl h0
  · simp at hv'
    obtain ⟨rfl, rfl⟩ := hv'
    exact .inr ⟨_, _, cur', rfl, hg', by rw [Below.heap_setCell _ _ _ _ hg]; exact hh, r⟩
end Go.Proofs.YtafoohdndlhbnaaGreatDoor
end

section
namespace Go.Proofs.YtafoohdndlhbnaaGreatDoor
open Go.RowKit Go.Maps Num
set_option maxRecDepth 100000

theorem rFind_any {w0 w : World} {a : Option Addr} {n c : Nat} {L : List Bus} (h : RBusRow w0 w (.slice a n c) L) (hn : n = L.length) (s : ByteArray) :
    Calls Tryz.prog 184 #[.slice a n c, .string s] w fun e w' => (∃ (a2 : Option Addr) (n2 c2 : Nat), e = .returned (.tuple #[.slice a2 n2 c2, .bool (atB L s).isSome])) ∧ w = w' := by
  have hle : n ≤ 9223372036854775807 := by obtain ⟨K, hK⟩ := h; rw [hn]; exact own_maxLen hK.own
  have H := Lib.hid h
  have HN := Lib.hid hn
  clear h hn
  go_enter Tryz.func184, Tryz.ntmps184
  go_wp2
  go_loopw [6] (fun i wr => wr = w ∧ ∃ j : Nat, j ≤ n ∧ i = .int .i64 j ∧ Hid (NotYet L s j)) (fun i _ => n - (intOf i).toNat)
  case atStart => exact ⟨rfl, 0, Nat.zero_le _, rfl, Lib.hid (fun i _ hi => by omega)⟩
  case round =>
    obtain ⟨rfl, j, hj, rfl, hy⟩ := hrel
    by_cases hlt : j < n
    · have hjL : j < L.length := by rw [← HN.out]; exact hlt
      obtain ⟨g, la, lc, rfl, hg, b0, b1, -⟩ := H.out.at hjL
      by_cases hs : sameN L[j].name s = true
      · have hf := Lib.hid (atB_hit hjL hs (fun i hi => hy.out i (by omega) hi))
        unfold sameN at hs
        generalize L[j].name = nm at *
        generalize L[j].lits.length = ll at *
        go_wp2
        go_ret2
        rw [hf.out]
        exact ⟨⟨_, _, _, rfl⟩, rfl⟩
      · have hs' : sameN L[j].name s = false := by simpa using hs
        have hf := Lib.hid (hy.out.next hjL hs')
        unfold sameN at hs'
        clear hs
        generalize L[j].name = nm at *
        generalize L[j].lits.length = ll at *
        go_wp2
        exact ⟨⟨trivial, j + 1, by omega, by go_num, hf⟩, by simp [intOf]; omega⟩
    · obtain rfl : j = n := by omega
      go_wp2
      go_ret2
      rw [atB_miss (fun i hi => hy.out i hi (by rw [HN.out]; exact hi))]
      exact ⟨⟨none, 0, 0, rfl⟩, rfl⟩

theorem rhas_any {w0 w : World} {B g c : Nat} {G : Gr} (h : Rf w0 w B g c G.fold G.hash G.nodes) (hm : G.nodes.length ≤ 200000) {a : Option Addr} {n cap : Nat} {l : List Int} (hs : Row .u32 w a n l) (hl : ∀ x ∈ l, IsLit x) :
    Calls Tryz.prog 118 #[.pointer (some ⟨B, 0, none⟩), .slice a n cap] w fun e w' => e = .returned (.bool (allHas G l)) ∧ Below w.heap.size w w' := by
  obtain ⟨-, -, c2, -⟩ := h.cells
  have hblt := h.blt
  have HT := Lib.hid (fun j (hj : j < n) => allHas_take G l j (by rw [hs.len]; exact hj))
  have HNN := Lib.hid (fun j (hj : j < n) => allHas_not G l j (by rw [hs.len]; exact hj))
  have HL := Lib.hid (fun j (hj : j < n) => hl (l.getD j 0) (by simp [List.getD, hs.len, hj]))
  have HA : Hid (allHas G (l.take n) = allHas G l) := Lib.hid (by rw [← hs.len, List.take_length])
  have HZ : Hid (allHas G (l.take 0) = true) := Lib.hid rfl
  have HS := Lib.hid hs
  have hle := hs.le
  have HB : Hid (∀ x, hasB G x = decide (x / 2 < (G.nodes.length : Int))) := Lib.hid (fun x => rfl)
  generalize hk : G.nodes.length = k at *
  generalize allHas G = P at *
  generalize hasB G = HBf at *
  clear h hk hs hl
  go_enter Tryz.func118, Tryz.ntmps118
  go_wp2
  go_loopw [5] (fun s wr => ∃ j : Nat, j ≤ n ∧ s = .int .i64 j ∧ Hid (Below w.heap.size w wr) ∧ Hid (P (l.take j) = true)) (fun s _ => n - (intOf s).toNat)
  case atStart => exact ⟨0, Nat.zero_le _, rfl, Lib.hid (Below.refl _ _), HZ⟩
  case round =>
    obtain ⟨j, hj, rfl, hB, ht⟩ := hrel
    by_cases hlt : j < n
    · obtain ⟨b, off, rfl, hb, hcell⟩ := HS.out.at (by omega)
      have hcj := stepc hB.out hb (hcell j hlt)
      have c2r := stepc hB.out hblt c2
      have hx := HL.out j hlt
      have htk := Lib.hid (HT.out j hlt)
      have hnt := Lib.hid (HNN.out j hlt)
      have hBx := Lib.hid (HB.out (l.getD j 0))
      generalize l.getD j 0 = x at *
      have hx0 := hx.1
      have hx1 := hx.2
      have hxt : x.tdiv 2 = x / 2 := by rw [Int.tdiv_eq_ediv_of_nonneg hx0]
      have hw1 : IntKind.u32.wrap (x / 2) = x / 2 := by rw [w32]; omega
      have hw2 : IntKind.i64.wrap (x / 2) = x / 2 := IntWalk.i64_in _ (by omega)
      have hBr := Lib.hid (fun q => nextw hB.out (below_draws wr q))
      clear hcell hx hB
      by_cases hxk : x / 2 < (k : Int)
      · have hge : decide (x / 2 ≥ (k : Int)) = false := by simp; omega
        have hge2 : decide ((k : Int) ≤ x / 2) = false := by simp; omega
        go_wp2
        go_quiet (fail)
        go_wp2
        exact ⟨⟨j + 1, by omega, by go_num, Lib.hid (hBr.out _), Lib.hid (by rw [htk.out, ht.out, hBx.out]; simp [hxk])⟩, by simp [intOf]; omega⟩
      · have hge : decide (x / 2 ≥ (k : Int)) = true := by simp; omega
        have hge2 : decide ((k : Int) ≤ x / 2) = true := by simp; omega
        go_wp2
        go_quiet (fail)
        go_wp2
        go_ret
        rw [hnt.out (by rw [hBx.out]; simp; omega)]
        exact ⟨rfl, hBr.out _⟩
    · obtain rfl : j = n := by omega
      go_wp2
      go_ret
      rw [← HA.out, ht.out]
      exact ⟨rfl, hB.out⟩

theorem rinput_val {w0 w : World} {B g c : Nat} {F H : Bool} {ns : List Nd} (h : Rf w0 w B g c F H ns) (hm : ns.length ≤ 200000) :
    Calls Tryz.prog 110 #[.pointer (some ⟨B, 0, none⟩)] w fun e w' => e = .returned (.tuple #[.int .u32 (2 * (ns.length : Int)), .int .i64 0]) ∧ ∃ g1 c1, Rf w0 w' B g1 c1 F H (ns ++ [⟨false, 0, 0⟩]) ∧ Kept (RK w) w w' := by
  obtain ⟨-, -, c2, f2⟩ := h.cells
  have f2 := f2 2
  have hlt := h.blt
  have hglt := h.glt
  have HR := Lib.hid h.row
  have HF := Lib.hid h
  have hne2 : some B ≠ Value.ownBlock (.slice (some ⟨g, 0, none⟩) ns.length c) := by have := h.ne; simpa [Value.ownBlock] using this
  have hp := h.pos
  have hs0 := h.below.size
  obtain ⟨i0, hi, hz0, hz1, hz2⟩ := info_parts info_rnode
  have g0 : decide ((278528 : Int) < (ns.length : Int)) = false := by simp; omega
  generalize hk : ns.length = k at *
  have hk := Lib.hid hk
  clear h
  go_enter Tryz.func110, Tryz.ntmps110
  go_wp2_with (at_builtin; refine wpList_append_lies _ rfl _ _ 115 rfl w0.heap.size 119 i0 (.agg #[.bool false, .int .u32 0, .int .u32 0]) 3 12 Tryz.underlying115 hi hz0 hz1 hz2 rfl (by decide) (.slice (some ⟨g, 0, none⟩) k c) k _ rfl (HR.out.alloc _) ⟨w.heap.size, 0, none⟩ 1 1 [.bool true, .int .u32 0, .int .u32 0] rfl rfl (news3 (by go_simp) (by go_simp) (by go_simp)) (by simp [Value.oneCell']) (by decide) (by unfold maxLen; omega) (by omega) (by simp; omega) _ rfl ?_; intro g1 cap1 w1 hown1 hgrow1 hat1 hlt1; obtain ⟨x0, x1⟩ := grow_box hgrow1 (b := B) (o := 2) (v := .slice (some ⟨g, 0, none⟩) k c) (by go_simp) (by go_simp) hne2)
  go_ret2
  obtain ⟨r1, r2⟩ := rf_next HF.out ((Below.refl _ _).alloc (Nat.le_refl _) _) ⟨false, 0, 0⟩ (by rw [hk.out]; exact hown1) hgrow1 hat1
  rw [hk.out] at r1 r2
  exact ⟨by congr 4, _, _, r1, r2⟩

/-- What Many of two comes to. -/
def manyR (T : Gr → Int → Int → Gr × Int) (G : Gr) (b c : Int) : Gr := if allHas G [b, c] = true then (T G b c).1 else G
theorem rmany_any {op : Int} {T : Gr → Int → Int → Gr × Int} {k : Nat} (hT : RTwo 190000 op T) (hO : OpOk T k) (hk3 : k ≤ 3) {w0 w : World} {B g c : Nat} {G : Gr} (h : Rf w0 w B g c G.fold G.hash G.nodes) (hW : Wf G) (hm : G.nodes.length ≤ 190000) {x y : Int} (hx : IsLit x) (hy : IsLit y) {a : Option Addr} {cap : Nat} (hs : Row .u32 w a 2 [x, y]) :
    Calls Tryz.prog 109 #[.pointer (some ⟨B, 0, none⟩), .int .i64 op, .slice a 2 cap] w fun e w' => (∃ v1 v2, e = .returned (.tuple #[.int .u32 v1, .int .i64 v2])) ∧ ∃ g1 c1, Rf w0 w' B g1 c1 (manyR T G x y).fold (manyR T G x y).hash (manyR T G x y).nodes ∧ Kept (RK w) w w' := by
  have hth := Lib.hid (rhas_any h (by omega) (cap := cap) hs (by intro z hz; simp at hz; rcases hz with rfl | rfl <;> assumption))
  obtain ⟨b, off, rfl, hb, hc⟩ := hs.at (by omega)
  have e0 : w.cell? ⟨b, off, none⟩ = some (.int .u32 x) := hc 0 (by omega)
  have e1 : w.cell? ⟨b, off + 1, none⟩ = some (.int .u32 y) := hc 1 (by omega)
  unfold manyR
  cases hA : allHas G [x, y] with
  | false =>
    rw [hA] at hth
    have hst := Lib.hid (fun w2 (hb2 : Below w.heap.size w w2) => h.step hb2)
    simp only [if_neg (show ¬ (false = true) by simp)]
    clear h hs hc
    go_enter Tryz.func109, Tryz.ntmps109
    go_wp2_with (go_at_call 118; (with_reducible refine hth.out.mono ?_); rintro e w2 ⟨rfl, hB2⟩)
    go_ret2
    exact ⟨⟨_, _, rfl⟩, g, c, hst.out _ hB2, RK.of_below hB2⟩
  | true =>
    rw [hA] at hth
    have ha := allHas_there (l := [x, y]) (by intro z hz; simp at hz; rcases hz with rfl | rfl <;> assumption) hA
    have hxT := ha x (by simp)
    have hyT := ha y (by simp)
    have hg := hO G x y hW hxT hyT (by omega)
    have htw := Lib.hid (fun w2 (hb2 : Below w.heap.size w w2) => hT w0 w2 B g c G x y (h.step hb2) hW hm hxT hyT)
    have hfo := Lib.hid (And.intro hg.le.fold hg.le.hash)
    simp only [if_true]
    clear h hs hc hg ha hxT hyT hA
    generalize T G x y = r at *
    go_enter Tryz.func109, Tryz.ntmps109
    go_wp2_with (go_at_call 118; (with_reducible refine hth.out.mono ?_); rintro e w2 ⟨rfl, hB2⟩; have d0 := stepc hB2 hb e0; have d1 := stepc hB2 hb e1; have htw2 := Lib.hid (htw.out _ hB2); have hB2 := Lib.hid hB2)
    go_loopw [8, 9, 10, 11, 30] (fun s8 s9 _ _ _ wr => (s9 = .int .i64 1 ∧ s8 = .int .u32 x ∧ wr = w2) ∨ (s9 = .int .i64 2 ∧ (∃ v, s8 = .int .u32 v) ∧ ∃ g1 c1, Hid (Rf w0 wr B g1 c1 G.fold G.hash r.1.nodes) ∧ Hid (Kept (RK w2) w2 wr))) (fun _ s9 _ _ _ _ => 2 - (intOf s9).toNat)
    case atStart => exact .inl ⟨rfl, rfl, rfl⟩
    case round =>
      rcases hrel with ⟨rfl, rfl, rfl⟩ | ⟨rfl, ⟨v, rfl⟩, g1, c1, hR, hK⟩
      · go_wp2_with (go_at_call 185; (with_reducible refine htw2.out.mono ?_); rintro e w3 ⟨rfl, g3, c3, hR3, hK3⟩)
        exact ⟨.inr ⟨rfl, ⟨_, rfl⟩, g3, c3, Lib.hid hR3, Lib.hid hK3⟩, by decide⟩
      · clear d0 d1 htw2 htw
        go_wp2
        go_ret2
        refine ⟨⟨_, _, rfl⟩, g1, c1, ?_, RK.trans (RK.of_below hB2.out) hK.out⟩
        rw [hfo.out.1, hfo.out.2]
        exact hR.out
theorem rtwo_and' : RTwo 190000 1 andG := fun w0 w B g c G a b h hW hm ha hb => rtwo_and w0 w B g c G a b h hW (by omega) ha hb

-- May a bus have this name?
set_option maxHeartbeats 4000000 in
theorem rMayName_any (s : ByteArray) (w : World) :
    Calls Tryz.prog 100 #[.string s] w fun e w' => e = .returned (.bool (mayName s)) ∧ w = w' := by
  by_cases h1 : s.size < 1
  · have e : mayName s = false := by unfold mayName; simp; omega
    rw [e]
    have h1' : decide ((s.size : Int) < 1) = true := by simp; omega
    go_enter Tryz.func100, Tryz.ntmps100
    go_wp2
    go_ret
    exact ⟨rfl, rfl⟩
  by_cases h2 : 80 < s.size
  · have e : mayName s = false := by unfold mayName; simp; omega
    rw [e]
    have h1' : decide ((s.size : Int) < 1) = false := by simp; omega
    have h2' : decide (80 < (s.size : Int)) = true := by simp; omega
    go_enter Tryz.func100, Tryz.ntmps100
    go_wp2
    go_ret
    exact ⟨rfl, rfl⟩
  have hm : Hid (mayName s = spellAll s.data.toList) := Lib.hid (by unfold mayName; rw [show decide (1 ≤ s.size) = true by simp; omega, show decide (s.size ≤ 80) = true by simp; omega]; rfl)
  have hl : Hid (s.data.toList.length = s.size) := Lib.hid (Array.length_toList)
  have h1' : decide ((s.size : Int) < 1) = false := by simp; omega
  have h2' : decide (80 < (s.size : Int)) = false := by simp; omega
  rw [hm.out]
  go_enter Tryz.func100, Tryz.ntmps100
  go_wp2
  go_loopw [3, 4, 5, 6] (fun i _ _ _ wr => wr = w ∧ ∃ j : Nat, j ≤ s.size ∧ i = .int .i64 j ∧ Hid (spellAll (s.data.toList.take j) = true)) (fun i _ _ _ _ => s.size - (intOf i).toNat)
  case atStart => exact ⟨rfl, 0, Nat.zero_le _, rfl, Lib.hid rfl⟩
  case round =>
    obtain ⟨rfl, j, hj, rfl, ht⟩ := hrel
    by_cases hlt : j < s.size
    · have hn := Lib.hid (spell_not s.data.toList j (by rw [hl.out]; exact hlt))
      have htk := Lib.hid (spell_take s.data.toList j (by rw [hl.out]; exact hlt))
      have e1 : s.data.toList.getD j 0 = s[j] := by
        rw [List.getD_eq_getElem?_getD, Array.getElem?_toList, Array.getElem?_eq_getElem hlt]; rfl
      rw [e1] at hn htk
      obtain ⟨b, hb⟩ : ∃ b : Int, ((s[j].toNat : Nat) : Int) = b := ⟨_, rfl⟩
      rw [hb] at hn htk
      obtain ⟨p1, hp1⟩ : ∃ p, decide (b ≥ 97) = p := ⟨_, rfl⟩
      obtain ⟨p2, hp2⟩ : ∃ p, decide (b ≤ 122) = p := ⟨_, rfl⟩
      obtain ⟨p3, hp3⟩ : ∃ p, decide (b ≥ 65) = p := ⟨_, rfl⟩
      obtain ⟨p4, hp4⟩ : ∃ p, decide (b ≤ 90) = p := ⟨_, rfl⟩
      obtain ⟨p5, hp5⟩ : ∃ p, decide (b ≥ 48) = p := ⟨_, rfl⟩
      obtain ⟨p6, hp6⟩ : ∃ p, decide (b ≤ 57) = p := ⟨_, rfl⟩
      obtain ⟨p7, hp7⟩ : ∃ p, (b == 95) = p := ⟨_, rfl⟩
      obtain ⟨p8, hp8⟩ : ∃ p, (b == 64) = p := ⟨_, rfl⟩
      obtain ⟨p9, hp9⟩ : ∃ p, (b == 63) = p := ⟨_, rfl⟩
      have hsp : Hid (spellB b = ((((((p1 && p2) || (p3 && p4)) || (p5 && p6)) || p7) || p8) || p9)) := Lib.hid (by subst hp1 hp2 hp3 hp4 hp5 hp6 hp7 hp8 hp9; rfl)
      rw [hsp.out] at hn htk
      clear e1 hsp
      obtain ⟨LL, hLL⟩ : ∃ q, ((p1 && p2) || (p3 && p4)) = q := ⟨_, rfl⟩
      obtain ⟨DD, hDD⟩ : ∃ q, (p5 && p6) = q := ⟨_, rfl⟩
      rw [hLL, hDD] at hn htk
      go_upto_region 7 with fail
      go_cut [5] (fun s5 wx => wx = wr ∧ s5 = .bool LL)
      case first =>
        clear hn htk hDD hp5 hp6 hp7 hp8 hp9
        go_wp2
        all_goals (go_meet; exact ⟨rfl, by subst hLL; simp [*]⟩)
      case rest =>
        clear hp1 hp2 hp3 hp4 hLL
        obtain ⟨rfl, rfl⟩ := hcut
        go_upto_region 8 with fail
        go_cut [6] (fun s6 wx => wx = wc ∧ s6 = .bool DD)
        case first =>
          clear hn htk hp7 hp8 hp9
          go_wp2
          all_goals (go_meet; exact ⟨rfl, by subst hDD; simp [*]⟩)
        case rest =>
          clear hp5 hp6 hDD
          obtain ⟨rfl, rfl⟩ := hcut
          subst hp7 hp8 hp9
          go_wp2
          all_goals first
            | (go_ret; rw [hn.out (by simp_all)]; exact ⟨rfl, rfl⟩)
            | exact ⟨⟨trivial, j + 1, by omega, by go_num, Lib.hid (by rw [htk.out, ht.out]; simp_all; done)⟩, by simp [intOf]; omega⟩
    · obtain rfl : j = s.size := by omega
      rw [← hl.out, List.take_length] at ht
      go_wp2
      go_ret
      rw [ht.out]
      exact ⟨rfl, rfl⟩
end Go.Proofs.YtafoohdndlhbnaaGreatDoor
end
