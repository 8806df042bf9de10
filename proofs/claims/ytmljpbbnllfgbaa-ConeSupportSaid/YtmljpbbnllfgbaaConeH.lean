/-
  Copy, plainly; the walk.
-/
import Derived.Test.YtmljpbbnllfgbaaConeG
import Derived.Test.YtmljpbbnllfgbaaConeD
namespace Go.Proofs.Ytmljpbbnllfgbaa
open Go.RowKit Go.Maps Num
set_option maxRecDepth 100000

def inS (N : Nat) (ins by_ : List Int) : Nat → List Int
  | 0 => List.replicate N 0
  | k + 1 => (inS N ins by_ k).set (ins.getD k 0).toNat (by_.getD k 0)
def GateP (G : Gr) (l : List Int) (j : Nat) : Prop := ReachP G l j ∧ (nodeAt G j).gate = true
open Classical in
noncomputable def cpTo (G : Gr) (l : List Int) (r0 : Gr × List Int) : Nat → Gr × List Int
  | 0 => r0
  | i + 1 => if GateP G l i then ((andG (cpTo G l r0 i).1 (overV (cpTo G l r0 i).2 (nodeAt G i).a) (overV (cpTo G l r0 i).2 (nodeAt G i).b)).1, (cpTo G l r0 i).2.set i (andG (cpTo G l r0 i).1 (overV (cpTo G l r0 i).2 (nodeAt G i).a) (overV (cpTo G l r0 i).2 (nodeAt G i).b)).2) else cpTo G l r0 i
theorem cp_yes {G : Gr} {l : List Int} {r0 : Gr × List Int} {i : Nat} (h : GateP G l i) : cpTo G l r0 (i + 1) = ((andG (cpTo G l r0 i).1 (overV (cpTo G l r0 i).2 (nodeAt G i).a) (overV (cpTo G l r0 i).2 (nodeAt G i).b)).1, (cpTo G l r0 i).2.set i (andG (cpTo G l r0 i).1 (overV (cpTo G l r0 i).2 (nodeAt G i).a) (overV (cpTo G l r0 i).2 (nodeAt G i).b)).2) := if_pos h
theorem cp_no {G : Gr} {l : List Int} {r0 : Gr × List Int} {i : Nat} (h : ¬ GateP G l i) : cpTo G l r0 (i + 1) = cpTo G l r0 i := if_neg h
noncomputable def copyG (G : Gr) (l : List Int) (T : Gr) (by_ : List Int) : Gr × List Int := cpTo G l (T, inS G.nodes.length G.inputs by_ G.inputs.length) G.nodes.length

/-- What holds of a copy's graph and row. -/
structure CpOk (T0 : Gr) (N k : Nat) (r : Gr × List Int) : Prop where
  wf : Wf r.1
  le : Le T0 r.1
  len : r.1.nodes.length ≤ T0.nodes.length + k
  ins : r.1.inputs = T0.inputs
  slen : r.2.length = N
  there : AllThere r.1 r.2
  zero : r.2.getD 0 0 = 0
theorem there_zero {T : Gr} (hW : Wf T) : There T 0 := ⟨⟨by omega, by omega⟩, by have := hW.pos; omega⟩
theorem CpOk.lits {T0 : Gr} {N k : Nat} {r : Gr × List Int} (h : CpOk T0 N k r) (i : Nat) : There r.1 (r.2.getD i 0) := by
  by_cases hi : i < r.2.length
  · exact h.there _ (by simp [List.getD, hi])
  · have e : r.2.getD i 0 = 0 := by simp [List.getD, List.getElem?_eq_none (Nat.le_of_not_lt hi)]
    rw [e]; exact there_zero h.wf
theorem inS_ok {T G : Gr} (hWT : Wf T) (hW : Wf G) {by_ : List Int} (hb : AllThere T by_) : ∀ k, k ≤ G.inputs.length → (inS G.nodes.length G.inputs by_ k).length = G.nodes.length ∧ AllThere T (inS G.nodes.length G.inputs by_ k) ∧ (inS G.nodes.length G.inputs by_ k).getD 0 0 = 0 := by
  intro k
  induction k with
  | zero =>
    intro _
    refine ⟨by simp [inS], fun x hx => ?_, ?_⟩
    · simp [inS] at hx; rw [hx.2]; exact there_zero hWT
    · simp [inS, List.getD, List.getElem?_replicate]; split <;> rfl
  | succ k ih =>
    intro hk
    obtain ⟨h1, h2, h3⟩ := ih (by omega)
    have hg : G.inputs[k]? = some (G.inputs.getD k 0) := by simp [List.getD, show k < G.inputs.length by omega]
    obtain ⟨m, em, m0, n, hn, -⟩ := hW.ins k _ hg
    have hm := (List.getElem?_eq_some_iff.1 hn).1
    refine ⟨by simp [inS, h1], fun x hx => ?_, ?_⟩
    · rcases List.mem_or_eq_of_mem_set hx with hx | rfl
      · exact h2 x hx
      · by_cases hi : k < by_.length
        · exact hb _ (by simp [List.getD, hi])
        · rw [show by_.getD k 0 = 0 by simp [List.getD, List.getElem?_eq_none (Nat.le_of_not_lt hi)]]; exact there_zero hWT
    · rw [inS, em, Int.toNat_natCast, getD_set _ _ _ (by omega), if_neg (by omega)]; exact h3
theorem cp_ok {T0 G : Gr} {l : List Int} {S0 : List Int} {N : Nat} (hW : Wf G) (h0 : CpOk T0 N 0 (T0, S0)) (hl : T0.nodes.length + N ≤ 8000000) : ∀ i, i ≤ N → CpOk T0 N (selTo (GateP G l) i).length (cpTo G l (T0, S0) i) := by
  intro i
  induction i with
  | zero => intro _; exact h0
  | succ i ih =>
    intro hi
    have h := ih (by omega)
    have hs := selTo_len (GateP G l) i
    by_cases hg : GateP G l i
    · rw [cp_yes hg, selTo_yes hg, List.length_append, List.length_singleton]
      have hx := over_there h.lits (nodeAt G i).a
      have hy := over_there h.lits (nodeAt G i).b
      have hlen := h.len
      have gd := andG_good h.wf hx hy (by omega)
      refine ⟨gd.wf, h.le.trans gd.le, by have := gd.len; simp only; omega, gd.ins.trans h.ins, by rw [List.length_set]; exact h.slen, ?_, ?_⟩
      · intro x hx
        rcases List.mem_or_eq_of_mem_set hx with hx | rfl
        · exact gd.le.there (h.there x hx)
        · exact gd.there
      · rw [getD_set _ _ _ (by rw [h.slen]; omega), if_neg (by have := hg.1.1; omega)]
        exact h.zero
    · rw [cp_no hg, selTo_no hg]
      exact h
theorem start_ok {T G : Gr} (hWT : Wf T) (hW : Wf G) {by_ : List Int} (hb : AllThere T by_) : CpOk T G.nodes.length 0 (T, inS G.nodes.length G.inputs by_ G.inputs.length) := by
  obtain ⟨h1, h2, h3⟩ := inS_ok hWT hW hb _ (Nat.le_refl _)
  exact ⟨hWT, Le.refl _, by simp, rfl, h1, h2, h3⟩

def CpyQ (w0 : World) (p0 : Pl) (G : Gr) (l : List Int) (r0 : Gr × List Int) (g qs qt qc : Nat) (i : Nat) (wr : World) : Prop :=
  Kept p0.has w0 wr ∧ (i ≤ G.nodes.length → ∃ p, CpS w0 wr p0 p (cpTo G l r0 i).1 g qs qt qc G.nodes.length (cpTo G l r0 i).2)
theorem copy_met {w0 : World} {p0 pf : Pl} {G T : Gr} {S0 l : List Int} (hI : Is w0 pf G) (hdis : ∀ k, p0.has k → ¬ pf.has k) (hW : Wf G) (hm : G.nodes.length ≤ 40000) (hT : T.nodes.length ≤ 40000) (h0 : CpOk T G.nodes.length 0 (T, S0)) (hl : AllThere G l) (g qs qt qc : Nat) :
    Met pf.b G l 46 #[.pointer (some ⟨qt, 0, none⟩), .pointer (some ⟨qc, 0, none⟩), .pointer (some ⟨qs, 0, none⟩)] (CpyQ w0 p0 G l (T, S0) g qs qt qc) where
  is := fun i wr h => ⟨pf, rfl, hI.beside h.1 hdis⟩
  below := fun i wr w' h hb => ⟨h.1.trans (Kept.of_below (F := fun _ => False) hb) (fun x hx => hx.elim), fun hi => by
    obtain ⟨p, hp⟩ := h.2 hi
    exact ⟨p, hp.below hb⟩⟩
  skip := fun i wr h hn => ⟨h.1, fun hi => by
    rw [cp_no (fun hg => hn hg.1)]; exact h.2 (by omega)⟩
  call := fun i wr h hi0 hL => by
    have hi := hL.lt hW hl
    cases hg : (nodeAt G i).gate with
    | false =>
      refine (copy20_any wr i _ _ _ _ _).mono (fun e w' ⟨he, hw⟩ => ⟨he, ?_, SameB.below (hw ▸ Below.refl _ _)⟩)
      subst hw
      exact ⟨h.1, fun hi2 => by rw [cp_no (fun hh => by have := hh.2; rw [hg] at this; cases this)]; exact h.2 (by omega)⟩
    | true =>
      obtain ⟨ta, tb, la, lb, -⟩ := gate_lits hW hg
      obtain ⟨p, hp⟩ := h.2 (by omega)
      have hok := cp_ok (l := l) hW h0 (by omega) i (by omega)
      have hs := selTo_len (GateP G l) i
      have hlen := hok.len
      refine (copy2_any hp (by omega) ta.1 tb.1 hi (by omega) (by omega) (by omega)).mono (fun e w' ⟨he, ⟨p', hC⟩, hS⟩ => ⟨he, ⟨hC.step.kept, fun hi2 => ⟨p', ?_⟩⟩, hS⟩)
      rw [cp_yes ⟨⟨hi0, hL⟩, hg⟩]
      exact hC
end Go.Proofs.Ytmljpbbnllfgbaa
