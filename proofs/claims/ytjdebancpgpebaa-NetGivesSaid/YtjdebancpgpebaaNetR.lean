/-
  What a step leaves is well formed; how much it makes; what is refused.
-/
import Derived.Test.YtjdebancpgpebaaNetQ
namespace Go.Proofs.Ytjdebancpgpebaa
open Go.RowKit Go.Maps Bits

/-- What a step leaves is well formed; what it tells is a row of literals. -/
theorem doesN_good {N : Nt} {rest : List Int} (hg : Good N rest) (hS : Small N) {w : World} {s : StV} (hs : StOk w s) (h8 : s.what ≠ 8) : Good (doesN N s).1 rest := by
  have := hS.g
  unfold doesN
  split
  · exact hg.addIn _ _
  split
  · exact hg.addReg _
  split
  · exact hg.setReg _ _ _ hs.b hs.c
  split
  · exact hg.addOut _ _ (fun x hx => hs.lits x (List.mem_of_mem_take hx))
  split
  · exact (gate_good and_ok hg (by omega) hs.b hs.c).1
  split
  · exact (gate_good xor_ok hg (by omega) hs.b hs.c).1
  exact hg
/-- How much a step makes. -/
theorem addIn_small (N : Nt) (s : ByteArray) (k : Int) : (addIn N s k).1.g.nodes.length ≤ N.g.nodes.length + 64 ∧ (addIn N s k).1.ins.length ≤ N.ins.length + 1 ∧ (addIn N s k).1.regs = N.regs ∧ (addIn N s k).1.outs = N.outs := by
  unfold addIn
  split
  · rename_i hc
    simp only [Bool.and_eq_true] at hc
    have hk := wide_iff.1 hc.2
    split
    · exact ⟨by simp only; omega, by simp only; omega, rfl, rfl⟩
    · exact ⟨by simp only [inputsN_len]; omega, by simp, rfl, rfl⟩
  · exact ⟨by simp only; omega, by simp only; omega, rfl, rfl⟩
theorem setReg_small (N : Nt) (x d e : Int) : (setReg N x d e).1.g = N.g ∧ (setReg N x d e).1.ins = N.ins ∧ (setReg N x d e).1.regs.length = N.regs.length ∧ (setReg N x d e).1.outs = N.outs := by
  unfold setReg
  split
  · exact ⟨rfl, rfl, rfl, rfl⟩
  · split
    · exact ⟨rfl, rfl, by simp, rfl⟩
    · exact ⟨rfl, rfl, rfl, rfl⟩
theorem addOut_small (N : Nt) (s : ByteArray) (l : List Int) : (addOut N s l).1.g = N.g ∧ (addOut N s l).1.ins = N.ins ∧ (addOut N s l).1.regs = N.regs ∧ (addOut N s l).1.outs.length ≤ N.outs.length + 1 := by
  unfold addOut
  split
  · split
    · exact ⟨rfl, rfl, rfl, by simp only; omega⟩
    · exact ⟨rfl, rfl, rfl, by simp⟩
  · exact ⟨rfl, rfl, rfl, by simp only; omega⟩
theorem gate_same (T : Gr → Int → Int → Gr × Int) (N : Nt) (b c : Int) : (gateN T N b c).1.ins = N.ins ∧ (gateN T N b c).1.regs = N.regs ∧ (gateN T N b c).1.outs = N.outs := by
  unfold gateN
  split <;> exact ⟨rfl, rfl, rfl⟩
/-- Bounds, step by step. -/
structure Upto (N : Nt) (j : Nat) : Prop where
  g : N.g.nodes.length ≤ 1 + 64 * j
  ins : N.ins.length ≤ j
  regs : N.regs.length ≤ j
  outs : N.outs.length ≤ j
theorem Upto.small {N : Nt} {j : Nat} (h : Upto N j) (hj : j ≤ 60) : Small N := ⟨by have := h.g; omega, by have := h.ins; omega, by have := h.regs; omega, by have := h.outs; omega⟩
theorem Upto.mono {N : Nt} {j k : Nat} (h : Upto N j) (hj : j ≤ k) : Upto N k := ⟨by have := h.g; omega, by have := h.ins; omega, by have := h.regs; omega, by have := h.outs; omega⟩
theorem Upto.does {N : Nt} {j : Nat} (h : Upto N j) (hj : j ≤ 60) {rest : List Int} (hg : Good N rest) {w : World} {s : StV} (hs : StOk w s) : Upto (doesN N s).1 (j + 1) := by
  have hm := (h.small hj).g
  obtain ⟨h1, h2, h3, h4⟩ := h
  unfold doesN
  split
  · obtain ⟨a, b, c, d⟩ := addIn_small N s.name s.n
    exact ⟨by omega, by omega, by rw [c]; omega, by rw [d]; omega⟩
  split
  · exact ⟨by show (inputG N.g).nodes.length ≤ _; rw [inputG_len]; omega, by show N.ins.length ≤ _; omega, by show (N.regs ++ [_]).length ≤ _; simp; omega, by show N.outs.length ≤ _; omega⟩
  split
  · obtain ⟨a, b, c, d⟩ := setReg_small N s.a s.b s.c
    exact ⟨by rw [a]; omega, by rw [b]; omega, by rw [c]; omega, by rw [d]; omega⟩
  split
  · obtain ⟨a, b, c, d⟩ := addOut_small N s.name (s.zs.take 70)
    exact ⟨by rw [a]; omega, by rw [b]; omega, by rw [c]; omega, by show (addOut N s.name (s.zs.take 70)).1.outs.length ≤ _; omega⟩
  split
  · have e := (gate_good and_ok hg (by omega) hs.b hs.c).2
    obtain ⟨a, b, c⟩ := gate_same andG N s.b s.c
    exact ⟨by show (gateN andG N s.b s.c).1.g.nodes.length ≤ _; omega, by rw [a]; omega, by rw [b]; omega, by rw [c]; omega⟩
  split
  · have e := (gate_good xor_ok hg (by omega) hs.b hs.c).2
    obtain ⟨a, b, c⟩ := gate_same xorG N s.b s.c
    exact ⟨by show (gateN xorG N s.b s.c).1.g.nodes.length ≤ _; omega, by rw [a]; omega, by rw [b]; omega, by rw [c]; omega⟩
  split
  · exact ⟨by show (inputG N.g).nodes.length ≤ _; rw [inputG_len]; omega, by show N.ins.length ≤ _; omega, by show N.regs.length ≤ _; omega, by show N.outs.length ≤ _; omega⟩
  · exact ⟨by show N.g.nodes.length ≤ _; omega, by show N.ins.length ≤ _; omega, by show N.regs.length ≤ _; omega, by show N.outs.length ≤ _; omega⟩
/-- What is refused changes nothing. -/
theorem doesN_refused {N : Nt} {s : StV} (h : (doesN N s).2.2 ≠ 0) : (doesN N s).1 = N := by
  unfold doesN at h ⊢
  split
  · rename_i e; rw [if_pos e] at h
    unfold addIn at h ⊢
    split
    · rename_i e2; rw [if_pos e2] at h
      split
      · rfl
      · rename_i e3; rw [if_neg e3] at h; exact absurd rfl h
    · rfl
  rename_i e0; rw [if_neg e0] at h
  split
  · rename_i e; rw [if_pos e] at h; exact absurd rfl h
  rename_i e1; rw [if_neg e1] at h
  split
  · rename_i e; rw [if_pos e] at h
    unfold setReg at h ⊢
    split
    · rfl
    · rename_i i hi
      rw [hi] at h
      simp only at h
      split
      · rename_i e2; rw [if_pos e2] at h; exact absurd rfl h
      · rfl
  rename_i e2; rw [if_neg e2] at h
  split
  · rename_i e; rw [if_pos e] at h
    unfold addOut at h ⊢
    split
    · rename_i e2; rw [if_pos e2] at h
      split
      · rfl
      · rename_i e3; rw [if_neg e3] at h; exact absurd rfl h
    · rfl
  rename_i e3; rw [if_neg e3] at h
  split
  · rename_i e; rw [if_pos e] at h
    unfold gateN at h ⊢
    split
    · rename_i e2; rw [if_pos e2] at h; exact absurd rfl h
    · rfl
  rename_i e4; rw [if_neg e4] at h
  split
  · rename_i e; rw [if_pos e] at h
    unfold gateN at h ⊢
    split
    · rename_i e2; rw [if_pos e2] at h; exact absurd rfl h
    · rfl
  rename_i e5; rw [if_neg e5] at h
  split
  · rename_i e; rw [if_pos e] at h; exact absurd rfl h
  · rfl
end Go.Proofs.Ytjdebancpgpebaa
