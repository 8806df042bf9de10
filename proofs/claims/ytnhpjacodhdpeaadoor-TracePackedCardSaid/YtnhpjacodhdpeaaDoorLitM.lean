/-
  Plain functions for package lit, and what they come to.
-/
import Derived.Test.YtnhpjacodhdpeaaDoorNum
namespace Go.Proofs.YtnhpjacodhdpeaaDoor
open Go.RowKit Num

def notV (l : Int) : Int := if l % 2 == 0 then l + 1 else l - 1
def turnV (l : Int) : Bool := l % 2 == 1
def ifV (l : Int) (t : Bool) : Int := if t then notV l else l
def ofBad (n : Int) : Bool := decide (n < 0) || decide (16777216 < n)
def ofV (n : Int) (t : Bool) : Int := if ofBad n then 0 else 2 * n + (if t then 1 else 0)
def ofE (n : Int) : Int := if ofBad n then 1 else 0
/-- A node's word. -/
def nodeW (n : Int) (zs : List Int) : Int := if decide (0 < n) && decide (n < zs.length) then zs.getD n.toNat 0 else 0
def wordV (l : Int) (zs : List Int) : Int := if turnV l then 18446744073709551615 - nodeW (l / 2) zs else nodeW (l / 2) zs
def foldB (a b : Int) : Bool := (a == 0) || (b == 0) || (a == notV b) || (a == 1) || (b == 1) || (a == b)
def foldV (a b : Int) : Int := if (a == 0) || (b == 0) || (a == notV b) then 0 else if a == 1 then b else if (b == 1) || (a == b) then a else 0

/-- A literal as a machine holds it. -/
def IsLit (l : Int) : Prop := 0 ≤ l ∧ l < 4294967296
/-- Words of a valuation. -/
def Words (zs : List Int) : Prop := ∀ i, 0 ≤ zs.getD i 0 ∧ zs.getD i 0 < 18446744073709551616

theorem notV_lit {l : Int} (h : IsLit l) : IsLit (notV l) := by
  unfold IsLit notV at *; split <;> simp_all <;> omega
theorem notV_not (l : Int) : notV (notV l) = l := by
  by_cases e : l % 2 = 0
  · have h : (l + 1) % 2 = 1 := by omega
    unfold notV; simp [e, h]
  · have h : (l - 1) % 2 = 0 := by omega
    unfold notV; simp [e, h]
theorem notV_half (l : Int) : notV l / 2 = l / 2 := by
  unfold notV; split <;> simp_all <;> omega
theorem notV_turn (l : Int) : turnV (notV l) = !turnV l := by
  by_cases e : l % 2 = 0
  · have h : (l + 1) % 2 = 1 := by omega
    unfold notV turnV; simp [e, h]
  · have h : (l - 1) % 2 = 0 := by omega
    have h2 : l % 2 = 1 := by omega
    unfold notV turnV; simp [h, h2]
theorem notV_ne (l : Int) : notV l ≠ l := by unfold notV; split <;> omega
theorem xor_not {l : Int} (h : IsLit l) : bits .xor .u32 l 1 = notV l := by
  obtain ⟨h0, h1⟩ := h
  rw [xor32 h0 h1 (by decide) (by decide), show (1 : Int).toNat = 1 from rfl, nat_xor_one]
  unfold notV
  by_cases e : l % 2 = 0
  · rw [if_pos (by omega), if_pos (by simpa using e)]; omega
  · rw [if_neg (by omega), if_neg (by simpa using e)]; omega
theorem and_turn {l : Int} (h : IsLit l) : (bits .and .u32 l 1 == 1) = turnV l := by
  rw [one32 h.1 h.2]; rfl

theorem nodeW_bd {zs : List Int} (h : Words zs) (n : Int) : 0 ≤ nodeW n zs ∧ nodeW n zs < 18446744073709551616 := by
  unfold nodeW; split
  · exact h _
  · omega
theorem wordV_bd {zs : List Int} (h : Words zs) (l : Int) : 0 ≤ wordV l zs ∧ wordV l zs < 18446744073709551616 := by
  have := nodeW_bd h (l / 2)
  unfold wordV; split <;> omega
theorem wordV_not (l : Int) (zs : List Int) : wordV (notV l) zs = 18446744073709551615 - wordV l zs := by
  unfold wordV
  rw [notV_half, notV_turn]
  cases turnV l <;> simp
  omega
theorem wordV_0 (zs : List Int) : wordV 0 zs = 0 := by unfold wordV turnV nodeW; simp
theorem wordV_1 (zs : List Int) : wordV 1 zs = 18446744073709551615 := by unfold wordV turnV nodeW; simp

theorem foldV_word {a b : Int} {zs : List Int} (h : Words zs) (hf : foldB a b = true) : wordV (foldV a b) zs = bits .and .u64 (wordV a zs) (wordV b zs) := by
  have ba := wordV_bd h a
  have bb := wordV_bd h b
  unfold foldV
  by_cases h0 : a = 0
  · subst h0; simp [wordV_0, zero_and64 bb.1 bb.2]
  by_cases h1 : b = 0
  · subst h1; simp [wordV_0, and_zero64 ba.1 ba.2]
  by_cases h2 : a = notV b
  · subst h2; simp [wordV_0]; rw [wordV_not, and_comm64 (by omega) (by omega) bb.1 bb.2, and_not64 bb.1 bb.2]
  by_cases h3 : a = 1
  · subst h3; simp [h1, h2, wordV_1]; rw [and_comm64 (by decide) (by decide) bb.1 bb.2, and_ones64 bb.1 bb.2]
  by_cases h4 : b = 1
  · subst h4; simp [h0, h2, h3, wordV_1]; rw [and_ones64 ba.1 ba.2]
  by_cases h5 : a = b
  · subst h5; simp [h0, h2, h3]; rw [and_self64 ba.1 ba.2]
  · unfold foldB at hf; simp [h0, h1, h2, h3, h4, h5] at hf
theorem notV_inj {a b : Int} (h : notV a = notV b) : a = b := by rw [← notV_not a, h, notV_not]
theorem notV_eq {a b : Int} : a = notV b ↔ b = notV a := ⟨fun h => by rw [h, notV_not], fun h => by rw [h, notV_not]⟩
theorem foldB_comm (a b : Int) : foldB a b = foldB b a := by
  unfold foldB
  have e : (a == notV b) = (b == notV a) := by
    rw [Bool.eq_iff_iff]; simp only [beq_iff_eq]; exact notV_eq
  have e2 : (a == b) = (b == a) := by rw [Bool.eq_iff_iff]; simp only [beq_iff_eq]; exact ⟨Eq.symm, Eq.symm⟩
  rw [e, e2]
  cases (a == 0) <;> cases (b == 0) <;> cases (b == notV a) <;> cases (a == 1) <;> cases (b == 1) <;> rfl
theorem foldV_comm (a b : Int) : foldV a b = foldV b a := by
  unfold foldV
  have e : (a == notV b) = (b == notV a) := by
    rw [Bool.eq_iff_iff]; simp only [beq_iff_eq]; exact notV_eq
  rw [e]
  have o : ((a == 0) || (b == 0) || (b == notV a)) = ((b == 0) || (a == 0) || (b == notV a)) := by cases (a == 0) <;> cases (b == 0) <;> rfl
  rw [o]
  cases ((b == 0) || (a == 0) || (b == notV a))
  · by_cases h3 : a = 1
    · by_cases h4 : b = 1
      · rw [h3, h4]
      · simp [h3, h4]
    · by_cases h4 : b = 1
      · simp [h3, h4]
      · by_cases h5 : a = b
        · rw [h5]
        · have h6 : ¬ b = a := fun h => h5 h.symm
          simp [h3, h4, h5, h6]
  · rfl
theorem foldV_lit {a b : Int} (ha : IsLit a) (hb : IsLit b) : IsLit (foldV a b) := by
  have hz : IsLit 0 := by unfold IsLit; omega
  unfold foldV; split
  · exact hz
  · split
    · exact hb
    · split
      · exact ha
      · exact hz
/-- Where no gate is needed. -/
theorem foldB_no {a b : Int} (ha : 0 ≤ a) (hb : 0 ≤ b) (h : foldB a b = false) : (a / 2 == b / 2) = false ∧ 1 < a ∧ 1 < b := by
  unfold foldB at h
  simp at h
  obtain ⟨⟨⟨⟨⟨h0, h1⟩, h2⟩, h3⟩, h4⟩, h5⟩ := h
  refine ⟨?_, by omega, by omega⟩
  simp
  intro e
  unfold notV at h2
  split at h2 <;> simp_all <;> omega
end Go.Proofs.YtnhpjacodhdpeaaDoor
