/-
  Numbers of what comes in.
-/
import Derived.Test.YtnhpjacodhdpeaaDoorTrT
import Derived.Test.YtnhpjacodhdpeaaDoorTIn
namespace Go.Proofs.YtnhpjacodhdpeaaDoor
open Go.RowKit
set_option maxRecDepth 100000

theorem u8_nat {z : Int} (h : (Go.Lit.int .u8 z).wf = true) : ∃ n : Nat, z = (n : Int) ∧ n < 256 := by
  simp [Go.Lit.wf, IntKind.min, IntKind.max, IntKind.signed, IntKind.bits] at h
  exact ⟨z.toNat, by omega, by omega⟩
theorem u16_nat {z : Int} (h : (Go.Lit.int .u16 z).wf = true) : ∃ n : Nat, z = (n : Int) ∧ n < 65536 := by
  simp [Go.Lit.wf, IntKind.min, IntKind.max, IntKind.signed, IntKind.bits] at h
  exact ⟨z.toNat, by omega, by omega⟩
theorem u64_nat {z : Int} (h : (Go.Lit.int .u64 z).wf = true) : ∃ n : Nat, z = (n : Int) ∧ n < 18446744073709551616 := by
  have := bounds_u64 h
  exact ⟨z.toNat, by omega, by omega⟩
theorem fewR_mem {R : List (List Int)} {r : List Int} {z : Int} (hr : r ∈ fewR R) (hz : z ∈ r) : ∃ i, i < R.length ∧ z ∈ R.getD i [] := by
  unfold fewR at hr
  obtain ⟨r', hr', rfl⟩ := List.mem_map.1 hr
  obtain ⟨i, hi, rfl⟩ := List.getElem_of_mem (List.mem_of_mem_take hr')
  exact ⟨i, hi, by have := List.mem_of_mem_take hz; simpa [List.getD, hi] using this⟩
theorem fewR_wf {R : List (List Int)} {m : Nat} (hm : R.length = m) (h : ∀ i, i < m → ∀ z ∈ R.getD i [], (Go.Lit.int .u64 z).wf = true) : ∀ i, ∀ z ∈ (fewR R).getD i [], 0 ≤ z ∧ z < 18446744073709551616 := by
  intro i z hz
  by_cases hi : i < (fewR R).length
  · have e : (fewR R).getD i [] = (fewR R)[i] := by simp [List.getD, hi]
    rw [e] at hz
    obtain ⟨k, hk, hz'⟩ := fewR_mem (List.getElem_mem hi) hz
    have := bounds_u64 (h k (by omega) z hz')
    omega
  · have e : (fewR R).getD i [] = [] := by rw [List.getD_eq_getElem?_getD, List.getElem?_eq_none (by omega)]; rfl
    rw [e] at hz; simp at hz
theorem fewR_words {R : List (List Int)} {m : Nat} (hm : R.length = m) (h : ∀ i, i < m → ∀ z ∈ R.getD i [], (Go.Lit.int .u64 z).wf = true) : ∀ i, Words ((fewR R).getD i []) := by
  intro i j
  by_cases hj : j < ((fewR R).getD i []).length
  · have e : ((fewR R).getD i []).getD j 0 = ((fewR R).getD i [])[j] := by rw [List.getD_eq_getElem?_getD, List.getElem?_eq_getElem hj]; rfl
    rw [e]; exact fewR_wf hm h i _ (List.getElem_mem hj)
  · have e : ((fewR R).getD i []).getD j 0 = 0 := by rw [List.getD_eq_getElem?_getD, List.getElem?_eq_none (by omega)]; rfl
    rw [e]; omega
end Go.Proofs.YtnhpjacodhdpeaaDoor
