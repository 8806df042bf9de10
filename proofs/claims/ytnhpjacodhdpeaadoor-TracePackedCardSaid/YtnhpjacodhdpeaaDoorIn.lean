/-
  What came in, as the walks name it: slices of integers.
-/
import Derived.Test.YtnhpjacodhdpeaaDoorLift
import Derived.Test.YtnhpjacodhdpeaaDoorSl
import Derived.Test.YtnhpjacodhdpeaaDoorLitM
namespace Go.Proofs.YtnhpjacodhdpeaaDoor
open Go.RowKit Go.ChangeShapes Go.WideShapes

theorem words_of {zs : List Int} (h : ∀ n ∈ zs, (Lit.int .u64 n).wf = true) : Words zs := by
  intro i
  by_cases hi : i < zs.length
  · have e : zs.getD i 0 = zs[i] := by simp [List.getD, hi]
    have := bounds_u64 (h _ (List.getElem_mem hi))
    rw [e]; omega
  · have e : zs.getD i 0 = 0 := by rw [List.getD_eq_getElem?_getD, List.getElem?_eq_none (by omega)]; rfl
    rw [e]; omega
theorem isLit_of {l : Int} (h : (Go.Lit.int .u32 l).wf = true) : IsLit l := by
  have := bounds_u32 h
  unfold IsLit; omega
theorem lits_of {zs : List Int} (h : ∀ n ∈ zs, (Go.Lit.int .u32 n).wf = true) : ∀ i, IsLit (zs.getD i 0) := by
  intro i
  by_cases hi : i < zs.length
  · have e : zs.getD i 0 = zs[i] := by simp [List.getD, hi]
    rw [e]; exact isLit_of (h _ (List.getElem_mem hi))
  · have e : zs.getD i 0 = 0 := by rw [List.getD_eq_getElem?_getD, List.getElem?_eq_none (by omega)]; rfl
    rw [e]; unfold IsLit; omega
/-- A slice that came in: as much of it as its length says. -/
theorem row_of_in {k : IntKind} {w : World} {a : Option Addr} {len cap : Nat} {zs : List Int} (h : IsRow k w a len cap zs) : len ≤ cap ∧ cap ≤ 9223372036854775807 ∧ Row k w a len (zs.take len) := by
  rcases h with ⟨rfl, rfl, rfl, rfl⟩ | ⟨x, rfl, hlc, hcap, hzl, hcell, hwf⟩
  · exact ⟨by omega, by omega, rfl, by omega, .inl rfl⟩
  · unfold maxLen at hcap
    refine ⟨hlc, by omega, by rw [List.length_take]; omega, by omega, ?_⟩
    by_cases h0 : len = 0
    · exact .inl h0
    · right
      obtain ⟨b, off, rfl, hc⟩ := ints_at hcell (by omega)
      refine ⟨b, off, rfl, World.block_lt_of_cell? w ⟨b, off + 0, none⟩ (hc 0 (by omega)), fun i hi => ?_⟩
      rw [hc i (by omega)]
      have : (zs.take len).getD i 0 = zs.getD i 0 := by simp [List.getD, hi]
      rw [this]
theorem words_in {w : World} {a : Option Addr} {len cap : Nat} {zs : List Int} (h : IsRow .u64 w a len cap zs) (m : Nat) : Words (zs.take m) := by
  rcases h with ⟨rfl, rfl, rfl, rfl⟩ | ⟨x, rfl, hlc, hcap, hzl, hcell, hwf⟩
  · intro i; simp
  · exact words_of fun n hn => hwf n (List.mem_of_mem_take hn)
theorem lits_in {w : World} {a : Option Addr} {len cap : Nat} {zs : List Int} (h : IsRow .u32 w a len cap zs) (m : Nat) : ∀ i, IsLit ((zs.take m).getD i 0) := by
  rcases h with ⟨rfl, rfl, rfl, rfl⟩ | ⟨x, rfl, hlc, hcap, hzl, hcell, hwf⟩
  · intro i; unfold IsLit; simp
  · exact lits_of fun n hn => hwf n (List.mem_of_mem_take hn)
end Go.Proofs.YtnhpjacodhdpeaaDoor
