/-
  WordAll at whatever row comes in.
-/
import Derived.Test.YtmieddcgnaddiaaLift
import Derived.Test.YtmieddcgnaddiaaWordY
namespace Go.Proofs.Ytmieddcgnaddiaa
open Go.RowKit Go.ChangeShapes Go.WideShapes

theorem u64_getD {zs : List Int} (h : ∀ n ∈ zs, (Lit.int .u64 n).wf = true) (i : Nat) : 0 ≤ zs.getD i 0 ∧ zs.getD i 0 < 18446744073709551616 := by
  by_cases hi : i < zs.length
  · have e : zs.getD i 0 = zs[i] := by simp [List.getD, hi]
    have := bounds_u64 (h _ (List.getElem_mem hi))
    rw [e]; omega
  · simp [List.getD, hi]

theorem all_law (B S : Bool) (W op : Int) (a : Option Addr) (len cap : Nat) (zs : List Int) (w : World) (h : IsRow .u64 w a len cap zs) :
    Calls Try.prog 3 #[.agg #[.bool B, .bool S, .int .i64 W], .int .i64 op, .slice a len cap] w fun e w' => e = .returned (.bool true) ∧ Below w.heap.size w w' := by
  rcases h with ⟨rfl, rfl, rfl, rfl⟩ | ⟨x, rfl, hlc, hcap, hzl, hcell, hwf⟩
  · exact all_zero B S W op Option.none 0 (by unfold maxLen; omega) (fun _ => rfl) w
  · by_cases h0 : len = 0
    · subst h0
      exact all_zero B S W op (some x) cap hcap (fun h => by cases h) w
    · obtain ⟨b, off, rfl, hc⟩ := ints_at hcell (by omega)
      have hlt : b < w.heap.size := World.block_lt_of_cell? w ⟨b, off + 0, none⟩ (hc 0 (by omega))
      have hc' : ∀ i, i < cap → w.cell? ⟨b, off + i, none⟩ = some (.int .u64 (zs.getD i 0)) := fun i hi => hc i (by omega)
      unfold maxLen at hcap
      by_cases h30 : len ≤ 30
      · exact all_less B S W op b off len cap zs (by omega) hlc hcap h30 w hlt (u64_getD hwf) hc'
      · exact all_more B S W op b off len cap zs hlc hcap (by omega) w hlt (u64_getD hwf) hc'
end Go.Proofs.Ytmieddcgnaddiaa
