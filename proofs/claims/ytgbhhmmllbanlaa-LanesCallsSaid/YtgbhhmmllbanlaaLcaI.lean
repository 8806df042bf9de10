/-
  LanesCalls at whatever comes in.
-/
import Derived.Test.YtgbhhmmllbanlaaLanI
import Derived.Test.YtgbhhmmllbanlaaLcaV
namespace Go.Proofs.Ytgbhhmmllbanlaa
open Go.RowKit Go.ChangeShapes Go.WideShapes

theorem LanesCalls_in {W : World} {P L m : Int} {a1 a2 : Option Addr} {len1 cap1 len2 cap2 : Nat} {zs ys : List Int} (w1 : IsRow .u64 W a1 len1 cap1 zs) (w2 : IsRow .u64 W a2 len2 cap2 ys) (z : (Lit.int .u64 m).wf = true) :
    Calls Try.prog 4 #[.slice a1 len1 cap1, .slice a2 len2 cap2, .agg #[.int .i64 P, .int .i64 L, .int .u64 m]] W fun e w' => e = .returned (.bool true) ∧ Below W.heap.size W w' := by
  obtain ⟨v, hv, rfl⟩ := nat_of_w64 z
  obtain ⟨f, hf, hF, h1, h2⟩ := wrow_in w1
  obtain ⟨g, hg, hG, h3, h4⟩ := wrow_in w2
  exact LanesCalls_any P L v hv hf hg hF hG h1 h3 h2 h4
end Go.Proofs.Ytgbhhmmllbanlaa
