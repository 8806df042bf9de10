/-
  LanesBack at whatever comes in.
-/
import Derived.Test.YtgbhhmmllbanlaaLanI
import Derived.Test.YtgbhhmmllbanlaaLbkV
namespace Go.Proofs.Ytgbhhmmllbanlaa
open Go.RowKit Go.ChangeShapes Go.WideShapes

theorem LanesBack_in {W : World} {P L m : Int} {a1 : Option Addr} {len1 cap1 : Nat} {zs : List Int} (u : (Lit.int .i64 P).wf = true) (y : (Lit.int .i64 L).wf = true) (z : (Lit.int .u64 m).wf = true) (w1 : IsRow .u64 W a1 len1 cap1 zs) :
    Calls Try.prog 6 #[.agg #[.int .i64 P, .int .i64 L, .int .u64 m], .slice a1 len1 cap1] W fun e w' => e = .returned (.bool true) ∧ Below W.heap.size W w' := by
  obtain ⟨v, hv, rfl⟩ := nat_of_w64 z
  obtain ⟨f, hf, hF, h1, h2⟩ := wrow_in w1
  exact LanesBack_any P L (int_bd u) (int_bd y) v hv hf hF h1 h2
end Go.Proofs.Ytgbhhmmllbanlaa
