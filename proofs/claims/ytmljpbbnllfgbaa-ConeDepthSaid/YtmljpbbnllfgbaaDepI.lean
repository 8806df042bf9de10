/-
  ConeDepth, over what comes in.
-/
import Derived.Test.YtmljpbbnllfgbaaDepV
import Derived.Test.YtmljpbbnllfgbaaSteps
namespace Go.Proofs.Ytmljpbbnllfgbaa
theorem ConeDepth_in {W : World} {F1 H1 : Bool} {La a : Option Addr} {Ln Lc n c : Nat} {SL : Nat → Int × Int × Int} {l : List Int} (hL : Steps W La Ln SL) (hs : IsRow .u32 W a n c l) :
    Calls Try.prog 5 #[.agg #[.bool F1, .bool H1], .slice La Ln Lc, .slice a n c] W fun e w' => e = .returned (.bool true) ∧ RowKit.Below W.heap.size W w' :=
  ConeDepth_any F1 H1 hL (row_of_in hs).2.2 (lits_mem hs _)
end Go.Proofs.Ytmljpbbnllfgbaa
