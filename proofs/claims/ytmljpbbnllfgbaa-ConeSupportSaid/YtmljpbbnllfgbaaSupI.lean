/-
  ConeSupport, over what comes in.
-/
import Derived.Test.YtmljpbbnllfgbaaSupV
import Derived.Test.YtmljpbbnllfgbaaSteps
namespace Go.Proofs.Ytmljpbbnllfgbaa
theorem ConeSupport_in {W : World} {F1 H1 : Bool} {La oa ta : Option Addr} {Ln Lc on_ oc tn tc : Nat} {SL : Nat → Int × Int × Int} {x : Int} {ol tl : List Int} (hL : Steps W La Ln SL) (hx : (Go.Lit.int .u32 x).wf = true) (ho : IsRow .u64 W oa on_ oc ol) (ht : IsRow .u64 W ta tn tc tl) :
    Calls Try.prog 4 #[.agg #[.bool F1, .bool H1], .slice La Ln Lc, .int .u32 x, .slice oa on_ oc, .slice ta tn tc] W fun e w' => e = .returned (.bool true) ∧ RowKit.Below W.heap.size W w' :=
  ConeSupport_any F1 H1 hL (isLit_of hx) (row_of_in ho).2.2 (words_in ho _) (row_of_in ht).2.2 (words_in ht _)
end Go.Proofs.Ytmljpbbnllfgbaa
