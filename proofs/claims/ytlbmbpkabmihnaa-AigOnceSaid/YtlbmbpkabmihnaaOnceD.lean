/-
  AigOnce at whatever comes in.
-/
import Derived.Test.YtlbmbpkabmihnaaActs
import Derived.Test.YtlbmbpkabmihnaaOnceC
namespace Go.Proofs.Ytlbmbpkabmihnaa
open Go.RowKit Go.ChangeShapes Go.WideShapes

theorem once_law (a : Option Addr) (n c : Nat) (l : List ActV) (x : Int) (w : World) (hA : Acts w a n l) (hx : (Go.Lit.int .u8 x).wf = true) :
    Calls Try.prog 4 #[.slice a n c, .int .u8 x] w fun e w' => e = .returned (.bool true) ∧ Below w.heap.size w w' := by
  have := bounds_u8 hx
  exact once_any hA this.1 this.2
end Go.Proofs.Ytlbmbpkabmihnaa
