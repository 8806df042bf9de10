/-
  AigOptions at whatever comes in.
-/
import Derived.Test.YtlbmbpkabmihnaaActs
import Derived.Test.YtlbmbpkabmihnaaOptB
namespace Go.Proofs.Ytlbmbpkabmihnaa
open Go.RowKit Go.ChangeShapes Go.WideShapes

theorem options_law (a : Option Addr) (n c : Nat) (l : List ActV) (wa : Option Addr) (wn wc : Nat) (ws : List Int) (w : World) (hA : Acts w a n l) (hW : IsRow .u64 w wa wn wc ws) :
    Calls Try.prog 5 #[.slice a n c, .slice wa wn wc] w fun e w' => e = .returned (.bool true) ∧ Below w.heap.size w w' :=
  options_any hA (row_of_in hW).2.2 (words_in hW wn)
end Go.Proofs.Ytlbmbpkabmihnaa
