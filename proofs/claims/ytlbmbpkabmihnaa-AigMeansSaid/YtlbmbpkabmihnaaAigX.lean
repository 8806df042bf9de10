/-
  AigMeans at whatever comes in.
-/
import Derived.Test.YtlbmbpkabmihnaaActs
import Derived.Test.YtlbmbpkabmihnaaAigU
namespace Go.Proofs.Ytlbmbpkabmihnaa
open Go.RowKit Go.ChangeShapes Go.WideShapes

theorem means_law (F H : Bool) (a : Option Addr) (n c : Nat) (l : List ActV) (xa : Option Addr) (xn xc : Nat) (xs : List Int) (wa : Option Addr) (wn wc : Nat) (ws : List Int) (w : World) (hA : Acts w a n l) (hX : IsRow .u32 w xa xn xc xs) (hW : IsRow .u64 w wa wn wc ws) :
    Calls Try.prog 3 #[.agg #[.bool F, .bool H], .slice a n c, .agg #[.slice xa xn xc, .slice wa wn wc]] w fun e w' => e = .returned (.bool true) ∧ Below w.heap.size w w' :=
  means_any F H hA (row_of_in hX).2.2 (row_of_in hX).1 (lits_in hX xn) (row_of_in hW).2.2 (words_in hW wn)
end Go.Proofs.Ytlbmbpkabmihnaa
