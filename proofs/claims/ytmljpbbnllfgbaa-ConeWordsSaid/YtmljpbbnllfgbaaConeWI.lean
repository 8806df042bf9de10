/-
  ConeWords, over what comes in.
-/
import Derived.Test.YtmljpbbnllfgbaaConeV
import Derived.Test.YtmljpbbnllfgbaaSteps
namespace Go.Proofs.Ytmljpbbnllfgbaa
theorem ConeWords_in {W : World} {F1 H1 F2 H2 : Bool} {La Ka Ya Ia a : Option Addr} {Ln Lc Kn Kc Yn Yc In Ic n c : Nat} {SL SK : Nat → Int × Int × Int} {yl inl l : List Int}
    (h : Steps W La Ln SL ∧ Steps W Ka Kn SK ∧ IsRow .u32 W Ya Yn Yc yl ∧ IsRow .u64 W Ia In Ic inl) (hs : IsRow .u32 W a n c l) :
    Calls Try.prog 3 #[.agg #[.bool F1, .bool H1, .bool F2, .bool H2, .slice La Ln Lc, .slice Ka Kn Kc, .slice Ya Yn Yc, .slice Ia In Ic], .slice a n c] W fun e w' => e = .returned (.bool true) ∧ RowKit.Below W.heap.size W w' :=
  ConeWords_any F1 H1 F2 H2 h.1 h.2.1 (row_of_in h.2.2.1).2.2 (lits_mem h.2.2.1 _) (row_of_in h.2.2.2).2.2 (words_in h.2.2.2 _) (row_of_in hs).2.2 (lits_mem hs _)
end Go.Proofs.Ytmljpbbnllfgbaa
