/-
  LanesApart at whatever comes in.
-/
import Derived.Test.YtgbhhmmllbanlaaLanI
import Derived.Test.YtgbhhmmllbanlaaLapV
namespace Go.Proofs.Ytgbhhmmllbanlaa
open Go.RowKit Go.ChangeShapes Go.WideShapes

theorem LanesApart_in {W : World} {m : Int} {a1 a2 : Option Addr} {len1 cap1 len2 cap2 : Nat} {zs ys : List Int} (w0 : (Lit.int .u8 m).wf = true) (w1 : IsRow .u64 W a1 len1 cap1 zs) (w2 : IsRow .u64 W a2 len2 cap2 ys) :
    Calls Try.prog 7 #[.int .u8 m, .slice a1 len1 cap1, .slice a2 len2 cap2] W fun e w' => e = .returned (.bool true) ∧ Below W.heap.size W w' := by
  obtain ⟨p, hp, rfl⟩ := nat_of_u8 w0
  obtain ⟨f, hf, hF, h1, h2⟩ := wrow_in w1
  obtain ⟨g, hg, hG, h3, h4⟩ := wrow_in w2
  exact LanesApart_any p hp hf hg hF hG h1 h3 h2 h4
end Go.Proofs.Ytgbhhmmllbanlaa
