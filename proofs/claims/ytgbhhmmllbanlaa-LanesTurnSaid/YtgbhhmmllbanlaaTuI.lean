/-
  LanesTurn at whatever comes in.
-/
import Derived.Test.YtgbhhmmllbanlaaLanI
import Derived.Test.YtgbhhmmllbanlaaTuV
namespace Go.Proofs.Ytgbhhmmllbanlaa
open Go.RowKit Go.ChangeShapes Go.WideShapes

theorem LanesTurn_in {W : World} {zs ys : List Int} {m n : Int} (l0 : zs.length = 64) (w0 : ∀ z ∈ zs, (Lit.int .u64 z).wf = true) (l1 : ys.length = 64) (w1 : ∀ z ∈ ys, (Lit.int .u64 z).wf = true) (w2 : ∀ z ∈ [m, n], (Lit.int .u8 z).wf = true) :
    Calls Try.prog 5 #[.agg (zs.map (Value.int .u64)).toArray, .agg (ys.map (Value.int .u64)).toArray, .agg ([m, n].map (Value.int .u8)).toArray] W fun e w' => e = .returned (.bool true) ∧ Below W.heap.size W w' := by
  obtain ⟨f, hf, ef⟩ := sq_in l0 w0
  obtain ⟨g, hg, eg⟩ := sq_in l1 w1
  obtain ⟨p, hp, rfl⟩ := nat_of_u8 (w2 m (by simp))
  obtain ⟨q, hq, rfl⟩ := nat_of_u8 (w2 n (by simp))
  rw [ef, eg]
  exact LanesTurn_any f g hf hg p q hp hq W
end Go.Proofs.Ytgbhhmmllbanlaa
