/-
  The walk over 'LanesSquares'.
-/
import Derived.Test.YtgbhhmmllbanlaaRlB
import Derived.Test.YtgbhhmmllbanlaaLanI
namespace Go.Proofs.Ytgbhhmmllbanlaa
open Go.RowKit Go.ChangeShapes Go.WideShapes
set_option maxRecDepth 100000

set_option maxHeartbeats 1000000 in
theorem LanesSquares_any (f : Nat → Nat) (hf : ∀ i, f i < 18446744073709551616) (w : World) :
    Calls Try.prog 3 #[.agg (sqA f)] w fun e w' => e = .returned (.bool true) ∧ Below w.heap.size w w' := by
  have htn := Lib.hid (fun w => turn_any f hf w)
  have hrn := Lib.hid (fun w => rturn_any f hf w)
  have hwk := Lib.hid wakes_any
  clear hf
  go_enter Try.func3, Try.ntmps3
  go_upto_region 1 with fail
  have h3 := Blk.new w f
  have hB := Lib.hid ((Below.refl w.heap.size w).alloc (Nat.le_refl _) (.cells (sqA f) 23))
  generalize w.alloc (.cells (sqA f) 23) = w1 at *
  (refine wp_region_ext (by kernel_rfl) (by kernel_rfl) ?_; (try simp only [List.append_eq, List.cons_append, List.nil_append]); (repeat (first | go_big_quiet_skip | (go_big_quiet_want; first | (first | (refine quiet_sq h3 _ rfl rfl ?_; go_big_quiet_on; simp only [Act.put, List.setIfInBounds_toArray, List.set_cons_succ, List.set_cons_zero]) | (refine quiet_sq_eql (f := turn f) _ _ _ rfl rfl rfl ?_; go_big_quiet_on; simp only [Act.put, List.setIfInBounds_toArray, List.set_cons_succ, List.set_cons_zero])) | (go_big_quiet_op; first | go_big_quiet_on | go_big_quiet_call (first | (go_at_call 9; exact Calls.ext_of (htn.out _)) | (go_at_call 10; exact Calls.ext_of (hrn.out _)) | (go_at_call 11; exact Calls.ext_of (hwk.out _))))))); refine wpQuiet_nil ?_; intro w2 hw'; have hb2 := below_of_ext hw'; clear hw')
  go_wp2
  go_ret
  exact ⟨rfl, nextw hB.out hb2⟩
theorem LanesSquares_in {W : World} {zs : List Int} (l0 : zs.length = 64) (w0 : ∀ z ∈ zs, (Lit.int .u64 z).wf = true) :
    Calls Try.prog 3 #[.agg (zs.map (Value.int .u64)).toArray] W fun e w' => e = .returned (.bool true) ∧ Below W.heap.size W w' := by
  obtain ⟨f, hf, ef⟩ := sq_in l0 w0
  rw [ef]
  exact LanesSquares_any f hf W
end Go.Proofs.Ytgbhhmmllbanlaa
