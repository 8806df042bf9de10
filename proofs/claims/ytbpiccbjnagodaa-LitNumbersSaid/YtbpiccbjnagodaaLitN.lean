/-
  LitNumbers at whatever comes in.
-/
import Derived.Test.YtbpiccbjnagodaaLitI
import Derived.Test.YtbpiccbjnagodaaLitL
namespace Go.Proofs.Ytbpiccbjnagodaa
open Go.RowKit Go.ChangeShapes Go.WideShapes

theorem numbers_law (n wd od at_ : Int) (w : World) (hn : (Go.Lit.int .u64 n).wf = true) (hwd : (Go.Lit.int .u8 wd).wf = true) (ho : (Go.Lit.int .u32 od).wf = true) (hat : (Go.Lit.int .u8 at_).wf = true) :
    Calls Try.prog 6 #[.int .u64 n, .int .u8 wd, .int .u32 od, .int .u8 at_] w fun e w' => e = .returned (.bool true) ∧ Below w.heap.size w w' := by
  have bn := bounds_u64 hn
  have bw := bounds_u8 hwd
  have bo := bounds_u32 ho
  have ba := bounds_u8 hat
  obtain ⟨a, rfl⟩ := Int.eq_ofNat_of_zero_le bn.1
  obtain ⟨v, rfl⟩ := Int.eq_ofNat_of_zero_le bw.1
  obtain ⟨k, hk⟩ := Int.eq_ofNat_of_zero_le (show 0 ≤ (v : Int) % 65 by omega)
  have hk64 : k ≤ 64 := by omega
  have HK := num_k a k (by omega) hk64
  by_cases h0 : k = 0
  · subst h0
    have e : ((a % 2 ^ 0 : Nat) : Int) = 0 := by simp [Nat.mod_one]
    rw [e] at HK
    exact numbers_0 a v od at_ (Lib.hid HK) hk (by omega) w
  · obtain ⟨j, hj⟩ := Int.eq_ofNat_of_zero_le (show 0 ≤ at_ % (k : Int) from Int.emod_nonneg _ (by omega))
    have hjk : at_ % (k : Int) < k := Int.emod_lt_of_pos _ (by omega)
    exact numbers_any a v k j od at_ _ _ _ (Lib.hid HK) hk hk64 (by omega) (by omega) (by omega) ba.1 ba.2 hj (by omega) w
end Go.Proofs.Ytbpiccbjnagodaa
