/-
  The walk of LitFolds: folded (true).
-/
import Derived.Test.YtbpiccbjnagodaaLitJ
namespace Go.Proofs.Ytbpiccbjnagodaa
open Go.RowKit Bits

set_option maxRecDepth 100000 in
set_option maxHeartbeats 4000000 in
theorem folds_t (a b x y N W Z V F P Q A : Int) (T : Bool) (p : Option Addr) (m len cap : Nat) (w : World) (HK : Hid (FoldsK x y N W Z V F P Q A T true p m cap w)) (ha0 : 0 ≤ a) (ha1 : a < 4294967296) (hb0 : 0 ≤ b) (hb1 : b < 4294967296)
    (hx : a % 120 = x) (hy : b % 120 = y) (hA : bits .and .u64 W V = A) (hN : (Z != bits .xor .u64 IntKind.u64.max W) = false) (HZ : Hid (Z = bits .xor .u64 IntKind.u64.max W))
    
    (hlc : len ≤ cap) (hcap : cap ≤ 9223372036854775807) (hmm : m = if len ≤ 60 then len else 60) :
    Calls Try.prog 4 #[.int .u32 a, .int .u32 b, .slice p len cap] w fun e w' => e = .returned (.bool true) ∧ Below w.heap.size w w' := by
  have HM := Lib.hid hmm
  clear hmm
  go_enter Try.func4, Try.ntmps4
  go_upto_region 2 with fail
  go_cut [2] (fun s wx => s = .slice p m cap ∧ wx = w)
  case first =>
    by_cases h50 : len ≤ 60
    · go_wp2_with fail
      all_goals (go_meet; exact ⟨by rw [HM.out, if_pos h50], rfl⟩)
    · have h51 : 60 < len := by omega
      go_wp2_with fail
      all_goals (go_meet; exact ⟨by rw [HM.out, if_neg h50], rfl⟩)
  case rest =>
    obtain ⟨rfl, rfl⟩ := hcut
    go_wp2_with (first
      | (go_at_call 15; (with_reducible refine (HK.out.k1 _).mono ?_); rintro e w2 ⟨rfl, rfl⟩)
      | (go_at_call 15; (with_reducible refine (HK.out.k2 _).mono ?_); rintro e w2 ⟨rfl, rfl⟩)
      | (go_at_call 17; (with_reducible refine (HK.out.k3).mono ?_); rintro e w2 ⟨rfl, rfl⟩)
      | (go_at_call 17; (with_reducible refine (HK.out.k4).mono ?_); rintro e w2 ⟨rfl, rfl⟩)
      | (go_at_call 16; (with_reducible refine (HK.out.k5 _).mono ?_); rintro e w2 ⟨rfl, rfl⟩)
      | (go_at_call 16; (with_reducible refine (HK.out.k6 _).mono ?_); rintro e w2 ⟨rfl, rfl⟩)
      | (go_at_call 17; (with_reducible refine (HK.out.k7).mono ?_); rintro e w2 ⟨rfl, rfl⟩)
      | (go_at_call 17; (with_reducible refine (HK.out.k8).mono ?_); rintro e w2 ⟨rfl, rfl⟩)
      | (go_at_call 9; (with_reducible refine (HK.out.k9 _).mono ?_); rintro e w2 ⟨rfl, rfl⟩)
      | (go_at_call 9; (with_reducible refine (HK.out.k10 _).mono ?_); rintro e w2 ⟨rfl, rfl⟩)
      | (go_at_call 17; (with_reducible refine (HK.out.k11 rfl).mono ?_); rintro e w2 ⟨rfl, rfl⟩)
      | (go_at_call 17; (with_reducible refine (HK.out.k12).mono ?_); rintro e w2 ⟨rfl, rfl⟩)
      | (go_at_call 11; (with_reducible refine (HK.out.k13 _).mono ?_); rintro e w2 ⟨rfl, rfl⟩)
      | (go_at_call 11; (with_reducible refine (HK.out.k14 _).mono ?_); rintro e w2 ⟨rfl, rfl⟩)
      | (go_at_call 13; (with_reducible refine (HK.out.k15 _).mono ?_); rintro e w2 ⟨rfl, rfl⟩)
      | (go_at_call 13; (with_reducible refine (HK.out.k16 _).mono ?_); rintro e w2 ⟨rfl, rfl⟩)
      | (go_at_call 14; (with_reducible refine (HK.out.k17 _).mono ?_); rintro e w2 ⟨rfl, rfl⟩)
      | (go_at_call 7; (with_reducible refine (HK.out.k18 _).mono ?_); rintro e w2 ⟨rfl, rfl⟩)
      | (go_at_call 19; refine (tells_any _).mono ?_; rintro e w2 ⟨rfl, hb2⟩))
    all_goals first | (go_ret; exact ⟨rfl, hb2⟩) | (exact absurd HZ.out (by assumption))
end Go.Proofs.Ytbpiccbjnagodaa
