/-
  The walk of LitOnes: fg.
-/
import Derived.Test.YtbpiccbjnagodaaLitH
namespace Go.Proofs.Ytbpiccbjnagodaa
open Go.RowKit Bits

set_option maxRecDepth 100000 in
set_option maxHeartbeats 4000000 in
theorem ones_fg (a b n : Int) (p : Option Addr) (m len cap : Nat) (zs : List Int) (w : World) (HK : Hid (OnesK a b n false p m cap zs w)) (ha0 : 0 ≤ a) (ha1 : a < 4294967296)
    (hlc : len ≤ cap) (hcap : cap ≤ 9223372036854775807) (hmm : m = if len ≤ 50 then len else 50) (hab : b ≤ a) :
    Calls Try.prog 3 #[.int .u32 a, .int .u32 b, .int .i64 n, .bool false, .slice p len cap] w fun e w' => e = .returned (.bool true) ∧ Below w.heap.size w w' := by
  have hpa := Lib.hid (pair_ge a b hab)
  skip
  have q2 : decide (a ≥ b) = true := by simp; omega
  have hmt := mod_turn (l := a)
  have hni := ifV_f a
  have HM := Lib.hid hmm
  clear hab hmm
  go_enter Try.func3, Try.ntmps3
  go_upto_region 1 with fail
  go_cut [4] (fun s wx => s = .slice p m cap ∧ wx = w)
  case first =>
    by_cases h50 : len ≤ 50
    · go_wp2_with fail
      all_goals (go_meet; exact ⟨by rw [HM.out, if_pos h50], rfl⟩)
    · have h51 : 50 < len := by omega
      go_wp2_with fail
      all_goals (go_meet; exact ⟨by rw [HM.out, if_neg h50], rfl⟩)
  case rest =>
    obtain ⟨rfl, rfl⟩ := hcut
    go_wp2_with (first | (go_at_call 7; refine (HK.out.k1 _).mono ?_; rintro e w2 ⟨rfl, rfl⟩) | (go_at_call 8; refine (HK.out.k2 _).mono ?_; rintro e w2 ⟨rfl, rfl⟩) | (go_at_call 9; refine (HK.out.k3 _).mono ?_; rintro e w2 ⟨rfl, rfl⟩) | (go_at_call 10; refine (HK.out.k4 _).mono ?_; rintro e w2 ⟨rfl, rfl⟩) | (go_at_call 11; refine (hpa.out _).mono ?_; rintro e w2 ⟨rfl, rfl⟩) | (go_at_call 12; refine (HK.out.k5 _).mono ?_; rintro e w2 ⟨rfl, rfl⟩) | (go_at_call 13; refine (HK.out.k6 _).mono ?_; rintro e w2 ⟨rfl, rfl⟩) | (go_at_call 14; refine (HK.out.k7 _).mono ?_; rintro e w2 ⟨rfl, rfl⟩) | (go_at_call 15; refine (HK.out.k8 _).mono ?_; rintro e w2 ⟨rfl, rfl⟩) | (go_at_call 16; refine (HK.out.k9 _).mono ?_; rintro e w2 ⟨rfl, rfl⟩) | (go_at_call 17; refine HK.out.k10.mono ?_; rintro e w2 ⟨rfl, rfl⟩) | (go_at_call 18; refine HK.out.k11.mono ?_; rintro e w2 ⟨rfl, rfl⟩) | (go_at_call 19; refine (tells_any _).mono ?_; rintro e w2 ⟨rfl, hb2⟩))
    all_goals (go_ret; exact ⟨rfl, hb2⟩)
end Go.Proofs.Ytbpiccbjnagodaa
