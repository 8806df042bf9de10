/-
  The walk over WordKnown.
-/
import Derived.Test.YtmieddcgnaddiaaWordL
namespace Go.Proofs.Ytmieddcgnaddiaa
open Go.RowKit

theorem bad_all {B S : Bool} {W : Int} (h : may B S W = false) : isw B S W 0 = false ∧ cut B S W 5 = 0 ∧ oneE 1 B S W 0 = 1 ∧ twoE 1 B S W 0 0 = 1 ∧ shE B S W 0 0 = 1 ∧ coE B S W false false 8 0 = 1 ∧ coE false false 8 B S W 0 = 1 ∧ (allR 1 B S W []).2 = 1 := by
  have hi : ∀ n, isw B S W n = false := fun n => by unfold isw; rw [h]; rfl
  refine ⟨hi 0, by unfold cut; rw [h]; rfl, by simp [oneE, oneOk, hi], by simp [twoE, twoOk, hi], by simp [shE, shOk, hi], by simp [coE, coOk, hi], by simp [coE, coOk, h], ?_⟩
  rw [allR_nil]; simp [twoE, twoOk, hi]

theorem known_types (k : Nat) (h : k < 6) : ∃ (B S : Bool) (W : Int), may B S W = false ∧ ∀ w : World, (Instr.index 48 (.agg #[.bool false, .bool false, .int .i64 0, .bool false, .bool false, .int .i64 65, .bool false, .bool false, .int .i64 (-1), .bool true, .bool false, .int .i64 0, .bool true, .bool false, .int .i64 2, .bool true, .bool true, .int .i64 1]) (.int .i64 k)).run Try.prog w = .ok (.agg #[.bool B, .bool S, .int .i64 W]) w := by
  match k, h with
  | 0, _ => exact ⟨false, false, 0, by decide, fun _ => by kernel_rfl⟩
  | 1, _ => exact ⟨false, false, 65, by decide, fun _ => by kernel_rfl⟩
  | 2, _ => exact ⟨false, false, -1, by decide, fun _ => by kernel_rfl⟩
  | 3, _ => exact ⟨true, false, 0, by decide, fun _ => by kernel_rfl⟩
  | 4, _ => exact ⟨true, false, 2, by decide, fun _ => by kernel_rfl⟩
  | 5, _ => exact ⟨true, true, 1, by decide, fun _ => by kernel_rfl⟩

theorem value_a (w : World) : Calls Try.prog 19 #[.agg #[.bool false, .bool false, .int .i64 64], .int .u64 9223372036854775808] w fun e w' => e = .returned (.tuple #[.int .i64 0, .bool false]) ∧ Below w.heap.size w w' := by
  refine (value_any _ _ _ _ _).mono fun e w' h => ⟨h.1.trans ?_, h.2⟩
  rw [show valV false false 64 9223372036854775808 = 0 by decide +kernel, show valOk false false 64 9223372036854775808 = false by decide +kernel]
theorem value_b (w : World) : Calls Try.prog 19 #[.agg #[.bool false, .bool true, .int .i64 64], .int .u64 9223372036854775808] w fun e w' => e = .returned (.tuple #[.int .i64 (-9223372036854775808), .bool true]) ∧ Below w.heap.size w w' := by
  refine (value_any _ _ _ _ _).mono fun e w' h => ⟨h.1.trans ?_, h.2⟩
  rw [show valV false true 64 9223372036854775808 = -9223372036854775808 by decide +kernel, show valOk false true 64 9223372036854775808 = true by decide +kernel]
theorem two_c (w : World) : Calls Try.prog 18 #[.int .i64 6, .agg #[.bool false, .bool false, .int .i64 64], .int .u64 9223372036854775808, .int .u64 3] w fun e w' => e = .returned (.tuple #[.int .u64 9223372036854775808, .int .i64 0]) ∧ Below w.heap.size w w' := by
  refine (two_any _ _ _ _ _ _ _).mono fun e w' h => ⟨h.1.trans ?_, h.2⟩
  rw [show twoV 6 false false 64 9223372036854775808 3 = 9223372036854775808 by decide +kernel, show twoE 6 false false 64 9223372036854775808 3 = 0 by decide +kernel]

set_option maxRecDepth 100000 in
set_option maxHeartbeats 4000000 in
theorem known_any (w : World) :
    Calls Try.prog 8 #[] w fun e w' => e = .returned (.bool true) ∧ Below w.heap.size w w' := by
  have hB := Below.refl w.heap.size w
  go_enter Try.func8, Try.ntmps8
  go_wp2_with fail
  go_loopw [48] (fun i wr => ∃ k : Nat, k ≤ 6 ∧ i = .int .i64 k ∧ Below w.heap.size w wr) (fun i _ => 6 - (intOf i).toNat)
  case atStart => exact ⟨0, by omega, rfl, hB⟩
  case round =>
    clear hB
    obtain ⟨k, hk, rfl, hR⟩ := hrel
    by_cases hlt : k < 6
    · obtain ⟨B, S, W, hm, hix⟩ := known_types k hlt
      obtain ⟨e1, e2, e3, e4, e5, e6, e7, e8⟩ := bad_all hm
      go_wp2_with (first
        | (go_at_call 17; refine (one_any _ _ _ _ _ _).mono ?_; rintro e w2 ⟨rfl, hb2⟩; have hn := box3 (T := 23) hb2; clear hb2; obtain ⟨hB, hz, c0, c1, c2⟩ := hn)
        | (go_at_call 18; refine (two_any _ _ _ _ _ _ _).mono ?_; rintro e w2 ⟨rfl, hb2⟩; have hn := step3 hB hz (by omega) c0 c1 c2 hb2; clear hB hz c0 c1 c2 hb2; obtain ⟨hB, hz, c0, c1, c2⟩ := hn)
        | (go_at_call 20; refine (shift_any _ _ _ _ _ _).mono ?_; rintro e w2 ⟨rfl, hb2⟩; have hn := step3 hB hz (by omega) c0 c1 c2 hb2; clear hB hz c0 c1 c2 hb2; obtain ⟨hB, hz, c0, c1, c2⟩ := hn))
      (have hx := ext3 (by omega) c0 c1 c2; obtain ⟨x0, x1, x2⟩ := hx; (refine wp_region_ext (by kernel_rfl) (by kernel_rfl) ?_; (repeat (go_big_quiet_step ((first | (go_at_call 22; exact Calls.ext_of (u_any _ _)) | (go_at_call 21; exact Calls.ext_of (conv_any _ _ _ _ _ _ _ _)))))); refine wpQuiet_nil ?_; intro w2 hw'; have hb2 := below_of_ext hw'; clear hw'); clear x0 x1 x2; have hn := step3 hB hz (by omega) c0 c1 c2 hb2; clear hB hz c0 c1 c2 hb2; obtain ⟨hB, hz, c0, c1, c2⟩ := hn)
      go_wp2
      (have hx := ext3 (by omega) c0 c1 c2; obtain ⟨x0, x1, x2⟩ := hx; (refine wp_region_ext (by kernel_rfl) (by kernel_rfl) ?_; (repeat (go_big_quiet_step ((first | (go_at_call 22; exact Calls.ext_of (u_any _ _)) | (go_at_call 21; exact Calls.ext_of (conv_any _ _ _ _ _ _ _ _)))))); refine wpQuiet_nil ?_; intro w2 hw'; have hb2 := below_of_ext hw'; clear hw'); clear x0 x1 x2; have hn := step3 hB hz (by omega) c0 c1 c2 hb2; clear hB hz c0 c1 c2 hb2; obtain ⟨hB, hz, c0, c1, c2⟩ := hn)
      go_wp2_with (first
        | (go_at_call 10; refine (all_nil _ _ _ _ _ (by rfl)).mono ?_; rintro e w2 ⟨rfl, hb2⟩; have hn := step3 hB hz (by omega) c0 c1 c2 hb2; clear hB hz c0 c1 c2 hb2; obtain ⟨hB, hz, c0, c1, c2⟩ := hn)
        | (go_at_call 23; refine (may_any _ _ _ _).mono ?_; rintro e w2 ⟨rfl, hb2⟩; have hn := step3 hB hz (by omega) c0 c1 c2 hb2; clear hB hz c0 c1 c2 hb2; obtain ⟨hB, hz, c0, c1, c2⟩ := hn)
        | (go_at_call 15; refine (isw_any _ _ _ _ _).mono ?_; rintro e w2 ⟨rfl, hb2⟩; have hn := step3 hB hz (by omega) c0 c1 c2 hb2; clear hB hz c0 c1 c2 hb2; obtain ⟨hB, hz, c0, c1, c2⟩ := hn)
        | (go_at_call 14; refine (cut_any _ _ _ _ _).mono ?_; rintro e w2 ⟨rfl, hb2⟩; have hn := step3 hB hz (by omega) c0 c1 c2 hb2; clear hB hz c0 c1 c2 hb2; obtain ⟨hB, hz, c0, c1, c2⟩ := hn))
      go_roundw
      case rel => exact ⟨k + 1, by omega, by go_num, nextw hR hB⟩
      case measure => simp [intOf]; omega
    · obtain rfl : k = 6 := by omega
      have e1 : oneE 2 true false 1 1 = 1 := by decide +kernel
      have e2 : oneE 3 false false 8 1 = 1 := by decide +kernel
      have e3 : twoE 13 false false 8 1 1 = 1 := by decide +kernel
      have e4 : twoE 4 false false 8 256 1 = 1 := by decide +kernel
      have e5 : shE false false 64 1 64 = 1 := by decide +kernel
      have e9 : (allR 1 false false 5 []).1 = 31 := by decide +kernel
      have e10 : (allR 1 false false 5 []).2 = 0 := by decide +kernel
      have e11 : (allR 6 false true 1 []).1 = 1 := by decide +kernel
      have e12 : (allR 6 false true 1 []).2 = 0 := by decide +kernel
      have e13 : shE true false 1 1 0 = 1 := by decide +kernel
      have e16 : twoV 9 false true 1 1 0 = 1 := by decide +kernel
      have e17 : twoE 9 false true 1 1 0 = 0 := by decide +kernel
      have hB := hR
      clear hR
      go_wp2_with (first
        | (go_at_call 22; refine (u_any _ _).mono ?_; rintro e w2 ⟨rfl, hb2⟩; have hn := nextw hB hb2; clear hB hb2; have hB := hn; clear hn)
        | (go_at_call 25; refine (i_any _ _).mono ?_; rintro e w2 ⟨rfl, hb2⟩; have hn := nextw hB hb2; clear hB hb2; have hB := hn; clear hn)
        | (go_at_call 24; refine (bool_any _).mono ?_; rintro e w2 ⟨rfl, hb2⟩; have hn := nextw hB hb2; clear hB hb2; have hB := hn; clear hn)
        | (go_at_call 12; refine (wakes_any _).mono ?_; rintro e w2 ⟨rfl, hb2⟩; have hn := nextw hB hb2; clear hB hb2; have hB := hn; clear hn)
        | (go_at_call 18; (with_reducible refine (two_c _).mono ?_); rintro e w2 ⟨rfl, hb2⟩; have hn := nextw hB hb2; clear hB hb2; have hB := hn; clear hn)
        | (go_at_call 18; refine (two_any _ _ _ _ _ _ _).mono ?_; rintro e w2 ⟨rfl, hb2⟩; have hn := nextw hB hb2; clear hB hb2; have hB := hn; clear hn)
        | (go_at_call 17; refine (one_any _ _ _ _ _ _).mono ?_; rintro e w2 ⟨rfl, hb2⟩; have hn := nextw hB hb2; clear hB hb2; have hB := hn; clear hn)
        | (go_at_call 20; refine (shift_any _ _ _ _ _ _).mono ?_; rintro e w2 ⟨rfl, hb2⟩; have hn := nextw hB hb2; clear hB hb2; have hB := hn; clear hn)
        | (go_at_call 19; (with_reducible refine (value_a _).mono ?_); rintro e w2 ⟨rfl, hb2⟩; have hn := nextw hB hb2; clear hB hb2; have hB := hn; clear hn)
        | (go_at_call 19; (with_reducible refine (value_b _).mono ?_); rintro e w2 ⟨rfl, hb2⟩; have hn := nextw hB hb2; clear hB hb2; have hB := hn; clear hn)
        | (go_at_call 10; (with_reducible refine (all_nil _ _ _ _ _ ?hn).mono ?_); (case hn => rfl); rintro e w2 ⟨rfl, hb2⟩; have hn := nextw hB hb2; clear hB hb2; have hB := hn; clear hn)
        | (go_at_call 10; (with_reducible refine (all_no _ _ _ _ _ _ ?hn).mono ?_); (case hn => rfl); rintro e w2 ⟨rfl, hb2⟩; have hn := nextw (hB.alloc hB.size _) hb2; clear hB hb2; have hB := hn; clear hn))
      go_ret
      exact ⟨rfl, hB⟩
end Go.Proofs.Ytmieddcgnaddiaa
