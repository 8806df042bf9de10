/-
  The document's own answers, package orreryref05: Bit, one, Fits.
-/
import Derived.Test.YtgbhhmmllbanlaaLanW
namespace Go.Proofs.Ytgbhhmmllbanlaa
open Go.RowKit
set_option maxRecDepth 100000

set_option maxHeartbeats 1000000 in
theorem rbit_any (x : Nat) (hx : x < 18446744073709551616) (t : Nat) (ht : t ≤ 64) (w : World) :
    Calls Try.prog 27 #[.int .u64 (x : Nat), .int .i64 (t : Nat)] w fun e w' => e = .returned (.int .u64 ((x / 2 ^ t % 2 : Nat) : Int)) ∧ w = w' := by
  go_enter Try.func27, Try.ntmps27
  go_wp2
  go_loopw [0, 5] (fun n i wr => ∃ k : Nat, k ≤ t ∧ n = .int .u64 ((x / 2 ^ k : Nat) : Int) ∧ i = .int .i64 (k : Nat) ∧ Hid (wr = w)) (fun _ i _ => t - (intOf i).toNat)
  case atStart => exact ⟨0, by omega, by simp, rfl, Lib.hid rfl⟩
  case round =>
    obtain ⟨k, hk, rfl, rfl, hw⟩ := hrel
    obtain rfl := hw.out
    clear hw
    have hnext : Hid (((x / 2 ^ (k + 1) : Nat) : Int) = ((x / 2 ^ k : Nat) : Int) / 2) := Lib.hid (by rw [Nat.pow_succ, ← Nat.div_div_eq_div_mul]; omega)
    have hlt2 := lt_div (2 ^ k) hx
    by_cases hlt : k < t
    · have hkt : (k : Int) < t := by omega
      generalize x / 2 ^ k = y at *
      go_wp2
      refine ⟨⟨k + 1, by omega, ?_, by go_num, Lib.hid trivial⟩, by simp [intOf]; omega⟩
      rw [hnext.out]
    · obtain rfl : k = t := by omega
      clear hnext
      generalize hy0 : x / 2 ^ k = y at *
      have hy := Lib.hid hy0
      clear hy0
      go_wp2
      go_ret
      refine ⟨?_, rfl⟩
      rw [hy.out, Int.natCast_emod]
      rfl
theorem rone_any (t : Nat) (ht : t ≤ 64) (w : World) :
    Calls Try.prog 28 #[.int .i64 (t : Nat)] w fun e w' => e = .returned (.int .u64 ((2 ^ t % 18446744073709551616 : Nat) : Int)) ∧ w = w' := by
  go_enter Try.func28, Try.ntmps28
  go_wp2
  go_loopw [3, 4] (fun n i wr => ∃ k : Nat, k ≤ t ∧ n = .int .u64 ((2 ^ k % 18446744073709551616 : Nat) : Int) ∧ i = .int .i64 (k : Nat) ∧ Hid (wr = w)) (fun _ i _ => t - (intOf i).toNat)
  case atStart => exact ⟨0, by omega, rfl, rfl, Lib.hid rfl⟩
  case round =>
    obtain ⟨k, hk, rfl, rfl, hw⟩ := hrel
    obtain rfl := hw.out
    clear hw
    have hnext : Hid ((2 ^ (k + 1) % 18446744073709551616 : Nat) = (2 ^ k % 18446744073709551616 * 2) % 18446744073709551616) := Lib.hid (by rw [Nat.pow_succ]; omega)
    have hlt2 : 2 ^ k % 18446744073709551616 < 18446744073709551616 := Nat.mod_lt _ (by decide)
    by_cases hlt : k < t
    · have hkt : (k : Int) < t := by omega
      generalize 2 ^ k % 18446744073709551616 = y at *
      go_wp2
      refine ⟨⟨k + 1, by omega, ?_, by go_num, Lib.hid trivial⟩, by simp [intOf]; omega⟩
      rw [hnext.out, Num.w64, Int.natCast_emod, Int.natCast_mul]; rfl
    · obtain rfl : k = t := by omega
      clear hnext
      generalize hy0 : 2 ^ k % 18446744073709551616 = y at *
      have hy := Lib.hid hy0
      clear hy0
      go_wp2
      go_ret
      refine ⟨?_, rfl⟩
      rw [hy.out]
      rfl
/-- Is a number below 2 to the power of a width? -/
def fits (W : Int) (x : Nat) : Bool := decide (1 ≤ W) && decide (W ≤ 64) && decide (x < 2 ^ W.toNat)
theorem fits_iff {W : Int} {x : Nat} : fits W x = true ↔ (1 ≤ W ∧ W ≤ 64) ∧ x < 2 ^ W.toNat := by simp [fits]
theorem mayH_fits (W : Int) (n : Nat) (f : Nat → Nat) (h : 1 ≤ W ∧ W ≤ 64) : mayH W n f = (List.range n).all (fun i => fits W (f i)) := by
  obtain ⟨m, rfl⟩ : ∃ m : Nat, W = m := ⟨W.toNat, by omega⟩
  rw [Bool.eq_iff_iff, mayH_iff, List.all_eq_true]
  constructor
  · rintro ⟨h1, h2⟩ i hi
    exact fits_iff.2 ⟨h, by simpa using h2 i (by simpa using hi)⟩
  · intro h2
    exact ⟨by omega, fun i hi => by have := fits_iff.1 (h2 i (by simpa using hi)); simpa using this.2⟩

set_option maxHeartbeats 1000000 in
theorem rfits_any (W : Int) (x : Nat) (hx : x < 18446744073709551616) (w : World) :
    Calls Try.prog 30 #[.int .i64 W, .int .u64 (x : Nat)] w fun e w' => e = .returned (.bool (fits W x)) ∧ w = w' := by
  by_cases h1 : 1 ≤ W
  · by_cases h2 : W ≤ 64
    · obtain ⟨m, rfl⟩ : ∃ m : Nat, W = m := ⟨W.toNat, by omega⟩
      have ho := Lib.hid (rone_any m (by omega))
      have hv : fits (m : Int) x = decide (x < 2 ^ m) := by simp [fits]; omega
      rw [hv]
      by_cases h3 : m = 64
      · subst h3
        have hd : decide (x < 2 ^ 64) = true := by simpa using hx
        rw [hd]
        clear hv hd
        go_enter Try.func30, Try.ntmps30
        go_wp2
        go_ret
        exact ⟨rfl, rfl⟩
      · have hp : 2 ^ m % 18446744073709551616 = 2 ^ m := Nat.mod_eq_of_lt (pow_lt64 (by omega))
        rw [hp] at ho
        have hm : ((m : Int) == 64) = false := by simp; omega
        have hdx : Hid (decide ((x : Int) < ((2 ^ m : Nat) : Int)) = decide (x < 2 ^ m)) := Lib.hid (decide_eq_decide.2 (by omega))
        clear hv hp
        generalize 2 ^ m = P at *
        go_enter Try.func30, Try.ntmps30
        go_wp2_with (go_at_call 28; (with_reducible refine (ho.out _).mono ?_); rintro e w2 ⟨rfl, rfl⟩)
        go_ret
        exact ⟨rfl, rfl⟩
    · have hv : fits W x = false := by simp [fits]; omega
      rw [hv]
      clear hv
      have hg : (decide (W ≤ 64)) = false := by simp; omega
      go_enter Try.func30, Try.ntmps30
      go_wp2
      go_ret
      exact ⟨rfl, rfl⟩
  · have hv : fits W x = false := by simp [fits]; omega
    rw [hv]
    clear hv
    have hg : (decide (1 ≤ W)) = false := by simp; omega
    go_enter Try.func30, Try.ntmps30
    go_wp2
    go_ret
    exact ⟨rfl, rfl⟩
end Go.Proofs.Ytgbhhmmllbanlaa
