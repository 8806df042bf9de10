/-
  The document's own answers: Count, Lane, Unpack.
-/
import Derived.Test.YtgbhhmmllbanlaaRlB
import Derived.Test.YtgbhhmmllbanlaaWow
namespace Go.Proofs.Ytgbhhmmllbanlaa
open Go.RowKit
set_option maxRecDepth 100000

theorem popN_le (x : Nat) : ∀ k, popN x k ≤ k
  | 0 => Nat.le_refl _
  | k + 1 => by
    have := popN_le x k
    have := Nat.mod_lt (x / 2 ^ k) (show 2 > 0 by decide)
    unfold popN; omega
set_option maxHeartbeats 1000000 in
theorem rcount_any (x : Nat) (hx : x < 18446744073709551616) (w : World) :
    Calls Try.prog 25 #[.int .u64 (x : Nat)] w fun e w' => e = .returned (.int .i64 (popN x 64 : Nat)) ∧ w = w' := by
  have hb := Lib.hid (fun t (ht : t ≤ 64) (w : World) => rbit_any x hx t ht w)
  clear hx
  go_enter Try.func25, Try.ntmps25
  go_wp2
  go_loopw [3, 4] (fun n i wr => ∃ k : Nat, k ≤ 64 ∧ n = .int .i64 (popN x k : Nat) ∧ i = .int .i64 (k : Nat) ∧ Hid (wr = w)) (fun _ i _ => 64 - (intOf i).toNat)
  case atStart => exact ⟨0, by omega, rfl, rfl, Lib.hid rfl⟩
  case round =>
    obtain ⟨k, hk, rfl, rfl, hw⟩ := hrel
    obtain rfl := hw.out
    clear hw
    by_cases hlt : k < 64
    · have hkt : (k : Int) < 64 := by omega
      have hbk := Lib.hid (hb.out k (by omega))
      have hle := popN_le x k
      have hlb := Nat.mod_lt (x / 2 ^ k) (show 2 > 0 by decide)
      have hnext : Hid (popN x (k + 1) = popN x k + x / 2 ^ k % 2) := Lib.hid rfl
      generalize x / 2 ^ k % 2 = b at *
      generalize popN x k = y at *
      go_wp2_with (go_at_call 27; (with_reducible refine (hbk.out _).mono ?_); rintro e w2 ⟨rfl, rfl⟩)
      refine ⟨⟨k + 1, by omega, ?_, by go_num, Lib.hid trivial⟩, by simp [intOf]; omega⟩
      rw [hnext.out]; push_cast; rfl
    · obtain rfl : k = 64 := by omega
      clear hb
      go_wp2
      go_ret
      exact ⟨rfl, rfl⟩

set_option maxHeartbeats 1000000 in
theorem rlane_any {w : World} {a : Option Addr} {n c : Nat} {f : Nat → Nat} (L : Int) (hs : WRow w a n f) (hf : n ≤ 64 → ∀ i, i < n → f i < 18446744073709551616) :
    Calls Try.prog 18 #[.slice a n c, .int .i64 L] w fun e w' =>
      e = .returned (if (1 ≤ n ∧ n ≤ 64) ∧ 0 ≤ L ∧ L < 64 then .tuple #[.int .u64 (laneN f L.toNat n : Nat), .int .i64 0] else .tuple #[.int .u64 0, .int .i64 1]) ∧ w = w' := by
  have hle := hs.1
  by_cases hn1 : 1 ≤ n
  · have hn1' : ¬ (n : Int) < 1 := by omega
    by_cases hn2 : n ≤ 64
    · have hn2' : ¬ 64 < (n : Int) := by omega
      by_cases hL0 : 0 ≤ L
      · have hL0' : ¬ L < 0 := by omega
        by_cases hL1 : L < 64
        · have hL1' : ¬ 63 < L := by omega
          rw [if_pos ⟨⟨hn1, hn2⟩, hL0, hL1⟩]
          obtain ⟨l, rfl⟩ : ∃ l : Nat, L = l := ⟨L.toNat, by omega⟩
          rw [Int.toNat_natCast]
          have HS := Lib.hid hs
          have hF := Lib.hid (hf hn2)
          clear hs hf
          go_enter Try.func18, Try.ntmps18
          go_wp2
          go_loopw [6, 7] (fun x s wr => ∃ j : Nat, j ≤ n ∧ s = .int .i64 j ∧ x = .int .u64 (laneN f l j : Nat) ∧ Hid (wr = w)) (fun x s _ => n - (intOf s).toNat)
          case atStart => exact ⟨0, by omega, rfl, rfl, Lib.hid rfl⟩
          case round =>
            obtain ⟨j, hj, rfl, rfl, hw⟩ := hrel
            obtain rfl := hw.out
            clear hw
            by_cases hlt : j < n
            · obtain ⟨b, off, rfl, hb, hcell⟩ := HS.out.at (by omega)
              have cj := hcell j hlt
              have hjn : (j : Int) < n := by omega
              have hbit := Lib.hid (rbit_any (f j) (hF.out j hlt) l (by omega))
              have hone := Lib.hid (rone_any j (by omega))
              have hwk := Lib.hid (add_walk (a := laneN f l j) (b := f j / 2 ^ l % 2) (c := laneN f l (j + 1)) (Nat.mod_lt _ (by decide)) (show j < 64 by omega) (laneN_lt f l j) rfl)
              clear hcell HS hF
              generalize f j / 2 ^ l % 2 = B at *
              generalize laneN f l j = Y at *
              generalize f j = Z at *
              generalize 2 ^ j % 18446744073709551616 = p at *
              go_wp2_with (first
                | (go_at_call 27; (with_reducible refine (hbit.out _).mono ?_); rintro e w2 ⟨rfl, rfl⟩)
                | (go_at_call 28; (with_reducible refine (hone.out _).mono ?_); rintro e w3 ⟨rfl, rfl⟩))
              refine ⟨⟨j + 1, by omega, by go_num, ?_, Lib.hid trivial⟩, by simp [intOf]; omega⟩
              rw [← hwk.out]
            · obtain rfl : j = n := by omega
              clear HS hF
              go_wp2
              go_ret2
              exact ⟨rfl, rfl⟩
        · rw [if_neg (by omega)]
          have hL1' : 63 < L := by omega
          clear hs hf
          go_enter Try.func18, Try.ntmps18
          go_wp2
          go_ret2
          exact ⟨rfl, rfl⟩
      · rw [if_neg (by omega)]
        have hL0' : L < 0 := by omega
        clear hs hf
        go_enter Try.func18, Try.ntmps18
        go_wp2
        go_ret2
        exact ⟨rfl, rfl⟩
    · rw [if_neg (by omega)]
      have hn2' : 64 < (n : Int) := by omega
      clear hs hf
      go_enter Try.func18, Try.ntmps18
      go_wp2
      go_ret2
      exact ⟨rfl, rfl⟩
  · rw [if_neg (by omega)]
    have hn1' : (n : Int) < 1 := by omega
    clear hs hf
    go_enter Try.func18, Try.ntmps18
    go_wp2
    go_ret2
    exact ⟨rfl, rfl⟩
end Go.Proofs.Ytgbhhmmllbanlaa
