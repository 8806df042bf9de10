/-
  Package lanes: Lane.
-/
import Derived.Test.YtgbhhmmllbanlaaLanC
namespace Go.Proofs.Ytgbhhmmllbanlaa
open Go.RowKit
set_option maxRecDepth 100000

/-- A lane's word, as far as number k. -/
def laneN (f : Nat → Nat) (lane : Nat) : Nat → Nat
  | 0 => 0
  | k + 1 => laneN f lane k + f k / 2 ^ lane % 2 * 2 ^ k
theorem laneN_lt (f : Nat → Nat) (lane : Nat) : ∀ k, laneN f lane k < 2 ^ k
  | 0 => Nat.zero_lt_one
  | k + 1 => by
    have h := laneN_lt f lane k
    have h2 : f k / 2 ^ lane % 2 = 0 ∨ f k / 2 ^ lane % 2 = 1 := by omega
    unfold laneN
    rcases h2 with e | e <;> rw [e] <;> omega
theorem lane_walk {x y l k : Nat} (hy : y < 18446744073709551616) (hx : x < 2 ^ k) (hk : k < 64) :
    bits .or .u64 (x : Int) (IntKind.u64.wrap (bits .and .u64 ((y : Int) / 2 ^ l) 1 * 2 ^ k)) = ((x + y / 2 ^ l % 2 * 2 ^ k : Nat) : Int) := by
  have e : (y : Int) / 2 ^ l = ((y / 2 ^ l : Nat) : Int) := by rw [Int.natCast_ediv, Int.natCast_pow]; rfl
  have hp : (2 : Nat) ^ k ≤ 2 ^ 63 := Nat.pow_le_pow_right (by decide) (by omega)
  have hyl := lt_div (2 ^ l) hy
  have hyl2 : ((y / 2 ^ l : Nat) : Int) < 18446744073709551616 := Int.ofNat_lt.2 hyl
  rw [e, Num.one64 (Int.natCast_nonneg _) hyl2]
  have hb : y / 2 ^ l % 2 < 2 := Nat.mod_lt _ (by decide)
  have e3 : (((y / 2 ^ l : Nat) : Int) % 2) * 2 ^ k = ((y / 2 ^ l % 2 * 2 ^ k : Nat) : Int) := by rw [Int.natCast_mul, Int.natCast_emod, Int.natCast_pow]; rfl
  have hm : y / 2 ^ l % 2 * 2 ^ k < 18446744073709551616 := by
    have h2 : y / 2 ^ l % 2 = 0 ∨ y / 2 ^ l % 2 = 1 := by omega
    rcases h2 with e | e <;> rw [e] <;> omega
  rw [e3, Num.nat64 hm, or64n (by omega) hm]
  congr 1
  rw [Nat.mul_comm, Nat.add_comm, Nat.or_comm]
  exact (Nat.two_pow_add_eq_or_of_lt hx _).symm

set_option maxHeartbeats 1000000 in
theorem lane_any {w : World} {a : Option Addr} {n c : Nat} {f : Nat → Nat} (L : Int) (hs : WRow w a n f) (hf : n ≤ 64 → ∀ i, i < n → f i < 18446744073709551616) :
    Calls Try.prog 17 #[.slice a n c, .int .i64 L] w fun e w' =>
      e = .returned (if (1 ≤ n ∧ n ≤ 64) ∧ 0 ≤ L ∧ L < 64 then .tuple #[.int .u64 (laneN f L.toNat n : Nat), .int .i64 0] else .tuple #[.int .u64 0, .int .i64 1]) ∧ Below w.heap.size w w' := by
  have hmv := Lib.hid (fun w2 => mayHave_any (w := w2) (c := 0) (n : Int) (WRow.nil w2 none f))
  have hle := hs.1
  rw [mayH_zero] at hmv
  have hil := Lib.hid (isLane_any L)
  by_cases hn : (1 ≤ n ∧ n ≤ 64) ∧ 0 ≤ L ∧ L < 64
  · rw [if_pos hn]
    rw [(may_iff _).2 (by omega)] at hmv
    rw [show (decide (0 ≤ L) && decide (L < 64)) = true by simp; omega] at hil
    obtain ⟨⟨hn1, hn2⟩, hL0, hL1⟩ := hn
    obtain ⟨l, rfl⟩ : ∃ l : Nat, L = l := ⟨L.toNat, by omega⟩
    rw [Int.toNat_natCast]
    have HS := Lib.hid (fun w2 (h : Below w.heap.size w w2) => hs.step h)
    have hF := Lib.hid (hf hn2)
    clear hs hf
    go_enter Try.func17, Try.ntmps17
    go_wp2_with (first
      | (go_at_call 29; (with_reducible refine (hmv.out _).mono ?_); rintro e w2 ⟨rfl, hb2⟩)
      | (go_at_call 31; (with_reducible refine (hil.out _).mono ?_); rintro e w3 ⟨rfl, rfl⟩)
      )
    clear hmv hil
    go_loopw [6, 20] (fun x s wr => ∃ j : Nat, j ≤ n ∧ s = .int .i64 j ∧ x = .int .u64 (laneN f l j : Nat) ∧ Below w.heap.size w wr) (fun x s _ => n - (intOf s).toNat)
    case atStart => exact ⟨0, by omega, rfl, rfl, hb2⟩
    case round =>
      obtain ⟨j, hj, rfl, rfl, hB⟩ := hrel
      by_cases hlt : j < n
      · obtain ⟨b, off, rfl, hb, hcell⟩ := (HS.out _ hB).at (by omega)
        have cj := hcell j hlt
        have hjn : (j : Int) < n := by omega
        have hwk := lane_walk (l := l) (hF.out j hlt) (laneN_lt f l j) (by omega)
        have hnext : Hid (laneN f l (j + 1) = laneN f l j + f j / 2 ^ l % 2 * 2 ^ j) := Lib.hid rfl
        clear hcell HS
        generalize laneN f l j = Y at *
        generalize f j = Z at *
        go_wp2
        refine ⟨⟨j + 1, by omega, by go_num, ?_, hB⟩, by simp [intOf]; omega⟩
        rw [hnext.out]; push_cast; rfl
      · obtain rfl : j = n := by omega
        clear HS
        go_wp2
        go_ret2
        exact ⟨rfl, hB⟩
  · rw [if_neg hn]
    clear hs hf
    by_cases hn2 : 1 ≤ n ∧ n ≤ 64
    · rw [(may_iff _).2 (by omega)] at hmv
      rw [show (decide (0 ≤ L) && decide (L < 64)) = false by simp; omega] at hil
      go_enter Try.func17, Try.ntmps17
      go_wp2_with (first
        | (go_at_call 29; (with_reducible refine (hmv.out _).mono ?_); rintro e w2 ⟨rfl, hb2⟩)
        | (go_at_call 31; (with_reducible refine (hil.out _).mono ?_); rintro e w3 ⟨rfl, rfl⟩)
        )
      go_ret2
      exact ⟨rfl, hb2⟩
    · rw [show may false false (n : Int) = false by cases h : may false false (n : Int); rfl; exact absurd ((may_iff _).1 h) (by omega)] at hmv
      generalize hQ : (decide (0 ≤ L) && decide (L < 64)) = Q at hil
      go_enter Try.func17, Try.ntmps17
      go_wp2_with (first
        | (go_at_call 29; (with_reducible refine (hmv.out _).mono ?_); rintro e w2 ⟨rfl, hb2⟩)
        | (go_at_call 31; (with_reducible refine (hil.out _).mono ?_); rintro e w3 ⟨rfl, rfl⟩)
        )
      go_ret2
      exact ⟨rfl, hb2⟩
end Go.Proofs.Ytgbhhmmllbanlaa
