/-
  The walk of Number.
-/
import Derived.Test.YtbpiccbjnagodaaLitC
namespace Go.Proofs.Ytbpiccbjnagodaa
open Go.RowKit Bits

theorem or_add {N j : Nat} (h : N < 2 ^ j) (b : Nat) : N ||| (b * 2 ^ j) = N + 2 ^ j * b := by
  rw [Nat.mul_comm b, Nat.or_comm, ← Nat.two_pow_add_eq_or_of_lt h, Nat.add_comm]
theorem num_nat {l : List Int} (h : All01 l) : ∃ N : Nat, num l = N ∧ N < 2 ^ l.length := by
  obtain ⟨h0, h1⟩ := num_bd h
  obtain ⟨N, hN⟩ := Int.eq_ofNat_of_zero_le h0
  refine ⟨N, hN, ?_⟩
  rw [hN] at h1
  exact_mod_cast h1
theorem take_01 {l : List Int} (h : All01 l) (i : Nat) : All01 (l.take i) := fun x hx => h x (List.mem_of_mem_take hx)
theorem or_next {l : List Int} (h : All01 l) (j n : Nat) (hl : l.length = n) (hj : j < n) (hn : n ≤ 64) : bits .or .u64 (num (l.take j)) (IntKind.u64.wrap (l.getD j 0 * 2 ^ j)) = num (l.take (j + 1)) := by
  obtain ⟨N, hN, hN2⟩ := num_nat (take_01 h j)
  rw [num_take_succ l j (by omega), hN]
  have e : (l.take j).length = j := by simp; omega
  rw [e] at hN2
  have hp : 2 ^ j ≤ 2 ^ 63 := Nat.pow_le_pow_right (by decide) (by omega)
  obtain ⟨b, hb, hb1⟩ : ∃ b : Nat, l.getD j 0 = b ∧ b ≤ 1 := by
    rcases getD_01 h j with h | h
    · exact ⟨0, h, by omega⟩
    · exact ⟨1, h, by omega⟩
  rw [hb]
  have hq : b * 2 ^ j ≤ 2 ^ 63 := Nat.le_trans (Nat.mul_le_mul_right _ hb1) (by omega)
  have e2 : ((b : Int) * 2 ^ j) = ((b * 2 ^ j : Nat) : Int) := by push_cast; rfl
  rw [e2, Num.nat64 (by omega), Num.or64 (by omega) (by omega) (by omega) (by omega), Int.toNat_natCast, Int.toNat_natCast, or_add hN2 b]
  push_cast; rfl

set_option maxHeartbeats 1000000 in
theorem number_yes (a : Option Addr) (n cap : Nat) (l : List Int) (h01 : All01 l) (hn : n ≤ 64) (w : World) (hs : Row .u32 w a n l) :
    Calls Try.prog 23 #[.slice a n cap] w fun e w' => e = .returned (.tuple #[.int .u64 (num l), .bool true]) ∧ w = w' := by
  have HL := Lib.hid hs.len
  have HS := Lib.hid hs
  have H0 : Hid (num (l.take 0) = 0 ∧ num (l.take n) = num l) := by
    show _ ∧ _; exact ⟨rfl, by rw [List.take_of_length_le (Nat.le_of_eq HL.out)]⟩
  have hnode := Lib.hid node_any
  clear hs
  go_enter Try.func23, Try.ntmps23
  go_wp2
  go_loop [4, 12] (fun v i => ∃ j : Nat, j ≤ n ∧ i = .int .i64 j ∧ v = .int .u64 (num (l.take j))) (fun _ i => n - (intOf i).toNat)
  case atStart => exact ⟨0, Nat.zero_le _, rfl, by rw [H0.out.1]⟩
  case round =>
    obtain ⟨j, hj, rfl, rfl⟩ := hrel
    by_cases hlt : j < n
    · obtain ⟨b, off, rfl, hb, hc⟩ := HS.out.at (by omega)
      have hcj := hc j hlt
      have hor := Lib.hid (or_next h01 j n HL.out hlt hn)
      have hx := getD_01 h01 j
      generalize l.getD j 0 = x at *
      have hx0 : 0 ≤ x := by omega
      have hx1 : x ≤ 1 := by omega
      have hd : x / 2 = 0 := by omega
      have hlit : IsLit x := by unfold IsLit; omega
      have hnd := Lib.hid (fun w => hnode.out x hlit w)
      clear hx hc hlit
      go_wp2_with (go_at_call 13; refine (hnd.out _).mono ?_; rintro e w2 ⟨rfl, rfl⟩)
      go_round
      case rel => exact ⟨j + 1, by omega, by go_num, by rw [← hor.out]⟩
      case measure => simp [intOf]; omega
    · obtain rfl : j = n := by omega
      go_wp2
      go_ret2
      exact ⟨ret_intb H0.out.2 rfl, rfl⟩

set_option maxHeartbeats 1000000 in
theorem number_no (a : Option Addr) (n cap p : Nat) (l : List Int) (hlit : ∀ i, IsLit (l.getD i 0)) (hn : n ≤ 64) (hp : p < n) (h2 : 2 ≤ l.getD p 0) (w : World) (hs : Row .u32 w a n l) :
    Calls Try.prog 23 #[.slice a n cap] w fun e w' => e = .returned (.tuple #[.int .u64 0, .bool false]) ∧ w = w' := by
  have hnode := Lib.hid node_any
  have HL := Lib.hid hlit
  obtain ⟨b, off, rfl, hb, hc⟩ := hs.at (by omega)
  have HC := Lib.hid hc
  have H2 := Lib.hid h2
  clear hs hc hlit h2
  go_enter Try.func23, Try.ntmps23
  go_wp2
  go_loop [4, 12] (fun v i => ∃ (j : Nat) (x : Int), j ≤ p ∧ i = .int .i64 j ∧ v = .int .u64 x) (fun _ i => n - (intOf i).toNat)
  case atStart => exact ⟨0, 0, Nat.zero_le _, rfl, rfl⟩
  case round =>
    obtain ⟨j, x, hj, rfl, rfl⟩ := hrel
    have hlt : j < n := by omega
    have hcj := HC.out j hlt
    have hnd := Lib.hid (fun w => hnode.out _ (HL.out j) w)
    have hb0 := (HL.out j).1
    have hb1 := (HL.out j).2
    have hH : Hid (2 ≤ l.getD p 0 ∧ (j = p → l.getD p 0 = l.getD j 0)) := by
      show _ ∧ _; exact ⟨H2.out, fun h => by rw [h]⟩
    generalize l.getD j 0 = y at *
    by_cases hg : 2 ≤ y
    · have hq : (y / 2 != 0) = true := by simp; omega
      clear hg
      go_wp2_with (go_at_call 13; refine (hnd.out _).mono ?_; rintro e w2 ⟨rfl, rfl⟩)
      go_ret2
      exact ⟨rfl, rfl⟩
    · have hq : (y / 2 != 0) = false := by simp; omega
      have hne : j ≠ p := by intro h; have h1 := hH.out.1; have h2 := hH.out.2 h; omega
      clear hg
      go_wp2_with (go_at_call 13; refine (hnd.out _).mono ?_; rintro e w2 ⟨rfl, rfl⟩)
      go_round
      case rel => exact ⟨j + 1, _, by omega, by go_num, rfl⟩
      case measure => simp [intOf]; omega
end Go.Proofs.Ytbpiccbjnagodaa
