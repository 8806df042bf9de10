/-
  A square turned over, plainly: which bit comes from where.
-/
import Derived.Test.YtnhpjacodhdpeaaDoorSqM
namespace Go.Proofs.YtnhpjacodhdpeaaDoor
open Go.RowKit

def hv (k : Nat) : Nat := 32 / 2 ^ k
def nv : Nat → Nat
  | 0 => 18446744073709551615
  | k + 1 => nv k ^^^ (nv k * 2 ^ hv k % 18446744073709551616)
def stepF (f : Nat → Nat) : Nat → Nat → Nat
  | 0 => f
  | k + 1 => halvesN (stepF f k) (hv k) (nv (k + 1))
def turn (f : Nat → Nat) : Nat → Nat := stepF f 6

theorem six {k : Nat} (h : k < 6) : k = 0 ∨ k = 1 ∨ k = 2 ∨ k = 3 ∨ k = 4 ∨ k = 5 := by omega
theorem hv_half {k : Nat} (h : k < 6) : Half (hv k) := by rcases six h with rfl | rfl | rfl | rfl | rfl | rfl <;> simp [Half, hv]
theorem hv_next (k : Nat) : hv (k + 1) = hv k / 2 := by unfold hv; rw [Nat.pow_succ, Nat.div_div_eq_div_mul]
theorem hv_pos {k : Nat} (h : k < 6) : 0 < hv k := (half_pos (hv_half h)).1
theorem hv_end : hv 6 = 0 := rfl
theorem nv_lt (k : Nat) : nv k < 18446744073709551616 := by
  cases k with
  | zero => decide
  | succ k => exact lt_xor (nv_lt k) (Nat.mod_lt _ (by decide))
theorem stepF_lt {f : Nat → Nat} (hf : ∀ i, f i < 18446744073709551616) : ∀ k i, stepF f k i < 18446744073709551616 := by
  intro k
  induction k with
  | zero => exact hf
  | succ k ih => exact halvesN_lt ih (nv_lt _)
theorem turn_lt {f : Nat → Nat} (hf : ∀ i, f i < 18446744073709551616) (i : Nat) : turn f i < 18446744073709551616 := stepF_lt hf 6 i

/-- The lower halves. -/
theorem near_low : ∀ k, k < 6 → ∀ j, j < 64 → (nv (k + 1)).testBit j = (j &&& hv k == 0) := by decide +kernel
theorem ix_low : ∀ k, k < 6 → ∀ j, j < 64 → j &&& hv k = 0 → (j + hv k < 64 ∧ j + hv k = j ^^^ hv k ∧ (hv k ≤ j → (j - hv k) &&& hv k ≠ 0)) := by decide +kernel
theorem ix_high : ∀ k, k < 6 → ∀ j, j < 64 → j &&& hv k ≠ 0 → (hv k ≤ j ∧ (j - hv k) &&& hv k = 0 ∧ j - hv k = j ^^^ hv k) := by decide +kernel

theorem testBit_up (d h j : Nat) (hj : j < 64) : (d * 2 ^ h % 18446744073709551616).testBit j = (decide (h ≤ j) && d.testBit (j - h)) := by
  rw [show (18446744073709551616 : Nat) = 2 ^ 64 from rfl, Nat.testBit_mod_two_pow, Nat.testBit_mul_two_pow]
  simp [hj]
theorem testBit_differ (f : Nat → Nat) (h near i t : Nat) : (differ f h near i).testBit t = (((f i).testBit (t + h) ^^ (f (i + h)).testBit t) && near.testBit t) := by
  unfold differ
  rw [Nat.testBit_and, Nat.testBit_xor, Nat.testBit_div_two_pow]

/-- Where a bit comes from. -/
def sw (k i j : Nat) : Nat × Nat := if (i &&& hv k == 0) = (j &&& hv k == 0) then (i, j) else (i ^^^ hv k, j ^^^ hv k)
theorem halves_bit (f : Nat → Nat) {k i j : Nat} (hk : k < 6) (hi : i < 64) (hj : j < 64) :
    (halvesN f (hv k) (nv (k + 1)) i).testBit j = (f (sw k i j).1).testBit (sw k i j).2 := by
  unfold halvesN
  by_cases h1 : i &&& hv k = 0
  · obtain ⟨a1, a2, -⟩ := ix_low k hk i hi h1
    rw [if_pos h1, Nat.testBit_xor, testBit_up _ _ _ hj, testBit_differ]
    by_cases h2 : j &&& hv k = 0
    · obtain ⟨b1, b2, b3⟩ := ix_low k hk j hj h2
      have e : (decide (hv k ≤ j) && (((f i).testBit (j - hv k + hv k) ^^ (f (i + hv k)).testBit (j - hv k)) && (nv (k + 1)).testBit (j - hv k))) = false := by
        by_cases h3 : hv k ≤ j
        · rw [near_low k hk (j - hv k) (by omega)]
          have := b3 h3
          simp [this]
        · simp [h3]
      rw [e]
      simp [sw, h1, h2]
    · obtain ⟨b1, b2, b3⟩ := ix_high k hk j hj h2
      rw [near_low k hk (j - hv k) (by omega), Nat.sub_add_cancel b1]
      simp [sw, h1, h2, b1, b2]
      rw [a2, b3]
  · obtain ⟨a1, a2, a3⟩ := ix_high k hk i hi h1
    rw [if_neg h1, Nat.testBit_xor, testBit_differ, near_low k hk j hj, Nat.sub_add_cancel a1]
    by_cases h2 : j &&& hv k = 0
    · obtain ⟨b1, b2, b3⟩ := ix_low k hk j hj h2
      simp [sw, h1, h2]
      rw [← a3, b2]
      cases (f i).testBit j <;> cases (f (i - hv k)).testBit (j ^^^ hv k) <;> rfl
    · have e1 : (i &&& hv k == 0) = false := by simpa using h1
      have e2 : (j &&& hv k == 0) = false := by simpa using h2
      unfold sw
      rw [e1, e2]
      simp
theorem sw_lt : ∀ k, k < 6 → ∀ i, i < 64 → ∀ j, j < 64 → (sw k i j).1 < 64 ∧ (sw k i j).2 < 64 := by decide +kernel
/-- Where a bit comes from, all in all. -/
def path : Nat → Nat → Nat → Nat × Nat
  | 0, i, j => (i, j)
  | k + 1, i, j => path k (sw k i j).1 (sw k i j).2
theorem path_end : ∀ i, i < 64 → ∀ j, j < 64 → path 6 i j = (j, i) := by decide +kernel
theorem stepF_bit (f : Nat → Nat) : ∀ k, k ≤ 6 → ∀ i j, i < 64 → j < 64 → (stepF f k i).testBit j = (f (path k i j).1).testBit (path k i j).2 := by
  intro k
  induction k with
  | zero => intro _ i j _ _; rfl
  | succ k ih =>
    intro hk i j hi hj
    have hs := sw_lt k (by omega) i hi j hj
    show (halvesN (stepF f k) (hv k) (nv (k + 1)) i).testBit j = _
    rw [halves_bit _ (by omega) hi hj, ih (by omega) _ _ hs.1 hs.2]
    rfl
theorem turn_bit (f : Nat → Nat) {i j : Nat} (hi : i < 64) (hj : j < 64) : (turn f i).testBit j = (f j).testBit i := by
  unfold turn
  rw [stepF_bit f 6 (Nat.le_refl _) i j hi hj, path_end i hi j hj]

/-- Words are told by their bits. -/
theorem word_ext {a b : Nat} (ha : a < 18446744073709551616) (hb : b < 18446744073709551616) (h : ∀ j, j < 64 → a.testBit j = b.testBit j) : a = b := by
  apply Nat.eq_of_testBit_eq
  intro j
  by_cases hj : j < 64
  · exact h j hj
  · have hp : (18446744073709551616 : Nat) ≤ 2 ^ j := by
      rw [show (18446744073709551616 : Nat) = 2 ^ 64 from rfl]; exact Nat.pow_le_pow_right (by decide) (by omega)
    rw [Nat.testBit_lt_two_pow (by omega), Nat.testBit_lt_two_pow (by omega)]
theorem turn_turn {f : Nat → Nat} (hf : ∀ i, f i < 18446744073709551616) {i : Nat} (hi : i < 64) : turn (turn f) i = f i :=
  word_ext (turn_lt (turn_lt hf) i) (hf i) (fun j hj => by rw [turn_bit _ hi hj, turn_bit _ hj hi])
theorem turn_and {f g : Nat → Nat} (hf : ∀ i, f i < 18446744073709551616) (hg : ∀ i, g i < 18446744073709551616) {i : Nat} (hi : i < 64) : turn (fun k => f k &&& g k) i = turn f i &&& turn g i :=
  word_ext (turn_lt (fun i => lt_and (hg i)) i) (lt_and (turn_lt hg i)) (fun j hj => by rw [turn_bit _ hi hj, Nat.testBit_and, Nat.testBit_and, turn_bit _ hi hj, turn_bit _ hi hj])
theorem turn_xor {f g : Nat → Nat} (hf : ∀ i, f i < 18446744073709551616) (hg : ∀ i, g i < 18446744073709551616) {i : Nat} (hi : i < 64) : turn (fun k => f k ^^^ g k) i = turn f i ^^^ turn g i :=
  word_ext (turn_lt (fun i => lt_xor (hf i) (hg i)) i) (lt_xor (turn_lt hf i) (turn_lt hg i)) (fun j hj => by rw [turn_bit _ hi hj, Nat.testBit_xor, Nat.testBit_xor, turn_bit _ hi hj, turn_bit _ hi hj])
theorem testBit_not {a : Nat} (ha : a < 18446744073709551616) {j : Nat} (hj : j < 64) : (18446744073709551615 - a).testBit j = !a.testBit j := by
  rw [show 18446744073709551615 - a = 2 ^ 64 - (a + 1) by omega, Nat.testBit_two_pow_sub_succ (by omega)]
  simp [hj]
theorem turn_not {f : Nat → Nat} (hf : ∀ i, f i < 18446744073709551616) {i : Nat} (hi : i < 64) : turn (fun k => 18446744073709551615 - f k) i = 18446744073709551615 - turn f i :=
  word_ext (turn_lt (fun i => by omega) i) (by omega) (fun j hj => by rw [turn_bit _ hi hj, testBit_not (hf j) hi, testBit_not (turn_lt hf i) hj, turn_bit _ hi hj])
theorem bit_shift (a j : Nat) : a / 2 ^ j % 2 = if a.testBit j then 1 else 0 := by
  rw [Nat.testBit_eq_decide_div_mod_eq]
  by_cases h : a / 2 ^ j % 2 = 1
  · simp [h]
  · have : a / 2 ^ j % 2 = 0 := by omega
    simp [this]
end Go.Proofs.YtnhpjacodhdpeaaDoor
