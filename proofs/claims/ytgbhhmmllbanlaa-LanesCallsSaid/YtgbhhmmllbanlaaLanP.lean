/-
  How many bits of a word are 1: as the library counts them, and one by one.
-/
import Derived.Test.YtgbhhmmllbanlaaSqM
namespace Go.Proofs.Ytgbhhmmllbanlaa
open Go.RowKit

/-- A byte over and over. -/
def byM (m : Nat) : Nat → Nat
  | 0 => 0
  | n + 1 => 256 * byM m n + m
/-- How many of the first k bits are 1. -/
def popN (x : Nat) : Nat → Nat
  | 0 => 0
  | k + 1 => popN x k + x / 2 ^ k % 2
def p1 (n x : Nat) : Nat := (x / 2 &&& byM 85 n) + (x &&& byM 85 n)
def p2 (n x : Nat) : Nat := (p1 n x / 4 &&& byM 51 n) + (p1 n x &&& byM 51 n)
def p3 (n x : Nat) : Nat := (p2 n x / 16 + p2 n x) &&& byM 15 n

theorem and_split (a b c d : Nat) (hb : b < 256) (hd : d < 256) : (256 * a + b) &&& (256 * c + d) = 256 * (a &&& c) + (b &&& d) := by
  have hbd : b &&& d < 2 ^ 8 := Nat.and_lt_two_pow _ hd
  apply Nat.eq_of_testBit_eq
  intro j
  have e1 := Nat.testBit_two_pow_mul_add a (i := 8) hb j
  have e2 := Nat.testBit_two_pow_mul_add c (i := 8) hd j
  have e3 := Nat.testBit_two_pow_mul_add (a &&& c) (i := 8) hbd j
  rw [show (2 : Nat) ^ 8 = 256 from rfl] at e1 e2 e3
  rw [Nat.testBit_and, e1, e2, e3]
  split <;> rw [Nat.testBit_and]

def q1 (l : Nat) : Nat := (l / 2 &&& 85) + (l &&& 85)
def q2 (l : Nat) : Nat := (q1 l / 4 &&& 51) + (q1 l &&& 51)
def q3 (l : Nat) : Nat := (q2 l / 16 + q2 l) &&& 15
theorem c1 : ∀ h, h < 2 → ∀ l, l < 256 → (128 * h + l / 2) &&& 85 = l / 2 &&& 85 := by decide +kernel
theorem c1b : ∀ l, l < 256 → q1 l < 256 := by decide +kernel
theorem c2 : ∀ h, h < 4 → ∀ l, l < 256 → (64 * h + l / 4) &&& 51 = l / 4 &&& 51 := by decide +kernel
theorem c2b : ∀ l, l < 256 → q2 l ≤ 68 ∧ q2 l % 16 ≤ 4 := by decide +kernel
theorem c3 : ∀ h, h < 16 → ∀ l, l < 256 → (16 * h + l) &&& 15 = l &&& 15 := by decide +kernel
theorem c3b : ∀ l, l < 256 → q3 l = popN l 8 := by decide +kernel
theorem c3c : ∀ l, l < 256 → q3 l ≤ 8 := by decide +kernel

theorem p1_split (n x : Nat) : p1 (n + 1) x = 256 * p1 n (x / 256) + q1 (x % 256) := by
  have hx : x = 256 * (x / 256) + x % 256 := by omega
  have hl : x % 256 < 256 := by omega
  generalize x / 256 = h at *
  generalize x % 256 = l at *
  subst hx
  unfold p1 q1
  have e : (256 * h + l) / 2 = 256 * (h / 2) + (128 * (h % 2) + l / 2) := by omega
  rw [e]
  show (256 * (h / 2) + (128 * (h % 2) + l / 2) &&& (256 * byM 85 n + 85)) + (256 * h + l &&& (256 * byM 85 n + 85)) = _
  rw [and_split _ _ _ _ (by omega) (by omega), and_split _ _ _ _ hl (by omega), c1 _ (by omega) _ hl]
  omega
theorem p2_split (n x : Nat) : p2 (n + 1) x = 256 * p2 n (x / 256) + q2 (x % 256) := by
  have hl : x % 256 < 256 := by omega
  unfold p2 q2
  rw [p1_split]
  have hq := c1b _ hl
  generalize q1 (x % 256) = l at *
  generalize p1 n (x / 256) = h at *
  have e : (256 * h + l) / 4 = 256 * (h / 4) + (64 * (h % 4) + l / 4) := by omega
  rw [e]
  show (256 * (h / 4) + (64 * (h % 4) + l / 4) &&& (256 * byM 51 n + 51)) + (256 * h + l &&& (256 * byM 51 n + 51)) = _
  rw [and_split _ _ _ _ (by omega) (by omega), and_split _ _ _ _ hq (by omega), c2 _ (by omega) _ hq]
  omega
theorem p2_low (n x : Nat) : p2 n x % 16 ≤ 4 := by
  cases n with
  | zero => simp [p2, byM]
  | succ n =>
    rw [p2_split]
    have := (c2b (x % 256) (by omega)).2
    omega
theorem p3_split (n x : Nat) : p3 (n + 1) x = 256 * p3 n (x / 256) + q3 (x % 256) := by
  have hl : x % 256 < 256 := by omega
  unfold p3 q3
  rw [p2_split]
  have hq := (c2b _ hl).1
  have hh := p2_low n (x / 256)
  generalize q2 (x % 256) = l at *
  generalize p2 n (x / 256) = h at *
  have e : (256 * h + l) / 16 + (256 * h + l) = 256 * (h / 16 + h) + (16 * (h % 16) + (l / 16 + l)) := by omega
  rw [e]
  show (256 * (h / 16 + h) + (16 * (h % 16) + (l / 16 + l)) &&& (256 * byM 15 n + 15)) = _
  rw [and_split _ _ _ _ (by omega) (by omega), c3 _ (by omega) _ (by omega)]

theorem popN_split (x k : Nat) : popN x (8 + k) = popN x 8 + popN (x / 256) k := by
  induction k with
  | zero => rfl
  | succ k ih =>
    show popN x (8 + k) + x / 2 ^ (8 + k) % 2 = popN x 8 + (popN (x / 256) k + x / 256 / 2 ^ k % 2)
    rw [ih, Nat.pow_add, ← Nat.div_div_eq_div_mul, show (2 : Nat) ^ 8 = 256 from rfl]
    omega
theorem popN_low (x : Nat) : popN x 8 = popN (x % 256) 8 := by
  simp only [popN]
  omega
theorem p3_zero (x : Nat) : p3 0 x = 0 := by simp [p3, byM]

/-- As the library counts. -/
def swar (x : Nat) : Nat :=
  (p3 8 x + p3 8 x / 256 + (p3 8 x + p3 8 x / 256) / 65536 + (p3 8 x + p3 8 x / 256 + (p3 8 x + p3 8 x / 256) / 65536) / 4294967296) % 128
theorem swar_sum {t0 t1 t2 t3 t4 t5 t6 y0 y1 y2 y3 y4 y5 y6 y7 : Nat} (e0 : t0 = 256 * t1 + y0) (e1 : t1 = 256 * t2 + y1) (e2 : t2 = 256 * t3 + y2) (e3 : t3 = 256 * t4 + y3) (e4 : t4 = 256 * t5 + y4) (e5 : t5 = 256 * t6 + y5) (e6 : t6 = 256 * y7 + y6)
    (b0 : y0 ≤ 8) (b1 : y1 ≤ 8) (b2 : y2 ≤ 8) (b3 : y3 ≤ 8) (b4 : y4 ≤ 8) (b5 : y5 ≤ 8) (b6 : y6 ≤ 8) (b7 : y7 ≤ 8) :
    (t0 + t0 / 256 + (t0 + t0 / 256) / 65536 + (t0 + t0 / 256 + (t0 + t0 / 256) / 65536) / 4294967296) % 128 = y0 + (y1 + (y2 + (y3 + (y4 + (y5 + (y6 + y7)))))) := by
  have d1 : t0 / 256 = t1 := by clear e1 e2 e3 e4 e5 e6; omega
  rw [d1]
  have d2 : (t0 + t1) / 65536 = t2 + t3 := by clear d1 e3 e4 e5 e6; omega
  rw [d2]
  have a3 : t3 = 256 * t4 + y3 := e3
  have a2 : t2 = 65536 * t4 + (256 * y3 + y2) := by clear d1 d2 e0 e1 e4 e5 e6; omega
  have a1 : t1 = 16777216 * t4 + (65536 * y3 + 256 * y2 + y1) := by clear d1 d2 e0 e2 e3 e4 e5 e6; omega
  have a0 : t0 = 4294967296 * t4 + (16777216 * y3 + 65536 * y2 + 256 * y1 + y0) := by clear d1 d2 e1 e2 e3 e4 e5 e6; omega
  have a1' : t1 = 4294967296 * t5 + (16777216 * y4 + 65536 * y3 + 256 * y2 + y1) := by clear d1 d2 a0 a2 a3 e0 e1 e2 e3 e5 e6; omega
  have a2' : t2 = 4294967296 * t6 + (16777216 * y5 + 65536 * y4 + 256 * y3 + y2) := by clear d1 d2 a0 a1 a1' a3 e0 e1 e2 e3 e6; omega
  have a3' : t3 = 4294967296 * y7 + (16777216 * y6 + 65536 * y5 + 256 * y4 + y3) := by clear d1 d2 a0 a1 a2 a1' a2' e0 e1 e2 e3; omega
  have d3 : (t0 + t1 + (t2 + t3)) / 4294967296 = t4 + t5 + t6 + y7 := by clear d1 d2 a1 a2 a3 e0 e1 e2 e3 e4 e5 e6; omega
  rw [d3]
  clear d1 d2 d3 a0 a1 a2 a3 a1' a2' a3'
  omega
theorem swar_pop (x : Nat) : swar x = popN x 64 := by
  have h0 : popN x 64 = popN x 8 + popN (x / 256) 56 := popN_split x 56
  have h1 : popN (x / 256) 56 = popN (x / 256) 8 + popN (x / 256 / 256) 48 := popN_split _ 48
  have h2 : popN (x / 256 / 256) 48 = popN (x / 256 / 256) 8 + popN (x / 256 / 256 / 256) 40 := popN_split _ 40
  have h3 : popN (x / 256 / 256 / 256) 40 = popN (x / 256 / 256 / 256) 8 + popN (x / 256 / 256 / 256 / 256) 32 := popN_split _ 32
  have h4 : popN (x / 256 / 256 / 256 / 256) 32 = popN (x / 256 / 256 / 256 / 256) 8 + popN (x / 256 / 256 / 256 / 256 / 256) 24 := popN_split _ 24
  have h5 : popN (x / 256 / 256 / 256 / 256 / 256) 24 = popN (x / 256 / 256 / 256 / 256 / 256) 8 + popN (x / 256 / 256 / 256 / 256 / 256 / 256) 16 := popN_split _ 16
  have h6 : popN (x / 256 / 256 / 256 / 256 / 256 / 256) 16 = popN (x / 256 / 256 / 256 / 256 / 256 / 256) 8 + popN (x / 256 / 256 / 256 / 256 / 256 / 256 / 256) 8 := popN_split _ 8
  have g0 : p3 8 x = 256 * p3 7 (x / 256) + q3 (x % 256) := p3_split 7 x
  have g1 : p3 7 (x / 256) = 256 * p3 6 (x / 256 / 256) + q3 (x / 256 % 256) := p3_split 6 _
  have g2 : p3 6 (x / 256 / 256) = 256 * p3 5 (x / 256 / 256 / 256) + q3 (x / 256 / 256 % 256) := p3_split 5 _
  have g3 : p3 5 (x / 256 / 256 / 256) = 256 * p3 4 (x / 256 / 256 / 256 / 256) + q3 (x / 256 / 256 / 256 % 256) := p3_split 4 _
  have g4 : p3 4 (x / 256 / 256 / 256 / 256) = 256 * p3 3 (x / 256 / 256 / 256 / 256 / 256) + q3 (x / 256 / 256 / 256 / 256 % 256) := p3_split 3 _
  have g5 : p3 3 (x / 256 / 256 / 256 / 256 / 256) = 256 * p3 2 (x / 256 / 256 / 256 / 256 / 256 / 256) + q3 (x / 256 / 256 / 256 / 256 / 256 % 256) := p3_split 2 _
  have g6 : p3 2 (x / 256 / 256 / 256 / 256 / 256 / 256) = 256 * p3 1 (x / 256 / 256 / 256 / 256 / 256 / 256 / 256) + q3 (x / 256 / 256 / 256 / 256 / 256 / 256 % 256) := p3_split 1 _
  have g7 : p3 1 (x / 256 / 256 / 256 / 256 / 256 / 256 / 256) = q3 (x / 256 / 256 / 256 / 256 / 256 / 256 / 256 % 256) := by rw [p3_split 0, p3_zero, Nat.mul_zero, Nat.zero_add]
  have bq : ∀ z, q3 (z % 256) = popN z 8 ∧ q3 (z % 256) ≤ 8 := fun z => ⟨(c3b _ (Nat.mod_lt _ (by decide))).trans (popN_low z).symm, c3c _ (Nat.mod_lt _ (by decide))⟩
  rw [g7] at g6
  unfold swar
  rw [swar_sum g0 g1 g2 g3 g4 g5 g6 (bq _).2 (bq _).2 (bq _).2 (bq _).2 (bq _).2 (bq _).2 (bq _).2 (bq _).2]
  rw [(bq _).1, (bq _).1, (bq _).1, (bq _).1, (bq _).1, (bq _).1, (bq _).1, (bq _).1]
  rw [h0, h1, h2, h3, h4, h5, h6]
end Go.Proofs.Ytgbhhmmllbanlaa
