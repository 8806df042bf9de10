/-
  Plain facts on the bits of unsigned numbers, as the walk spells them.
-/
import Derived.Test.YtnhpjacodhdpeaaDoorProg
import Derived.WalkKit
namespace Go.Proofs.YtnhpjacodhdpeaaDoor
open Go.RowKit

namespace Num
theorem w64 (x : Int) : IntKind.u64.wrap x = x % 18446744073709551616 := by
  simp [IntKind.wrap, IntKind.bits, IntKind.signed]
theorem w32 (x : Int) : IntKind.u32.wrap x = x % 4294967296 := by
  simp [IntKind.wrap, IntKind.bits, IntKind.signed]
theorem nat64 {n : Nat} (h : n < 18446744073709551616) : IntKind.u64.wrap (n : Int) = n := by rw [w64]; omega
theorem nat32 {n : Nat} (h : n < 4294967296) : IntKind.u32.wrap (n : Int) = n := by rw [w32]; omega
theorem lt64 {a : Int} (h : a < 18446744073709551616) : a.toNat < 2 ^ 64 := by omega
theorem lt32 {a : Int} (h : a < 4294967296) : a.toNat < 2 ^ 32 := by omega
theorem of64 {a : Int} (ha : 0 ≤ a) (ha' : a < 18446744073709551616) : (BitVec.ofInt 64 a).toNat = a.toNat := by rw [BitVec.toNat_ofInt]; omega
theorem of32 {a : Int} (ha : 0 ≤ a) (ha' : a < 4294967296) : (BitVec.ofInt 32 a).toNat = a.toNat := by rw [BitVec.toNat_ofInt]; omega

theorem and64 {a b : Int} (ha : 0 ≤ a) (ha' : a < 18446744073709551616) (hb : 0 ≤ b) (hb' : b < 18446744073709551616) : bits .and .u64 a b = ((a.toNat &&& b.toNat : Nat) : Int) := by
  show IntKind.u64.wrap ((BitVec.ofInt 64 a &&& BitVec.ofInt 64 b).toNat : Int) = _
  rw [BitVec.toNat_and, of64 ha ha', of64 hb hb']
  exact nat64 (Nat.and_lt_two_pow _ (lt64 hb'))
theorem or64 {a b : Int} (ha : 0 ≤ a) (ha' : a < 18446744073709551616) (hb : 0 ≤ b) (hb' : b < 18446744073709551616) : bits .or .u64 a b = ((a.toNat ||| b.toNat : Nat) : Int) := by
  show IntKind.u64.wrap ((BitVec.ofInt 64 a ||| BitVec.ofInt 64 b).toNat : Int) = _
  rw [BitVec.toNat_or, of64 ha ha', of64 hb hb']
  exact nat64 (Nat.or_lt_two_pow (lt64 ha') (lt64 hb'))
theorem xor64 {a b : Int} (ha : 0 ≤ a) (ha' : a < 18446744073709551616) (hb : 0 ≤ b) (hb' : b < 18446744073709551616) : bits .xor .u64 a b = ((a.toNat ^^^ b.toNat : Nat) : Int) := by
  show IntKind.u64.wrap ((BitVec.ofInt 64 a ^^^ BitVec.ofInt 64 b).toNat : Int) = _
  rw [BitVec.toNat_xor, of64 ha ha', of64 hb hb']
  exact nat64 (Nat.xor_lt_two_pow (lt64 ha') (lt64 hb'))
theorem not64 {a : Int} (ha : 0 ≤ a) (ha' : a < 18446744073709551616) : bits .xor .u64 IntKind.u64.max a = 18446744073709551615 - a := by
  show IntKind.u64.wrap ((BitVec.ofInt 64 IntKind.u64.max ^^^ BitVec.ofInt 64 a).toNat : Int) = _
  rw [show BitVec.ofInt 64 IntKind.u64.max = BitVec.allOnes 64 by decide +kernel, BitVec.allOnes_xor, BitVec.toNat_not, of64 ha ha', w64]
  omega
theorem xor32 {a b : Int} (ha : 0 ≤ a) (ha' : a < 4294967296) (hb : 0 ≤ b) (hb' : b < 4294967296) : bits .xor .u32 a b = ((a.toNat ^^^ b.toNat : Nat) : Int) := by
  show IntKind.u32.wrap ((BitVec.ofInt 32 a ^^^ BitVec.ofInt 32 b).toNat : Int) = _
  rw [BitVec.toNat_xor, of32 ha ha', of32 hb hb']
  exact nat32 (Nat.xor_lt_two_pow (lt32 ha') (lt32 hb'))
theorem and32 {a b : Int} (ha : 0 ≤ a) (ha' : a < 4294967296) (hb : 0 ≤ b) (hb' : b < 4294967296) : bits .and .u32 a b = ((a.toNat &&& b.toNat : Nat) : Int) := by
  show IntKind.u32.wrap ((BitVec.ofInt 32 a &&& BitVec.ofInt 32 b).toNat : Int) = _
  rw [BitVec.toNat_and, of32 ha ha', of32 hb hb']
  exact nat32 (Nat.and_lt_two_pow _ (lt32 hb'))
theorem and_bd {a b : Int} (ha : 0 ≤ a) (ha' : a < 18446744073709551616) (hb : 0 ≤ b) (hb' : b < 18446744073709551616) : 0 ≤ bits .and .u64 a b ∧ bits .and .u64 a b < 18446744073709551616 := by
  rw [and64 ha ha' hb hb']
  have := Nat.and_lt_two_pow a.toNat (lt64 hb')
  omega
/-- The lowest bit. -/
theorem one64 {a : Int} (ha : 0 ≤ a) (ha' : a < 18446744073709551616) : bits .and .u64 a 1 = a % 2 := by
  rw [and64 ha ha' (by decide) (by decide), show (1 : Int).toNat = 1 from rfl, Nat.and_one_is_mod]; omega
theorem one32 {a : Int} (ha : 0 ≤ a) (ha' : a < 4294967296) : bits .and .u32 a 1 = a % 2 := by
  rw [and32 ha ha' (by decide) (by decide), show (1 : Int).toNat = 1 from rfl, Nat.and_one_is_mod]; omega
theorem nat_xor_one (n : Nat) : n ^^^ 1 = if n % 2 = 0 then n + 1 else n - 1 := by
  have h1 : (n ^^^ 1) / 2 = n / 2 := by
    have := Nat.xor_div_two (a := n) (b := 1); simpa using this
  have h2 : (n ^^^ 1) % 2 = (n + 1) % 2 := by
    have e : (n ^^^ 1) % 2 ^ 1 = (n % 2 ^ 1) ^^^ (1 % 2 ^ 1) := Nat.xor_mod_two_pow
    rw [show (2 : Nat) ^ 1 = 2 from rfl] at e
    rw [e]
    rcases Nat.mod_two_eq_zero_or_one n with h | h <;> rw [h] <;> simp <;> omega
  split <;> omega
theorem and_self64 {a : Int} (ha : 0 ≤ a) (ha' : a < 18446744073709551616) : bits .and .u64 a a = a := by
  rw [and64 ha ha' ha ha', Nat.and_self]; omega
theorem and_zero64 {a : Int} (ha : 0 ≤ a) (ha' : a < 18446744073709551616) : bits .and .u64 a 0 = 0 := by
  rw [and64 ha ha' (by decide) (by decide)]; simp
theorem zero_and64 {a : Int} (ha : 0 ≤ a) (ha' : a < 18446744073709551616) : bits .and .u64 0 a = 0 := by
  rw [and64 (by decide) (by decide) ha ha']; simp
theorem and_comm64 {a b : Int} (ha : 0 ≤ a) (ha' : a < 18446744073709551616) (hb : 0 ≤ b) (hb' : b < 18446744073709551616) : bits .and .u64 a b = bits .and .u64 b a := by
  rw [and64 ha ha' hb hb', and64 hb hb' ha ha', Nat.and_comm]
theorem and_not64 {a : Int} (ha : 0 ≤ a) (ha' : a < 18446744073709551616) : bits .and .u64 a (18446744073709551615 - a) = 0 := by
  rw [and64 ha ha' (by omega) (by omega)]
  have e : (18446744073709551615 - a).toNat = 2 ^ 64 - 1 - a.toNat := by omega
  rw [e]
  have : a.toNat &&& (2 ^ 64 - 1 - a.toNat) = 0 := by
    apply Nat.eq_of_testBit_eq
    intro i
    rw [Nat.testBit_and, Nat.zero_testBit, show 2 ^ 64 - 1 - a.toNat = 2 ^ 64 - (a.toNat + 1) by omega, Nat.testBit_two_pow_sub_succ (lt64 ha')]
    cases a.toNat.testBit i <;> simp
  rw [this]; rfl
theorem and_ones64 {a : Int} (ha : 0 ≤ a) (ha' : a < 18446744073709551616) : bits .and .u64 a 18446744073709551615 = a := by
  rw [and64 ha ha' (by decide) (by decide), show (18446744073709551615 : Int).toNat = 2 ^ 64 - 1 from rfl, Nat.and_two_pow_sub_one_eq_mod, Nat.mod_eq_of_lt (lt64 ha')]; omega
end Num
end Go.Proofs.YtnhpjacodhdpeaaDoor
