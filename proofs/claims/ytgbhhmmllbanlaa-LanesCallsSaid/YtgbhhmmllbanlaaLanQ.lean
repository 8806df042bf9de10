/-
  Package lanes: Count.
-/
import Derived.Test.YtgbhhmmllbanlaaLanP
import Derived.Test.YtgbhhmmllbanlaaLanF
namespace Go.Proofs.Ytgbhhmmllbanlaa
open Go.RowKit
set_option maxRecDepth 100000

theorem by85 : byM 85 8 = 6148914691236517205 := by decide +kernel
theorem by51 : byM 51 8 = 3689348814741910323 := by decide +kernel
theorem by15 : byM 15 8 = 1085102592571150095 := by decide +kernel
theorem p1_le (x : Nat) : p1 8 x ≤ 12297829382473034410 := by
  unfold p1; rw [by85]
  have a := Nat.and_le_right (n := x / 2) (m := 6148914691236517205)
  have b := Nat.and_le_right (n := x) (m := 6148914691236517205)
  omega
theorem p2_le (x : Nat) : p2 8 x ≤ 7378697629483820646 := by
  unfold p2; rw [by51]
  have a := Nat.and_le_right (n := p1 8 x / 4) (m := 3689348814741910323)
  have b := Nat.and_le_right (n := p1 8 x) (m := 3689348814741910323)
  omega
theorem p3_le (x : Nat) : p3 8 x ≤ 1085102592571150095 := by
  unfold p3; rw [by15]
  exact Nat.and_le_right
theorem int_div (a k : Nat) : (a : Int) / (k : Int) = ((a / k : Nat) : Int) := (Int.natCast_ediv a k).symm
theorem sum64 {a b : Nat} (h : a + b < 18446744073709551616) : IntKind.u64.wrap ((a : Int) + (b : Int)) = ((a + b : Nat) : Int) := by
  rw [← Int.natCast_add]; exact Num.nat64 h
theorem e1_walk {x : Nat} (hx : x < 18446744073709551616) : IntKind.u64.wrap (bits .and .u64 ((x : Int) / 2) 6148914691236517205 + bits .and .u64 (x : Int) 6148914691236517205) = ((p1 8 x : Nat) : Int) := by
  have h := p1_le x
  have d := int_div x 2
  have a1 := and64n (a := x / 2) (b := 6148914691236517205) (lt_div _ hx) (by decide)
  have a2 := and64n (a := x) (b := 6148914691236517205) hx (by decide)
  have e : p1 8 x = (x / 2 &&& 6148914691236517205) + (x &&& 6148914691236517205) := by unfold p1; rw [by85]
  rw [e] at h ⊢
  have d' : (x : Int) / 2 = ((x / 2 : Nat) : Int) := d
  have a1' : bits .and .u64 ((x / 2 : Nat) : Int) 6148914691236517205 = ((x / 2 &&& 6148914691236517205 : Nat) : Int) := a1
  have a2' : bits .and .u64 (x : Int) 6148914691236517205 = ((x &&& 6148914691236517205 : Nat) : Int) := a2
  rw [d', a1', a2', sum64 (by omega)]
theorem e2_walk {y : Nat} (hy : y < 18446744073709551616) : IntKind.u64.wrap (bits .and .u64 ((y : Int) / 4) 3689348814741910323 + bits .and .u64 (y : Int) 3689348814741910323) = (((y / 4 &&& 3689348814741910323) + (y &&& 3689348814741910323) : Nat) : Int) := by
  have a := Nat.and_le_right (n := y / 4) (m := 3689348814741910323)
  have b := Nat.and_le_right (n := y) (m := 3689348814741910323)
  have d' : (y : Int) / 4 = ((y / 4 : Nat) : Int) := int_div y 4
  have a1' : bits .and .u64 ((y / 4 : Nat) : Int) 3689348814741910323 = ((y / 4 &&& 3689348814741910323 : Nat) : Int) := and64n (a := y / 4) (b := 3689348814741910323) (lt_div _ hy) (by decide)
  have a2' : bits .and .u64 (y : Int) 3689348814741910323 = ((y &&& 3689348814741910323 : Nat) : Int) := and64n (a := y) (b := 3689348814741910323) hy (by decide)
  rw [d', a1', a2', sum64 (by omega)]
theorem e3_walk {y : Nat} (hy : y ≤ 7378697629483820646) : bits .and .u64 (IntKind.u64.wrap ((y : Int) / 16 + (y : Int))) 1085102592571150095 = ((y / 16 + y &&& 1085102592571150095 : Nat) : Int) := by
  have d' : (y : Int) / 16 = ((y / 16 : Nat) : Int) := int_div y 16
  rw [d', sum64 (by omega)]
  exact and64n (a := y / 16 + y) (b := 1085102592571150095) (by omega) (by decide)
theorem e4_walk {y : Nat} (hy : y ≤ 4000000000000000000) (k : Nat) : IntKind.u64.wrap ((y : Int) + (y : Int) / (k : Int)) = ((y + y / k : Nat) : Int) := by
  have h := Nat.div_le_self y k
  rw [int_div, sum64 (by omega)]
theorem e7_walk {y : Nat} (hy : y < 9223372036854775808) : bits .and .i64 (wrap64 (y : Int)) 127 = ((y % 128 : Nat) : Int) := by
  have e : wrap64 (y : Int) = (y : Int) := by unfold wrap64; omega
  rw [e]
  have h : bits .and .i64 (y : Int) (127 : Nat) = ((y &&& 127 : Nat) : Int) := andI64n hy (by decide)
  exact h.trans (by rw [show (127 : Nat) = 2 ^ 7 - 1 from rfl, Nat.and_two_pow_sub_one_eq_mod])
theorem swar_bd {y : Nat} (hy : y ≤ 1085102592571150095) : y + y / 256 ≤ 1200000000000000000 ∧ y + y / 256 + (y + y / 256) / 65536 ≤ 1300000000000000000 ∧ y + y / 256 + (y + y / 256) / 65536 + (y + y / 256 + (y + y / 256) / 65536) / 4294967296 < 9223372036854775808 := by omega

set_option maxHeartbeats 1000000 in
theorem ones_any (x : Nat) (hx : x < 18446744073709551616) (w : World) :
    Calls Try.prog 32 #[.int .u64 (x : Nat)] w fun e w' => e = .returned (.int .i64 (popN x 64 : Nat)) ∧ w = w' := by
  have hX := Lib.hid hx
  clear hx
  go_enter Try.func32, Try.ntmps32
  go_wp2
  rw [e1_walk hX.out, e2_walk (by have := p1_le x; omega)]
  have h2 : (p1 8 x / 4 &&& 3689348814741910323) + (p1 8 x &&& 3689348814741910323) = p2 8 x := by unfold p2; rw [by51]
  rw [h2, e3_walk (p2_le x)]
  have h3 : (p2 8 x / 16 + p2 8 x) &&& 1085102592571150095 = p3 8 x := by unfold p3; rw [by15]
  rw [h3]
  have hb := swar_bd (p3_le x)
  have hsw : swar x = popN x 64 := swar_pop x
  unfold swar at hsw
  rw [← hsw]
  clear h2 h3 hsw
  generalize p3 8 x = y at *
  have e4 : IntKind.u64.wrap ((y : Int) + (y : Int) / 256) = ((y + y / 256 : Nat) : Int) := e4_walk (by omega) 256
  rw [e4]
  generalize y + y / 256 = z at *
  have e5 : IntKind.u64.wrap ((z : Int) + (z : Int) / 65536) = ((z + z / 65536 : Nat) : Int) := e4_walk (by omega) 65536
  rw [e5]
  generalize z + z / 65536 = u at *
  have e6 : IntKind.u64.wrap ((u : Int) + (u : Int) / 4294967296) = ((u + u / 4294967296 : Nat) : Int) := e4_walk (by omega) 4294967296
  rw [e6]
  generalize u + u / 4294967296 = v at *
  rw [e7_walk (by omega)]
  go_ret
  exact ⟨rfl, rfl⟩

theorem count_any (x : Nat) (hx : x < 18446744073709551616) (w : World) :
    Calls Try.prog 24 #[.int .u64 (x : Nat)] w fun e w' => e = .returned (.int .i64 (popN x 64 : Nat)) ∧ w = w' := by
  have hc := Lib.hid (ones_any x hx)
  clear hx
  go_enter Try.func24, Try.ntmps24
  go_wp2_with (go_at_call 32; (with_reducible refine (hc.out _).mono ?_); rintro e w2 ⟨rfl, rfl⟩)
  go_ret
  exact ⟨rfl, rfl⟩
end Go.Proofs.Ytgbhhmmllbanlaa
