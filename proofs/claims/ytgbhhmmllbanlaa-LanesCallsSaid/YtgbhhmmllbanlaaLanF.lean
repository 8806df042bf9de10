/-
  Package lanes: Set.
-/
import Derived.Test.YtgbhhmmllbanlaaLanE
namespace Go.Proofs.Ytgbhhmmllbanlaa
open Go.RowKit
set_option maxRecDepth 100000

/-- A number, its bit l set to b. -/
def setW (y l b : Nat) : Nat := (y &&& (18446744073709551615 - 2 ^ l)) ||| (b * 2 ^ l)
/-- Lanes, lane l set to x. -/
def setN (f : Nat → Nat) (l x i : Nat) : Nat := setW (f i) l (x / 2 ^ i % 2)
theorem pow_lt64 {l : Nat} (hl : l < 64) : 2 ^ l < 18446744073709551616 := Nat.pow_lt_pow_right (a := 2) (m := l) (n := 64) (by decide) hl
theorem bit_pow_lt {b l : Nat} (hb : b < 2) (hl : l < 64) : b * 2 ^ l < 18446744073709551616 := by
  have := pow_lt64 hl
  have h2 : b = 0 ∨ b = 1 := by omega
  rcases h2 with e | e <;> rw [e] <;> omega
theorem sub_lt64 (p : Nat) : 18446744073709551615 - p < 18446744073709551616 := by omega
theorem andNot64n {y z : Nat} (hy : y < 18446744073709551616) (hz : z < 18446744073709551616) : bits .andNot .u64 (y : Int) (z : Int) = ((y &&& (18446744073709551615 - z) : Nat) : Int) := by
  show IntKind.u64.wrap ((BitVec.ofInt 64 (y : Int) &&& ~~~ BitVec.ofInt 64 (z : Int)).toNat : Int) = _
  rw [BitVec.toNat_and, BitVec.toNat_not, Num.of64 (by omega) (by omega), Num.of64 (by omega) (by omega), Int.toNat_natCast, Int.toNat_natCast]
  exact Num.nat64 (lt_and (sub_lt64 _))
theorem setW_lt {y l b : Nat} (hb : b < 2) (hl : l < 64) : setW y l b < 18446744073709551616 :=
  Nat.or_lt_two_pow (n := 64) (lt_and (sub_lt64 _)) (bit_pow_lt hb hl)
theorem setN_lt {f : Nat → Nat} {l x i : Nat} (hl : l < 64) : setN f l x i < 18446744073709551616 := setW_lt (Nat.mod_lt _ (by decide)) hl
theorem set_walk {y x l i : Nat} (hy : y < 18446744073709551616) (hx : x < 18446744073709551616) (hl : l < 64) :
    bits .or .u64 (bits .andNot .u64 (y : Int) (IntKind.u64.wrap (2 ^ l))) (IntKind.u64.wrap (bits .and .u64 ((x : Int) / 2 ^ i) 1 * 2 ^ l)) = ((setW y l (x / 2 ^ i % 2) : Nat) : Int) := by
  have e : (x : Int) / 2 ^ i = ((x / 2 ^ i : Nat) : Int) := by rw [Int.natCast_ediv, Int.natCast_pow]; rfl
  have hxl : ((x / 2 ^ i : Nat) : Int) < 18446744073709551616 := Int.ofNat_lt.2 (lt_div _ hx)
  have e2 : (2 : Int) ^ l = ((2 ^ l : Nat) : Int) := by rw [Int.natCast_pow]; rfl
  have e3 : (((x / 2 ^ i : Nat) : Int) % 2) * 2 ^ l = ((x / 2 ^ i % 2 * 2 ^ l : Nat) : Int) := by rw [Int.natCast_mul, Int.natCast_emod, Int.natCast_pow]; rfl
  rw [e, Num.one64 (Int.natCast_nonneg _) hxl, e3, e2, Num.nat64 (pow_lt64 hl), Num.nat64 (bit_pow_lt (Nat.mod_lt _ (by decide)) hl), andNot64n hy (pow_lt64 hl), or64n (lt_and (sub_lt64 _)) (bit_pow_lt (Nat.mod_lt _ (by decide)) hl)]
  rfl
theorem setW_bit {y l b : Nat} (hb : b < 2) (hl : l < 64) {k : Nat} (hk : k < 64) : (setW y l b).testBit k = if k = l then decide (b = 1) else y.testBit k := by
  have h2 : b = 0 ∨ b = 1 := by omega
  unfold setW
  rw [Nat.testBit_or, Nat.testBit_and, testBit_not (pow_lt64 hl) hk, Nat.testBit_two_pow]
  rcases h2 with h | h <;> subst h
  · rw [Nat.zero_mul, Nat.zero_testBit]
    by_cases e : k = l
    · subst e; simp
    · rw [if_neg e]; simp [show ¬ l = k from fun x => e x.symm]
  · rw [Nat.one_mul, Nat.testBit_two_pow]
    by_cases e : k = l
    · subst e; simp
    · rw [if_neg e]; simp [show ¬ l = k from fun x => e x.symm]

set_option maxHeartbeats 1000000 in
theorem set_no {w : World} {a : Option Addr} {n c : Nat} {f : Nat → Nat} (L : Int) (x : Nat) (hs : WRow w a n f) (hno : mayH n 1 (fun _ => x) = false ∨ ¬ (0 ≤ L ∧ L < 64)) :
    Calls Try.prog 19 #[.slice a n c, .int .i64 L, .int .u64 (x : Nat)] w fun e w' => e = .returned (.tuple #[.slice none 0 0, .int .i64 1]) ∧ Below w.heap.size w w' := by
  have hm := Lib.hid (mayHave_any (c := 1) (n : Int) (one_row w x))
  have hil := Lib.hid (isLane_any L)
  have hle := hs.1
  clear hs
  generalize hB1 : mayH (n : Int) 1 (fun _ => x) = B at *
  by_cases hB2 : B = true
  · subst hB2
    rw [show (decide (0 ≤ L) && decide (L < 64)) = false by (rcases hno with h | h; cases h; simp; omega)] at hil
    clear hno hB1
    go_enter Try.func19, Try.ntmps19
    go_wp2_with (first
      | (go_at_call 29; (with_reducible refine (hm.out).mono ?_); rintro e w2 ⟨rfl, hb2⟩)
      | (go_at_call 31; (with_reducible refine (hil.out _).mono ?_); rintro e w3 ⟨rfl, rfl⟩))
    go_ret2
    exact ⟨rfl, nextw ((Below.refl _ _).alloc (Nat.le_refl _) _) hb2⟩
  · obtain rfl : B = false := by cases B <;> simp_all
    generalize hQ : (decide (0 ≤ L) && decide (L < 64)) = Q at hil
    clear hno hB1 hB2
    go_enter Try.func19, Try.ntmps19
    go_wp2_with (first
      | (go_at_call 29; (with_reducible refine (hm.out).mono ?_); rintro e w2 ⟨rfl, hb2⟩)
      | (go_at_call 31; (with_reducible refine (hil.out _).mono ?_); rintro e w3 ⟨rfl, rfl⟩))
    go_ret2
    exact ⟨rfl, nextw ((Below.refl _ _).alloc (Nat.le_refl _) _) hb2⟩

set_option maxHeartbeats 1000000 in
theorem set_yes {w : World} {a : Option Addr} {n c l x : Nat} {f : Nat → Nat} (hs : WRow w a n f) (hf : ∀ i, i < n → f i < 18446744073709551616) (hx : x < 18446744073709551616) (hy : mayH (n : Int) 1 (fun _ => x) = true) (hl : l < 64) :
    Calls Try.prog 19 #[.slice a n c, .int .i64 l, .int .u64 (x : Nat)] w fun e w' => ∃ a2 c2, e = .returned (.tuple #[.slice a2 n c2, .int .i64 0]) ∧ Made w w' a2 n c2 (setN f l x) := by
  obtain ⟨i0, hi, hz0, hz1, hz2⟩ := info_parts info_u64
  have hm := Lib.hid (mayHave_any (c := 1) (n : Int) (one_row w x))
  rw [hy] at hm
  have hil := Lib.hid (isLane_any (l : Int))
  rw [show (decide (0 ≤ (l : Int)) && decide ((l : Int) < 64)) = true by simp; omega] at hil
  obtain ⟨⟨hn1, hn2⟩, -⟩ := mayH_iff.1 hy
  have hwk := Lib.hid (fun j (hj : j < n) => set_walk (x := x) (i := j) (hf j hj) hx hl)
  have hle := hs.1
  have hl63 : (l : Int) < 64 := by omega
  have HS := Lib.hid (fun w2 (h : Below w.heap.size w w2) => hs.step h)
  clear hy hx hf hs
  have hn0 : ¬ (n : Int) < 0 := by omega
  go_enter Try.func19, Try.ntmps19
  go_wp2_with (first
    | (go_at_call 29; (with_reducible refine hm.out.mono ?_); rintro e w2 ⟨rfl, hB⟩; have hB2 := Lib.hid (nextw ((Below.refl _ _).alloc (Nat.le_refl _) _) hB); clear hB)
    | (go_at_call 31; (with_reducible refine (hil.out _).mono ?_); rintro e w3 ⟨rfl, rfl⟩)
    | (at_make; refine wpList_make_full _ rfl _ _ 27 rfl w2.heap.size 22 i0 (.int .u64 0) 1 Try.underlying27 hi hz0 hz1 .i64 .i64 n n n rfl rfl rfl rfl (by rw [hz2]; omega) (by unfold maxLen; omega) (Nat.le_refl _) ?_; intro w4 hown hg; have hB4 : Hid (Below w2.heap.size w2 w4) := Lib.hid ((Below.refl w2.heap.size w2).grown hg (Nat.le_refl _) (fun _ h => (by cases h)))))
  have hf0 := part_zero n (setN f l x)
  rw [hf0] at hown
  have hO0 := Lib.hid hown
  have hsz2 := hB2.out.size
  clear hf0 hown hg hm hil
  go_loopw [27] (fun s wr => ∃ j : Nat, j ≤ n ∧ s = .int .i64 j ∧ Hid (wr.ownsRow w2.heap.size 22 1 (.slice (some ⟨w2.heap.size, 0, none⟩) n n) n (wl n (part (setN f l x) j))) ∧ Hid (Below w2.heap.size w2 wr)) (fun s _ => n - (intOf s).toNat)
  case atStart => exact ⟨0, Nat.zero_le _, rfl, hO0, hB4⟩
  case round =>
    clear hB4 hO0
    obtain ⟨j, hj, rfl, hO, hB⟩ := hrel
    by_cases hlt : j < n
    · obtain ⟨b, off, rfl, hb, hcell⟩ := (HS.out _ (nextw hB2.out hB.out)).at (by omega)
      have hcj := hcell j hlt
      have hcl := hO.out.cellAt (j := j) (by simpa using hlt)
      rw [wl_get _ _ _ hlt] at hcl
      have hfr := hO.out.frozenAt j
      have hst := Lib.hid (hO.out.stored j (.int .u64 (setN f l x j)))
      have hset := Lib.hid (part_set n (setN f l x) j)
      have hwk2 := Lib.hid (hwk.out j hlt)
      have hsn : Hid (setW (f j) l (x / 2 ^ j % 2) = setN f l x j) := Lib.hid rfl
      rw [hsn.out] at hwk2
      clear hcell hwk HS hsn
      generalize part (setN f l x) j j = V at *
      generalize setN f l x j = Z at *
      generalize f j = Y at *
      go_wp2
      go_still_tail 14, (by kernel_rfl)
      change wpList _ _ _ _ _ wr.drew
      rw [hwk2.out]
      have hfr : wr.drew.frozen? ⟨w2.heap.size, j, none⟩ = false := hfr
      have hcl : wr.drew.cell? ⟨w2.heap.size, j, none⟩ = some (.int .u64 (V : Nat)) := hcl
      go_wp2
      refine ⟨⟨j + 1, by omega, by go_num, ?_, Lib.hid (hB.out.setCell (Nat.le_refl _) _).drew⟩, by simp [intOf]; omega⟩
      have e := hst.out.1
      rw [hset.out] at e
      exact Lib.hid e.drew
    · obtain rfl : j = n := by omega
      go_wp2
      go_ret2
      have hO2 := hO.out
      rw [part_full] at hO2
      exact ⟨_, _, rfl, own_base hO2 hsz2, nextw hB2.out hB.out⟩
end Go.Proofs.Ytgbhhmmllbanlaa
