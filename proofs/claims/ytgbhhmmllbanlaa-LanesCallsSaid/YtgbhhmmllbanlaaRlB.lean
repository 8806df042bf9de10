/-
  The document's own answers: Turn.
-/
import Derived.Test.YtgbhhmmllbanlaaRlA
import Derived.Test.YtgbhhmmllbanlaaSqE
import Derived.Deep.RegionHeld3
namespace Go.Proofs.Ytgbhhmmllbanlaa
open Go.RowKit
set_option maxRecDepth 100000

theorem laneN_bit (f : Nat → Nat) (l t : Nat) : ∀ k, (laneN f l k).testBit t = (decide (t < k) && (f t).testBit l)
  | 0 => by simp [laneN]
  | k + 1 => by
    have e : laneN f l (k + 1) = 2 ^ k * (f k / 2 ^ l % 2) + laneN f l k := by show laneN f l k + f k / 2 ^ l % 2 * 2 ^ k = _; rw [Nat.mul_comm, Nat.add_comm]
    rw [e, Nat.testBit_two_pow_mul_add _ (laneN_lt f l k), laneN_bit f l t k]
    by_cases h : t < k
    · rw [if_pos h]; simp [h, show t < k + 1 by omega]
    · rw [if_neg h]
      by_cases h2 : t = k
      · subst h2
        rw [bit_shift, Nat.sub_self]
        cases (f t).testBit l <;> simp
      · have h3 : (f k / 2 ^ l % 2).testBit (t - k) = false := by
          apply Nat.testBit_lt_two_pow
          have : 2 ^ 1 ≤ 2 ^ (t - k) := Nat.pow_le_pow_right (by decide) (by omega)
          have := Nat.mod_lt (f k / 2 ^ l) (show 2 > 0 by decide)
          omega
        rw [h3]; simp [show ¬ t < k + 1 by omega]
/-- A square turned over, as the document has it. -/
theorem turn_lane (f : Nat → Nat) (hf : ∀ i, f i < 18446744073709551616) {i : Nat} (hi : i < 64) : laneN f i 64 = turn f i :=
  word_ext (laneN_lt f i 64) (turn_lt hf i) (fun j hj => by rw [laneN_bit, turn_bit f hi hj]; simp [hj])

theorem le64 {k : Nat} (h : k ≤ 64) : 2 ^ k ≤ 18446744073709551616 := Nat.pow_le_pow_right (n := 2) (j := 64) (by decide) h
/-- As far as row i, place j. -/
def tacc (f : Nat → Nat) (i j t : Nat) : Nat := if t < j then laneN f t (i + 1) else laneN f t i
theorem tacc_start (f : Nat → Nat) : tacc f 0 0 = fun _ => 0 := by funext t; simp [tacc, laneN]
theorem tacc_row (f : Nat → Nat) (i : Nat) : sqA (tacc f i 64) = sqA (tacc f (i + 1) 0) := sqA_congr (fun t ht => by simp [tacc, ht])
theorem tacc_lt (f : Nat → Nat) {i : Nat} (j t : Nat) (hi : i < 64) : tacc f i j t < 18446744073709551616 := by
  unfold tacc; split
  · exact Nat.lt_of_lt_of_le (laneN_lt f t (i + 1)) (le64 (by omega))
  · exact Nat.lt_of_lt_of_le (laneN_lt f t i) (le64 (by omega))
theorem tacc_next (f : Nat → Nat) (i j : Nat) : sqA (upd (tacc f i j) j (laneN f j (i + 1))) = sqA (tacc f i (j + 1)) := by
  apply sqA_congr
  intro t _
  unfold upd tacc
  by_cases e : t = j
  · subst e; rw [if_pos rfl, if_pos (by omega)]
  · rw [if_neg e]
    by_cases h : t < j
    · rw [if_pos h, if_pos (by omega)]
    · rw [if_neg h, if_neg (by omega)]
theorem tacc_end (f : Nat → Nat) (hf : ∀ i, f i < 18446744073709551616) : sqA (tacc f 64 0) = sqA (turn f) := sqA_congr (fun t ht => by rw [← turn_lane f hf ht]; simp [tacc])
theorem add_walk {a b c i : Nat} (hb : b < 2) (hi : i < 64) (ha : a < 2 ^ i) (hc : c = a + b * 2 ^ i) :
    IntKind.u64.wrap ((a : Int) + IntKind.u64.wrap ((b : Int) * ((2 ^ i % 18446744073709551616 : Nat) : Int))) = ((c : Nat) : Int) := by
  subst hc
  have hp := pow_lt64 hi
  rw [Nat.mod_eq_of_lt hp]
  have h1 : b * 2 ^ i < 18446744073709551616 := by
    have : b = 0 ∨ b = 1 := by omega
    rcases this with rfl | rfl <;> omega
  have h2 : a + b * 2 ^ i < 18446744073709551616 := by
    have h63 : 2 ^ i ≤ 2 ^ 63 := Nat.pow_le_pow_right (by decide) (by omega)
    have : b = 0 ∨ b = 1 := by omega
    rcases this with rfl | rfl <;> omega
  rw [← Int.natCast_mul, Num.nat64 h1, ← Int.natCast_add, Num.nat64 h2]

set_option maxHeartbeats 1000000 in
theorem rturn_any (f : Nat → Nat) (hf : ∀ i, f i < 18446744073709551616) (w : World) :
    Calls Try.prog 10 #[.agg (sqA f)] w fun e w' => e = .returned (.agg (sqA (turn f))) ∧ Below w.heap.size w w' := by
  obtain ⟨hz, hs⟩ := zero_of_info info_sq
  have hF := Lib.hid hf
  have hend := Lib.hid (tacc_end f hf)
  clear hf
  go_enter Try.func10, Try.ntmps10
  go_upto_region 2 with fail
  have hb1 := Lib.hid (((Blk.new w f).old (.cells (sqA (fun _ => 0)) 23)).old (.cells (sqA (fun _ => 0)) 23))
  have hb2 : Hid (Blk (((w.alloc (.cells (sqA f) 23)).alloc (.cells (sqA (fun _ => 0)) 23)).alloc (.cells (sqA (fun _ => 0)) 23)) (w.heap.size + 1) (fun _ => 0)) := Lib.hid (by
    have h := (Blk.new (w.alloc (.cells (sqA f) 23)) (fun _ => 0)).old (.cells (sqA (fun _ => 0)) 23); simpa using h)
  have hb3 : Hid (Blk (((w.alloc (.cells (sqA f) 23)).alloc (.cells (sqA (fun _ => 0)) 23)).alloc (.cells (sqA (fun _ => 0)) 23)) (w.heap.size + 1 + 1) (tacc f 0 0)) := Lib.hid (by
    rw [tacc_start]
    have h := Blk.new ((w.alloc (.cells (sqA f) 23)).alloc (.cells (sqA (fun _ => 0)) 23)) (fun _ => 0); simpa using h)
  have hB := Lib.hid ((((Below.refl w.heap.size w).alloc (Nat.le_refl _) (.cells (sqA f) 23)).alloc (by simp) (.cells (sqA (fun _ => 0)) 23)).alloc (by simp; omega) (.cells (sqA (fun _ => 0)) 23))
  generalize ((w.alloc (.cells (sqA f) 23)).alloc (.cells (sqA (fun _ => 0)) 23)).alloc (.cells (sqA (fun _ => 0)) 23) = w1 at *
  clear hz hs
  go_wp2
  go_loopw [4] (fun s wr => ∃ i : Nat, i ≤ 64 ∧ s = .int .i64 (i : Nat) ∧ Hid (Blk wr w.heap.size f) ∧ Hid (Blk wr (w.heap.size + 1) (fun _ => 0)) ∧ Hid (Blk wr (w.heap.size + 1 + 1) (tacc f i 0)) ∧ Hid (Below w.heap.size w wr)) (fun s _ => 64 - (intOf s).toNat)
  case atStart => exact ⟨0, by omega, rfl, hb1, hb2, hb3, hB⟩
  case round =>
    clear hb1 hb2 hb3 hB
    obtain ⟨i, hi, rfl, hb1, hb2, hb3, hB⟩ := hrel
    by_cases hlt : i < 64
    · have hi64 : (i : Int) < 64 := by omega
      obtain ⟨wa, rfl⟩ : ∃ wa : World, wa = wr := ⟨_, rfl⟩
      go_wp2
      go_loopw [5] (fun s wr => ∃ j : Nat, j ≤ 64 ∧ s = .int .i64 (j : Nat) ∧ Hid (Blk wr w.heap.size f) ∧ Hid (Blk wr (w.heap.size + 1) (fun _ => 0)) ∧ Hid (Blk wr (w.heap.size + 1 + 1) (tacc f i j)) ∧ Hid (Below w.heap.size w wr)) (fun s _ => 64 - (intOf s).toNat)
      case atStart => exact ⟨0, by omega, rfl, hb1, hb2, hb3, hB⟩
      case round =>
        clear hb1 hb2 hb3 hB
        obtain ⟨j, hj, rfl, hb1, hb2, hb3, hB⟩ := hrel
        by_cases hltj : j < 64
        · have hj64 : (j : Int) < 64 := by omega
          have cx := hb1.out.cell hlt
          have cy := hb3.out.cell hltj
          have fy := hb3.out.thaw j
          have hbit := Lib.hid (rbit_any (f i) (hF.out i) j (by omega))
          have hone := Lib.hid (rone_any i (by omega))
          have hw := Lib.hid (add_walk (a := laneN f j i) (b := f i / 2 ^ j % 2) (c := laneN f j (i + 1)) (Nat.mod_lt _ (by decide)) hlt (laneN_lt f j i) rfl)
          have hset := hb3.out.set (v := laneN f j (i + 1)) hltj
          unfold Blk at hset
          rw [tacc_next] at hset
          have hset := Lib.hid hset
          rw [show tacc f i j j = laneN f j i by simp [tacc]] at cy
          generalize f i / 2 ^ j % 2 = b at *
          generalize laneN f j (i + 1) = c at *
          generalize laneN f j i = a at *
          generalize 2 ^ i % 18446744073709551616 = p at *
          generalize f i = x at *
          have hne : w.heap.size ≠ w.heap.size + 1 + 1 := by omega
          have k1 : ∀ v, (wr.setCell ⟨w.heap.size + 1 + 1, j, none⟩ v).drew.cell? ⟨w.heap.size, i, none⟩ = some (.int .u64 (x : Nat)) := fun v => (cell_set_blk wr v hne).trans cx
          go_upto_region 8 with fail
          go_region_with (first
            | (go_at_call 27; (with_reducible refine (hbit.out _).mono ?_); rintro e w4 ⟨rfl, rfl⟩)
            | (go_at_call 28; (with_reducible refine (hone.out _).mono ?_); rintro e w4 ⟨rfl, rfl⟩))
          all_goals
            rw [hw.out]
            have hB2 : Hid (Below w.heap.size w (wr.setCell ⟨w.heap.size + 1 + 1, j, none⟩ (.int .u64 (c : Nat))).drew) := Lib.hid (hB.out.setCell (show w.heap.size ≤ w.heap.size + 1 + 1 by omega) _).drew
            have hb1' : Hid (Blk (wr.setCell ⟨w.heap.size + 1 + 1, j, none⟩ (.int .u64 (c : Nat))).drew w.heap.size f) := Lib.hid (hb1.out.other hne _).drew
            have hb2' : Hid (Blk (wr.setCell ⟨w.heap.size + 1 + 1, j, none⟩ (.int .u64 (c : Nat))).drew (w.heap.size + 1) (fun _ => 0)) := Lib.hid (hb2.out.other (show w.heap.size + 1 ≠ w.heap.size + 1 + 1 by omega) _).drew
            have hb3' : Hid (Blk (wr.setCell ⟨w.heap.size + 1 + 1, j, none⟩ (.int .u64 (c : Nat))).drew (w.heap.size + 1 + 1) (tacc f i (j + 1))) := hset
            clear hset cx cy fy hbit hone hw k1 hb1 hb2 hb3 hB
            generalize (wr.setCell ⟨w.heap.size + 1 + 1, j, none⟩ (.int .u64 (c : Nat))).drew = w6 at *
            go_wp2
            exact ⟨⟨j + 1, by omega, by go_num, hb1', hb2', hb3', hB2⟩, by simp [intOf]; omega⟩
        · obtain rfl : j = 64 := by omega
          have hb3' : Hid (Blk wr (w.heap.size + 1 + 1) (tacc f (i + 1) 0)) := Lib.hid (by have h := hb3.out; unfold Blk at h ⊢; rw [tacc_row] at h; exact h)
          clear hb3
          go_wp2
          exact ⟨⟨i + 1, by omega, by go_num, hb1, hb2, hb3', hB⟩, by simp [intOf]; omega⟩
    · obtain rfl : i = 64 := by omega
      have hb3' : Hid (Blk wr (w.heap.size + 1 + 1) (turn f)) := Lib.hid (by have h := hb3.out; unfold Blk at h ⊢; rw [hend.out] at h; exact h)
      clear hb3
      go_wp2_with (first | (refine hb3'.out.wload rfl _ rfl rfl ?_) | (refine hb2.out.wstore rfl _ _ rfl rfl rfl ?_))
      exact bodyPost_ret (v := .agg (sqA (turn f))) ((hb2.out.put _).results rfl _ rfl) rfl ⟨rfl, hB.out.trans (below_setRow (by omega) _)⟩
end Go.Proofs.Ytgbhhmmllbanlaa
