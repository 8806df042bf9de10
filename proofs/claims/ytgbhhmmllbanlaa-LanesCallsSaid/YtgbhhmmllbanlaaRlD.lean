/-
  The document's own answers: Unpack.
-/
import Derived.Test.YtgbhhmmllbanlaaRlC
namespace Go.Proofs.Ytgbhhmmllbanlaa
open Go.RowKit
set_option maxRecDepth 100000

/-- What lanes have, as the document has it. -/
theorem unpack_lane {n : Nat} {f : Nat → Nat} (hn : n ≤ 64) (hf : ∀ i, i < n → f i < 18446744073709551616) : sqA (fun k => laneN f k n) = sqA (turn (cutAt n f)) := by
  apply sqA_congr
  intro i hi
  refine word_ext (Nat.lt_of_lt_of_le (laneN_lt _ i n) (le64' hn)) (turn_lt (cutAt_lt hf) i) (fun j hj => ?_)
  rw [laneN_bit, turn_bit _ hi hj, cutAt_bit]

set_option maxHeartbeats 1000000 in
theorem runpack_any {w : World} {a : Option Addr} {n c : Nat} {f : Nat → Nat} (hs : WRow w a n f) (hf : n ≤ 64 → ∀ i, i < n → f i < 18446744073709551616) :
    Calls Try.prog 16 #[.slice a n c] w fun e w' =>
      e = .returned (if 1 ≤ n ∧ n ≤ 64 then .tuple #[.agg (sqA (turn (cutAt n f))), .int .i64 0] else .tuple #[.agg (sqA (fun _ => 0)), .int .i64 1]) ∧ Below w.heap.size w w' := by
  have hz := (zero_of_info info_sq).1
  have hln := Lib.hid (fun (wk : World) (k : Nat) (h : WRow wk a n f) => rlane_any (c := c) (k : Int) h hf)
  by_cases hn : 1 ≤ n ∧ n ≤ 64
  · rw [if_pos hn, ← unpack_lane hn.2 (hf hn.2)]
    have HS := Lib.hid hs
    have hl64 : Hid (∀ k, laneN f k n < 18446744073709551616) := Lib.hid (fun k => Nat.lt_of_lt_of_le (laneN_lt f k n) (le64' hn.2))
    clear hs hf
    have hln : Hid (∀ (wk : World) (k : Nat), k < 64 → WRow wk a n f → Calls Try.prog 18 #[.slice a n c, .int .i64 (k : Nat)] wk fun e w' => e = .returned (.tuple #[.int .u64 ((fun k => laneN f k n) k : Nat), .int .i64 0]) ∧ wk = w') := Lib.hid (fun wk k hk h => by
      have := hln.out wk k h
      rw [if_pos ⟨hn, by omega, by omega⟩, Int.toNat_natCast] at this
      exact this)
    generalize (fun k => laneN f k n) = T at *
    go_enter Try.func16, Try.ntmps16
    go_upto_region 2 with fail
    have hb2 := Lib.hid ((Blk.new w (fun _ => 0)).old (.cells (sqA (fun _ => 0)) 23))
    have hb4 : Hid (Blk ((w.alloc (.cells (sqA (fun _ => 0)) 23)).alloc (.cells (sqA (fun _ => 0)) 23)) (w.heap.size + 1) (part T 0)) := Lib.hid (by
      rw [part_none]; have h := Blk.new (w.alloc (.cells (sqA (fun _ => 0)) 23)) (fun _ => 0); simpa using h)
    have hB := Lib.hid (((Below.refl w.heap.size w).alloc (Nat.le_refl _) (.cells (sqA (fun _ => 0)) 23)).alloc (by simp) (.cells (sqA (fun _ => 0)) 23))
    generalize (w.alloc (.cells (sqA (fun _ => 0)) 23)).alloc (.cells (sqA (fun _ => 0)) 23) = w1 at *
    clear hz
    go_wp2
    go_loopw [5] (fun s wr => ∃ k : Nat, k ≤ 64 ∧ s = .int .i64 (k : Nat) ∧ Hid (Blk wr w.heap.size (fun _ => 0)) ∧ Hid (Blk wr (w.heap.size + 1) (part T k)) ∧ Hid (Below w.heap.size w wr)) (fun s _ => 64 - (intOf s).toNat)
    case atStart => exact ⟨0, by omega, rfl, hb2, hb4, hB⟩
    case round =>
      clear hb2 hb4 hB
      obtain ⟨k, hk, rfl, hb2, hb4, hB⟩ := hrel
      by_cases hlt : k < 64
      · have hk64 : (k : Int) < 64 := by omega
        have hl := Lib.hid (hln.out wr k hlt (HS.out.step hB.out))
        have cx := hb4.out.cell hlt
        have fx := hb4.out.thaw k
        have hb4' := Lib.hid (hb4.out.grow hlt)
        have hb2' := Lib.hid (hb2.out.other (a := ⟨w.heap.size + 1, k, none⟩) (show w.heap.size ≠ w.heap.size + 1 by omega) (.int .u64 (T k : Nat)))
        have hB' := Lib.hid (hB.out.setCell (p := ⟨w.heap.size + 1, k, none⟩) (show w.heap.size ≤ w.heap.size + 1 by omega) (.int .u64 (T k : Nat)))
        generalize part T k k = v0 at cx
        clear hb2 hb4 hB hln
        generalize T k = z at *
        go_wp2_with (go_at_call 18; (with_reducible refine hl.out.mono ?_); rintro e w2 ⟨rfl, rfl⟩)
        exact ⟨⟨k + 1, by omega, by go_num, hb2', hb4', hB'⟩, by simp [intOf]; omega⟩
      · obtain rfl : k = 64 := by omega
        have hb := Lib.hid hb4.out.full
        go_wp2_with (first | (refine hb.out.wload rfl _ rfl rfl ?_) | (refine hb2.out.wstore rfl _ _ rfl rfl rfl ?_))
        exact bodyPost_ret (v := .tuple #[.agg (sqA T), .int .i64 0]) (sq_results2 (hb2.out.put _) rfl _ rfl _ rfl) rfl ⟨rfl, hB.out.trans (below_setRow (Nat.le_refl _) _)⟩
  · rw [if_neg hn]
    have hl : Hid (∀ (wk : World), WRow wk a n f → Calls Try.prog 18 #[.slice a n c, .int .i64 0] wk fun e w' => e = .returned (.tuple #[.int .u64 0, .int .i64 1]) ∧ wk = w') := Lib.hid (fun wk h => by
      have := hln.out wk 0 h
      rw [if_neg (fun h => hn h.1)] at this
      exact this)
    have HS := Lib.hid hs
    clear hs hf hln
    go_enter Try.func16, Try.ntmps16
    go_upto_region 2 with fail
    have hb2 := Lib.hid ((Blk.new w (fun _ => 0)).old (.cells (sqA (fun _ => 0)) 23))
    have hb4 : Hid (Blk ((w.alloc (.cells (sqA (fun _ => 0)) 23)).alloc (.cells (sqA (fun _ => 0)) 23)) (w.heap.size + 1) (fun _ => 0)) := Lib.hid (by
      have h := Blk.new (w.alloc (.cells (sqA (fun _ => 0)) 23)) (fun _ => 0); simpa using h)
    have hB := Lib.hid (((Below.refl w.heap.size w).alloc (Nat.le_refl _) (.cells (sqA (fun _ => 0)) 23)).alloc (by simp) (.cells (sqA (fun _ => 0)) 23))
    generalize (w.alloc (.cells (sqA (fun _ => 0)) 23)).alloc (.cells (sqA (fun _ => 0)) 23) = w1 at *
    clear hz
    go_wp2
    go_loopw [5] (fun s wr => s = .int .i64 0 ∧ Hid (wr = w1)) (fun s _ => 64 - (intOf s).toNat)
    case atStart => exact ⟨rfl, Lib.hid rfl⟩
    case round =>
      obtain ⟨rfl, hw⟩ := hrel
      obtain rfl := hw.out
      have hl := Lib.hid (hl.out wr (HS.out.step hB.out))
      go_wp2_with (first
        | (go_at_call 18; (with_reducible refine hl.out.mono ?_); rintro e w2 ⟨rfl, rfl⟩)
        | (refine hb4.out.wload rfl _ rfl rfl ?_) | (refine hb2.out.wstore rfl _ _ rfl rfl rfl ?_))
      exact bodyPost_ret (v := .tuple #[.agg (sqA (fun _ => 0)), .int .i64 1]) (sq_results2 (hb2.out.put _) rfl _ rfl _ rfl) rfl ⟨rfl, hB.out.trans (below_setRow (Nat.le_refl _) _)⟩
end Go.Proofs.Ytgbhhmmllbanlaa
