/-
  The law package's own: wakes.
-/
import Derived.Test.YtgbhhmmllbanlaaLanR
import Derived.Deep.Cut
namespace Go.Proofs.Ytgbhhmmllbanlaa
open Go.RowKit
set_option maxRecDepth 100000

theorem Made.row {w w' : World} {a : Option Addr} {n c : Nat} {f : Nat → Nat} (h : Made w w' a n c f) (hn : n ≤ 9223372036854775807) : WRow w' a n f := WRow.of_own h.own hn
theorem list_row {w : World} (l : List Nat) : WRow (w.alloc (.cells (l.map (fun x => Value.int .u64 (x : Nat))).toArray 22)) (some ⟨w.heap.size, 0, none⟩) (min l.length 9223372036854775807) (fun i => l.getD i 0) :=
  ⟨by omega, .inr ⟨_, 0, rfl, by simp, fun i hi => by
    have h : i < l.length := by omega
    simp [List.getD, h]⟩⟩
theorem row123 (w : World) : WRow (w.alloc (.cells #[.int .u64 1, .int .u64 2, .int .u64 3] 22)) (some ⟨w.heap.size, 0, none⟩) 3 (fun i => i + 1) :=
  (list_row (w := w) [1, 2, 3]).congr (by decide)
theorem row56 (w : World) : WRow (w.alloc (.cells #[.int .u64 5, .int .u64 6] 22)) (some ⟨w.heap.size, 0, none⟩) 2 (fun i => i + 5) :=
  (list_row (w := w) [5, 6]).congr (by decide)
def fillF1 (i : Nat) : Nat := if i = 0 then 18446744073709551615 else 0
theorem rowF (w : World) : WRow (w.alloc (.cells #[.int .u64 18446744073709551615, .int .u64 0] 22)) (some ⟨w.heap.size, 0, none⟩) 2 fillF1 :=
  (list_row (w := w) [18446744073709551615, 0]).congr (by decide)
theorem pack123 : ∀ i, i < 2 → turn (cutAt 3 (fun i => i + 1)) i = i + 5 := by decide +kernel
theorem fill1 : ∀ i, i < 2 → fillN 1 i = fillF1 i := by decide +kernel
def ones0 : Nat → Nat := upd (fun _ => 0) 0 18446744073709551615
theorem ones0_lt (i : Nat) : ones0 i < 18446744073709551616 := by unfold ones0 upd; split; decide; exact (by decide : (0 : Nat) < 18446744073709551616)
theorem ones0_turn : turn ones0 0 = 1 ∧ turn ones0 63 = 1 := by decide +kernel
theorem lane2 : laneN (fun i => i + 5) 1 2 = 2 := by decide +kernel
theorem pop11 : popN 11 64 = 3 := by decide +kernel

/-- As wakes calls them. -/
theorem wpack (w : World) : Calls Try.prog 13 #[.int .i64 2, .slice (some ⟨w.heap.size, 0, none⟩) 3 3] (w.alloc (.cells #[.int .u64 1, .int .u64 2, .int .u64 3] 22)) fun e w' =>
    ∃ a2 c2, e = .returned (.tuple #[.slice a2 2 c2, .int .i64 0]) ∧ WRow w' a2 2 (fun i => i + 5) ∧ Below w.heap.size w w' := by
  refine (pack_yes (W := 2) (c := 3) (row123 w) (by decide) (by decide +kernel)).mono ?_
  rintro e w' ⟨a2, c2, rfl, hM⟩
  exact ⟨a2, c2, rfl, (hM.row (by omega)).congr pack123, nextw ((Below.refl _ _).alloc (Nat.le_refl _) _) hM.below⟩
theorem wlane (w : World) (a : Option Addr) (c : Nat) (hs : WRow w a 2 (fun i => i + 5)) : Calls Try.prog 17 #[.slice a 2 c, .int .i64 1] w fun e w' =>
    e = .returned (.tuple #[.int .u64 2, .int .i64 0]) ∧ Below w.heap.size w w' := by
  refine (lane_any (c := c) 1 hs (fun _ i h => by omega)).mono ?_
  rintro e w' ⟨rfl, hB⟩
  refine ⟨?_, hB⟩
  rw [if_pos (by decide)]
  show _ = Ending.returned (.tuple #[.int .u64 (2 : Nat), .int .i64 0])
  rw [← lane2]; rfl
theorem wfill (w : World) : Calls Try.prog 21 #[.int .i64 2, .int .u64 1] w fun e w' =>
    ∃ a2 c2, e = .returned (.tuple #[.slice a2 2 c2, .int .i64 0]) ∧ WRow w' a2 2 fillF1 ∧ Below w.heap.size w w' := by
  refine (fill_yes (w := w) (n := 2) (x := 1) (by decide) (by decide +kernel)).mono ?_
  rintro e w' ⟨a2, c2, rfl, hM⟩
  exact ⟨a2, c2, rfl, (hM.row (by omega)).congr fill1, hM.below⟩
theorem wcount (w : World) : Calls Try.prog 24 #[.int .u64 11] w fun e w' => e = .returned (.int .i64 3) ∧ w = w' := by
  refine (count_any 11 (by decide) w).mono ?_
  rintro e w' ⟨rfl, hw⟩
  rw [pop11]; exact ⟨rfl, hw⟩

set_option maxHeartbeats 1000000 in
theorem wakes_any (w : World) : Calls Try.prog 11 #[] w fun e w' => e = .returned (.bool true) ∧ Below w.heap.size w w' := by
  have hz := (zero_of_info info_sq).1
  have hp := Lib.hid (wpack w)
  have hl := Lib.hid wlane
  have hf := Lib.hid wfill
  have htn := Lib.hid (fun w => turn_any ones0 ones0_lt w)
  obtain ⟨T, hT⟩ : ∃ T, T = turn ones0 := ⟨_, rfl⟩
  have hT0 := ones0_turn.1
  have hT63 := ones0_turn.2
  rw [← hT] at htn hT0 hT63
  clear hT
  go_enter Try.func11, Try.ntmps11
  go_upto_region 5 with (first
    | (go_at_call 13; (with_reducible refine hp.out.mono ?_); rintro e w2 ⟨ga, ca, rfl, hA, hB⟩; have hA := Lib.hid hA; have hB := Lib.hid hB)
    | (go_at_call 17; (with_reducible refine (hl.out _ _ _ hA.out).mono ?_); rintro e w3 ⟨rfl, hn⟩; have hA3 := Lib.hid (hA.out.step hn); have hB3 := Lib.hid (nextw hB.out hn); clear hA hB hn)
    | (go_at_call 21; (with_reducible refine (hf.out _).mono ?_); rintro e w4 ⟨gf, cf, rfl, hF, hn⟩; have hA4 := Lib.hid (hA3.out.step hn); have hB4 := Lib.hid (nextw hB3.out hn); have hF := Lib.hid hF; clear hA3 hB3 hn))
  have hb5 := Lib.hid (Blk.new w4 (fun _ => 0))
  have hn6 := ((Below.refl w4.heap.size w4).alloc (Nat.le_refl _) (.cells (sqA (fun _ => 0)) 23)).setCell (p := ⟨w4.heap.size, 0, none⟩) (Nat.le_refl _) (.int .u64 18446744073709551615)
  have hB6 := Lib.hid (nextw hB4.out hn6)
  have hA6 := Lib.hid (hA4.out.step hn6)
  have hF6 := Lib.hid (hF.out.step hn6)
  clear hA4 hF hB4 hp hl hf hn6
  generalize w4.alloc (.cells (sqA (fun _ => 0)) 23) = w5 at *
  generalize w4.heap.size = g at *
  have c0 := hb5.out.cell (i := 0) (by decide)
  have f0 := hb5.out.thaw 0
  have hb6 : Hid (Blk (w5.setCell ⟨g, 0, none⟩ (.int .u64 18446744073709551615)) g ones0) := Lib.hid (hb5.out.set (i := 0) (v := 18446744073709551615) (by decide))
  go_upto_region 6 with fail
  clear hb5 c0 f0
  generalize (w5.setCell ⟨g, 0, none⟩ (.int .u64 18446744073709551615)) = w6 at *
  have hcn := Lib.hid wcount
  go_upto_region 7 with (first
    | (refine hb6.out.wload rfl _ rfl rfl ?_)
    | (go_at_call 9; (with_reducible refine (htn.out _).mono ?_); rintro e w7 ⟨rfl, hn⟩; have hA7 := Lib.hid (hA6.out.step hn); have hF7 := Lib.hid (hF6.out.step hn); have hB7 := Lib.hid (nextw hB6.out hn); have hb7 := Lib.hid (Blk.new w7 (fun _ => 0)); clear hA6 hF6 hB6 hb6 hn)
    | (refine hb7.out.wstore rfl _ _ rfl rfl rfl ?_))
  have hn8 := ((Below.refl w7.heap.size w7).alloc (Nat.le_refl _) (.cells (sqA (fun _ => 0)) 23)).trans (below_setRow (Nat.le_refl _) (sqA T))
  have hA8 := Lib.hid (hA7.out.step hn8)
  have hF8 := Lib.hid (hF7.out.step hn8)
  have hB8 := Lib.hid (nextw hB7.out hn8)
  have hb8 := Lib.hid (hb7.out.put T)
  clear hA7 hF7 hB7 hb7 hn8
  generalize (w7.alloc (.cells (sqA (fun _ => 0)) 23)).setRow w7.heap.size (sqA T) = w8 at *
  generalize w7.heap.size = b at *
  have hs1 := Lib.hid (fun (h : Below w8.heap.size w8 (w8.alloc (.cells #[.int .u64 5, .int .u64 6] 22))) => same_any (c := ca) (c2 := 2) (hA8.out.step h) (row56 w8))
  go_wp2_with (first
    | (go_at_call 23; (with_reducible refine (hs1.out ((Below.refl _ _).alloc (Nat.le_refl _) _)).mono ?_); rintro e w9 ⟨rfl, hn⟩; have hn9 := nextw ((Below.refl w8.heap.size w8).alloc (Nat.le_refl _) (.cells #[.int .u64 5, .int .u64 6] 22)) hn; have hF9 := Lib.hid (hF8.out.step hn9); have hB9 := Lib.hid (nextw hB8.out hn9); have hb9 := Lib.hid (hb8.out.step hn9); have hs2 := Lib.hid (fun (h : Below w9.heap.size w9 (w9.alloc (.cells #[.int .u64 18446744073709551615, .int .u64 0] 22))) => same_any (c := cf) (c2 := 2) (hF9.out.step h) (rowF w9)); clear hA8 hF8 hB8 hb8 hn9 hn hs1)
    | (go_at_call 23; (with_reducible refine (hs2.out ((Below.refl _ _).alloc (Nat.le_refl _) _)).mono ?_); rintro e w10 ⟨rfl, hn⟩; have hn10 := nextw ((Below.refl w9.heap.size w9).alloc (Nat.le_refl _) (.cells #[.int .u64 18446744073709551615, .int .u64 0] 22)) hn; have hB10 := Lib.hid (nextw hB9.out hn10); have hb10 := Lib.hid (hb9.out.step hn10); have c0 := hb10.out.cell (i := 0) (by decide); have c63 := hb10.out.cell (i := 63) (by decide); rw [hT0] at c0; rw [hT63] at c63; clear hF9 hB9 hb9 hn10 hn hs2)
    | (go_at_call 24; (with_reducible refine (hcn.out _).mono ?_); rintro e w11 ⟨rfl, rfl⟩))
  go_ret
  exact ⟨rfl, hB10.out⟩
end Go.Proofs.Ytgbhhmmllbanlaa
