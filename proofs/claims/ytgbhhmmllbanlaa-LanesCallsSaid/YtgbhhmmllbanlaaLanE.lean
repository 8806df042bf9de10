/-
  Package lanes: Fill, Set.
-/
import Derived.Test.YtgbhhmmllbanlaaLanD
namespace Go.Proofs.Ytgbhhmmllbanlaa
open Go.RowKit
set_option maxRecDepth 100000

/-- A row that is being filled. -/
def part (f : Nat → Nat) (j i : Nat) : Nat := if i < j then f i else 0
theorem part_set (n : Nat) (f : Nat → Nat) (j : Nat) : (wl n (part f j)).set j (.int .u64 (f j : Nat)) = wl n (part f (j + 1)) := by
  rw [wl_set]
  apply wl_congr
  intro i _
  unfold upd part
  by_cases e : i = j
  · subst e; rw [if_pos rfl, if_pos (by omega)]
  · rw [if_neg e]
    by_cases h : i < j
    · rw [if_pos h, if_pos (by omega)]
    · rw [if_neg h, if_neg (by omega)]
theorem part_zero (n : Nat) (f : Nat → Nat) : (madeCells (Value.int .u64 0).cells (n * 1)).toList = wl n (part f 0) := by
  rw [wl_made]; exact wl_congr (fun i _ => by unfold part; rw [if_neg (by omega)])
theorem part_full (n : Nat) (f : Nat → Nat) : wl n (part f n) = wl n f := wl_congr (fun i h => by unfold part; rw [if_pos h])

/-- Lanes all of which have x. -/
def fillN (x i : Nat) : Nat := x / 2 ^ i % 2 * 18446744073709551615
theorem fill_walk {x i : Nat} (hx : x < 18446744073709551616) : IntKind.u64.wrap (- bits .and .u64 ((x : Int) / 2 ^ i) 1) = ((fillN x i : Nat) : Int) := by
  have e : (x : Int) / 2 ^ i = ((x / 2 ^ i : Nat) : Int) := by rw [Int.natCast_ediv, Int.natCast_pow]; rfl
  have hyl2 : ((x / 2 ^ i : Nat) : Int) < 18446744073709551616 := Int.ofNat_lt.2 (lt_div _ hx)
  rw [e, Num.one64 (Int.natCast_nonneg _) hyl2, Num.w64]
  unfold fillN
  have h2 : x / 2 ^ i % 2 = 0 ∨ x / 2 ^ i % 2 = 1 := by omega
  have e2 : ((x / 2 ^ i : Nat) : Int) % 2 = ((x / 2 ^ i % 2 : Nat) : Int) := by rw [Int.natCast_emod]; rfl
  rw [e2]
  rcases h2 with e | e <;> rw [e] <;> rfl
theorem fillN_lt (x i : Nat) : fillN x i < 18446744073709551616 := by
  unfold fillN
  have h2 : x / 2 ^ i % 2 = 0 ∨ x / 2 ^ i % 2 = 1 := by omega
  rcases h2 with e | e <;> rw [e] <;> decide

/-- A row of one word that a call has laid for another. -/
theorem one_row (w : World) (x : Nat) : WRow (w.alloc (.cells #[.int .u64 (x : Nat)] 22)) (some ⟨w.heap.size, 0, none⟩) 1 (fun _ => x) :=
  ⟨by omega, .inr ⟨_, 0, rfl, by simp, fun i hi => by (obtain rfl : i = 0 := (by omega)); simp⟩⟩

set_option maxHeartbeats 1000000 in
theorem fill_no {w : World} (W : Int) (x : Nat) (hno : mayH W 1 (fun _ => x) = false) :
    Calls Try.prog 21 #[.int .i64 W, .int .u64 (x : Nat)] w fun e w' => e = .returned (.tuple #[.slice none 0 0, .int .i64 1]) ∧ Below w.heap.size w w' := by
  have hm := Lib.hid (mayHave_any (c := 1) W (one_row w x))
  rw [hno] at hm
  clear hno
  go_enter Try.func21, Try.ntmps21
  go_wp2_with (go_at_call 29; (with_reducible refine hm.out.mono ?_); rintro e w2 ⟨rfl, hB⟩)
  go_ret2
  exact ⟨rfl, nextw ((Below.refl _ _).alloc (Nat.le_refl _) _) hB⟩

set_option maxHeartbeats 1000000 in
theorem fill_yes {w : World} {n x : Nat} (hx : x < 18446744073709551616) (hy : mayH (n : Int) 1 (fun _ => x) = true) :
    Calls Try.prog 21 #[.int .i64 n, .int .u64 (x : Nat)] w fun e w' => ∃ a2 c2, e = .returned (.tuple #[.slice a2 n c2, .int .i64 0]) ∧ Made w w' a2 n c2 (fillN x) := by
  obtain ⟨i0, hi, hz0, hz1, hz2⟩ := info_parts info_u64
  have hm := Lib.hid (mayHave_any (c := 1) (n : Int) (one_row w x))
  rw [hy] at hm
  obtain ⟨⟨hn1, hn2⟩, -⟩ := mayH_iff.1 hy
  have hX := Lib.hid hx
  clear hy hx
  have hn0 : ¬ (n : Int) < 0 := by omega
  go_enter Try.func21, Try.ntmps21
  go_wp2_with (first
    | (go_at_call 29; (with_reducible refine hm.out.mono ?_); rintro e w2 ⟨rfl, hB⟩; have hB2 := Lib.hid (nextw ((Below.refl _ _).alloc (Nat.le_refl _) _) hB); clear hB)
    | (at_make; refine wpList_make_full _ rfl _ _ 27 rfl w2.heap.size 22 i0 (.int .u64 0) 1 Try.underlying27 hi hz0 hz1 .i64 .i64 n n n rfl rfl rfl rfl (by rw [hz2]; omega) (by unfold maxLen; omega) (Nat.le_refl _) ?_; intro w4 hown hg; have hB4 : Hid (Below w2.heap.size w2 w4) := Lib.hid ((Below.refl w2.heap.size w2).grown hg (Nat.le_refl _) (fun _ h => (by cases h)))))
  have hf0 := part_zero n (fillN x)
  rw [hf0] at hown
  have hO0 := Lib.hid hown
  have hsz2 := hB2.out.size
  clear hf0 hown hg hm
  go_loopw [17] (fun s wr => ∃ j : Nat, j ≤ n ∧ s = .int .i64 j ∧ Hid (wr.ownsRow w2.heap.size 22 1 (.slice (some ⟨w2.heap.size, 0, none⟩) n n) n (wl n (part (fillN x) j))) ∧ Hid (Below w2.heap.size w2 wr)) (fun s _ => n - (intOf s).toNat)
  case atStart => exact ⟨0, Nat.zero_le _, rfl, hO0, hB4⟩
  case round =>
    clear hB4 hO0
    obtain ⟨j, hj, rfl, hO, hB⟩ := hrel
    by_cases hlt : j < n
    · have hcl := hO.out.cellAt (j := j) (by simpa using hlt)
      rw [wl_get _ _ _ hlt] at hcl
      have hfr := hO.out.frozenAt j
      have hst := Lib.hid (hO.out.stored j (.int .u64 (fillN x j)))
      have hset := Lib.hid (part_set n (fillN x) j)
      have hwk := Lib.hid (fill_walk (i := j) hX.out)
      generalize part (fillN x) j j = V at *
      go_wp2
      rw [hwk.out]
      refine ⟨⟨j + 1, by omega, by go_num, ?_, Lib.hid (hB.out.setCell (Nat.le_refl _) _)⟩, by simp [intOf]; omega⟩
      have e := hst.out.1
      rw [hset.out] at e
      exact Lib.hid e
    · obtain rfl : j = n := by omega
      go_wp2
      go_ret2
      have hO2 := hO.out
      rw [part_full] at hO2
      exact ⟨_, _, rfl, own_base hO2 hsz2, nextw hB2.out hB.out⟩
end Go.Proofs.Ytgbhhmmllbanlaa
