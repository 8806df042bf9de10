/-
  The document's own answers: Pack.
-/
import Derived.Test.YtgbhhmmllbanlaaRlD
namespace Go.Proofs.Ytgbhhmmllbanlaa
open Go.RowKit
set_option maxRecDepth 100000

theorem tacc_upd (f : Nat → Nat) (i j : Nat) : upd (tacc f i j) j (laneN f j (i + 1)) = tacc f i (j + 1) := by
  funext t
  unfold upd tacc
  by_cases e : t = j
  · subst e; rw [if_pos rfl, if_pos (by omega)]
  · rw [if_neg e]
    by_cases h : t < j
    · rw [if_pos h, if_pos (by omega)]
    · rw [if_neg h, if_neg (by omega)]
/-- Words packed, as the document has it. -/
theorem pack_lane {n : Nat} {f : Nat → Nat} (hn : n ≤ 64) {i : Nat} (hi : i < 64) (hf : ∀ i, i < n → f i < 18446744073709551616) : laneN f i n = turn (cutAt n f) i := by
  refine word_ext (Nat.lt_of_lt_of_le (laneN_lt _ i n) (le64' hn)) (turn_lt (cutAt_lt hf) i) (fun j hj => ?_)
  rw [laneN_bit, turn_bit _ hi hj, cutAt_bit]
theorem mayH_all {W n : Nat} {f : Nat → Nat} (hW : 1 ≤ W ∧ W ≤ 64) (h : ∀ i, i < n → fits (W : Int) (f i) = true) : mayH (W : Int) n f = true := by
  rw [mayH_iff]
  exact ⟨hW, fun i hi => by have := fits_iff.1 (h i hi); simpa using this.2⟩
theorem mayH_bad {W n k : Nat} {f : Nat → Nat} (hk : k < n) (h : fits (W : Int) (f k) = false) : mayH (W : Int) n f = false := by
  cases hm : mayH (W : Int) n f with
  | false => rfl
  | true =>
    obtain ⟨h1, h2⟩ := mayH_iff.1 hm
    have : fits (W : Int) (f k) = true := fits_iff.2 ⟨by omega, by simpa using h2 k hk⟩
    rw [this] at h; cases h

set_option maxHeartbeats 4000000 in
theorem rpack_in {w : World} {a : Option Addr} {n c W : Nat} {f : Nat → Nat} (hs : WRow w a n f) (hf : ∀ i, i < n → f i < 18446744073709551616) (hn : n ≤ 64) (hW1 : 1 ≤ W) (hW2 : W ≤ 64) :
    Calls Try.prog 14 #[.int .i64 (W : Nat), .slice a n c] w fun e w' =>
      Below w.heap.size w w' ∧ ((mayH (W : Int) n f = true ∧ ∃ a2 c2, e = .returned (.tuple #[.slice a2 W c2, .int .i64 0]) ∧ WRow w' a2 W (turn (cutAt n f))) ∨ (mayH (W : Int) n f = false ∧ e = .returned (.tuple #[.slice none 0 0, .int .i64 1]))) := by
  obtain ⟨i0, hi, hz0, hz1, hz2⟩ := info_parts info_u64
  have HS := Lib.hid hs
  have hF := Lib.hid hf
  have hend : Hid (∀ (w' : World) (b : Addr), WOwn w' w.heap.size (some b) W (tacc f n 0) → WRow w' (some b) W (turn (cutAt n f))) := Lib.hid (fun w' b h => h.row.congr (fun i hi => by rw [← pack_lane hn (by omega) hf]; simp [tacc]))
  have hall := Lib.hid (fun h => mayH_all (W := W) (n := n) (f := f) ⟨hW1, hW2⟩ h)
  have hbad := Lib.hid (fun k hk h => mayH_bad (W := W) (n := n) (f := f) (k := k) hk h)
  clear hs hf
  generalize mayH (W : Int) n f = B at *
  generalize turn (cutAt n f) = R at *
  have hWa : ¬ (W : Int) < 1 := by omega
  have hWb : ¬ 64 < (W : Int) := by omega
  have hnb : ¬ 64 < (n : Int) := by omega
  have hW0 : ¬ (W : Int) < 0 := by omega
  go_enter Try.func14, Try.ntmps14
  go_upto_region 4 with (at_make; refine wpList_make_full _ rfl _ _ 27 rfl w.heap.size 22 i0 (.int .u64 0) 1 Try.underlying27 hi hz0 hz1 .i64 .i64 W W W rfl rfl rfl rfl (by rw [hz2]; omega) (by unfold maxLen; omega) (Nat.le_refl _) ?_; intro w1 hown hg)
  have hB : Hid (Below w.heap.size w w1) := Lib.hid ((Below.refl w.heap.size w).grown hg (Nat.le_refl _) (fun _ h => (by cases h)))
  have hO : Hid (WOwn w1 w.heap.size (some ⟨w.heap.size, 0, none⟩) W (tacc f 0 0)) := Lib.hid (by rw [tacc_start]; rw [wl_made] at hown; exact WOwn.of_own hown (by omega))
  clear hown hg hi hz0 hz1 hz2 i0 hWa hWb hnb hW0
  go_wp2
  go_loopw [7] (fun s wr => ∃ k : Nat, k ≤ n ∧ s = .int .i64 (k : Nat) ∧ Hid (∀ i, i < k → fits (W : Int) (f i) = true) ∧ Hid (WOwn wr w.heap.size (some ⟨w.heap.size, 0, none⟩) W (tacc f k 0)) ∧ Hid (Below w.heap.size w wr)) (fun s _ => n - (intOf s).toNat)
  case atStart => exact ⟨0, by omega, rfl, Lib.hid (fun i h => by omega), hO, hB⟩
  case round =>
    clear hO hB
    obtain ⟨k, hk, rfl, hP, hO, hB⟩ := hrel
    by_cases hlt : k < n
    · obtain ⟨b, off, rfl, hb, hcell⟩ := HS.out.at (by omega)
      have ck0 := Lib.hid (hcell k hlt)
      have ck := stepc hB.out hb ck0.out
      have hkn : (k : Int) < n := by omega
      have hft := Lib.hid (rfits_any (W : Int) (f k) (hF.out k hlt))
      have hbit := Lib.hid (fun t (ht : t ≤ 64) (w : World) => rbit_any (f k) (hF.out k hlt) t ht w)
      have hone := Lib.hid (rone_any k (by omega))
      have hbk := Lib.hid (hbad.out k hlt)
      have hP2 : Hid (fits (W : Int) (f k) = true → ∀ i, i < k + 1 → fits (W : Int) (f i) = true) := Lib.hid (fun h i hi => by
        rcases Nat.lt_succ_iff_lt_or_eq.1 hi with h1 | rfl
        · exact hP.out i h1
        · exact h)
      clear hcell hP hbad
      generalize fits (W : Int) (f k) = T at *
      cases T with
      | false =>
        have hBf := hbk.out rfl
        clear hbk hP2
        go_wp2_with (go_at_call 30; (with_reducible refine (hft.out _).mono ?_); rintro e w2 ⟨rfl, rfl⟩)
        go_ret2
        exact ⟨hB.out, .inr ⟨hBf, rfl⟩⟩
      | true =>
        have hP3 := Lib.hid (hP2.out rfl)
        clear hP2 hbk
        obtain ⟨wa, rfl⟩ : ∃ wa : World, wa = wr := ⟨_, rfl⟩
        go_upto_region 9 with (go_at_call 30; (with_reducible refine (hft.out _).mono ?_); rintro e w2 ⟨rfl, rfl⟩)
        clear ck hft
        go_wp2
        go_loopw [8] (fun s wr => ∃ i : Nat, i ≤ W ∧ s = .int .i64 (i : Nat) ∧ Hid (WOwn wr w.heap.size (some ⟨w.heap.size, 0, none⟩) W (tacc f k i)) ∧ Hid (Below w.heap.size w wr)) (fun s _ => W - (intOf s).toNat)
        case atStart => exact ⟨0, by omega, rfl, hO, hB⟩
        case round =>
          clear hO hB
          obtain ⟨i, hi, rfl, hO, hB⟩ := hrel
          by_cases hlti : i < W
          · have hiW : (i : Int) < W := by omega
            have ck := stepc hB.out hb ck0.out
            obtain ⟨bo, oo, eo, -, hlo, hco, hfo⟩ := hO.out.at (by omega)
            cases eo
            have co := hco i hlti
            have fo := hfo i hlti
            rw [Nat.zero_add] at co fo
            have hbi := Lib.hid (hbit.out i (by omega))
            have hw := Lib.hid (add_walk (a := laneN f i k) (b := f k / 2 ^ i % 2) (c := laneN f i (k + 1)) (Nat.mod_lt _ (by decide)) (show k < 64 by omega) (laneN_lt f i k) rfl)
            have hset := hO.out.set hlti (laneN f i (k + 1))
            rw [tacc_upd, Nat.zero_add] at hset
            have hset := Lib.hid hset
            rw [show tacc f k i i = laneN f i k by simp [tacc]] at co
            have hne : b ≠ w.heap.size := by omega
            clear hco hfo hbit HS hF hend hall hP3 hO ck0
            generalize f k / 2 ^ i % 2 = B1 at *
            generalize laneN f i (k + 1) = C1 at *
            generalize laneN f i k = A1 at *
            generalize 2 ^ k % 18446744073709551616 = p at *
            generalize f k = x at *
            have k1 : ∀ v, (wr.setCell ⟨w.heap.size, i, none⟩ v).drew.cell? ⟨b, off + k, none⟩ = some (.int .u64 (x : Nat)) := fun v => (cell_set_blk wr v hne).trans ck
            go_upto_region 12 with fail
            go_region_with (first
              | (go_at_call 27; (with_reducible refine (hbi.out _).mono ?_); rintro e w4 ⟨rfl, rfl⟩)
              | (go_at_call 28; (with_reducible refine (hone.out _).mono ?_); rintro e w4 ⟨rfl, rfl⟩))
            all_goals
              rw [hw.out]
              have hB2 : Hid (Below w.heap.size w (wr.setCell ⟨w.heap.size, i, none⟩ (.int .u64 (C1 : Nat))).drew) := Lib.hid (hB.out.setCell (p := ⟨w.heap.size, i, none⟩) (Nat.le_refl _) _).drew
              have hO2 : Hid (WOwn (wr.setCell ⟨w.heap.size, i, none⟩ (.int .u64 (C1 : Nat))).drew w.heap.size (some ⟨w.heap.size, 0, none⟩) W (tacc f k (i + 1))) := Lib.hid hset.out.drew
              clear hset co fo ck hbi hone hw k1 hB
              generalize (wr.setCell ⟨w.heap.size, i, none⟩ (.int .u64 (C1 : Nat))).drew = w6 at *
              go_wp2
              exact ⟨⟨i + 1, by omega, by go_num, hO2, hB2⟩, by simp [intOf]; omega⟩
          · obtain rfl : i = W := by omega
            have hO2 : Hid (WOwn wr w.heap.size (some ⟨w.heap.size, 0, none⟩) i (tacc f (k + 1) 0)) := Lib.hid (hO.out.congr (fun t ht => by simp [tacc, ht]))
            clear hO hbit hone
            go_wp2
            exact ⟨⟨k + 1, by omega, by go_num, hP3, hO2, hB⟩, by simp [intOf]; omega⟩
    · obtain rfl : k = n := by omega
      have hR := Lib.hid (hend.out _ _ hO.out)
      have hBt := hall.out hP.out
      clear hP hO hend hall hbad HS hF
      go_wp2
      go_ret2
      exact ⟨hB.out, .inl ⟨hBt, _, _, rfl, hR.out⟩⟩
end Go.Proofs.Ytgbhhmmllbanlaa
