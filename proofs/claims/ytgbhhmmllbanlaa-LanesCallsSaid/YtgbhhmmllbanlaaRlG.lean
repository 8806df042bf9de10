/-
  Set, as the document has it.
-/
import Derived.Test.YtgbhhmmllbanlaaRlF
namespace Go.Proofs.Ytgbhhmmllbanlaa
open Go.RowKit
set_option maxRecDepth 100000

theorem setN_turn {n l x : Nat} {f : Nat → Nat} (hn : n ≤ 64) (hl : l < 64) (hx : x < 18446744073709551616) (hf : ∀ i, i < n → f i < 18446744073709551616) {i : Nat} (hi : i < n) :
    turn (cutAt 64 (upd (turn (cutAt n f)) l x)) i = setN f l x i := by
  have hT := turn_lt (cutAt_lt (n := n) (f := f) hf)
  have hU : ∀ t, upd (turn (cutAt n f)) l x t < 18446744073709551616 := fun t => by unfold upd; split; exact hx; exact hT t
  refine word_ext (turn_lt (fun t => cutAt_lt (n := 64) (fun t _ => hU t) t) i) (setN_lt hl) (fun j hj => ?_)
  have hb : (setN f l x i).testBit j = if j = l then decide (x / 2 ^ i % 2 = 1) else (f i).testBit j := setW_bit (Nat.mod_lt _ (by decide)) hl hj
  rw [hb, turn_bit _ (by omega) hj, cutAt_bit]
  unfold upd
  by_cases e : j = l
  · rw [if_pos e, if_pos e]
    have : decide (x / 2 ^ i % 2 = 1) = x.testBit i := (Nat.testBit_eq_decide_div_mod_eq).symm
    rw [this]; simp [hj]
  · rw [if_neg e, if_neg e, turn_bit _ hj (by omega), cutAt_bit]
    simp [hj, hi]
theorem setN_bound {n l x : Nat} {f : Nat → Nat} (hn : n ≤ 64) (hx : x < 2 ^ n) (hf : ∀ i, i < n → f i < 18446744073709551616) (i : Nat) (hi : i < 64) : upd (turn (cutAt n f)) l x i < 2 ^ n := by
  unfold upd
  split
  · exact hx
  · apply Nat.lt_pow_two_of_testBit
    intro j hj
    by_cases hj64 : j < 64
    · rw [turn_bit _ hi hj64, cutAt_bit]; simp; omega
    · exact Nat.testBit_lt_two_pow (Nat.lt_of_lt_of_le (turn_lt (cutAt_lt (n := n) (f := f) hf) i) (Nat.pow_le_pow_right (n := 2) (i := 64) (by decide) (by omega)))

set_option maxHeartbeats 1000000 in
theorem rset_ans {w : World} {a : Option Addr} {n c : Nat} {f : Nat → Nat} (L : Int) (x : Nat) (hx : x < 18446744073709551616) (hs : WRow w a n f) (hf : ∀ i, i < n → f i < 18446744073709551616) :
    Calls Try.prog 20 #[.slice a n c, .int .i64 L, .int .u64 (x : Nat)] w fun e w' => Ans w e w' (if setOk n L x then n else 0) (if setOk n L x then 0 else 1) (setN f L.toNat x) := by
  have hle := hs.1
  have hln := rlane_any (c := c) L hs (fun _ => hf)
  have hft := Lib.hid (rfits_any (n : Int) x hx)
  by_cases hok : (1 ≤ n ∧ n ≤ 64) ∧ 0 ≤ L ∧ L < 64
  · rw [if_pos hok] at hln
    obtain ⟨⟨hn1, hn2⟩, hL0, hL1⟩ := hok
    obtain ⟨l, rfl⟩ : ∃ l : Nat, L = l := ⟨L.toNat, by omega⟩
    rw [Int.toNat_natCast] at hln ⊢
    have hl : l < 64 := by omega
    have hso : setOk n (l : Int) x = fits (n : Int) x := by
      unfold setOk
      rw [mayH_fits _ _ _ (by omega), decide_eq_true hL0, decide_eq_true hL1]
      simp
    rw [hso]
    have hln := Lib.hid hln
    generalize laneN f l n = z at *
    cases hb : fits (n : Int) x with
    | false =>
      rw [hb] at hft
      clear hs hf hx hso hb
      go_enter Try.func20, Try.ntmps20
      go_wp2_with (first
        | (go_at_call 18; (with_reducible refine hln.out.mono ?_); rintro e w2 ⟨rfl, rfl⟩)
        | (go_at_call 30; (with_reducible refine (hft.out _).mono ?_); rintro e w3 ⟨rfl, rfl⟩))
      go_ret2
      exact ⟨none, 0, rfl, WRow.nil _ _ _, Below.refl _ _⟩
    | true =>
      rw [hb] at hft
      have hx2 : x < 2 ^ n := by have := (fits_iff.1 hb).2; simpa using this
      have hun := runpack_any (c := c) hs (fun _ => hf)
      rw [if_pos ⟨hn1, hn2⟩] at hun
      have hun := Lib.hid hun
      have hpk : Hid (∀ (wk : World) (b : Nat), Blk wk b (upd (turn (cutAt n f)) l x) → Calls Try.prog 14 #[.int .i64 (n : Nat), .slice (some ⟨b, 0, none⟩) 64 64] wk fun e w' => Ans wk e w' n 0 (setN f l x)) := Lib.hid (fun wk b h => by
        refine (rpack_ans (c := 64) (n : Int) (WRow.of_blk h (Nat.le_refl 64)) (fun i hi => Nat.lt_of_lt_of_le (setN_bound hn2 hx2 hf i hi) (le64' hn2))).mono ?_
        have hp : packOk (n : Int) 64 (upd (turn (cutAt n f)) l x) = true := by
          unfold packOk
          rw [mayH_iff.2 ⟨⟨hn1, hn2⟩, fun i hi => setN_bound hn2 hx2 hf i hi⟩]; rfl
        rintro e w' ⟨a2, c2, he, hR, hB⟩
        rw [hp] at he hR
        simp only [if_true, Int.toNat_natCast] at he hR
        exact ⟨a2, c2, he, hR.congr (fun i hi => setN_turn hn2 hl hx hf hi), hB⟩)
      have hz := (zero_of_info info_sq).1
      have hl64 : (l : Int) < 64 := hL1
      generalize turn (cutAt n f) = T at *
      generalize setN f l x = R at *
      clear hs hf hx hso hb hx2 hL1
      simp only [if_true]
      go_enter Try.func20, Try.ntmps20
      go_upto_region 5 with (first
        | (go_at_call 18; (with_reducible refine hln.out.mono ?_); rintro e w2 ⟨rfl, rfl⟩)
        | (go_at_call 30; (with_reducible refine (hft.out _).mono ?_); rintro e w3 ⟨rfl, rfl⟩)
        | (go_at_call 16; (with_reducible refine hun.out.mono ?_); rintro e w4 ⟨rfl, hn4⟩; have hb4 := Lib.hid (Blk.new w4 (fun _ => 0)); have hB4 := Lib.hid hn4; clear hn4)
        | (refine hb4.out.wstore rfl _ _ rfl rfl rfl ?_))
      have hn5 := ((Below.refl w4.heap.size w4).alloc (Nat.le_refl _) (.cells (sqA (fun _ => 0)) 23)).trans (below_setRow (Nat.le_refl _) (sqA T))
      have hT := Lib.hid (hb4.out.put T)
      have hsz := hB4.out.size
      have hB5 := Lib.hid (nextw hB4.out hn5)
      clear hb4 hB4 hn5 hz
      generalize (w4.alloc (.cells (sqA (fun _ => 0)) 23)).setRow w4.heap.size (sqA T) = w5 at *
      generalize w4.heap.size = b at *
      have cx := hT.out.cell hl
      have fx := hT.out.thaw l
      have hset := Lib.hid (hT.out.set (i := l) (v := x) hl)
      have hB6 := Lib.hid (hB5.out.setCell (p := ⟨b, l, none⟩) hsz (.int .u64 (x : Nat)))
      generalize T l = t0 at cx
      go_upto_region 6 with fail
      generalize w5.setCell ⟨b, l, none⟩ (.int .u64 (x : Nat)) = w6 at *
      clear hT cx fx hB5
      go_wp2_with (go_at_call 14; (with_reducible refine (hpk.out _ _ hset.out).mono ?_); rintro e w7 ⟨a2, c2, rfl, hR2, hn7⟩)
      go_ret2
      exact ⟨a2, c2, rfl, hR2, nextw hB6.out hn7⟩
  · rw [if_neg hok] at hln
    have hso : setOk n L x = false := by
      cases h : setOk n L x with
      | false => rfl
      | true =>
        unfold setOk at h
        rw [Bool.and_eq_true, Bool.and_eq_true, decide_eq_true_eq, decide_eq_true_eq] at h
        exact absurd ⟨(mayH_iff.1 h.2).1, h.1⟩ hok
    rw [hso]
    have hln := Lib.hid hln
    clear hs hf hx hso hok
    go_enter Try.func20, Try.ntmps20
    go_wp2_with (first
      | (go_at_call 18; (with_reducible refine hln.out.mono ?_); rintro e w2 ⟨rfl, rfl⟩)
      | (go_at_call 30; (with_reducible refine (hft.out _).mono ?_); rintro e w3 ⟨rfl, rfl⟩))
    go_ret2
    exact ⟨none, 0, rfl, WRow.nil _ _ _, Below.refl _ _⟩
end Go.Proofs.Ytgbhhmmllbanlaa
