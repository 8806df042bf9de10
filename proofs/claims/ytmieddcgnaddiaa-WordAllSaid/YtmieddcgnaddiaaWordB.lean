/-
  Walks over package word, the second part.
-/
import Derived.Test.YtmieddcgnaddiaaWordA
namespace Go.Proofs.Ytmieddcgnaddiaa
open Go.RowKit

set_option maxHeartbeats 1000000 in
theorem compare_any (op : Int) (B S : Bool) (W a b : Int) (w : World) (ha : isw B S W a = true) (hb : isw B S W b = true) :
    Calls Try.prog 33 #[.int .i64 op, .agg #[.bool B, .bool S, .int .i64 W], .int .u64 a, .int .u64 b] w fun e w' => e = .returned (.int .u64 (bit (cmpB op S W a b))) ∧ Below w.heap.size w w' := by
  go_enter Try.func33, Try.ntmps33
  go_wp2_with (go_at_call 41; refine (less_any _ _ _ _ _ _ (by assumption) (by assumption)).mono ?_; rintro e w1 ⟨rfl, hb1⟩)
  all_goals go_ret
  all_goals refine ⟨ret_int (by simp [bit, cmpB, *]), ?_⟩
  all_goals first
    | exact (((Below.refl _ _).alloc (Nat.le_refl _) _).trans (hb1.mono (by simp)))
    | exact (Below.refl _ _).alloc (Nat.le_refl _) _

set_option maxHeartbeats 1000000 in
theorem two_any (op : Int) (B S : Bool) (W a b : Int) (w : World) :
    Calls Try.prog 18 #[.int .i64 op, .agg #[.bool B, .bool S, .int .i64 W], .int .u64 a, .int .u64 b] w fun e w' => e = .returned (.tuple #[.int .u64 (twoV op B S W a b), .int .i64 (twoE op B S W a b)]) ∧ Below w.heap.size w w' := by
  by_cases hm : mayTwo op B = true
  · by_cases ha : isw B S W a = true
    · by_cases hb : isw B S W b = true
      · by_cases h7 : 7 ≤ op
        · have hfin : Hid (twoV op B S W a b = bit (cmpB op S W a b) ∧ twoE op B S W a b = 0) := by
            have e2 : twoOk op B S W a b = true := by simp [twoOk, hm, ha, hb]
            exact ⟨by unfold twoV; rw [if_pos e2, if_pos h7], by unfold twoE; rw [if_pos e2]⟩
          go_enter Try.func18, Try.ntmps18
          go_wp2_with (first
            | (go_at_call 32; refine (mayTwo_any _ _ _ _ _).mono ?_; rintro e w2 ⟨rfl, hb2⟩; have hn := box3 (T := 23) hb2; clear hb2; obtain ⟨hB, hz, c0, c1, c2⟩ := hn)
            | (go_at_call 15; refine (isw_any _ _ _ _ _).mono ?_; rintro e w2 ⟨rfl, hb2⟩; have hn := step3 hB hz (by omega) c0 c1 c2 hb2; clear hB hz c0 c1 c2 hb2; obtain ⟨hB, hz, c0, c1, c2⟩ := hn)
            | (go_at_call 33; refine (compare_any _ _ _ _ _ _ _ ha hb).mono ?_; rintro e w2 ⟨rfl, hb2⟩; have hB3 := nextb hB (by omega) hb2; clear hB))
          go_ret2
          exact ⟨ret_int2 hfin.out.1.symm hfin.out.2.symm, hB3⟩
        · have hfin : Hid (twoV op B S W a b = cut B S W (comb op a b) ∧ twoE op B S W a b = 0) := by
            have e2 : twoOk op B S W a b = true := by simp [twoOk, hm, ha, hb]
            exact ⟨by unfold twoV; rw [if_pos e2, if_neg h7], by unfold twoE; rw [if_pos e2]⟩
          go_enter Try.func18, Try.ntmps18
          go_wp2_with (first
            | (go_at_call 32; refine (mayTwo_any _ _ _ _ _).mono ?_; rintro e w2 ⟨rfl, hb2⟩; have hn := box3 (T := 23) hb2; clear hb2; obtain ⟨hB, hz, c0, c1, c2⟩ := hn)
            | (go_at_call 15; refine (isw_any _ _ _ _ _).mono ?_; rintro e w2 ⟨rfl, hb2⟩; have hn := step3 hB hz (by omega) c0 c1 c2 hb2; clear hB hz c0 c1 c2 hb2; obtain ⟨hB, hz, c0, c1, c2⟩ := hn)
            | (go_at_call 33; refine (compare_any _ _ _ _ _ _ _ ha hb).mono ?_; rintro e w2 ⟨rfl, hb2⟩; have hB3 := nextb hB (by omega) hb2; clear hB))
          have hx := ext3 (by omega) c0 c1 c2
          obtain ⟨x0, x1, x2⟩ := hx
          (refine wp_region_ext (by kernel_rfl) (by kernel_rfl) ?_; (repeat (go_big_quiet_step ((first | (go_at_call 34; exact Calls.ext_of (comb_any _ _ _ _)) | (go_at_call 14; exact Calls.ext_of (cut_any _ _ _ _ _)))))); refine wpQuiet_nil ?_; intro w2 hw'; have hb2 := below_of_ext hw'; clear hw')
          go_wp2
          go_ret2
          exact ⟨ret_int2 hfin.out.1.symm hfin.out.2.symm, nextb hB (by omega) hb2⟩
      · have hfin : Hid (twoV op B S W a b = 0 ∧ twoE op B S W a b = 1) := by
          have e2 : twoOk op B S W a b = false := by simp [twoOk, hb]
          exact ⟨by unfold twoV; rw [e2]; rfl, by unfold twoE; rw [e2]; rfl⟩
        simp at hb
        go_enter Try.func18, Try.ntmps18
        go_wp2_with (first
            | (go_at_call 32; refine (mayTwo_any _ _ _ _ _).mono ?_; rintro e w2 ⟨rfl, hb2⟩; have hn := box3 (T := 23) hb2; clear hb2; obtain ⟨hB, hz, c0, c1, c2⟩ := hn)
            | (go_at_call 15; refine (isw_any _ _ _ _ _).mono ?_; rintro e w2 ⟨rfl, hb2⟩; have hn := step3 hB hz (by omega) c0 c1 c2 hb2; clear hB hz c0 c1 c2 hb2; obtain ⟨hB, hz, c0, c1, c2⟩ := hn)
            | (go_at_call 33; refine (compare_any _ _ _ _ _ _ _ ha hb).mono ?_; rintro e w2 ⟨rfl, hb2⟩; have hB3 := nextb hB (by omega) hb2; clear hB))
        go_ret2
        exact ⟨ret_int2 hfin.out.1.symm hfin.out.2.symm, hB⟩
    · have hfin : Hid (twoV op B S W a b = 0 ∧ twoE op B S W a b = 1) := by
        have e2 : twoOk op B S W a b = false := by simp [twoOk, ha]
        exact ⟨by unfold twoV; rw [e2]; rfl, by unfold twoE; rw [e2]; rfl⟩
      simp at ha
      go_enter Try.func18, Try.ntmps18
      go_wp2_with (first
            | (go_at_call 32; refine (mayTwo_any _ _ _ _ _).mono ?_; rintro e w2 ⟨rfl, hb2⟩; have hn := box3 (T := 23) hb2; clear hb2; obtain ⟨hB, hz, c0, c1, c2⟩ := hn)
            | (go_at_call 15; refine (isw_any _ _ _ _ _).mono ?_; rintro e w2 ⟨rfl, hb2⟩; have hn := step3 hB hz (by omega) c0 c1 c2 hb2; clear hB hz c0 c1 c2 hb2; obtain ⟨hB, hz, c0, c1, c2⟩ := hn)
            | (go_at_call 33; refine (compare_any _ _ _ _ _ _ _ ha hb).mono ?_; rintro e w2 ⟨rfl, hb2⟩; have hB3 := nextb hB (by omega) hb2; clear hB))
      go_ret2
      exact ⟨ret_int2 hfin.out.1.symm hfin.out.2.symm, hB⟩
  · have hfin : Hid (twoV op B S W a b = 0 ∧ twoE op B S W a b = 1) := by
      have e2 : twoOk op B S W a b = false := by simp [twoOk, hm]
      exact ⟨by unfold twoV; rw [e2]; rfl, by unfold twoE; rw [e2]; rfl⟩
    simp at hm
    go_enter Try.func18, Try.ntmps18
    go_wp2_with (first
            | (go_at_call 32; refine (mayTwo_any _ _ _ _ _).mono ?_; rintro e w2 ⟨rfl, hb2⟩; have hn := box3 (T := 23) hb2; clear hb2; obtain ⟨hB, hz, c0, c1, c2⟩ := hn)
            | (go_at_call 15; refine (isw_any _ _ _ _ _).mono ?_; rintro e w2 ⟨rfl, hb2⟩; have hn := step3 hB hz (by omega) c0 c1 c2 hb2; clear hB hz c0 c1 c2 hb2; obtain ⟨hB, hz, c0, c1, c2⟩ := hn)
            | (go_at_call 33; refine (compare_any _ _ _ _ _ _ _ ha hb).mono ?_; rintro e w2 ⟨rfl, hb2⟩; have hB3 := nextb hB (by omega) hb2; clear hB))
    go_ret2
    exact ⟨ret_int2 hfin.out.1.symm hfin.out.2.symm, hB⟩

set_option maxHeartbeats 1000000 in
theorem shift_any (B S : Bool) (W a k : Int) (w : World) :
    Calls Try.prog 20 #[.agg #[.bool B, .bool S, .int .i64 W], .int .u64 a, .int .i64 k] w fun e w' => e = .returned (.tuple #[.int .u64 (shV B S W a k), .int .i64 (shE B S W a k)]) ∧ Below w.heap.size w w' := by
  cases B
  · by_cases ha : isw false S W a = true
    · by_cases hk : -63 ≤ k ∧ k ≤ 63
      · by_cases h0 : 0 ≤ k
        · have hfin : Hid (shV false S W a k = cut false S W (IntKind.u64.wrap (a * 2 ^ k.toNat)) ∧ shE false S W a k = 0) := by
            have e2 : shOk false S W a k = true := by simp [shOk, ha, hk]
            refine ⟨?_, by unfold shE; rw [if_pos e2]⟩
            unfold shV; rw [if_pos e2]; rw [if_pos h0]
          obtain ⟨hk1, hk2⟩ := hk
          go_enter Try.func20, Try.ntmps20
          go_wp2_with (first
            | (go_at_call 15; refine (isw_any _ _ _ _ _).mono ?_; rintro e w2 ⟨rfl, hb2⟩; have hn := box3 (T := 23) hb2; clear hb2; obtain ⟨hB, hz, c0, c1, c2⟩ := hn))
          obtain ⟨x0, x1, x2⟩ := ext3 (by omega) c0 c1 c2
          (refine wp_region_ext (by kernel_rfl) (by kernel_rfl) ?_; (repeat (go_big_quiet_step ((first | (go_at_call 35; exact Calls.ext_of (wide_any _ _ _ _ _ (by assumption))) | (go_at_call 14; exact Calls.ext_of (cut_any _ _ _ _ _)))))); refine wpQuiet_nil ?_; intro w2 hw'; have hb2 := below_of_ext hw'; clear hw')
          go_wp2
          go_ret2
          exact ⟨ret_int2 hfin.out.1.symm hfin.out.2.symm, nextb hB (by omega) hb2⟩
        · cases S
          · have hfin : Hid (shV false false W a k = a / 2 ^ (-k).toNat ∧ shE false false W a k = 0) := by
              have e2 : shOk false false W a k = true := by simp [shOk, ha, hk]
              refine ⟨?_, by unfold shE; rw [if_pos e2]⟩
              unfold shV; rw [if_pos e2]; rw [if_neg h0]; rfl
            obtain ⟨hk1, hk2⟩ := hk
            go_enter Try.func20, Try.ntmps20
            go_wp2_with (first
            | (go_at_call 15; refine (isw_any _ _ _ _ _).mono ?_; rintro e w2 ⟨rfl, hb2⟩; have hn := box3 (T := 23) hb2; clear hb2; obtain ⟨hB, hz, c0, c1, c2⟩ := hn))
            go_ret2
            exact ⟨ret_int2 hfin.out.1.symm hfin.out.2.symm, hB⟩
          · have hfin : Hid (shV false true W a k = cut false true W (IntKind.u64.wrap (wrap64 (wide true W a) / 2 ^ (-k).toNat)) ∧ shE false true W a k = 0) := by
              have e2 : shOk false true W a k = true := by simp [shOk, ha, hk]
              refine ⟨?_, by unfold shE; rw [if_pos e2]⟩
              unfold shV; rw [if_pos e2]; rw [if_neg h0, if_pos rfl, ← IntWalk.i64_left, wide_i64 ha rfl]
            obtain ⟨hk1, hk2⟩ := hk
            go_enter Try.func20, Try.ntmps20
            go_wp2_with (first
            | (go_at_call 15; refine (isw_any _ _ _ _ _).mono ?_; rintro e w2 ⟨rfl, hb2⟩; have hn := box3 (T := 23) hb2; clear hb2; obtain ⟨hB, hz, c0, c1, c2⟩ := hn))
            obtain ⟨x0, x1, x2⟩ := ext3 (by omega) c0 c1 c2
            (refine wp_region_ext (by kernel_rfl) (by kernel_rfl) ?_; (repeat (go_big_quiet_step ((first | (go_at_call 35; exact Calls.ext_of (wide_any _ _ _ _ _ (by assumption))) | (go_at_call 14; exact Calls.ext_of (cut_any _ _ _ _ _)))))); refine wpQuiet_nil ?_; intro w2 hw'; have hb2 := below_of_ext hw'; clear hw')
            go_wp2
            go_ret2
            exact ⟨ret_int2 hfin.out.1.symm hfin.out.2.symm, nextb hB (by omega) hb2⟩
      · have hfin : Hid (shV false S W a k = 0 ∧ shE false S W a k = 1) := by
          have e2 : shOk false S W a k = false := by simp [shOk]; omega
          exact ⟨by unfold shV; rw [e2]; rfl, by unfold shE; rw [e2]; rfl⟩
        have hk2 : k < -63 ∨ 63 < k := by omega
        clear hk
        rcases hk2 with hk2 | hk2
        all_goals go_enter Try.func20, Try.ntmps20
        all_goals go_wp2_with (first
            | (go_at_call 15; refine (isw_any _ _ _ _ _).mono ?_; rintro e w2 ⟨rfl, hb2⟩; have hn := box3 (T := 23) hb2; clear hb2; obtain ⟨hB, hz, c0, c1, c2⟩ := hn))
        all_goals go_ret2
        all_goals exact ⟨ret_int2 hfin.out.1.symm hfin.out.2.symm, hB⟩
    · have hfin : Hid (shV false S W a k = 0 ∧ shE false S W a k = 1) := by
        have e2 : shOk false S W a k = false := by simp [shOk, ha]
        exact ⟨by unfold shV; rw [e2]; rfl, by unfold shE; rw [e2]; rfl⟩
      simp at ha
      go_enter Try.func20, Try.ntmps20
      go_wp2_with (first
            | (go_at_call 15; refine (isw_any _ _ _ _ _).mono ?_; rintro e w2 ⟨rfl, hb2⟩; have hn := box3 (T := 23) hb2; clear hb2; obtain ⟨hB, hz, c0, c1, c2⟩ := hn))
      go_ret2
      exact ⟨ret_int2 hfin.out.1.symm hfin.out.2.symm, hB⟩
  · have hfin : Hid (shV true S W a k = 0 ∧ shE true S W a k = 1) := ⟨by simp [shV, shOk], by simp [shE, shOk]⟩
    go_enter Try.func20, Try.ntmps20
    go_wp2
    go_ret2
    exact ⟨ret_int2 hfin.out.1.symm hfin.out.2.symm, (Below.refl _ _).alloc (Nat.le_refl _) _⟩

set_option maxHeartbeats 1000000 in
theorem conv_any (B S : Bool) (W : Int) (B' S' : Bool) (W' : Int) (a : Int) (w : World) :
    Calls Try.prog 21 #[.agg #[.bool B, .bool S, .int .i64 W], .agg #[.bool B', .bool S', .int .i64 W'], .int .u64 a] w fun e w' => e = .returned (.tuple #[.int .u64 (coV B S W B' S' W' a), .int .i64 (coE B S W B' S' W' a)]) ∧ Below w.heap.size w w' := by
  have hfin : Hid (∀ h : coOk B S W B' S' W' a = false, coV B S W B' S' W' a = 0 ∧ coE B S W B' S' W' a = 1) := by
    intro h; exact ⟨by unfold coV; rw [h]; rfl, by unfold coE; rw [h]; rfl⟩
  by_cases ha : isw B S W a = true
  · by_cases hm : may B' S' W' = true
    · by_cases hB' : (!B' || B) = true
      · have hfin : Hid (coV B S W B' S' W' a = cut B' S' W' (wide S W a) ∧ coE B S W B' S' W' a = 0) := by
          have e2 : coOk B S W B' S' W' a = true := by simp [coOk, ha, hm]; simpa using hB'
          exact ⟨by unfold coV; rw [if_pos e2], by unfold coE; rw [if_pos e2]⟩
        cases B' <;> cases B <;> simp at hB'
        all_goals go_enter Try.func21, Try.ntmps21
        all_goals go_wp2_with (first
          | (go_at_call 15; refine (isw_any _ _ _ _ _).mono ?_; rintro e w2 ⟨rfl, hb2⟩; have hn := box33 (T := 23) hb2; clear hb2; obtain ⟨hB, hz, c0, c1, c2, d0, d1, d2⟩ := hn)
          | (go_at_call 23; refine (may_any _ _ _ _).mono ?_; rintro e w2 ⟨rfl, hb2⟩; have hn := step3 hB hz (by omega) c0 c1 c2 hb2; have hn' := step3 hB hz (by omega) d0 d1 d2 hb2; clear hB hz c0 c1 c2 d0 d1 d2 hb2; obtain ⟨hB, hz, c0, c1, c2⟩ := hn; obtain ⟨-, -, d0, d1, d2⟩ := hn'))
        all_goals have hx := ext3 (by omega) c0 c1 c2
        all_goals have hy := ext3 (by omega) d0 d1 d2
        all_goals obtain ⟨x0, x1, x2⟩ := hx
        all_goals obtain ⟨y0, y1, y2⟩ := hy
        all_goals ((refine wp_region_ext (by kernel_rfl) (by kernel_rfl) ?_; (repeat (go_big_quiet_step ((first | (go_at_call 35; exact Calls.ext_of (wide_any _ _ _ _ _ (by assumption))) | (go_at_call 14; exact Calls.ext_of (cut_any _ _ _ _ _)))))); refine wpQuiet_nil ?_; intro w2 hw'; have hb2 := below_of_ext hw'; clear hw'))
        all_goals go_wp2
        all_goals go_ret2
        all_goals exact ⟨ret_int2 hfin.out.1.symm hfin.out.2.symm, nextb hB (by omega) hb2⟩
      · have hfin := Lib.hid (hfin.out (by simp [coOk, ha, hm]; simpa using hB'))
        cases B' <;> cases B <;> simp at hB'
        go_enter Try.func21, Try.ntmps21
        go_wp2_with (first
          | (go_at_call 15; refine (isw_any _ _ _ _ _).mono ?_; rintro e w2 ⟨rfl, hb2⟩; have hn := box33 (T := 23) hb2; clear hb2; obtain ⟨hB, hz, c0, c1, c2, d0, d1, d2⟩ := hn)
          | (go_at_call 23; refine (may_any _ _ _ _).mono ?_; rintro e w2 ⟨rfl, hb2⟩; have hn := step3 hB hz (by omega) c0 c1 c2 hb2; have hn' := step3 hB hz (by omega) d0 d1 d2 hb2; clear hB hz c0 c1 c2 d0 d1 d2 hb2; obtain ⟨hB, hz, c0, c1, c2⟩ := hn; obtain ⟨-, -, d0, d1, d2⟩ := hn'))
        go_ret2
        exact ⟨ret_int2 hfin.out.1.symm hfin.out.2.symm, hB⟩
    · have hfin := Lib.hid (hfin.out (by simp [coOk, ha, hm]))
      simp at hm
      go_enter Try.func21, Try.ntmps21
      go_wp2_with (first
          | (go_at_call 15; refine (isw_any _ _ _ _ _).mono ?_; rintro e w2 ⟨rfl, hb2⟩; have hn := box33 (T := 23) hb2; clear hb2; obtain ⟨hB, hz, c0, c1, c2, d0, d1, d2⟩ := hn)
          | (go_at_call 23; refine (may_any _ _ _ _).mono ?_; rintro e w2 ⟨rfl, hb2⟩; have hn := step3 hB hz (by omega) c0 c1 c2 hb2; have hn' := step3 hB hz (by omega) d0 d1 d2 hb2; clear hB hz c0 c1 c2 d0 d1 d2 hb2; obtain ⟨hB, hz, c0, c1, c2⟩ := hn; obtain ⟨-, -, d0, d1, d2⟩ := hn'))
      go_ret2
      exact ⟨ret_int2 hfin.out.1.symm hfin.out.2.symm, hB⟩
  · have hfin := Lib.hid (hfin.out (by simp [coOk, ha]))
    simp at ha
    go_enter Try.func21, Try.ntmps21
    go_wp2_with (first
          | (go_at_call 15; refine (isw_any _ _ _ _ _).mono ?_; rintro e w2 ⟨rfl, hb2⟩; have hn := box33 (T := 23) hb2; clear hb2; obtain ⟨hB, hz, c0, c1, c2, d0, d1, d2⟩ := hn)
          | (go_at_call 23; refine (may_any _ _ _ _).mono ?_; rintro e w2 ⟨rfl, hb2⟩; have hn := step3 hB hz (by omega) c0 c1 c2 hb2; have hn' := step3 hB hz (by omega) d0 d1 d2 hb2; clear hB hz c0 c1 c2 d0 d1 d2 hb2; obtain ⟨hB, hz, c0, c1, c2⟩ := hn; obtain ⟨-, -, d0, d1, d2⟩ := hn'))
    go_ret2
    exact ⟨ret_int2 hfin.out.1.symm hfin.out.2.symm, hB⟩

set_option maxHeartbeats 1000000 in
theorem neutral_any (op : Int) (B S : Bool) (W : Int) (w : World) :
    Calls Try.prog 29 #[.int .i64 op, .agg #[.bool B, .bool S, .int .i64 W]] w fun e w' => e = .returned (.tuple #[.int .u64 (neutV op B S W), .bool (neutOk op)]) ∧ Below w.heap.size w w' := by
  go_enter Try.func29, Try.ntmps29
  go_wp2_with (go_at_call 14; refine (cut_any _ _ _ _ _).mono ?_; rintro e w1 ⟨rfl, hb1⟩)
  all_goals go_ret2
  all_goals refine ⟨ret_intb (by simp [neutV, *]) (by simp [neutOk, *]), ?_⟩
  all_goals first
    | exact (((Below.refl _ _).alloc (Nat.le_refl _) _).trans (hb1.mono (by simp)))
    | exact (Below.refl _ _).alloc (Nat.le_refl _) _

end Go.Proofs.Ytmieddcgnaddiaa
