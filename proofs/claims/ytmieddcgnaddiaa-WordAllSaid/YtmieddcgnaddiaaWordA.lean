/-
  Walks over package word.
-/
import Derived.Test.YtmieddcgnaddiaaExt
import Derived.Test.YtmieddcgnaddiaaWordM
namespace Go.Proofs.Ytmieddcgnaddiaa
open Go.RowKit

set_option maxHeartbeats 400000 in
theorem may_any (B S : Bool) (W : Int) (w : World) :
    Calls Try.prog 23 #[.agg #[.bool B, .bool S, .int .i64 W]] w fun e w' => e = .returned (.bool (may B S W)) ∧ Below w.heap.size w w' := by
  go_enter Try.func23, Try.ntmps23
  go_wp2
  all_goals (go_ret; refine ⟨?_, (Below.refl _ _).alloc (Nat.le_refl _) _⟩; simp [may, *]; try omega)

set_option maxHeartbeats 400000 in
theorem cut_any (B S : Bool) (W n : Int) (w : World) :
    Calls Try.prog 14 #[.agg #[.bool B, .bool S, .int .i64 W], .int .u64 n] w fun e w' => e = .returned (.int .u64 (cut B S W n)) ∧ Below w.heap.size w w' := by
  by_cases hm : may B S W = true
  · have hbd := may_bounds hm
    have hfin : Hid (cut B S W n = IntKind.u64.wrap (n * 2 ^ (64 - W).toNat) / 2 ^ (64 - W).toNat) := by show _ = _; rw [shl_shr n W hbd]; unfold cut; rw [if_pos hm]
    go_enter Try.func14, Try.ntmps14
    go_wp2_with (go_at_call 23; refine (may_any _ _ _ _).mono ?_; rintro e w1 ⟨rfl, hb⟩; obtain ⟨hc, hf⟩ := bcell hb)
    go_ret
    exact ⟨ret_int hfin.out.symm, ((Below.refl _ _).alloc (Nat.le_refl _) _).trans (hb.mono (by simp))⟩
  · simp at hm
    have hfin : Hid (cut B S W n = 0) := by show _ = _; unfold cut; rw [if_neg (by simp [hm])]
    go_enter Try.func14, Try.ntmps14
    go_wp2_with (go_at_call 23; refine (may_any _ _ _ _).mono ?_; rintro e w1 ⟨rfl, hb⟩; obtain ⟨hc, hf⟩ := bcell hb)
    go_ret
    exact ⟨ret_int hfin.out.symm, ((Below.refl _ _).alloc (Nat.le_refl _) _).trans (hb.mono (by simp))⟩

set_option maxHeartbeats 400000 in
theorem isw_any (B S : Bool) (W n : Int) (w : World) :
    Calls Try.prog 15 #[.agg #[.bool B, .bool S, .int .i64 W], .int .u64 n] w fun e w' => e = .returned (.bool (isw B S W n)) ∧ Below w.heap.size w w' := by
  by_cases hm : may B S W = true
  · have hfin : Hid (isw B S W n = (cut B S W n == n)) := by show _ = _; unfold isw; rw [hm]; rfl
    go_enter Try.func15, Try.ntmps15
    go_wp2_with (first | (go_at_call 23; refine (may_any _ _ _ _).mono ?_; rintro e w1 ⟨rfl, hb⟩; obtain ⟨hc, hf⟩ := bcell hb) | (go_at_call 14; refine (cut_any _ _ _ _ _).mono ?_; rintro e w2 ⟨rfl, hb2⟩))
    go_ret
    exact ⟨ret_bool hfin.out.symm, (((Below.refl _ _).alloc (Nat.le_refl _) _).trans (hb.mono (by simp))).trans (hb2.mono (by have := hb.size; simp at this; omega))⟩
  · simp at hm
    have hfin : Hid (isw B S W n = false) := by show _ = _; unfold isw; rw [hm]; rfl
    go_enter Try.func15, Try.ntmps15
    go_wp2_with (first | (go_at_call 23; refine (may_any _ _ _ _).mono ?_; rintro e w1 ⟨rfl, hb⟩; obtain ⟨hc, hf⟩ := bcell hb))
    go_ret
    exact ⟨ret_bool hfin.out.symm, ((Below.refl _ _).alloc (Nat.le_refl _) _).trans (hb.mono (by simp))⟩

set_option maxHeartbeats 400000 in
theorem wide_any (B S : Bool) (W a : Int) (w : World) (hi : isw B S W a = true) :
    Calls Try.prog 35 #[.agg #[.bool B, .bool S, .int .i64 W], .int .u64 a] w fun e w' => e = .returned (.int .u64 (wide S W a)) ∧ Below w.heap.size w w' := by
  obtain ⟨h1, h2, -⟩ := isw_bd hi
  cases S
  · clear hi
    go_enter Try.func35, Try.ntmps35
    go_wp2
    go_ret
    exact ⟨rfl, ((Below.refl _ _).alloc (Nat.le_refl _) _)⟩
  · have hr := Lib.hid (wide_raw hi rfl)
    clear hi
    go_enter Try.func35, Try.ntmps35
    go_wp2
    go_ret
    exact ⟨ret_int (by rw [← IntWalk.i64_left, hr.out]; rfl), ((Below.refl _ _).alloc (Nat.le_refl _) _)⟩


set_option maxHeartbeats 400000 in
theorem value_any (B S : Bool) (W a : Int) (w : World) :
    Calls Try.prog 19 #[.agg #[.bool B, .bool S, .int .i64 W], .int .u64 a] w fun e w' => e = .returned (.tuple #[.int .i64 (valV B S W a), .bool (valOk B S W a)]) ∧ Below w.heap.size w w' := by
  by_cases hi : isw B S W a = true
  · cases S
    · by_cases hx : a ≤ 9223372036854775807
      · have hfin : Hid (valV B false W a = wrap64 (wide false W a) ∧ valOk B false W a = true) := by
          have hbd := isw_bd hi
          have e2 : valOk B false W a = true := by simp [valOk, hi, hx]
          refine ⟨?_, e2⟩
          rw [← IntWalk.i64_left]
          unfold valV; rw [if_pos e2]
          show a = IntKind.i64.wrap a
          rw [IntWalk.i64_in a (by omega)]
        go_enter Try.func19, Try.ntmps19
        go_wp2_with (first
          | (go_at_call 15; refine (isw_any _ _ _ _ _).mono ?_; rintro e w1 ⟨rfl, hb⟩; obtain ⟨hc, hf⟩ := bcell hb)
          | (go_at_call 35; refine (wide_any _ _ _ _ _ hi).mono ?_; rintro e w2 ⟨rfl, hb2⟩))
        go_ret2
        exact ⟨ret_intb hfin.out.1.symm hfin.out.2.symm, (((Below.refl _ _).alloc (Nat.le_refl _) _).trans (hb.mono (by simp))).trans (hb2.mono (by have := hb.size; simp at this; omega))⟩
      · have hfin : Hid (valV B false W a = 0 ∧ valOk B false W a = false) := by
          have e2 : valOk B false W a = false := by simp [valOk, hi]; omega
          refine ⟨?_, e2⟩
          unfold valV; simp [e2]
        go_enter Try.func19, Try.ntmps19
        go_wp2_with (first
          | (go_at_call 15; refine (isw_any _ _ _ _ _).mono ?_; rintro e w1 ⟨rfl, hb⟩; obtain ⟨hc, hf⟩ := bcell hb))
        go_ret2
        exact ⟨ret_intb hfin.out.1.symm hfin.out.2.symm, (((Below.refl _ _).alloc (Nat.le_refl _) _).trans (hb.mono (by simp)))⟩
    · have hfin : Hid (valV B true W a = wrap64 (wide true W a) ∧ valOk B true W a = true) := by
        have e2 : valOk B true W a = true := by simp [valOk, hi]
        refine ⟨?_, e2⟩
        rw [← IntWalk.i64_left, wide_i64 hi rfl]
        unfold valV; rw [if_pos e2]
      go_enter Try.func19, Try.ntmps19
      go_wp2_with (first
          | (go_at_call 15; refine (isw_any _ _ _ _ _).mono ?_; rintro e w1 ⟨rfl, hb⟩; obtain ⟨hc, hf⟩ := bcell hb)
          | (go_at_call 35; refine (wide_any _ _ _ _ _ hi).mono ?_; rintro e w2 ⟨rfl, hb2⟩))
      go_ret2
      exact ⟨ret_intb hfin.out.1.symm hfin.out.2.symm, (((Below.refl _ _).alloc (Nat.le_refl _) _).trans (hb.mono (by simp))).trans (hb2.mono (by have := hb.size; simp at this; omega))⟩
  · have hfin : Hid (valV B S W a = 0 ∧ valOk B S W a = false) := by
      have e2 : valOk B S W a = false := by simp [valOk, hi]
      refine ⟨?_, e2⟩
      unfold valV; simp [e2]
    simp at hi
    go_enter Try.func19, Try.ntmps19
    go_wp2_with (first
          | (go_at_call 15; refine (isw_any _ _ _ _ _).mono ?_; rintro e w1 ⟨rfl, hb⟩; obtain ⟨hc, hf⟩ := bcell hb))
    go_ret2
    exact ⟨ret_intb hfin.out.1.symm hfin.out.2.symm, (((Below.refl _ _).alloc (Nat.le_refl _) _).trans (hb.mono (by simp)))⟩

set_option maxHeartbeats 400000 in
theorem comb_any (op : Int) (a b : Int) (w : World) :
    Calls Try.prog 34 #[.int .i64 op, .int .u64 a, .int .u64 b] w fun e w' => e = .returned (.int .u64 (comb op a b)) ∧ Below w.heap.size w w' := by
  go_enter Try.func34, Try.ntmps34
  go_wp2
  all_goals go_ret
  all_goals exact ⟨ret_int (by simp [comb, *]), Below.refl _ _⟩

set_option maxHeartbeats 400000 in
theorem mayTwo_any (op : Int) (B S : Bool) (W : Int) (w : World) :
    Calls Try.prog 32 #[.int .i64 op, .agg #[.bool B, .bool S, .int .i64 W]] w fun e w' => e = .returned (.bool (mayTwo op B)) ∧ Below w.heap.size w w' := by
  go_enter Try.func32, Try.ntmps32
  go_wp2
  all_goals go_ret
  all_goals exact ⟨ret_bool (by simp [mayTwo, *]), (Below.refl _ _).alloc (Nat.le_refl _) _⟩

set_option maxHeartbeats 400000 in
theorem one_any (op : Int) (B S : Bool) (W a : Int) (w : World) :
    Calls Try.prog 17 #[.int .i64 op, .agg #[.bool B, .bool S, .int .i64 W], .int .u64 a] w fun e w' => e = .returned (.tuple #[.int .u64 (oneV op B S W a), .int .i64 (oneE op B S W a)]) ∧ Below w.heap.size w w' := by
  by_cases hi : isw B S W a = true
  · go_enter Try.func17, Try.ntmps17
    go_wp2_with (first
          | (go_at_call 15; refine (isw_any _ _ _ _ _).mono ?_; rintro e w1 ⟨rfl, hb⟩; obtain ⟨hc, hf⟩ := bcell hb)
          | (go_at_call 14; refine (cut_any _ _ _ _ _).mono ?_; rintro e w2 ⟨rfl, hb2⟩))
    all_goals go_ret2
    all_goals clear hc hf
    all_goals refine ⟨ret_int2 (by simp [oneV, oneOk, *]) (by simp [oneE, oneOk, *]), ?_⟩
    all_goals first
      | exact (((Below.refl _ _).alloc (Nat.le_refl _) _).trans (hb.mono (by simp))).trans (hb2.mono (by have := hb.size; simp at this; omega))
      | exact (((Below.refl _ _).alloc (Nat.le_refl _) _).trans (hb.mono (by simp)))
  · simp at hi
    go_enter Try.func17, Try.ntmps17
    go_wp2_with (first
          | (go_at_call 15; refine (isw_any _ _ _ _ _).mono ?_; rintro e w1 ⟨rfl, hb⟩; obtain ⟨hc, hf⟩ := bcell hb))
    go_ret2
    exact ⟨ret_int2 (by simp [oneV, oneOk, hi]) (by simp [oneE, oneOk, hi]), (((Below.refl _ _).alloc (Nat.le_refl _) _).trans (hb.mono (by simp)))⟩

set_option maxHeartbeats 400000 in
theorem less_any (B S : Bool) (W a b : Int) (w : World) (ha : isw B S W a = true) (hb : isw B S W b = true) :
    Calls Try.prog 41 #[.agg #[.bool B, .bool S, .int .i64 W], .int .u64 a, .int .u64 b] w fun e w' => e = .returned (.bool (lessB S W a b)) ∧ Below w.heap.size w w' := by
  cases S
  · go_enter Try.func41, Try.ntmps41
    go_wp2
    go_ret
    exact ⟨ret_bool (by simp [lessB, sval]), (Below.refl _ _).alloc (Nat.le_refl _) _⟩
  · have hfin : Hid (lessB true W a b = decide (wrap64 (wide true W a) < wrap64 (wide true W b))) := by
      show _ = _
      rw [← IntWalk.i64_left, ← IntWalk.i64_left, wide_i64 ha rfl, wide_i64 hb rfl]; rfl
    have hx : ∀ x o, (ext (w.alloc (.cells #[.bool B, .bool true, .int .i64 W] 23)) x).cell? ⟨w.heap.size, o, none⟩ = (w.alloc (.cells #[.bool B, .bool true, .int .i64 W] 23)).cell? ⟨w.heap.size, o, none⟩ := fun x o => ext_cell _ x _ _ (by simp)
    go_enter Try.func41, Try.ntmps41
    go_wp2
    refine wp_region_ext (by kernel_rfl) (by kernel_rfl) ?_
    repeat (go_big_quiet_step ((go_at_call 35; exact Calls.ext_of (wide_any _ _ _ _ _ (by assumption)))))
    refine wpQuiet_nil ?_
    intro _ hw'
    obtain ⟨nq, hw''⟩ := hw'
    subst hw''
    go_wp2
    go_ret
    exact ⟨ret_bool hfin.out.symm, ((Below.refl _ _).alloc (Nat.le_refl _) _).trans ((ext_below _ _).mono (by simp))⟩

end Go.Proofs.Ytmieddcgnaddiaa
