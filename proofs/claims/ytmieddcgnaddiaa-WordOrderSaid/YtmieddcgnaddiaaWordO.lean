/-
  The walk over WordOrder.
-/
import Derived.Test.YtmieddcgnaddiaaWordN
namespace Go.Proofs.Ytmieddcgnaddiaa
open Go.RowKit

set_option maxRecDepth 100000 in
set_option maxHeartbeats 4000000 in
theorem order_num (S : Bool) (W n0 n1 n2 : Int) (w : World) :
    Calls Try.prog 5 #[.agg #[.bool false, .bool S, .int .i64 W], .agg #[.int .u64 n0, .int .u64 n1, .int .u64 n2]] w fun e w' => e = .returned (.bool true) ∧ Below w.heap.size w w' := by
  obtain ⟨S', W', hm, hmade0⟩ := made_ex false S W
  obtain ⟨a, ha, hcut00⟩ := cut_ex false S' W' n0 hm
  obtain ⟨b, hb, hcut10⟩ := cut_ex false S' W' n1 hm
  obtain ⟨c, hc, hcut20⟩ := cut_ex false S' W' n2 hm
  have hmade := Lib.hid hmade0
  have hcut0 := Lib.hid hcut00
  have hcut1 := Lib.hid hcut10
  have hcut2 := Lib.hid hcut20
  clear hmade0 hcut00 hcut10 hcut20
  have hO := order_of ha hb hc
  rcases order_three ha hb with ⟨rfl, h1, h2⟩ | ⟨h0, h1, h2⟩ | ⟨h0, h1, h2⟩
  · simp only [bne_self_eq_false, beq_self_eq_true, h1, Bool.not_false] at hO
    obtain ⟨e1, e2, e3, e4, e5, e6, e7, e8, e9⟩ := hO
    simp only [bit, if_true, if_false, Bool.false_eq_true] at e1 e2 e3 e4 e5 e6 e7 e8 e9
    clear h1 h2
    have hv : (valOk false S' W' a = true ∧ (decide (valV false S' W' a < valV false S' W' a)) = false) ∨ valOk false S' W' a = false := by
      by_cases h : valOk false S' W' a = true
      · exact .inl ⟨h, by simp⟩
      · exact .inr (by simpa using h)
    rcases hv with ⟨v1, v2⟩ | v1
    · go_enter Try.func5, Try.ntmps5
      go_wp2_with (first | (go_at_call 13; refine (hmade.out _).mono ?_; rintro e w2 ⟨rfl, hb2⟩; have hn := box33f (T := 23) (T' := 34) hb2; clear hb2; obtain ⟨hB, hz, c0, c1, c2, d0, d1, d2, f0, f1, f2⟩ := hn))
      have hn := boxset (.bool false) (.bool S') (.int .i64 W') hB hz c0 c1 c2 d0 d1 d2; clear hB hz c0 c1 c2 d0 d1 d2 f0 f1 f2
      generalize hw3 : ((World.setCell _ ⟨w.heap.size, 0, none⟩ (.bool false)).setCell ⟨w.heap.size, 1, none⟩ (.bool S')).setCell ⟨w.heap.size, 2, none⟩ (.int .i64 W') = w3 at hn ⊢
      obtain ⟨hB, hz, c0, c1, c2, d0, d1, d2⟩ := hn w3 rfl
      clear hn hw3
      (have hx := ext3 (by omega) c0 c1 c2; have hy := ext3 (by omega) d0 d1 d2; obtain ⟨x0, x1, x2⟩ := hx; obtain ⟨y0, y1, y2⟩ := hy; (refine wp_region_ext (by kernel_rfl) (by kernel_rfl) ?_; (repeat (go_big_quiet_step ((first | (go_at_call 14; (with_reducible exact Calls.ext_of (hcut0.out _))) | (go_at_call 14; (with_reducible exact Calls.ext_of (hcut1.out _))) | (go_at_call 14; (with_reducible exact Calls.ext_of (hcut2.out _))))))); refine wpQuiet_nil ?_; intro w2 hw'; have hb2 := below_of_ext hw'; clear hw'); clear x0 x1 x2 y0 y1 y2; have hn := step3 hB hz (by omega) c0 c1 c2 hb2; clear hB hz c0 c1 c2 hb2; obtain ⟨hB, hz, c0, c1, c2⟩ := hn; clear d0 d1 d2)
      go_wp2
      (have hx := ext3 (by omega) c0 c1 c2; obtain ⟨x0, x1, x2⟩ := hx; (refine wp_region_ext (by kernel_rfl) (by kernel_rfl) ?_; (repeat (go_big_quiet_step (((go_at_call 16; exact Calls.ext_of (ltwo_any _ _ _ _ _ _ _)))))); refine wpQuiet_nil ?_; intro w2 hw'; have hb2 := below_of_ext hw'; clear hw'); clear x0 x1 x2; have hn := step3 hB hz (by omega) c0 c1 c2 hb2; clear hB hz c0 c1 c2 hb2; obtain ⟨hB, hz, c0, c1, c2⟩ := hn)
      go_wp2_with (first
        | (go_at_call 16; refine (ltwo_any _ _ _ _ _ _ _).mono ?_; rintro e w2 ⟨rfl, hb2⟩; have hn := step3 hB hz (by omega) c0 c1 c2 hb2; clear hB hz c0 c1 c2 hb2; obtain ⟨hB, hz, c0, c1, c2⟩ := hn)
        | (go_at_call 12; refine (wakes_any _).mono ?_; rintro e w2 ⟨rfl, hb2⟩; have hn := step3 hB hz (by omega) c0 c1 c2 hb2; clear hB hz c0 c1 c2 hb2; obtain ⟨hB, hz, c0, c1, c2⟩ := hn)
        | (go_at_call 19; refine (value_any _ _ _ _ _).mono ?_; rintro e w2 ⟨rfl, hb2⟩; have hn := step3 hB hz (by omega) c0 c1 c2 hb2; clear hB hz c0 c1 c2 hb2; obtain ⟨hB, hz, c0, c1, c2⟩ := hn)
        | (go_at_call 18; refine (two_any _ _ _ _ _ _ _).mono ?_; rintro e w2 ⟨rfl, hb2⟩; have hn := step3 hB hz (by omega) c0 c1 c2 hb2; clear hB hz c0 c1 c2 hb2; obtain ⟨hB, hz, c0, c1, c2⟩ := hn)
        | (go_at_call 15; refine (isw_any _ _ _ _ _).mono ?_; rintro e w2 ⟨rfl, hb2⟩; have hn := step3 hB hz (by omega) c0 c1 c2 hb2; clear hB hz c0 c1 c2 hb2; obtain ⟨hB, hz, c0, c1, c2⟩ := hn)
        | (go_at_call 14; refine (cut_any _ _ _ _ _).mono ?_; rintro e w2 ⟨rfl, hb2⟩; have hn := step3 hB hz (by omega) c0 c1 c2 hb2; clear hB hz c0 c1 c2 hb2; obtain ⟨hB, hz, c0, c1, c2⟩ := hn)
        | (go_at_call 17; refine (one_any _ _ _ _ _ _).mono ?_; rintro e w2 ⟨rfl, hb2⟩; have hn := step3 hB hz (by omega) c0 c1 c2 hb2; clear hB hz c0 c1 c2 hb2; obtain ⟨hB, hz, c0, c1, c2⟩ := hn)
        | (go_at_call 20; refine (shift_any _ _ _ _ _ _).mono ?_; rintro e w2 ⟨rfl, hb2⟩; have hn := step3 hB hz (by omega) c0 c1 c2 hb2; clear hB hz c0 c1 c2 hb2; obtain ⟨hB, hz, c0, c1, c2⟩ := hn)
        | (go_at_call 21; refine (conv_any _ _ _ _ _ _ _ _).mono ?_; rintro e w2 ⟨rfl, hb2⟩; have hn := step3 hB hz (by omega) c0 c1 c2 hb2; clear hB hz c0 c1 c2 hb2; obtain ⟨hB, hz, c0, c1, c2⟩ := hn))
      (have hx := ext3 (by omega) c0 c1 c2; obtain ⟨x0, x1, x2⟩ := hx; (refine wp_region_ext (by kernel_rfl) (by kernel_rfl) ?_; (repeat (go_big_quiet_step (((go_at_call 16; exact Calls.ext_of (ltwo_any _ _ _ _ _ _ _)))))); refine wpQuiet_nil ?_; intro w2 hw'; have hb2 := below_of_ext hw'; clear hw'); clear x0 x1 x2; have hn := step3 hB hz (by omega) c0 c1 c2 hb2; clear hB hz c0 c1 c2 hb2; obtain ⟨hB, hz, c0, c1, c2⟩ := hn)
      go_wp2_with (first
        | (go_at_call 16; refine (ltwo_any _ _ _ _ _ _ _).mono ?_; rintro e w2 ⟨rfl, hb2⟩; have hn := step3 hB hz (by omega) c0 c1 c2 hb2; clear hB hz c0 c1 c2 hb2; obtain ⟨hB, hz, c0, c1, c2⟩ := hn)
        | (go_at_call 12; refine (wakes_any _).mono ?_; rintro e w2 ⟨rfl, hb2⟩; have hn := step3 hB hz (by omega) c0 c1 c2 hb2; clear hB hz c0 c1 c2 hb2; obtain ⟨hB, hz, c0, c1, c2⟩ := hn)
        | (go_at_call 19; refine (value_any _ _ _ _ _).mono ?_; rintro e w2 ⟨rfl, hb2⟩; have hn := step3 hB hz (by omega) c0 c1 c2 hb2; clear hB hz c0 c1 c2 hb2; obtain ⟨hB, hz, c0, c1, c2⟩ := hn)
        | (go_at_call 18; refine (two_any _ _ _ _ _ _ _).mono ?_; rintro e w2 ⟨rfl, hb2⟩; have hn := step3 hB hz (by omega) c0 c1 c2 hb2; clear hB hz c0 c1 c2 hb2; obtain ⟨hB, hz, c0, c1, c2⟩ := hn)
        | (go_at_call 15; refine (isw_any _ _ _ _ _).mono ?_; rintro e w2 ⟨rfl, hb2⟩; have hn := step3 hB hz (by omega) c0 c1 c2 hb2; clear hB hz c0 c1 c2 hb2; obtain ⟨hB, hz, c0, c1, c2⟩ := hn)
        | (go_at_call 14; refine (cut_any _ _ _ _ _).mono ?_; rintro e w2 ⟨rfl, hb2⟩; have hn := step3 hB hz (by omega) c0 c1 c2 hb2; clear hB hz c0 c1 c2 hb2; obtain ⟨hB, hz, c0, c1, c2⟩ := hn)
        | (go_at_call 17; refine (one_any _ _ _ _ _ _).mono ?_; rintro e w2 ⟨rfl, hb2⟩; have hn := step3 hB hz (by omega) c0 c1 c2 hb2; clear hB hz c0 c1 c2 hb2; obtain ⟨hB, hz, c0, c1, c2⟩ := hn)
        | (go_at_call 20; refine (shift_any _ _ _ _ _ _).mono ?_; rintro e w2 ⟨rfl, hb2⟩; have hn := step3 hB hz (by omega) c0 c1 c2 hb2; clear hB hz c0 c1 c2 hb2; obtain ⟨hB, hz, c0, c1, c2⟩ := hn)
        | (go_at_call 21; refine (conv_any _ _ _ _ _ _ _ _).mono ?_; rintro e w2 ⟨rfl, hb2⟩; have hn := step3 hB hz (by omega) c0 c1 c2 hb2; clear hB hz c0 c1 c2 hb2; obtain ⟨hB, hz, c0, c1, c2⟩ := hn))
      (have hx := ext3 (by omega) c0 c1 c2; obtain ⟨x0, x1, x2⟩ := hx; (refine wp_region_ext (by kernel_rfl) (by kernel_rfl) ?_; (repeat (go_big_quiet_step (((go_at_call 16; exact Calls.ext_of (ltwo_any _ _ _ _ _ _ _)))))); refine wpQuiet_nil ?_; intro w2 hw'; have hb2 := below_of_ext hw'; clear hw'); clear x0 x1 x2; have hn := step3 hB hz (by omega) c0 c1 c2 hb2; clear hB hz c0 c1 c2 hb2; obtain ⟨hB, hz, c0, c1, c2⟩ := hn)
      go_wp2
      go_ret
      exact ⟨rfl, hB⟩
    · go_enter Try.func5, Try.ntmps5
      go_wp2_with (first | (go_at_call 13; refine (hmade.out _).mono ?_; rintro e w2 ⟨rfl, hb2⟩; have hn := box33f (T := 23) (T' := 34) hb2; clear hb2; obtain ⟨hB, hz, c0, c1, c2, d0, d1, d2, f0, f1, f2⟩ := hn))
      have hn := boxset (.bool false) (.bool S') (.int .i64 W') hB hz c0 c1 c2 d0 d1 d2; clear hB hz c0 c1 c2 d0 d1 d2 f0 f1 f2
      generalize hw3 : ((World.setCell _ ⟨w.heap.size, 0, none⟩ (.bool false)).setCell ⟨w.heap.size, 1, none⟩ (.bool S')).setCell ⟨w.heap.size, 2, none⟩ (.int .i64 W') = w3 at hn ⊢
      obtain ⟨hB, hz, c0, c1, c2, d0, d1, d2⟩ := hn w3 rfl
      clear hn hw3
      (have hx := ext3 (by omega) c0 c1 c2; have hy := ext3 (by omega) d0 d1 d2; obtain ⟨x0, x1, x2⟩ := hx; obtain ⟨y0, y1, y2⟩ := hy; (refine wp_region_ext (by kernel_rfl) (by kernel_rfl) ?_; (repeat (go_big_quiet_step ((first | (go_at_call 14; (with_reducible exact Calls.ext_of (hcut0.out _))) | (go_at_call 14; (with_reducible exact Calls.ext_of (hcut1.out _))) | (go_at_call 14; (with_reducible exact Calls.ext_of (hcut2.out _))))))); refine wpQuiet_nil ?_; intro w2 hw'; have hb2 := below_of_ext hw'; clear hw'); clear x0 x1 x2 y0 y1 y2; have hn := step3 hB hz (by omega) c0 c1 c2 hb2; clear hB hz c0 c1 c2 hb2; obtain ⟨hB, hz, c0, c1, c2⟩ := hn; clear d0 d1 d2)
      go_wp2
      (have hx := ext3 (by omega) c0 c1 c2; obtain ⟨x0, x1, x2⟩ := hx; (refine wp_region_ext (by kernel_rfl) (by kernel_rfl) ?_; (repeat (go_big_quiet_step (((go_at_call 16; exact Calls.ext_of (ltwo_any _ _ _ _ _ _ _)))))); refine wpQuiet_nil ?_; intro w2 hw'; have hb2 := below_of_ext hw'; clear hw'); clear x0 x1 x2; have hn := step3 hB hz (by omega) c0 c1 c2 hb2; clear hB hz c0 c1 c2 hb2; obtain ⟨hB, hz, c0, c1, c2⟩ := hn)
      go_wp2_with (first
        | (go_at_call 16; refine (ltwo_any _ _ _ _ _ _ _).mono ?_; rintro e w2 ⟨rfl, hb2⟩; have hn := step3 hB hz (by omega) c0 c1 c2 hb2; clear hB hz c0 c1 c2 hb2; obtain ⟨hB, hz, c0, c1, c2⟩ := hn)
        | (go_at_call 12; refine (wakes_any _).mono ?_; rintro e w2 ⟨rfl, hb2⟩; have hn := step3 hB hz (by omega) c0 c1 c2 hb2; clear hB hz c0 c1 c2 hb2; obtain ⟨hB, hz, c0, c1, c2⟩ := hn)
        | (go_at_call 19; refine (value_any _ _ _ _ _).mono ?_; rintro e w2 ⟨rfl, hb2⟩; have hn := step3 hB hz (by omega) c0 c1 c2 hb2; clear hB hz c0 c1 c2 hb2; obtain ⟨hB, hz, c0, c1, c2⟩ := hn)
        | (go_at_call 18; refine (two_any _ _ _ _ _ _ _).mono ?_; rintro e w2 ⟨rfl, hb2⟩; have hn := step3 hB hz (by omega) c0 c1 c2 hb2; clear hB hz c0 c1 c2 hb2; obtain ⟨hB, hz, c0, c1, c2⟩ := hn)
        | (go_at_call 15; refine (isw_any _ _ _ _ _).mono ?_; rintro e w2 ⟨rfl, hb2⟩; have hn := step3 hB hz (by omega) c0 c1 c2 hb2; clear hB hz c0 c1 c2 hb2; obtain ⟨hB, hz, c0, c1, c2⟩ := hn)
        | (go_at_call 14; refine (cut_any _ _ _ _ _).mono ?_; rintro e w2 ⟨rfl, hb2⟩; have hn := step3 hB hz (by omega) c0 c1 c2 hb2; clear hB hz c0 c1 c2 hb2; obtain ⟨hB, hz, c0, c1, c2⟩ := hn)
        | (go_at_call 17; refine (one_any _ _ _ _ _ _).mono ?_; rintro e w2 ⟨rfl, hb2⟩; have hn := step3 hB hz (by omega) c0 c1 c2 hb2; clear hB hz c0 c1 c2 hb2; obtain ⟨hB, hz, c0, c1, c2⟩ := hn)
        | (go_at_call 20; refine (shift_any _ _ _ _ _ _).mono ?_; rintro e w2 ⟨rfl, hb2⟩; have hn := step3 hB hz (by omega) c0 c1 c2 hb2; clear hB hz c0 c1 c2 hb2; obtain ⟨hB, hz, c0, c1, c2⟩ := hn)
        | (go_at_call 21; refine (conv_any _ _ _ _ _ _ _ _).mono ?_; rintro e w2 ⟨rfl, hb2⟩; have hn := step3 hB hz (by omega) c0 c1 c2 hb2; clear hB hz c0 c1 c2 hb2; obtain ⟨hB, hz, c0, c1, c2⟩ := hn))
      (have hx := ext3 (by omega) c0 c1 c2; obtain ⟨x0, x1, x2⟩ := hx; (refine wp_region_ext (by kernel_rfl) (by kernel_rfl) ?_; (repeat (go_big_quiet_step (((go_at_call 16; exact Calls.ext_of (ltwo_any _ _ _ _ _ _ _)))))); refine wpQuiet_nil ?_; intro w2 hw'; have hb2 := below_of_ext hw'; clear hw'); clear x0 x1 x2; have hn := step3 hB hz (by omega) c0 c1 c2 hb2; clear hB hz c0 c1 c2 hb2; obtain ⟨hB, hz, c0, c1, c2⟩ := hn)
      go_wp2_with (first
        | (go_at_call 16; refine (ltwo_any _ _ _ _ _ _ _).mono ?_; rintro e w2 ⟨rfl, hb2⟩; have hn := step3 hB hz (by omega) c0 c1 c2 hb2; clear hB hz c0 c1 c2 hb2; obtain ⟨hB, hz, c0, c1, c2⟩ := hn)
        | (go_at_call 12; refine (wakes_any _).mono ?_; rintro e w2 ⟨rfl, hb2⟩; have hn := step3 hB hz (by omega) c0 c1 c2 hb2; clear hB hz c0 c1 c2 hb2; obtain ⟨hB, hz, c0, c1, c2⟩ := hn)
        | (go_at_call 19; refine (value_any _ _ _ _ _).mono ?_; rintro e w2 ⟨rfl, hb2⟩; have hn := step3 hB hz (by omega) c0 c1 c2 hb2; clear hB hz c0 c1 c2 hb2; obtain ⟨hB, hz, c0, c1, c2⟩ := hn)
        | (go_at_call 18; refine (two_any _ _ _ _ _ _ _).mono ?_; rintro e w2 ⟨rfl, hb2⟩; have hn := step3 hB hz (by omega) c0 c1 c2 hb2; clear hB hz c0 c1 c2 hb2; obtain ⟨hB, hz, c0, c1, c2⟩ := hn)
        | (go_at_call 15; refine (isw_any _ _ _ _ _).mono ?_; rintro e w2 ⟨rfl, hb2⟩; have hn := step3 hB hz (by omega) c0 c1 c2 hb2; clear hB hz c0 c1 c2 hb2; obtain ⟨hB, hz, c0, c1, c2⟩ := hn)
        | (go_at_call 14; refine (cut_any _ _ _ _ _).mono ?_; rintro e w2 ⟨rfl, hb2⟩; have hn := step3 hB hz (by omega) c0 c1 c2 hb2; clear hB hz c0 c1 c2 hb2; obtain ⟨hB, hz, c0, c1, c2⟩ := hn)
        | (go_at_call 17; refine (one_any _ _ _ _ _ _).mono ?_; rintro e w2 ⟨rfl, hb2⟩; have hn := step3 hB hz (by omega) c0 c1 c2 hb2; clear hB hz c0 c1 c2 hb2; obtain ⟨hB, hz, c0, c1, c2⟩ := hn)
        | (go_at_call 20; refine (shift_any _ _ _ _ _ _).mono ?_; rintro e w2 ⟨rfl, hb2⟩; have hn := step3 hB hz (by omega) c0 c1 c2 hb2; clear hB hz c0 c1 c2 hb2; obtain ⟨hB, hz, c0, c1, c2⟩ := hn)
        | (go_at_call 21; refine (conv_any _ _ _ _ _ _ _ _).mono ?_; rintro e w2 ⟨rfl, hb2⟩; have hn := step3 hB hz (by omega) c0 c1 c2 hb2; clear hB hz c0 c1 c2 hb2; obtain ⟨hB, hz, c0, c1, c2⟩ := hn))
      (have hx := ext3 (by omega) c0 c1 c2; obtain ⟨x0, x1, x2⟩ := hx; (refine wp_region_ext (by kernel_rfl) (by kernel_rfl) ?_; (repeat (go_big_quiet_step (((go_at_call 16; exact Calls.ext_of (ltwo_any _ _ _ _ _ _ _)))))); refine wpQuiet_nil ?_; intro w2 hw'; have hb2 := below_of_ext hw'; clear hw'); clear x0 x1 x2; have hn := step3 hB hz (by omega) c0 c1 c2 hb2; clear hB hz c0 c1 c2 hb2; obtain ⟨hB, hz, c0, c1, c2⟩ := hn)
      go_wp2
      go_ret
      exact ⟨rfl, hB⟩
  · have hv : (valOk false S' W' a = true ∧ valOk false S' W' b = true ∧ (decide (valV false S' W' a < valV false S' W' b)) = true) ∨ valOk false S' W' a = false ∨ (valOk false S' W' a = true ∧ valOk false S' W' b = false) := by
      by_cases h : valOk false S' W' a = true
      · by_cases h' : valOk false S' W' b = true
        · exact .inl ⟨h, h', by rw [val_less h h', h1]⟩
        · exact .inr (.inr ⟨h, by simpa using h'⟩)
      · exact .inr (.inl (by simpa using h))
    have ht : two 9 false S' W' b c = 0 ∨ (two 9 false S' W' b c = 1 ∧ two 9 false S' W' a c = 1) := by
      rw [two_cmp rfl hb hc (by omega), two_cmp rfl ha hc (by omega)]
      show bit (lessB S' W' b c) = 0 ∨ (bit (lessB S' W' b c) = 1 ∧ bit (lessB S' W' a c) = 1)
      by_cases h : lessB S' W' b c = true
      · rw [h, less_trans h1 h]; exact .inr ⟨rfl, rfl⟩
      · simp at h; rw [h]; exact .inl rfl
    have hne : (a != b) = true := by simpa using h0
    simp only [h0, hne, h1, h2, Bool.not_false, Bool.not_true] at hO
    obtain ⟨e1, e2, e3, e4, e5, e6, e7, e8, e9⟩ := hO
    simp only [bit, if_true, if_false, Bool.false_eq_true] at e1 e2 e3 e4 e5 e6 e7 e8 e9
    clear h1 h2 hne
    rcases hv with ⟨v1, v2, v3⟩ | v1 | ⟨v1, v2⟩ <;> rcases ht with t1 | ⟨t1, t2⟩
    · go_enter Try.func5, Try.ntmps5
      go_wp2_with (first | (go_at_call 13; refine (hmade.out _).mono ?_; rintro e w2 ⟨rfl, hb2⟩; have hn := box33f (T := 23) (T' := 34) hb2; clear hb2; obtain ⟨hB, hz, c0, c1, c2, d0, d1, d2, f0, f1, f2⟩ := hn))
      have hn := boxset (.bool false) (.bool S') (.int .i64 W') hB hz c0 c1 c2 d0 d1 d2; clear hB hz c0 c1 c2 d0 d1 d2 f0 f1 f2
      generalize hw3 : ((World.setCell _ ⟨w.heap.size, 0, none⟩ (.bool false)).setCell ⟨w.heap.size, 1, none⟩ (.bool S')).setCell ⟨w.heap.size, 2, none⟩ (.int .i64 W') = w3 at hn ⊢
      obtain ⟨hB, hz, c0, c1, c2, d0, d1, d2⟩ := hn w3 rfl
      clear hn hw3
      (have hx := ext3 (by omega) c0 c1 c2; have hy := ext3 (by omega) d0 d1 d2; obtain ⟨x0, x1, x2⟩ := hx; obtain ⟨y0, y1, y2⟩ := hy; (refine wp_region_ext (by kernel_rfl) (by kernel_rfl) ?_; (repeat (go_big_quiet_step ((first | (go_at_call 14; (with_reducible exact Calls.ext_of (hcut0.out _))) | (go_at_call 14; (with_reducible exact Calls.ext_of (hcut1.out _))) | (go_at_call 14; (with_reducible exact Calls.ext_of (hcut2.out _))))))); refine wpQuiet_nil ?_; intro w2 hw'; have hb2 := below_of_ext hw'; clear hw'); clear x0 x1 x2 y0 y1 y2; have hn := step3 hB hz (by omega) c0 c1 c2 hb2; clear hB hz c0 c1 c2 hb2; obtain ⟨hB, hz, c0, c1, c2⟩ := hn; clear d0 d1 d2)
      go_wp2
      (have hx := ext3 (by omega) c0 c1 c2; obtain ⟨x0, x1, x2⟩ := hx; (refine wp_region_ext (by kernel_rfl) (by kernel_rfl) ?_; (repeat (go_big_quiet_step (((go_at_call 16; exact Calls.ext_of (ltwo_any _ _ _ _ _ _ _)))))); refine wpQuiet_nil ?_; intro w2 hw'; have hb2 := below_of_ext hw'; clear hw'); clear x0 x1 x2; have hn := step3 hB hz (by omega) c0 c1 c2 hb2; clear hB hz c0 c1 c2 hb2; obtain ⟨hB, hz, c0, c1, c2⟩ := hn)
      go_wp2_with (first
        | (go_at_call 16; refine (ltwo_any _ _ _ _ _ _ _).mono ?_; rintro e w2 ⟨rfl, hb2⟩; have hn := step3 hB hz (by omega) c0 c1 c2 hb2; clear hB hz c0 c1 c2 hb2; obtain ⟨hB, hz, c0, c1, c2⟩ := hn)
        | (go_at_call 12; refine (wakes_any _).mono ?_; rintro e w2 ⟨rfl, hb2⟩; have hn := step3 hB hz (by omega) c0 c1 c2 hb2; clear hB hz c0 c1 c2 hb2; obtain ⟨hB, hz, c0, c1, c2⟩ := hn)
        | (go_at_call 19; refine (value_any _ _ _ _ _).mono ?_; rintro e w2 ⟨rfl, hb2⟩; have hn := step3 hB hz (by omega) c0 c1 c2 hb2; clear hB hz c0 c1 c2 hb2; obtain ⟨hB, hz, c0, c1, c2⟩ := hn)
        | (go_at_call 18; refine (two_any _ _ _ _ _ _ _).mono ?_; rintro e w2 ⟨rfl, hb2⟩; have hn := step3 hB hz (by omega) c0 c1 c2 hb2; clear hB hz c0 c1 c2 hb2; obtain ⟨hB, hz, c0, c1, c2⟩ := hn)
        | (go_at_call 15; refine (isw_any _ _ _ _ _).mono ?_; rintro e w2 ⟨rfl, hb2⟩; have hn := step3 hB hz (by omega) c0 c1 c2 hb2; clear hB hz c0 c1 c2 hb2; obtain ⟨hB, hz, c0, c1, c2⟩ := hn)
        | (go_at_call 14; refine (cut_any _ _ _ _ _).mono ?_; rintro e w2 ⟨rfl, hb2⟩; have hn := step3 hB hz (by omega) c0 c1 c2 hb2; clear hB hz c0 c1 c2 hb2; obtain ⟨hB, hz, c0, c1, c2⟩ := hn)
        | (go_at_call 17; refine (one_any _ _ _ _ _ _).mono ?_; rintro e w2 ⟨rfl, hb2⟩; have hn := step3 hB hz (by omega) c0 c1 c2 hb2; clear hB hz c0 c1 c2 hb2; obtain ⟨hB, hz, c0, c1, c2⟩ := hn)
        | (go_at_call 20; refine (shift_any _ _ _ _ _ _).mono ?_; rintro e w2 ⟨rfl, hb2⟩; have hn := step3 hB hz (by omega) c0 c1 c2 hb2; clear hB hz c0 c1 c2 hb2; obtain ⟨hB, hz, c0, c1, c2⟩ := hn)
        | (go_at_call 21; refine (conv_any _ _ _ _ _ _ _ _).mono ?_; rintro e w2 ⟨rfl, hb2⟩; have hn := step3 hB hz (by omega) c0 c1 c2 hb2; clear hB hz c0 c1 c2 hb2; obtain ⟨hB, hz, c0, c1, c2⟩ := hn))
      (have hx := ext3 (by omega) c0 c1 c2; obtain ⟨x0, x1, x2⟩ := hx; (refine wp_region_ext (by kernel_rfl) (by kernel_rfl) ?_; (repeat (go_big_quiet_step (((go_at_call 16; exact Calls.ext_of (ltwo_any _ _ _ _ _ _ _)))))); refine wpQuiet_nil ?_; intro w2 hw'; have hb2 := below_of_ext hw'; clear hw'); clear x0 x1 x2; have hn := step3 hB hz (by omega) c0 c1 c2 hb2; clear hB hz c0 c1 c2 hb2; obtain ⟨hB, hz, c0, c1, c2⟩ := hn)
      go_wp2_with (first
        | (go_at_call 16; refine (ltwo_any _ _ _ _ _ _ _).mono ?_; rintro e w2 ⟨rfl, hb2⟩; have hn := step3 hB hz (by omega) c0 c1 c2 hb2; clear hB hz c0 c1 c2 hb2; obtain ⟨hB, hz, c0, c1, c2⟩ := hn)
        | (go_at_call 12; refine (wakes_any _).mono ?_; rintro e w2 ⟨rfl, hb2⟩; have hn := step3 hB hz (by omega) c0 c1 c2 hb2; clear hB hz c0 c1 c2 hb2; obtain ⟨hB, hz, c0, c1, c2⟩ := hn)
        | (go_at_call 19; refine (value_any _ _ _ _ _).mono ?_; rintro e w2 ⟨rfl, hb2⟩; have hn := step3 hB hz (by omega) c0 c1 c2 hb2; clear hB hz c0 c1 c2 hb2; obtain ⟨hB, hz, c0, c1, c2⟩ := hn)
        | (go_at_call 18; refine (two_any _ _ _ _ _ _ _).mono ?_; rintro e w2 ⟨rfl, hb2⟩; have hn := step3 hB hz (by omega) c0 c1 c2 hb2; clear hB hz c0 c1 c2 hb2; obtain ⟨hB, hz, c0, c1, c2⟩ := hn)
        | (go_at_call 15; refine (isw_any _ _ _ _ _).mono ?_; rintro e w2 ⟨rfl, hb2⟩; have hn := step3 hB hz (by omega) c0 c1 c2 hb2; clear hB hz c0 c1 c2 hb2; obtain ⟨hB, hz, c0, c1, c2⟩ := hn)
        | (go_at_call 14; refine (cut_any _ _ _ _ _).mono ?_; rintro e w2 ⟨rfl, hb2⟩; have hn := step3 hB hz (by omega) c0 c1 c2 hb2; clear hB hz c0 c1 c2 hb2; obtain ⟨hB, hz, c0, c1, c2⟩ := hn)
        | (go_at_call 17; refine (one_any _ _ _ _ _ _).mono ?_; rintro e w2 ⟨rfl, hb2⟩; have hn := step3 hB hz (by omega) c0 c1 c2 hb2; clear hB hz c0 c1 c2 hb2; obtain ⟨hB, hz, c0, c1, c2⟩ := hn)
        | (go_at_call 20; refine (shift_any _ _ _ _ _ _).mono ?_; rintro e w2 ⟨rfl, hb2⟩; have hn := step3 hB hz (by omega) c0 c1 c2 hb2; clear hB hz c0 c1 c2 hb2; obtain ⟨hB, hz, c0, c1, c2⟩ := hn)
        | (go_at_call 21; refine (conv_any _ _ _ _ _ _ _ _).mono ?_; rintro e w2 ⟨rfl, hb2⟩; have hn := step3 hB hz (by omega) c0 c1 c2 hb2; clear hB hz c0 c1 c2 hb2; obtain ⟨hB, hz, c0, c1, c2⟩ := hn))
      (have hx := ext3 (by omega) c0 c1 c2; obtain ⟨x0, x1, x2⟩ := hx; (refine wp_region_ext (by kernel_rfl) (by kernel_rfl) ?_; (repeat (go_big_quiet_step (((go_at_call 16; exact Calls.ext_of (ltwo_any _ _ _ _ _ _ _)))))); refine wpQuiet_nil ?_; intro w2 hw'; have hb2 := below_of_ext hw'; clear hw'); clear x0 x1 x2; have hn := step3 hB hz (by omega) c0 c1 c2 hb2; clear hB hz c0 c1 c2 hb2; obtain ⟨hB, hz, c0, c1, c2⟩ := hn)
      go_wp2
      go_ret
      exact ⟨rfl, hB⟩
    · go_enter Try.func5, Try.ntmps5
      go_wp2_with (first | (go_at_call 13; refine (hmade.out _).mono ?_; rintro e w2 ⟨rfl, hb2⟩; have hn := box33f (T := 23) (T' := 34) hb2; clear hb2; obtain ⟨hB, hz, c0, c1, c2, d0, d1, d2, f0, f1, f2⟩ := hn))
      have hn := boxset (.bool false) (.bool S') (.int .i64 W') hB hz c0 c1 c2 d0 d1 d2; clear hB hz c0 c1 c2 d0 d1 d2 f0 f1 f2
      generalize hw3 : ((World.setCell _ ⟨w.heap.size, 0, none⟩ (.bool false)).setCell ⟨w.heap.size, 1, none⟩ (.bool S')).setCell ⟨w.heap.size, 2, none⟩ (.int .i64 W') = w3 at hn ⊢
      obtain ⟨hB, hz, c0, c1, c2, d0, d1, d2⟩ := hn w3 rfl
      clear hn hw3
      (have hx := ext3 (by omega) c0 c1 c2; have hy := ext3 (by omega) d0 d1 d2; obtain ⟨x0, x1, x2⟩ := hx; obtain ⟨y0, y1, y2⟩ := hy; (refine wp_region_ext (by kernel_rfl) (by kernel_rfl) ?_; (repeat (go_big_quiet_step ((first | (go_at_call 14; (with_reducible exact Calls.ext_of (hcut0.out _))) | (go_at_call 14; (with_reducible exact Calls.ext_of (hcut1.out _))) | (go_at_call 14; (with_reducible exact Calls.ext_of (hcut2.out _))))))); refine wpQuiet_nil ?_; intro w2 hw'; have hb2 := below_of_ext hw'; clear hw'); clear x0 x1 x2 y0 y1 y2; have hn := step3 hB hz (by omega) c0 c1 c2 hb2; clear hB hz c0 c1 c2 hb2; obtain ⟨hB, hz, c0, c1, c2⟩ := hn; clear d0 d1 d2)
      go_wp2
      (have hx := ext3 (by omega) c0 c1 c2; obtain ⟨x0, x1, x2⟩ := hx; (refine wp_region_ext (by kernel_rfl) (by kernel_rfl) ?_; (repeat (go_big_quiet_step (((go_at_call 16; exact Calls.ext_of (ltwo_any _ _ _ _ _ _ _)))))); refine wpQuiet_nil ?_; intro w2 hw'; have hb2 := below_of_ext hw'; clear hw'); clear x0 x1 x2; have hn := step3 hB hz (by omega) c0 c1 c2 hb2; clear hB hz c0 c1 c2 hb2; obtain ⟨hB, hz, c0, c1, c2⟩ := hn)
      go_wp2_with (first
        | (go_at_call 16; refine (ltwo_any _ _ _ _ _ _ _).mono ?_; rintro e w2 ⟨rfl, hb2⟩; have hn := step3 hB hz (by omega) c0 c1 c2 hb2; clear hB hz c0 c1 c2 hb2; obtain ⟨hB, hz, c0, c1, c2⟩ := hn)
        | (go_at_call 12; refine (wakes_any _).mono ?_; rintro e w2 ⟨rfl, hb2⟩; have hn := step3 hB hz (by omega) c0 c1 c2 hb2; clear hB hz c0 c1 c2 hb2; obtain ⟨hB, hz, c0, c1, c2⟩ := hn)
        | (go_at_call 19; refine (value_any _ _ _ _ _).mono ?_; rintro e w2 ⟨rfl, hb2⟩; have hn := step3 hB hz (by omega) c0 c1 c2 hb2; clear hB hz c0 c1 c2 hb2; obtain ⟨hB, hz, c0, c1, c2⟩ := hn)
        | (go_at_call 18; refine (two_any _ _ _ _ _ _ _).mono ?_; rintro e w2 ⟨rfl, hb2⟩; have hn := step3 hB hz (by omega) c0 c1 c2 hb2; clear hB hz c0 c1 c2 hb2; obtain ⟨hB, hz, c0, c1, c2⟩ := hn)
        | (go_at_call 15; refine (isw_any _ _ _ _ _).mono ?_; rintro e w2 ⟨rfl, hb2⟩; have hn := step3 hB hz (by omega) c0 c1 c2 hb2; clear hB hz c0 c1 c2 hb2; obtain ⟨hB, hz, c0, c1, c2⟩ := hn)
        | (go_at_call 14; refine (cut_any _ _ _ _ _).mono ?_; rintro e w2 ⟨rfl, hb2⟩; have hn := step3 hB hz (by omega) c0 c1 c2 hb2; clear hB hz c0 c1 c2 hb2; obtain ⟨hB, hz, c0, c1, c2⟩ := hn)
        | (go_at_call 17; refine (one_any _ _ _ _ _ _).mono ?_; rintro e w2 ⟨rfl, hb2⟩; have hn := step3 hB hz (by omega) c0 c1 c2 hb2; clear hB hz c0 c1 c2 hb2; obtain ⟨hB, hz, c0, c1, c2⟩ := hn)
        | (go_at_call 20; refine (shift_any _ _ _ _ _ _).mono ?_; rintro e w2 ⟨rfl, hb2⟩; have hn := step3 hB hz (by omega) c0 c1 c2 hb2; clear hB hz c0 c1 c2 hb2; obtain ⟨hB, hz, c0, c1, c2⟩ := hn)
        | (go_at_call 21; refine (conv_any _ _ _ _ _ _ _ _).mono ?_; rintro e w2 ⟨rfl, hb2⟩; have hn := step3 hB hz (by omega) c0 c1 c2 hb2; clear hB hz c0 c1 c2 hb2; obtain ⟨hB, hz, c0, c1, c2⟩ := hn))
      (have hx := ext3 (by omega) c0 c1 c2; obtain ⟨x0, x1, x2⟩ := hx; (refine wp_region_ext (by kernel_rfl) (by kernel_rfl) ?_; (repeat (go_big_quiet_step (((go_at_call 16; exact Calls.ext_of (ltwo_any _ _ _ _ _ _ _)))))); refine wpQuiet_nil ?_; intro w2 hw'; have hb2 := below_of_ext hw'; clear hw'); clear x0 x1 x2; have hn := step3 hB hz (by omega) c0 c1 c2 hb2; clear hB hz c0 c1 c2 hb2; obtain ⟨hB, hz, c0, c1, c2⟩ := hn)
      go_wp2_with (first
        | (go_at_call 16; refine (ltwo_any _ _ _ _ _ _ _).mono ?_; rintro e w2 ⟨rfl, hb2⟩; have hn := step3 hB hz (by omega) c0 c1 c2 hb2; clear hB hz c0 c1 c2 hb2; obtain ⟨hB, hz, c0, c1, c2⟩ := hn)
        | (go_at_call 12; refine (wakes_any _).mono ?_; rintro e w2 ⟨rfl, hb2⟩; have hn := step3 hB hz (by omega) c0 c1 c2 hb2; clear hB hz c0 c1 c2 hb2; obtain ⟨hB, hz, c0, c1, c2⟩ := hn)
        | (go_at_call 19; refine (value_any _ _ _ _ _).mono ?_; rintro e w2 ⟨rfl, hb2⟩; have hn := step3 hB hz (by omega) c0 c1 c2 hb2; clear hB hz c0 c1 c2 hb2; obtain ⟨hB, hz, c0, c1, c2⟩ := hn)
        | (go_at_call 18; refine (two_any _ _ _ _ _ _ _).mono ?_; rintro e w2 ⟨rfl, hb2⟩; have hn := step3 hB hz (by omega) c0 c1 c2 hb2; clear hB hz c0 c1 c2 hb2; obtain ⟨hB, hz, c0, c1, c2⟩ := hn)
        | (go_at_call 15; refine (isw_any _ _ _ _ _).mono ?_; rintro e w2 ⟨rfl, hb2⟩; have hn := step3 hB hz (by omega) c0 c1 c2 hb2; clear hB hz c0 c1 c2 hb2; obtain ⟨hB, hz, c0, c1, c2⟩ := hn)
        | (go_at_call 14; refine (cut_any _ _ _ _ _).mono ?_; rintro e w2 ⟨rfl, hb2⟩; have hn := step3 hB hz (by omega) c0 c1 c2 hb2; clear hB hz c0 c1 c2 hb2; obtain ⟨hB, hz, c0, c1, c2⟩ := hn)
        | (go_at_call 17; refine (one_any _ _ _ _ _ _).mono ?_; rintro e w2 ⟨rfl, hb2⟩; have hn := step3 hB hz (by omega) c0 c1 c2 hb2; clear hB hz c0 c1 c2 hb2; obtain ⟨hB, hz, c0, c1, c2⟩ := hn)
        | (go_at_call 20; refine (shift_any _ _ _ _ _ _).mono ?_; rintro e w2 ⟨rfl, hb2⟩; have hn := step3 hB hz (by omega) c0 c1 c2 hb2; clear hB hz c0 c1 c2 hb2; obtain ⟨hB, hz, c0, c1, c2⟩ := hn)
        | (go_at_call 21; refine (conv_any _ _ _ _ _ _ _ _).mono ?_; rintro e w2 ⟨rfl, hb2⟩; have hn := step3 hB hz (by omega) c0 c1 c2 hb2; clear hB hz c0 c1 c2 hb2; obtain ⟨hB, hz, c0, c1, c2⟩ := hn))
      (have hx := ext3 (by omega) c0 c1 c2; obtain ⟨x0, x1, x2⟩ := hx; (refine wp_region_ext (by kernel_rfl) (by kernel_rfl) ?_; (repeat (go_big_quiet_step (((go_at_call 16; exact Calls.ext_of (ltwo_any _ _ _ _ _ _ _)))))); refine wpQuiet_nil ?_; intro w2 hw'; have hb2 := below_of_ext hw'; clear hw'); clear x0 x1 x2; have hn := step3 hB hz (by omega) c0 c1 c2 hb2; clear hB hz c0 c1 c2 hb2; obtain ⟨hB, hz, c0, c1, c2⟩ := hn)
      go_wp2
      go_ret
      exact ⟨rfl, hB⟩
    · go_enter Try.func5, Try.ntmps5
      go_wp2_with (first | (go_at_call 13; refine (hmade.out _).mono ?_; rintro e w2 ⟨rfl, hb2⟩; have hn := box33f (T := 23) (T' := 34) hb2; clear hb2; obtain ⟨hB, hz, c0, c1, c2, d0, d1, d2, f0, f1, f2⟩ := hn))
      have hn := boxset (.bool false) (.bool S') (.int .i64 W') hB hz c0 c1 c2 d0 d1 d2; clear hB hz c0 c1 c2 d0 d1 d2 f0 f1 f2
      generalize hw3 : ((World.setCell _ ⟨w.heap.size, 0, none⟩ (.bool false)).setCell ⟨w.heap.size, 1, none⟩ (.bool S')).setCell ⟨w.heap.size, 2, none⟩ (.int .i64 W') = w3 at hn ⊢
      obtain ⟨hB, hz, c0, c1, c2, d0, d1, d2⟩ := hn w3 rfl
      clear hn hw3
      (have hx := ext3 (by omega) c0 c1 c2; have hy := ext3 (by omega) d0 d1 d2; obtain ⟨x0, x1, x2⟩ := hx; obtain ⟨y0, y1, y2⟩ := hy; (refine wp_region_ext (by kernel_rfl) (by kernel_rfl) ?_; (repeat (go_big_quiet_step ((first | (go_at_call 14; (with_reducible exact Calls.ext_of (hcut0.out _))) | (go_at_call 14; (with_reducible exact Calls.ext_of (hcut1.out _))) | (go_at_call 14; (with_reducible exact Calls.ext_of (hcut2.out _))))))); refine wpQuiet_nil ?_; intro w2 hw'; have hb2 := below_of_ext hw'; clear hw'); clear x0 x1 x2 y0 y1 y2; have hn := step3 hB hz (by omega) c0 c1 c2 hb2; clear hB hz c0 c1 c2 hb2; obtain ⟨hB, hz, c0, c1, c2⟩ := hn; clear d0 d1 d2)
      go_wp2
      (have hx := ext3 (by omega) c0 c1 c2; obtain ⟨x0, x1, x2⟩ := hx; (refine wp_region_ext (by kernel_rfl) (by kernel_rfl) ?_; (repeat (go_big_quiet_step (((go_at_call 16; exact Calls.ext_of (ltwo_any _ _ _ _ _ _ _)))))); refine wpQuiet_nil ?_; intro w2 hw'; have hb2 := below_of_ext hw'; clear hw'); clear x0 x1 x2; have hn := step3 hB hz (by omega) c0 c1 c2 hb2; clear hB hz c0 c1 c2 hb2; obtain ⟨hB, hz, c0, c1, c2⟩ := hn)
      go_wp2_with (first
        | (go_at_call 16; refine (ltwo_any _ _ _ _ _ _ _).mono ?_; rintro e w2 ⟨rfl, hb2⟩; have hn := step3 hB hz (by omega) c0 c1 c2 hb2; clear hB hz c0 c1 c2 hb2; obtain ⟨hB, hz, c0, c1, c2⟩ := hn)
        | (go_at_call 12; refine (wakes_any _).mono ?_; rintro e w2 ⟨rfl, hb2⟩; have hn := step3 hB hz (by omega) c0 c1 c2 hb2; clear hB hz c0 c1 c2 hb2; obtain ⟨hB, hz, c0, c1, c2⟩ := hn)
        | (go_at_call 19; refine (value_any _ _ _ _ _).mono ?_; rintro e w2 ⟨rfl, hb2⟩; have hn := step3 hB hz (by omega) c0 c1 c2 hb2; clear hB hz c0 c1 c2 hb2; obtain ⟨hB, hz, c0, c1, c2⟩ := hn)
        | (go_at_call 18; refine (two_any _ _ _ _ _ _ _).mono ?_; rintro e w2 ⟨rfl, hb2⟩; have hn := step3 hB hz (by omega) c0 c1 c2 hb2; clear hB hz c0 c1 c2 hb2; obtain ⟨hB, hz, c0, c1, c2⟩ := hn)
        | (go_at_call 15; refine (isw_any _ _ _ _ _).mono ?_; rintro e w2 ⟨rfl, hb2⟩; have hn := step3 hB hz (by omega) c0 c1 c2 hb2; clear hB hz c0 c1 c2 hb2; obtain ⟨hB, hz, c0, c1, c2⟩ := hn)
        | (go_at_call 14; refine (cut_any _ _ _ _ _).mono ?_; rintro e w2 ⟨rfl, hb2⟩; have hn := step3 hB hz (by omega) c0 c1 c2 hb2; clear hB hz c0 c1 c2 hb2; obtain ⟨hB, hz, c0, c1, c2⟩ := hn)
        | (go_at_call 17; refine (one_any _ _ _ _ _ _).mono ?_; rintro e w2 ⟨rfl, hb2⟩; have hn := step3 hB hz (by omega) c0 c1 c2 hb2; clear hB hz c0 c1 c2 hb2; obtain ⟨hB, hz, c0, c1, c2⟩ := hn)
        | (go_at_call 20; refine (shift_any _ _ _ _ _ _).mono ?_; rintro e w2 ⟨rfl, hb2⟩; have hn := step3 hB hz (by omega) c0 c1 c2 hb2; clear hB hz c0 c1 c2 hb2; obtain ⟨hB, hz, c0, c1, c2⟩ := hn)
        | (go_at_call 21; refine (conv_any _ _ _ _ _ _ _ _).mono ?_; rintro e w2 ⟨rfl, hb2⟩; have hn := step3 hB hz (by omega) c0 c1 c2 hb2; clear hB hz c0 c1 c2 hb2; obtain ⟨hB, hz, c0, c1, c2⟩ := hn))
      (have hx := ext3 (by omega) c0 c1 c2; obtain ⟨x0, x1, x2⟩ := hx; (refine wp_region_ext (by kernel_rfl) (by kernel_rfl) ?_; (repeat (go_big_quiet_step (((go_at_call 16; exact Calls.ext_of (ltwo_any _ _ _ _ _ _ _)))))); refine wpQuiet_nil ?_; intro w2 hw'; have hb2 := below_of_ext hw'; clear hw'); clear x0 x1 x2; have hn := step3 hB hz (by omega) c0 c1 c2 hb2; clear hB hz c0 c1 c2 hb2; obtain ⟨hB, hz, c0, c1, c2⟩ := hn)
      go_wp2_with (first
        | (go_at_call 16; refine (ltwo_any _ _ _ _ _ _ _).mono ?_; rintro e w2 ⟨rfl, hb2⟩; have hn := step3 hB hz (by omega) c0 c1 c2 hb2; clear hB hz c0 c1 c2 hb2; obtain ⟨hB, hz, c0, c1, c2⟩ := hn)
        | (go_at_call 12; refine (wakes_any _).mono ?_; rintro e w2 ⟨rfl, hb2⟩; have hn := step3 hB hz (by omega) c0 c1 c2 hb2; clear hB hz c0 c1 c2 hb2; obtain ⟨hB, hz, c0, c1, c2⟩ := hn)
        | (go_at_call 19; refine (value_any _ _ _ _ _).mono ?_; rintro e w2 ⟨rfl, hb2⟩; have hn := step3 hB hz (by omega) c0 c1 c2 hb2; clear hB hz c0 c1 c2 hb2; obtain ⟨hB, hz, c0, c1, c2⟩ := hn)
        | (go_at_call 18; refine (two_any _ _ _ _ _ _ _).mono ?_; rintro e w2 ⟨rfl, hb2⟩; have hn := step3 hB hz (by omega) c0 c1 c2 hb2; clear hB hz c0 c1 c2 hb2; obtain ⟨hB, hz, c0, c1, c2⟩ := hn)
        | (go_at_call 15; refine (isw_any _ _ _ _ _).mono ?_; rintro e w2 ⟨rfl, hb2⟩; have hn := step3 hB hz (by omega) c0 c1 c2 hb2; clear hB hz c0 c1 c2 hb2; obtain ⟨hB, hz, c0, c1, c2⟩ := hn)
        | (go_at_call 14; refine (cut_any _ _ _ _ _).mono ?_; rintro e w2 ⟨rfl, hb2⟩; have hn := step3 hB hz (by omega) c0 c1 c2 hb2; clear hB hz c0 c1 c2 hb2; obtain ⟨hB, hz, c0, c1, c2⟩ := hn)
        | (go_at_call 17; refine (one_any _ _ _ _ _ _).mono ?_; rintro e w2 ⟨rfl, hb2⟩; have hn := step3 hB hz (by omega) c0 c1 c2 hb2; clear hB hz c0 c1 c2 hb2; obtain ⟨hB, hz, c0, c1, c2⟩ := hn)
        | (go_at_call 20; refine (shift_any _ _ _ _ _ _).mono ?_; rintro e w2 ⟨rfl, hb2⟩; have hn := step3 hB hz (by omega) c0 c1 c2 hb2; clear hB hz c0 c1 c2 hb2; obtain ⟨hB, hz, c0, c1, c2⟩ := hn)
        | (go_at_call 21; refine (conv_any _ _ _ _ _ _ _ _).mono ?_; rintro e w2 ⟨rfl, hb2⟩; have hn := step3 hB hz (by omega) c0 c1 c2 hb2; clear hB hz c0 c1 c2 hb2; obtain ⟨hB, hz, c0, c1, c2⟩ := hn))
      (have hx := ext3 (by omega) c0 c1 c2; obtain ⟨x0, x1, x2⟩ := hx; (refine wp_region_ext (by kernel_rfl) (by kernel_rfl) ?_; (repeat (go_big_quiet_step (((go_at_call 16; exact Calls.ext_of (ltwo_any _ _ _ _ _ _ _)))))); refine wpQuiet_nil ?_; intro w2 hw'; have hb2 := below_of_ext hw'; clear hw'); clear x0 x1 x2; have hn := step3 hB hz (by omega) c0 c1 c2 hb2; clear hB hz c0 c1 c2 hb2; obtain ⟨hB, hz, c0, c1, c2⟩ := hn)
      go_wp2
      go_ret
      exact ⟨rfl, hB⟩
    · go_enter Try.func5, Try.ntmps5
      go_wp2_with (first | (go_at_call 13; refine (hmade.out _).mono ?_; rintro e w2 ⟨rfl, hb2⟩; have hn := box33f (T := 23) (T' := 34) hb2; clear hb2; obtain ⟨hB, hz, c0, c1, c2, d0, d1, d2, f0, f1, f2⟩ := hn))
      have hn := boxset (.bool false) (.bool S') (.int .i64 W') hB hz c0 c1 c2 d0 d1 d2; clear hB hz c0 c1 c2 d0 d1 d2 f0 f1 f2
      generalize hw3 : ((World.setCell _ ⟨w.heap.size, 0, none⟩ (.bool false)).setCell ⟨w.heap.size, 1, none⟩ (.bool S')).setCell ⟨w.heap.size, 2, none⟩ (.int .i64 W') = w3 at hn ⊢
      obtain ⟨hB, hz, c0, c1, c2, d0, d1, d2⟩ := hn w3 rfl
      clear hn hw3
      (have hx := ext3 (by omega) c0 c1 c2; have hy := ext3 (by omega) d0 d1 d2; obtain ⟨x0, x1, x2⟩ := hx; obtain ⟨y0, y1, y2⟩ := hy; (refine wp_region_ext (by kernel_rfl) (by kernel_rfl) ?_; (repeat (go_big_quiet_step ((first | (go_at_call 14; (with_reducible exact Calls.ext_of (hcut0.out _))) | (go_at_call 14; (with_reducible exact Calls.ext_of (hcut1.out _))) | (go_at_call 14; (with_reducible exact Calls.ext_of (hcut2.out _))))))); refine wpQuiet_nil ?_; intro w2 hw'; have hb2 := below_of_ext hw'; clear hw'); clear x0 x1 x2 y0 y1 y2; have hn := step3 hB hz (by omega) c0 c1 c2 hb2; clear hB hz c0 c1 c2 hb2; obtain ⟨hB, hz, c0, c1, c2⟩ := hn; clear d0 d1 d2)
      go_wp2
      (have hx := ext3 (by omega) c0 c1 c2; obtain ⟨x0, x1, x2⟩ := hx; (refine wp_region_ext (by kernel_rfl) (by kernel_rfl) ?_; (repeat (go_big_quiet_step (((go_at_call 16; exact Calls.ext_of (ltwo_any _ _ _ _ _ _ _)))))); refine wpQuiet_nil ?_; intro w2 hw'; have hb2 := below_of_ext hw'; clear hw'); clear x0 x1 x2; have hn := step3 hB hz (by omega) c0 c1 c2 hb2; clear hB hz c0 c1 c2 hb2; obtain ⟨hB, hz, c0, c1, c2⟩ := hn)
      go_wp2_with (first
        | (go_at_call 16; refine (ltwo_any _ _ _ _ _ _ _).mono ?_; rintro e w2 ⟨rfl, hb2⟩; have hn := step3 hB hz (by omega) c0 c1 c2 hb2; clear hB hz c0 c1 c2 hb2; obtain ⟨hB, hz, c0, c1, c2⟩ := hn)
        | (go_at_call 12; refine (wakes_any _).mono ?_; rintro e w2 ⟨rfl, hb2⟩; have hn := step3 hB hz (by omega) c0 c1 c2 hb2; clear hB hz c0 c1 c2 hb2; obtain ⟨hB, hz, c0, c1, c2⟩ := hn)
        | (go_at_call 19; refine (value_any _ _ _ _ _).mono ?_; rintro e w2 ⟨rfl, hb2⟩; have hn := step3 hB hz (by omega) c0 c1 c2 hb2; clear hB hz c0 c1 c2 hb2; obtain ⟨hB, hz, c0, c1, c2⟩ := hn)
        | (go_at_call 18; refine (two_any _ _ _ _ _ _ _).mono ?_; rintro e w2 ⟨rfl, hb2⟩; have hn := step3 hB hz (by omega) c0 c1 c2 hb2; clear hB hz c0 c1 c2 hb2; obtain ⟨hB, hz, c0, c1, c2⟩ := hn)
        | (go_at_call 15; refine (isw_any _ _ _ _ _).mono ?_; rintro e w2 ⟨rfl, hb2⟩; have hn := step3 hB hz (by omega) c0 c1 c2 hb2; clear hB hz c0 c1 c2 hb2; obtain ⟨hB, hz, c0, c1, c2⟩ := hn)
        | (go_at_call 14; refine (cut_any _ _ _ _ _).mono ?_; rintro e w2 ⟨rfl, hb2⟩; have hn := step3 hB hz (by omega) c0 c1 c2 hb2; clear hB hz c0 c1 c2 hb2; obtain ⟨hB, hz, c0, c1, c2⟩ := hn)
        | (go_at_call 17; refine (one_any _ _ _ _ _ _).mono ?_; rintro e w2 ⟨rfl, hb2⟩; have hn := step3 hB hz (by omega) c0 c1 c2 hb2; clear hB hz c0 c1 c2 hb2; obtain ⟨hB, hz, c0, c1, c2⟩ := hn)
        | (go_at_call 20; refine (shift_any _ _ _ _ _ _).mono ?_; rintro e w2 ⟨rfl, hb2⟩; have hn := step3 hB hz (by omega) c0 c1 c2 hb2; clear hB hz c0 c1 c2 hb2; obtain ⟨hB, hz, c0, c1, c2⟩ := hn)
        | (go_at_call 21; refine (conv_any _ _ _ _ _ _ _ _).mono ?_; rintro e w2 ⟨rfl, hb2⟩; have hn := step3 hB hz (by omega) c0 c1 c2 hb2; clear hB hz c0 c1 c2 hb2; obtain ⟨hB, hz, c0, c1, c2⟩ := hn))
      (have hx := ext3 (by omega) c0 c1 c2; obtain ⟨x0, x1, x2⟩ := hx; (refine wp_region_ext (by kernel_rfl) (by kernel_rfl) ?_; (repeat (go_big_quiet_step (((go_at_call 16; exact Calls.ext_of (ltwo_any _ _ _ _ _ _ _)))))); refine wpQuiet_nil ?_; intro w2 hw'; have hb2 := below_of_ext hw'; clear hw'); clear x0 x1 x2; have hn := step3 hB hz (by omega) c0 c1 c2 hb2; clear hB hz c0 c1 c2 hb2; obtain ⟨hB, hz, c0, c1, c2⟩ := hn)
      go_wp2_with (first
        | (go_at_call 16; refine (ltwo_any _ _ _ _ _ _ _).mono ?_; rintro e w2 ⟨rfl, hb2⟩; have hn := step3 hB hz (by omega) c0 c1 c2 hb2; clear hB hz c0 c1 c2 hb2; obtain ⟨hB, hz, c0, c1, c2⟩ := hn)
        | (go_at_call 12; refine (wakes_any _).mono ?_; rintro e w2 ⟨rfl, hb2⟩; have hn := step3 hB hz (by omega) c0 c1 c2 hb2; clear hB hz c0 c1 c2 hb2; obtain ⟨hB, hz, c0, c1, c2⟩ := hn)
        | (go_at_call 19; refine (value_any _ _ _ _ _).mono ?_; rintro e w2 ⟨rfl, hb2⟩; have hn := step3 hB hz (by omega) c0 c1 c2 hb2; clear hB hz c0 c1 c2 hb2; obtain ⟨hB, hz, c0, c1, c2⟩ := hn)
        | (go_at_call 18; refine (two_any _ _ _ _ _ _ _).mono ?_; rintro e w2 ⟨rfl, hb2⟩; have hn := step3 hB hz (by omega) c0 c1 c2 hb2; clear hB hz c0 c1 c2 hb2; obtain ⟨hB, hz, c0, c1, c2⟩ := hn)
        | (go_at_call 15; refine (isw_any _ _ _ _ _).mono ?_; rintro e w2 ⟨rfl, hb2⟩; have hn := step3 hB hz (by omega) c0 c1 c2 hb2; clear hB hz c0 c1 c2 hb2; obtain ⟨hB, hz, c0, c1, c2⟩ := hn)
        | (go_at_call 14; refine (cut_any _ _ _ _ _).mono ?_; rintro e w2 ⟨rfl, hb2⟩; have hn := step3 hB hz (by omega) c0 c1 c2 hb2; clear hB hz c0 c1 c2 hb2; obtain ⟨hB, hz, c0, c1, c2⟩ := hn)
        | (go_at_call 17; refine (one_any _ _ _ _ _ _).mono ?_; rintro e w2 ⟨rfl, hb2⟩; have hn := step3 hB hz (by omega) c0 c1 c2 hb2; clear hB hz c0 c1 c2 hb2; obtain ⟨hB, hz, c0, c1, c2⟩ := hn)
        | (go_at_call 20; refine (shift_any _ _ _ _ _ _).mono ?_; rintro e w2 ⟨rfl, hb2⟩; have hn := step3 hB hz (by omega) c0 c1 c2 hb2; clear hB hz c0 c1 c2 hb2; obtain ⟨hB, hz, c0, c1, c2⟩ := hn)
        | (go_at_call 21; refine (conv_any _ _ _ _ _ _ _ _).mono ?_; rintro e w2 ⟨rfl, hb2⟩; have hn := step3 hB hz (by omega) c0 c1 c2 hb2; clear hB hz c0 c1 c2 hb2; obtain ⟨hB, hz, c0, c1, c2⟩ := hn))
      (have hx := ext3 (by omega) c0 c1 c2; obtain ⟨x0, x1, x2⟩ := hx; (refine wp_region_ext (by kernel_rfl) (by kernel_rfl) ?_; (repeat (go_big_quiet_step (((go_at_call 16; exact Calls.ext_of (ltwo_any _ _ _ _ _ _ _)))))); refine wpQuiet_nil ?_; intro w2 hw'; have hb2 := below_of_ext hw'; clear hw'); clear x0 x1 x2; have hn := step3 hB hz (by omega) c0 c1 c2 hb2; clear hB hz c0 c1 c2 hb2; obtain ⟨hB, hz, c0, c1, c2⟩ := hn)
      go_wp2
      go_ret
      exact ⟨rfl, hB⟩
    · go_enter Try.func5, Try.ntmps5
      go_wp2_with (first | (go_at_call 13; refine (hmade.out _).mono ?_; rintro e w2 ⟨rfl, hb2⟩; have hn := box33f (T := 23) (T' := 34) hb2; clear hb2; obtain ⟨hB, hz, c0, c1, c2, d0, d1, d2, f0, f1, f2⟩ := hn))
      have hn := boxset (.bool false) (.bool S') (.int .i64 W') hB hz c0 c1 c2 d0 d1 d2; clear hB hz c0 c1 c2 d0 d1 d2 f0 f1 f2
      generalize hw3 : ((World.setCell _ ⟨w.heap.size, 0, none⟩ (.bool false)).setCell ⟨w.heap.size, 1, none⟩ (.bool S')).setCell ⟨w.heap.size, 2, none⟩ (.int .i64 W') = w3 at hn ⊢
      obtain ⟨hB, hz, c0, c1, c2, d0, d1, d2⟩ := hn w3 rfl
      clear hn hw3
      (have hx := ext3 (by omega) c0 c1 c2; have hy := ext3 (by omega) d0 d1 d2; obtain ⟨x0, x1, x2⟩ := hx; obtain ⟨y0, y1, y2⟩ := hy; (refine wp_region_ext (by kernel_rfl) (by kernel_rfl) ?_; (repeat (go_big_quiet_step ((first | (go_at_call 14; (with_reducible exact Calls.ext_of (hcut0.out _))) | (go_at_call 14; (with_reducible exact Calls.ext_of (hcut1.out _))) | (go_at_call 14; (with_reducible exact Calls.ext_of (hcut2.out _))))))); refine wpQuiet_nil ?_; intro w2 hw'; have hb2 := below_of_ext hw'; clear hw'); clear x0 x1 x2 y0 y1 y2; have hn := step3 hB hz (by omega) c0 c1 c2 hb2; clear hB hz c0 c1 c2 hb2; obtain ⟨hB, hz, c0, c1, c2⟩ := hn; clear d0 d1 d2)
      go_wp2
      (have hx := ext3 (by omega) c0 c1 c2; obtain ⟨x0, x1, x2⟩ := hx; (refine wp_region_ext (by kernel_rfl) (by kernel_rfl) ?_; (repeat (go_big_quiet_step (((go_at_call 16; exact Calls.ext_of (ltwo_any _ _ _ _ _ _ _)))))); refine wpQuiet_nil ?_; intro w2 hw'; have hb2 := below_of_ext hw'; clear hw'); clear x0 x1 x2; have hn := step3 hB hz (by omega) c0 c1 c2 hb2; clear hB hz c0 c1 c2 hb2; obtain ⟨hB, hz, c0, c1, c2⟩ := hn)
      go_wp2_with (first
        | (go_at_call 16; refine (ltwo_any _ _ _ _ _ _ _).mono ?_; rintro e w2 ⟨rfl, hb2⟩; have hn := step3 hB hz (by omega) c0 c1 c2 hb2; clear hB hz c0 c1 c2 hb2; obtain ⟨hB, hz, c0, c1, c2⟩ := hn)
        | (go_at_call 12; refine (wakes_any _).mono ?_; rintro e w2 ⟨rfl, hb2⟩; have hn := step3 hB hz (by omega) c0 c1 c2 hb2; clear hB hz c0 c1 c2 hb2; obtain ⟨hB, hz, c0, c1, c2⟩ := hn)
        | (go_at_call 19; refine (value_any _ _ _ _ _).mono ?_; rintro e w2 ⟨rfl, hb2⟩; have hn := step3 hB hz (by omega) c0 c1 c2 hb2; clear hB hz c0 c1 c2 hb2; obtain ⟨hB, hz, c0, c1, c2⟩ := hn)
        | (go_at_call 18; refine (two_any _ _ _ _ _ _ _).mono ?_; rintro e w2 ⟨rfl, hb2⟩; have hn := step3 hB hz (by omega) c0 c1 c2 hb2; clear hB hz c0 c1 c2 hb2; obtain ⟨hB, hz, c0, c1, c2⟩ := hn)
        | (go_at_call 15; refine (isw_any _ _ _ _ _).mono ?_; rintro e w2 ⟨rfl, hb2⟩; have hn := step3 hB hz (by omega) c0 c1 c2 hb2; clear hB hz c0 c1 c2 hb2; obtain ⟨hB, hz, c0, c1, c2⟩ := hn)
        | (go_at_call 14; refine (cut_any _ _ _ _ _).mono ?_; rintro e w2 ⟨rfl, hb2⟩; have hn := step3 hB hz (by omega) c0 c1 c2 hb2; clear hB hz c0 c1 c2 hb2; obtain ⟨hB, hz, c0, c1, c2⟩ := hn)
        | (go_at_call 17; refine (one_any _ _ _ _ _ _).mono ?_; rintro e w2 ⟨rfl, hb2⟩; have hn := step3 hB hz (by omega) c0 c1 c2 hb2; clear hB hz c0 c1 c2 hb2; obtain ⟨hB, hz, c0, c1, c2⟩ := hn)
        | (go_at_call 20; refine (shift_any _ _ _ _ _ _).mono ?_; rintro e w2 ⟨rfl, hb2⟩; have hn := step3 hB hz (by omega) c0 c1 c2 hb2; clear hB hz c0 c1 c2 hb2; obtain ⟨hB, hz, c0, c1, c2⟩ := hn)
        | (go_at_call 21; refine (conv_any _ _ _ _ _ _ _ _).mono ?_; rintro e w2 ⟨rfl, hb2⟩; have hn := step3 hB hz (by omega) c0 c1 c2 hb2; clear hB hz c0 c1 c2 hb2; obtain ⟨hB, hz, c0, c1, c2⟩ := hn))
      (have hx := ext3 (by omega) c0 c1 c2; obtain ⟨x0, x1, x2⟩ := hx; (refine wp_region_ext (by kernel_rfl) (by kernel_rfl) ?_; (repeat (go_big_quiet_step (((go_at_call 16; exact Calls.ext_of (ltwo_any _ _ _ _ _ _ _)))))); refine wpQuiet_nil ?_; intro w2 hw'; have hb2 := below_of_ext hw'; clear hw'); clear x0 x1 x2; have hn := step3 hB hz (by omega) c0 c1 c2 hb2; clear hB hz c0 c1 c2 hb2; obtain ⟨hB, hz, c0, c1, c2⟩ := hn)
      go_wp2_with (first
        | (go_at_call 16; refine (ltwo_any _ _ _ _ _ _ _).mono ?_; rintro e w2 ⟨rfl, hb2⟩; have hn := step3 hB hz (by omega) c0 c1 c2 hb2; clear hB hz c0 c1 c2 hb2; obtain ⟨hB, hz, c0, c1, c2⟩ := hn)
        | (go_at_call 12; refine (wakes_any _).mono ?_; rintro e w2 ⟨rfl, hb2⟩; have hn := step3 hB hz (by omega) c0 c1 c2 hb2; clear hB hz c0 c1 c2 hb2; obtain ⟨hB, hz, c0, c1, c2⟩ := hn)
        | (go_at_call 19; refine (value_any _ _ _ _ _).mono ?_; rintro e w2 ⟨rfl, hb2⟩; have hn := step3 hB hz (by omega) c0 c1 c2 hb2; clear hB hz c0 c1 c2 hb2; obtain ⟨hB, hz, c0, c1, c2⟩ := hn)
        | (go_at_call 18; refine (two_any _ _ _ _ _ _ _).mono ?_; rintro e w2 ⟨rfl, hb2⟩; have hn := step3 hB hz (by omega) c0 c1 c2 hb2; clear hB hz c0 c1 c2 hb2; obtain ⟨hB, hz, c0, c1, c2⟩ := hn)
        | (go_at_call 15; refine (isw_any _ _ _ _ _).mono ?_; rintro e w2 ⟨rfl, hb2⟩; have hn := step3 hB hz (by omega) c0 c1 c2 hb2; clear hB hz c0 c1 c2 hb2; obtain ⟨hB, hz, c0, c1, c2⟩ := hn)
        | (go_at_call 14; refine (cut_any _ _ _ _ _).mono ?_; rintro e w2 ⟨rfl, hb2⟩; have hn := step3 hB hz (by omega) c0 c1 c2 hb2; clear hB hz c0 c1 c2 hb2; obtain ⟨hB, hz, c0, c1, c2⟩ := hn)
        | (go_at_call 17; refine (one_any _ _ _ _ _ _).mono ?_; rintro e w2 ⟨rfl, hb2⟩; have hn := step3 hB hz (by omega) c0 c1 c2 hb2; clear hB hz c0 c1 c2 hb2; obtain ⟨hB, hz, c0, c1, c2⟩ := hn)
        | (go_at_call 20; refine (shift_any _ _ _ _ _ _).mono ?_; rintro e w2 ⟨rfl, hb2⟩; have hn := step3 hB hz (by omega) c0 c1 c2 hb2; clear hB hz c0 c1 c2 hb2; obtain ⟨hB, hz, c0, c1, c2⟩ := hn)
        | (go_at_call 21; refine (conv_any _ _ _ _ _ _ _ _).mono ?_; rintro e w2 ⟨rfl, hb2⟩; have hn := step3 hB hz (by omega) c0 c1 c2 hb2; clear hB hz c0 c1 c2 hb2; obtain ⟨hB, hz, c0, c1, c2⟩ := hn))
      (have hx := ext3 (by omega) c0 c1 c2; obtain ⟨x0, x1, x2⟩ := hx; (refine wp_region_ext (by kernel_rfl) (by kernel_rfl) ?_; (repeat (go_big_quiet_step (((go_at_call 16; exact Calls.ext_of (ltwo_any _ _ _ _ _ _ _)))))); refine wpQuiet_nil ?_; intro w2 hw'; have hb2 := below_of_ext hw'; clear hw'); clear x0 x1 x2; have hn := step3 hB hz (by omega) c0 c1 c2 hb2; clear hB hz c0 c1 c2 hb2; obtain ⟨hB, hz, c0, c1, c2⟩ := hn)
      go_wp2
      go_ret
      exact ⟨rfl, hB⟩
    · go_enter Try.func5, Try.ntmps5
      go_wp2_with (first | (go_at_call 13; refine (hmade.out _).mono ?_; rintro e w2 ⟨rfl, hb2⟩; have hn := box33f (T := 23) (T' := 34) hb2; clear hb2; obtain ⟨hB, hz, c0, c1, c2, d0, d1, d2, f0, f1, f2⟩ := hn))
      have hn := boxset (.bool false) (.bool S') (.int .i64 W') hB hz c0 c1 c2 d0 d1 d2; clear hB hz c0 c1 c2 d0 d1 d2 f0 f1 f2
      generalize hw3 : ((World.setCell _ ⟨w.heap.size, 0, none⟩ (.bool false)).setCell ⟨w.heap.size, 1, none⟩ (.bool S')).setCell ⟨w.heap.size, 2, none⟩ (.int .i64 W') = w3 at hn ⊢
      obtain ⟨hB, hz, c0, c1, c2, d0, d1, d2⟩ := hn w3 rfl
      clear hn hw3
      (have hx := ext3 (by omega) c0 c1 c2; have hy := ext3 (by omega) d0 d1 d2; obtain ⟨x0, x1, x2⟩ := hx; obtain ⟨y0, y1, y2⟩ := hy; (refine wp_region_ext (by kernel_rfl) (by kernel_rfl) ?_; (repeat (go_big_quiet_step ((first | (go_at_call 14; (with_reducible exact Calls.ext_of (hcut0.out _))) | (go_at_call 14; (with_reducible exact Calls.ext_of (hcut1.out _))) | (go_at_call 14; (with_reducible exact Calls.ext_of (hcut2.out _))))))); refine wpQuiet_nil ?_; intro w2 hw'; have hb2 := below_of_ext hw'; clear hw'); clear x0 x1 x2 y0 y1 y2; have hn := step3 hB hz (by omega) c0 c1 c2 hb2; clear hB hz c0 c1 c2 hb2; obtain ⟨hB, hz, c0, c1, c2⟩ := hn; clear d0 d1 d2)
      go_wp2
      (have hx := ext3 (by omega) c0 c1 c2; obtain ⟨x0, x1, x2⟩ := hx; (refine wp_region_ext (by kernel_rfl) (by kernel_rfl) ?_; (repeat (go_big_quiet_step (((go_at_call 16; exact Calls.ext_of (ltwo_any _ _ _ _ _ _ _)))))); refine wpQuiet_nil ?_; intro w2 hw'; have hb2 := below_of_ext hw'; clear hw'); clear x0 x1 x2; have hn := step3 hB hz (by omega) c0 c1 c2 hb2; clear hB hz c0 c1 c2 hb2; obtain ⟨hB, hz, c0, c1, c2⟩ := hn)
      go_wp2_with (first
        | (go_at_call 16; refine (ltwo_any _ _ _ _ _ _ _).mono ?_; rintro e w2 ⟨rfl, hb2⟩; have hn := step3 hB hz (by omega) c0 c1 c2 hb2; clear hB hz c0 c1 c2 hb2; obtain ⟨hB, hz, c0, c1, c2⟩ := hn)
        | (go_at_call 12; refine (wakes_any _).mono ?_; rintro e w2 ⟨rfl, hb2⟩; have hn := step3 hB hz (by omega) c0 c1 c2 hb2; clear hB hz c0 c1 c2 hb2; obtain ⟨hB, hz, c0, c1, c2⟩ := hn)
        | (go_at_call 19; refine (value_any _ _ _ _ _).mono ?_; rintro e w2 ⟨rfl, hb2⟩; have hn := step3 hB hz (by omega) c0 c1 c2 hb2; clear hB hz c0 c1 c2 hb2; obtain ⟨hB, hz, c0, c1, c2⟩ := hn)
        | (go_at_call 18; refine (two_any _ _ _ _ _ _ _).mono ?_; rintro e w2 ⟨rfl, hb2⟩; have hn := step3 hB hz (by omega) c0 c1 c2 hb2; clear hB hz c0 c1 c2 hb2; obtain ⟨hB, hz, c0, c1, c2⟩ := hn)
        | (go_at_call 15; refine (isw_any _ _ _ _ _).mono ?_; rintro e w2 ⟨rfl, hb2⟩; have hn := step3 hB hz (by omega) c0 c1 c2 hb2; clear hB hz c0 c1 c2 hb2; obtain ⟨hB, hz, c0, c1, c2⟩ := hn)
        | (go_at_call 14; refine (cut_any _ _ _ _ _).mono ?_; rintro e w2 ⟨rfl, hb2⟩; have hn := step3 hB hz (by omega) c0 c1 c2 hb2; clear hB hz c0 c1 c2 hb2; obtain ⟨hB, hz, c0, c1, c2⟩ := hn)
        | (go_at_call 17; refine (one_any _ _ _ _ _ _).mono ?_; rintro e w2 ⟨rfl, hb2⟩; have hn := step3 hB hz (by omega) c0 c1 c2 hb2; clear hB hz c0 c1 c2 hb2; obtain ⟨hB, hz, c0, c1, c2⟩ := hn)
        | (go_at_call 20; refine (shift_any _ _ _ _ _ _).mono ?_; rintro e w2 ⟨rfl, hb2⟩; have hn := step3 hB hz (by omega) c0 c1 c2 hb2; clear hB hz c0 c1 c2 hb2; obtain ⟨hB, hz, c0, c1, c2⟩ := hn)
        | (go_at_call 21; refine (conv_any _ _ _ _ _ _ _ _).mono ?_; rintro e w2 ⟨rfl, hb2⟩; have hn := step3 hB hz (by omega) c0 c1 c2 hb2; clear hB hz c0 c1 c2 hb2; obtain ⟨hB, hz, c0, c1, c2⟩ := hn))
      (have hx := ext3 (by omega) c0 c1 c2; obtain ⟨x0, x1, x2⟩ := hx; (refine wp_region_ext (by kernel_rfl) (by kernel_rfl) ?_; (repeat (go_big_quiet_step (((go_at_call 16; exact Calls.ext_of (ltwo_any _ _ _ _ _ _ _)))))); refine wpQuiet_nil ?_; intro w2 hw'; have hb2 := below_of_ext hw'; clear hw'); clear x0 x1 x2; have hn := step3 hB hz (by omega) c0 c1 c2 hb2; clear hB hz c0 c1 c2 hb2; obtain ⟨hB, hz, c0, c1, c2⟩ := hn)
      go_wp2_with (first
        | (go_at_call 16; refine (ltwo_any _ _ _ _ _ _ _).mono ?_; rintro e w2 ⟨rfl, hb2⟩; have hn := step3 hB hz (by omega) c0 c1 c2 hb2; clear hB hz c0 c1 c2 hb2; obtain ⟨hB, hz, c0, c1, c2⟩ := hn)
        | (go_at_call 12; refine (wakes_any _).mono ?_; rintro e w2 ⟨rfl, hb2⟩; have hn := step3 hB hz (by omega) c0 c1 c2 hb2; clear hB hz c0 c1 c2 hb2; obtain ⟨hB, hz, c0, c1, c2⟩ := hn)
        | (go_at_call 19; refine (value_any _ _ _ _ _).mono ?_; rintro e w2 ⟨rfl, hb2⟩; have hn := step3 hB hz (by omega) c0 c1 c2 hb2; clear hB hz c0 c1 c2 hb2; obtain ⟨hB, hz, c0, c1, c2⟩ := hn)
        | (go_at_call 18; refine (two_any _ _ _ _ _ _ _).mono ?_; rintro e w2 ⟨rfl, hb2⟩; have hn := step3 hB hz (by omega) c0 c1 c2 hb2; clear hB hz c0 c1 c2 hb2; obtain ⟨hB, hz, c0, c1, c2⟩ := hn)
        | (go_at_call 15; refine (isw_any _ _ _ _ _).mono ?_; rintro e w2 ⟨rfl, hb2⟩; have hn := step3 hB hz (by omega) c0 c1 c2 hb2; clear hB hz c0 c1 c2 hb2; obtain ⟨hB, hz, c0, c1, c2⟩ := hn)
        | (go_at_call 14; refine (cut_any _ _ _ _ _).mono ?_; rintro e w2 ⟨rfl, hb2⟩; have hn := step3 hB hz (by omega) c0 c1 c2 hb2; clear hB hz c0 c1 c2 hb2; obtain ⟨hB, hz, c0, c1, c2⟩ := hn)
        | (go_at_call 17; refine (one_any _ _ _ _ _ _).mono ?_; rintro e w2 ⟨rfl, hb2⟩; have hn := step3 hB hz (by omega) c0 c1 c2 hb2; clear hB hz c0 c1 c2 hb2; obtain ⟨hB, hz, c0, c1, c2⟩ := hn)
        | (go_at_call 20; refine (shift_any _ _ _ _ _ _).mono ?_; rintro e w2 ⟨rfl, hb2⟩; have hn := step3 hB hz (by omega) c0 c1 c2 hb2; clear hB hz c0 c1 c2 hb2; obtain ⟨hB, hz, c0, c1, c2⟩ := hn)
        | (go_at_call 21; refine (conv_any _ _ _ _ _ _ _ _).mono ?_; rintro e w2 ⟨rfl, hb2⟩; have hn := step3 hB hz (by omega) c0 c1 c2 hb2; clear hB hz c0 c1 c2 hb2; obtain ⟨hB, hz, c0, c1, c2⟩ := hn))
      (have hx := ext3 (by omega) c0 c1 c2; obtain ⟨x0, x1, x2⟩ := hx; (refine wp_region_ext (by kernel_rfl) (by kernel_rfl) ?_; (repeat (go_big_quiet_step (((go_at_call 16; exact Calls.ext_of (ltwo_any _ _ _ _ _ _ _)))))); refine wpQuiet_nil ?_; intro w2 hw'; have hb2 := below_of_ext hw'; clear hw'); clear x0 x1 x2; have hn := step3 hB hz (by omega) c0 c1 c2 hb2; clear hB hz c0 c1 c2 hb2; obtain ⟨hB, hz, c0, c1, c2⟩ := hn)
      go_wp2
      go_ret
      exact ⟨rfl, hB⟩
  · have hv : (valOk false S' W' a = true ∧ valOk false S' W' b = true ∧ (decide (valV false S' W' a < valV false S' W' b)) = false) ∨ valOk false S' W' a = false ∨ (valOk false S' W' a = true ∧ valOk false S' W' b = false) := by
      by_cases h : valOk false S' W' a = true
      · by_cases h' : valOk false S' W' b = true
        · exact .inl ⟨h, h', by rw [val_less h h', h1]⟩
        · exact .inr (.inr ⟨h, by simpa using h'⟩)
      · exact .inr (.inl (by simpa using h))
    have hne : (a != b) = true := by simpa using h0
    simp only [h0, hne, h1, h2, Bool.not_false, Bool.not_true] at hO
    obtain ⟨e1, e2, e3, e4, e5, e6, e7, e8, e9⟩ := hO
    simp only [bit, if_true, if_false, Bool.false_eq_true] at e1 e2 e3 e4 e5 e6 e7 e8 e9
    clear h1 h2 hne
    rcases hv with ⟨v1, v2, v3⟩ | v1 | ⟨v1, v2⟩
    · go_enter Try.func5, Try.ntmps5
      go_wp2_with (first | (go_at_call 13; refine (hmade.out _).mono ?_; rintro e w2 ⟨rfl, hb2⟩; have hn := box33f (T := 23) (T' := 34) hb2; clear hb2; obtain ⟨hB, hz, c0, c1, c2, d0, d1, d2, f0, f1, f2⟩ := hn))
      have hn := boxset (.bool false) (.bool S') (.int .i64 W') hB hz c0 c1 c2 d0 d1 d2; clear hB hz c0 c1 c2 d0 d1 d2 f0 f1 f2
      generalize hw3 : ((World.setCell _ ⟨w.heap.size, 0, none⟩ (.bool false)).setCell ⟨w.heap.size, 1, none⟩ (.bool S')).setCell ⟨w.heap.size, 2, none⟩ (.int .i64 W') = w3 at hn ⊢
      obtain ⟨hB, hz, c0, c1, c2, d0, d1, d2⟩ := hn w3 rfl
      clear hn hw3
      (have hx := ext3 (by omega) c0 c1 c2; have hy := ext3 (by omega) d0 d1 d2; obtain ⟨x0, x1, x2⟩ := hx; obtain ⟨y0, y1, y2⟩ := hy; (refine wp_region_ext (by kernel_rfl) (by kernel_rfl) ?_; (repeat (go_big_quiet_step ((first | (go_at_call 14; (with_reducible exact Calls.ext_of (hcut0.out _))) | (go_at_call 14; (with_reducible exact Calls.ext_of (hcut1.out _))) | (go_at_call 14; (with_reducible exact Calls.ext_of (hcut2.out _))))))); refine wpQuiet_nil ?_; intro w2 hw'; have hb2 := below_of_ext hw'; clear hw'); clear x0 x1 x2 y0 y1 y2; have hn := step3 hB hz (by omega) c0 c1 c2 hb2; clear hB hz c0 c1 c2 hb2; obtain ⟨hB, hz, c0, c1, c2⟩ := hn; clear d0 d1 d2)
      go_wp2
      (have hx := ext3 (by omega) c0 c1 c2; obtain ⟨x0, x1, x2⟩ := hx; (refine wp_region_ext (by kernel_rfl) (by kernel_rfl) ?_; (repeat (go_big_quiet_step (((go_at_call 16; exact Calls.ext_of (ltwo_any _ _ _ _ _ _ _)))))); refine wpQuiet_nil ?_; intro w2 hw'; have hb2 := below_of_ext hw'; clear hw'); clear x0 x1 x2; have hn := step3 hB hz (by omega) c0 c1 c2 hb2; clear hB hz c0 c1 c2 hb2; obtain ⟨hB, hz, c0, c1, c2⟩ := hn)
      go_wp2_with (first
        | (go_at_call 16; refine (ltwo_any _ _ _ _ _ _ _).mono ?_; rintro e w2 ⟨rfl, hb2⟩; have hn := step3 hB hz (by omega) c0 c1 c2 hb2; clear hB hz c0 c1 c2 hb2; obtain ⟨hB, hz, c0, c1, c2⟩ := hn)
        | (go_at_call 12; refine (wakes_any _).mono ?_; rintro e w2 ⟨rfl, hb2⟩; have hn := step3 hB hz (by omega) c0 c1 c2 hb2; clear hB hz c0 c1 c2 hb2; obtain ⟨hB, hz, c0, c1, c2⟩ := hn)
        | (go_at_call 19; refine (value_any _ _ _ _ _).mono ?_; rintro e w2 ⟨rfl, hb2⟩; have hn := step3 hB hz (by omega) c0 c1 c2 hb2; clear hB hz c0 c1 c2 hb2; obtain ⟨hB, hz, c0, c1, c2⟩ := hn)
        | (go_at_call 18; refine (two_any _ _ _ _ _ _ _).mono ?_; rintro e w2 ⟨rfl, hb2⟩; have hn := step3 hB hz (by omega) c0 c1 c2 hb2; clear hB hz c0 c1 c2 hb2; obtain ⟨hB, hz, c0, c1, c2⟩ := hn)
        | (go_at_call 15; refine (isw_any _ _ _ _ _).mono ?_; rintro e w2 ⟨rfl, hb2⟩; have hn := step3 hB hz (by omega) c0 c1 c2 hb2; clear hB hz c0 c1 c2 hb2; obtain ⟨hB, hz, c0, c1, c2⟩ := hn)
        | (go_at_call 14; refine (cut_any _ _ _ _ _).mono ?_; rintro e w2 ⟨rfl, hb2⟩; have hn := step3 hB hz (by omega) c0 c1 c2 hb2; clear hB hz c0 c1 c2 hb2; obtain ⟨hB, hz, c0, c1, c2⟩ := hn)
        | (go_at_call 17; refine (one_any _ _ _ _ _ _).mono ?_; rintro e w2 ⟨rfl, hb2⟩; have hn := step3 hB hz (by omega) c0 c1 c2 hb2; clear hB hz c0 c1 c2 hb2; obtain ⟨hB, hz, c0, c1, c2⟩ := hn)
        | (go_at_call 20; refine (shift_any _ _ _ _ _ _).mono ?_; rintro e w2 ⟨rfl, hb2⟩; have hn := step3 hB hz (by omega) c0 c1 c2 hb2; clear hB hz c0 c1 c2 hb2; obtain ⟨hB, hz, c0, c1, c2⟩ := hn)
        | (go_at_call 21; refine (conv_any _ _ _ _ _ _ _ _).mono ?_; rintro e w2 ⟨rfl, hb2⟩; have hn := step3 hB hz (by omega) c0 c1 c2 hb2; clear hB hz c0 c1 c2 hb2; obtain ⟨hB, hz, c0, c1, c2⟩ := hn))
      (have hx := ext3 (by omega) c0 c1 c2; obtain ⟨x0, x1, x2⟩ := hx; (refine wp_region_ext (by kernel_rfl) (by kernel_rfl) ?_; (repeat (go_big_quiet_step (((go_at_call 16; exact Calls.ext_of (ltwo_any _ _ _ _ _ _ _)))))); refine wpQuiet_nil ?_; intro w2 hw'; have hb2 := below_of_ext hw'; clear hw'); clear x0 x1 x2; have hn := step3 hB hz (by omega) c0 c1 c2 hb2; clear hB hz c0 c1 c2 hb2; obtain ⟨hB, hz, c0, c1, c2⟩ := hn)
      go_wp2_with (first
        | (go_at_call 16; refine (ltwo_any _ _ _ _ _ _ _).mono ?_; rintro e w2 ⟨rfl, hb2⟩; have hn := step3 hB hz (by omega) c0 c1 c2 hb2; clear hB hz c0 c1 c2 hb2; obtain ⟨hB, hz, c0, c1, c2⟩ := hn)
        | (go_at_call 12; refine (wakes_any _).mono ?_; rintro e w2 ⟨rfl, hb2⟩; have hn := step3 hB hz (by omega) c0 c1 c2 hb2; clear hB hz c0 c1 c2 hb2; obtain ⟨hB, hz, c0, c1, c2⟩ := hn)
        | (go_at_call 19; refine (value_any _ _ _ _ _).mono ?_; rintro e w2 ⟨rfl, hb2⟩; have hn := step3 hB hz (by omega) c0 c1 c2 hb2; clear hB hz c0 c1 c2 hb2; obtain ⟨hB, hz, c0, c1, c2⟩ := hn)
        | (go_at_call 18; refine (two_any _ _ _ _ _ _ _).mono ?_; rintro e w2 ⟨rfl, hb2⟩; have hn := step3 hB hz (by omega) c0 c1 c2 hb2; clear hB hz c0 c1 c2 hb2; obtain ⟨hB, hz, c0, c1, c2⟩ := hn)
        | (go_at_call 15; refine (isw_any _ _ _ _ _).mono ?_; rintro e w2 ⟨rfl, hb2⟩; have hn := step3 hB hz (by omega) c0 c1 c2 hb2; clear hB hz c0 c1 c2 hb2; obtain ⟨hB, hz, c0, c1, c2⟩ := hn)
        | (go_at_call 14; refine (cut_any _ _ _ _ _).mono ?_; rintro e w2 ⟨rfl, hb2⟩; have hn := step3 hB hz (by omega) c0 c1 c2 hb2; clear hB hz c0 c1 c2 hb2; obtain ⟨hB, hz, c0, c1, c2⟩ := hn)
        | (go_at_call 17; refine (one_any _ _ _ _ _ _).mono ?_; rintro e w2 ⟨rfl, hb2⟩; have hn := step3 hB hz (by omega) c0 c1 c2 hb2; clear hB hz c0 c1 c2 hb2; obtain ⟨hB, hz, c0, c1, c2⟩ := hn)
        | (go_at_call 20; refine (shift_any _ _ _ _ _ _).mono ?_; rintro e w2 ⟨rfl, hb2⟩; have hn := step3 hB hz (by omega) c0 c1 c2 hb2; clear hB hz c0 c1 c2 hb2; obtain ⟨hB, hz, c0, c1, c2⟩ := hn)
        | (go_at_call 21; refine (conv_any _ _ _ _ _ _ _ _).mono ?_; rintro e w2 ⟨rfl, hb2⟩; have hn := step3 hB hz (by omega) c0 c1 c2 hb2; clear hB hz c0 c1 c2 hb2; obtain ⟨hB, hz, c0, c1, c2⟩ := hn))
      (have hx := ext3 (by omega) c0 c1 c2; obtain ⟨x0, x1, x2⟩ := hx; (refine wp_region_ext (by kernel_rfl) (by kernel_rfl) ?_; (repeat (go_big_quiet_step (((go_at_call 16; exact Calls.ext_of (ltwo_any _ _ _ _ _ _ _)))))); refine wpQuiet_nil ?_; intro w2 hw'; have hb2 := below_of_ext hw'; clear hw'); clear x0 x1 x2; have hn := step3 hB hz (by omega) c0 c1 c2 hb2; clear hB hz c0 c1 c2 hb2; obtain ⟨hB, hz, c0, c1, c2⟩ := hn)
      go_wp2
      go_ret
      exact ⟨rfl, hB⟩
    · go_enter Try.func5, Try.ntmps5
      go_wp2_with (first | (go_at_call 13; refine (hmade.out _).mono ?_; rintro e w2 ⟨rfl, hb2⟩; have hn := box33f (T := 23) (T' := 34) hb2; clear hb2; obtain ⟨hB, hz, c0, c1, c2, d0, d1, d2, f0, f1, f2⟩ := hn))
      have hn := boxset (.bool false) (.bool S') (.int .i64 W') hB hz c0 c1 c2 d0 d1 d2; clear hB hz c0 c1 c2 d0 d1 d2 f0 f1 f2
      generalize hw3 : ((World.setCell _ ⟨w.heap.size, 0, none⟩ (.bool false)).setCell ⟨w.heap.size, 1, none⟩ (.bool S')).setCell ⟨w.heap.size, 2, none⟩ (.int .i64 W') = w3 at hn ⊢
      obtain ⟨hB, hz, c0, c1, c2, d0, d1, d2⟩ := hn w3 rfl
      clear hn hw3
      (have hx := ext3 (by omega) c0 c1 c2; have hy := ext3 (by omega) d0 d1 d2; obtain ⟨x0, x1, x2⟩ := hx; obtain ⟨y0, y1, y2⟩ := hy; (refine wp_region_ext (by kernel_rfl) (by kernel_rfl) ?_; (repeat (go_big_quiet_step ((first | (go_at_call 14; (with_reducible exact Calls.ext_of (hcut0.out _))) | (go_at_call 14; (with_reducible exact Calls.ext_of (hcut1.out _))) | (go_at_call 14; (with_reducible exact Calls.ext_of (hcut2.out _))))))); refine wpQuiet_nil ?_; intro w2 hw'; have hb2 := below_of_ext hw'; clear hw'); clear x0 x1 x2 y0 y1 y2; have hn := step3 hB hz (by omega) c0 c1 c2 hb2; clear hB hz c0 c1 c2 hb2; obtain ⟨hB, hz, c0, c1, c2⟩ := hn; clear d0 d1 d2)
      go_wp2
      (have hx := ext3 (by omega) c0 c1 c2; obtain ⟨x0, x1, x2⟩ := hx; (refine wp_region_ext (by kernel_rfl) (by kernel_rfl) ?_; (repeat (go_big_quiet_step (((go_at_call 16; exact Calls.ext_of (ltwo_any _ _ _ _ _ _ _)))))); refine wpQuiet_nil ?_; intro w2 hw'; have hb2 := below_of_ext hw'; clear hw'); clear x0 x1 x2; have hn := step3 hB hz (by omega) c0 c1 c2 hb2; clear hB hz c0 c1 c2 hb2; obtain ⟨hB, hz, c0, c1, c2⟩ := hn)
      go_wp2_with (first
        | (go_at_call 16; refine (ltwo_any _ _ _ _ _ _ _).mono ?_; rintro e w2 ⟨rfl, hb2⟩; have hn := step3 hB hz (by omega) c0 c1 c2 hb2; clear hB hz c0 c1 c2 hb2; obtain ⟨hB, hz, c0, c1, c2⟩ := hn)
        | (go_at_call 12; refine (wakes_any _).mono ?_; rintro e w2 ⟨rfl, hb2⟩; have hn := step3 hB hz (by omega) c0 c1 c2 hb2; clear hB hz c0 c1 c2 hb2; obtain ⟨hB, hz, c0, c1, c2⟩ := hn)
        | (go_at_call 19; refine (value_any _ _ _ _ _).mono ?_; rintro e w2 ⟨rfl, hb2⟩; have hn := step3 hB hz (by omega) c0 c1 c2 hb2; clear hB hz c0 c1 c2 hb2; obtain ⟨hB, hz, c0, c1, c2⟩ := hn)
        | (go_at_call 18; refine (two_any _ _ _ _ _ _ _).mono ?_; rintro e w2 ⟨rfl, hb2⟩; have hn := step3 hB hz (by omega) c0 c1 c2 hb2; clear hB hz c0 c1 c2 hb2; obtain ⟨hB, hz, c0, c1, c2⟩ := hn)
        | (go_at_call 15; refine (isw_any _ _ _ _ _).mono ?_; rintro e w2 ⟨rfl, hb2⟩; have hn := step3 hB hz (by omega) c0 c1 c2 hb2; clear hB hz c0 c1 c2 hb2; obtain ⟨hB, hz, c0, c1, c2⟩ := hn)
        | (go_at_call 14; refine (cut_any _ _ _ _ _).mono ?_; rintro e w2 ⟨rfl, hb2⟩; have hn := step3 hB hz (by omega) c0 c1 c2 hb2; clear hB hz c0 c1 c2 hb2; obtain ⟨hB, hz, c0, c1, c2⟩ := hn)
        | (go_at_call 17; refine (one_any _ _ _ _ _ _).mono ?_; rintro e w2 ⟨rfl, hb2⟩; have hn := step3 hB hz (by omega) c0 c1 c2 hb2; clear hB hz c0 c1 c2 hb2; obtain ⟨hB, hz, c0, c1, c2⟩ := hn)
        | (go_at_call 20; refine (shift_any _ _ _ _ _ _).mono ?_; rintro e w2 ⟨rfl, hb2⟩; have hn := step3 hB hz (by omega) c0 c1 c2 hb2; clear hB hz c0 c1 c2 hb2; obtain ⟨hB, hz, c0, c1, c2⟩ := hn)
        | (go_at_call 21; refine (conv_any _ _ _ _ _ _ _ _).mono ?_; rintro e w2 ⟨rfl, hb2⟩; have hn := step3 hB hz (by omega) c0 c1 c2 hb2; clear hB hz c0 c1 c2 hb2; obtain ⟨hB, hz, c0, c1, c2⟩ := hn))
      (have hx := ext3 (by omega) c0 c1 c2; obtain ⟨x0, x1, x2⟩ := hx; (refine wp_region_ext (by kernel_rfl) (by kernel_rfl) ?_; (repeat (go_big_quiet_step (((go_at_call 16; exact Calls.ext_of (ltwo_any _ _ _ _ _ _ _)))))); refine wpQuiet_nil ?_; intro w2 hw'; have hb2 := below_of_ext hw'; clear hw'); clear x0 x1 x2; have hn := step3 hB hz (by omega) c0 c1 c2 hb2; clear hB hz c0 c1 c2 hb2; obtain ⟨hB, hz, c0, c1, c2⟩ := hn)
      go_wp2_with (first
        | (go_at_call 16; refine (ltwo_any _ _ _ _ _ _ _).mono ?_; rintro e w2 ⟨rfl, hb2⟩; have hn := step3 hB hz (by omega) c0 c1 c2 hb2; clear hB hz c0 c1 c2 hb2; obtain ⟨hB, hz, c0, c1, c2⟩ := hn)
        | (go_at_call 12; refine (wakes_any _).mono ?_; rintro e w2 ⟨rfl, hb2⟩; have hn := step3 hB hz (by omega) c0 c1 c2 hb2; clear hB hz c0 c1 c2 hb2; obtain ⟨hB, hz, c0, c1, c2⟩ := hn)
        | (go_at_call 19; refine (value_any _ _ _ _ _).mono ?_; rintro e w2 ⟨rfl, hb2⟩; have hn := step3 hB hz (by omega) c0 c1 c2 hb2; clear hB hz c0 c1 c2 hb2; obtain ⟨hB, hz, c0, c1, c2⟩ := hn)
        | (go_at_call 18; refine (two_any _ _ _ _ _ _ _).mono ?_; rintro e w2 ⟨rfl, hb2⟩; have hn := step3 hB hz (by omega) c0 c1 c2 hb2; clear hB hz c0 c1 c2 hb2; obtain ⟨hB, hz, c0, c1, c2⟩ := hn)
        | (go_at_call 15; refine (isw_any _ _ _ _ _).mono ?_; rintro e w2 ⟨rfl, hb2⟩; have hn := step3 hB hz (by omega) c0 c1 c2 hb2; clear hB hz c0 c1 c2 hb2; obtain ⟨hB, hz, c0, c1, c2⟩ := hn)
        | (go_at_call 14; refine (cut_any _ _ _ _ _).mono ?_; rintro e w2 ⟨rfl, hb2⟩; have hn := step3 hB hz (by omega) c0 c1 c2 hb2; clear hB hz c0 c1 c2 hb2; obtain ⟨hB, hz, c0, c1, c2⟩ := hn)
        | (go_at_call 17; refine (one_any _ _ _ _ _ _).mono ?_; rintro e w2 ⟨rfl, hb2⟩; have hn := step3 hB hz (by omega) c0 c1 c2 hb2; clear hB hz c0 c1 c2 hb2; obtain ⟨hB, hz, c0, c1, c2⟩ := hn)
        | (go_at_call 20; refine (shift_any _ _ _ _ _ _).mono ?_; rintro e w2 ⟨rfl, hb2⟩; have hn := step3 hB hz (by omega) c0 c1 c2 hb2; clear hB hz c0 c1 c2 hb2; obtain ⟨hB, hz, c0, c1, c2⟩ := hn)
        | (go_at_call 21; refine (conv_any _ _ _ _ _ _ _ _).mono ?_; rintro e w2 ⟨rfl, hb2⟩; have hn := step3 hB hz (by omega) c0 c1 c2 hb2; clear hB hz c0 c1 c2 hb2; obtain ⟨hB, hz, c0, c1, c2⟩ := hn))
      (have hx := ext3 (by omega) c0 c1 c2; obtain ⟨x0, x1, x2⟩ := hx; (refine wp_region_ext (by kernel_rfl) (by kernel_rfl) ?_; (repeat (go_big_quiet_step (((go_at_call 16; exact Calls.ext_of (ltwo_any _ _ _ _ _ _ _)))))); refine wpQuiet_nil ?_; intro w2 hw'; have hb2 := below_of_ext hw'; clear hw'); clear x0 x1 x2; have hn := step3 hB hz (by omega) c0 c1 c2 hb2; clear hB hz c0 c1 c2 hb2; obtain ⟨hB, hz, c0, c1, c2⟩ := hn)
      go_wp2
      go_ret
      exact ⟨rfl, hB⟩
    · go_enter Try.func5, Try.ntmps5
      go_wp2_with (first | (go_at_call 13; refine (hmade.out _).mono ?_; rintro e w2 ⟨rfl, hb2⟩; have hn := box33f (T := 23) (T' := 34) hb2; clear hb2; obtain ⟨hB, hz, c0, c1, c2, d0, d1, d2, f0, f1, f2⟩ := hn))
      have hn := boxset (.bool false) (.bool S') (.int .i64 W') hB hz c0 c1 c2 d0 d1 d2; clear hB hz c0 c1 c2 d0 d1 d2 f0 f1 f2
      generalize hw3 : ((World.setCell _ ⟨w.heap.size, 0, none⟩ (.bool false)).setCell ⟨w.heap.size, 1, none⟩ (.bool S')).setCell ⟨w.heap.size, 2, none⟩ (.int .i64 W') = w3 at hn ⊢
      obtain ⟨hB, hz, c0, c1, c2, d0, d1, d2⟩ := hn w3 rfl
      clear hn hw3
      (have hx := ext3 (by omega) c0 c1 c2; have hy := ext3 (by omega) d0 d1 d2; obtain ⟨x0, x1, x2⟩ := hx; obtain ⟨y0, y1, y2⟩ := hy; (refine wp_region_ext (by kernel_rfl) (by kernel_rfl) ?_; (repeat (go_big_quiet_step ((first | (go_at_call 14; (with_reducible exact Calls.ext_of (hcut0.out _))) | (go_at_call 14; (with_reducible exact Calls.ext_of (hcut1.out _))) | (go_at_call 14; (with_reducible exact Calls.ext_of (hcut2.out _))))))); refine wpQuiet_nil ?_; intro w2 hw'; have hb2 := below_of_ext hw'; clear hw'); clear x0 x1 x2 y0 y1 y2; have hn := step3 hB hz (by omega) c0 c1 c2 hb2; clear hB hz c0 c1 c2 hb2; obtain ⟨hB, hz, c0, c1, c2⟩ := hn; clear d0 d1 d2)
      go_wp2
      (have hx := ext3 (by omega) c0 c1 c2; obtain ⟨x0, x1, x2⟩ := hx; (refine wp_region_ext (by kernel_rfl) (by kernel_rfl) ?_; (repeat (go_big_quiet_step (((go_at_call 16; exact Calls.ext_of (ltwo_any _ _ _ _ _ _ _)))))); refine wpQuiet_nil ?_; intro w2 hw'; have hb2 := below_of_ext hw'; clear hw'); clear x0 x1 x2; have hn := step3 hB hz (by omega) c0 c1 c2 hb2; clear hB hz c0 c1 c2 hb2; obtain ⟨hB, hz, c0, c1, c2⟩ := hn)
      go_wp2_with (first
        | (go_at_call 16; refine (ltwo_any _ _ _ _ _ _ _).mono ?_; rintro e w2 ⟨rfl, hb2⟩; have hn := step3 hB hz (by omega) c0 c1 c2 hb2; clear hB hz c0 c1 c2 hb2; obtain ⟨hB, hz, c0, c1, c2⟩ := hn)
        | (go_at_call 12; refine (wakes_any _).mono ?_; rintro e w2 ⟨rfl, hb2⟩; have hn := step3 hB hz (by omega) c0 c1 c2 hb2; clear hB hz c0 c1 c2 hb2; obtain ⟨hB, hz, c0, c1, c2⟩ := hn)
        | (go_at_call 19; refine (value_any _ _ _ _ _).mono ?_; rintro e w2 ⟨rfl, hb2⟩; have hn := step3 hB hz (by omega) c0 c1 c2 hb2; clear hB hz c0 c1 c2 hb2; obtain ⟨hB, hz, c0, c1, c2⟩ := hn)
        | (go_at_call 18; refine (two_any _ _ _ _ _ _ _).mono ?_; rintro e w2 ⟨rfl, hb2⟩; have hn := step3 hB hz (by omega) c0 c1 c2 hb2; clear hB hz c0 c1 c2 hb2; obtain ⟨hB, hz, c0, c1, c2⟩ := hn)
        | (go_at_call 15; refine (isw_any _ _ _ _ _).mono ?_; rintro e w2 ⟨rfl, hb2⟩; have hn := step3 hB hz (by omega) c0 c1 c2 hb2; clear hB hz c0 c1 c2 hb2; obtain ⟨hB, hz, c0, c1, c2⟩ := hn)
        | (go_at_call 14; refine (cut_any _ _ _ _ _).mono ?_; rintro e w2 ⟨rfl, hb2⟩; have hn := step3 hB hz (by omega) c0 c1 c2 hb2; clear hB hz c0 c1 c2 hb2; obtain ⟨hB, hz, c0, c1, c2⟩ := hn)
        | (go_at_call 17; refine (one_any _ _ _ _ _ _).mono ?_; rintro e w2 ⟨rfl, hb2⟩; have hn := step3 hB hz (by omega) c0 c1 c2 hb2; clear hB hz c0 c1 c2 hb2; obtain ⟨hB, hz, c0, c1, c2⟩ := hn)
        | (go_at_call 20; refine (shift_any _ _ _ _ _ _).mono ?_; rintro e w2 ⟨rfl, hb2⟩; have hn := step3 hB hz (by omega) c0 c1 c2 hb2; clear hB hz c0 c1 c2 hb2; obtain ⟨hB, hz, c0, c1, c2⟩ := hn)
        | (go_at_call 21; refine (conv_any _ _ _ _ _ _ _ _).mono ?_; rintro e w2 ⟨rfl, hb2⟩; have hn := step3 hB hz (by omega) c0 c1 c2 hb2; clear hB hz c0 c1 c2 hb2; obtain ⟨hB, hz, c0, c1, c2⟩ := hn))
      (have hx := ext3 (by omega) c0 c1 c2; obtain ⟨x0, x1, x2⟩ := hx; (refine wp_region_ext (by kernel_rfl) (by kernel_rfl) ?_; (repeat (go_big_quiet_step (((go_at_call 16; exact Calls.ext_of (ltwo_any _ _ _ _ _ _ _)))))); refine wpQuiet_nil ?_; intro w2 hw'; have hb2 := below_of_ext hw'; clear hw'); clear x0 x1 x2; have hn := step3 hB hz (by omega) c0 c1 c2 hb2; clear hB hz c0 c1 c2 hb2; obtain ⟨hB, hz, c0, c1, c2⟩ := hn)
      go_wp2_with (first
        | (go_at_call 16; refine (ltwo_any _ _ _ _ _ _ _).mono ?_; rintro e w2 ⟨rfl, hb2⟩; have hn := step3 hB hz (by omega) c0 c1 c2 hb2; clear hB hz c0 c1 c2 hb2; obtain ⟨hB, hz, c0, c1, c2⟩ := hn)
        | (go_at_call 12; refine (wakes_any _).mono ?_; rintro e w2 ⟨rfl, hb2⟩; have hn := step3 hB hz (by omega) c0 c1 c2 hb2; clear hB hz c0 c1 c2 hb2; obtain ⟨hB, hz, c0, c1, c2⟩ := hn)
        | (go_at_call 19; refine (value_any _ _ _ _ _).mono ?_; rintro e w2 ⟨rfl, hb2⟩; have hn := step3 hB hz (by omega) c0 c1 c2 hb2; clear hB hz c0 c1 c2 hb2; obtain ⟨hB, hz, c0, c1, c2⟩ := hn)
        | (go_at_call 18; refine (two_any _ _ _ _ _ _ _).mono ?_; rintro e w2 ⟨rfl, hb2⟩; have hn := step3 hB hz (by omega) c0 c1 c2 hb2; clear hB hz c0 c1 c2 hb2; obtain ⟨hB, hz, c0, c1, c2⟩ := hn)
        | (go_at_call 15; refine (isw_any _ _ _ _ _).mono ?_; rintro e w2 ⟨rfl, hb2⟩; have hn := step3 hB hz (by omega) c0 c1 c2 hb2; clear hB hz c0 c1 c2 hb2; obtain ⟨hB, hz, c0, c1, c2⟩ := hn)
        | (go_at_call 14; refine (cut_any _ _ _ _ _).mono ?_; rintro e w2 ⟨rfl, hb2⟩; have hn := step3 hB hz (by omega) c0 c1 c2 hb2; clear hB hz c0 c1 c2 hb2; obtain ⟨hB, hz, c0, c1, c2⟩ := hn)
        | (go_at_call 17; refine (one_any _ _ _ _ _ _).mono ?_; rintro e w2 ⟨rfl, hb2⟩; have hn := step3 hB hz (by omega) c0 c1 c2 hb2; clear hB hz c0 c1 c2 hb2; obtain ⟨hB, hz, c0, c1, c2⟩ := hn)
        | (go_at_call 20; refine (shift_any _ _ _ _ _ _).mono ?_; rintro e w2 ⟨rfl, hb2⟩; have hn := step3 hB hz (by omega) c0 c1 c2 hb2; clear hB hz c0 c1 c2 hb2; obtain ⟨hB, hz, c0, c1, c2⟩ := hn)
        | (go_at_call 21; refine (conv_any _ _ _ _ _ _ _ _).mono ?_; rintro e w2 ⟨rfl, hb2⟩; have hn := step3 hB hz (by omega) c0 c1 c2 hb2; clear hB hz c0 c1 c2 hb2; obtain ⟨hB, hz, c0, c1, c2⟩ := hn))
      (have hx := ext3 (by omega) c0 c1 c2; obtain ⟨x0, x1, x2⟩ := hx; (refine wp_region_ext (by kernel_rfl) (by kernel_rfl) ?_; (repeat (go_big_quiet_step (((go_at_call 16; exact Calls.ext_of (ltwo_any _ _ _ _ _ _ _)))))); refine wpQuiet_nil ?_; intro w2 hw'; have hb2 := below_of_ext hw'; clear hw'); clear x0 x1 x2; have hn := step3 hB hz (by omega) c0 c1 c2 hb2; clear hB hz c0 c1 c2 hb2; obtain ⟨hB, hz, c0, c1, c2⟩ := hn)
      go_wp2
      go_ret
      exact ⟨rfl, hB⟩

set_option maxRecDepth 100000 in
set_option maxHeartbeats 4000000 in
theorem order_bool (S : Bool) (W n0 n1 n2 : Int) (w : World) :
    Calls Try.prog 5 #[.agg #[.bool true, .bool S, .int .i64 W], .agg #[.int .u64 n0, .int .u64 n1, .int .u64 n2]] w fun e w' => e = .returned (.bool true) ∧ Below w.heap.size w w' := by
  obtain ⟨S', W', hm, hmade0⟩ := made_ex true S W
  obtain ⟨a, ha, hcut00⟩ := cut_ex true S' W' n0 hm
  obtain ⟨b, hb, hcut10⟩ := cut_ex true S' W' n1 hm
  obtain ⟨c, hc, hcut20⟩ := cut_ex true S' W' n2 hm
  have hmade := Lib.hid hmade0
  have hcut0 := Lib.hid hcut00
  have hcut1 := Lib.hid hcut10
  have hcut2 := Lib.hid hcut20
  clear hmade0 hcut00 hcut10 hcut20
  have e0 : twoE 9 true S' W' a b = 1 := by unfold twoE twoOk; simp [mayTwo]
  have e1 : two 7 true S' W' a b = bit (a == b) := by rw [two_cmp rfl ha hb (by omega)]; rfl
  have e2 : two 8 true S' W' a b = bit (a != b) := by rw [two_cmp rfl ha hb (by omega)]; rfl
  have e3 : two 7 true S' W' b a = bit (a == b) := by rw [two_cmp rfl hb ha (by omega), BEq.comm]; rfl
  by_cases h : a = b
  · subst h
    simp only [bne_self_eq_false, beq_self_eq_true, bit, if_true, if_false, Bool.false_eq_true] at e1 e2 e3
    go_enter Try.func5, Try.ntmps5
    go_wp2_with (first | (go_at_call 13; refine (hmade.out _).mono ?_; rintro e w2 ⟨rfl, hb2⟩; have hn := box33f (T := 23) (T' := 34) hb2; clear hb2; obtain ⟨hB, hz, c0, c1, c2, d0, d1, d2, f0, f1, f2⟩ := hn))
    have hn := boxset (.bool true) (.bool S') (.int .i64 W') hB hz c0 c1 c2 d0 d1 d2; clear hB hz c0 c1 c2 d0 d1 d2 f0 f1 f2
    generalize hw3 : ((World.setCell _ ⟨w.heap.size, 0, none⟩ (.bool true)).setCell ⟨w.heap.size, 1, none⟩ (.bool S')).setCell ⟨w.heap.size, 2, none⟩ (.int .i64 W') = w3 at hn ⊢
    obtain ⟨hB, hz, c0, c1, c2, d0, d1, d2⟩ := hn w3 rfl
    clear hn hw3
    (have hx := ext3 (by omega) c0 c1 c2; have hy := ext3 (by omega) d0 d1 d2; obtain ⟨x0, x1, x2⟩ := hx; obtain ⟨y0, y1, y2⟩ := hy; (refine wp_region_ext (by kernel_rfl) (by kernel_rfl) ?_; (repeat (go_big_quiet_step ((first | (go_at_call 14; (with_reducible exact Calls.ext_of (hcut0.out _))) | (go_at_call 14; (with_reducible exact Calls.ext_of (hcut1.out _))) | (go_at_call 14; (with_reducible exact Calls.ext_of (hcut2.out _))))))); refine wpQuiet_nil ?_; intro w2 hw'; have hb2 := below_of_ext hw'; clear hw'); clear x0 x1 x2 y0 y1 y2; have hn := step3 hB hz (by omega) c0 c1 c2 hb2; clear hB hz c0 c1 c2 hb2; obtain ⟨hB, hz, c0, c1, c2⟩ := hn; clear d0 d1 d2)
    go_wp2
    (have hx := ext3 (by omega) c0 c1 c2; obtain ⟨x0, x1, x2⟩ := hx; (refine wp_region_ext (by kernel_rfl) (by kernel_rfl) ?_; (repeat (go_big_quiet_step (((go_at_call 16; exact Calls.ext_of (ltwo_any _ _ _ _ _ _ _)))))); refine wpQuiet_nil ?_; intro w2 hw'; have hb2 := below_of_ext hw'; clear hw'); clear x0 x1 x2; have hn := step3 hB hz (by omega) c0 c1 c2 hb2; clear hB hz c0 c1 c2 hb2; obtain ⟨hB, hz, c0, c1, c2⟩ := hn)
    go_wp2_with (first
      | (go_at_call 16; refine (ltwo_any _ _ _ _ _ _ _).mono ?_; rintro e w2 ⟨rfl, hb2⟩; have hn := step3 hB hz (by omega) c0 c1 c2 hb2; clear hB hz c0 c1 c2 hb2; obtain ⟨hB, hz, c0, c1, c2⟩ := hn)
      | (go_at_call 12; refine (wakes_any _).mono ?_; rintro e w2 ⟨rfl, hb2⟩; have hn := step3 hB hz (by omega) c0 c1 c2 hb2; clear hB hz c0 c1 c2 hb2; obtain ⟨hB, hz, c0, c1, c2⟩ := hn)
      | (go_at_call 19; refine (value_any _ _ _ _ _).mono ?_; rintro e w2 ⟨rfl, hb2⟩; have hn := step3 hB hz (by omega) c0 c1 c2 hb2; clear hB hz c0 c1 c2 hb2; obtain ⟨hB, hz, c0, c1, c2⟩ := hn)
      | (go_at_call 18; refine (two_any _ _ _ _ _ _ _).mono ?_; rintro e w2 ⟨rfl, hb2⟩; have hn := step3 hB hz (by omega) c0 c1 c2 hb2; clear hB hz c0 c1 c2 hb2; obtain ⟨hB, hz, c0, c1, c2⟩ := hn)
      | (go_at_call 15; refine (isw_any _ _ _ _ _).mono ?_; rintro e w2 ⟨rfl, hb2⟩; have hn := step3 hB hz (by omega) c0 c1 c2 hb2; clear hB hz c0 c1 c2 hb2; obtain ⟨hB, hz, c0, c1, c2⟩ := hn)
      | (go_at_call 14; refine (cut_any _ _ _ _ _).mono ?_; rintro e w2 ⟨rfl, hb2⟩; have hn := step3 hB hz (by omega) c0 c1 c2 hb2; clear hB hz c0 c1 c2 hb2; obtain ⟨hB, hz, c0, c1, c2⟩ := hn)
      | (go_at_call 17; refine (one_any _ _ _ _ _ _).mono ?_; rintro e w2 ⟨rfl, hb2⟩; have hn := step3 hB hz (by omega) c0 c1 c2 hb2; clear hB hz c0 c1 c2 hb2; obtain ⟨hB, hz, c0, c1, c2⟩ := hn)
      | (go_at_call 20; refine (shift_any _ _ _ _ _ _).mono ?_; rintro e w2 ⟨rfl, hb2⟩; have hn := step3 hB hz (by omega) c0 c1 c2 hb2; clear hB hz c0 c1 c2 hb2; obtain ⟨hB, hz, c0, c1, c2⟩ := hn)
      | (go_at_call 21; refine (conv_any _ _ _ _ _ _ _ _).mono ?_; rintro e w2 ⟨rfl, hb2⟩; have hn := step3 hB hz (by omega) c0 c1 c2 hb2; clear hB hz c0 c1 c2 hb2; obtain ⟨hB, hz, c0, c1, c2⟩ := hn))
    go_ret
    exact ⟨rfl, hB⟩
  · have h0 : (a == b) = false := beq_eq_false_iff_ne.2 h
    have hne : (a != b) = true := by simpa using h
    clear h
    simp only [h0, hne, bit, if_true, if_false, Bool.false_eq_true] at e1 e2 e3
    clear hne
    go_enter Try.func5, Try.ntmps5
    go_wp2_with (first | (go_at_call 13; refine (hmade.out _).mono ?_; rintro e w2 ⟨rfl, hb2⟩; have hn := box33f (T := 23) (T' := 34) hb2; clear hb2; obtain ⟨hB, hz, c0, c1, c2, d0, d1, d2, f0, f1, f2⟩ := hn))
    have hn := boxset (.bool true) (.bool S') (.int .i64 W') hB hz c0 c1 c2 d0 d1 d2; clear hB hz c0 c1 c2 d0 d1 d2 f0 f1 f2
    generalize hw3 : ((World.setCell _ ⟨w.heap.size, 0, none⟩ (.bool true)).setCell ⟨w.heap.size, 1, none⟩ (.bool S')).setCell ⟨w.heap.size, 2, none⟩ (.int .i64 W') = w3 at hn ⊢
    obtain ⟨hB, hz, c0, c1, c2, d0, d1, d2⟩ := hn w3 rfl
    clear hn hw3
    (have hx := ext3 (by omega) c0 c1 c2; have hy := ext3 (by omega) d0 d1 d2; obtain ⟨x0, x1, x2⟩ := hx; obtain ⟨y0, y1, y2⟩ := hy; (refine wp_region_ext (by kernel_rfl) (by kernel_rfl) ?_; (repeat (go_big_quiet_step ((first | (go_at_call 14; (with_reducible exact Calls.ext_of (hcut0.out _))) | (go_at_call 14; (with_reducible exact Calls.ext_of (hcut1.out _))) | (go_at_call 14; (with_reducible exact Calls.ext_of (hcut2.out _))))))); refine wpQuiet_nil ?_; intro w2 hw'; have hb2 := below_of_ext hw'; clear hw'); clear x0 x1 x2 y0 y1 y2; have hn := step3 hB hz (by omega) c0 c1 c2 hb2; clear hB hz c0 c1 c2 hb2; obtain ⟨hB, hz, c0, c1, c2⟩ := hn; clear d0 d1 d2)
    go_wp2
    (have hx := ext3 (by omega) c0 c1 c2; obtain ⟨x0, x1, x2⟩ := hx; (refine wp_region_ext (by kernel_rfl) (by kernel_rfl) ?_; (repeat (go_big_quiet_step (((go_at_call 16; exact Calls.ext_of (ltwo_any _ _ _ _ _ _ _)))))); refine wpQuiet_nil ?_; intro w2 hw'; have hb2 := below_of_ext hw'; clear hw'); clear x0 x1 x2; have hn := step3 hB hz (by omega) c0 c1 c2 hb2; clear hB hz c0 c1 c2 hb2; obtain ⟨hB, hz, c0, c1, c2⟩ := hn)
    go_wp2_with (first
      | (go_at_call 16; refine (ltwo_any _ _ _ _ _ _ _).mono ?_; rintro e w2 ⟨rfl, hb2⟩; have hn := step3 hB hz (by omega) c0 c1 c2 hb2; clear hB hz c0 c1 c2 hb2; obtain ⟨hB, hz, c0, c1, c2⟩ := hn)
      | (go_at_call 12; refine (wakes_any _).mono ?_; rintro e w2 ⟨rfl, hb2⟩; have hn := step3 hB hz (by omega) c0 c1 c2 hb2; clear hB hz c0 c1 c2 hb2; obtain ⟨hB, hz, c0, c1, c2⟩ := hn)
      | (go_at_call 19; refine (value_any _ _ _ _ _).mono ?_; rintro e w2 ⟨rfl, hb2⟩; have hn := step3 hB hz (by omega) c0 c1 c2 hb2; clear hB hz c0 c1 c2 hb2; obtain ⟨hB, hz, c0, c1, c2⟩ := hn)
      | (go_at_call 18; refine (two_any _ _ _ _ _ _ _).mono ?_; rintro e w2 ⟨rfl, hb2⟩; have hn := step3 hB hz (by omega) c0 c1 c2 hb2; clear hB hz c0 c1 c2 hb2; obtain ⟨hB, hz, c0, c1, c2⟩ := hn)
      | (go_at_call 15; refine (isw_any _ _ _ _ _).mono ?_; rintro e w2 ⟨rfl, hb2⟩; have hn := step3 hB hz (by omega) c0 c1 c2 hb2; clear hB hz c0 c1 c2 hb2; obtain ⟨hB, hz, c0, c1, c2⟩ := hn)
      | (go_at_call 14; refine (cut_any _ _ _ _ _).mono ?_; rintro e w2 ⟨rfl, hb2⟩; have hn := step3 hB hz (by omega) c0 c1 c2 hb2; clear hB hz c0 c1 c2 hb2; obtain ⟨hB, hz, c0, c1, c2⟩ := hn)
      | (go_at_call 17; refine (one_any _ _ _ _ _ _).mono ?_; rintro e w2 ⟨rfl, hb2⟩; have hn := step3 hB hz (by omega) c0 c1 c2 hb2; clear hB hz c0 c1 c2 hb2; obtain ⟨hB, hz, c0, c1, c2⟩ := hn)
      | (go_at_call 20; refine (shift_any _ _ _ _ _ _).mono ?_; rintro e w2 ⟨rfl, hb2⟩; have hn := step3 hB hz (by omega) c0 c1 c2 hb2; clear hB hz c0 c1 c2 hb2; obtain ⟨hB, hz, c0, c1, c2⟩ := hn)
      | (go_at_call 21; refine (conv_any _ _ _ _ _ _ _ _).mono ?_; rintro e w2 ⟨rfl, hb2⟩; have hn := step3 hB hz (by omega) c0 c1 c2 hb2; clear hB hz c0 c1 c2 hb2; obtain ⟨hB, hz, c0, c1, c2⟩ := hn))
    go_ret
    exact ⟨rfl, hB⟩

theorem order_any (B S : Bool) (W n0 n1 n2 : Int) (w : World) :
    Calls Try.prog 5 #[.agg #[.bool B, .bool S, .int .i64 W], .agg #[.int .u64 n0, .int .u64 n1, .int .u64 n2]] w fun e w' => e = .returned (.bool true) ∧ Below w.heap.size w w' := by
  cases B
  · exact order_num S W n0 n1 n2 w
  · exact order_bool S W n0 n1 n2 w
end Go.Proofs.Ytmieddcgnaddiaa
