/-
  The walk over WordShifts.
-/
import Derived.Test.YtmieddcgnaddiaaWordS
namespace Go.Proofs.Ytmieddcgnaddiaa
open Go.RowKit

theorem pow31 {k : Nat} (h : k ≤ 63) : (2 : Int) ^ k < 2 ^ 64 := by
  have : (2 : Int) ^ k ≤ 2 ^ 63 := by exact_mod_cast Nat.pow_le_pow_right (show 0 < 2 by decide) h
  omega

/-- What the last line meets: 64 bits; no sign; no sign left; the sign. -/
theorem end_cases {S : Bool} {W a : Int} (ha : isw false S W a = true) :
    ∃ z, (∀ w : World, Calls Try.prog 14 #[.agg #[.bool false, .bool S, .int .i64 W], .int .u64 18446744073709551615] w fun e w' => e = .returned (.int .u64 z) ∧ Below w.heap.size w w') ∧
    ((W == 64) = true ∨ ((W == 64) = false ∧ S = false ∧ shV false false W a (-63) = 0) ∨ ((W == 64) = false ∧ S = true ∧ shV false true W a (-63) = 0) ∨ ((W == 64) = false ∧ S = true ∧ shV false true W a (-63) = z ∧ (z == 0) = false)) := by
  refine ⟨cut false S W 18446744073709551615, fun w => cut_any _ _ _ _ w, ?_⟩
  cases hW : (W == 64) with
  | true => exact .inl rfl
  | false =>
    rcases shift_end ha hW with ⟨rfl, h⟩ | ⟨rfl, h | ⟨h1, h2⟩⟩
    · exact .inr (.inl ⟨rfl, rfl, h⟩)
    · exact .inr (.inr (.inl ⟨rfl, rfl, h⟩))
    · exact .inr (.inr (.inr ⟨rfl, rfl, h2, by rw [← h2]; exact h1⟩))

set_option maxRecDepth 100000 in
set_option maxHeartbeats 4000000 in
theorem shifts_any (B S : Bool) (W n b0 b1 : Int) (w : World) (l0 : 0 ≤ b0) (l1 : b0 ≤ 255) (m0 : 0 ≤ b1) (m1 : b1 ≤ 255) :
    Calls Try.prog 6 #[.agg #[.bool B, .bool S, .int .i64 W], .int .u64 n, .agg #[.int .u8 b0, .int .u8 b1]] w fun e w' => e = .returned (.bool true) ∧ Below w.heap.size w w' := by
  obtain ⟨S', W', hm, hmade0⟩ := made_ex false S W
  obtain ⟨a, ha, hcut00⟩ := cut_ex false S' W' n hm
  have hmade := Lib.hid hmade0
  have hcut0 := Lib.hid hcut00
  clear hmade0 hcut00
  cases S'
  · go_enter Try.func6, Try.ntmps6
    go_wp2_with (first | (go_at_call 13; refine (hmade.out _).mono ?_; rintro e w2 ⟨rfl, hb2⟩; have hn := box32f (T := 23) (T' := 43) hb2; clear hb2; obtain ⟨hB, hz, c0, c1, c2, d0, d1, f0, f1, f2⟩ := hn) | fail)
    have hn := boxset2 (.bool false) (.bool false) (.int .i64 W') hB hz c0 c1 c2 d0 d1; clear hB hz c0 c1 c2 d0 d1 f0 f1 f2
    generalize hw3 : ((World.setCell _ ⟨w.heap.size, 0, none⟩ (.bool false)).setCell ⟨w.heap.size, 1, none⟩ (.bool false)).setCell ⟨w.heap.size, 2, none⟩ (.int .i64 W') = w3 at hn ⊢
    obtain ⟨hB, hz, c0, c1, c2, d0, d1⟩ := hn w3 rfl
    clear hn hw3
    go_wp2_with (first | (go_at_call 14; refine (hcut0.out _).mono ?_; rintro e w2 ⟨rfl, hb2⟩; have hn := step3 hB hz (by omega) c0 c1 c2 hb2; have hd0 := stepc hb2 (by omega) d0; have hd1 := stepc hb2 (by omega) d1; clear hB hz c0 c1 c2 d0 d1 hb2; obtain ⟨hB, hz, c0, c1, c2⟩ := hn; have d0 := hd0; have d1 := hd1; clear hd0 hd1))
    have hy0 := fun q => stepc (ext_below _ q) (by omega) d0
    have hy1 := fun q => stepc (ext_below _ q) (by omega) d1
    (refine wp_region_ext (by kernel_rfl) (by kernel_rfl) ?_; (repeat (go_big_quiet_step ((fail)))); refine wpQuiet_nil ?_; intro w2 hw'; have hb2 := below_of_ext hw'; clear hw')
    clear hy0 hy1 d0 d1
    have hn := step3 hB hz (by omega) c0 c1 c2 hb2; clear hB hz c0 c1 c2 hb2; obtain ⟨hB, hz, c0, c1, c2⟩ := hn
    go_wp2_with fail
    have j0 : 0 ≤ b0 % 32 := by omega
    have j1 : b0 % 32 ≤ 31 := by omega
    have k0 : 0 ≤ b1 % 32 := by omega
    have k1 : b1 % 32 ≤ 31 := by omega
    generalize b0 % 32 = j at *
    generalize b1 % 32 = k at *
    obtain ⟨up, all, down, low, back, hF⟩ := shift_facts ha j0 j1 k0 k1
    obtain ⟨u1, u2, u3, u4, u5, u6, u7, u8, u9, u10, u11, u12, u13, u14, u15, u16, u17, u18⟩ := hF
    have hv : valOk false false W' a = false ∨ (valOk false false W' a = true ∧ valOk false false W' down = true ∧ valV false false W' down = valV false false W' a / 2 ^ j.toNat) := by
      by_cases h : valOk false false W' a = true
      · exact .inr ⟨h, u18 h⟩
      · exact .inl (by simpa using h)
    have hv := Lib.hid hv
    clear u18
    obtain ⟨z, hcutm0, he0⟩ := end_cases ha
    have hcutm := Lib.hid hcutm0
    have he : (W' == 64) = true ∨ ((W' == 64) = false ∧ shV false false W' a (-63) = 0) := by
      rcases he0 with h | ⟨h1, h2, h3⟩ | ⟨h1, h2, h3⟩ | ⟨h1, h2, h3, h4⟩
      · exact .inl h
      · exact .inr ⟨h1, h3⟩
      · cases h2
      · cases h2
    have he := Lib.hid he
    clear hcutm0 he0
    have r1 : IntKind.u64.wrap (2 ^ j.toNat) = 2 ^ j.toNat := by rw [u64w]; exact Int.emod_eq_of_lt (Int.le_of_lt (pow_pos' _)) (pow31 (by omega))
    have r2 : IntKind.u64.wrap (2 ^ j.toNat - 1) = 2 ^ j.toNat - 1 := by
      rw [u64w]; have h1 := pow_pos' j.toNat; have h2 := pow31 (k := j.toNat) (by omega); exact Int.emod_eq_of_lt (by omega) (by omega)
    clear l0 l1 m0 m1
    go_wp2_with (first
      | (go_at_call 16; refine (ltwo_any _ _ _ _ _ _ _).mono ?_; rintro e w2 ⟨rfl, hb2⟩; have hn := step3 hB hz (by omega) c0 c1 c2 hb2; clear hB hz c0 c1 c2 hb2; obtain ⟨hB, hz, c0, c1, c2⟩ := hn)
      | (go_at_call 12; refine (wakes_any _).mono ?_; rintro e w2 ⟨rfl, hb2⟩; have hn := step3 hB hz (by omega) c0 c1 c2 hb2; clear hB hz c0 c1 c2 hb2; obtain ⟨hB, hz, c0, c1, c2⟩ := hn)
      | (go_at_call 19; refine (value_any _ _ _ _ _).mono ?_; rintro e w2 ⟨rfl, hb2⟩; have hn := step3 hB hz (by omega) c0 c1 c2 hb2; clear hB hz c0 c1 c2 hb2; obtain ⟨hB, hz, c0, c1, c2⟩ := hn)
      | (go_at_call 18; refine (two_any _ _ _ _ _ _ _).mono ?_; rintro e w2 ⟨rfl, hb2⟩; have hn := step3 hB hz (by omega) c0 c1 c2 hb2; clear hB hz c0 c1 c2 hb2; obtain ⟨hB, hz, c0, c1, c2⟩ := hn)
      | (go_at_call 15; refine (isw_any _ _ _ _ _).mono ?_; rintro e w2 ⟨rfl, hb2⟩; have hn := step3 hB hz (by omega) c0 c1 c2 hb2; clear hB hz c0 c1 c2 hb2; obtain ⟨hB, hz, c0, c1, c2⟩ := hn)
      | (go_at_call 14; refine (cut_any _ _ _ _ _).mono ?_; rintro e w2 ⟨rfl, hb2⟩; have hn := step3 hB hz (by omega) c0 c1 c2 hb2; clear hB hz c0 c1 c2 hb2; obtain ⟨hB, hz, c0, c1, c2⟩ := hn)
      | (go_at_call 17; refine (one_any _ _ _ _ _ _).mono ?_; rintro e w2 ⟨rfl, hb2⟩; have hn := step3 hB hz (by omega) c0 c1 c2 hb2; clear hB hz c0 c1 c2 hb2; obtain ⟨hB, hz, c0, c1, c2⟩ := hn)
      | (go_at_call 20; refine (shift_any _ _ _ _ _ _).mono ?_; rintro e w2 ⟨rfl, hb2⟩; have hn := step3 hB hz (by omega) c0 c1 c2 hb2; clear hB hz c0 c1 c2 hb2; obtain ⟨hB, hz, c0, c1, c2⟩ := hn)
      | (go_at_call 21; refine (conv_any _ _ _ _ _ _ _ _).mono ?_; rintro e w2 ⟨rfl, hb2⟩; have hn := step3 hB hz (by omega) c0 c1 c2 hb2; clear hB hz c0 c1 c2 hb2; obtain ⟨hB, hz, c0, c1, c2⟩ := hn))
    (have hx := ext3 (by omega) c0 c1 c2; obtain ⟨x0, x1, x2⟩ := hx; (refine wp_region_ext (by kernel_rfl) (by kernel_rfl) ?_; (repeat (go_big_quiet_step ((first | (go_at_call 16; exact Calls.ext_of (ltwo_any _ _ _ _ _ _ _)) | (go_at_call 12; exact Calls.ext_of (wakes_any _)) | (go_at_call 14; exact Calls.ext_of (cut_any _ _ _ _ _)))))); refine wpQuiet_nil ?_; intro w2 hw'; have hb2 := below_of_ext hw'; clear hw'); clear x0 x1 x2; have hn := step3 hB hz (by omega) c0 c1 c2 hb2; clear hB hz c0 c1 c2 hb2; obtain ⟨hB, hz, c0, c1, c2⟩ := hn)
    rcases hv.out with v1 | ⟨v1, v2, v3⟩
    · rcases he.out with h1 | ⟨h1, h3⟩
      · go_wp2_with (first
          | (go_at_call 19; refine (value_any _ _ _ _ _).mono ?_; rintro e w2 ⟨rfl, hb2⟩; have hn := step3 hB hz (by omega) c0 c1 c2 hb2; clear hB hz c0 c1 c2 hb2; obtain ⟨hB, hz, c0, c1, c2⟩ := hn)
          | (go_at_call 20; refine (shift_any _ _ _ _ _ _).mono ?_; rintro e w2 ⟨rfl, hb2⟩; have hn := step3 hB hz (by omega) c0 c1 c2 hb2; clear hB hz c0 c1 c2 hb2; obtain ⟨hB, hz, c0, c1, c2⟩ := hn)
          | (go_at_call 14; refine (hcutm.out _).mono ?_; rintro e w2 ⟨rfl, hb2⟩; have hn := step3 hB hz (by omega) c0 c1 c2 hb2; clear hB hz c0 c1 c2 hb2; obtain ⟨hB, hz, c0, c1, c2⟩ := hn))
        go_ret
        exact ⟨rfl, hB⟩
      · go_wp2_with (first
          | (go_at_call 19; refine (value_any _ _ _ _ _).mono ?_; rintro e w2 ⟨rfl, hb2⟩; have hn := step3 hB hz (by omega) c0 c1 c2 hb2; clear hB hz c0 c1 c2 hb2; obtain ⟨hB, hz, c0, c1, c2⟩ := hn)
          | (go_at_call 20; refine (shift_any _ _ _ _ _ _).mono ?_; rintro e w2 ⟨rfl, hb2⟩; have hn := step3 hB hz (by omega) c0 c1 c2 hb2; clear hB hz c0 c1 c2 hb2; obtain ⟨hB, hz, c0, c1, c2⟩ := hn)
          | (go_at_call 14; refine (hcutm.out _).mono ?_; rintro e w2 ⟨rfl, hb2⟩; have hn := step3 hB hz (by omega) c0 c1 c2 hb2; clear hB hz c0 c1 c2 hb2; obtain ⟨hB, hz, c0, c1, c2⟩ := hn))
        go_ret
        exact ⟨rfl, hB⟩
    · rcases he.out with h1 | ⟨h1, h3⟩
      · go_wp2_with (first
          | (go_at_call 19; refine (value_any _ _ _ _ _).mono ?_; rintro e w2 ⟨rfl, hb2⟩; have hn := step3 hB hz (by omega) c0 c1 c2 hb2; clear hB hz c0 c1 c2 hb2; obtain ⟨hB, hz, c0, c1, c2⟩ := hn)
          | (go_at_call 20; refine (shift_any _ _ _ _ _ _).mono ?_; rintro e w2 ⟨rfl, hb2⟩; have hn := step3 hB hz (by omega) c0 c1 c2 hb2; clear hB hz c0 c1 c2 hb2; obtain ⟨hB, hz, c0, c1, c2⟩ := hn)
          | (go_at_call 14; refine (hcutm.out _).mono ?_; rintro e w2 ⟨rfl, hb2⟩; have hn := step3 hB hz (by omega) c0 c1 c2 hb2; clear hB hz c0 c1 c2 hb2; obtain ⟨hB, hz, c0, c1, c2⟩ := hn))
        go_ret
        exact ⟨rfl, hB⟩
      · go_wp2_with (first
          | (go_at_call 19; refine (value_any _ _ _ _ _).mono ?_; rintro e w2 ⟨rfl, hb2⟩; have hn := step3 hB hz (by omega) c0 c1 c2 hb2; clear hB hz c0 c1 c2 hb2; obtain ⟨hB, hz, c0, c1, c2⟩ := hn)
          | (go_at_call 20; refine (shift_any _ _ _ _ _ _).mono ?_; rintro e w2 ⟨rfl, hb2⟩; have hn := step3 hB hz (by omega) c0 c1 c2 hb2; clear hB hz c0 c1 c2 hb2; obtain ⟨hB, hz, c0, c1, c2⟩ := hn)
          | (go_at_call 14; refine (hcutm.out _).mono ?_; rintro e w2 ⟨rfl, hb2⟩; have hn := step3 hB hz (by omega) c0 c1 c2 hb2; clear hB hz c0 c1 c2 hb2; obtain ⟨hB, hz, c0, c1, c2⟩ := hn))
        go_ret
        exact ⟨rfl, hB⟩
  · go_enter Try.func6, Try.ntmps6
    go_wp2_with (first | (go_at_call 13; refine (hmade.out _).mono ?_; rintro e w2 ⟨rfl, hb2⟩; have hn := box32f (T := 23) (T' := 43) hb2; clear hb2; obtain ⟨hB, hz, c0, c1, c2, d0, d1, f0, f1, f2⟩ := hn) | fail)
    have hn := boxset2 (.bool false) (.bool true) (.int .i64 W') hB hz c0 c1 c2 d0 d1; clear hB hz c0 c1 c2 d0 d1 f0 f1 f2
    generalize hw3 : ((World.setCell _ ⟨w.heap.size, 0, none⟩ (.bool false)).setCell ⟨w.heap.size, 1, none⟩ (.bool true)).setCell ⟨w.heap.size, 2, none⟩ (.int .i64 W') = w3 at hn ⊢
    obtain ⟨hB, hz, c0, c1, c2, d0, d1⟩ := hn w3 rfl
    clear hn hw3
    go_wp2_with (first | (go_at_call 14; refine (hcut0.out _).mono ?_; rintro e w2 ⟨rfl, hb2⟩; have hn := step3 hB hz (by omega) c0 c1 c2 hb2; have hd0 := stepc hb2 (by omega) d0; have hd1 := stepc hb2 (by omega) d1; clear hB hz c0 c1 c2 d0 d1 hb2; obtain ⟨hB, hz, c0, c1, c2⟩ := hn; have d0 := hd0; have d1 := hd1; clear hd0 hd1))
    have hy0 := fun q => stepc (ext_below _ q) (by omega) d0
    have hy1 := fun q => stepc (ext_below _ q) (by omega) d1
    (refine wp_region_ext (by kernel_rfl) (by kernel_rfl) ?_; (repeat (go_big_quiet_step ((fail)))); refine wpQuiet_nil ?_; intro w2 hw'; have hb2 := below_of_ext hw'; clear hw')
    clear hy0 hy1 d0 d1
    have hn := step3 hB hz (by omega) c0 c1 c2 hb2; clear hB hz c0 c1 c2 hb2; obtain ⟨hB, hz, c0, c1, c2⟩ := hn
    go_wp2_with fail
    have j0 : 0 ≤ b0 % 32 := by omega
    have j1 : b0 % 32 ≤ 31 := by omega
    have k0 : 0 ≤ b1 % 32 := by omega
    have k1 : b1 % 32 ≤ 31 := by omega
    generalize b0 % 32 = j at *
    generalize b1 % 32 = k at *
    obtain ⟨up, all, down, low, back, hF⟩ := shift_facts ha j0 j1 k0 k1
    obtain ⟨u1, u2, u3, u4, u5, u6, u7, u8, u9, u10, u11, u12, u13, u14, u15, u16, u17, u18⟩ := hF
    have hv : valOk false true W' a = false ∨ (valOk false true W' a = true ∧ valOk false true W' down = true ∧ valV false true W' down = valV false true W' a / 2 ^ j.toNat) := by
      by_cases h : valOk false true W' a = true
      · exact .inr ⟨h, u18 h⟩
      · exact .inl (by simpa using h)
    have hv := Lib.hid hv
    clear u18
    obtain ⟨z, hcutm0, he0⟩ := end_cases ha
    have hcutm := Lib.hid hcutm0
    have he : (W' == 64) = true ∨ ((W' == 64) = false ∧ shV false true W' a (-63) = 0) ∨ ((W' == 64) = false ∧ shV false true W' a (-63) = z ∧ (z == 0) = false) := by
      rcases he0 with h | ⟨h1, h2, h3⟩ | ⟨h1, h2, h3⟩ | ⟨h1, h2, h3, h4⟩
      · exact .inl h
      · cases h2
      · exact .inr (.inl ⟨h1, h3⟩)
      · exact .inr (.inr ⟨h1, h3, h4⟩)
    have he := Lib.hid he
    clear hcutm0 he0
    have r1 : IntKind.u64.wrap (2 ^ j.toNat) = 2 ^ j.toNat := by rw [u64w]; exact Int.emod_eq_of_lt (Int.le_of_lt (pow_pos' _)) (pow31 (by omega))
    have r2 : IntKind.u64.wrap (2 ^ j.toNat - 1) = 2 ^ j.toNat - 1 := by
      rw [u64w]; have h1 := pow_pos' j.toNat; have h2 := pow31 (k := j.toNat) (by omega); exact Int.emod_eq_of_lt (by omega) (by omega)
    clear l0 l1 m0 m1
    go_wp2_with (first
      | (go_at_call 16; refine (ltwo_any _ _ _ _ _ _ _).mono ?_; rintro e w2 ⟨rfl, hb2⟩; have hn := step3 hB hz (by omega) c0 c1 c2 hb2; clear hB hz c0 c1 c2 hb2; obtain ⟨hB, hz, c0, c1, c2⟩ := hn)
      | (go_at_call 12; refine (wakes_any _).mono ?_; rintro e w2 ⟨rfl, hb2⟩; have hn := step3 hB hz (by omega) c0 c1 c2 hb2; clear hB hz c0 c1 c2 hb2; obtain ⟨hB, hz, c0, c1, c2⟩ := hn)
      | (go_at_call 19; refine (value_any _ _ _ _ _).mono ?_; rintro e w2 ⟨rfl, hb2⟩; have hn := step3 hB hz (by omega) c0 c1 c2 hb2; clear hB hz c0 c1 c2 hb2; obtain ⟨hB, hz, c0, c1, c2⟩ := hn)
      | (go_at_call 18; refine (two_any _ _ _ _ _ _ _).mono ?_; rintro e w2 ⟨rfl, hb2⟩; have hn := step3 hB hz (by omega) c0 c1 c2 hb2; clear hB hz c0 c1 c2 hb2; obtain ⟨hB, hz, c0, c1, c2⟩ := hn)
      | (go_at_call 15; refine (isw_any _ _ _ _ _).mono ?_; rintro e w2 ⟨rfl, hb2⟩; have hn := step3 hB hz (by omega) c0 c1 c2 hb2; clear hB hz c0 c1 c2 hb2; obtain ⟨hB, hz, c0, c1, c2⟩ := hn)
      | (go_at_call 14; refine (cut_any _ _ _ _ _).mono ?_; rintro e w2 ⟨rfl, hb2⟩; have hn := step3 hB hz (by omega) c0 c1 c2 hb2; clear hB hz c0 c1 c2 hb2; obtain ⟨hB, hz, c0, c1, c2⟩ := hn)
      | (go_at_call 17; refine (one_any _ _ _ _ _ _).mono ?_; rintro e w2 ⟨rfl, hb2⟩; have hn := step3 hB hz (by omega) c0 c1 c2 hb2; clear hB hz c0 c1 c2 hb2; obtain ⟨hB, hz, c0, c1, c2⟩ := hn)
      | (go_at_call 20; refine (shift_any _ _ _ _ _ _).mono ?_; rintro e w2 ⟨rfl, hb2⟩; have hn := step3 hB hz (by omega) c0 c1 c2 hb2; clear hB hz c0 c1 c2 hb2; obtain ⟨hB, hz, c0, c1, c2⟩ := hn)
      | (go_at_call 21; refine (conv_any _ _ _ _ _ _ _ _).mono ?_; rintro e w2 ⟨rfl, hb2⟩; have hn := step3 hB hz (by omega) c0 c1 c2 hb2; clear hB hz c0 c1 c2 hb2; obtain ⟨hB, hz, c0, c1, c2⟩ := hn))
    (have hx := ext3 (by omega) c0 c1 c2; obtain ⟨x0, x1, x2⟩ := hx; (refine wp_region_ext (by kernel_rfl) (by kernel_rfl) ?_; (repeat (go_big_quiet_step ((first | (go_at_call 16; exact Calls.ext_of (ltwo_any _ _ _ _ _ _ _)) | (go_at_call 12; exact Calls.ext_of (wakes_any _)) | (go_at_call 14; exact Calls.ext_of (cut_any _ _ _ _ _)))))); refine wpQuiet_nil ?_; intro w2 hw'; have hb2 := below_of_ext hw'; clear hw'); clear x0 x1 x2; have hn := step3 hB hz (by omega) c0 c1 c2 hb2; clear hB hz c0 c1 c2 hb2; obtain ⟨hB, hz, c0, c1, c2⟩ := hn)
    rcases hv.out with v1 | ⟨v1, v2, v3⟩
    · rcases he.out with h1 | ⟨h1, h3⟩ | ⟨h1, h3, h4⟩
      · go_wp2_with (first
          | (go_at_call 19; refine (value_any _ _ _ _ _).mono ?_; rintro e w2 ⟨rfl, hb2⟩; have hn := step3 hB hz (by omega) c0 c1 c2 hb2; clear hB hz c0 c1 c2 hb2; obtain ⟨hB, hz, c0, c1, c2⟩ := hn)
          | (go_at_call 20; refine (shift_any _ _ _ _ _ _).mono ?_; rintro e w2 ⟨rfl, hb2⟩; have hn := step3 hB hz (by omega) c0 c1 c2 hb2; clear hB hz c0 c1 c2 hb2; obtain ⟨hB, hz, c0, c1, c2⟩ := hn)
          | (go_at_call 14; refine (hcutm.out _).mono ?_; rintro e w2 ⟨rfl, hb2⟩; have hn := step3 hB hz (by omega) c0 c1 c2 hb2; clear hB hz c0 c1 c2 hb2; obtain ⟨hB, hz, c0, c1, c2⟩ := hn))
        go_ret
        exact ⟨rfl, hB⟩
      · go_wp2_with (first
          | (go_at_call 19; refine (value_any _ _ _ _ _).mono ?_; rintro e w2 ⟨rfl, hb2⟩; have hn := step3 hB hz (by omega) c0 c1 c2 hb2; clear hB hz c0 c1 c2 hb2; obtain ⟨hB, hz, c0, c1, c2⟩ := hn)
          | (go_at_call 20; refine (shift_any _ _ _ _ _ _).mono ?_; rintro e w2 ⟨rfl, hb2⟩; have hn := step3 hB hz (by omega) c0 c1 c2 hb2; clear hB hz c0 c1 c2 hb2; obtain ⟨hB, hz, c0, c1, c2⟩ := hn)
          | (go_at_call 14; refine (hcutm.out _).mono ?_; rintro e w2 ⟨rfl, hb2⟩; have hn := step3 hB hz (by omega) c0 c1 c2 hb2; clear hB hz c0 c1 c2 hb2; obtain ⟨hB, hz, c0, c1, c2⟩ := hn))
        go_ret
        exact ⟨rfl, hB⟩
      · go_wp2_with (first
          | (go_at_call 19; refine (value_any _ _ _ _ _).mono ?_; rintro e w2 ⟨rfl, hb2⟩; have hn := step3 hB hz (by omega) c0 c1 c2 hb2; clear hB hz c0 c1 c2 hb2; obtain ⟨hB, hz, c0, c1, c2⟩ := hn)
          | (go_at_call 20; refine (shift_any _ _ _ _ _ _).mono ?_; rintro e w2 ⟨rfl, hb2⟩; have hn := step3 hB hz (by omega) c0 c1 c2 hb2; clear hB hz c0 c1 c2 hb2; obtain ⟨hB, hz, c0, c1, c2⟩ := hn)
          | (go_at_call 14; refine (hcutm.out _).mono ?_; rintro e w2 ⟨rfl, hb2⟩; have hn := step3 hB hz (by omega) c0 c1 c2 hb2; clear hB hz c0 c1 c2 hb2; obtain ⟨hB, hz, c0, c1, c2⟩ := hn))
        go_ret
        exact ⟨rfl, hB⟩
    · rcases he.out with h1 | ⟨h1, h3⟩ | ⟨h1, h3, h4⟩
      · go_wp2_with (first
          | (go_at_call 19; refine (value_any _ _ _ _ _).mono ?_; rintro e w2 ⟨rfl, hb2⟩; have hn := step3 hB hz (by omega) c0 c1 c2 hb2; clear hB hz c0 c1 c2 hb2; obtain ⟨hB, hz, c0, c1, c2⟩ := hn)
          | (go_at_call 20; refine (shift_any _ _ _ _ _ _).mono ?_; rintro e w2 ⟨rfl, hb2⟩; have hn := step3 hB hz (by omega) c0 c1 c2 hb2; clear hB hz c0 c1 c2 hb2; obtain ⟨hB, hz, c0, c1, c2⟩ := hn)
          | (go_at_call 14; refine (hcutm.out _).mono ?_; rintro e w2 ⟨rfl, hb2⟩; have hn := step3 hB hz (by omega) c0 c1 c2 hb2; clear hB hz c0 c1 c2 hb2; obtain ⟨hB, hz, c0, c1, c2⟩ := hn))
        go_ret
        exact ⟨rfl, hB⟩
      · go_wp2_with (first
          | (go_at_call 19; refine (value_any _ _ _ _ _).mono ?_; rintro e w2 ⟨rfl, hb2⟩; have hn := step3 hB hz (by omega) c0 c1 c2 hb2; clear hB hz c0 c1 c2 hb2; obtain ⟨hB, hz, c0, c1, c2⟩ := hn)
          | (go_at_call 20; refine (shift_any _ _ _ _ _ _).mono ?_; rintro e w2 ⟨rfl, hb2⟩; have hn := step3 hB hz (by omega) c0 c1 c2 hb2; clear hB hz c0 c1 c2 hb2; obtain ⟨hB, hz, c0, c1, c2⟩ := hn)
          | (go_at_call 14; refine (hcutm.out _).mono ?_; rintro e w2 ⟨rfl, hb2⟩; have hn := step3 hB hz (by omega) c0 c1 c2 hb2; clear hB hz c0 c1 c2 hb2; obtain ⟨hB, hz, c0, c1, c2⟩ := hn))
        go_ret
        exact ⟨rfl, hB⟩
      · go_wp2_with (first
          | (go_at_call 19; refine (value_any _ _ _ _ _).mono ?_; rintro e w2 ⟨rfl, hb2⟩; have hn := step3 hB hz (by omega) c0 c1 c2 hb2; clear hB hz c0 c1 c2 hb2; obtain ⟨hB, hz, c0, c1, c2⟩ := hn)
          | (go_at_call 20; refine (shift_any _ _ _ _ _ _).mono ?_; rintro e w2 ⟨rfl, hb2⟩; have hn := step3 hB hz (by omega) c0 c1 c2 hb2; clear hB hz c0 c1 c2 hb2; obtain ⟨hB, hz, c0, c1, c2⟩ := hn)
          | (go_at_call 14; refine (hcutm.out _).mono ?_; rintro e w2 ⟨rfl, hb2⟩; have hn := step3 hB hz (by omega) c0 c1 c2 hb2; clear hB hz c0 c1 c2 hb2; obtain ⟨hB, hz, c0, c1, c2⟩ := hn))
        go_ret
        exact ⟨rfl, hB⟩
end Go.Proofs.Ytmieddcgnaddiaa
