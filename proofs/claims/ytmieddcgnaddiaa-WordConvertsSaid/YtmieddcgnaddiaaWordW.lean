/-
  The walk over WordConverts.
-/
import Derived.Test.YtmieddcgnaddiaaWordV
import Derived.Deep.DeepCutAuto
import Derived.Deep.RegionWith
namespace Go.Proofs.Ytmieddcgnaddiaa
open Go.RowKit

def CvPred (w : World) (B S : Bool) (W : Int) (B' S' : Bool) (W' : Int) (wx : World) : Prop :=
  Below w.heap.size w wx ∧ w.heap.size + 2 ≤ wx.heap.size ∧ wx.cell? ⟨w.heap.size, 0, none⟩ = some (.bool B) ∧ wx.cell? ⟨w.heap.size, 1, none⟩ = some (.bool S) ∧ wx.cell? ⟨w.heap.size, 2, none⟩ = some (.int .i64 W)
      ∧ wx.cell? ⟨w.heap.size + 1, 0, none⟩ = some (.bool B') ∧ wx.cell? ⟨w.heap.size + 1, 1, none⟩ = some (.bool S') ∧ wx.cell? ⟨w.heap.size + 1, 2, none⟩ = some (.int .i64 W')

set_option maxRecDepth 100000 in
set_option maxHeartbeats 4000000 in
theorem converts_any (B S0 : Bool) (W0 : Int) (B' S0' : Bool) (W0' : Int) (n : Int) (w : World) :
    Calls Try.prog 7 #[.agg #[.bool B, .bool S0, .int .i64 W0], .agg #[.bool B', .bool S0', .int .i64 W0'], .int .u64 n] w fun e w' => e = .returned (.bool true) ∧ Below w.heap.size w w' := by
  obtain ⟨S, W, hm, hmade0⟩ := made_ex B S0 W0
  obtain ⟨S', W', hm', hmade1⟩ := made_ex B' S0' W0'
  obtain ⟨a, ha, hcut00⟩ := cut_ex B S W n hm
  have hmade := Lib.hid hmade0
  have hmade' := Lib.hid hmade1
  have hcut0 := Lib.hid hcut00
  clear hmade0 hmade1 hcut00
  go_enter Try.func7, Try.ntmps7
  go_upto_region 1 with fail
  go_cut [] (fun wx => CvPred w B S W B' S' W' wx)
  case first =>
    have I := st33_box w (.bool B) (.bool S0) (.int .i64 W0) (.bool B') (.bool S0') (.int .i64 W0') 23 23
    go_region_with (first | (go_at_call 13; (with_reducible refine (hmade.out _).mono ?_); rintro e w2 ⟨rfl, hb⟩; have I2 := st33_step I hb; clear I hb; have I := I2; clear I2; have ⟨_, hz, c0, c1, c2, d0, d1, d2, f0, f1, f2, g0, g1, g2⟩ := I) | (go_at_call 13; (with_reducible refine (hmade'.out _).mono ?_); rintro e w2 ⟨rfl, hb⟩; have I2 := st33_step I hb; clear I hb; have I := I2; clear I2; have ⟨_, hz, c0, c1, c2, d0, d1, d2, f0, f1, f2, g0, g1, g2⟩ := I))
    all_goals (go_wp2_with fail; go_meet; exact st33_set I _ _ _ _ _ _ _ rfl)
  case rest =>
    obtain ⟨hB, hz, c0, c1, c2, d0, d1, d2⟩ := hcut
    obtain ⟨bd1, bd2⟩ := may_bounds hm
    obtain ⟨bd3, bd4⟩ := may_bounds hm'
    clear hmade hmade'
    cases B' <;> cases B
    · cases S' <;> cases S
      · by_cases hw : W ≤ W'
        · have hF := conv_facts (B' := false) (S' := false) ha hm' rfl
          have l1 := conv_low W ha hm' (by omega) (by omega) (by omega)
          have hh : holdsB false W false W' = true := by unfold holdsB; simp; omega
          obtain ⟨v1, v2⟩ := conv_value ha hm' hh
          obtain ⟨k1, k2⟩ := conv_back ha hm' hh rfl
          clear hh
          generalize sval false W a % 2 ^ W'.toNat = b at *
          have hd1 : decide (W ≤ W') = true := by simp; omega
          obtain ⟨e1, e2, e3⟩ := hF
          clear hm hm' ha
          go_wp2_with (first
            | (go_at_call 14; refine (hcut0.out _).mono ?_; rintro e w2 ⟨rfl, hb2⟩; have hn := step3 hB hz (by omega) c0 c1 c2 hb2; have hn' := step3 hB hz (by omega) d0 d1 d2 hb2; clear hB hz c0 c1 c2 d0 d1 d2 hb2; obtain ⟨hB, hz, c0, c1, c2⟩ := hn; obtain ⟨-, -, d0, d1, d2⟩ := hn')
            | (go_at_call 21; refine (conv_any _ _ _ _ _ _ _ _).mono ?_; rintro e w2 ⟨rfl, hb2⟩; have hn := step3 hB hz (by omega) c0 c1 c2 hb2; have hn' := step3 hB hz (by omega) d0 d1 d2 hb2; clear hB hz c0 c1 c2 d0 d1 d2 hb2; obtain ⟨hB, hz, c0, c1, c2⟩ := hn; obtain ⟨-, -, d0, d1, d2⟩ := hn')
            | (go_at_call 12; refine (wakes_any _).mono ?_; rintro e w2 ⟨rfl, hb2⟩; have hn := step3 hB hz (by omega) c0 c1 c2 hb2; have hn' := step3 hB hz (by omega) d0 d1 d2 hb2; clear hB hz c0 c1 c2 d0 d1 d2 hb2; obtain ⟨hB, hz, c0, c1, c2⟩ := hn; obtain ⟨-, -, d0, d1, d2⟩ := hn')
            | (go_at_call 15; refine (isw_any _ _ _ _ _).mono ?_; rintro e w2 ⟨rfl, hb2⟩; have hn := step3 hB hz (by omega) c0 c1 c2 hb2; have hn' := step3 hB hz (by omega) d0 d1 d2 hb2; clear hB hz c0 c1 c2 d0 d1 d2 hb2; obtain ⟨hB, hz, c0, c1, c2⟩ := hn; obtain ⟨-, -, d0, d1, d2⟩ := hn')
            | (go_at_call 19; refine (value_any _ _ _ _ _).mono ?_; rintro e w2 ⟨rfl, hb2⟩; have hn := step3 hB hz (by omega) c0 c1 c2 hb2; have hn' := step3 hB hz (by omega) d0 d1 d2 hb2; clear hB hz c0 c1 c2 d0 d1 d2 hb2; obtain ⟨hB, hz, c0, c1, c2⟩ := hn; obtain ⟨-, -, d0, d1, d2⟩ := hn'))
          go_ret
          exact ⟨rfl, hB⟩
        · have hw2 : W' < W := by omega
          clear hw
          have hF := conv_facts (B' := false) (S' := false) ha hm' rfl
          have l1 := conv_low W' ha hm' (by omega) (by omega) (by omega)
          generalize sval false W a % 2 ^ W'.toNat = b at *
          have hd1 : decide (W ≤ W') = false := by simp; omega
          have hd2 : decide (W < W') = false := by simp; omega
          obtain ⟨e1, e2, e3⟩ := hF
          clear hm hm' ha
          go_wp2_with (first
            | (go_at_call 14; refine (hcut0.out _).mono ?_; rintro e w2 ⟨rfl, hb2⟩; have hn := step3 hB hz (by omega) c0 c1 c2 hb2; have hn' := step3 hB hz (by omega) d0 d1 d2 hb2; clear hB hz c0 c1 c2 d0 d1 d2 hb2; obtain ⟨hB, hz, c0, c1, c2⟩ := hn; obtain ⟨-, -, d0, d1, d2⟩ := hn')
            | (go_at_call 21; refine (conv_any _ _ _ _ _ _ _ _).mono ?_; rintro e w2 ⟨rfl, hb2⟩; have hn := step3 hB hz (by omega) c0 c1 c2 hb2; have hn' := step3 hB hz (by omega) d0 d1 d2 hb2; clear hB hz c0 c1 c2 d0 d1 d2 hb2; obtain ⟨hB, hz, c0, c1, c2⟩ := hn; obtain ⟨-, -, d0, d1, d2⟩ := hn')
            | (go_at_call 12; refine (wakes_any _).mono ?_; rintro e w2 ⟨rfl, hb2⟩; have hn := step3 hB hz (by omega) c0 c1 c2 hb2; have hn' := step3 hB hz (by omega) d0 d1 d2 hb2; clear hB hz c0 c1 c2 d0 d1 d2 hb2; obtain ⟨hB, hz, c0, c1, c2⟩ := hn; obtain ⟨-, -, d0, d1, d2⟩ := hn')
            | (go_at_call 15; refine (isw_any _ _ _ _ _).mono ?_; rintro e w2 ⟨rfl, hb2⟩; have hn := step3 hB hz (by omega) c0 c1 c2 hb2; have hn' := step3 hB hz (by omega) d0 d1 d2 hb2; clear hB hz c0 c1 c2 d0 d1 d2 hb2; obtain ⟨hB, hz, c0, c1, c2⟩ := hn; obtain ⟨-, -, d0, d1, d2⟩ := hn')
            | (go_at_call 19; refine (value_any _ _ _ _ _).mono ?_; rintro e w2 ⟨rfl, hb2⟩; have hn := step3 hB hz (by omega) c0 c1 c2 hb2; have hn' := step3 hB hz (by omega) d0 d1 d2 hb2; clear hB hz c0 c1 c2 d0 d1 d2 hb2; obtain ⟨hB, hz, c0, c1, c2⟩ := hn; obtain ⟨-, -, d0, d1, d2⟩ := hn'))
          go_ret
          exact ⟨rfl, hB⟩
      · by_cases hw : W ≤ W'
        · have hF := conv_facts (B' := false) (S' := false) ha hm' rfl
          have l1 := conv_low W ha hm' (by omega) (by omega) (by omega)
          generalize sval true W a % 2 ^ W'.toNat = b at *
          have hd1 : decide (W ≤ W') = true := by simp; omega
          obtain ⟨e1, e2, e3⟩ := hF
          clear hm hm' ha
          go_wp2_with (first
            | (go_at_call 14; refine (hcut0.out _).mono ?_; rintro e w2 ⟨rfl, hb2⟩; have hn := step3 hB hz (by omega) c0 c1 c2 hb2; have hn' := step3 hB hz (by omega) d0 d1 d2 hb2; clear hB hz c0 c1 c2 d0 d1 d2 hb2; obtain ⟨hB, hz, c0, c1, c2⟩ := hn; obtain ⟨-, -, d0, d1, d2⟩ := hn')
            | (go_at_call 21; refine (conv_any _ _ _ _ _ _ _ _).mono ?_; rintro e w2 ⟨rfl, hb2⟩; have hn := step3 hB hz (by omega) c0 c1 c2 hb2; have hn' := step3 hB hz (by omega) d0 d1 d2 hb2; clear hB hz c0 c1 c2 d0 d1 d2 hb2; obtain ⟨hB, hz, c0, c1, c2⟩ := hn; obtain ⟨-, -, d0, d1, d2⟩ := hn')
            | (go_at_call 12; refine (wakes_any _).mono ?_; rintro e w2 ⟨rfl, hb2⟩; have hn := step3 hB hz (by omega) c0 c1 c2 hb2; have hn' := step3 hB hz (by omega) d0 d1 d2 hb2; clear hB hz c0 c1 c2 d0 d1 d2 hb2; obtain ⟨hB, hz, c0, c1, c2⟩ := hn; obtain ⟨-, -, d0, d1, d2⟩ := hn')
            | (go_at_call 15; refine (isw_any _ _ _ _ _).mono ?_; rintro e w2 ⟨rfl, hb2⟩; have hn := step3 hB hz (by omega) c0 c1 c2 hb2; have hn' := step3 hB hz (by omega) d0 d1 d2 hb2; clear hB hz c0 c1 c2 d0 d1 d2 hb2; obtain ⟨hB, hz, c0, c1, c2⟩ := hn; obtain ⟨-, -, d0, d1, d2⟩ := hn')
            | (go_at_call 19; refine (value_any _ _ _ _ _).mono ?_; rintro e w2 ⟨rfl, hb2⟩; have hn := step3 hB hz (by omega) c0 c1 c2 hb2; have hn' := step3 hB hz (by omega) d0 d1 d2 hb2; clear hB hz c0 c1 c2 d0 d1 d2 hb2; obtain ⟨hB, hz, c0, c1, c2⟩ := hn; obtain ⟨-, -, d0, d1, d2⟩ := hn'))
          go_ret
          exact ⟨rfl, hB⟩
        · have hw2 : W' < W := by omega
          clear hw
          have hF := conv_facts (B' := false) (S' := false) ha hm' rfl
          have l1 := conv_low W' ha hm' (by omega) (by omega) (by omega)
          generalize sval true W a % 2 ^ W'.toNat = b at *
          have hd1 : decide (W ≤ W') = false := by simp; omega
          have hd2 : decide (W < W') = false := by simp; omega
          obtain ⟨e1, e2, e3⟩ := hF
          clear hm hm' ha
          go_wp2_with (first
            | (go_at_call 14; refine (hcut0.out _).mono ?_; rintro e w2 ⟨rfl, hb2⟩; have hn := step3 hB hz (by omega) c0 c1 c2 hb2; have hn' := step3 hB hz (by omega) d0 d1 d2 hb2; clear hB hz c0 c1 c2 d0 d1 d2 hb2; obtain ⟨hB, hz, c0, c1, c2⟩ := hn; obtain ⟨-, -, d0, d1, d2⟩ := hn')
            | (go_at_call 21; refine (conv_any _ _ _ _ _ _ _ _).mono ?_; rintro e w2 ⟨rfl, hb2⟩; have hn := step3 hB hz (by omega) c0 c1 c2 hb2; have hn' := step3 hB hz (by omega) d0 d1 d2 hb2; clear hB hz c0 c1 c2 d0 d1 d2 hb2; obtain ⟨hB, hz, c0, c1, c2⟩ := hn; obtain ⟨-, -, d0, d1, d2⟩ := hn')
            | (go_at_call 12; refine (wakes_any _).mono ?_; rintro e w2 ⟨rfl, hb2⟩; have hn := step3 hB hz (by omega) c0 c1 c2 hb2; have hn' := step3 hB hz (by omega) d0 d1 d2 hb2; clear hB hz c0 c1 c2 d0 d1 d2 hb2; obtain ⟨hB, hz, c0, c1, c2⟩ := hn; obtain ⟨-, -, d0, d1, d2⟩ := hn')
            | (go_at_call 15; refine (isw_any _ _ _ _ _).mono ?_; rintro e w2 ⟨rfl, hb2⟩; have hn := step3 hB hz (by omega) c0 c1 c2 hb2; have hn' := step3 hB hz (by omega) d0 d1 d2 hb2; clear hB hz c0 c1 c2 d0 d1 d2 hb2; obtain ⟨hB, hz, c0, c1, c2⟩ := hn; obtain ⟨-, -, d0, d1, d2⟩ := hn')
            | (go_at_call 19; refine (value_any _ _ _ _ _).mono ?_; rintro e w2 ⟨rfl, hb2⟩; have hn := step3 hB hz (by omega) c0 c1 c2 hb2; have hn' := step3 hB hz (by omega) d0 d1 d2 hb2; clear hB hz c0 c1 c2 d0 d1 d2 hb2; obtain ⟨hB, hz, c0, c1, c2⟩ := hn; obtain ⟨-, -, d0, d1, d2⟩ := hn'))
          go_ret
          exact ⟨rfl, hB⟩
      · by_cases hw : W < W'
        · have hw2 : W ≤ W' := by omega
          have hF := conv_facts (B' := false) (S' := true) ha hm' rfl
          have l1 := conv_low W ha hm' (by omega) (by omega) (by omega)
          have hh : holdsB false W true W' = true := by unfold holdsB; simp; omega
          obtain ⟨v1, v2⟩ := conv_value ha hm' hh
          obtain ⟨k1, k2⟩ := conv_back ha hm' hh rfl
          clear hh
          generalize sval false W a % 2 ^ W'.toNat = b at *
          have hd1 : decide (W ≤ W') = true := by simp; omega
          have hd2 : decide (W < W') = true := by simp; omega
          obtain ⟨e1, e2, e3⟩ := hF
          clear hm hm' ha
          go_wp2_with (first
            | (go_at_call 14; refine (hcut0.out _).mono ?_; rintro e w2 ⟨rfl, hb2⟩; have hn := step3 hB hz (by omega) c0 c1 c2 hb2; have hn' := step3 hB hz (by omega) d0 d1 d2 hb2; clear hB hz c0 c1 c2 d0 d1 d2 hb2; obtain ⟨hB, hz, c0, c1, c2⟩ := hn; obtain ⟨-, -, d0, d1, d2⟩ := hn')
            | (go_at_call 21; refine (conv_any _ _ _ _ _ _ _ _).mono ?_; rintro e w2 ⟨rfl, hb2⟩; have hn := step3 hB hz (by omega) c0 c1 c2 hb2; have hn' := step3 hB hz (by omega) d0 d1 d2 hb2; clear hB hz c0 c1 c2 d0 d1 d2 hb2; obtain ⟨hB, hz, c0, c1, c2⟩ := hn; obtain ⟨-, -, d0, d1, d2⟩ := hn')
            | (go_at_call 12; refine (wakes_any _).mono ?_; rintro e w2 ⟨rfl, hb2⟩; have hn := step3 hB hz (by omega) c0 c1 c2 hb2; have hn' := step3 hB hz (by omega) d0 d1 d2 hb2; clear hB hz c0 c1 c2 d0 d1 d2 hb2; obtain ⟨hB, hz, c0, c1, c2⟩ := hn; obtain ⟨-, -, d0, d1, d2⟩ := hn')
            | (go_at_call 15; refine (isw_any _ _ _ _ _).mono ?_; rintro e w2 ⟨rfl, hb2⟩; have hn := step3 hB hz (by omega) c0 c1 c2 hb2; have hn' := step3 hB hz (by omega) d0 d1 d2 hb2; clear hB hz c0 c1 c2 d0 d1 d2 hb2; obtain ⟨hB, hz, c0, c1, c2⟩ := hn; obtain ⟨-, -, d0, d1, d2⟩ := hn')
            | (go_at_call 19; refine (value_any _ _ _ _ _).mono ?_; rintro e w2 ⟨rfl, hb2⟩; have hn := step3 hB hz (by omega) c0 c1 c2 hb2; have hn' := step3 hB hz (by omega) d0 d1 d2 hb2; clear hB hz c0 c1 c2 d0 d1 d2 hb2; obtain ⟨hB, hz, c0, c1, c2⟩ := hn; obtain ⟨-, -, d0, d1, d2⟩ := hn'))
          go_ret
          exact ⟨rfl, hB⟩
        · by_cases hw3 : W' < W
          · clear hw
            have hF := conv_facts (B' := false) (S' := true) ha hm' rfl
            have l1 := conv_low W' ha hm' (by omega) (by omega) (by omega)
            generalize sval false W a % 2 ^ W'.toNat = b at *
            have hd1 : decide (W ≤ W') = false := by simp; omega
            have hd2 : decide (W < W') = false := by simp; omega
            obtain ⟨e1, e2, e3⟩ := hF
            clear hm hm' ha
            go_wp2_with (first
              | (go_at_call 14; refine (hcut0.out _).mono ?_; rintro e w2 ⟨rfl, hb2⟩; have hn := step3 hB hz (by omega) c0 c1 c2 hb2; have hn' := step3 hB hz (by omega) d0 d1 d2 hb2; clear hB hz c0 c1 c2 d0 d1 d2 hb2; obtain ⟨hB, hz, c0, c1, c2⟩ := hn; obtain ⟨-, -, d0, d1, d2⟩ := hn')
              | (go_at_call 21; refine (conv_any _ _ _ _ _ _ _ _).mono ?_; rintro e w2 ⟨rfl, hb2⟩; have hn := step3 hB hz (by omega) c0 c1 c2 hb2; have hn' := step3 hB hz (by omega) d0 d1 d2 hb2; clear hB hz c0 c1 c2 d0 d1 d2 hb2; obtain ⟨hB, hz, c0, c1, c2⟩ := hn; obtain ⟨-, -, d0, d1, d2⟩ := hn')
              | (go_at_call 12; refine (wakes_any _).mono ?_; rintro e w2 ⟨rfl, hb2⟩; have hn := step3 hB hz (by omega) c0 c1 c2 hb2; have hn' := step3 hB hz (by omega) d0 d1 d2 hb2; clear hB hz c0 c1 c2 d0 d1 d2 hb2; obtain ⟨hB, hz, c0, c1, c2⟩ := hn; obtain ⟨-, -, d0, d1, d2⟩ := hn')
              | (go_at_call 15; refine (isw_any _ _ _ _ _).mono ?_; rintro e w2 ⟨rfl, hb2⟩; have hn := step3 hB hz (by omega) c0 c1 c2 hb2; have hn' := step3 hB hz (by omega) d0 d1 d2 hb2; clear hB hz c0 c1 c2 d0 d1 d2 hb2; obtain ⟨hB, hz, c0, c1, c2⟩ := hn; obtain ⟨-, -, d0, d1, d2⟩ := hn')
              | (go_at_call 19; refine (value_any _ _ _ _ _).mono ?_; rintro e w2 ⟨rfl, hb2⟩; have hn := step3 hB hz (by omega) c0 c1 c2 hb2; have hn' := step3 hB hz (by omega) d0 d1 d2 hb2; clear hB hz c0 c1 c2 d0 d1 d2 hb2; obtain ⟨hB, hz, c0, c1, c2⟩ := hn; obtain ⟨-, -, d0, d1, d2⟩ := hn'))
            go_ret
            exact ⟨rfl, hB⟩
          · have hw4 : W' ≤ W := by omega
            have hw5 : W ≤ W' := by omega
            clear hw hw3
            have hF := conv_facts (B' := false) (S' := true) ha hm' rfl
            have l1 := conv_low W ha hm' (by omega) (by omega) (by omega)
            generalize sval false W a % 2 ^ W'.toNat = b at *
            have hd1 : decide (W ≤ W') = true := by simp; omega
            have hd2 : decide (W < W') = false := by simp; omega
            obtain ⟨e1, e2, e3⟩ := hF
            clear hm hm' ha
            go_wp2_with (first
              | (go_at_call 14; refine (hcut0.out _).mono ?_; rintro e w2 ⟨rfl, hb2⟩; have hn := step3 hB hz (by omega) c0 c1 c2 hb2; have hn' := step3 hB hz (by omega) d0 d1 d2 hb2; clear hB hz c0 c1 c2 d0 d1 d2 hb2; obtain ⟨hB, hz, c0, c1, c2⟩ := hn; obtain ⟨-, -, d0, d1, d2⟩ := hn')
              | (go_at_call 21; refine (conv_any _ _ _ _ _ _ _ _).mono ?_; rintro e w2 ⟨rfl, hb2⟩; have hn := step3 hB hz (by omega) c0 c1 c2 hb2; have hn' := step3 hB hz (by omega) d0 d1 d2 hb2; clear hB hz c0 c1 c2 d0 d1 d2 hb2; obtain ⟨hB, hz, c0, c1, c2⟩ := hn; obtain ⟨-, -, d0, d1, d2⟩ := hn')
              | (go_at_call 12; refine (wakes_any _).mono ?_; rintro e w2 ⟨rfl, hb2⟩; have hn := step3 hB hz (by omega) c0 c1 c2 hb2; have hn' := step3 hB hz (by omega) d0 d1 d2 hb2; clear hB hz c0 c1 c2 d0 d1 d2 hb2; obtain ⟨hB, hz, c0, c1, c2⟩ := hn; obtain ⟨-, -, d0, d1, d2⟩ := hn')
              | (go_at_call 15; refine (isw_any _ _ _ _ _).mono ?_; rintro e w2 ⟨rfl, hb2⟩; have hn := step3 hB hz (by omega) c0 c1 c2 hb2; have hn' := step3 hB hz (by omega) d0 d1 d2 hb2; clear hB hz c0 c1 c2 d0 d1 d2 hb2; obtain ⟨hB, hz, c0, c1, c2⟩ := hn; obtain ⟨-, -, d0, d1, d2⟩ := hn')
              | (go_at_call 19; refine (value_any _ _ _ _ _).mono ?_; rintro e w2 ⟨rfl, hb2⟩; have hn := step3 hB hz (by omega) c0 c1 c2 hb2; have hn' := step3 hB hz (by omega) d0 d1 d2 hb2; clear hB hz c0 c1 c2 d0 d1 d2 hb2; obtain ⟨hB, hz, c0, c1, c2⟩ := hn; obtain ⟨-, -, d0, d1, d2⟩ := hn'))
            go_ret
            exact ⟨rfl, hB⟩
      · by_cases hw : W ≤ W'
        · have hF := conv_facts (B' := false) (S' := true) ha hm' rfl
          have l1 := conv_low W ha hm' (by omega) (by omega) (by omega)
          have hh : holdsB true W true W' = true := by unfold holdsB; simp; omega
          obtain ⟨v1, v2⟩ := conv_value ha hm' hh
          obtain ⟨k1, k2⟩ := conv_back ha hm' hh rfl
          clear hh
          generalize sval true W a % 2 ^ W'.toNat = b at *
          have hd1 : decide (W ≤ W') = true := by simp; omega
          obtain ⟨e1, e2, e3⟩ := hF
          clear hm hm' ha
          go_wp2_with (first
            | (go_at_call 14; refine (hcut0.out _).mono ?_; rintro e w2 ⟨rfl, hb2⟩; have hn := step3 hB hz (by omega) c0 c1 c2 hb2; have hn' := step3 hB hz (by omega) d0 d1 d2 hb2; clear hB hz c0 c1 c2 d0 d1 d2 hb2; obtain ⟨hB, hz, c0, c1, c2⟩ := hn; obtain ⟨-, -, d0, d1, d2⟩ := hn')
            | (go_at_call 21; refine (conv_any _ _ _ _ _ _ _ _).mono ?_; rintro e w2 ⟨rfl, hb2⟩; have hn := step3 hB hz (by omega) c0 c1 c2 hb2; have hn' := step3 hB hz (by omega) d0 d1 d2 hb2; clear hB hz c0 c1 c2 d0 d1 d2 hb2; obtain ⟨hB, hz, c0, c1, c2⟩ := hn; obtain ⟨-, -, d0, d1, d2⟩ := hn')
            | (go_at_call 12; refine (wakes_any _).mono ?_; rintro e w2 ⟨rfl, hb2⟩; have hn := step3 hB hz (by omega) c0 c1 c2 hb2; have hn' := step3 hB hz (by omega) d0 d1 d2 hb2; clear hB hz c0 c1 c2 d0 d1 d2 hb2; obtain ⟨hB, hz, c0, c1, c2⟩ := hn; obtain ⟨-, -, d0, d1, d2⟩ := hn')
            | (go_at_call 15; refine (isw_any _ _ _ _ _).mono ?_; rintro e w2 ⟨rfl, hb2⟩; have hn := step3 hB hz (by omega) c0 c1 c2 hb2; have hn' := step3 hB hz (by omega) d0 d1 d2 hb2; clear hB hz c0 c1 c2 d0 d1 d2 hb2; obtain ⟨hB, hz, c0, c1, c2⟩ := hn; obtain ⟨-, -, d0, d1, d2⟩ := hn')
            | (go_at_call 19; refine (value_any _ _ _ _ _).mono ?_; rintro e w2 ⟨rfl, hb2⟩; have hn := step3 hB hz (by omega) c0 c1 c2 hb2; have hn' := step3 hB hz (by omega) d0 d1 d2 hb2; clear hB hz c0 c1 c2 d0 d1 d2 hb2; obtain ⟨hB, hz, c0, c1, c2⟩ := hn; obtain ⟨-, -, d0, d1, d2⟩ := hn'))
          go_ret
          exact ⟨rfl, hB⟩
        · have hw2 : W' < W := by omega
          clear hw
          have hF := conv_facts (B' := false) (S' := true) ha hm' rfl
          have l1 := conv_low W' ha hm' (by omega) (by omega) (by omega)
          generalize sval true W a % 2 ^ W'.toNat = b at *
          have hd1 : decide (W ≤ W') = false := by simp; omega
          have hd2 : decide (W < W') = false := by simp; omega
          obtain ⟨e1, e2, e3⟩ := hF
          clear hm hm' ha
          go_wp2_with (first
            | (go_at_call 14; refine (hcut0.out _).mono ?_; rintro e w2 ⟨rfl, hb2⟩; have hn := step3 hB hz (by omega) c0 c1 c2 hb2; have hn' := step3 hB hz (by omega) d0 d1 d2 hb2; clear hB hz c0 c1 c2 d0 d1 d2 hb2; obtain ⟨hB, hz, c0, c1, c2⟩ := hn; obtain ⟨-, -, d0, d1, d2⟩ := hn')
            | (go_at_call 21; refine (conv_any _ _ _ _ _ _ _ _).mono ?_; rintro e w2 ⟨rfl, hb2⟩; have hn := step3 hB hz (by omega) c0 c1 c2 hb2; have hn' := step3 hB hz (by omega) d0 d1 d2 hb2; clear hB hz c0 c1 c2 d0 d1 d2 hb2; obtain ⟨hB, hz, c0, c1, c2⟩ := hn; obtain ⟨-, -, d0, d1, d2⟩ := hn')
            | (go_at_call 12; refine (wakes_any _).mono ?_; rintro e w2 ⟨rfl, hb2⟩; have hn := step3 hB hz (by omega) c0 c1 c2 hb2; have hn' := step3 hB hz (by omega) d0 d1 d2 hb2; clear hB hz c0 c1 c2 d0 d1 d2 hb2; obtain ⟨hB, hz, c0, c1, c2⟩ := hn; obtain ⟨-, -, d0, d1, d2⟩ := hn')
            | (go_at_call 15; refine (isw_any _ _ _ _ _).mono ?_; rintro e w2 ⟨rfl, hb2⟩; have hn := step3 hB hz (by omega) c0 c1 c2 hb2; have hn' := step3 hB hz (by omega) d0 d1 d2 hb2; clear hB hz c0 c1 c2 d0 d1 d2 hb2; obtain ⟨hB, hz, c0, c1, c2⟩ := hn; obtain ⟨-, -, d0, d1, d2⟩ := hn')
            | (go_at_call 19; refine (value_any _ _ _ _ _).mono ?_; rintro e w2 ⟨rfl, hb2⟩; have hn := step3 hB hz (by omega) c0 c1 c2 hb2; have hn' := step3 hB hz (by omega) d0 d1 d2 hb2; clear hB hz c0 c1 c2 d0 d1 d2 hb2; obtain ⟨hB, hz, c0, c1, c2⟩ := hn; obtain ⟨-, -, d0, d1, d2⟩ := hn'))
          go_ret
          exact ⟨rfl, hB⟩
    · cases S' <;> cases S
      · have hW : W = 1 := by unfold may at hm; simp at hm; exact hm
        have hw : W ≤ W' := by omega
        clear hW
        have hF := conv_facts (B' := false) (S' := false) ha hm' rfl
        have l1 := conv_low W ha hm' (by omega) (by omega) (by omega)
        have hh : holdsB false W false W' = true := by unfold holdsB; simp; omega
        obtain ⟨v1, v2⟩ := conv_value ha hm' hh
        have bb := beq_iff_eq.2 (conv_bool (W' := W') ha ⟨bd3, bd4⟩)
        clear hh
        generalize sval false W a % 2 ^ W'.toNat = b at *
        have hd1 : decide (W ≤ W') = true := by simp; omega
        obtain ⟨e1, e2, e3⟩ := hF
        clear hm hm' ha
        go_wp2_with (first
          | (go_at_call 14; refine (hcut0.out _).mono ?_; rintro e w2 ⟨rfl, hb2⟩; have hn := step3 hB hz (by omega) c0 c1 c2 hb2; have hn' := step3 hB hz (by omega) d0 d1 d2 hb2; clear hB hz c0 c1 c2 d0 d1 d2 hb2; obtain ⟨hB, hz, c0, c1, c2⟩ := hn; obtain ⟨-, -, d0, d1, d2⟩ := hn')
          | (go_at_call 21; refine (conv_any _ _ _ _ _ _ _ _).mono ?_; rintro e w2 ⟨rfl, hb2⟩; have hn := step3 hB hz (by omega) c0 c1 c2 hb2; have hn' := step3 hB hz (by omega) d0 d1 d2 hb2; clear hB hz c0 c1 c2 d0 d1 d2 hb2; obtain ⟨hB, hz, c0, c1, c2⟩ := hn; obtain ⟨-, -, d0, d1, d2⟩ := hn')
          | (go_at_call 12; refine (wakes_any _).mono ?_; rintro e w2 ⟨rfl, hb2⟩; have hn := step3 hB hz (by omega) c0 c1 c2 hb2; have hn' := step3 hB hz (by omega) d0 d1 d2 hb2; clear hB hz c0 c1 c2 d0 d1 d2 hb2; obtain ⟨hB, hz, c0, c1, c2⟩ := hn; obtain ⟨-, -, d0, d1, d2⟩ := hn')
          | (go_at_call 15; refine (isw_any _ _ _ _ _).mono ?_; rintro e w2 ⟨rfl, hb2⟩; have hn := step3 hB hz (by omega) c0 c1 c2 hb2; have hn' := step3 hB hz (by omega) d0 d1 d2 hb2; clear hB hz c0 c1 c2 d0 d1 d2 hb2; obtain ⟨hB, hz, c0, c1, c2⟩ := hn; obtain ⟨-, -, d0, d1, d2⟩ := hn')
          | (go_at_call 19; refine (value_any _ _ _ _ _).mono ?_; rintro e w2 ⟨rfl, hb2⟩; have hn := step3 hB hz (by omega) c0 c1 c2 hb2; have hn' := step3 hB hz (by omega) d0 d1 d2 hb2; clear hB hz c0 c1 c2 d0 d1 d2 hb2; obtain ⟨hB, hz, c0, c1, c2⟩ := hn; obtain ⟨-, -, d0, d1, d2⟩ := hn'))
        go_ret
        exact ⟨rfl, hB⟩
      · simp [may] at hm
      · by_cases hw : W < W'
        · have hw2 : W ≤ W' := by omega
          have hF := conv_facts (B' := false) (S' := true) ha hm' rfl
          have l1 := conv_low W ha hm' (by omega) (by omega) (by omega)
          have hh : holdsB false W true W' = true := by unfold holdsB; simp; omega
          obtain ⟨v1, v2⟩ := conv_value ha hm' hh
          have bb := beq_iff_eq.2 (conv_bool (W' := W') ha ⟨bd3, bd4⟩)
          clear hh
          generalize sval false W a % 2 ^ W'.toNat = b at *
          have hd1 : decide (W ≤ W') = true := by simp; omega
          have hd2 : decide (W < W') = true := by simp; omega
          obtain ⟨e1, e2, e3⟩ := hF
          clear hm hm' ha
          go_wp2_with (first
            | (go_at_call 14; refine (hcut0.out _).mono ?_; rintro e w2 ⟨rfl, hb2⟩; have hn := step3 hB hz (by omega) c0 c1 c2 hb2; have hn' := step3 hB hz (by omega) d0 d1 d2 hb2; clear hB hz c0 c1 c2 d0 d1 d2 hb2; obtain ⟨hB, hz, c0, c1, c2⟩ := hn; obtain ⟨-, -, d0, d1, d2⟩ := hn')
            | (go_at_call 21; refine (conv_any _ _ _ _ _ _ _ _).mono ?_; rintro e w2 ⟨rfl, hb2⟩; have hn := step3 hB hz (by omega) c0 c1 c2 hb2; have hn' := step3 hB hz (by omega) d0 d1 d2 hb2; clear hB hz c0 c1 c2 d0 d1 d2 hb2; obtain ⟨hB, hz, c0, c1, c2⟩ := hn; obtain ⟨-, -, d0, d1, d2⟩ := hn')
            | (go_at_call 12; refine (wakes_any _).mono ?_; rintro e w2 ⟨rfl, hb2⟩; have hn := step3 hB hz (by omega) c0 c1 c2 hb2; have hn' := step3 hB hz (by omega) d0 d1 d2 hb2; clear hB hz c0 c1 c2 d0 d1 d2 hb2; obtain ⟨hB, hz, c0, c1, c2⟩ := hn; obtain ⟨-, -, d0, d1, d2⟩ := hn')
            | (go_at_call 15; refine (isw_any _ _ _ _ _).mono ?_; rintro e w2 ⟨rfl, hb2⟩; have hn := step3 hB hz (by omega) c0 c1 c2 hb2; have hn' := step3 hB hz (by omega) d0 d1 d2 hb2; clear hB hz c0 c1 c2 d0 d1 d2 hb2; obtain ⟨hB, hz, c0, c1, c2⟩ := hn; obtain ⟨-, -, d0, d1, d2⟩ := hn')
            | (go_at_call 19; refine (value_any _ _ _ _ _).mono ?_; rintro e w2 ⟨rfl, hb2⟩; have hn := step3 hB hz (by omega) c0 c1 c2 hb2; have hn' := step3 hB hz (by omega) d0 d1 d2 hb2; clear hB hz c0 c1 c2 d0 d1 d2 hb2; obtain ⟨hB, hz, c0, c1, c2⟩ := hn; obtain ⟨-, -, d0, d1, d2⟩ := hn'))
          go_ret
          exact ⟨rfl, hB⟩
        · by_cases hw3 : W' < W
          · clear hw
            have hF := conv_facts (B' := false) (S' := true) ha hm' rfl
            have l1 := conv_low W' ha hm' (by omega) (by omega) (by omega)
            generalize sval false W a % 2 ^ W'.toNat = b at *
            have hd1 : decide (W ≤ W') = false := by simp; omega
            have hd2 : decide (W < W') = false := by simp; omega
            obtain ⟨e1, e2, e3⟩ := hF
            clear hm hm' ha
            go_wp2_with (first
              | (go_at_call 14; refine (hcut0.out _).mono ?_; rintro e w2 ⟨rfl, hb2⟩; have hn := step3 hB hz (by omega) c0 c1 c2 hb2; have hn' := step3 hB hz (by omega) d0 d1 d2 hb2; clear hB hz c0 c1 c2 d0 d1 d2 hb2; obtain ⟨hB, hz, c0, c1, c2⟩ := hn; obtain ⟨-, -, d0, d1, d2⟩ := hn')
              | (go_at_call 21; refine (conv_any _ _ _ _ _ _ _ _).mono ?_; rintro e w2 ⟨rfl, hb2⟩; have hn := step3 hB hz (by omega) c0 c1 c2 hb2; have hn' := step3 hB hz (by omega) d0 d1 d2 hb2; clear hB hz c0 c1 c2 d0 d1 d2 hb2; obtain ⟨hB, hz, c0, c1, c2⟩ := hn; obtain ⟨-, -, d0, d1, d2⟩ := hn')
              | (go_at_call 12; refine (wakes_any _).mono ?_; rintro e w2 ⟨rfl, hb2⟩; have hn := step3 hB hz (by omega) c0 c1 c2 hb2; have hn' := step3 hB hz (by omega) d0 d1 d2 hb2; clear hB hz c0 c1 c2 d0 d1 d2 hb2; obtain ⟨hB, hz, c0, c1, c2⟩ := hn; obtain ⟨-, -, d0, d1, d2⟩ := hn')
              | (go_at_call 15; refine (isw_any _ _ _ _ _).mono ?_; rintro e w2 ⟨rfl, hb2⟩; have hn := step3 hB hz (by omega) c0 c1 c2 hb2; have hn' := step3 hB hz (by omega) d0 d1 d2 hb2; clear hB hz c0 c1 c2 d0 d1 d2 hb2; obtain ⟨hB, hz, c0, c1, c2⟩ := hn; obtain ⟨-, -, d0, d1, d2⟩ := hn')
              | (go_at_call 19; refine (value_any _ _ _ _ _).mono ?_; rintro e w2 ⟨rfl, hb2⟩; have hn := step3 hB hz (by omega) c0 c1 c2 hb2; have hn' := step3 hB hz (by omega) d0 d1 d2 hb2; clear hB hz c0 c1 c2 d0 d1 d2 hb2; obtain ⟨hB, hz, c0, c1, c2⟩ := hn; obtain ⟨-, -, d0, d1, d2⟩ := hn'))
            go_ret
            exact ⟨rfl, hB⟩
          · have hw4 : W' ≤ W := by omega
            have hw5 : W ≤ W' := by omega
            clear hw hw3
            have hF := conv_facts (B' := false) (S' := true) ha hm' rfl
            have l1 := conv_low W ha hm' (by omega) (by omega) (by omega)
            generalize sval false W a % 2 ^ W'.toNat = b at *
            have hd1 : decide (W ≤ W') = true := by simp; omega
            have hd2 : decide (W < W') = false := by simp; omega
            obtain ⟨e1, e2, e3⟩ := hF
            clear hm hm' ha
            go_wp2_with (first
              | (go_at_call 14; refine (hcut0.out _).mono ?_; rintro e w2 ⟨rfl, hb2⟩; have hn := step3 hB hz (by omega) c0 c1 c2 hb2; have hn' := step3 hB hz (by omega) d0 d1 d2 hb2; clear hB hz c0 c1 c2 d0 d1 d2 hb2; obtain ⟨hB, hz, c0, c1, c2⟩ := hn; obtain ⟨-, -, d0, d1, d2⟩ := hn')
              | (go_at_call 21; refine (conv_any _ _ _ _ _ _ _ _).mono ?_; rintro e w2 ⟨rfl, hb2⟩; have hn := step3 hB hz (by omega) c0 c1 c2 hb2; have hn' := step3 hB hz (by omega) d0 d1 d2 hb2; clear hB hz c0 c1 c2 d0 d1 d2 hb2; obtain ⟨hB, hz, c0, c1, c2⟩ := hn; obtain ⟨-, -, d0, d1, d2⟩ := hn')
              | (go_at_call 12; refine (wakes_any _).mono ?_; rintro e w2 ⟨rfl, hb2⟩; have hn := step3 hB hz (by omega) c0 c1 c2 hb2; have hn' := step3 hB hz (by omega) d0 d1 d2 hb2; clear hB hz c0 c1 c2 d0 d1 d2 hb2; obtain ⟨hB, hz, c0, c1, c2⟩ := hn; obtain ⟨-, -, d0, d1, d2⟩ := hn')
              | (go_at_call 15; refine (isw_any _ _ _ _ _).mono ?_; rintro e w2 ⟨rfl, hb2⟩; have hn := step3 hB hz (by omega) c0 c1 c2 hb2; have hn' := step3 hB hz (by omega) d0 d1 d2 hb2; clear hB hz c0 c1 c2 d0 d1 d2 hb2; obtain ⟨hB, hz, c0, c1, c2⟩ := hn; obtain ⟨-, -, d0, d1, d2⟩ := hn')
              | (go_at_call 19; refine (value_any _ _ _ _ _).mono ?_; rintro e w2 ⟨rfl, hb2⟩; have hn := step3 hB hz (by omega) c0 c1 c2 hb2; have hn' := step3 hB hz (by omega) d0 d1 d2 hb2; clear hB hz c0 c1 c2 d0 d1 d2 hb2; obtain ⟨hB, hz, c0, c1, c2⟩ := hn; obtain ⟨-, -, d0, d1, d2⟩ := hn'))
            go_ret
            exact ⟨rfl, hB⟩
      · simp [may] at hm
    · obtain ⟨e1, e2⟩ := conv_no (B := false) (S := S) (B' := true) (S' := S') (W := W) (W' := W') (a := a) rfl
      clear hm hm' ha
      go_wp2_with (first
        | (go_at_call 14; refine (hcut0.out _).mono ?_; rintro e w2 ⟨rfl, hb2⟩; have hn := step3 hB hz (by omega) c0 c1 c2 hb2; have hn' := step3 hB hz (by omega) d0 d1 d2 hb2; clear hB hz c0 c1 c2 d0 d1 d2 hb2; obtain ⟨hB, hz, c0, c1, c2⟩ := hn; obtain ⟨-, -, d0, d1, d2⟩ := hn')
        | (go_at_call 21; refine (conv_any _ _ _ _ _ _ _ _).mono ?_; rintro e w2 ⟨rfl, hb2⟩; have hn := step3 hB hz (by omega) c0 c1 c2 hb2; have hn' := step3 hB hz (by omega) d0 d1 d2 hb2; clear hB hz c0 c1 c2 d0 d1 d2 hb2; obtain ⟨hB, hz, c0, c1, c2⟩ := hn; obtain ⟨-, -, d0, d1, d2⟩ := hn')
        | (go_at_call 12; refine (wakes_any _).mono ?_; rintro e w2 ⟨rfl, hb2⟩; have hn := step3 hB hz (by omega) c0 c1 c2 hb2; have hn' := step3 hB hz (by omega) d0 d1 d2 hb2; clear hB hz c0 c1 c2 d0 d1 d2 hb2; obtain ⟨hB, hz, c0, c1, c2⟩ := hn; obtain ⟨-, -, d0, d1, d2⟩ := hn')
        | (go_at_call 15; refine (isw_any _ _ _ _ _).mono ?_; rintro e w2 ⟨rfl, hb2⟩; have hn := step3 hB hz (by omega) c0 c1 c2 hb2; have hn' := step3 hB hz (by omega) d0 d1 d2 hb2; clear hB hz c0 c1 c2 d0 d1 d2 hb2; obtain ⟨hB, hz, c0, c1, c2⟩ := hn; obtain ⟨-, -, d0, d1, d2⟩ := hn')
        | (go_at_call 19; refine (value_any _ _ _ _ _).mono ?_; rintro e w2 ⟨rfl, hb2⟩; have hn := step3 hB hz (by omega) c0 c1 c2 hb2; have hn' := step3 hB hz (by omega) d0 d1 d2 hb2; clear hB hz c0 c1 c2 d0 d1 d2 hb2; obtain ⟨hB, hz, c0, c1, c2⟩ := hn; obtain ⟨-, -, d0, d1, d2⟩ := hn'))
      go_ret
      exact ⟨rfl, hB⟩
    · cases S' <;> cases S
      · have hW : W = 1 := by unfold may at hm; simp at hm; exact hm
        have hw : W ≤ W' := by omega
        clear hW
        have hF := conv_facts (B' := true) (S' := false) ha hm' rfl
        have l1 := conv_low W ha hm' (by omega) (by omega) (by omega)
        have hh : holdsB false W false W' = true := by unfold holdsB; simp; omega
        obtain ⟨v1, v2⟩ := conv_value ha hm' hh
        obtain ⟨k1, k2⟩ := conv_back ha hm' hh rfl
        clear hh
        generalize sval false W a % 2 ^ W'.toNat = b at *
        have hd1 : decide (W ≤ W') = true := by simp; omega
        obtain ⟨e1, e2, e3⟩ := hF
        clear hm hm' ha
        go_wp2_with (first
          | (go_at_call 14; refine (hcut0.out _).mono ?_; rintro e w2 ⟨rfl, hb2⟩; have hn := step3 hB hz (by omega) c0 c1 c2 hb2; have hn' := step3 hB hz (by omega) d0 d1 d2 hb2; clear hB hz c0 c1 c2 d0 d1 d2 hb2; obtain ⟨hB, hz, c0, c1, c2⟩ := hn; obtain ⟨-, -, d0, d1, d2⟩ := hn')
          | (go_at_call 21; refine (conv_any _ _ _ _ _ _ _ _).mono ?_; rintro e w2 ⟨rfl, hb2⟩; have hn := step3 hB hz (by omega) c0 c1 c2 hb2; have hn' := step3 hB hz (by omega) d0 d1 d2 hb2; clear hB hz c0 c1 c2 d0 d1 d2 hb2; obtain ⟨hB, hz, c0, c1, c2⟩ := hn; obtain ⟨-, -, d0, d1, d2⟩ := hn')
          | (go_at_call 12; refine (wakes_any _).mono ?_; rintro e w2 ⟨rfl, hb2⟩; have hn := step3 hB hz (by omega) c0 c1 c2 hb2; have hn' := step3 hB hz (by omega) d0 d1 d2 hb2; clear hB hz c0 c1 c2 d0 d1 d2 hb2; obtain ⟨hB, hz, c0, c1, c2⟩ := hn; obtain ⟨-, -, d0, d1, d2⟩ := hn')
          | (go_at_call 15; refine (isw_any _ _ _ _ _).mono ?_; rintro e w2 ⟨rfl, hb2⟩; have hn := step3 hB hz (by omega) c0 c1 c2 hb2; have hn' := step3 hB hz (by omega) d0 d1 d2 hb2; clear hB hz c0 c1 c2 d0 d1 d2 hb2; obtain ⟨hB, hz, c0, c1, c2⟩ := hn; obtain ⟨-, -, d0, d1, d2⟩ := hn')
          | (go_at_call 19; refine (value_any _ _ _ _ _).mono ?_; rintro e w2 ⟨rfl, hb2⟩; have hn := step3 hB hz (by omega) c0 c1 c2 hb2; have hn' := step3 hB hz (by omega) d0 d1 d2 hb2; clear hB hz c0 c1 c2 d0 d1 d2 hb2; obtain ⟨hB, hz, c0, c1, c2⟩ := hn; obtain ⟨-, -, d0, d1, d2⟩ := hn'))
        go_ret
        exact ⟨rfl, hB⟩
      · simp [may] at hm
      · simp [may] at hm'
      · simp [may] at hm
end Go.Proofs.Ytmieddcgnaddiaa
