/-
  Walks over the document's own answer to 'Two': sums, products.
-/
import Derived.Test.YtmieddcgnaddiaaRefD
namespace Go.Proofs.Ytmieddcgnaddiaa
open Go.RowKit Bits

def sumRow (k a b : Nat) : List Int := row k (sumAt (fun i => (row k (bt a)).getD i 0) (fun i => (row k (bt b)).getD i 0) 0)

set_option maxRecDepth 100000 in
set_option maxHeartbeats 4000000 in
theorem rtwo_4 (S : Bool) (k a b : Nat) (ha : a < 18446744073709551616) (hb : b < 18446744073709551616) (hk1 : 1 ≤ k) (hk2 : k ≤ 64) (hi : isw false S (k : Int) a = true) (hj : isw false S (k : Int) b = true) (w : World) :
    Calls Try.prog 31 #[.int .i64 4, .agg #[.bool false, .bool S, .int .i64 k], .int .u64 a, .int .u64 b] w fun e w' => e = .returned (.tuple #[.int .u64 (num (sumRow k a b)), .int .i64 0]) ∧ Below w.heap.size w w' := by
  have his := Lib.hid (ris_any false S k a ha)
  have hjs := Lib.hid (ris_any false S k b hb)
  have hba := Lib.hid (bits_any a k ha hk1 hk2)
  have hbb := Lib.hid (bits_any b k hb hk1 hk2)
  obtain ⟨i0, hin, hz0, hz1, hz2⟩ := info_parts info_int
  clear ha hb
  go_enter Try.func31, Try.ntmps31
  go_wp2_with (first
    | (go_at_call 36; (with_reducible refine (his.out _).mono ?_); rintro e w2 ⟨rfl, hb2⟩; have hn := box3 (T := 23) hb2; clear hb2; obtain ⟨hB, hz, c0, c1, c2⟩ := hn)
    | (go_at_call 36; (with_reducible refine (hjs.out _).mono ?_); rintro e w2 ⟨rfl, hb2⟩; have hn := step3 hB hz (by omega) c0 c1 c2 hb2; clear hB hz c0 c1 c2 hb2; obtain ⟨hB, hz, c0, c1, c2⟩ := hn)
    | (go_at_call 28; (with_reducible refine (hba.out _).mono ?_); rintro e w2 ⟨gx, rfl, hslx, hb2⟩; have hn := step3 hB hz (by omega) c0 c1 c2 hb2; clear hB hz c0 c1 c2 hb2; obtain ⟨hB, hz, c0, c1, c2⟩ := hn)
    | (go_at_call 28; (with_reducible refine (hbb.out _).mono ?_); rintro e w2 ⟨gy, rfl, hsly, hb2⟩; have hx2 := hslx.step hb2; clear hslx; have hslx := hx2; clear hx2; have hn := step3 hB hz (by omega) c0 c1 c2 hb2; clear hB hz c0 c1 c2 hb2; obtain ⟨hB, hz, c0, c1, c2⟩ := hn)
    | (at_make; refine wpList_make_full _ rfl _ _ 53 rfl w2.heap.size 3 i0 (.int .i64 0) 1 Try.underlying53 hin hz0 hz1 .i64 .i64 k k k rfl rfl rfl rfl (by rw [hz2]; omega) (by unfold maxLen; omega) (Nat.le_refl _) ?_; intro w3 hown hg; have hb2 := (Below.refl w2.heap.size w2).grown hg (Nat.le_refl _) (fun _ h => by cases h); clear hg; have hx2 := hslx.step hb2; clear hslx; have hslx := hx2; clear hx2; have hy2 := hsly.step hb2; clear hsly; have hsly := hy2; clear hy2; have hn := step3 hB hz (by omega) c0 c1 c2 hb2; clear hB hz c0 c1 c2 hb2; obtain ⟨hB, hz, c0, c1, c2⟩ := hn; clear hown))
  go_wp2_with (first
    | (go_at_call 38; refine (add_any gx k k gy k (row k (bt a)) (row k (bt b)) 0 (row_length _ _) (row_length _ _) (bt_row a k) (bt_row b k) (.inl rfl) hk1 hk2 _ hslx hsly).mono ?_; rintro e w2 ⟨g', cap', rfl, hsl, hb2⟩; have hn := step3 hB hz (by omega) c0 c1 c2 hb2; clear hB hz c0 c1 c2 hb2; obtain ⟨hB, hz, c0, c1, c2⟩ := hn)
    | (go_at_call 27; refine (number_any _ k _ (sumRow k a b) (row_length _ _) (row_01 (fun i _ => sum_01 _ _ _ i)) hk1 hk2 _ hsl).mono ?_; rintro e w3 ⟨rfl, rfl⟩))
  go_ret2
  exact ⟨rfl, hB⟩

theorem fillF_up (f : Nat → Int) (k j : Nat) : fillF (upRow f j) k j = fillF (upRow f j) k 0 := row_congr (fun i _ => by
  by_cases h : i < j
  · rw [if_pos h, if_neg (by omega)]; unfold upRow; rw [if_pos h]
  · rw [if_neg h, if_neg (by omega)])

theorem carry_congr {f g g' : Nat → Int} {c : Int} {n : Nat} (h : ∀ i, i < n → g i = g' i) : ∀ i, i ≤ n → carry f g c i = carry f g' c i := by
  intro i
  induction i with
  | zero => intro _; rfl
  | succ i ih => intro hi; show (f i + g i + carry f g c i) / 2 = (f i + g' i + carry f g' c i) / 2; rw [ih (by omega), h i (by omega)]
theorem sum_congr {f g g' : Nat → Int} {c : Int} {n : Nat} (h : ∀ i, i < n → g i = g' i) : row n (sumAt f g c) = row n (sumAt f g' c) := row_congr (fun i hi => by
  unfold sumAt; rw [carry_congr h i (by omega), h i hi])

set_option maxRecDepth 100000 in
set_option maxHeartbeats 4000000 in
theorem rtwo_6 (S : Bool) (k a b : Nat) (ha : a < 18446744073709551616) (hb : b < 18446744073709551616) (hk1 : 1 ≤ k) (hk2 : k ≤ 64) (hi : isw false S (k : Int) a = true) (hj : isw false S (k : Int) b = true) (w : World) :
    Calls Try.prog 31 #[.int .i64 6, .agg #[.bool false, .bool S, .int .i64 k], .int .u64 a, .int .u64 b] w fun e w' => e = .returned (.tuple #[.int .u64 ((num (row k (bt a)) * num (row k (bt b))) % 2 ^ k), .int .i64 0]) ∧ Below w.heap.size w w' := by
  have his := Lib.hid (ris_any false S k a ha)
  have hjs := Lib.hid (ris_any false S k b hb)
  have hba := Lib.hid (bits_any a k ha hk1 hk2)
  have hbb := Lib.hid (bits_any b k hb hk1 hk2)
  obtain ⟨i0, hin, hz0, hz1, hz2⟩ := info_parts info_int
  clear ha hb
  go_enter Try.func31, Try.ntmps31
  go_wp2_with (first
    | (go_at_call 36; (with_reducible refine (his.out _).mono ?_); rintro e w2 ⟨rfl, hb2⟩; have hn := box3 (T := 23) hb2; clear hb2; obtain ⟨hB, hz, c0, c1, c2⟩ := hn)
    | (go_at_call 36; (with_reducible refine (hjs.out _).mono ?_); rintro e w2 ⟨rfl, hb2⟩; have hn := step3 hB hz (by omega) c0 c1 c2 hb2; clear hB hz c0 c1 c2 hb2; obtain ⟨hB, hz, c0, c1, c2⟩ := hn)
    | (go_at_call 28; (with_reducible refine (hba.out _).mono ?_); rintro e w2 ⟨gx, rfl, hslx, hb2⟩; have hn := step3 hB hz (by omega) c0 c1 c2 hb2; clear hB hz c0 c1 c2 hb2; obtain ⟨hB, hz, c0, c1, c2⟩ := hn)
    | (go_at_call 28; (with_reducible refine (hbb.out _).mono ?_); rintro e w2 ⟨gy, rfl, hsly, hb2⟩; have hx2 := hslx.step hb2; clear hslx; have hslx := hx2; clear hx2; have hn := step3 hB hz (by omega) c0 c1 c2 hb2; clear hB hz c0 c1 c2 hb2; obtain ⟨hB, hz, c0, c1, c2⟩ := hn)
    | (at_make; refine wpList_make_full _ rfl _ _ 53 rfl w2.heap.size 3 i0 (.int .i64 0) 1 Try.underlying53 hin hz0 hz1 .i64 .i64 k k k rfl rfl rfl rfl (by rw [hz2]; omega) (by unfold maxLen; omega) (Nat.le_refl _) ?_; intro w3 hown hg; have hb2 := (Below.refl w2.heap.size w2).grown hg (Nat.le_refl _) (fun _ h => by cases h); clear hg; have hx2 := hslx.step hb2; clear hslx; have hslx := hx2; clear hx2; have hy2 := hsly.step hb2; clear hsly; have hsly := hy2; clear hy2; have hn := step3 hB hz (by omega) c0 c1 c2 hb2; clear hB hz c0 c1 c2 hb2; obtain ⟨hB, hz, c0, c1, c2⟩ := hn))
  rw [fillF_zero (fun _ => 0) k] at hown
  have hsl0 := Sl.of_own hown (by simp [fillF, row]) (by omega)
  have HX := Lib.hid hslx
  have HY := Lib.hid hsly
  have H0 : Hid (num (fillF (fun _ => 0) k 0) = (num (row k (bt a)) * num (row 0 (bt b))) % 2 ^ k ∧ All01 (fillF (fun _ => 0) k 0)) := by
    refine ⟨?_, row_01 (fun i _ => .inl (by simp))⟩
    have : ∀ m, num (row m (fun i => if i < 0 then (fun _ => (0 : Int)) i else 0)) = 0 := by
      intro m; induction m with
      | zero => rfl
      | succ m ih => rw [row_num_succ, ih]; simp
    show num (row k _) = _
    rw [this]; simp [row, num]
  clear hslx hsly hba hbb his hjs hi hj hown c0 c1
  go_loopw [12, 14] (fun v i wr => ∃ (j : Nat) (out : List Int) (g cap : Nat), j ≤ k ∧ i = .int .i64 j ∧ v = .slice (some ⟨g, 0, none⟩) k cap ∧ out.length = k ∧ All01 out ∧ num out = (num (row k (bt a)) * num (row j (bt b))) % 2 ^ k ∧ Sl wr g out ∧ Below w3.heap.size w3 wr) (fun _ i _ => k - (intOf i).toNat)
  case atStart => exact ⟨0, fillF (fun _ => 0) k 0, _, _, Nat.zero_le _, rfl, rfl, by simp [fillF, row], H0.out.2, H0.out.1, hsl0, Below.refl _ _⟩
  case round =>
    clear hsl0
    obtain ⟨j, out, g, cap, hj, rfl, rfl, hol, ho1, hon, hsl, hB2⟩ := hrel
    obtain ⟨wo, rfl⟩ : ∃ wo : World, wo = wr := ⟨_, rfl⟩
    have q2 := stepc hB2 (by omega) c2
    have hol := Lib.hid hol
    have hon := Lib.hid hon
    have hsl := Lib.hid hsl
    by_cases hlt : j < k
    · have cy := (hB2.cell (p := ⟨gy, j, none⟩) HY.out.1).trans (HY.out.2 j (by rw [row_length]; exact hlt))
      rw [row_getD _ _ _ hlt] at cy
      rcases bt_01 b j with hy | hy
      · have hnx : Hid (num out = (num (row k (bt a)) * num (row (j + 1) (bt b))) % 2 ^ k) := by
          show _ = _; rw [row_num_succ, hy, Int.mul_zero, Int.add_zero]; exact hon.out
        rw [hy] at cy
        clear hy
        go_wp2
        go_roundw
        case rel => exact ⟨j + 1, out, g, cap, by omega, by go_num, rfl, hol.out, ho1, hnx.out, hsl.out, hB2⟩
        case measure => simp [intOf]; omega
      · rw [hy] at cy
        have hnx := Lib.hid (mul_step (f := bt a) (y := bt b) (W := k) (i := j) (fun i _ => bt_01 a i) hy hon.out hol.out)
        clear hy
        go_wp2_with (at_make; refine wpList_make_full _ rfl _ _ 53 rfl wo.heap.size 3 i0 (.int .i64 0) 1 Try.underlying53 hin hz0 hz1 .i64 .i64 k k k rfl rfl rfl rfl (by rw [hz2]; omega) (by unfold maxLen; omega) (Nat.le_refl _) ?_; intro w4 hown hg)
        have HI := Lib.hid (fillF_zero (upRow (bt a) j) k)
        go_loopw [16] (fun i wr => ∃ m : Nat, j ≤ m ∧ m ≤ k ∧ i = .int .i64 m ∧ wr.ownsRow wo.heap.size 3 1 (.slice (some ⟨wo.heap.size, 0, none⟩) k k) k ((fillF (upRow (bt a) j) k m).map (Value.int .i64)) ∧ Below wo.heap.size wo wr) (fun i _ => k - (intOf i).toNat)
        case atStart => exact ⟨j, Nat.le_refl _, hj, rfl, by rw [fillF_up, ← HI.out]; exact hown, (Below.refl _ _).grown hg (Nat.le_refl _) (fun _ h => by cases h)⟩
        case round =>
          clear hown hg
          obtain ⟨m, hm1, hm2, rfl, hown, hB3⟩ := hrel
          have hBw := nextw hB2 hB3
          have p2 := stepc hB3 (World.block_lt_of_cell? wo _ q2) q2
          by_cases hlm : m < k
          · have cx := (hBw.cell (p := ⟨gx, m - j, none⟩) HX.out.1).trans (HX.out.2 (m - j) (by rw [row_length]; omega))
            rw [row_getD _ _ _ (by omega)] at cx
            have hcl := hown.cellAt (j := m) (by simpa using hlm)
            have hfr := hown.frozenAt m
            have hst := Lib.hid (hown.stored m (.int .i64 (bt a (m - j))))
            have hlen := fillF_len (upRow (bt a) j) k m
            have hsome : (wr.cell? ⟨wo.heap.size, m, none⟩).isSome = true := by rw [hcl]; simp [hlen, hlm]
            obtain ⟨u, hu⟩ := Option.isSome_iff_exists.1 hsome
            clear hsome hlen hcl
            have hown := Lib.hid hown
            go_wp2
            go_roundw
            case rel =>
              refine ⟨m + 1, by omega, by omega, by go_num, ?_, hB3.setCell (Nat.le_refl _) _⟩
              have e := hst.out.1
              rw [show bt a (m - j) = upRow (bt a) j m by unfold upRow; rw [if_neg (by omega)], fillF_set] at e
              rw [show bt a (m - j) = upRow (bt a) j m by unfold upRow; rw [if_neg (by omega)]]
              exact e
            case measure => simp [intOf]; omega
          · have e : m = k := by omega
            subst e
            have hslr := Sl.of_own hown (by simp [fillF, row]) (by omega)
            rw [fillF_full] at hslr
            have hsl3 := hsl.out.step hB3
            clear hown
            go_wp2_with (go_at_call 38; refine (add_any g m cap wo.heap.size m out (row m (upRow (bt a) j)) 0 hol.out (row_length _ _) ho1 (row_01 (fun i _ => by unfold upRow; split; exact .inl rfl; exact bt_01 _ _)) (.inl rfl) hk1 hk2 _ hsl3 hslr).mono ?_; rintro e w5 ⟨g', cap', rfl, hsl5, hb5⟩)
            go_roundw
            case rel =>
              refine ⟨j + 1, row m (sumAt (fun i => out.getD i 0) (fun i => (row m (upRow (bt a) j)).getD i 0) 0), g', cap', by omega, by go_num, rfl, row_length _ _, row_01 (fun i _ => sum_01 _ _ _ i), ?_, hsl5, nextw hBw hb5⟩
              rw [sum_congr (g' := upRow (bt a) j) (fun i hi => row_getD _ _ _ hi)]
              exact hnx.out
            case measure => simp [intOf]; omega
    · have e : j = k := by omega
      subst e
      have hsl2 := hsl.out
      have hBf := nextw hB hB2
      go_wp2_with (go_at_call 27; refine (number_any _ j _ out hol.out ho1 hk1 hk2 _ hsl2).mono ?_; rintro e w5 ⟨rfl, rfl⟩)
      go_ret2
      exact ⟨ret_int2 (by first | rfl | exact hon.out) rfl, hBf⟩
end Go.Proofs.Ytmieddcgnaddiaa
