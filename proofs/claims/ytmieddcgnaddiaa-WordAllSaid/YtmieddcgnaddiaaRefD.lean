/-
  Walks over the document's own answer to 'Two': or, xor.
-/
import Derived.Test.YtmieddcgnaddiaaRefC
namespace Go.Proofs.Ytmieddcgnaddiaa
open Go.RowKit Bits

set_option maxRecDepth 100000 in
set_option maxHeartbeats 4000000 in
theorem rtwo_2 (B S : Bool) (k a b : Nat) (ha : a < 18446744073709551616) (hb : b < 18446744073709551616) (hk1 : 1 ≤ k) (hk2 : k ≤ 64) (hi : isw B S (k : Int) a = true) (hj : isw B S (k : Int) b = true) (w : World) :
    Calls Try.prog 31 #[.int .i64 2, .agg #[.bool B, .bool S, .int .i64 k], .int .u64 a, .int .u64 b] w fun e w' => e = .returned (.tuple #[.int .u64 (num (row k (fun i => (bt a i + bt b i + 1) / 2))), .int .i64 0]) ∧ Below w.heap.size w w' := by
  have his := Lib.hid (ris_any B S k a ha)
  have hjs := Lib.hid (ris_any B S k b hb)
  have hba := Lib.hid (bits_any a k ha hk1 hk2)
  have hbb := Lib.hid (bits_any b k hb hk1 hk2)
  obtain ⟨i0, hin, hz0, hz1, hz2⟩ := info_parts info_int
  clear ha hb
  go_enter Try.func31, Try.ntmps31
  cases B
  all_goals go_wp2_with (first
    | (go_at_call 36; (with_reducible refine (his.out _).mono ?_); rintro e w2 ⟨rfl, hb2⟩; have hn := box3 (T := 23) hb2; clear hb2; obtain ⟨hB, hz, c0, c1, c2⟩ := hn)
    | (go_at_call 36; (with_reducible refine (hjs.out _).mono ?_); rintro e w2 ⟨rfl, hb2⟩; have hn := step3 hB hz (by omega) c0 c1 c2 hb2; clear hB hz c0 c1 c2 hb2; obtain ⟨hB, hz, c0, c1, c2⟩ := hn)
    | (go_at_call 28; (with_reducible refine (hba.out _).mono ?_); rintro e w2 ⟨gx, rfl, hslx, hb2⟩; have hn := step3 hB hz (by omega) c0 c1 c2 hb2; clear hB hz c0 c1 c2 hb2; obtain ⟨hB, hz, c0, c1, c2⟩ := hn)
    | (go_at_call 28; (with_reducible refine (hbb.out _).mono ?_); rintro e w2 ⟨gy, rfl, hsly, hb2⟩; have hx2 := hslx.step hb2; clear hslx; have hslx := hx2; clear hx2; have hn := step3 hB hz (by omega) c0 c1 c2 hb2; clear hB hz c0 c1 c2 hb2; obtain ⟨hB, hz, c0, c1, c2⟩ := hn)
    | (at_make; refine wpList_make_full _ rfl _ _ 53 rfl w2.heap.size 3 i0 (.int .i64 0) 1 Try.underlying53 hin hz0 hz1 .i64 .i64 k k k rfl rfl rfl rfl (by rw [hz2]; omega) (by unfold maxLen; omega) (Nat.le_refl _) ?_; intro w3 hown hg))
  all_goals have HI := Lib.hid (fillF_zero (fun i => (bt a i + bt b i + 1) / 2) k)
  all_goals have HX := Lib.hid hslx
  all_goals have HY := Lib.hid hsly
  all_goals clear hslx hsly hba hbb his hjs hi hj
  all_goals go_loopw [13] (fun i wr => ∃ j : Nat, j ≤ k ∧ i = .int .i64 j ∧ wr.ownsRow w2.heap.size 3 1 (.slice (some ⟨w2.heap.size, 0, none⟩) k k) k ((fillF (fun i => (bt a i + bt b i + 1) / 2) k j).map (Value.int .i64)) ∧ Below w2.heap.size w2 wr) (fun i _ => k - (intOf i).toNat)
  all_goals try (case atStart => exact ⟨0, Nat.zero_le _, rfl, by rw [← HI.out]; exact hown, (Below.refl _ _).grown hg (Nat.le_refl _) (fun _ h => by cases h)⟩)
  all_goals clear hown hg
  all_goals obtain ⟨j, hj, rfl, hown, hB2⟩ := hrel
  all_goals have q2 := stepc hB2 (by omega) c2
  all_goals by_cases hlt : j < k
  · have cx := (hB2.cell (p := ⟨gx, j, none⟩) HX.out.1).trans (HX.out.2 j (by rw [row_length]; exact hlt))
    rw [row_getD _ _ _ hlt] at cx
    have cy := (hB2.cell (p := ⟨gy, j, none⟩) HY.out.1).trans (HY.out.2 j (by rw [row_length]; exact hlt))
    rw [row_getD _ _ _ hlt] at cy
    have hcl := hown.cellAt (j := j) (by simpa using hlt)
    have hfr := hown.frozenAt j
    have hst := Lib.hid (hown.stored j (.int .i64 ((fun i => (bt a i + bt b i + 1) / 2) j)))
    have hlen := fillF_len (fun i => (bt a i + bt b i + 1) / 2) k j
    have hsome : (wr.cell? ⟨w2.heap.size, j, none⟩).isSome = true := by rw [hcl]; simp [hlen, hlt]
    obtain ⟨u, hu⟩ := Option.isSome_iff_exists.1 hsome
    have hx := bt_01 a j
    have hy := bt_01 b j
    have hx0 : 0 ≤ bt a j := by omega
    have hx1 : bt a j ≤ 1 := by omega
    have hy0 : 0 ≤ bt b j := by omega
    have hy1 : bt b j ≤ 1 := by omega
    have r1 : IntKind.i64.wrap (bt a j + bt b j) = bt a j + bt b j := by rcases hx with hx | hx <;> rcases hy with hy | hy <;> rw [hx, hy] <;> first | rfl | exact IntWalk.i64_in _ (by decide)
    have r2 : IntKind.i64.wrap (bt a j + bt b j + 1) = bt a j + bt b j + 1 := by rcases hx with hx | hx <;> rcases hy with hy | hy <;> rw [hx, hy] <;> first | rfl | exact IntWalk.i64_in _ (by decide)
    have r3 : IntKind.i64.wrap ((bt a j + bt b j + 1).tdiv 2) = (bt a j + bt b j + 1) / 2 := by rcases hx with hx | hx <;> rcases hy with hy | hy <;> rw [hx, hy] <;> first | rfl | exact IntWalk.i64_in _ (by decide)
    clear hsome hlen hcl hx hy
    have hown := Lib.hid hown
    go_wp2
    go_still_tail 14, (by kernel_rfl)
    clear r1 r2 r3
    change wpList _ _ _ _ _ wr.drew
    go_wp2
    go_roundw
    case rel =>
      refine ⟨j + 1, by omega, by go_num, ?_, ?_⟩
      · have e := hst.out.1
        rw [fillF_set] at e
        exact e.drew
      · exact (hB2.setCell (Nat.le_refl _) _).drew
    case measure => simp [intOf]; omega
  · have hkj : k ≤ j := by omega
    obtain rfl : j = k := by omega
    have hsl := Sl.of_own hown (by simp [fillF, row]) (by omega)
    rw [fillF_full] at hsl
    have hB3 := nextw hB hB2
    clear HX HY hown
    go_wp2_with (first
      | (go_at_call 27; refine (number_any _ j _ (row j (fun i => (bt a i + bt b i + 1) / 2)) (row_length _ _) (or_01 a b j) hk1 hk2 _ hsl).mono ?_; rintro e w3 ⟨rfl, rfl⟩))
    go_ret2
    exact ⟨rfl, hB3⟩
  · have cx := (hB2.cell (p := ⟨gx, j, none⟩) HX.out.1).trans (HX.out.2 j (by rw [row_length]; exact hlt))
    rw [row_getD _ _ _ hlt] at cx
    have cy := (hB2.cell (p := ⟨gy, j, none⟩) HY.out.1).trans (HY.out.2 j (by rw [row_length]; exact hlt))
    rw [row_getD _ _ _ hlt] at cy
    have hcl := hown.cellAt (j := j) (by simpa using hlt)
    have hfr := hown.frozenAt j
    have hst := Lib.hid (hown.stored j (.int .i64 ((fun i => (bt a i + bt b i + 1) / 2) j)))
    have hlen := fillF_len (fun i => (bt a i + bt b i + 1) / 2) k j
    have hsome : (wr.cell? ⟨w2.heap.size, j, none⟩).isSome = true := by rw [hcl]; simp [hlen, hlt]
    obtain ⟨u, hu⟩ := Option.isSome_iff_exists.1 hsome
    have hx := bt_01 a j
    have hy := bt_01 b j
    have hx0 : 0 ≤ bt a j := by omega
    have hx1 : bt a j ≤ 1 := by omega
    have hy0 : 0 ≤ bt b j := by omega
    have hy1 : bt b j ≤ 1 := by omega
    have r1 : IntKind.i64.wrap (bt a j + bt b j) = bt a j + bt b j := by rcases hx with hx | hx <;> rcases hy with hy | hy <;> rw [hx, hy] <;> first | rfl | exact IntWalk.i64_in _ (by decide)
    have r2 : IntKind.i64.wrap (bt a j + bt b j + 1) = bt a j + bt b j + 1 := by rcases hx with hx | hx <;> rcases hy with hy | hy <;> rw [hx, hy] <;> first | rfl | exact IntWalk.i64_in _ (by decide)
    have r3 : IntKind.i64.wrap ((bt a j + bt b j + 1).tdiv 2) = (bt a j + bt b j + 1) / 2 := by rcases hx with hx | hx <;> rcases hy with hy | hy <;> rw [hx, hy] <;> first | rfl | exact IntWalk.i64_in _ (by decide)
    clear hsome hlen hcl hx hy
    have hown := Lib.hid hown
    go_wp2
    go_still_tail 14, (by kernel_rfl)
    clear r1 r2 r3
    change wpList _ _ _ _ _ wr.drew
    go_wp2
    go_roundw
    case rel =>
      refine ⟨j + 1, by omega, by go_num, ?_, ?_⟩
      · have e := hst.out.1
        rw [fillF_set] at e
        exact e.drew
      · exact (hB2.setCell (Nat.le_refl _) _).drew
    case measure => simp [intOf]; omega
  · have hkj : k ≤ j := by omega
    obtain rfl : j = k := by omega
    have hsl := Sl.of_own hown (by simp [fillF, row]) (by omega)
    rw [fillF_full] at hsl
    have hB3 := nextw hB hB2
    clear HX HY hown
    go_wp2_with (first
      | (go_at_call 27; refine (number_any _ j _ (row j (fun i => (bt a i + bt b i + 1) / 2)) (row_length _ _) (or_01 a b j) hk1 hk2 _ hsl).mono ?_; rintro e w3 ⟨rfl, rfl⟩))
    go_ret2
    exact ⟨rfl, hB3⟩

set_option maxRecDepth 100000 in
set_option maxHeartbeats 4000000 in
theorem rtwo_3 (B S : Bool) (k a b : Nat) (ha : a < 18446744073709551616) (hb : b < 18446744073709551616) (hk1 : 1 ≤ k) (hk2 : k ≤ 64) (hi : isw B S (k : Int) a = true) (hj : isw B S (k : Int) b = true) (w : World) :
    Calls Try.prog 31 #[.int .i64 3, .agg #[.bool B, .bool S, .int .i64 k], .int .u64 a, .int .u64 b] w fun e w' => e = .returned (.tuple #[.int .u64 (num (row k (fun i => (bt a i + bt b i) % 2))), .int .i64 0]) ∧ Below w.heap.size w w' := by
  have his := Lib.hid (ris_any B S k a ha)
  have hjs := Lib.hid (ris_any B S k b hb)
  have hba := Lib.hid (bits_any a k ha hk1 hk2)
  have hbb := Lib.hid (bits_any b k hb hk1 hk2)
  obtain ⟨i0, hin, hz0, hz1, hz2⟩ := info_parts info_int
  clear ha hb
  go_enter Try.func31, Try.ntmps31
  cases B
  all_goals go_wp2_with (first
    | (go_at_call 36; (with_reducible refine (his.out _).mono ?_); rintro e w2 ⟨rfl, hb2⟩; have hn := box3 (T := 23) hb2; clear hb2; obtain ⟨hB, hz, c0, c1, c2⟩ := hn)
    | (go_at_call 36; (with_reducible refine (hjs.out _).mono ?_); rintro e w2 ⟨rfl, hb2⟩; have hn := step3 hB hz (by omega) c0 c1 c2 hb2; clear hB hz c0 c1 c2 hb2; obtain ⟨hB, hz, c0, c1, c2⟩ := hn)
    | (go_at_call 28; (with_reducible refine (hba.out _).mono ?_); rintro e w2 ⟨gx, rfl, hslx, hb2⟩; have hn := step3 hB hz (by omega) c0 c1 c2 hb2; clear hB hz c0 c1 c2 hb2; obtain ⟨hB, hz, c0, c1, c2⟩ := hn)
    | (go_at_call 28; (with_reducible refine (hbb.out _).mono ?_); rintro e w2 ⟨gy, rfl, hsly, hb2⟩; have hx2 := hslx.step hb2; clear hslx; have hslx := hx2; clear hx2; have hn := step3 hB hz (by omega) c0 c1 c2 hb2; clear hB hz c0 c1 c2 hb2; obtain ⟨hB, hz, c0, c1, c2⟩ := hn)
    | (at_make; refine wpList_make_full _ rfl _ _ 53 rfl w2.heap.size 3 i0 (.int .i64 0) 1 Try.underlying53 hin hz0 hz1 .i64 .i64 k k k rfl rfl rfl rfl (by rw [hz2]; omega) (by unfold maxLen; omega) (Nat.le_refl _) ?_; intro w3 hown hg))
  all_goals have HI := Lib.hid (fillF_zero (fun i => (bt a i + bt b i) % 2) k)
  all_goals have HX := Lib.hid hslx
  all_goals have HY := Lib.hid hsly
  all_goals clear hslx hsly hba hbb his hjs hi hj
  all_goals go_loopw [13] (fun i wr => ∃ j : Nat, j ≤ k ∧ i = .int .i64 j ∧ wr.ownsRow w2.heap.size 3 1 (.slice (some ⟨w2.heap.size, 0, none⟩) k k) k ((fillF (fun i => (bt a i + bt b i) % 2) k j).map (Value.int .i64)) ∧ Below w2.heap.size w2 wr) (fun i _ => k - (intOf i).toNat)
  all_goals try (case atStart => exact ⟨0, Nat.zero_le _, rfl, by rw [← HI.out]; exact hown, (Below.refl _ _).grown hg (Nat.le_refl _) (fun _ h => by cases h)⟩)
  all_goals clear hown hg
  all_goals obtain ⟨j, hj, rfl, hown, hB2⟩ := hrel
  all_goals have q2 := stepc hB2 (by omega) c2
  all_goals by_cases hlt : j < k
  · have cx := (hB2.cell (p := ⟨gx, j, none⟩) HX.out.1).trans (HX.out.2 j (by rw [row_length]; exact hlt))
    rw [row_getD _ _ _ hlt] at cx
    have cy := (hB2.cell (p := ⟨gy, j, none⟩) HY.out.1).trans (HY.out.2 j (by rw [row_length]; exact hlt))
    rw [row_getD _ _ _ hlt] at cy
    have hcl := hown.cellAt (j := j) (by simpa using hlt)
    have hfr := hown.frozenAt j
    have hst := Lib.hid (hown.stored j (.int .i64 ((fun i => (bt a i + bt b i) % 2) j)))
    have hlen := fillF_len (fun i => (bt a i + bt b i) % 2) k j
    have hsome : (wr.cell? ⟨w2.heap.size, j, none⟩).isSome = true := by rw [hcl]; simp [hlen, hlt]
    obtain ⟨u, hu⟩ := Option.isSome_iff_exists.1 hsome
    have hx := bt_01 a j
    have hy := bt_01 b j
    have hx0 : 0 ≤ bt a j := by omega
    have hx1 : bt a j ≤ 1 := by omega
    have hy0 : 0 ≤ bt b j := by omega
    have hy1 : bt b j ≤ 1 := by omega
    have r1 : IntKind.i64.wrap (bt a j + bt b j) = bt a j + bt b j := by rcases hx with hx | hx <;> rcases hy with hy | hy <;> rw [hx, hy] <;> first | rfl | exact IntWalk.i64_in _ (by decide)
    have r2 : IntKind.i64.wrap ((bt a j + bt b j).tmod 2) = (bt a j + bt b j) % 2 := by rcases hx with hx | hx <;> rcases hy with hy | hy <;> rw [hx, hy] <;> first | rfl | exact IntWalk.i64_in _ (by decide)
    have r3 : (bt a j + bt b j).tmod 2 = (bt a j + bt b j) % 2 := by rcases hx with hx | hx <;> rcases hy with hy | hy <;> rw [hx, hy] <;> first | rfl | exact IntWalk.i64_in _ (by decide)
    clear hsome hlen hcl hx hy
    have hown := Lib.hid hown
    go_wp2
    go_still_tail 13, (by kernel_rfl)
    clear r1 r2 r3
    change wpList _ _ _ _ _ wr.drew
    go_wp2
    go_roundw
    case rel =>
      refine ⟨j + 1, by omega, by go_num, ?_, ?_⟩
      · have e := hst.out.1
        rw [fillF_set] at e
        exact e.drew
      · exact (hB2.setCell (Nat.le_refl _) _).drew
    case measure => simp [intOf]; omega
  · have hkj : k ≤ j := by omega
    obtain rfl : j = k := by omega
    have hsl := Sl.of_own hown (by simp [fillF, row]) (by omega)
    rw [fillF_full] at hsl
    have hB3 := nextw hB hB2
    clear HX HY hown
    go_wp2_with (first
      | (go_at_call 27; refine (number_any _ j _ (row j (fun i => (bt a i + bt b i) % 2)) (row_length _ _) (xor_01 a b j) hk1 hk2 _ hsl).mono ?_; rintro e w3 ⟨rfl, rfl⟩))
    go_ret2
    exact ⟨rfl, hB3⟩
  · have cx := (hB2.cell (p := ⟨gx, j, none⟩) HX.out.1).trans (HX.out.2 j (by rw [row_length]; exact hlt))
    rw [row_getD _ _ _ hlt] at cx
    have cy := (hB2.cell (p := ⟨gy, j, none⟩) HY.out.1).trans (HY.out.2 j (by rw [row_length]; exact hlt))
    rw [row_getD _ _ _ hlt] at cy
    have hcl := hown.cellAt (j := j) (by simpa using hlt)
    have hfr := hown.frozenAt j
    have hst := Lib.hid (hown.stored j (.int .i64 ((fun i => (bt a i + bt b i) % 2) j)))
    have hlen := fillF_len (fun i => (bt a i + bt b i) % 2) k j
    have hsome : (wr.cell? ⟨w2.heap.size, j, none⟩).isSome = true := by rw [hcl]; simp [hlen, hlt]
    obtain ⟨u, hu⟩ := Option.isSome_iff_exists.1 hsome
    have hx := bt_01 a j
    have hy := bt_01 b j
    have hx0 : 0 ≤ bt a j := by omega
    have hx1 : bt a j ≤ 1 := by omega
    have hy0 : 0 ≤ bt b j := by omega
    have hy1 : bt b j ≤ 1 := by omega
    have r1 : IntKind.i64.wrap (bt a j + bt b j) = bt a j + bt b j := by rcases hx with hx | hx <;> rcases hy with hy | hy <;> rw [hx, hy] <;> first | rfl | exact IntWalk.i64_in _ (by decide)
    have r2 : IntKind.i64.wrap ((bt a j + bt b j).tmod 2) = (bt a j + bt b j) % 2 := by rcases hx with hx | hx <;> rcases hy with hy | hy <;> rw [hx, hy] <;> first | rfl | exact IntWalk.i64_in _ (by decide)
    have r3 : (bt a j + bt b j).tmod 2 = (bt a j + bt b j) % 2 := by rcases hx with hx | hx <;> rcases hy with hy | hy <;> rw [hx, hy] <;> first | rfl | exact IntWalk.i64_in _ (by decide)
    clear hsome hlen hcl hx hy
    have hown := Lib.hid hown
    go_wp2
    go_still_tail 13, (by kernel_rfl)
    clear r1 r2 r3
    change wpList _ _ _ _ _ wr.drew
    go_wp2
    go_roundw
    case rel =>
      refine ⟨j + 1, by omega, by go_num, ?_, ?_⟩
      · have e := hst.out.1
        rw [fillF_set] at e
        exact e.drew
      · exact (hB2.setCell (Nat.le_refl _) _).drew
    case measure => simp [intOf]; omega
  · have hkj : k ≤ j := by omega
    obtain rfl : j = k := by omega
    have hsl := Sl.of_own hown (by simp [fillF, row]) (by omega)
    rw [fillF_full] at hsl
    have hB3 := nextw hB hB2
    clear HX HY hown
    go_wp2_with (first
      | (go_at_call 27; refine (number_any _ j _ (row j (fun i => (bt a i + bt b i) % 2)) (row_length _ _) (xor_01 a b j) hk1 hk2 _ hsl).mono ?_; rintro e w3 ⟨rfl, rfl⟩))
    go_ret2
    exact ⟨rfl, hB3⟩
end Go.Proofs.Ytmieddcgnaddiaa
