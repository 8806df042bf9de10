/-
  Walks over the document's own answer to 'Two': bit by bit.
-/
import Derived.Test.YtmieddcgnaddiaaRefB
namespace Go.Proofs.Ytmieddcgnaddiaa
open Go.RowKit Bits

def fillF (f : Nat → Int) (k j : Nat) : List Int := row k (fun i => if i < j then f i else 0)
theorem fillF_set (f : Nat → Int) (k j : Nat) : ((fillF f k j).map (Value.int .i64)).set j (.int .i64 (f j)) = (fillF f k (j + 1)).map (Value.int .i64) := by
  apply List.ext_getElem
  · simp [fillF, row]
  · intro i h1 h2
    simp [fillF, row, List.getElem_set] at *
    by_cases e : j = i
    · subst e; simp
    · by_cases hi : i < j
      · simp [e, hi, show i < j + 1 by omega]
      · simp [e, hi, show ¬ i < j + 1 by omega]
theorem fillF_zero (f : Nat → Int) (k : Nat) : (madeCells (Value.int .i64 0).cells (k * 1)).toList = (fillF f k 0).map (Value.int .i64) := by
  apply List.ext_getElem
  · simp [madeCells, fillF, row, Value.cells]
  · intro i h1 h2; simp [madeCells, fillF, row, Value.cells, Nat.mod_one]
theorem fillF_full (f : Nat → Int) (k : Nat) : fillF f k k = row k f := row_congr (fun i hi => by rw [if_pos hi])
theorem fillF_len (f : Nat → Int) (k j : Nat) : ((fillF f k j).map (Value.int .i64)).length = k := by simp [fillF, row]

set_option maxRecDepth 100000 in
set_option maxHeartbeats 1000000 in
theorem rtwo_bad (op : Int) (B S : Bool) (W : Int) (a b : Nat) (ha : a < 18446744073709551616) (hb : b < 18446744073709551616) (hi : isw B S W a = true) (hj : isw B S W b = false) (w : World) :
    Calls Try.prog 31 #[.int .i64 op, .agg #[.bool B, .bool S, .int .i64 W], .int .u64 a, .int .u64 b] w fun e w' => e = .returned (.tuple #[.int .u64 0, .int .i64 1]) ∧ Below w.heap.size w w' := by
  have his := Lib.hid (ris_any B S W a ha)
  have hjs := Lib.hid (ris_any B S W b hb)
  clear ha hb
  go_enter Try.func31, Try.ntmps31
  go_wp2_with (first
    | (go_at_call 36; (with_reducible refine (his.out _).mono ?_); rintro e w2 ⟨rfl, hb2⟩; have hn := box3 (T := 23) hb2; clear hb2; obtain ⟨hB, hz, c0, c1, c2⟩ := hn)
    | (go_at_call 36; (with_reducible refine (hjs.out _).mono ?_); rintro e w2 ⟨rfl, hb2⟩; have hn := step3 hB hz (by omega) c0 c1 c2 hb2; clear hB hz c0 c1 c2 hb2; obtain ⟨hB, hz, c0, c1, c2⟩ := hn))
  go_ret2
  exact ⟨rfl, hB⟩

theorem and_01 (a b k : Nat) : All01 (row k (fun i => bt a i * bt b i)) := row_01 (fun i _ => by
  rcases bt_01 a i with h | h <;> rcases bt_01 b i with h' | h' <;> simp only [h, h'] <;> decide)
theorem or_01 (a b k : Nat) : All01 (row k (fun i => (bt a i + bt b i + 1) / 2)) := row_01 (fun i _ => by
  rcases bt_01 a i with h | h <;> rcases bt_01 b i with h' | h' <;> simp only [h, h'] <;> decide)
theorem xor_01 (a b k : Nat) : All01 (row k (fun i => (bt a i + bt b i) % 2)) := row_01 (fun i _ => by
  rcases bt_01 a i with h | h <;> rcases bt_01 b i with h' | h' <;> simp only [h, h'] <;> decide)

set_option maxRecDepth 100000 in
set_option maxHeartbeats 4000000 in
theorem rtwo_1 (B S : Bool) (k a b : Nat) (ha : a < 18446744073709551616) (hb : b < 18446744073709551616) (hk1 : 1 ≤ k) (hk2 : k ≤ 64) (hi : isw B S (k : Int) a = true) (hj : isw B S (k : Int) b = true) (w : World) :
    Calls Try.prog 31 #[.int .i64 1, .agg #[.bool B, .bool S, .int .i64 k], .int .u64 a, .int .u64 b] w fun e w' => e = .returned (.tuple #[.int .u64 (num (row k (fun i => bt a i * bt b i))), .int .i64 0]) ∧ Below w.heap.size w w' := by
  have his := Lib.hid (ris_any B S k a ha)
  have hjs := Lib.hid (ris_any B S k b hb)
  have hba := Lib.hid (bits_any a k ha hk1 hk2)
  have hbb := Lib.hid (bits_any b k hb hk1 hk2)
  obtain ⟨i0, hin, hz0, hz1, hz2⟩ := info_parts info_int
  clear ha hb
  go_enter Try.func31, Try.ntmps31
  cases B
  all_goals go_wp2_with (first
    | (go_at_call 36; (with_reducible refine (his.out _).mono ?_); rintro e w2 ⟨rfl, hb2⟩; have hn := box3 (T := 23) hb2; clear hb2; obtain ⟨hB, hz, c0, c1, c2⟩ := hn)
    | (go_at_call 36; (with_reducible refine (hjs.out _).mono ?_); rintro e w2 ⟨rfl, hb2⟩; have hn := step3 hB hz (by omega) c0 c1 c2 hb2; clear hB hz c0 c1 c2 hb2; obtain ⟨hB, hz, c0, c1, c2⟩ := hn)
    | (go_at_call 28; (with_reducible refine (hba.out _).mono ?_); rintro e w2 ⟨gx, rfl, hslx, hb2⟩; have hn := step3 hB hz (by omega) c0 c1 c2 hb2; clear hB hz c0 c1 c2 hb2; obtain ⟨hB, hz, c0, c1, c2⟩ := hn)
    | (go_at_call 28; (with_reducible refine (hbb.out _).mono ?_); rintro e w2 ⟨gy, rfl, hsly, hb2⟩; have hx2 := hslx.step hb2; clear hslx; have hslx := hx2; clear hx2; have hn := step3 hB hz (by omega) c0 c1 c2 hb2; clear hB hz c0 c1 c2 hb2; obtain ⟨hB, hz, c0, c1, c2⟩ := hn)
    | (at_make; refine wpList_make_full _ rfl _ _ 53 rfl w2.heap.size 3 i0 (.int .i64 0) 1 Try.underlying53 hin hz0 hz1 .i64 .i64 k k k rfl rfl rfl rfl (by rw [hz2]; omega) (by unfold maxLen; omega) (Nat.le_refl _) ?_; intro w3 hown hg))
  all_goals have HI := Lib.hid (fillF_zero (fun i => bt a i * bt b i) k)
  all_goals have HX := Lib.hid hslx
  all_goals have HY := Lib.hid hsly
  all_goals clear hslx hsly hba hbb his hjs hi hj
  all_goals go_loopw [13] (fun i wr => ∃ j : Nat, j ≤ k ∧ i = .int .i64 j ∧ wr.ownsRow w2.heap.size 3 1 (.slice (some ⟨w2.heap.size, 0, none⟩) k k) k ((fillF (fun i => bt a i * bt b i) k j).map (Value.int .i64)) ∧ Below w2.heap.size w2 wr) (fun i _ => k - (intOf i).toNat)
  all_goals try (case atStart => exact ⟨0, Nat.zero_le _, rfl, by rw [← HI.out]; exact hown, (Below.refl _ _).grown hg (Nat.le_refl _) (fun _ h => by cases h)⟩)
  all_goals clear hown hg
  all_goals obtain ⟨j, hj, rfl, hown, hB2⟩ := hrel
  all_goals have q2 := stepc hB2 (by omega) c2
  all_goals by_cases hlt : j < k
  · have cx := (hB2.cell (p := ⟨gx, j, none⟩) HX.out.1).trans (HX.out.2 j (by rw [row_length]; exact hlt))
    rw [row_getD _ _ _ hlt] at cx
    have cy := (hB2.cell (p := ⟨gy, j, none⟩) HY.out.1).trans (HY.out.2 j (by rw [row_length]; exact hlt))
    rw [row_getD _ _ _ hlt] at cy
    have hcl := hown.cellAt (j := j) (by simpa using hlt)
    have hfr := hown.frozenAt j
    have hst := Lib.hid (hown.stored j (.int .i64 ((fun i => bt a i * bt b i) j)))
    have hlen := fillF_len (fun i => bt a i * bt b i) k j
    have hsome : (wr.cell? ⟨w2.heap.size, j, none⟩).isSome = true := by rw [hcl]; simp [hlen, hlt]
    obtain ⟨u, hu⟩ := Option.isSome_iff_exists.1 hsome
    have hx := bt_01 a j
    have hy := bt_01 b j
    have hx0 : 0 ≤ bt a j := by omega
    have hx1 : bt a j ≤ 1 := by omega
    have hy0 : 0 ≤ bt b j := by omega
    have hy1 : bt b j ≤ 1 := by omega
    have hw : IntKind.i64.wrap (bt a j * bt b j) = bt a j * bt b j := by rcases hx with hx | hx <;> rcases hy with hy | hy <;> rw [hx, hy] <;> exact IntWalk.i64_in _ (by decide)
    have hw2 : wrap64 (bt a j * bt b j) = bt a j * bt b j := by rcases hx with hx | hx <;> rcases hy with hy | hy <;> rw [hx, hy] <;> exact IntWalk.wrap64_in _ (by decide)
    clear hsome hlen hcl hx hy
    have hown := Lib.hid hown
    go_wp2
    go_still_tail 12, (by kernel_rfl)
    change wpList _ _ _ _ _ wr.drew
    go_wp2
    go_roundw
    case rel =>
      refine ⟨j + 1, by omega, by go_num, ?_, ?_⟩
      · have e := hst.out.1
        rw [fillF_set] at e
        exact e.drew
      · exact (hB2.setCell (Nat.le_refl _) _).drew
    case measure => simp [intOf]; omega
  · have hkj : k ≤ j := by omega
    obtain rfl : j = k := by omega
    have hsl := Sl.of_own hown (by simp [fillF, row]) (by omega)
    rw [fillF_full] at hsl
    have hB3 := nextw hB hB2
    clear HX HY hown
    go_wp2_with (first
      | (go_at_call 27; refine (number_any _ j _ (row j (fun i => bt a i * bt b i)) (row_length _ _) (and_01 a b j) hk1 hk2 _ hsl).mono ?_; rintro e w3 ⟨rfl, rfl⟩))
    go_ret2
    exact ⟨rfl, hB3⟩
  · have cx := (hB2.cell (p := ⟨gx, j, none⟩) HX.out.1).trans (HX.out.2 j (by rw [row_length]; exact hlt))
    rw [row_getD _ _ _ hlt] at cx
    have cy := (hB2.cell (p := ⟨gy, j, none⟩) HY.out.1).trans (HY.out.2 j (by rw [row_length]; exact hlt))
    rw [row_getD _ _ _ hlt] at cy
    have hcl := hown.cellAt (j := j) (by simpa using hlt)
    have hfr := hown.frozenAt j
    have hst := Lib.hid (hown.stored j (.int .i64 ((fun i => bt a i * bt b i) j)))
    have hlen := fillF_len (fun i => bt a i * bt b i) k j
    have hsome : (wr.cell? ⟨w2.heap.size, j, none⟩).isSome = true := by rw [hcl]; simp [hlen, hlt]
    obtain ⟨u, hu⟩ := Option.isSome_iff_exists.1 hsome
    have hx := bt_01 a j
    have hy := bt_01 b j
    have hx0 : 0 ≤ bt a j := by omega
    have hx1 : bt a j ≤ 1 := by omega
    have hy0 : 0 ≤ bt b j := by omega
    have hy1 : bt b j ≤ 1 := by omega
    have hw : IntKind.i64.wrap (bt a j * bt b j) = bt a j * bt b j := by rcases hx with hx | hx <;> rcases hy with hy | hy <;> rw [hx, hy] <;> exact IntWalk.i64_in _ (by decide)
    have hw2 : wrap64 (bt a j * bt b j) = bt a j * bt b j := by rcases hx with hx | hx <;> rcases hy with hy | hy <;> rw [hx, hy] <;> exact IntWalk.wrap64_in _ (by decide)
    clear hsome hlen hcl hx hy
    have hown := Lib.hid hown
    go_wp2
    go_still_tail 12, (by kernel_rfl)
    change wpList _ _ _ _ _ wr.drew
    go_wp2
    go_roundw
    case rel =>
      refine ⟨j + 1, by omega, by go_num, ?_, ?_⟩
      · have e := hst.out.1
        rw [fillF_set] at e
        exact e.drew
      · exact (hB2.setCell (Nat.le_refl _) _).drew
    case measure => simp [intOf]; omega
  · have hkj : k ≤ j := by omega
    obtain rfl : j = k := by omega
    have hsl := Sl.of_own hown (by simp [fillF, row]) (by omega)
    rw [fillF_full] at hsl
    have hB3 := nextw hB hB2
    clear HX HY hown
    go_wp2_with (first
      | (go_at_call 27; refine (number_any _ j _ (row j (fun i => bt a i * bt b i)) (row_length _ _) (and_01 a b j) hk1 hk2 _ hsl).mono ?_; rintro e w3 ⟨rfl, rfl⟩))
    go_ret2
    exact ⟨rfl, hB3⟩
end Go.Proofs.Ytmieddcgnaddiaa
