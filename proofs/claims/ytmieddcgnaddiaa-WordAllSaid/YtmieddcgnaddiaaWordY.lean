/-
  The walk over WordAll: a row that has words.
-/
import Derived.Test.YtmieddcgnaddiaaWordZ
namespace Go.Proofs.Ytmieddcgnaddiaa
open Go.RowKit Bits

set_option maxRecDepth 100000 in
set_option maxHeartbeats 4000000 in
theorem all_less (B S : Bool) (W op : Int) (b off len cap : Nat) (zs : List Int) (hlen : 1 ≤ len) (hlc : len ≤ cap) (hcap : cap ≤ 9223372036854775807) (h30 : len ≤ 30) (w : World) (hlt : b < w.heap.size)
    (hbd : ∀ i, 0 ≤ zs.getD i 0 ∧ zs.getD i 0 < 18446744073709551616) (hcell : ∀ i, i < cap → w.cell? ⟨b, off + i, none⟩ = some (.int .u64 (zs.getD i 0))) :
    Calls Try.prog 3 #[.agg #[.bool B, .bool S, .int .i64 W], .int .i64 op, .slice (some ⟨b, off, none⟩) len cap] w fun e w' => e = .returned (.bool true) ∧ Below w.heap.size w w' := by
  have hz1' : ∀ i, i < len → 0 ≤ (row len (ownF B S W zs)).getD i 0 ∧ (row len (ownF B S W zs)).getD i 0 < 18446744073709551616 := fun i hi => by rw [row_getD _ _ _ hi]; exact ownF_bd (hbd i)
  obtain ⟨v, e, hall0⟩ := both_all op B S W (row len (ownF B S W zs)) len (row_length _ _) hz1' (by omega)
  have hall := Lib.hid hall0
  have hcut := Lib.hid (rcut_any B S W)
  have HBD := Lib.hid hbd
  have HC := Lib.hid hcell
  obtain ⟨i0, hin, hz0, hz1, hz2⟩ := info_parts info_u64
  clear hall0 hz1' hbd hcell
  go_enter Try.func3, Try.ntmps3
  go_wp2_with (at_make; refine wpList_make_full _ rfl _ _ 24 rfl (w.heap.size + 1) 25 i0 (.int .u64 0) 1 Try.underlying24 hin hz0 hz1 .i64 .i64 len len len rfl rfl rfl rfl (by rw [hz2]; omega) (by unfold maxLen; omega) (by simp) ?_; intro w1 hown hg)
  have hlw : w.heap.size + 1 ≤ w1.heap.size := by have h := own_lt hown; simp at h; omega
  have hn := box3a (T := 23) hg; obtain ⟨hB, hz, c0, c1, c2⟩ := hn
  rw [fillU_zero (ownF B S W zs) len] at hown
  have hown : w1.ownsRow (w.heap.size + 1) 25 1 (.slice (some ⟨w.heap.size + 1, 0, none⟩) len len) len ((fillF (ownF B S W zs) len 0).map (Value.int .u64)) := by simpa using hown
  go_loopw [24] (fun i wr => ∃ j : Nat, j ≤ len ∧ i = .int .i64 j ∧ wr.ownsRow (w.heap.size + 1) 25 1 (.slice (some ⟨w.heap.size + 1, 0, none⟩) len len) len ((fillF (ownF B S W zs) len j).map (Value.int .u64)) ∧ Below w.heap.size w wr ∧ w.heap.size + 1 ≤ wr.heap.size ∧ wr.cell? ⟨w.heap.size, 0, none⟩ = some (.bool B) ∧ wr.cell? ⟨w.heap.size, 1, none⟩ = some (.bool S) ∧ wr.cell? ⟨w.heap.size, 2, none⟩ = some (.int .i64 W)) (fun i _ => len - (intOf i).toNat)
  case atStart => exact ⟨0, Nat.zero_le _, rfl, hown, hB, hz, c0, c1, c2⟩
  case round =>
    clear hB hz c0 c1 c2 hown hg hlw
    obtain ⟨j, hj, rfl, hown, hB, hz, c0, c1, c2⟩ := hrel
    by_cases hjm : j < len
    · obtain ⟨y, hy⟩ := Int.eq_ofNat_of_zero_le (HBD.out j).1
      have hy2 : y < 18446744073709551616 := by have := (HBD.out j).2; omega
      have cy := (hB.cell (p := ⟨b, off + j, none⟩) hlt).trans (HC.out j (by omega))
      rw [hy] at cy
      have hof : Hid (ownF B S W zs j = if (y : Int) % 64 == 63 then (y : Int) else cut B S W y) := by show _ = _; unfold ownF; rw [hy]
      have hcy := Lib.hid (hcut.out y hy2)
      have hown := Lib.hid hown
      clear hy
      cases hmod : ((y : Int) % 64 == 63) with
      | true =>
        rw [hmod] at hof
        have hof2 : Hid (ownF B S W zs j = (y : Int)) := hof.out
        clear hof
        go_wp2_with (go_at_call 9; refine (hcy.out _).mono ?_; rintro e w2 ⟨rfl, hb2⟩; have hown2 := own_below hown.out hb2; have hfr := hown2.frozenAt j; have hcl := hown2.cellAt (j := j) (by simpa using hjm); have hlen := fillU_len (ownF B S W zs) len j; have hsome : (w2.cell? ⟨w.heap.size + 1, j, none⟩).isSome = true := by { rw [hcl]; simp [hlen, hjm] }; obtain ⟨u, hu⟩ := Option.isSome_iff_exists.1 hsome; clear hsome hlen hcl cy; have hst := Lib.hid ((hown2.stored j (.int .u64 (cut B S W y))).1.stored j (.int .u64 y)).1; clear hown2; have hn := step3 hB hz (by omega) c0 c1 c2 hb2; clear hB hz c0 c1 c2 hb2; obtain ⟨hB, hz, c0, c1, c2⟩ := hn)
        go_roundw
        case rel =>
          refine ⟨j + 1, by omega, by go_num, ?_, (hB.setCell (by simp) _).setCell (by simp) _, by simp [World.setCell]; omega, ?_, ?_, ?_⟩
          · have e1 := hst.out
            rw [List.set_set, ← hof2.out, fillU_set] at e1
            rw [← hof2.out]; exact e1
          · simp [go_sem, c0]
          · simp [go_sem, c1]
          · simp [go_sem, c2]
        case measure => simp [intOf]; omega
      | false =>
        rw [hmod] at hof
        have hof2 : Hid (ownF B S W zs j = cut B S W y) := hof.out
        clear hof
        go_wp2_with (go_at_call 9; refine (hcy.out _).mono ?_; rintro e w2 ⟨rfl, hb2⟩; have hown2 := own_below hown.out hb2; have hfr := hown2.frozenAt j; have hcl := hown2.cellAt (j := j) (by simpa using hjm); have hlen := fillU_len (ownF B S W zs) len j; have hsome : (w2.cell? ⟨w.heap.size + 1, j, none⟩).isSome = true := by { rw [hcl]; simp [hlen, hjm] }; obtain ⟨u, hu⟩ := Option.isSome_iff_exists.1 hsome; clear hsome hlen hcl cy; have hst := Lib.hid (hown2.stored j (.int .u64 (cut B S W y))).1; clear hown2; have hn := step3 hB hz (by omega) c0 c1 c2 hb2; clear hB hz c0 c1 c2 hb2; obtain ⟨hB, hz, c0, c1, c2⟩ := hn)
        go_roundw
        case rel =>
          refine ⟨j + 1, by omega, by go_num, ?_, (hB.setCell (by simp) _), by simp [World.setCell]; omega, ?_, ?_, ?_⟩
          · have e1 := hst.out
            rw [← hof2.out, fillU_set] at e1
            rw [← hof2.out]; exact e1
          · simp [go_sem, c0]
          · simp [go_sem, c1]
          · simp [go_sem, c2]
        case measure => simp [intOf]; omega
    · have e1 : j = len := by omega
      rw [e1] at hown
      clear e1
      have hlg := own_lt hown
      have hsl := fun i (hi : i < len) => hown.cellAt (j := i) (by simpa using hi)
      have hcg : ∀ i, i < len → wr.cell? ⟨w.heap.size + 1, 0 + i, none⟩ = some (.int .u64 ((row len (ownF B S W zs)).getD i 0)) := fun i hi => by
        rw [Nat.zero_add, hsl i hi, fillF_full]; simp [List.getD, row, hi]
      have hcg := Lib.hid hcg
      clear hsl hown
      go_wp2_with (first
        | (go_at_call 10; refine (((hall.out _ _ _ hlg hcg.out).1)).mono ?_; rintro e w2 ⟨rfl, hb2⟩; have hlg2 := Nat.lt_of_lt_of_le hlg hb2.size; have hcg2 := Lib.hid (fun i hi => stepc hb2 hlg (hcg.out i hi)); clear hlg hcg; have hn := step3 hB hz (by omega) c0 c1 c2 hb2; clear hB hz c0 c1 c2 hb2; obtain ⟨hB, hz, c0, c1, c2⟩ := hn)
        | (go_at_call 11; refine (((hall.out _ _ _ hlg2 hcg2.out).2)).mono ?_; rintro e w2 ⟨rfl, hb2⟩; have hn := step3 hB hz (by omega) c0 c1 c2 hb2; clear hB hz c0 c1 c2 hb2; obtain ⟨hB, hz, c0, c1, c2⟩ := hn)
        | (go_at_call 12; refine (wakes_any _).mono ?_; rintro e w2 ⟨rfl, hb2⟩; have hn := step3 hB hz (by omega) c0 c1 c2 hb2; clear hB hz c0 c1 c2 hb2; obtain ⟨hB, hz, c0, c1, c2⟩ := hn))
      go_ret
      exact ⟨rfl, hB⟩

set_option maxRecDepth 100000 in
set_option maxHeartbeats 4000000 in
theorem all_more (B S : Bool) (W op : Int) (b off len cap : Nat) (zs : List Int) (hlc : len ≤ cap) (hcap : cap ≤ 9223372036854775807) (h30 : 30 < len) (w : World) (hlt : b < w.heap.size)
    (hbd : ∀ i, 0 ≤ zs.getD i 0 ∧ zs.getD i 0 < 18446744073709551616) (hcell : ∀ i, i < cap → w.cell? ⟨b, off + i, none⟩ = some (.int .u64 (zs.getD i 0))) :
    Calls Try.prog 3 #[.agg #[.bool B, .bool S, .int .i64 W], .int .i64 op, .slice (some ⟨b, off, none⟩) len cap] w fun e w' => e = .returned (.bool true) ∧ Below w.heap.size w w' := by
  have hz1' : ∀ i, i < 30 → 0 ≤ (row 30 (ownF B S W zs)).getD i 0 ∧ (row 30 (ownF B S W zs)).getD i 0 < 18446744073709551616 := fun i hi => by rw [row_getD _ _ _ hi]; exact ownF_bd (hbd i)
  obtain ⟨v, e, hall0⟩ := both_all op B S W (row 30 (ownF B S W zs)) 30 (row_length _ _) hz1' (by omega)
  have hall := Lib.hid hall0
  have hcut := Lib.hid (rcut_any B S W)
  have HBD := Lib.hid hbd
  have HC := Lib.hid hcell
  obtain ⟨i0, hin, hz0, hz1, hz2⟩ := info_parts info_u64
  clear hall0 hz1' hbd hcell
  go_enter Try.func3, Try.ntmps3
  go_wp2_with (at_make; refine wpList_make_full _ rfl _ _ 24 rfl (w.heap.size + 1) 25 i0 (.int .u64 0) 1 Try.underlying24 hin hz0 hz1 .i64 .i64 30 30 30 rfl rfl rfl rfl (by rw [hz2]; omega) (by unfold maxLen; omega) (by simp) ?_; intro w1 hown hg)
  have hlw : w.heap.size + 1 ≤ w1.heap.size := by have h := own_lt hown; simp at h; omega
  have hn := box3a (T := 23) hg; obtain ⟨hB, hz, c0, c1, c2⟩ := hn
  rw [fillU_zero (ownF B S W zs) 30] at hown
  have hown : w1.ownsRow (w.heap.size + 1) 25 1 (.slice (some ⟨w.heap.size + 1, 0, none⟩) 30 30) 30 ((fillF (ownF B S W zs) 30 0).map (Value.int .u64)) := by simpa using hown
  go_loopw [24] (fun i wr => ∃ j : Nat, j ≤ 30 ∧ i = .int .i64 j ∧ wr.ownsRow (w.heap.size + 1) 25 1 (.slice (some ⟨w.heap.size + 1, 0, none⟩) 30 30) 30 ((fillF (ownF B S W zs) 30 j).map (Value.int .u64)) ∧ Below w.heap.size w wr ∧ w.heap.size + 1 ≤ wr.heap.size ∧ wr.cell? ⟨w.heap.size, 0, none⟩ = some (.bool B) ∧ wr.cell? ⟨w.heap.size, 1, none⟩ = some (.bool S) ∧ wr.cell? ⟨w.heap.size, 2, none⟩ = some (.int .i64 W)) (fun i _ => 30 - (intOf i).toNat)
  case atStart => exact ⟨0, Nat.zero_le _, rfl, hown, hB, hz, c0, c1, c2⟩
  case round =>
    clear hB hz c0 c1 c2 hown hg hlw
    obtain ⟨j, hj, rfl, hown, hB, hz, c0, c1, c2⟩ := hrel
    by_cases hjm : j < 30
    · obtain ⟨y, hy⟩ := Int.eq_ofNat_of_zero_le (HBD.out j).1
      have hy2 : y < 18446744073709551616 := by have := (HBD.out j).2; omega
      have cy := (hB.cell (p := ⟨b, off + j, none⟩) hlt).trans (HC.out j (by omega))
      rw [hy] at cy
      have hof : Hid (ownF B S W zs j = if (y : Int) % 64 == 63 then (y : Int) else cut B S W y) := by show _ = _; unfold ownF; rw [hy]
      have hcy := Lib.hid (hcut.out y hy2)
      have hown := Lib.hid hown
      clear hy
      cases hmod : ((y : Int) % 64 == 63) with
      | true =>
        rw [hmod] at hof
        have hof2 : Hid (ownF B S W zs j = (y : Int)) := hof.out
        clear hof
        go_wp2_with (go_at_call 9; refine (hcy.out _).mono ?_; rintro e w2 ⟨rfl, hb2⟩; have hown2 := own_below hown.out hb2; have hfr := hown2.frozenAt j; have hcl := hown2.cellAt (j := j) (by simpa using hjm); have hlen := fillU_len (ownF B S W zs) 30 j; have hsome : (w2.cell? ⟨w.heap.size + 1, j, none⟩).isSome = true := by { rw [hcl]; simp [hlen, hjm] }; obtain ⟨u, hu⟩ := Option.isSome_iff_exists.1 hsome; clear hsome hlen hcl cy; have hst := Lib.hid ((hown2.stored j (.int .u64 (cut B S W y))).1.stored j (.int .u64 y)).1; clear hown2; have hn := step3 hB hz (by omega) c0 c1 c2 hb2; clear hB hz c0 c1 c2 hb2; obtain ⟨hB, hz, c0, c1, c2⟩ := hn)
        go_roundw
        case rel =>
          refine ⟨j + 1, by omega, by go_num, ?_, (hB.setCell (by simp) _).setCell (by simp) _, by simp [World.setCell]; omega, ?_, ?_, ?_⟩
          · have e1 := hst.out
            rw [List.set_set, ← hof2.out, fillU_set] at e1
            rw [← hof2.out]; exact e1
          · simp [go_sem, c0]
          · simp [go_sem, c1]
          · simp [go_sem, c2]
        case measure => simp [intOf]; omega
      | false =>
        rw [hmod] at hof
        have hof2 : Hid (ownF B S W zs j = cut B S W y) := hof.out
        clear hof
        go_wp2_with (go_at_call 9; refine (hcy.out _).mono ?_; rintro e w2 ⟨rfl, hb2⟩; have hown2 := own_below hown.out hb2; have hfr := hown2.frozenAt j; have hcl := hown2.cellAt (j := j) (by simpa using hjm); have hlen := fillU_len (ownF B S W zs) 30 j; have hsome : (w2.cell? ⟨w.heap.size + 1, j, none⟩).isSome = true := by { rw [hcl]; simp [hlen, hjm] }; obtain ⟨u, hu⟩ := Option.isSome_iff_exists.1 hsome; clear hsome hlen hcl cy; have hst := Lib.hid (hown2.stored j (.int .u64 (cut B S W y))).1; clear hown2; have hn := step3 hB hz (by omega) c0 c1 c2 hb2; clear hB hz c0 c1 c2 hb2; obtain ⟨hB, hz, c0, c1, c2⟩ := hn)
        go_roundw
        case rel =>
          refine ⟨j + 1, by omega, by go_num, ?_, (hB.setCell (by simp) _), by simp [World.setCell]; omega, ?_, ?_, ?_⟩
          · have e1 := hst.out
            rw [← hof2.out, fillU_set] at e1
            rw [← hof2.out]; exact e1
          · simp [go_sem, c0]
          · simp [go_sem, c1]
          · simp [go_sem, c2]
        case measure => simp [intOf]; omega
    · have e1 : j = 30 := by omega
      rw [e1] at hown
      clear e1
      have hlg := own_lt hown
      have hsl := fun i (hi : i < 30) => hown.cellAt (j := i) (by simpa using hi)
      have hcg : ∀ i, i < 30 → wr.cell? ⟨w.heap.size + 1, 0 + i, none⟩ = some (.int .u64 ((row 30 (ownF B S W zs)).getD i 0)) := fun i hi => by
        rw [Nat.zero_add, hsl i hi, fillF_full]; simp [List.getD, row, hi]
      have hcg := Lib.hid hcg
      clear hsl hown
      go_wp2_with (first
        | (go_at_call 10; refine (((hall.out _ _ _ hlg hcg.out).1)).mono ?_; rintro e w2 ⟨rfl, hb2⟩; have hlg2 := Nat.lt_of_lt_of_le hlg hb2.size; have hcg2 := Lib.hid (fun i hi => stepc hb2 hlg (hcg.out i hi)); clear hlg hcg; have hn := step3 hB hz (by omega) c0 c1 c2 hb2; clear hB hz c0 c1 c2 hb2; obtain ⟨hB, hz, c0, c1, c2⟩ := hn)
        | (go_at_call 11; refine (((hall.out _ _ _ hlg2 hcg2.out).2)).mono ?_; rintro e w2 ⟨rfl, hb2⟩; have hn := step3 hB hz (by omega) c0 c1 c2 hb2; clear hB hz c0 c1 c2 hb2; obtain ⟨hB, hz, c0, c1, c2⟩ := hn)
        | (go_at_call 12; refine (wakes_any _).mono ?_; rintro e w2 ⟨rfl, hb2⟩; have hn := step3 hB hz (by omega) c0 c1 c2 hb2; clear hB hz c0 c1 c2 hb2; obtain ⟨hB, hz, c0, c1, c2⟩ := hn))
      go_ret
      exact ⟨rfl, hB⟩
end Go.Proofs.Ytmieddcgnaddiaa
