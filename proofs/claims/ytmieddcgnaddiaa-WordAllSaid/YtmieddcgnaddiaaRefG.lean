/-
  The walk over the document's own 'All'.
-/
import Derived.Test.YtmieddcgnaddiaaRefF
namespace Go.Proofs.Ytmieddcgnaddiaa
open Go.RowKit Bits

set_option maxRecDepth 100000 in
set_option maxHeartbeats 4000000 in
theorem rall_no (op : Int) (B S : Bool) (W : Int) (v : Value) (w : World) (h : neutOk op = false ∨ may B S W = false ∨ (B = true ∧ 3 < op)) :
    Calls Try.prog 11 #[.int .i64 op, .agg #[.bool B, .bool S, .int .i64 W], v] w fun e w' => e = .returned (.tuple #[.int .u64 0, .int .i64 1]) ∧ Below w.heap.size w w' := by
  have h1 : op < 1 ∨ (1 ≤ op ∧ 6 < op) ∨ (1 ≤ op ∧ op ≤ 6 ∧ (op == 5) = true) ∨ (1 ≤ op ∧ op ≤ 6 ∧ (op == 5) = false ∧ may B S W = false) ∨ (1 ≤ op ∧ op ≤ 6 ∧ (op == 5) = false ∧ may B S W = true ∧ B = true ∧ 3 < op) := by
    cases hmy : may B S W with
    | false => simp; omega
    | true =>
      simp [hmy] at h
      cases B with
      | true => simp [neutOk] at *; omega
      | false => simp [neutOk] at *; omega
  clear h
  have hmy := Lib.hid (rmay_any B S W)
  rcases h1 with h1 | ⟨h1, h2⟩ | ⟨h1, h2, h3⟩ | ⟨h1, h2, h3, h4⟩ | ⟨h1, h2, h3, h4, rfl, h5⟩
  · go_enter Try.func11, Try.ntmps11
    go_wp2
    go_ret2
    exact ⟨rfl, (Below.refl _ _).alloc (Nat.le_refl _) _⟩
  · go_enter Try.func11, Try.ntmps11
    go_wp2
    go_ret2
    exact ⟨rfl, (Below.refl _ _).alloc (Nat.le_refl _) _⟩
  · go_enter Try.func11, Try.ntmps11
    go_wp2
    go_ret2
    exact ⟨rfl, (Below.refl _ _).alloc (Nat.le_refl _) _⟩
  · go_enter Try.func11, Try.ntmps11
    go_wp2_with (go_at_call 26; refine (hmy.out _).mono ?_; rintro e w2 ⟨rfl, hb2⟩; have hn := box3 (T := 23) hb2; clear hb2; obtain ⟨hB, hz, c0, c1, c2⟩ := hn)
    go_ret2
    exact ⟨rfl, hB⟩
  · go_enter Try.func11, Try.ntmps11
    go_wp2_with (go_at_call 26; refine (hmy.out _).mono ?_; rintro e w2 ⟨rfl, hb2⟩; have hn := box3 (T := 23) hb2; clear hb2; obtain ⟨hB, hz, c0, c1, c2⟩ := hn)
    go_ret2
    exact ⟨rfl, hB⟩

set_option maxRecDepth 100000 in
set_option maxHeartbeats 4000000 in
theorem rall_yes (op : Int) (B S : Bool) (W : Int) (b off n cap : Nat) (zs : List Int) (w : World) (hok : okOp op B = true) (hm : may B S W = true) (hl : zs.length = n) (hz0 : ∀ i, i < n → 0 ≤ zs.getD i 0 ∧ zs.getD i 0 < 18446744073709551616) (hlt : b < w.heap.size) (hmx : n ≤ 9223372036854775807)
    (hcell : ∀ i, i < n → w.cell? ⟨b, off + i, none⟩ = some (.int .u64 (zs.getD i 0))) :
    Calls Try.prog 11 #[.int .i64 op, .agg #[.bool B, .bool S, .int .i64 W], .slice (some ⟨b, off, none⟩) n cap] w fun e w' => e = .returned (.tuple #[.int .u64 (allR op B S W zs).1, .int .i64 (allR op B S W zs).2]) ∧ Below w.heap.size w w' := by
  have hr := ring_cases (ok_ring hok)
  have hbo : Hid (B = true → op ≤ 3) := by intro hB; unfold okOp at hok; simp [hB] at hok; exact hok.2
  have h1 : 1 ≤ op := by omega
  have h2 : op ≤ 6 := by omega
  have h3 : (op == 5) = false := by simp; omega
  by_cases e1 : op = 1
  · subst e1
    clear h1 h2 h3 hr hbo
    cases B
    · have HZ := Lib.hid hz0
      have HC := Lib.hid hcell
      have HL := Lib.hid hl
      have hst0 := Lib.hid (neut_start hok hm)
      have hni := Lib.hid (neut_isw' (ok_ring hok) hm)
      have hmy := Lib.hid (rmay_any false S W)
      have hone := Lib.hid (rone_any false S W hm)
      have hN : ∃ x : Nat, neutV 1 false S W = (x : Int) := Int.eq_ofNat_of_zero_le (isw_lt hni.out).1
      obtain ⟨x0, hx00⟩ := hN
      have hx0 := Lib.hid hx00
      clear hx00
      clear hz0 hcell hl
      go_enter Try.func11, Try.ntmps11
      go_wp2_with (first
        | (go_at_call 26; refine (hmy.out _).mono ?_; rintro e w2 ⟨rfl, hb2⟩; have hn := box3 (T := 23) hb2; clear hb2; obtain ⟨hB, hz, c0, c1, c2⟩ := hn)
        | (go_at_call 30; refine (hone.out _).mono ?_; rintro e w2 ⟨rfl, hb2⟩; have hn := step3 hB hz (by omega) c0 c1 c2 hb2; clear hB hz c0 c1 c2 hb2; obtain ⟨hB, hz, c0, c1, c2⟩ := hn))
      have hv : Hid ((neutV 1 false S W : Int) = (x0 : Int)) := Eq.trans (rfl) hx0.out
      go_loopw [8, 9] (fun v i wr => ∃ k x : Nat, k ≤ n ∧ i = .int .i64 k ∧ v = .int .u64 x ∧ allR 1 false S W (zs.take k) = ((x : Int), 0) ∧ isw false S W x = true ∧ Below w.heap.size w wr ∧ w.heap.size + 1 ≤ wr.heap.size ∧ wr.cell? ⟨w.heap.size, 0, none⟩ = some (.bool false) ∧ wr.cell? ⟨w.heap.size, 1, none⟩ = some (.bool S) ∧ wr.cell? ⟨w.heap.size, 2, none⟩ = some (.int .i64 W)) (fun _ i _ => n - (intOf i).toNat)
      case atStart => exact ⟨0, x0, Nat.zero_le _, rfl, congrArg (Value.int .u64) hv.out, by rw [List.take_zero, hst0.out, hx0.out], by rw [← hx0.out]; exact hni.out, hB, hz, c0, c1, c2⟩
      case round =>
        clear hB hz c0 c1 c2
        obtain ⟨k, x, hk, rfl, rfl, hst, hxi, hB, hz, c0, c1, c2⟩ := hrel
        have hst := Lib.hid hst
        have hxi := Lib.hid hxi
        by_cases hkn : k < n
        · obtain ⟨y, hy⟩ := Int.eq_ofNat_of_zero_le (HZ.out k hkn).1
          have hy2 : y < 18446744073709551616 := by have := (HZ.out k hkn).2; omega
          have hx2 : x < 18446744073709551616 := by have := (isw_lt hxi.out).2; omega
          have cy := (hB.cell (p := ⟨b, off + k, none⟩) hlt).trans (HC.out k hkn)
          rw [hy] at cy
          have hsn := Lib.hid (allR_snoc 1 false S W zs k (by rw [HL.out]; exact hkn))
          have htwo := Lib.hid (rtwo_any 1 false S W x y hok hx2 hy2 hxi.out)
          have hy := Lib.hid hy
          clear hx2 hy2
          by_cases hj : isw false S W (y : Int) = true
          · have et := ok_two hok hxi.out hj
            obtain ⟨x', hx'⟩ := Int.eq_ofNat_of_zero_le (show 0 ≤ twoV 1 false S W x y by rw [et.1]; exact (isw_lt (cut_isw (isw_may hj))).1)
            have hxi' : Hid (isw false S W (x' : Int) = true) := by show _ = _; rw [← hx', et.1]; exact cut_isw (isw_may hj)
            have et2 := et.2
            have hs2 : Hid (allR 1 false S W (zs.take (k + 1)) = ((x' : Int), 0)) := by
              show _ = _; rw [hsn.out, hst.out, hy.out]; unfold allStep; rw [show ((((x : Int), (0 : Int)).2 == 0) = true) from rfl, if_pos rfl, hx', et2]
            clear hj et
            go_wp2
            have hyc := fun q => stepc (ext_below wr q) (World.block_lt_of_cell? wr _ cy) cy
            (have hx := ext3 (by omega) c0 c1 c2; obtain ⟨x0, x1, x2⟩ := hx; (refine wp_region_ext (by kernel_rfl) (by kernel_rfl) ?_; (repeat (go_big_quiet_step (((go_at_call 31; exact Calls.ext_of (htwo.out _)))))); refine wpQuiet_nil ?_; intro w2 hw'; have hb2 := below_of_ext hw'; clear hw'); clear x0 x1 x2; have hn := step3 hB hz (by omega) c0 c1 c2 hb2; clear hB hz c0 c1 c2 hb2; obtain ⟨hB, hz, c0, c1, c2⟩ := hn)
            clear hyc cy
            go_wp2
            go_roundw
            case rel => exact ⟨k + 1, x', by omega, by go_num, rfl, hs2.out, hxi'.out, hB, hz, c0, c1, c2⟩
            case measure => simp [intOf]; omega
          · simp at hj
            have et := bad_two (op := 1) (B := false) (S := S) (W := W) (a := x) (b := y) (by unfold twoOk; rw [hj, Bool.and_false])
            obtain ⟨et1, et2⟩ := et
            have hs2 : Hid (allR 1 false S W zs = (0, 1)) := by
              have e1 : allR 1 false S W (zs.take (k + 1)) = (0, 1) := by
                rw [hsn.out, hst.out, hy.out]; unfold allStep; rw [show ((((x : Int), (0 : Int)).2 == 0) = true) from rfl, if_pos rfl, et1, et2]
              show _ = _; rw [allR_stay 1 false S W zs (k + 1) (by rw [e1]; rfl), e1]
            clear hj
            go_wp2
            have hyc := fun q => stepc (ext_below wr q) (World.block_lt_of_cell? wr _ cy) cy
            (have hx := ext3 (by omega) c0 c1 c2; obtain ⟨x0, x1, x2⟩ := hx; (refine wp_region_ext (by kernel_rfl) (by kernel_rfl) ?_; (repeat (go_big_quiet_step (((go_at_call 31; exact Calls.ext_of (htwo.out _)))))); refine wpQuiet_nil ?_; intro w2 hw'; have hb2 := below_of_ext hw'; clear hw'); clear x0 x1 x2; have hn := step3 hB hz (by omega) c0 c1 c2 hb2; clear hB hz c0 c1 c2 hb2; obtain ⟨hB, hz, c0, c1, c2⟩ := hn)
            clear hyc cy
            go_wp2
            go_ret2
            exact ⟨ret_int2 (by rw [hs2.out]) (by rw [hs2.out]), hB⟩
        · have hs2 : Hid (allR 1 false S W zs = ((x : Int), 0)) := by
            show _ = _; rw [← hst.out, List.take_of_length_le (by rw [HL.out]; omega)]
          go_wp2
          go_ret2
          exact ⟨ret_int2 (by rw [hs2.out]) (by rw [hs2.out]), hB⟩
    · have HZ := Lib.hid hz0
      have HC := Lib.hid hcell
      have HL := Lib.hid hl
      have hst0 := Lib.hid (neut_start hok hm)
      have hni := Lib.hid (neut_isw' (ok_ring hok) hm)
      have hmy := Lib.hid (rmay_any true S W)
      have hone := Lib.hid (rone_any true S W hm)
      have hN : ∃ x : Nat, neutV 1 true S W = (x : Int) := Int.eq_ofNat_of_zero_le (isw_lt hni.out).1
      obtain ⟨x0, hx00⟩ := hN
      have hx0 := Lib.hid hx00
      clear hx00
      clear hz0 hcell hl
      go_enter Try.func11, Try.ntmps11
      go_wp2_with (first
        | (go_at_call 26; refine (hmy.out _).mono ?_; rintro e w2 ⟨rfl, hb2⟩; have hn := box3 (T := 23) hb2; clear hb2; obtain ⟨hB, hz, c0, c1, c2⟩ := hn)
        | (go_at_call 30; refine (hone.out _).mono ?_; rintro e w2 ⟨rfl, hb2⟩; have hn := step3 hB hz (by omega) c0 c1 c2 hb2; clear hB hz c0 c1 c2 hb2; obtain ⟨hB, hz, c0, c1, c2⟩ := hn))
      have hv : Hid ((neutV 1 true S W : Int) = (x0 : Int)) := Eq.trans (rfl) hx0.out
      go_loopw [8, 9] (fun v i wr => ∃ k x : Nat, k ≤ n ∧ i = .int .i64 k ∧ v = .int .u64 x ∧ allR 1 true S W (zs.take k) = ((x : Int), 0) ∧ isw true S W x = true ∧ Below w.heap.size w wr ∧ w.heap.size + 1 ≤ wr.heap.size ∧ wr.cell? ⟨w.heap.size, 0, none⟩ = some (.bool true) ∧ wr.cell? ⟨w.heap.size, 1, none⟩ = some (.bool S) ∧ wr.cell? ⟨w.heap.size, 2, none⟩ = some (.int .i64 W)) (fun _ i _ => n - (intOf i).toNat)
      case atStart => exact ⟨0, x0, Nat.zero_le _, rfl, congrArg (Value.int .u64) hv.out, by rw [List.take_zero, hst0.out, hx0.out], by rw [← hx0.out]; exact hni.out, hB, hz, c0, c1, c2⟩
      case round =>
        clear hB hz c0 c1 c2
        obtain ⟨k, x, hk, rfl, rfl, hst, hxi, hB, hz, c0, c1, c2⟩ := hrel
        have hst := Lib.hid hst
        have hxi := Lib.hid hxi
        by_cases hkn : k < n
        · obtain ⟨y, hy⟩ := Int.eq_ofNat_of_zero_le (HZ.out k hkn).1
          have hy2 : y < 18446744073709551616 := by have := (HZ.out k hkn).2; omega
          have hx2 : x < 18446744073709551616 := by have := (isw_lt hxi.out).2; omega
          have cy := (hB.cell (p := ⟨b, off + k, none⟩) hlt).trans (HC.out k hkn)
          rw [hy] at cy
          have hsn := Lib.hid (allR_snoc 1 true S W zs k (by rw [HL.out]; exact hkn))
          have htwo := Lib.hid (rtwo_any 1 true S W x y hok hx2 hy2 hxi.out)
          have hy := Lib.hid hy
          clear hx2 hy2
          by_cases hj : isw true S W (y : Int) = true
          · have et := ok_two hok hxi.out hj
            obtain ⟨x', hx'⟩ := Int.eq_ofNat_of_zero_le (show 0 ≤ twoV 1 true S W x y by rw [et.1]; exact (isw_lt (cut_isw (isw_may hj))).1)
            have hxi' : Hid (isw true S W (x' : Int) = true) := by show _ = _; rw [← hx', et.1]; exact cut_isw (isw_may hj)
            have et2 := et.2
            have hs2 : Hid (allR 1 true S W (zs.take (k + 1)) = ((x' : Int), 0)) := by
              show _ = _; rw [hsn.out, hst.out, hy.out]; unfold allStep; rw [show ((((x : Int), (0 : Int)).2 == 0) = true) from rfl, if_pos rfl, hx', et2]
            clear hj et
            go_wp2
            have hyc := fun q => stepc (ext_below wr q) (World.block_lt_of_cell? wr _ cy) cy
            (have hx := ext3 (by omega) c0 c1 c2; obtain ⟨x0, x1, x2⟩ := hx; (refine wp_region_ext (by kernel_rfl) (by kernel_rfl) ?_; (repeat (go_big_quiet_step (((go_at_call 31; exact Calls.ext_of (htwo.out _)))))); refine wpQuiet_nil ?_; intro w2 hw'; have hb2 := below_of_ext hw'; clear hw'); clear x0 x1 x2; have hn := step3 hB hz (by omega) c0 c1 c2 hb2; clear hB hz c0 c1 c2 hb2; obtain ⟨hB, hz, c0, c1, c2⟩ := hn)
            clear hyc cy
            go_wp2
            go_roundw
            case rel => exact ⟨k + 1, x', by omega, by go_num, rfl, hs2.out, hxi'.out, hB, hz, c0, c1, c2⟩
            case measure => simp [intOf]; omega
          · simp at hj
            have et := bad_two (op := 1) (B := true) (S := S) (W := W) (a := x) (b := y) (by unfold twoOk; rw [hj, Bool.and_false])
            obtain ⟨et1, et2⟩ := et
            have hs2 : Hid (allR 1 true S W zs = (0, 1)) := by
              have e1 : allR 1 true S W (zs.take (k + 1)) = (0, 1) := by
                rw [hsn.out, hst.out, hy.out]; unfold allStep; rw [show ((((x : Int), (0 : Int)).2 == 0) = true) from rfl, if_pos rfl, et1, et2]
              show _ = _; rw [allR_stay 1 true S W zs (k + 1) (by rw [e1]; rfl), e1]
            clear hj
            go_wp2
            have hyc := fun q => stepc (ext_below wr q) (World.block_lt_of_cell? wr _ cy) cy
            (have hx := ext3 (by omega) c0 c1 c2; obtain ⟨x0, x1, x2⟩ := hx; (refine wp_region_ext (by kernel_rfl) (by kernel_rfl) ?_; (repeat (go_big_quiet_step (((go_at_call 31; exact Calls.ext_of (htwo.out _)))))); refine wpQuiet_nil ?_; intro w2 hw'; have hb2 := below_of_ext hw'; clear hw'); clear x0 x1 x2; have hn := step3 hB hz (by omega) c0 c1 c2 hb2; clear hB hz c0 c1 c2 hb2; obtain ⟨hB, hz, c0, c1, c2⟩ := hn)
            clear hyc cy
            go_wp2
            go_ret2
            exact ⟨ret_int2 (by rw [hs2.out]) (by rw [hs2.out]), hB⟩
        · have hs2 : Hid (allR 1 true S W zs = ((x : Int), 0)) := by
            show _ = _; rw [← hst.out, List.take_of_length_le (by rw [HL.out]; omega)]
          go_wp2
          go_ret2
          exact ⟨ret_int2 (by rw [hs2.out]) (by rw [hs2.out]), hB⟩
  · have h4 : (op == 1) = false := by simpa using e1
    by_cases e6 : op = 6
    · subst e6
      clear h1 h2 h3 h4 hr e1
      cases B
      · clear hbo
        have HZ := Lib.hid hz0
        have HC := Lib.hid hcell
        have HL := Lib.hid hl
        have hst0 := Lib.hid (neut_start hok hm)
        have hni := Lib.hid (neut_isw' (ok_ring hok) hm)
        have hmy := Lib.hid (rmay_any false S W)
        have hone := Lib.hid (rone_any false S W hm)
        have hN : ∃ x : Nat, neutV 6 false S W = (x : Int) := Int.eq_ofNat_of_zero_le (isw_lt hni.out).1
        obtain ⟨x0, hx00⟩ := hN
        have hx0 := Lib.hid hx00
        clear hx00
        clear hz0 hcell hl
        go_enter Try.func11, Try.ntmps11
        go_wp2_with (first
          | (go_at_call 26; refine (hmy.out _).mono ?_; rintro e w2 ⟨rfl, hb2⟩; have hn := box3 (T := 23) hb2; clear hb2; obtain ⟨hB, hz, c0, c1, c2⟩ := hn)
          | (go_at_call 30; refine (hone.out _).mono ?_; rintro e w2 ⟨rfl, hb2⟩; have hn := step3 hB hz (by omega) c0 c1 c2 hb2; clear hB hz c0 c1 c2 hb2; obtain ⟨hB, hz, c0, c1, c2⟩ := hn))
        have hv : Hid ((1 : Int) = (x0 : Int)) := Eq.trans (rfl) hx0.out
        go_loopw [8, 9] (fun v i wr => ∃ k x : Nat, k ≤ n ∧ i = .int .i64 k ∧ v = .int .u64 x ∧ allR 6 false S W (zs.take k) = ((x : Int), 0) ∧ isw false S W x = true ∧ Below w.heap.size w wr ∧ w.heap.size + 1 ≤ wr.heap.size ∧ wr.cell? ⟨w.heap.size, 0, none⟩ = some (.bool false) ∧ wr.cell? ⟨w.heap.size, 1, none⟩ = some (.bool S) ∧ wr.cell? ⟨w.heap.size, 2, none⟩ = some (.int .i64 W)) (fun _ i _ => n - (intOf i).toNat)
        case atStart => exact ⟨0, x0, Nat.zero_le _, rfl, congrArg (Value.int .u64) hv.out, by rw [List.take_zero, hst0.out, hx0.out], by rw [← hx0.out]; exact hni.out, hB, hz, c0, c1, c2⟩
        case round =>
          clear hB hz c0 c1 c2
          obtain ⟨k, x, hk, rfl, rfl, hst, hxi, hB, hz, c0, c1, c2⟩ := hrel
          have hst := Lib.hid hst
          have hxi := Lib.hid hxi
          by_cases hkn : k < n
          · obtain ⟨y, hy⟩ := Int.eq_ofNat_of_zero_le (HZ.out k hkn).1
            have hy2 : y < 18446744073709551616 := by have := (HZ.out k hkn).2; omega
            have hx2 : x < 18446744073709551616 := by have := (isw_lt hxi.out).2; omega
            have cy := (hB.cell (p := ⟨b, off + k, none⟩) hlt).trans (HC.out k hkn)
            rw [hy] at cy
            have hsn := Lib.hid (allR_snoc 6 false S W zs k (by rw [HL.out]; exact hkn))
            have htwo := Lib.hid (rtwo_any 6 false S W x y hok hx2 hy2 hxi.out)
            have hy := Lib.hid hy
            clear hx2 hy2
            by_cases hj : isw false S W (y : Int) = true
            · have et := ok_two hok hxi.out hj
              obtain ⟨x', hx'⟩ := Int.eq_ofNat_of_zero_le (show 0 ≤ twoV 6 false S W x y by rw [et.1]; exact (isw_lt (cut_isw (isw_may hj))).1)
              have hxi' : Hid (isw false S W (x' : Int) = true) := by show _ = _; rw [← hx', et.1]; exact cut_isw (isw_may hj)
              have et2 := et.2
              have hs2 : Hid (allR 6 false S W (zs.take (k + 1)) = ((x' : Int), 0)) := by
                show _ = _; rw [hsn.out, hst.out, hy.out]; unfold allStep; rw [show ((((x : Int), (0 : Int)).2 == 0) = true) from rfl, if_pos rfl, hx', et2]
              clear hj et
              go_wp2
              have hyc := fun q => stepc (ext_below wr q) (World.block_lt_of_cell? wr _ cy) cy
              (have hx := ext3 (by omega) c0 c1 c2; obtain ⟨x0, x1, x2⟩ := hx; (refine wp_region_ext (by kernel_rfl) (by kernel_rfl) ?_; (repeat (go_big_quiet_step (((go_at_call 31; exact Calls.ext_of (htwo.out _)))))); refine wpQuiet_nil ?_; intro w2 hw'; have hb2 := below_of_ext hw'; clear hw'); clear x0 x1 x2; have hn := step3 hB hz (by omega) c0 c1 c2 hb2; clear hB hz c0 c1 c2 hb2; obtain ⟨hB, hz, c0, c1, c2⟩ := hn)
              clear hyc cy
              go_wp2
              go_roundw
              case rel => exact ⟨k + 1, x', by omega, by go_num, rfl, hs2.out, hxi'.out, hB, hz, c0, c1, c2⟩
              case measure => simp [intOf]; omega
            · simp at hj
              have et := bad_two (op := 6) (B := false) (S := S) (W := W) (a := x) (b := y) (by unfold twoOk; rw [hj, Bool.and_false])
              obtain ⟨et1, et2⟩ := et
              have hs2 : Hid (allR 6 false S W zs = (0, 1)) := by
                have e1 : allR 6 false S W (zs.take (k + 1)) = (0, 1) := by
                  rw [hsn.out, hst.out, hy.out]; unfold allStep; rw [show ((((x : Int), (0 : Int)).2 == 0) = true) from rfl, if_pos rfl, et1, et2]
                show _ = _; rw [allR_stay 6 false S W zs (k + 1) (by rw [e1]; rfl), e1]
              clear hj
              go_wp2
              have hyc := fun q => stepc (ext_below wr q) (World.block_lt_of_cell? wr _ cy) cy
              (have hx := ext3 (by omega) c0 c1 c2; obtain ⟨x0, x1, x2⟩ := hx; (refine wp_region_ext (by kernel_rfl) (by kernel_rfl) ?_; (repeat (go_big_quiet_step (((go_at_call 31; exact Calls.ext_of (htwo.out _)))))); refine wpQuiet_nil ?_; intro w2 hw'; have hb2 := below_of_ext hw'; clear hw'); clear x0 x1 x2; have hn := step3 hB hz (by omega) c0 c1 c2 hb2; clear hB hz c0 c1 c2 hb2; obtain ⟨hB, hz, c0, c1, c2⟩ := hn)
              clear hyc cy
              go_wp2
              go_ret2
              exact ⟨ret_int2 (by rw [hs2.out]) (by rw [hs2.out]), hB⟩
          · have hs2 : Hid (allR 6 false S W zs = ((x : Int), 0)) := by
              show _ = _; rw [← hst.out, List.take_of_length_le (by rw [HL.out]; omega)]
            go_wp2
            go_ret2
            exact ⟨ret_int2 (by rw [hs2.out]) (by rw [hs2.out]), hB⟩
      · have := hbo.out rfl; omega
    · have h5 : (op == 6) = false := by simpa using e6
      have hv0 : Hid (neutV op B S W = 0) := by
        show _ = _; unfold neutV; rw [h4, h5]; simp
      clear e1 e6 hr
      cases B
      · clear hbo
        have HZ := Lib.hid hz0
        have HC := Lib.hid hcell
        have HL := Lib.hid hl
        have hst0 := Lib.hid (neut_start hok hm)
        have hni := Lib.hid (neut_isw' (ok_ring hok) hm)
        have hmy := Lib.hid (rmay_any false S W)
        have hone := Lib.hid (rone_any false S W hm)
        have hN : ∃ x : Nat, neutV op false S W = (x : Int) := Int.eq_ofNat_of_zero_le (isw_lt hni.out).1
        obtain ⟨x0, hx00⟩ := hN
        have hx0 := Lib.hid hx00
        clear hx00
        clear hz0 hcell hl
        go_enter Try.func11, Try.ntmps11
        go_wp2_with (first
          | (go_at_call 26; refine (hmy.out _).mono ?_; rintro e w2 ⟨rfl, hb2⟩; have hn := box3 (T := 23) hb2; clear hb2; obtain ⟨hB, hz, c0, c1, c2⟩ := hn)
          | (go_at_call 30; refine (hone.out _).mono ?_; rintro e w2 ⟨rfl, hb2⟩; have hn := step3 hB hz (by omega) c0 c1 c2 hb2; clear hB hz c0 c1 c2 hb2; obtain ⟨hB, hz, c0, c1, c2⟩ := hn))
        have hv : Hid ((0 : Int) = (x0 : Int)) := Eq.trans (hv0.out.symm) hx0.out
        go_loopw [8, 9] (fun v i wr => ∃ k x : Nat, k ≤ n ∧ i = .int .i64 k ∧ v = .int .u64 x ∧ allR op false S W (zs.take k) = ((x : Int), 0) ∧ isw false S W x = true ∧ Below w.heap.size w wr ∧ w.heap.size + 1 ≤ wr.heap.size ∧ wr.cell? ⟨w.heap.size, 0, none⟩ = some (.bool false) ∧ wr.cell? ⟨w.heap.size, 1, none⟩ = some (.bool S) ∧ wr.cell? ⟨w.heap.size, 2, none⟩ = some (.int .i64 W)) (fun _ i _ => n - (intOf i).toNat)
        case atStart => exact ⟨0, x0, Nat.zero_le _, rfl, congrArg (Value.int .u64) hv.out, by rw [List.take_zero, hst0.out, hx0.out], by rw [← hx0.out]; exact hni.out, hB, hz, c0, c1, c2⟩
        case round =>
          clear hB hz c0 c1 c2
          obtain ⟨k, x, hk, rfl, rfl, hst, hxi, hB, hz, c0, c1, c2⟩ := hrel
          have hst := Lib.hid hst
          have hxi := Lib.hid hxi
          by_cases hkn : k < n
          · obtain ⟨y, hy⟩ := Int.eq_ofNat_of_zero_le (HZ.out k hkn).1
            have hy2 : y < 18446744073709551616 := by have := (HZ.out k hkn).2; omega
            have hx2 : x < 18446744073709551616 := by have := (isw_lt hxi.out).2; omega
            have cy := (hB.cell (p := ⟨b, off + k, none⟩) hlt).trans (HC.out k hkn)
            rw [hy] at cy
            have hsn := Lib.hid (allR_snoc op false S W zs k (by rw [HL.out]; exact hkn))
            have htwo := Lib.hid (rtwo_any op false S W x y hok hx2 hy2 hxi.out)
            have hy := Lib.hid hy
            clear hx2 hy2
            by_cases hj : isw false S W (y : Int) = true
            · have et := ok_two hok hxi.out hj
              obtain ⟨x', hx'⟩ := Int.eq_ofNat_of_zero_le (show 0 ≤ twoV op false S W x y by rw [et.1]; exact (isw_lt (cut_isw (isw_may hj))).1)
              have hxi' : Hid (isw false S W (x' : Int) = true) := by show _ = _; rw [← hx', et.1]; exact cut_isw (isw_may hj)
              have et2 := et.2
              have hs2 : Hid (allR op false S W (zs.take (k + 1)) = ((x' : Int), 0)) := by
                show _ = _; rw [hsn.out, hst.out, hy.out]; unfold allStep; rw [show ((((x : Int), (0 : Int)).2 == 0) = true) from rfl, if_pos rfl, hx', et2]
              clear hj et
              go_wp2
              have hyc := fun q => stepc (ext_below wr q) (World.block_lt_of_cell? wr _ cy) cy
              (have hx := ext3 (by omega) c0 c1 c2; obtain ⟨x0, x1, x2⟩ := hx; (refine wp_region_ext (by kernel_rfl) (by kernel_rfl) ?_; (repeat (go_big_quiet_step (((go_at_call 31; exact Calls.ext_of (htwo.out _)))))); refine wpQuiet_nil ?_; intro w2 hw'; have hb2 := below_of_ext hw'; clear hw'); clear x0 x1 x2; have hn := step3 hB hz (by omega) c0 c1 c2 hb2; clear hB hz c0 c1 c2 hb2; obtain ⟨hB, hz, c0, c1, c2⟩ := hn)
              clear hyc cy
              go_wp2
              go_roundw
              case rel => exact ⟨k + 1, x', by omega, by go_num, rfl, hs2.out, hxi'.out, hB, hz, c0, c1, c2⟩
              case measure => simp [intOf]; omega
            · simp at hj
              have et := bad_two (op := op) (B := false) (S := S) (W := W) (a := x) (b := y) (by unfold twoOk; rw [hj, Bool.and_false])
              obtain ⟨et1, et2⟩ := et
              have hs2 : Hid (allR op false S W zs = (0, 1)) := by
                have e1 : allR op false S W (zs.take (k + 1)) = (0, 1) := by
                  rw [hsn.out, hst.out, hy.out]; unfold allStep; rw [show ((((x : Int), (0 : Int)).2 == 0) = true) from rfl, if_pos rfl, et1, et2]
                show _ = _; rw [allR_stay op false S W zs (k + 1) (by rw [e1]; rfl), e1]
              clear hj
              go_wp2
              have hyc := fun q => stepc (ext_below wr q) (World.block_lt_of_cell? wr _ cy) cy
              (have hx := ext3 (by omega) c0 c1 c2; obtain ⟨x0, x1, x2⟩ := hx; (refine wp_region_ext (by kernel_rfl) (by kernel_rfl) ?_; (repeat (go_big_quiet_step (((go_at_call 31; exact Calls.ext_of (htwo.out _)))))); refine wpQuiet_nil ?_; intro w2 hw'; have hb2 := below_of_ext hw'; clear hw'); clear x0 x1 x2; have hn := step3 hB hz (by omega) c0 c1 c2 hb2; clear hB hz c0 c1 c2 hb2; obtain ⟨hB, hz, c0, c1, c2⟩ := hn)
              clear hyc cy
              go_wp2
              go_ret2
              exact ⟨ret_int2 (by rw [hs2.out]) (by rw [hs2.out]), hB⟩
          · have hs2 : Hid (allR op false S W zs = ((x : Int), 0)) := by
              show _ = _; rw [← hst.out, List.take_of_length_le (by rw [HL.out]; omega)]
            go_wp2
            go_ret2
            exact ⟨ret_int2 (by rw [hs2.out]) (by rw [hs2.out]), hB⟩
      · have h6 := hbo.out rfl
        clear hbo
        have HZ := Lib.hid hz0
        have HC := Lib.hid hcell
        have HL := Lib.hid hl
        have hst0 := Lib.hid (neut_start hok hm)
        have hni := Lib.hid (neut_isw' (ok_ring hok) hm)
        have hmy := Lib.hid (rmay_any true S W)
        have hone := Lib.hid (rone_any true S W hm)
        have hN : ∃ x : Nat, neutV op true S W = (x : Int) := Int.eq_ofNat_of_zero_le (isw_lt hni.out).1
        obtain ⟨x0, hx00⟩ := hN
        have hx0 := Lib.hid hx00
        clear hx00
        clear hz0 hcell hl
        go_enter Try.func11, Try.ntmps11
        go_wp2_with (first
          | (go_at_call 26; refine (hmy.out _).mono ?_; rintro e w2 ⟨rfl, hb2⟩; have hn := box3 (T := 23) hb2; clear hb2; obtain ⟨hB, hz, c0, c1, c2⟩ := hn)
          | (go_at_call 30; refine (hone.out _).mono ?_; rintro e w2 ⟨rfl, hb2⟩; have hn := step3 hB hz (by omega) c0 c1 c2 hb2; clear hB hz c0 c1 c2 hb2; obtain ⟨hB, hz, c0, c1, c2⟩ := hn))
        have hv : Hid ((0 : Int) = (x0 : Int)) := Eq.trans (hv0.out.symm) hx0.out
        go_loopw [8, 9] (fun v i wr => ∃ k x : Nat, k ≤ n ∧ i = .int .i64 k ∧ v = .int .u64 x ∧ allR op true S W (zs.take k) = ((x : Int), 0) ∧ isw true S W x = true ∧ Below w.heap.size w wr ∧ w.heap.size + 1 ≤ wr.heap.size ∧ wr.cell? ⟨w.heap.size, 0, none⟩ = some (.bool true) ∧ wr.cell? ⟨w.heap.size, 1, none⟩ = some (.bool S) ∧ wr.cell? ⟨w.heap.size, 2, none⟩ = some (.int .i64 W)) (fun _ i _ => n - (intOf i).toNat)
        case atStart => exact ⟨0, x0, Nat.zero_le _, rfl, congrArg (Value.int .u64) hv.out, by rw [List.take_zero, hst0.out, hx0.out], by rw [← hx0.out]; exact hni.out, hB, hz, c0, c1, c2⟩
        case round =>
          clear hB hz c0 c1 c2
          obtain ⟨k, x, hk, rfl, rfl, hst, hxi, hB, hz, c0, c1, c2⟩ := hrel
          have hst := Lib.hid hst
          have hxi := Lib.hid hxi
          by_cases hkn : k < n
          · obtain ⟨y, hy⟩ := Int.eq_ofNat_of_zero_le (HZ.out k hkn).1
            have hy2 : y < 18446744073709551616 := by have := (HZ.out k hkn).2; omega
            have hx2 : x < 18446744073709551616 := by have := (isw_lt hxi.out).2; omega
            have cy := (hB.cell (p := ⟨b, off + k, none⟩) hlt).trans (HC.out k hkn)
            rw [hy] at cy
            have hsn := Lib.hid (allR_snoc op true S W zs k (by rw [HL.out]; exact hkn))
            have htwo := Lib.hid (rtwo_any op true S W x y hok hx2 hy2 hxi.out)
            have hy := Lib.hid hy
            clear hx2 hy2
            by_cases hj : isw true S W (y : Int) = true
            · have et := ok_two hok hxi.out hj
              obtain ⟨x', hx'⟩ := Int.eq_ofNat_of_zero_le (show 0 ≤ twoV op true S W x y by rw [et.1]; exact (isw_lt (cut_isw (isw_may hj))).1)
              have hxi' : Hid (isw true S W (x' : Int) = true) := by show _ = _; rw [← hx', et.1]; exact cut_isw (isw_may hj)
              have et2 := et.2
              have hs2 : Hid (allR op true S W (zs.take (k + 1)) = ((x' : Int), 0)) := by
                show _ = _; rw [hsn.out, hst.out, hy.out]; unfold allStep; rw [show ((((x : Int), (0 : Int)).2 == 0) = true) from rfl, if_pos rfl, hx', et2]
              clear hj et
              go_wp2
              have hyc := fun q => stepc (ext_below wr q) (World.block_lt_of_cell? wr _ cy) cy
              (have hx := ext3 (by omega) c0 c1 c2; obtain ⟨x0, x1, x2⟩ := hx; (refine wp_region_ext (by kernel_rfl) (by kernel_rfl) ?_; (repeat (go_big_quiet_step (((go_at_call 31; exact Calls.ext_of (htwo.out _)))))); refine wpQuiet_nil ?_; intro w2 hw'; have hb2 := below_of_ext hw'; clear hw'); clear x0 x1 x2; have hn := step3 hB hz (by omega) c0 c1 c2 hb2; clear hB hz c0 c1 c2 hb2; obtain ⟨hB, hz, c0, c1, c2⟩ := hn)
              clear hyc cy
              go_wp2
              go_roundw
              case rel => exact ⟨k + 1, x', by omega, by go_num, rfl, hs2.out, hxi'.out, hB, hz, c0, c1, c2⟩
              case measure => simp [intOf]; omega
            · simp at hj
              have et := bad_two (op := op) (B := true) (S := S) (W := W) (a := x) (b := y) (by unfold twoOk; rw [hj, Bool.and_false])
              obtain ⟨et1, et2⟩ := et
              have hs2 : Hid (allR op true S W zs = (0, 1)) := by
                have e1 : allR op true S W (zs.take (k + 1)) = (0, 1) := by
                  rw [hsn.out, hst.out, hy.out]; unfold allStep; rw [show ((((x : Int), (0 : Int)).2 == 0) = true) from rfl, if_pos rfl, et1, et2]
                show _ = _; rw [allR_stay op true S W zs (k + 1) (by rw [e1]; rfl), e1]
              clear hj
              go_wp2
              have hyc := fun q => stepc (ext_below wr q) (World.block_lt_of_cell? wr _ cy) cy
              (have hx := ext3 (by omega) c0 c1 c2; obtain ⟨x0, x1, x2⟩ := hx; (refine wp_region_ext (by kernel_rfl) (by kernel_rfl) ?_; (repeat (go_big_quiet_step (((go_at_call 31; exact Calls.ext_of (htwo.out _)))))); refine wpQuiet_nil ?_; intro w2 hw'; have hb2 := below_of_ext hw'; clear hw'); clear x0 x1 x2; have hn := step3 hB hz (by omega) c0 c1 c2 hb2; clear hB hz c0 c1 c2 hb2; obtain ⟨hB, hz, c0, c1, c2⟩ := hn)
              clear hyc cy
              go_wp2
              go_ret2
              exact ⟨ret_int2 (by rw [hs2.out]) (by rw [hs2.out]), hB⟩
          · have hs2 : Hid (allR op true S W zs = ((x : Int), 0)) := by
              show _ = _; rw [← hst.out, List.take_of_length_le (by rw [HL.out]; omega)]
            go_wp2
            go_ret2
            exact ⟨ret_int2 (by rw [hs2.out]) (by rw [hs2.out]), hB⟩
end Go.Proofs.Ytmieddcgnaddiaa
