/-
  The walk over 'LanesKnown'.
-/
import Derived.Test.YtgbhhmmllbanlaaLanW
namespace Go.Proofs.Ytgbhhmmllbanlaa
open Go.RowKit
set_option maxRecDepth 100000

theorem row_one (w : World) (x : Nat) : WRow (w.alloc (.cells #[.int .u64 (x : Nat)] 22)) (some ⟨w.heap.size, 0, none⟩) 1 (fun _ => x) := one_row w x
theorem made_row {w : World} {b n : Nat} (h : w.ownsRow b 22 1 (.slice (some ⟨b, 0, none⟩) n n) n (madeCells (Value.int .u64 0).cells (n * 1)).toList) (hn : n ≤ 9223372036854775807) : WRow w (some ⟨b, 0, none⟩) n (fun _ => 0) := by
  rw [wl_made] at h
  exact WRow.of_own h hn

/-- A row made where a guard wants it. -/
theorem wpList_make_want {P : Program} (w : World) {ops : Array Oper} {rest : List Oper} {o : Oper} {a : Act} {Q : Exit → Act → World → Prop}
    (hg : Region.wanted o (yielded ops a.tmps) = true) (l c : Operand) (t : TypeId) (hop : o.op = Op.makeSlice t l c)
    (base : Nat) (e : TypeId) (i : TypeInfo) (z : Value) (size : Nat) (h1 : P.underlying t = some (.slice e)) (h2 : P.info? e = some i) (h3 : i.zero = some z) (h4 : i.size = size)
    (kl kc : IntKind) (L C : Int) (n : Nat) (hl : a.eval l = .int kl L) (hc : a.eval c = .int kc C) (hL : L = (n : Int)) (hC : C = (n : Int)) (b2 : i.bytes * n ≤ 281474976710656) (b3 : n ≤ maxLen) (b4 : base ≤ w.heap.size)
    (hK : ∀ w', w'.ownsRow base e size (.slice (some ⟨w.heap.size, 0, none⟩) n n) n (madeCells z.cells (n * size)).toList → w.grownBy w' none → wpList P ops Q rest (a.put o.dst (.slice (some ⟨w.heap.size, 0, none⟩) n n)) w') :
    wpList P ops Q (o :: rest) a w := by
  refine BigFrame.wpList_want hg fun K hK' => ?_
  obtain ⟨w', hrun, r1, r2⟩ := run_make_full (P := P) w base t e i z size h1 h2 h3 h4 kl kc n b2 b3 b4
  subst hL
  subst hC
  unfold Oper.wp
  simp [execOp, hop, hl, hc, hrun, Result.andThen]
  exact hK' _ _ (hK w' r1 r2)
/-- As LanesKnown calls them. -/
theorem kpack_no (W : Int) (w : World) (h : mayH W 0 (fun _ => 0) = false) : Calls Try.prog 13 #[.int .i64 W, .slice none 0 0] w fun e w' => e = .returned (.tuple #[.slice none 0 0, .int .i64 1]) ∧ Below w.heap.size w w' :=
  pack_no W (WRow.nil w none (fun _ => 0)) (.inr h)
theorem kpack8 (w : World) : Calls Try.prog 13 #[.int .i64 3, .slice (some ⟨w.heap.size, 0, none⟩) 1 1] (w.alloc (.cells #[.int .u64 8] 22)) fun e w' => e = .returned (.tuple #[.slice none 0 0, .int .i64 1]) ∧ Below w.heap.size w w' :=
  (pack_no (c := 1) 3 (row_one w 8) (.inr (by decide +kernel))).mono fun _ _ h => ⟨h.1, nextw ((Below.refl _ _).alloc (Nat.le_refl _) _) h.2⟩
theorem kpack65 (w : World) (b c : Nat) (h : WRow w (some ⟨b, 0, none⟩) 65 (fun _ => 0)) : Calls Try.prog 13 #[.int .i64 1, .slice (some ⟨b, 0, none⟩) 65 c] w fun e w' => e = .returned (.tuple #[.slice none 0 0, .int .i64 1]) ∧ Below w.heap.size w w' :=
  pack_no (c := c) 1 h (.inl (by decide))
theorem kunp (w : World) : Calls Try.prog 15 #[.slice none 0 0] w fun e w' => e = .returned (.tuple #[.agg (sqA (fun _ => 0)), .int .i64 1]) ∧ Below w.heap.size w w' :=
  unpack_any (c := 0) (WRow.nil w none (fun _ => 0)) (fun _ i h => by omega)
theorem kunp65 (w : World) (b c : Nat) (h : WRow w (some ⟨b, 0, none⟩) 65 (fun _ => 0)) : Calls Try.prog 15 #[.slice (some ⟨b, 0, none⟩) 65 c] w fun e w' => e = .returned (.tuple #[.agg (sqA (fun _ => 0)), .int .i64 1]) ∧ Below w.heap.size w w' :=
  unpack_any (c := c) h (fun h _ _ => by omega)
theorem klane (w : World) : Calls Try.prog 17 #[.slice (some ⟨w.heap.size, 0, none⟩) 1 1, .int .i64 64] (w.alloc (.cells #[.int .u64 1] 22)) fun e w' => e = .returned (.tuple #[.int .u64 0, .int .i64 1]) ∧ Below w.heap.size w w' :=
  (lane_any (c := 1) 64 (row_one w 1) (fun _ _ _ => by decide)).mono fun _ _ h => ⟨h.1, nextw ((Below.refl _ _).alloc (Nat.le_refl _) _) h.2⟩
theorem klane2 (w : World) : Calls Try.prog 17 #[.slice (some ⟨w.heap.size, 0, none⟩) 1 1, .int .i64 (-1)] (w.alloc (.cells #[.int .u64 1] 22)) fun e w' => e = .returned (.tuple #[.int .u64 0, .int .i64 1]) ∧ Below w.heap.size w w' :=
  (lane_any (c := 1) (-1) (row_one w 1) (fun _ _ _ => by decide)).mono fun _ _ h => ⟨h.1, nextw ((Below.refl _ _).alloc (Nat.le_refl _) _) h.2⟩
theorem kset (w : World) : Calls Try.prog 19 #[.slice (some ⟨w.heap.size, 0, none⟩) 1 1, .int .i64 0, .int .u64 2] (w.alloc (.cells #[.int .u64 1] 22)) fun e w' => e = .returned (.tuple #[.slice none 0 0, .int .i64 1]) ∧ Below w.heap.size w w' :=
  (set_no (c := 1) 0 2 (row_one w 1) (.inl (by decide +kernel))).mono fun _ _ h => ⟨h.1, nextw ((Below.refl _ _).alloc (Nat.le_refl _) _) h.2⟩
theorem kfill (w : World) : Calls Try.prog 21 #[.int .i64 0, .int .u64 0] w fun e w' => e = .returned (.tuple #[.slice none 0 0, .int .i64 1]) ∧ Below w.heap.size w w' := fill_no 0 0 (by decide +kernel)
theorem kfill4 (w : World) : Calls Try.prog 21 #[.int .i64 4, .int .u64 16] w fun e w' => e = .returned (.tuple #[.slice none 0 0, .int .i64 1]) ∧ Below w.heap.size w w' := fill_no 4 16 (by decide +kernel)
theorem kzero : ∀ i, i < 3 → turn (cutAt 0 (fun _ => 0)) i = 0 := by decide +kernel
theorem kpack3 (w : World) : Calls Try.prog 13 #[.int .i64 3, .slice none 0 0] w fun e w' => ∃ a2 c2, e = .returned (.tuple #[.slice a2 3 c2, .int .i64 0]) ∧ WRow w' a2 3 (fun _ => 0) ∧ Below w.heap.size w w' := by
  refine (pack_yes (W := 3) (c := 0) (WRow.nil w none (fun _ => 0)) (by decide) (by decide +kernel)).mono ?_
  rintro e w' ⟨a2, c2, rfl, hM⟩
  exact ⟨a2, c2, rfl, (hM.row (by omega)).congr kzero, hM.below⟩
theorem kfill64 (w : World) : Calls Try.prog 21 #[.int .i64 64, .int .u64 18446744073709551615] w fun e w' => ∃ b2 o2 c2, e = .returned (.tuple #[.slice (some ⟨b2, o2, none⟩) 64 c2, .int .i64 0]) ∧ b2 < w'.heap.size ∧ w'.cell? ⟨b2, o2 + 63, none⟩ = some (.int .u64 18446744073709551615) ∧ Below w.heap.size w w' := by
  refine (fill_yes (w := w) (n := 64) (x := 18446744073709551615) (by decide) (by decide +kernel)).mono ?_
  rintro e w' ⟨a2, c2, rfl, hM⟩
  obtain ⟨b, off, rfl, hb, hc⟩ := (hM.row (by omega)).at (by omega)
  refine ⟨b, off, c2, rfl, hb, ?_, hM.below⟩
  rw [hc 63 (by omega)]
  rfl
theorem kcount (x : Nat) (hx : x < 18446744073709551616) (n : Nat) (h : popN x 64 = n) (w : World) : Calls Try.prog 24 #[.int .u64 (x : Nat)] w fun e w' => e = .returned (.int .i64 (n : Nat)) ∧ w = w' := by
  refine (count_any x hx w).mono ?_
  rintro e w' ⟨rfl, hw⟩
  rw [h]; exact ⟨rfl, hw⟩

set_option maxHeartbeats 4000000 in
theorem LanesKnown_any (w : World) : Calls Try.prog 8 #[] w fun e w' => e = .returned (.bool true) ∧ Below w.heap.size w w' := by
  have hz := (zero_of_info info_sq).1
  obtain ⟨i0, hi, hz0, hz1, hz2⟩ := info_parts info_u64
  have hB := Lib.hid (Below.refl w.heap.size w)
  have p0 := Lib.hid (fun w => kpack_no 0 w (by decide +kernel))
  have p65 := Lib.hid (fun w => kpack_no 65 w (by decide +kernel))
  have p8 := Lib.hid kpack8
  have pm := Lib.hid kpack65
  have un := Lib.hid kunp
  have um := Lib.hid kunp65
  have l1 := Lib.hid klane
  have l2 := Lib.hid klane2
  have st := Lib.hid kset
  have f0 := Lib.hid kfill
  have f4 := Lib.hid kfill4
  have p3 := Lib.hid kpack3
  have ff := Lib.hid kfill64
  have wkk := Lib.hid wakes_any
  have c0 : Hid (∀ w : World, Calls Try.prog 24 #[.int .u64 0] w fun e w' => e = .returned (.int .i64 0) ∧ w = w') := Lib.hid (kcount 0 (by decide) 0 (by decide +kernel))
  have cm : Hid (∀ w : World, Calls Try.prog 24 #[.int .u64 18446744073709551615] w fun e w' => e = .returned (.int .i64 64) ∧ w = w') := Lib.hid (kcount 18446744073709551615 (by decide) 64 (by decide +kernel))
  go_enter Try.func8, Try.ntmps8
  go_upto_region 4 with (first
    | (go_at_call 13; (with_reducible refine (p0.out _).mono ?_); rintro e wk ⟨rfl, hn⟩; have hB := Lib.hid (nextw hB.out hn); clear hn)
    | (go_at_call 13; (with_reducible refine (p65.out _).mono ?_); rintro e wk ⟨rfl, hn⟩; have hB := Lib.hid (nextw hB.out hn); clear hn)
    | (go_at_call 13; (with_reducible refine (p8.out _).mono ?_); rintro e wk ⟨rfl, hn⟩; have hB := Lib.hid (nextw hB.out hn); clear hn))
  go_upto_region 6 with (first
    | (at_make; refine wpList_make_full _ rfl _ _ 27 rfl wk.heap.size 22 i0 (.int .u64 0) 1 Try.underlying27 hi hz0 hz1 .i64 .i64 65 65 65 rfl rfl rfl rfl (by rw [hz2]; omega) (by unfold maxLen; omega) (Nat.le_refl _) ?_; intro w4 hown hg; have hr := Lib.hid (made_row hown (by omega)); have hB := Lib.hid (nextw hB.out ((Below.refl wk.heap.size wk).grown hg (Nat.le_refl _) (fun _ h => (by cases h)))); clear hown hg)
    | (go_at_call 13; (with_reducible refine (pm.out _ _ _ hr.out).mono ?_); rintro e w5 ⟨rfl, hn⟩; have hB := Lib.hid (nextw hB.out hn); clear hn hr)
    | (go_at_call 15; (with_reducible refine (un.out _).mono ?_); rintro e w6 ⟨rfl, hn⟩; have hB := Lib.hid (nextw hB.out hn); have hb6 := Lib.hid (Blk.new w6 (fun _ => 0)); clear hn)
    | (refine hb6.out.wstore rfl _ _ rfl rfl rfl ?_))
  have hn7 := ((Below.refl w6.heap.size w6).alloc (Nat.le_refl _) (.cells (sqA (fun _ => 0)) 23)).trans (below_setRow (Nat.le_refl _) (sqA (fun _ => 0)))
  have hB := Lib.hid (nextw hB.out hn7)
  clear hb6 hn7 p0 p65 p8 pm un
  generalize (w6.alloc (.cells (sqA (fun _ => 0)) 23)).setRow w6.heap.size (sqA (fun _ => 0)) = wk at *
  generalize w6.heap.size = b6
  go_upto_region 7 with (first
    | (at_make; refine wpList_make_full _ rfl _ _ 27 rfl wk.heap.size 22 i0 (.int .u64 0) 1 Try.underlying27 hi hz0 hz1 .i64 .i64 65 65 65 rfl rfl rfl rfl (by rw [hz2]; omega) (by unfold maxLen; omega) (Nat.le_refl _) ?_; intro w4 hown hg; have hr := Lib.hid (made_row hown (by omega)); have hB := Lib.hid (nextw hB.out ((Below.refl wk.heap.size wk).grown hg (Nat.le_refl _) (fun _ h => (by cases h)))); clear hown hg)
    | (go_at_call 15; (with_reducible refine (um.out _ _ _ hr.out).mono ?_); rintro e w6 ⟨rfl, hn⟩; have hB := Lib.hid (nextw hB.out hn); have hb6 := Lib.hid (Blk.new w6 (fun _ => 0)); clear hn)
    | (refine hb6.out.wstore rfl _ _ rfl rfl rfl ?_))
  have hn7 := ((Below.refl w6.heap.size w6).alloc (Nat.le_refl _) (.cells (sqA (fun _ => 0)) 23)).trans (below_setRow (Nat.le_refl _) (sqA (fun _ => 0)))
  have hB := Lib.hid (nextw hB.out hn7)
  clear hb6 hn7 um hr
  generalize (w6.alloc (.cells (sqA (fun _ => 0)) 23)).setRow w6.heap.size (sqA (fun _ => 0)) = w7 at *
  generalize w6.heap.size = b7
  go_upto_region 12 with (first
    | (go_at_call 17; (with_reducible refine (l1.out _).mono ?_); rintro e wk ⟨rfl, hn⟩; have hB := Lib.hid (nextw hB.out hn); clear hn)
    | (go_at_call 17; (with_reducible refine (l2.out _).mono ?_); rintro e wk ⟨rfl, hn⟩; have hB := Lib.hid (nextw hB.out hn); clear hn)
    | (go_at_call 19; (with_reducible refine (st.out _).mono ?_); rintro e wk ⟨rfl, hn⟩; have hB := Lib.hid (nextw hB.out hn); clear hn)
    | (go_at_call 21; (with_reducible refine (f0.out _).mono ?_); rintro e wk ⟨rfl, hn⟩; have hB := Lib.hid (nextw hB.out hn); clear hn)
    | (go_at_call 21; (with_reducible refine (f4.out _).mono ?_); rintro e wk ⟨rfl, hn⟩; have hB := Lib.hid (nextw hB.out hn); clear hn))
  clear l1 l2 st f0 f4
  go_upto_region 14 with (first
    | (go_at_call 13; (with_reducible refine (p3.out _).mono ?_); rintro e wp ⟨ap, cp, rfl, hrp, hn⟩; have hB := Lib.hid (nextw hB.out hn); have hrp := Lib.hid hrp; clear hn)
    | (go_at_call 21; (with_reducible refine (ff.out _).mono ?_); rintro e wf ⟨bf, gf, cf, rfl, hlf, hcf, hn⟩; have hB := Lib.hid (nextw hB.out hn); have hrf := Lib.hid (hrp.out.step hn); clear hn hrp))
  clear p3 ff
  simp only [List.append_eq, List.cons_append, List.nil_append]
  go_wp2_with (first
    | (at_make; refine wpList_make_want _ rfl _ _ 27 rfl wf.heap.size 22 i0 (.int .u64 0) 1 Try.underlying27 hi hz0 hz1 .i64 .i64 3 3 3 rfl rfl rfl rfl (by rw [hz2]; omega) (by unfold maxLen; omega) (Nat.le_refl _) ?_; intro w4 hown hg; have hr := Lib.hid (made_row hown (by omega)); have hgb := (Below.refl wf.heap.size wf).grown hg (Nat.le_refl _) (fun _ h => (by cases h)); have hB := Lib.hid (nextw hB.out hgb); have hr2 := Lib.hid (hrf.out.step hgb); have hcf := stepc hgb hlf hcf; have hlf := Nat.lt_of_lt_of_le hlf hgb.size; clear hown hg hgb hrf)
    | (go_at_call 23; (with_reducible refine (same_any hr2.out hr.out).mono ?_); rintro e w5 ⟨rfl, hn⟩; have hB := Lib.hid (nextw hB.out hn); have hcf := stepc hn hlf hcf; clear hn hr hr2)
    | (go_at_call 24; (with_reducible refine (c0.out _).mono ?_); rintro e w11 ⟨rfl, rfl⟩)
    | (go_at_call 24; (with_reducible refine (cm.out _).mono ?_); rintro e w11 ⟨rfl, rfl⟩)
    | (go_at_call 11; (with_reducible refine (wkk.out _).mono ?_); rintro e w12 ⟨rfl, hn⟩; have hB := Lib.hid (nextw hB.out hn)))
  go_ret
  exact ⟨rfl, hB.out⟩
end Go.Proofs.Ytgbhhmmllbanlaa
