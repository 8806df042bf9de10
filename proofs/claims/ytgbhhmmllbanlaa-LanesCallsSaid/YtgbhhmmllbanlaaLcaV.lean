/-
  The walk over 'LanesCalls'.
-/
import Derived.Test.YtgbhhmmllbanlaaRlG
import Derived.Deep.RegionHeld3
import Derived.Deep.DeepCutAuto
namespace Go.Proofs.Ytgbhhmmllbanlaa
open Go.RowKit Go.ChangeMaps
set_option maxRecDepth 100000

/-- The rows that are handed round. -/
structure LC (w0 : World) (x0 x1 x2 x3 : Option Addr) (k1 k2 : Nat) (f g : Nat → Nat) (w : World) : Prop where
  below : Below w0.heap.size w0 w
  words : WRow w x0 k1 f
  bits : WRow w x1 k2 g
  own : WRow w x2 k1 f
  kept : WRow w x3 k2 g
theorem LC.step {w0 w w1 : World} {x0 x1 x2 x3 : Option Addr} {k1 k2 : Nat} {f g : Nat → Nat} (h : LC w0 x0 x1 x2 x3 k1 k2 f g w) (hn : Below w.heap.size w w1) : LC w0 x0 x1 x2 x3 k1 k2 f g w1 :=
  ⟨nextw h.below hn, h.words.step hn, h.bits.step hn, h.own.step hn, h.kept.step hn⟩

/-- What stays. -/
structure Kp (P : World → Prop) (w : World) : Prop where
  st : ∀ w w1 : World, P w → Below w.heap.size w w1 → P w1
  has : P w
theorem Kp.step {P : World → Prop} {w w1 : World} (h : Kp P w) (hn : Below w.heap.size w w1) : Kp P w1 := ⟨h.st, h.st _ _ h.has hn⟩
theorem Kp.row {P : World → Prop} {w : World} (h : Kp P w) {a : Option Addr} {n : Nat} {f : Nat → Nat} (hr : WRow w a n f) : Kp (fun w => P w ∧ WRow w a n f) w := ⟨fun _ _ h1 hn => ⟨h.st _ _ h1.1 hn, h1.2.step hn⟩, h.has, hr⟩
theorem Kp.wown {P : World → Prop} {w : World} (h : Kp P w) {a : Option Addr} {n B : Nat} {f : Nat → Nat} (hr : WOwn w B a n f) : Kp (fun w => P w ∧ WOwn w B a n f) w := ⟨fun _ _ h1 hn => ⟨h.st _ _ h1.1 hn, h1.2.step hn⟩, h.has, hr⟩
theorem Kp.blk {P : World → Prop} {w : World} (h : Kp P w) {b : Nat} {f : Nat → Nat} (hr : Blk w b f) : Kp (fun w => P w ∧ Blk w b f) w := ⟨fun _ _ h1 hn => ⟨h.st _ _ h1.1 hn, h1.2.step hn⟩, h.has, hr⟩
theorem Kp.bel {P : World → Prop} {w : World} (h : Kp P w) {w0 : World} (hr : Below w0.heap.size w0 w) : Kp (fun w => P w ∧ Below w0.heap.size w0 w) w := ⟨fun _ _ h1 hn => ⟨h.st _ _ h1.1 hn, nextw h1.2 hn⟩, h.has, hr⟩

theorem sq_equalIn (F : Nat → Nat) (W : World) : (Op.equalIn 10000 23 (.agg (sqA F)) (.agg (sqA F))).run Try.prog W = .ok true W := by
  obtain ⟨i, hi⟩ := infoU
  rw [run_equalIn_array W 9999 _ _ und_sq hi, cells_u64, sq_items F 9998 W _ (fun j hj => by simpa using hj)]
theorem Blk.wloadW {w : World} {b : Nat} {f : Nat → Nat} (h : Blk w b f) {ops : Array Oper} {rest : List Oper} {o : Oper} {a : Act} {Q : Exit → Act → World → Prop} (x : Operand) (ho : o.op = .load 23 x)
    (hx : a.eval x = .pointer (some ⟨b, 0, none⟩)) (hw : Region.wanted o (yielded ops a.tmps) = true) (hn : wpList Try.prog ops Q rest (a.put o.dst (.agg (sqA f))) w) : wpList Try.prog ops Q (o :: rest) a w :=
  BigFrame.wpList_want hw fun K hK => wp_load_row _ x ho b hx _ _ _ _ h und_sq rfl (by rw [(zero_of_info info_sq).2, sqA_size]) (hK _ _ hn)
set_option maxHeartbeats 4000000 in
theorem LanesCalls_any {w : World} {a1 a2 : Option Addr} {n1 c1 n2 c2 : Nat} {f g : Nat → Nat} (P L : Int) (v : Nat) (hv : v < 18446744073709551616) (hf : ∀ i, f i < 18446744073709551616) (hg : ∀ i, g i < 18446744073709551616) (h1 : WRow w a1 n1 f) (h2 : WRow w a2 n2 g) (hc1 : n1 ≤ c1) (hc2 : n2 ≤ c2) (hm1 : c1 ≤ 9223372036854775807) (hm2 : c2 ≤ 9223372036854775807) :
    Calls Try.prog 4 #[.slice a1 n1 c1, .slice a2 n2 c2, .agg #[.int .i64 P, .int .i64 L, .int .u64 (v : Nat)]] w fun e w' => e = .returned (.bool true) ∧ Below w.heap.size w w' := by
  go_enter Try.func4, Try.ntmps4
  go_upto_region 2 with fail
  go_quiet (fail)
  go_upto_region 3 with fail
  obtain ⟨k1, hkk1⟩ : ∃ k, k = min n1 70 := ⟨_, rfl⟩
  obtain ⟨k2, hkk2⟩ : ∃ k, k = min n2 70 := ⟨_, rfl⟩
  have hk1 : k1 ≤ n1 := by omega
  have hk2 : k2 ≤ n2 := by omega
  have hk170 : k1 ≤ 70 := by omega
  have hk270 : k2 ≤ 70 := by omega
  have hmin1 : (if (70 : Int) < (n1 : Int) then (70 : Int) else (n1 : Int)) = (k1 : Int) := by split <;> omega
  have hmin2 : (if (70 : Int) < (n2 : Int) then (70 : Int) else (n2 : Int)) = (k2 : Int) := by split <;> omega
  have hkc1 : (k1 : Int) ≤ c1 := by omega
  have hkc2 : (k2 : Int) ≤ c2 := by omega
  have hk10 : (0 : Int) ≤ k1 := by omega
  have hk20 : (0 : Int) ≤ k2 := by omega
  have hB1 := Lib.hid (((Below.refl w.heap.size w).alloc (Nat.le_refl _) (.cells #[.int .i64 P, .int .i64 L, .int .u64 (v : Nat)] 29)).trans ((below_drewN _ nq).mono (by simp)))
  generalize ((w.alloc (.cells #[.int .i64 P, .int .i64 L, .int .u64 (v : Nat)] 29)).drewN nq) = w1 at *
  have hcl1 := Lib.hid (clone_any (w := w1.drew) (c := c1) ((h1.step (nextw hB1.out (Below.refl _ _).drew)).take hk1) (by omega))
  have H2 := Lib.hid h2
  have hF := Lib.hid hf
  have hG := Lib.hid hg
  clear h1 h2 hkk1 hkk2 hf hg
  go_cut [0, 1] (fun s0 s1 wx => ∃ x1 y1 x2 y2, s0 = .slice x1 k1 y1 ∧ s1 = .slice x2 k2 y2 ∧ WRow wx x1 k1 f ∧ WRow wx x2 k2 g ∧ Below w.heap.size w wx)
  case first =>
    -- @slow
    go_region_held3 (fun _ => True) (trivial) (first
      | (go_at_call 12; (with_reducible refine hcl1.out.mono ?_); rintro e w3 ⟨x1, y1, rfl, hM1⟩; have hcl2 := Lib.hid (clone_any (w := w3) (c := c2) ((H2.out.step (nextw (nextw hB1.out (Below.refl _ _).drew) hM1.below)).take hk2) (by omega)))
      | (go_at_call 12; (with_reducible refine hcl2.out.mono ?_); rintro e w4 ⟨x2, y2, rfl, hM2⟩))
    all_goals (go_wp2_with fail; go_meet; exact ⟨x1, y1, x2, y2, rfl, rfl, (hM1.row (by omega)).step hM2.below, hM2.row (by omega), nextw (nextw (nextw hB1.out (Below.refl _ _).drew) hM1.below) hM2.below⟩)
    -- @end
  case rest =>
    obtain ⟨x0, y0, x1, y1, rfl, rfl, hr0, hr1, hB⟩ := hcut
    have hA0 := Lib.hid hr0
    have hA1 := Lib.hid hr1
    have hB := Lib.hid hB
    clear hr0 hr1 hcl1 H2 hB1 hmin1 hmin2 hkc1 hkc2
    have hcl0 := Lib.hid (fun wk (h : WRow wk x0 k1 f) => clone_any (c := y0) h (by omega))
    have hcl1 := Lib.hid (fun wk (h : WRow wk x1 k2 g) => clone_any (c := y1) h (by omega))
    go_upto_region 5 with (first
      | (go_at_call 12; (with_reducible refine (hcl0.out _ hA0.out).mono ?_); rintro e w3 ⟨x2, y2, rfl, hM⟩; have hA0' := Lib.hid (hA0.out.step hM.below); have hA1' := Lib.hid (hA1.out.step hM.below); have hA2' := Lib.hid (hM.row (by omega)); have hB' := Lib.hid (nextw hB.out hM.below); clear hM hA0 hA1 hB hcl0)
      | (go_at_call 12; (with_reducible refine (hcl1.out _ hA1'.out).mono ?_); rintro e w4 ⟨x3, y3, rfl, hM⟩; have hC := Lib.hid (⟨nextw hB'.out hM.below, hA0'.out.step hM.below, hA1'.out.step hM.below, hA2'.out.step hM.below, hM.row (by omega)⟩ : LC w x0 x1 x2 x3 k1 k2 f g w4); clear hM hA0' hA1' hA2' hB' hcl1))
    have hK : Hid (Kp (fun _ => True) w4) := Lib.hid ⟨fun _ _ _ _ => trivial, trivial⟩
    have pL := fun (wk : World) (h : WRow wk x2 k1 f) => lpack_ans (c := y2) P h
    have pR := fun (wk : World) (h : WRow wk x0 k1 f) => rpack_ans (c := y0) P h (fun i _ => hF.out i)
    have uL := fun (wk : World) (h : WRow wk x3 k2 g) => unpack_any (c := y3) h (fun _ i _ => hG.out i)
    have uR := fun (wk : World) (h : WRow wk x1 k2 g) => runpack_any (c := y1) h (fun _ i _ => hG.out i)
    have lL := fun (wk : World) (h : WRow wk x3 k2 g) => lane_any (c := y3) L h (fun _ i _ => hG.out i)
    have lR := fun (wk : World) (h : WRow wk x1 k2 g) => rlane_any (c := y1) L h (fun _ i _ => hG.out i)
    have sL := fun (wk : World) (h : WRow wk x3 k2 g) => lset_ans (c := y3) L v hv h (fun i _ => hG.out i)
    have sR := fun (wk : World) (h : WRow wk x1 k2 g) => rset_ans (c := y1) L v hv h (fun i _ => hG.out i)
    have fL := fun (wk : World) => lfill_ans (w := wk) P v hv
    have fR := fun (wk : World) => rfill_ans (w := wk) P v hv
    have cL := Lib.hid (count_any v hv)
    have cR := Lib.hid (rcount_any v hv)
    have hS : Hid (∀ i, i < (if setOk k2 L v then k2 else 0) → setN g L.toNat v i < 18446744073709551616) := Lib.hid (fun i hi => by
      split at hi
      · rename_i h
        unfold setOk at h
        rw [Bool.and_eq_true, Bool.and_eq_true, decide_eq_true_eq, decide_eq_true_eq] at h
        exact setN_lt (by omega)
      · omega)
    have hm3 : (if setOk k2 L v then k2 else 0) ≤ 70 := by split <;> omega
    obtain ⟨T, er2, hE2⟩ : ∃ (T : Nat → Nat) (er : Int), (if 1 ≤ k2 ∧ k2 ≤ 64 then Value.tuple #[.agg (sqA (turn (cutAt k2 g))), .int .i64 0] else .tuple #[.agg (sqA (fun _ => 0)), .int .i64 1]) = .tuple #[.agg (sqA T), .int .i64 er] := by split <;> exact ⟨_, _, rfl⟩
    obtain ⟨z, er3, hE3⟩ : ∃ (z : Nat) (er : Int), (if (1 ≤ k2 ∧ k2 ≤ 64) ∧ 0 ≤ L ∧ L < 64 then Value.tuple #[.int .u64 (laneN g L.toNat k2 : Nat), .int .i64 0] else .tuple #[.int .u64 0, .int .i64 1]) = .tuple #[.int .u64 (z : Nat), .int .i64 er] := by
      split
      · exact ⟨_, _, rfl⟩
      · exact ⟨0, 1, rfl⟩
    simp only [hE2] at uL uR
    simp only [hE3] at lL lR
    generalize (if packOk P k1 f then P.toNat else 0) = m1 at *
    generalize (if packOk P k1 f then (0 : Int) else 1) = er1 at *
    generalize turn (cutAt k1 f) = F1 at *
    generalize (if setOk k2 L v then k2 else 0) = m3 at *
    generalize (if setOk k2 L v then (0 : Int) else 1) = er4 at *
    generalize setN g L.toNat v = S at *
    generalize (if mayH P 1 (fun _ => v) then P.toNat else 0) = m5 at *
    generalize (if mayH P 1 (fun _ => v) then (0 : Int) else 1) = er5 at *
    generalize fillN v = R at *
    generalize popN v 64 = cnt at *
    have pL := Lib.hid pL
    have pR := Lib.hid pR
    have uL := Lib.hid uL
    have uR := Lib.hid uR
    have lL := Lib.hid lL
    have lR := Lib.hid lR
    have sL := Lib.hid sL
    have sR := Lib.hid sR
    have fL := Lib.hid fL
    have fR := Lib.hid fR
    have hwk := Lib.hid wakes_any
    clear hE2 hE3 hF hG hv
    have hz := (zero_of_info info_sq).1
    go_upto_region 8 with (first
      | (go_at_call 13; (with_reducible refine (pL.out _ hC.out.own).mono ?_); rintro e w5 ⟨ra, rc, rfl, hr, hn⟩; have hC2 := Lib.hid (hC.out.step hn); clear hC; have hC := hC2; clear hC2; have hK2 := Lib.hid ((hK.out.step hn).row hr.row); clear hK; have hK := hK2; clear hK2; clear hr hn)
      | (go_at_call 14; (with_reducible refine (pR.out _ hC.out.words).mono ?_); rintro e w6 ⟨rb, rd, rfl, hr, hn⟩; have hC2 := Lib.hid (hC.out.step hn); clear hC; have hC := hC2; clear hC2; have hK2 := Lib.hid ((hK.out.step hn).row hr); clear hK; have hK := hK2; clear hK2; clear hr hn)
      | (go_at_call 15; (with_reducible refine (uL.out _ hC.out.kept).mono ?_); rintro e w7 ⟨rfl, hn⟩; have hC2 := Lib.hid (hC.out.step hn); clear hC; have hC := hC2; clear hC2; have hK2 := Lib.hid (hK.out.step hn); clear hK; have hK := hK2; clear hK2; have hb7 := Lib.hid (Blk.new w7 (fun _ => 0)); clear hn)
      | (refine hb7.out.wstore rfl _ _ rfl rfl rfl ?_))
    have hn := ((Below.refl w7.heap.size w7).alloc (Nat.le_refl _) (.cells (sqA (fun _ => 0)) 23)).trans (below_setRow (Nat.le_refl _) (sqA T))
    have hC2 := Lib.hid (hC.out.step hn); clear hC; have hC := hC2; clear hC2
    have hK2 := Lib.hid ((hK.out.step hn).blk (hb7.out.put T)); clear hK; have hK := hK2; clear hK2
    clear hb7 hn
    generalize (w7.alloc (.cells (sqA (fun _ => 0)) 23)).setRow w7.heap.size (sqA T) = w8 at *
    generalize w7.heap.size = b7 at *
    go_upto_region 9 with (first
      | (go_at_call 16; (with_reducible refine (uR.out _ hC.out.bits).mono ?_); rintro e w9 ⟨rfl, hn⟩; have hC2 := Lib.hid (hC.out.step hn); clear hC; have hC := hC2; clear hC2; have hK2 := Lib.hid (hK.out.step hn); clear hK; have hK := hK2; clear hK2; have hb9 := Lib.hid (Blk.new w9 (fun _ => 0)); clear hn)
      | (refine hb9.out.wstore rfl _ _ rfl rfl rfl ?_))
    have hn := ((Below.refl w9.heap.size w9).alloc (Nat.le_refl _) (.cells (sqA (fun _ => 0)) 23)).trans (below_setRow (Nat.le_refl _) (sqA T))
    have hC2 := Lib.hid (hC.out.step hn); clear hC; have hC := hC2; clear hC2
    have hK2 := Lib.hid ((hK.out.step hn).blk (hb9.out.put T)); clear hK; have hK := hK2; clear hK2
    clear hb9 hn pL pR uL uR
    generalize (w9.alloc (.cells (sqA (fun _ => 0)) 23)).setRow w9.heap.size (sqA T) = wa at *
    generalize w9.heap.size = b9 at *
    go_upto_region 11 with (first
      | (go_at_call 17; (with_reducible refine (lL.out _ hC.out.kept).mono ?_); rintro e wb ⟨rfl, hn⟩; have hC2 := Lib.hid (hC.out.step hn); clear hC; have hC := hC2; clear hC2; have hK2 := Lib.hid (hK.out.step hn); clear hK; have hK := hK2; clear hK2; clear hn)
      | (go_at_call 18; (with_reducible refine (lR.out _ hC.out.bits).mono ?_); rintro e wb2 ⟨rfl, rfl⟩))
    have hCb := hC
    go_upto_region 15 with (first
      | (go_at_call 19; (with_reducible refine (sL.out _ hC.out.kept).mono ?_); rintro e wd ⟨rm, rn, rfl, hr, hn⟩; have hC2 := Lib.hid (hC.out.step hn); clear hC; have hC := hC2; clear hC2; have hK2 := Lib.hid (((hK.out.step hn).wown hr).bel hn); clear hK; have hK := hK2; clear hK2; clear hr hn)
      | (go_at_call 20; (with_reducible refine (sR.out _ hC.out.bits).mono ?_); rintro e we ⟨ro, rp, rfl, hr, hn⟩; have hC2 := Lib.hid (hC.out.step hn); clear hC; have hC := hC2; clear hC2; have hK2 := Lib.hid ((hK.out.step hn).row hr); clear hK; have hK := hK2; clear hK2; clear hr hn)
      | (go_at_call 21; (with_reducible refine (fL.out _).mono ?_); rintro e wf ⟨rq, rs, rfl, hr, hn⟩; have hC2 := Lib.hid (hC.out.step hn); clear hC; have hC := hC2; clear hC2; have hK2 := Lib.hid ((hK.out.step hn).row hr.row); clear hK; have hK := hK2; clear hK2; clear hr hn)
      | (go_at_call 22; (with_reducible refine (fR.out _).mono ?_); rintro e wg ⟨rt, ru, rfl, hr, hn⟩; have hC2 := Lib.hid (hC.out.step hn); clear hC; have hC := hC2; clear hC2; have hK2 := Lib.hid ((hK.out.step hn).row hr); clear hK; have hK := hK2; clear hK2; clear hr hn))
    clear sL sR fL fR lL lR hC hz
    have heq := sq_equalIn T
    go_upto_region 16 with (first
      | (go_at_call 23; (with_reducible refine (same_any hK.out.has.1.1.1.1.1.1.1.1.2 hK.out.has.1.1.1.1.1.1.1.2).mono ?_); rintro e wh ⟨rfl, hn⟩; have hK2 := Lib.hid (hK.out.step hn); clear hK; have hK := hK2; clear hK2; clear hn)
      | (go_at_call 23; (with_reducible refine (same_any hK.out.has.1.1.1.1.2.row hK.out.has.1.1.2).mono ?_); rintro e wi ⟨rfl, hn⟩; have hK2 := Lib.hid (hK.out.step hn); clear hK; have hK := hK2; clear hK2; clear hn)
      | (go_at_call 23; (with_reducible refine (same_any hK.out.has.1.2 hK.out.has.2).mono ?_); rintro e wj ⟨rfl, hn⟩; have hK2 := Lib.hid (hK.out.step hn); clear hK; have hK := hK2; clear hK2; clear hn)
      | ((with_reducible refine hK.out.has.1.1.1.1.1.1.2.wloadW _ rfl ?hx (by kernel_rfl) ?hn); case hx => rfl)
      | ((with_reducible refine hK.out.has.1.1.1.1.1.2.wloadW _ rfl ?hy (by kernel_rfl) ?hm); case hy => rfl)
      | (go_at_call 24; (with_reducible refine (cL.out _).mono ?_); rintro e wk ⟨rfl, rfl⟩)
      | (go_at_call 25; (with_reducible refine (cR.out _).mono ?_); rintro e wl ⟨rfl, rfl⟩))
    have hW : Hid (WOwn wj wb.heap.size rm m3 (mixF S (fun i => S i ^^^ 1) 0)) := Lib.hid (by rw [mixF_zero]; exact hK.out.has.1.1.1.1.2)
    have hBl := Lib.hid hK.out.has.1.1.1.2
    clear cL cR heq hK
    go_wp2
    go_loopw [173] (fun s wr => ∃ j : Nat, j ≤ m3 ∧ s = .int .i64 (j : Nat) ∧ Hid (WOwn wr wb.heap.size rm m3 (mixF S (fun i => S i ^^^ 1) j)) ∧ Hid (Below wb.heap.size wb wr)) (fun s _ => m3 - (intOf s).toNat)
    case atStart => exact ⟨0, by omega, rfl, hW, hBl⟩
    case round =>
      clear hW hBl
      obtain ⟨j, hj, rfl, hW, hBl⟩ := hrel
      by_cases hlt : j < m3
      · obtain ⟨b1, o1, rfl, hB1, hl1, hx1, hf1⟩ := hW.out.at (by omega)
        have cx := hx1 j hlt
        have fx := hf1 j hlt
        rw [mixF_here] at cx
        have wx := xor64n (hS.out j hlt) (show 1 < 18446744073709551616 by decide)
        have hW2 := Lib.hid (hW.out.mix (g := fun i => S i ^^^ 1) hlt)
        have hB2 := Lib.hid (hBl.out.setCell (p := ⟨b1, o1 + j, none⟩) hB1 (.int .u64 ((S j ^^^ 1 : Nat) : Int)))
        have hjm : (j : Int) < m3 := by omega
        clear hx1 hf1 hW hBl hwk hCb hS
        generalize ((S j ^^^ 1 : Nat) : Int) = X at *
        generalize S j = y at *
        have wx2 : bits .xor .u64 (y : Int) 1 = X := wx
        clear wx
        go_wp2
        exact ⟨⟨j + 1, by omega, by go_num, hW2, hB2⟩, by simp [intOf]; omega⟩
      · obtain rfl : j = m3 := by omega
        have hC := Lib.hid (hCb.out.step hBl.out)
        clear hW hBl hCb hS
        go_wp2_with (first
          | (go_at_call 23; (with_reducible refine (same_any hC.out.own hC.out.words).mono ?_); rintro e wo ⟨rfl, hn⟩; have hC2 := Lib.hid (hC.out.step hn); clear hC; have hC := hC2; clear hC2; clear hn)
          | (go_at_call 23; (with_reducible refine (same_any hC.out.kept hC.out.bits).mono ?_); rintro e wp ⟨rfl, hn⟩; have hC2 := Lib.hid (hC.out.step hn); clear hC; have hC := hC2; clear hC2; clear hn)
          | (go_at_call 11; (with_reducible refine (hwk.out _).mono ?_); rintro e wq ⟨rfl, hn⟩; have hC2 := Lib.hid (hC.out.step hn); clear hC; have hC := hC2; clear hC2; clear hn))
        go_ret
        exact ⟨rfl, hC.out.below⟩
end Go.Proofs.Ytgbhhmmllbanlaa
