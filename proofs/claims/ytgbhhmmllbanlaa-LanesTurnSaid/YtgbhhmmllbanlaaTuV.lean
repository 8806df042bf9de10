/-
  The walk over 'LanesTurn'.
-/
import Derived.Test.YtgbhhmmllbanlaaOrdT
import Derived.Test.YtgbhhmmllbanlaaLanW
import Derived.Test.YtgbhhmmllbanlaaWow
import Derived.Deep.RegionHeld3
namespace Go.Proofs.Ytgbhhmmllbanlaa
open Go.RowKit
set_option maxRecDepth 100000

theorem not_walk {x : Nat} (hx : x < 18446744073709551616) : bits .xor .u64 (if IntKind.u64.signed = true then -1 else IntKind.u64.max) (x : Int) = ((18446744073709551615 - x : Nat) : Int) := by
  have e : (if IntKind.u64.signed = true then -1 else IntKind.u64.max) = ((18446744073709551615 : Nat) : Int) := by decide
  rw [e, xor64n (by decide) hx]
  congr 1
  refine word_ext (lt_xor (by decide) hx) (by omega) (fun j hj => ?_)
  rw [testBit_not hx hj, Nat.testBit_xor]
  have : (18446744073709551615 : Nat).testBit j = true := by revert j; decide
  rw [this]; simp
/-- The squares that are told, and turned over. -/
structure TuS (w : World) (b3 b4 d1 d2 : Nat) (f g : Nat → Nat) (wr : World) : Prop where
  below : Below w.heap.size w wr
  s3 : Blk wr b3 f
  s4 : Blk wr b4 g
  s7 : Blk wr d1 (turn f)
  s8 : Blk wr d2 (turn g)
theorem TuS.step {w wr w1 : World} {b3 b4 d1 d2 : Nat} {f g : Nat → Nat} (h : TuS w b3 b4 d1 d2 f g wr) (hb : Below wr.heap.size wr w1) : TuS w b3 b4 d1 d2 f g w1 :=
  ⟨nextw h.below hb, h.s3.step hb, h.s4.step hb, h.s7.step hb, h.s8.step hb⟩
theorem TuS.upto {w wr w1 : World} {b3 b4 d1 d2 B : Nat} {f g : Nat → Nat} (h : TuS w b3 b4 d1 d2 f g wr) (hb : Below B wr w1) (hB : w.heap.size ≤ B) (h3 : b3 < B) (h4 : b4 < B) (h7 : d1 < B) (h8 : d2 < B) : TuS w b3 b4 d1 d2 f g w1 :=
  ⟨h.below.trans (hb.mono hB), h.s3.upto hb h3, h.s4.upto hb h4, h.s7.upto hb h7, h.s8.upto hb h8⟩

set_option maxHeartbeats 1000000 in
theorem LanesTurn_any (f g : Nat → Nat) (hf : ∀ i, f i < 18446744073709551616) (hg : ∀ i, g i < 18446744073709551616) (p q : Nat) (hp : p < 256) (hq : q < 256) (w : World) :
    Calls Try.prog 5 #[.agg (sqA f), .agg (sqA g), .agg #[.int .u8 (p : Nat), .int .u8 (q : Nat)]] w fun e w' => e = .returned (.bool true) ∧ Below w.heap.size w w' := by
  have hF := Lib.hid hf
  have hG := Lib.hid hg
  clear hf hg
  have hz := (zero_of_info info_sq).1
  go_enter Try.func5, Try.ntmps5
  go_upto_region 1 with fail
  have hb3 := Lib.hid (((Blk.new w f).old (.cells (sqA g) 23)).old (.cells #[.int .u8 (p : Nat), .int .u8 (q : Nat)] 51))
  have hq4 := (Blk.new (w.alloc (.cells (sqA f) 23)) g).old (.cells #[.int .u8 (p : Nat), .int .u8 (q : Nat)] 51)
  rw [show (w.alloc (.cells (sqA f) 23)).heap.size = w.heap.size + 1 by simp] at hq4
  have hb4 := Lib.hid hq4
  clear hq4
  have hB := Lib.hid ((((Below.refl w.heap.size w).alloc (Nat.le_refl _) (.cells (sqA f) 23)).alloc (by simp) (.cells (sqA g) 23)).alloc (by simp; omega) (.cells #[.int .u8 (p : Nat), .int .u8 (q : Nat)] 51))
  have c0 : (((w.alloc (.cells (sqA f) 23)).alloc (.cells (sqA g) 23)).alloc (.cells #[.int .u8 (p : Nat), .int .u8 (q : Nat)] 51)).cell? ⟨w.heap.size + 1 + 1, 0, none⟩ = some (.int .u8 (p : Nat)) := by simp [go_sem]
  have c1 : (((w.alloc (.cells (sqA f) 23)).alloc (.cells (sqA g) 23)).alloc (.cells #[.int .u8 (p : Nat), .int .u8 (q : Nat)] 51)).cell? ⟨w.heap.size + 1 + 1, 1, none⟩ = some (.int .u8 (q : Nat)) := by simp [go_sem]
  have hsz : (((w.alloc (.cells (sqA f) 23)).alloc (.cells (sqA g) 23)).alloc (.cells #[.int .u8 (p : Nat), .int .u8 (q : Nat)] 51)).heap.size = w.heap.size + 3 := by simp
  generalize (((w.alloc (.cells (sqA f) 23)).alloc (.cells (sqA g) 23)).alloc (.cells #[.int .u8 (p : Nat), .int .u8 (q : Nat)] 51)) = w1 at *
  refine two_turns hF.out hG.out hb3.out hb4.out 3 4 17 18 19 20 7 8 _ _ _ _ _ _ _ _ _ _ _ _ _ _ _ _ _ _ _ _ _ _ _ _ _ _ rfl rfl (by decide) (by decide) (by decide) (by intro t ht; simp only [List.mem_cons, List.not_mem_nil, or_false] at ht; rcases ht with rfl | rfl | rfl | rfl | rfl | rfl <;> simp) (by kernel_rfl) (by kernel_rfl) (by kernel_rfl) (by kernel_rfl) (by kernel_rfl) (by kernel_rfl) (by kernel_rfl) ?_
  intro w2 d1 d2 hB2 hd1 hd2 hne hb7 hb8
  have hB2' := Lib.hid (nextw hB.out hB2)
  have hb3' := Lib.hid (hb3.out.step hB2)
  have hb4' := Lib.hid (hb4.out.step hB2)
  have c0' := stepc hB2 (by omega) c0
  have c1' := stepc hB2 (by omega) c1
  clear hB hb3 hb4 c0 c1
  simp only [Act.put, List.setIfInBounds_toArray, List.set_cons_succ, List.set_cons_zero]
  go_upto_region 2 with fail
  go_quiet (fail)
  rw [show ((p : Int) % 64) = ((p % 64 : Nat) : Int) by omega, show ((q : Int) % 64) = ((q % 64 : Nat) : Int) by omega]
  obtain ⟨i, hpi⟩ : ∃ i, i = p % 64 := ⟨_, rfl⟩
  obtain ⟨j, hqj⟩ : ∃ j, j = q % 64 := ⟨_, rfl⟩
  have hi : i < 64 := by omega
  have hj : j < 64 := by omega
  rw [← hpi, ← hqj]
  clear hpi hqj c0' c1'
  have hl7 := hb7.lt
  have hl8 := hb8.lt
  have hS : Hid (TuS w w.heap.size (w.heap.size + 1) d1 d2 f g (((w2.drewN nq).alloc (.cells (sqA (fun _ => 0)) 23)).alloc (.cells (sqA (fun _ => 0)) 23))) :=
    Lib.hid ((⟨hB2'.out, hb3'.out, hb4'.out, hb7, hb8⟩ : TuS w w.heap.size (w.heap.size + 1) d1 d2 f g w2).step ((((below_drewN w2 nq)).alloc (by simp) _).alloc (by simp) _))
  have he1 : Hid (Blk (((w2.drewN nq).alloc (.cells (sqA (fun _ => 0)) 23)).alloc (.cells (sqA (fun _ => 0)) 23)) w2.heap.size (part (fun k => f k &&& g k) 0)) := Lib.hid (by
    rw [part_none]; have h := (Blk.new (w2.drewN nq) (fun _ => 0)).old (.cells (sqA (fun _ => 0)) 23); simpa using h)
  have he2 : Hid (Blk (((w2.drewN nq).alloc (.cells (sqA (fun _ => 0)) 23)).alloc (.cells (sqA (fun _ => 0)) 23)) (w2.heap.size + 1) (part (fun k => 18446744073709551615 - f k) 0)) := Lib.hid (by
    rw [part_none]; have h := Blk.new ((w2.drewN nq).alloc (.cells (sqA (fun _ => 0)) 23)) (fun _ => 0); simpa using h)
  have hs2 := hB2'.out.size
  have hBx := hB2.size
  rw [hsz] at hBx
  clear hB2' hb3' hb4' hb7 hb8 hB2
  have hd1n : d1 ≠ w.heap.size ∧ d1 ≠ w.heap.size + 1 := by omega
  have hd2n : d2 ≠ w.heap.size ∧ d2 ≠ w.heap.size + 1 := by omega
  obtain ⟨e1, hE⟩ : ∃ e1, e1 = w2.heap.size := ⟨_, rfl⟩
  go_upto_region 4 with fail
  rw [← hE] at he1 he2 hl7 hl8 hBx hs2 ⊢
  generalize ((w2.drewN nq).alloc (.cells (sqA (fun _ => 0)) 23)).alloc (.cells (sqA (fun _ => 0)) 23) = w5 at *
  clear hE w2 hd1 hd2 hsz w1
  go_wp2
  go_loopw [29] (fun s wr => ∃ k : Nat, k ≤ 64 ∧ s = .int .i64 k ∧ Hid (TuS w w.heap.size (w.heap.size + 1) d1 d2 f g wr) ∧ Hid (Blk wr e1 (part (fun k => f k &&& g k) k)) ∧ Hid (Blk wr (e1 + 1) (part (fun k => 18446744073709551615 - f k) k))) (fun s _ => 64 - (intOf s).toNat)
  case atStart => exact ⟨0, by omega, rfl, hS, he1, he2⟩
  case round =>
    clear hS he1 he2
    obtain ⟨k, hk, rfl, hS, he1, he2⟩ := hrel
    by_cases hlt : k < 64
    · -- @slow
      have hk64 : (k : Int) < 64 := by omega
      have cx := hS.out.s3.cell hlt
      have cy := hS.out.s4.cell hlt
      have ce1 := he1.out.cell hlt
      have ce2 := he2.out.cell hlt
      generalize part (fun k => f k &&& g k) k k = v1 at ce1
      generalize part (fun k => 18446744073709551615 - f k) k k = v2 at ce2
      have fx := he1.out.thaw k
      have fy := he2.out.thaw k
      have hxb := hF.out k
      have hyb := hG.out k
      have hwx := Lib.hid (and64n hxb hyb)
      have hnx : Hid (Blk (wr.setCell ⟨e1, k, none⟩ (.int .u64 ((f k &&& g k : Nat) : Int))) e1 (part (fun k => f k &&& g k) (k + 1))) := Lib.hid (he1.out.grow hlt)
      have hnx2 : Hid (Blk (wr.setCell ⟨e1, k, none⟩ (.int .u64 ((f k &&& g k : Nat) : Int))) (e1 + 1) (part (fun k => 18446744073709551615 - f k) k)) := Lib.hid (he2.out.other (show e1 + 1 ≠ e1 by omega) _)
      have hnx3 : Hid (Blk ((wr.setCell ⟨e1, k, none⟩ (.int .u64 ((f k &&& g k : Nat) : Int))).setCell ⟨e1 + 1, k, none⟩ (.int .u64 ((18446744073709551615 - f k : Nat) : Int))) (e1 + 1) (part (fun k => 18446744073709551615 - f k) (k + 1))) := Lib.hid (hnx2.out.grow hlt)
      have hny : Hid (Blk ((wr.setCell ⟨e1, k, none⟩ (.int .u64 ((f k &&& g k : Nat) : Int))).setCell ⟨e1 + 1, k, none⟩ (.int .u64 ((18446744073709551615 - f k : Nat) : Int))) e1 (part (fun k => f k &&& g k) (k + 1))) := Lib.hid (hnx.out.other (show e1 ≠ e1 + 1 by omega) _)
      have hwn := Lib.hid (not_walk hxb)
      clear hnx hnx2
      generalize f k = x at *
      generalize g k = y at *
      have hn1 : w.heap.size ≠ e1 := by omega
      have hn2 : w.heap.size ≠ e1 + 1 := by omega
      have hn3 : w.heap.size + 1 ≠ e1 := by omega
      have hn4 : w.heap.size + 1 ≠ e1 + 1 := by omega
      have k1 : ∀ v, (wr.setCell ⟨e1, k, none⟩ v).drew.cell? ⟨w.heap.size, k, none⟩ = some (.int .u64 (x : Nat)) := fun v => (cell_set_blk wr v hn1).trans cx
      have k2 : ∀ v, (wr.setCell ⟨e1, k, none⟩ v).drew.cell? ⟨w.heap.size + 1, k, none⟩ = some (.int .u64 (y : Nat)) := fun v => (cell_set_blk wr v hn3).trans cy
      have k3 : ∀ v v', ((wr.setCell ⟨e1, k, none⟩ v).setCell ⟨e1 + 1, k, none⟩ v').drew.cell? ⟨w.heap.size, k, none⟩ = some (.int .u64 (x : Nat)) := fun v v' => (cell_set_blk _ v' hn2).trans (k1 v)
      have k4 : ∀ v v', ((wr.setCell ⟨e1, k, none⟩ v).setCell ⟨e1 + 1, k, none⟩ v').drew.cell? ⟨w.heap.size + 1, k, none⟩ = some (.int .u64 (y : Nat)) := fun v v' => (cell_set_blk _ v' hn4).trans (k2 v)
      go_upto_region 7 with fail
      go_region_held3 (fun w' => w'.cell? ⟨w.heap.size, k, none⟩ = some (.int .u64 (x : Nat)) ∧ w'.cell? ⟨w.heap.size + 1, k, none⟩ = some (.int .u64 (y : Nat))) (go_keep) (fail)
      rw [hwx.out, hwn.out]
      have hS2 := Lib.hid (hS.out.upto ((((Below.refl e1 wr).setCell (p := ⟨e1, k, none⟩) (Nat.le_refl _) (.int .u64 ((x &&& y : Nat) : Int))).setCell (p := ⟨e1 + 1, k, none⟩) (Nat.le_succ _) (.int .u64 ((18446744073709551615 - x : Nat) : Int))).drew) (by omega) (by omega) (by omega) hl7 hl8)
      have hE1 := Lib.hid hny.out.drew
      have hE2 := Lib.hid hnx3.out.drew
      clear hny hnx3 k1 k2 k3 k4 cx cy ce1 ce2 fx fy hwx hwn hS he1 he2
      generalize ((wr.setCell ⟨e1, k, none⟩ (.int .u64 ((x &&& y : Nat) : Int))).setCell ⟨e1 + 1, k, none⟩ (.int .u64 ((18446744073709551615 - x : Nat) : Int))).drew = w6 at *
      generalize ((x &&& y : Nat) : Int) = z1
      generalize ((18446744073709551615 - x : Nat) : Int) = z2
      go_wp2
      exact ⟨⟨k + 1, by omega, by go_num, hS2, hE1, hE2⟩, by simp [intOf]; omega⟩
      -- @end
    · obtain rfl : k = 64 := by omega
      have hA := Lib.hid he1.out.full
      have hO := Lib.hid he2.out.full
      have hFA : Hid (∀ i, (fun k => f k &&& g k) i < 18446744073709551616) := Lib.hid (fun i => lt_and (hG.out i))
      have hFN : Hid (∀ i, (fun k => 18446744073709551615 - f k) i < 18446744073709551616) := Lib.hid (fun i => Nat.lt_of_le_of_lt (Nat.sub_le _ _) (by decide))
      clear he1 he2
      go_upto_region 9 with fail
      refine two_turns hFA.out hFN.out hA.out hO.out 11 12 48 49 50 51 14 15 _ _ _ _ _ _ _ _ _ _ _ _ _ _ _ _ _ _ _ _ _ _ _ _ _ _ rfl rfl (by decide) (by decide) (by decide) (by intro t ht; simp only [List.mem_cons, List.not_mem_nil, or_false] at ht; rcases ht with rfl | rfl | rfl | rfl | rfl | rfl <;> simp) (by kernel_rfl) (by kernel_rfl) (by kernel_rfl) (by kernel_rfl) (by kernel_rfl) (by kernel_rfl) (by kernel_rfl) ?_
      intro w7 x1 x2 hB7 hx1 hx2 hxn hb14 hb15
      have hS7 := Lib.hid (hS.out.step hB7)
      have hb14 := Lib.hid hb14
      have hb15 := Lib.hid hb15
      clear hS hA hO hFA hFN hB7
      simp only [Act.put, List.setIfInBounds_toArray, List.set_cons_succ, List.set_cons_zero]
      have hTA := Lib.hid (fun (i : Nat) (h : i < 64) => turn_and hF.out hG.out h)
      have hTN := Lib.hid (fun (i : Nat) (h : i < 64) => turn_not hF.out h)
      generalize turn (fun k => f k &&& g k) = TA at *
      generalize turn (fun k => 18446744073709551615 - f k) = TN at *
      go_wp2
      go_loopw [52] (fun s wr => ∃ k : Nat, k ≤ 64 ∧ s = .int .i64 k ∧ Hid (TuS w w.heap.size (w.heap.size + 1) d1 d2 f g wr) ∧ Hid (Blk wr x1 TA) ∧ Hid (Blk wr x2 TN)) (fun s _ => 64 - (intOf s).toNat)
      case atStart => exact ⟨0, by omega, rfl, hS7, hb14, hb15⟩
      case round =>
        clear hS7 hb14 hb15
        obtain ⟨k, hk, rfl, hS, hA, hO⟩ := hrel
        by_cases hlt : k < 64
        · -- @slow
          have hk64 : (k : Int) < 64 := by omega
          have cx := hS.out.s7.cell hlt
          have cy := hS.out.s8.cell hlt
          have ca := hA.out.cell hlt
          have cn := hO.out.cell hlt
          have ta := turn_lt hF.out k
          have tb := turn_lt hG.out k
          have ea0 : ((TA k : Nat) : Int) = bits .and .u64 (turn f k : Nat) (turn g k : Nat) := by rw [and64n ta tb, hTA.out k hlt]
          have en0 : ((TN k : Nat) : Int) = bits .xor .u64 (if IntKind.u64.signed = true then -1 else IntKind.u64.max) (turn f k : Nat) := by rw [not_walk ta, hTN.out k hlt]
          generalize turn f k = x at *
          generalize turn g k = y at *
          generalize TA k = z at *
          generalize TN k = n at *
          have ea := bneq ea0
          have en := bneq en0
          clear ea0 en0
          have hSd := Lib.hid (fun q => hS.out.step (below_drewN wr q))
          have hAd := Lib.hid (fun q => hA.out.step (below_drewN wr q))
          have hOd := Lib.hid (fun q => hO.out.step (below_drewN wr q))
          go_upto_region 13 with fail
          go_quiet (fail)
          go_wp2
          exact ⟨⟨k + 1, by omega, by go_num, hSd.out _, hAd.out _, hOd.out _⟩, by simp [intOf]; omega⟩
          -- @end
        · obtain rfl : k = 64 := by omega
          have htn := fun w => turn_any (turn f) (turn_lt hF.out) w
          rw [show sqA (turn (turn f)) = sqA f from sqA_congr (fun i h => turn_turn hF.out h)] at htn
          have htn := Lib.hid htn
          have hwk := Lib.hid wakes_any
          have ci := hS.out.s7.cell hj
          have cj := hS.out.s3.cell hi
          have xi := turn_lt hF.out j
          have xj := hF.out i
          have hbit : ((turn f j : Nat) : Int) / 2 ^ i % 2 = ((f i : Nat) : Int) / 2 ^ j % 2 := by
            have := bit_shift (turn f j) i
            rw [turn_bit f hj hi, ← bit_shift] at this
            exact_mod_cast this
          clear hA hO hTA hTN
          go_upto_region 16 with fail
          have ci1 := fun q => stepc (ext_below wr q) hS.out.s7.lt ci
          have cj1 := fun q => stepc (ext_below wr q) hS.out.s3.lt cj
          have wi : bits .and .u64 (((turn f j : Nat) : Int) / 2 ^ i) 1 = ((turn f j : Nat) : Int) / 2 ^ i % 2 := by
            rw [show ((turn f j : Nat) : Int) / 2 ^ i = ((turn f j / 2 ^ i : Nat) : Int) by rw [Int.natCast_ediv, Int.natCast_pow]; rfl]
            exact Num.one64 (Int.natCast_nonneg _) (Int.ofNat_lt.2 (lt_div _ xi))
          have wj : bits .and .u64 (((f i : Nat) : Int) / 2 ^ j) 1 = ((f i : Nat) : Int) / 2 ^ j % 2 := by
            rw [show ((f i : Nat) : Int) / 2 ^ j = ((f i / 2 ^ j : Nat) : Int) by rw [Int.natCast_ediv, Int.natCast_pow]; rfl]
            exact Num.one64 (Int.natCast_nonneg _) (Int.ofNat_lt.2 (lt_div _ xj))
          rw [← wi, ← wj] at hbit
          have hbit := beq_iff_eq.2 hbit
          clear wi wj
          have hi64 : (i : Int) < 64 := by omega
          have hj64 : (j : Int) < 64 := by omega
          generalize turn f j = x at *
          generalize f i = y at *
          clear ci cj
          have h7 := hS.out.s7
          have h3 := hS.out.s3
          (refine wp_region_ext (by kernel_rfl) (by kernel_rfl) ?_; (try simp only [List.append_eq, List.cons_append, List.nil_append]); (repeat (first | go_big_quiet_skip | (go_big_quiet_want; first | (first | (refine quiet_sq h7 _ rfl rfl ?_; go_big_quiet_on; simp only [Act.put, List.setIfInBounds_toArray, List.set_cons_succ, List.set_cons_zero]) | (refine quiet_sq h3 _ rfl rfl ?_; go_big_quiet_on; simp only [Act.put, List.setIfInBounds_toArray, List.set_cons_succ, List.set_cons_zero]) | (refine quiet_sq_eql (f := f) _ _ _ rfl rfl rfl ?_; go_big_quiet_on; simp only [Act.put, List.setIfInBounds_toArray, List.set_cons_succ, List.set_cons_zero])) | (go_big_quiet_op; first | go_big_quiet_on | go_big_quiet_call (first | (go_at_call 9; exact Calls.ext_of (htn.out _)) | (go_at_call 11; exact Calls.ext_of (hwk.out _))))))); refine wpQuiet_nil ?_; intro w2 hw'; have hb2 := below_of_ext hw'; clear hw')
          go_wp2
          go_ret
          exact ⟨rfl, (hS.out.step hb2).below⟩
end Go.Proofs.Ytgbhhmmllbanlaa
