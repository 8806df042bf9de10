/-
  The walk over 'LanesApart'.
-/
import Derived.Test.YtgbhhmmllbanlaaWow
import Derived.Deep.RegionHeld3
namespace Go.Proofs.Ytgbhhmmllbanlaa
open Go.RowKit
set_option maxRecDepth 100000

theorem mask_eq {n : Nat} (h1 : 1 ≤ n) (h2 : n ≤ 64) : (18446744073709551615 : Int) / 2 ^ (64 - n) = ((2 ^ n - 1 : Nat) : Int) := by
  have e : (2 : Nat) ^ 64 = 2 ^ n * 2 ^ (64 - n) := by rw [← Nat.pow_add]; congr 1; omega
  have hp : 0 < 2 ^ (64 - n) := Nat.pow_pos (by decide)
  have hn : 0 < 2 ^ n := Nat.pow_pos (by decide)
  have h : 18446744073709551615 / 2 ^ (64 - n) = 2 ^ n - 1 := by
    rw [Nat.div_eq_iff hp]
    have e2 : (2 ^ n - 1) * 2 ^ (64 - n) = 2 ^ n * 2 ^ (64 - n) - 2 ^ (64 - n) := by rw [Nat.sub_mul, Nat.one_mul]
    have e3 : (18446744073709551616 : Nat) = 2 ^ n * 2 ^ (64 - n) := e
    omega
  rw [← h, Int.natCast_ediv, Int.natCast_pow]; rfl
theorem mask_and {n x : Nat} : x &&& (2 ^ n - 1) = x % 2 ^ n := Nat.and_two_pow_sub_one_eq_mod x n
theorem mask_lt {n : Nat} (h2 : n ≤ 64) : 2 ^ n - 1 < 18446744073709551616 := by
  have : 2 ^ n ≤ 2 ^ 64 := Nat.pow_le_pow_right (by decide) h2
  omega
theorem andNot_xor {a b : Nat} (ha : a < 18446744073709551616) (hb : b < 18446744073709551616) : bits .or .u64 (bits .andNot .u64 (a : Int) (b : Int)) (bits .andNot .u64 (b : Int) (a : Int)) = ((a ^^^ b : Nat) : Int) := by
  have h1 : a &&& (18446744073709551615 - b) < 18446744073709551616 := lt_and (sub_lt64 b)
  have h2 : b &&& (18446744073709551615 - a) < 18446744073709551616 := lt_and (sub_lt64 a)
  rw [andNot64n ha hb, andNot64n hb ha, or64n h1 h2]
  congr 1
  refine word_ext (Nat.or_lt_two_pow (n := 64) h1 h2) (lt_xor ha hb) (fun j hj => ?_)
  rw [Nat.testBit_or, Nat.testBit_and, Nat.testBit_and, testBit_not ha hj, testBit_not hb hj, Nat.testBit_xor]
  cases a.testBit j <;> cases b.testBit j <;> rfl
/-- What each lane has, where lanes are put together bit by bit. -/
theorem apart_word {n k : Nat} {F G : Nat → Nat} (hn : n ≤ 64) (hk : k ≤ 64) (hF : ∀ i, i < k → F i < 2 ^ n) (hG : ∀ i, i < k → G i < 2 ^ n) {i : Nat} (hi : i < k) :
    turn (cutAt n (fun t => turn (cutAt k F) t ^^^ turn (cutAt k G) t)) i = F i ^^^ G i := by
  have h64 : ∀ x, x < 2 ^ n → x < 18446744073709551616 := fun x h => Nat.lt_of_lt_of_le h (le64' hn)
  have hA := turn_lt (cut64 hn hF)
  have hB := turn_lt (cut64 hn hG)
  refine word_ext (turn_lt (fun t => cutAt_lt (n := n) (fun t _ => lt_xor (hA t) (hB t)) t) i) (lt_xor (h64 _ (hF i hi)) (h64 _ (hG i hi))) (fun j hj => ?_)
  rw [turn_bit _ (by omega) hj, cutAt_bit, Nat.testBit_xor, turn_bit _ hj (by omega), turn_bit _ hj (by omega), cutAt_bit, cutAt_bit, Nat.testBit_xor]
  by_cases hjn : j < n
  · simp [hjn, hi]
  · rw [bit_small (hF i hi) (by omega), bit_small (hG i hi) (by omega)]; simp
set_option maxHeartbeats 1000000 in
theorem LanesApart_any {w : World} {a1 a2 : Option Addr} {n1 c1 n2 c2 : Nat} {f g : Nat → Nat} (p : Nat) (hp : p < 256) (hf : ∀ i, f i < 18446744073709551616) (hg : ∀ i, g i < 18446744073709551616) (h1 : WRow w a1 n1 f) (h2 : WRow w a2 n2 g) (hc1 : n1 ≤ c1) (hc2 : n2 ≤ c2) (hm1 : c1 ≤ 9223372036854775807) (hm2 : c2 ≤ 9223372036854775807) :
    Calls Try.prog 7 #[.int .u8 (p : Nat), .slice a1 n1 c1, .slice a2 n2 c2] w fun e w' => e = .returned (.bool true) ∧ Below w.heap.size w w' := by
  go_enter Try.func7, Try.ntmps7
  go_upto_region 4 with fail
  rw [show (1 + (p : Int) % 64) = ((1 + p % 64 : Nat) : Int) by omega, mask_eq (n := 1 + p % 64) (by omega) (by omega)]
  rw [show (if (64 : Int) < if n2 < n1 then (n2 : Int) else n1 then (64 : Int) else if n2 < n1 then (n2 : Int) else n1) = ((min (min n1 n2) 64 : Nat) : Int) by split <;> split at * <;> omega]
  obtain ⟨n, hnp⟩ : ∃ n, n = 1 + p % 64 := ⟨_, rfl⟩
  obtain ⟨k, hkk⟩ : ∃ k, k = min (min n1 n2) 64 := ⟨_, rfl⟩
  rw [← hnp, ← hkk]
  have hn1 : 1 ≤ n := by omega
  have hn64 : n ≤ 64 := by omega
  have hk1 : k ≤ n1 := by omega
  have hk2 : k ≤ n2 := by omega
  have hk64 : k ≤ 64 := by omega
  clear hnp hkk
  have hcl1 := Lib.hid (clone_any (w := w.drew) (c := c1) ((h1.step (Below.refl _ _).drew).take hk1) (by omega))
  have H2 := Lib.hid h2
  clear h1 h2
  generalize hM : 2 ^ n - 1 = M at *
  have hkc1 : (k : Int) ≤ c1 := by omega
  have hkc2 : (k : Int) ≤ c2 := by omega
  have hk0 : (0 : Int) ≤ k := by omega
  go_region_held3 (fun _ => True) (trivial) (first
    | (go_at_call 12; (with_reducible refine hcl1.out.mono ?_); rintro e w3 ⟨x1, y1, rfl, hM1⟩; have hcl2 := Lib.hid (clone_any (w := w3) (c := c2) ((H2.out.step (nextw (Below.refl _ _).drew hM1.below)).take hk2) (by omega)))
    | (go_at_call 12; (with_reducible refine hcl2.out.mono ?_); rintro e w4 ⟨x2, y2, rfl, hM2⟩))
  have hap : Hid (0 < k → ∀ b1 o1 b2 o2, x1 = some ⟨b1, o1, none⟩ → x2 = some ⟨b2, o2, none⟩ → b1 ≠ b2) := Lib.hid (fun h0 b1 o1 b2 o2 e1 e2 => by
    obtain ⟨b, off, e, hb, -⟩ := (hM1.row (by omega)).at h0
    rw [e1] at e; cases e
    have := (hM2.wown (by omega)).own b2 o2 e2 h0
    omega)
  have hR1 : Hid (WOwn w4 w.heap.size x1 k (mixF f (fun i => f i &&& M) 0)) := Lib.hid (by rw [mixF_zero]; exact (hM1.wown (by omega)).step hM2.below)
  have hR2 : Hid (WOwn w4 w.heap.size x2 k (mixF g (fun i => g i &&& M) 0)) := Lib.hid (by rw [mixF_zero]; exact (hM2.wown (by omega)).low (nextw (Below.refl _ _).drew hM1.below).size)
  have hB : Hid (Below w.heap.size w w4) := Lib.hid (nextw (nextw (Below.refl _ _).drew hM1.below) hM2.below)
  have hMl : M < 18446744073709551616 := by rw [← hM]; exact mask_lt hn64
  have hFb : Hid (∀ x, x &&& M < 2 ^ n) := Lib.hid (fun x => by rw [← hM, mask_and]; exact Nat.mod_lt _ (Nat.pow_pos (by decide)))
  have hF := Lib.hid hf
  have hG := Lib.hid hg
  clear hf hg hM hM1 hM2 hcl1 hcl2 H2 hkc1 hkc2
  go_wp2
  go_loopw [42] (fun s wr => ∃ j : Nat, j ≤ k ∧ s = .int .i64 (j : Nat) ∧ Hid (WOwn wr w.heap.size x1 k (mixF f (fun i => f i &&& M) j)) ∧ Hid (WOwn wr w.heap.size x2 k (mixF g (fun i => g i &&& M) j)) ∧ Hid (Below w.heap.size w wr)) (fun s _ => k - (intOf s).toNat)
  case atStart => exact ⟨0, by omega, rfl, hR1, hR2, hB⟩
  case round =>
    clear hR1 hR2 hB
    obtain ⟨j, hj, rfl, hR1, hR2, hB⟩ := hrel
    by_cases hlt : j < k
    · -- @slow
      obtain ⟨b1, o1, rfl, hB1, hl1, hx1, hf1⟩ := hR1.out.at (by omega)
      obtain ⟨b2, o2, rfl, hB2, hl2, hx2, hf2⟩ := hR2.out.at (by omega)
      have hne := hap.out (by omega) _ _ _ _ rfl rfl
      have cx := hx1 j hlt
      have cy := hx2 j hlt
      have fx := hf1 j hlt
      have fy := hf2 j hlt
      rw [mixF_here] at cx cy
      have wx := and64n (hF.out j) hMl
      have wy := and64n (hG.out j) hMl
      have hS1 : Hid (WOwn ((wr.setCell ⟨b1, o1 + j, none⟩ (.int .u64 ((f j &&& M : Nat) : Int))).setCell ⟨b2, o2 + j, none⟩ (.int .u64 ((g j &&& M : Nat) : Int))) w.heap.size (some ⟨b1, o1, none⟩) k (mixF f (fun i => f i &&& M) (j + 1))) :=
        Lib.hid ((hR1.out.mix (g := fun i => f i &&& M) hlt).other _ (fun b off e => by cases e; exact hne))
      have hS2 : Hid (WOwn ((wr.setCell ⟨b1, o1 + j, none⟩ (.int .u64 ((f j &&& M : Nat) : Int))).setCell ⟨b2, o2 + j, none⟩ (.int .u64 ((g j &&& M : Nat) : Int))) w.heap.size (some ⟨b2, o2, none⟩) k (mixF g (fun i => g i &&& M) (j + 1))) :=
        Lib.hid ((hR2.out.other _ (fun b off e => by cases e; exact hne.symm)).mix (g := fun i => g i &&& M) hlt)
      have hS3 : Hid (Below w.heap.size w ((wr.setCell ⟨b1, o1 + j, none⟩ (.int .u64 ((f j &&& M : Nat) : Int))).setCell ⟨b2, o2 + j, none⟩ (.int .u64 ((g j &&& M : Nat) : Int)))) := Lib.hid ((hB.out.setCell (p := ⟨b1, o1 + j, none⟩) hB1 _).setCell (p := ⟨b2, o2 + j, none⟩) hB2 _)
      have hjk : (j : Int) < k := by omega
      clear hx1 hx2 hf1 hf2 hap hR1 hR2
      generalize ((f j &&& M : Nat) : Int) = X at *
      generalize ((g j &&& M : Nat) : Int) = Y at *
      generalize f j = xx at *
      generalize g j = yy at *
      have cy2 : ∀ v, (wr.setCell ⟨b1, o1 + j, none⟩ v).cell? ⟨b2, o2 + j, none⟩ = some (.int .u64 (yy : Nat)) := fun v => (cell_set_blk wr v hne.symm).trans cy
      have fy2 : ∀ v, (wr.setCell ⟨b1, o1 + j, none⟩ v).frozen? ⟨b2, o2 + j, none⟩ = false := fun v => (frozen_set wr _ _ _ _ v).trans fy
      go_wp2
      exact ⟨⟨j + 1, by omega, by go_num, hS1, hS2, hS3⟩, by simp [intOf]; omega⟩
      -- @end
    · obtain rfl : j = k := by omega
      clear hlt hj
      have hy1 : mayH (n : Int) j (fun i => f i &&& M) = true := mayH_iff.2 ⟨⟨hn1, hn64⟩, fun i _ => hFb.out _⟩
      have hy2 : mayH (n : Int) j (fun i => g i &&& M) = true := mayH_iff.2 ⟨⟨hn1, hn64⟩, fun i _ => hFb.out _⟩
      have hp1 := pack_yes (w := wr) (c := y1) hR1.out.mixed.row hk64 hy1
      have hp2 := fun wk (h : WRow wk x2 j (fun i => g i &&& M)) => pack_yes (w := wk) (c := y2) h hk64 hy2
      have hword : Hid (∀ i, i < j → turn (cutAt n (fun t => turn (cutAt j (fun i => f i &&& M)) t ^^^ turn (cutAt j (fun i => g i &&& M)) t)) i = (f i &&& M) ^^^ (g i &&& M)) :=
        Lib.hid (fun i hi => apart_word hn64 hk64 (fun i _ => hFb.out (f i)) (fun i _ => hFb.out (g i)) hi)
      have hAl := Lib.hid (fun i => turn_lt (cut64 (k := j) (F := fun i => f i &&& M) hn64 (fun i _ => hFb.out (f i))) i)
      have hBl := Lib.hid (fun i => turn_lt (cut64 (k := j) (F := fun i => g i &&& M) hn64 (fun i _ => hFb.out (g i))) i)
      have hV1 := Lib.hid hR1.out.mixed.row
      have hV2 := Lib.hid hR2.out.mixed.row
      have hl := Lib.hid (fun i => (⟨lt_and hMl, lt_and hMl⟩ : (f i &&& M) < 18446744073709551616 ∧ (g i &&& M) < 18446744073709551616))
      generalize turn (cutAt j (fun i => f i &&& M)) = A at *
      generalize turn (cutAt j (fun i => g i &&& M)) = B at *
      generalize hFF : (fun i => f i &&& M) = F at *
      generalize hGG : (fun i => g i &&& M) = G at *
      have hwd : Hid (∀ i, i < j → turn (cutAt n (fun t => A t ^^^ B t)) i = F i ^^^ G i) := Lib.hid (fun i hi => by rw [← hFF, ← hGG]; exact hword.out i hi)
      have hl2 : Hid (∀ i, F i < 18446744073709551616 ∧ G i < 18446744073709551616) := Lib.hid (fun i => by rw [← hFF, ← hGG]; exact hl.out i)
      have hp1 := Lib.hid hp1
      have hp2 := Lib.hid hp2
      have hwk := Lib.hid wakes_any
      obtain ⟨i0, hi, hz0, hz1, hz2⟩ := info_parts info_u64
      have hnn := bneq (a := (n : Int)) (b := n) rfl
      have hn0 : ¬ (n : Int) < 0 := by omega
      clear hy1 hy2 hR1 hR2 hap hword hl hFF hGG hF hG hFb
      go_upto_region 16 with (first
        | (go_at_call 13; (with_reducible refine hp1.out.mono ?_); rintro e w5 ⟨pa, ca, rfl, hM5⟩; have hO5 := Lib.hid (hM5.row (by omega)); have hV15 := Lib.hid (hV1.out.step hM5.below); have hV25 := Lib.hid (hV2.out.step hM5.below); have hB5 := Lib.hid (nextw hB.out hM5.below); clear hM5 hV1 hV2 hB hp1)
        | (go_at_call 13; (with_reducible refine (hp2.out _ hV25.out).mono ?_); rintro e w6 ⟨pb, cb, rfl, hM6⟩; have hO6 := Lib.hid (hO5.out.step hM6.below); have hQ6 := Lib.hid (hM6.row (by omega)); have hV16 := Lib.hid (hV15.out.step hM6.below); have hV26 := Lib.hid (hV25.out.step hM6.below); have hB6 := Lib.hid (nextw hB5.out hM6.below); clear hM6 hV15 hV25 hB5 hO5 hp2)
        | (go_at_call 11; (with_reducible refine (hwk.out _).mono ?_); rintro e w7 ⟨rfl, hn7⟩; have hO7 := Lib.hid (hO6.out.step hn7); have hQ7 := Lib.hid (hQ6.out.step hn7); have hV17 := Lib.hid (hV16.out.step hn7); have hV27 := Lib.hid (hV26.out.step hn7); have hB7 := Lib.hid (nextw hB6.out hn7); clear hn7 hO6 hQ6 hV16 hV26 hB6)
        | (at_make; refine wpList_make_full _ rfl _ _ 27 rfl w7.heap.size 22 i0 (.int .u64 0) 1 Try.underlying27 hi hz0 hz1 .i64 .i64 n n n rfl rfl rfl rfl (by rw [hz2]; omega) (by unfold maxLen; omega) (Nat.le_refl _) ?_; intro w8 hown hg))
      have hg8 := (Below.refl w7.heap.size w7).grown hg (Nat.le_refl _) (fun _ h => (by cases h))
      have hC : Hid (WOwn w8 w7.heap.size (some ⟨w7.heap.size, 0, none⟩) n (mixF (fun _ => 0) (fun t => A t ^^^ B t) 0)) := Lib.hid (by
        rw [mixF_zero]; rw [wl_made] at hown; exact WOwn.of_own hown (by omega))
      have hB8 := Lib.hid hg8
      clear hg8 hown hg hwk hi hz0 hz1 hz2 i0
      go_wp2
      go_loopw [98] (fun s wr => ∃ t : Nat, t ≤ n ∧ s = .int .i64 (t : Nat) ∧ Hid (WOwn wr w7.heap.size (some ⟨w7.heap.size, 0, none⟩) n (mixF (fun _ => 0) (fun t => A t ^^^ B t) t)) ∧ Hid (Below w7.heap.size w7 wr)) (fun s _ => n - (intOf s).toNat)
      case atStart => exact ⟨0, by omega, rfl, hC, hB8⟩
      case round =>
        clear hC hB8
        obtain ⟨t, ht, rfl, hC, hB8⟩ := hrel
        by_cases hlt : t < n
        · -- @slow
          obtain ⟨ba, oa, rfl, hla, hca⟩ := (hO7.out.step hB8.out).at (by omega)
          obtain ⟨bb, ob, rfl, hlb, hcb⟩ := (hQ7.out.step hB8.out).at (by omega)
          obtain ⟨bc, oc, ec, -, hlc, hcc, hfc⟩ := hC.out.at (by omega)
          cases ec
          have ca1 := hca t hlt
          have cb1 := hcb t hlt
          have cc1 := hcc t hlt
          have fc1 := hfc t hlt
          rw [mixF_here] at cc1
          rw [Nat.zero_add] at cc1 fc1
          have hset := Lib.hid (hC.out.mix (g := fun t => A t ^^^ B t) hlt)
          rw [Nat.zero_add] at hset
          have hwx := Lib.hid (andNot_xor (hAl.out t) (hBl.out t))
          have htn : (t : Int) < n := by omega
          clear hca hcb hcc hfc hwd hl2 hAl hBl hC
          generalize ((A t ^^^ B t : Nat) : Int) = Z at *
          generalize A t = xx at *
          generalize B t = yy at *
          go_upto_region 19 with fail
          go_still_tail 22, (by kernel_rfl)
          change wpList _ _ _ _ _ wr.drew
          rw [hwx.out]
          have fc1 : wr.drew.frozen? ⟨w7.heap.size, t, none⟩ = false := fc1
          have cc1 : wr.drew.cell? ⟨w7.heap.size, t, none⟩ = some (.int .u64 0) := cc1
          go_wp2
          exact ⟨⟨t + 1, by omega, by go_num, Lib.hid hset.out.drew, Lib.hid (hB8.out.setCell (p := ⟨w7.heap.size, t, none⟩) (Nat.le_refl _) _).drew⟩, by simp [intOf]; omega⟩
          -- @end
        · obtain rfl : t = n := by omega
          have hun := unpack_any (c := t) hC.out.mixed.row (fun _ i _ => lt_xor (hAl.out i) (hBl.out i))
          rw [if_pos ⟨hn1, hn64⟩] at hun
          have hV1 := Lib.hid (hV17.out.step hB8.out)
          have hV2 := Lib.hid (hV27.out.step hB8.out)
          have hB := Lib.hid (nextw hB7.out hB8.out)
          generalize turn (cutAt t (fun t => A t ^^^ B t)) = T at *
          have hun := Lib.hid hun
          clear hC hAl hBl hO7 hQ7 hV17 hV27 hB7 hB8
          have hz := (zero_of_info info_sq).1
          go_upto_region 22 with (first
            | (go_at_call 15; (with_reducible refine hun.out.mono ?_); rintro e w9 ⟨rfl, hn9⟩; have hb9 := Lib.hid (Blk.new w9 (fun _ => 0)); have hV19 := Lib.hid (hV1.out.step hn9); have hV29 := Lib.hid (hV2.out.step hn9); have hB9 := Lib.hid (nextw hB.out hn9); clear hn9 hV1 hV2 hB hun)
            | (refine hb9.out.wstore rfl _ _ rfl rfl rfl ?_))
          have hn10 := ((Below.refl w9.heap.size w9).alloc (Nat.le_refl _) (.cells (sqA (fun _ => 0)) 23)).trans (below_setRow (Nat.le_refl _) (sqA T))
          have hT := Lib.hid (hb9.out.put T)
          have hV1 := Lib.hid (hV19.out.step hn10)
          have hV2 := Lib.hid (hV29.out.step hn10)
          have hB := Lib.hid (nextw hB9.out hn10)
          clear hb9 hV19 hV29 hB9 hn10 hz
          generalize (w9.alloc (.cells (sqA (fun _ => 0)) 23)).setRow w9.heap.size (sqA T) = w10 at *
          generalize w9.heap.size = b9 at *
          go_wp2
          go_loopw [131] (fun s wr => ∃ i : Nat, i ≤ j ∧ s = .int .i64 (i : Nat) ∧ Hid (Blk wr b9 T) ∧ Hid (WRow wr x1 j F) ∧ Hid (WRow wr x2 j G) ∧ Hid (Below w.heap.size w wr)) (fun s _ => j - (intOf s).toNat)
          case atStart => exact ⟨0, by omega, rfl, hT, hV1, hV2, hB⟩
          case round =>
            clear hT hV1 hV2 hB
            obtain ⟨i, hi, rfl, hT, hV1, hV2, hB⟩ := hrel
            by_cases hlt : i < j
            · have hTd := Lib.hid (fun q => hT.out.step (below_drewN wr q))
              have hV1d := Lib.hid (fun q => hV1.out.step (below_drewN wr q))
              have hV2d := Lib.hid (fun q => hV2.out.step (below_drewN wr q))
              have hBd := Lib.hid (fun q => nextw hB.out (below_drewN wr q))
              obtain ⟨b1, o1, rfl, hl1, hx1⟩ := hV1.out.at (by omega)
              obtain ⟨b2, o2, rfl, hl2', hx2⟩ := hV2.out.at (by omega)
              have cx := hx1 i hlt
              have cy := hx2 i hlt
              have ct := hT.out.cell (i := i) (by omega)
              have e0 : ((T i : Nat) : Int) = bits .xor .u64 (F i : Nat) (G i : Nat) := by rw [xor64n (hl2.out i).1 (hl2.out i).2, hwd.out i hlt]
              have e1 := bneq e0
              have hij : (i : Int) < j := by omega
              have hi64 : (i : Int) < 64 := by omega
              clear hx1 hx2 e0 hwd hl2 hT hV1 hV2 hB
              generalize T i = tt at *
              generalize F i = xx at *
              generalize G i = yy at *
              go_upto_region 25 with fail
              go_quiet (fail)
              go_wp2
              exact ⟨⟨i + 1, by omega, by go_num, hTd.out _, hV1d.out _, hV2d.out _, hBd.out _⟩, by simp [intOf]; omega⟩
            · obtain rfl : i = j := by omega
              go_wp2
              go_ret
              exact ⟨rfl, hB.out⟩
end Go.Proofs.Ytgbhhmmllbanlaa
