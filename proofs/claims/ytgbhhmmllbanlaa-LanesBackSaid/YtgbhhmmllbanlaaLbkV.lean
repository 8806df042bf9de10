/-
  The walk over 'LanesBack'.
-/
import Derived.Test.YtgbhhmmllbanlaaLapV
import Derived.Test.YtgbhhmmllbanlaaRlB
namespace Go.Proofs.Ytgbhhmmllbanlaa
open Go.RowKit
set_option maxRecDepth 100000

/-- Words packed, read back. -/
theorem back_word {n k : Nat} {F : Nat → Nat} (hn : n ≤ 64) (hF : ∀ i, i < k → F i < 2 ^ n) {i : Nat} (hi : i < 64) : turn (cutAt n (turn (cutAt k F))) i = cutAt k F i := by
  have hA := turn_lt (cut64 hn hF)
  refine word_ext (turn_lt (fun t => cutAt_lt (n := n) (fun t _ => hA t) t) i) (cut64 hn hF i) (fun j hj => ?_)
  rw [turn_bit _ hi hj, cutAt_bit, turn_bit _ hj hi]
  by_cases hjn : j < n
  · simp [hjn]
  · have : (cutAt k F i).testBit j = false := by
      rw [cutAt_bit]
      by_cases hik : i < k
      · rw [bit_small (hF i hik) (by omega)]; simp
      · simp [hik]
    rw [this]; simp
/-- What a lane has. -/
theorem lane_word {n k : Nat} {F : Nat → Nat} (hn : n ≤ 64) (hF : ∀ i, i < k → F i < 2 ^ n) {i : Nat} (hi : i < 64) : laneN (turn (cutAt k F)) i n = cutAt k F i := by
  refine word_ext (Nat.lt_of_lt_of_le (laneN_lt _ i n) (le64' hn)) (cut64 hn hF i) (fun j hj => ?_)
  rw [laneN_bit, turn_bit _ hj hi]
  by_cases hjn : j < n
  · simp [hjn]
  · have : (cutAt k F i).testBit j = false := by
      rw [cutAt_bit]
      by_cases hik : i < k
      · rw [bit_small (hF i hik) (by omega)]; simp
      · simp [hik]
    rw [this]; simp
/-- Lanes read, and packed again. -/
theorem again_word {n : Nat} {A : Nat → Nat} (hn : n ≤ 64) (hA : ∀ i, i < n → A i < 18446744073709551616) {i : Nat} (hi : i < n) : turn (cutAt 64 (turn (cutAt n A))) i = A i := by
  have hT := turn_lt (cutAt_lt (n := n) (f := A) hA)
  refine word_ext (turn_lt (fun t => cutAt_lt (n := 64) (fun t _ => hT t) t) i) (hA i hi) (fun j hj => ?_)
  rw [turn_bit _ (by omega) hj, cutAt_bit, turn_bit _ hj (by omega), cutAt_bit]
  simp [hj, hi]
/-- A lane set. -/
theorem set_word {n l x : Nat} {A : Nat → Nat} (hn : n ≤ 64) (hl : l < 64) (hx : x < 2 ^ n) (hA : ∀ i, i < n → A i < 18446744073709551616) {i : Nat} (hi : i < 64) :
    turn (cutAt n (setN A l x)) i = if i = l then x else turn (cutAt n A) i := by
  have hs : ∀ t, setN A l x t < 18446744073709551616 := fun t => setN_lt hl
  have hT := turn_lt (cutAt_lt (n := n) (f := A) hA)
  have hx64 : x < 18446744073709551616 := Nat.lt_of_lt_of_le hx (le64' hn)
  refine word_ext (turn_lt (fun t => cutAt_lt (n := n) (fun t _ => hs t) t) i) (by split; exact hx64; exact hT i) (fun j hj => ?_)
  rw [turn_bit _ hi hj, cutAt_bit]
  have hb : (setN A l x j).testBit i = if i = l then decide (x / 2 ^ j % 2 = 1) else (A j).testBit i := setW_bit (Nat.mod_lt _ (by decide)) hl hi
  rw [hb]
  by_cases e : i = l
  · rw [if_pos e, if_pos e]
    have : decide (x / 2 ^ j % 2 = 1) = x.testBit j := (Nat.testBit_eq_decide_div_mod_eq).symm
    rw [this]
    by_cases hjn : j < n
    · simp [hjn]
    · rw [bit_small hx (by omega)]; simp
  · rw [if_neg e, if_neg e, turn_bit _ hi hj, cutAt_bit]

theorem wrapN (P : Int) : ∃ p : Nat, p < 18446744073709551616 ∧ IntKind.u64.wrap P = p := by
  refine ⟨(P % 18446744073709551616).toNat, by omega, ?_⟩
  rw [Num.w64]; omega
theorem width_walk {p : Nat} {P : Int} (h : IntKind.u64.wrap P = p) : wrap64 (1 + wrap64 ((IntKind.u64.wrap P).tmod 64)) = ((1 + p % 64 : Nat) : Int) := by
  have e : Int.tmod (p : Int) 64 = ((p % 64 : Nat) : Int) := rfl
  rw [h, e]
  unfold wrap64
  omega
set_option maxHeartbeats 1000000 in
theorem LanesBack_any {w : World} {a1 : Option Addr} {n1 c1 : Nat} {f : Nat → Nat} (P L : Int) (hP : -9223372036854775808 ≤ P ∧ P ≤ 9223372036854775807) (hL : -9223372036854775808 ≤ L ∧ L ≤ 9223372036854775807) (v : Nat) (hv : v < 18446744073709551616) (hf : ∀ i, f i < 18446744073709551616) (h1 : WRow w a1 n1 f) (hc1 : n1 ≤ c1) (hm1 : c1 ≤ 9223372036854775807) :
    Calls Try.prog 6 #[.agg #[.int .i64 P, .int .i64 L, .int .u64 (v : Nat)], .slice a1 n1 c1] w fun e w' => e = .returned (.bool true) ∧ Below w.heap.size w w' := by
  go_enter Try.func6, Try.ntmps6
  go_upto_region 1 with fail
  go_quiet (fail)
  obtain ⟨p, hp, hpe⟩ := wrapN P
  obtain ⟨q, hq, hqe⟩ := wrapN L
  rw [width_walk hpe, hqe]
  obtain ⟨n, hnp⟩ : ∃ n, n = 1 + p % 64 := ⟨_, rfl⟩
  rw [← hnp]
  have hn1 : 1 ≤ n := by omega
  have hn64 : n ≤ 64 := by omega
  clear hnp
  go_upto_region 3 with fail
  rw [mask_eq hn1 hn64]
  obtain ⟨k, hkk⟩ : ∃ k, k = min n1 64 := ⟨_, rfl⟩
  have hk1 : k ≤ n1 := by omega
  have hk64 : k ≤ 64 := by omega
  have hmin : (if (64 : Int) < (n1 : Int) then (64 : Int) else (n1 : Int)) = (k : Int) := by split <;> omega
  have hmin2 : (if 64 < n1 then (64 : Int) else (n1 : Int)) = (k : Int) := by split <;> omega
  have hkc : (k : Int) ≤ c1 := by omega
  have hk0 : (0 : Int) ≤ k := by omega
  have hB1 := Lib.hid (((Below.refl w.heap.size w).alloc (Nat.le_refl _) (.cells #[.int .i64 P, .int .i64 L, .int .u64 (v : Nat)] 29)).trans ((below_drewN _ nq).mono (by simp)))
  generalize ((w.alloc (.cells #[.int .i64 P, .int .i64 L, .int .u64 (v : Nat)] 29)).drewN nq) = w1 at *
  have hcl := Lib.hid (clone_any (w := w1) (c := c1) ((h1.step hB1.out).take hk1) (by omega))
  clear h1 hkk
  go_upto_region 4 with (go_at_call 12; (with_reducible refine hcl.out.mono ?_); rintro e w2 ⟨x1, y1, rfl, hM1⟩)
  have hMl : 2 ^ n - 1 < 18446744073709551616 := mask_lt hn64
  have hFb : Hid (∀ x, x &&& (2 ^ n - 1) < 2 ^ n) := Lib.hid (fun x => by rw [mask_and]; exact Nat.mod_lt _ (Nat.pow_pos (by decide)))
  generalize 2 ^ n - 1 = M at *
  have hR1 : Hid (WOwn w2 w.heap.size x1 k (mixF f (fun i => f i &&& M) 0)) := Lib.hid (by rw [mixF_zero]; exact (hM1.wown (by omega)).low hB1.out.size)
  have hB : Hid (Below w.heap.size w w2) := Lib.hid (nextw hB1.out hM1.below)
  have hF := Lib.hid hf
  clear hf hM1 hcl hkc hmin hmin2 hB1 hpe hqe
  generalize Int.tmod (p : Int) 64 = tm
  generalize wrap64 tm = tm2
  go_wp2
  go_loopw [47] (fun s wr => ∃ j : Nat, j ≤ k ∧ s = .int .i64 (j : Nat) ∧ Hid (WOwn wr w.heap.size x1 k (mixF f (fun i => f i &&& M) j)) ∧ Hid (Below w.heap.size w wr)) (fun s _ => k - (intOf s).toNat)
  case atStart => exact ⟨0, by omega, rfl, hR1, hB⟩
  case round =>
    clear hR1 hB
    obtain ⟨j, hj, rfl, hR1, hB⟩ := hrel
    by_cases hlt : j < k
    · -- @slow
      obtain ⟨b1, o1, rfl, hB1, hl1, hx1, hf1⟩ := hR1.out.at (by omega)
      have cx := hx1 j hlt
      have fx := hf1 j hlt
      rw [mixF_here] at cx
      have wx := and64n (hF.out j) hMl
      have hS1 : Hid (WOwn (wr.setCell ⟨b1, o1 + j, none⟩ (.int .u64 ((f j &&& M : Nat) : Int))) w.heap.size (some ⟨b1, o1, none⟩) k (mixF f (fun i => f i &&& M) (j + 1))) :=
        Lib.hid (hR1.out.mix (g := fun i => f i &&& M) hlt)
      have hS3 : Hid (Below w.heap.size w (wr.setCell ⟨b1, o1 + j, none⟩ (.int .u64 ((f j &&& M : Nat) : Int)))) := Lib.hid (hB.out.setCell (p := ⟨b1, o1 + j, none⟩) hB1 _)
      have hjk : (j : Int) < k := by omega
      clear hx1 hf1 hR1
      generalize ((f j &&& M : Nat) : Int) = X at *
      generalize f j = xx at *
      go_wp2
      exact ⟨⟨j + 1, by omega, by go_num, hS1, hS3⟩, by simp [intOf]; omega⟩
      -- @end
    · obtain rfl : j = k := by omega
      clear hlt hj
      have hFb2 : ∀ i, i < j → f i &&& M < 2 ^ n := fun i _ => hFb.out _
      have hy1 : mayH (n : Int) j (fun i => f i &&& M) = true := mayH_iff.2 ⟨⟨hn1, hn64⟩, hFb2⟩
      have hp1 := pack_yes (w := wr) (c := y1) hR1.out.mixed.row hk64 hy1
      have hAl := turn_lt (cut64 (k := j) (F := fun i => f i &&& M) hn64 hFb2)
      have hTw := fun (i : Nat) (hi : i < 64) => back_word (n := n) (k := j) (F := fun i => f i &&& M) hn64 hFb2 hi
      have hLw := fun (i : Nat) (hi : i < 64) => lane_word (n := n) (k := j) (F := fun i => f i &&& M) hn64 hFb2 hi
      have hC2 : ∀ i, cutAt j (fun i => f i &&& M) i < 2 ^ n := fun i => by
        unfold cutAt; split
        · exact hFb.out _
        · exact Nat.pow_pos (by decide)
      have hV := Lib.hid hR1.out.mixed.row
      have hC1 := fun (i : Nat) (hi : i < j) => (show cutAt j (fun i => f i &&& M) i = (fun i => f i &&& M) i by unfold cutAt; rw [if_pos hi])
      have hC0 := fun (i : Nat) (hi : ¬ i < j) => (show cutAt j (fun i => f i &&& M) i = 0 by unfold cutAt; rw [if_neg hi])
      have hx2 : v &&& M < 2 ^ n := hFb.out v
      have hwv : bits .and .u64 (v : Int) (M : Int) = ((v &&& M : Nat) : Int) := and64n hv hMl
      generalize turn (cutAt j (fun i => f i &&& M)) = A at *
      generalize cutAt j (fun i => f i &&& M) = D at *
      generalize (fun i => f i &&& M) = F at *
      generalize v &&& M = x at *
      have hTl := turn_lt (cutAt_lt (n := n) (f := A) (fun i _ => hAl i))
      have hAg := fun (i : Nat) (hi : i < n) => again_word hn64 (fun i _ => hAl i) hi
      have hSw := fun (l : Nat) (hl : l < 64) (i : Nat) (hi : i < 64) => set_word (A := A) hn64 hl hx2 (fun i _ => hAl i) hi
      have hun := fun (wk : World) (a : Option Addr) (c : Nat) (h : WRow wk a n A) => unpack_any (c := c) h (fun _ i _ => hAl i)
      have hun2 := fun (wk : World) (a : Option Addr) (c l : Nat) (hl : l < 64) (h : WRow wk a n (setN A l x)) => unpack_any (c := c) h (fun _ i _ => setN_lt hl)
      have hst := fun (wk : World) (a : Option Addr) (c l : Nat) (hl : l < 64) (h : WRow wk a n A) => set_yes (c := c) (l := l) h (fun i _ => hAl i) (Nat.lt_of_lt_of_le hx2 (le64' hn64)) (mayH_iff.2 ⟨⟨hn1, hn64⟩, fun _ _ => hx2⟩) hl
      have hln := fun (wk : World) (a : Option Addr) (c i : Nat) (hi : i < 64) (h : WRow wk a n A) => lane_any (c := c) (i : Int) h (fun _ i _ => hAl i)
      have hp2 := fun (wk : World) (b : Nat) (h : Blk wk b (turn (cutAt n A))) => pack_yes (w := wk) (c := 64) (WRow.of_blk h (Nat.le_refl 64)) (Nat.le_refl 64) (mayH_iff.2 ⟨⟨hn1, hn64⟩, fun i hi => by rw [hTw i hi]; exact hC2 i⟩)
      simp only [if_pos (show 1 ≤ n ∧ n ≤ 64 from ⟨hn1, hn64⟩)] at hun hun2
      generalize turn (cutAt n A) = T at *
      have hwk := Lib.hid wakes_any
      have hp1 := Lib.hid hp1
      have hun := Lib.hid hun
      have hun2 := Lib.hid hun2
      have hst := Lib.hid hst
      have hln := Lib.hid hln
      have hp2 := Lib.hid hp2
      have hTw := Lib.hid hTw
      have hLw := Lib.hid hLw
      have hAg := Lib.hid hAg
      have hSw := Lib.hid hSw
      have hC1 := Lib.hid hC1
      have hC0 := Lib.hid hC0
      clear hy1 hR1 hF hFb hFb2 hAl hC2 hTl hx2 hMl hv
      have hz := (zero_of_info info_sq).1
      go_upto_region 11 with (first
        | (go_at_call 13; (with_reducible refine hp1.out.mono ?_); rintro e w5 ⟨pa, ca, rfl, hM5⟩; have hO5 := Lib.hid (hM5.row (by omega)); have hV5 := Lib.hid (hV.out.step hM5.below); have hB5 := Lib.hid (nextw hB.out hM5.below); clear hM5 hV hB hp1)
        | (go_at_call 15; (with_reducible refine (hun.out _ _ _ hO5.out).mono ?_); rintro e w6 ⟨rfl, hn6⟩; have hb6 := Lib.hid (Blk.new w6 (fun _ => 0)); have hO6 := Lib.hid (hO5.out.step hn6); have hV6 := Lib.hid (hV5.out.step hn6); have hB6 := Lib.hid (nextw hB5.out hn6); clear hn6 hV5 hB5 hO5 hun)
        | (refine hb6.out.wstore rfl _ _ rfl rfl rfl ?_))
      have hn7 := ((Below.refl w6.heap.size w6).alloc (Nat.le_refl _) (.cells (sqA (fun _ => 0)) 23)).trans (below_setRow (Nat.le_refl _) (sqA T))
      have hT := Lib.hid (hb6.out.put T)
      have hV := Lib.hid (hV6.out.step hn7)
      have hO := Lib.hid (hO6.out.step hn7)
      have hB := Lib.hid (nextw hB6.out hn7)
      clear hb6 hV6 hO6 hB6 hn7
      generalize (w6.alloc (.cells (sqA (fun _ => 0)) 23)).setRow w6.heap.size (sqA T) = w7 at *
      generalize w6.heap.size = b6 at *
      go_upto_region 13 with (go_at_call 13; (with_reducible refine (hp2.out _ _ hT.out).mono ?_); rintro e w8 ⟨pb, cb, rfl, hM8⟩; have hG8 := Lib.hid ((hM8.row (by omega)).congr hAg.out); have hT8 := Lib.hid (hT.out.step hM8.below); have hV8 := Lib.hid (hV.out.step hM8.below); have hO8 := Lib.hid (hO.out.step hM8.below); have hB8 := Lib.hid (nextw hB.out hM8.below); clear hM8 hT hV hO hB hp2)
      rw [show ((q : Int) % 64) = ((q % 64 : Nat) : Int) by omega]
      obtain ⟨l, hlq⟩ : ∃ l, l = q % 64 := ⟨_, rfl⟩
      rw [← hlq]
      have hl : l < 64 := by omega
      clear hlq
      go_upto_region 15 with (first
        | (go_at_call 19; (with_reducible refine (hst.out _ _ _ _ hl hO8.out).mono ?_); rintro e w9 ⟨pc, cc, rfl, hM9⟩; have hS9 := Lib.hid (hM9.row (by omega)); have hG9 := Lib.hid (hG8.out.step hM9.below); have hT9 := Lib.hid (hT8.out.step hM9.below); have hV9 := Lib.hid (hV8.out.step hM9.below); have hO9 := Lib.hid (hO8.out.step hM9.below); have hB9 := Lib.hid (nextw hB8.out hM9.below); clear hM9 hG8 hT8 hV8 hO8 hB8 hst)
        | (go_at_call 15; (with_reducible refine (hun2.out _ _ _ _ hl hS9.out).mono ?_); rintro e wa ⟨rfl, hna⟩; have hba := Lib.hid (Blk.new wa (fun _ => 0)); have hGa := Lib.hid (hG9.out.step hna); have hTa := Lib.hid (hT9.out.step hna); have hVa := Lib.hid (hV9.out.step hna); have hOa := Lib.hid (hO9.out.step hna); have hBa := Lib.hid (nextw hB9.out hna); clear hna hG9 hT9 hV9 hO9 hB9 hS9 hun2)
        | (refine hba.out.wstore rfl _ _ rfl rfl rfl ?_))
      have hSw := Lib.hid (hSw.out l hl)
      generalize turn (cutAt n (setN A l x)) = S at *
      have hnb := ((Below.refl wa.heap.size wa).alloc (Nat.le_refl _) (.cells (sqA (fun _ => 0)) 23)).trans (below_setRow (Nat.le_refl _) (sqA S))
      have hS := Lib.hid (hba.out.put S)
      have hG := Lib.hid (hGa.out.step hnb)
      have hT := Lib.hid (hTa.out.step hnb)
      have hV := Lib.hid (hVa.out.step hnb)
      have hO := Lib.hid (hOa.out.step hnb)
      have hB := Lib.hid (nextw hBa.out hnb)
      clear hba hGa hTa hVa hOa hBa hnb hz
      generalize (wa.alloc (.cells (sqA (fun _ => 0)) 23)).setRow wa.heap.size (sqA S) = wb at *
      generalize wa.heap.size = ba at *
      have hnn := bneq (a := (n : Int)) (b := n) rfl
      go_upto_region 17 with (first
        | (go_at_call 11; (with_reducible refine (hwk.out _).mono ?_); rintro e wc ⟨rfl, hnc⟩; have hSc := Lib.hid (hS.out.step hnc); have hGc := Lib.hid (hG.out.step hnc); have hTc := Lib.hid (hT.out.step hnc); have hVc := Lib.hid (hV.out.step hnc); have hOc := Lib.hid (hO.out.step hnc); have hBc := Lib.hid (nextw hB.out hnc); clear hnc hS hG hT hV hO hB hwk)
        | (go_at_call 23; (with_reducible refine (same_any hGc.out hOc.out).mono ?_); rintro e wd ⟨rfl, hnd⟩; have hSd := Lib.hid (hSc.out.step hnd); have hTd := Lib.hid (hTc.out.step hnd); have hVd := Lib.hid (hVc.out.step hnd); have hOd := Lib.hid (hOc.out.step hnd); have hBd := Lib.hid (nextw hBc.out hnd); clear hnd hSc hGc hTc hVc hOc hBc))
      clear hnn
      go_wp2
      go_loopw [126] (fun s wr => ∃ i : Nat, i ≤ 64 ∧ s = .int .i64 (i : Nat) ∧ Hid (Blk wr b6 T) ∧ Hid (Blk wr ba S) ∧ Hid (WRow wr x1 j F) ∧ Hid (WRow wr pa n A) ∧ Hid (Below w.heap.size w wr)) (fun s _ => 64 - (intOf s).toNat)
      case atStart => exact ⟨0, by omega, rfl, hTd, hSd, hVd, hOd, hBd⟩
      case round =>
        clear hTd hSd hVd hOd hBd
        obtain ⟨i, hi, rfl, hT, hS, hV, hO, hB⟩ := hrel
        by_cases hlt : i < 64
        · have hi64 : (i : Int) < 64 := by omega
          have hln1 := hln.out wr pa ca i hlt hO.out
          rw [if_pos ⟨⟨hn1, hn64⟩, by omega, by omega⟩, Int.toNat_natCast, hLw.out i hlt] at hln1
          have hln1 := Lib.hid hln1
          have cT := hT.out.cell hlt
          have cS := hS.out.cell hlt
          rw [hTw.out i hlt] at cT
          rw [hSw.out i hlt, hTw.out i hlt] at cS
          have hlT := hT.out.lt
          have hlS := hS.out.lt
          have hzz := bneq (a := ((D i : Nat) : Int)) (b := (D i : Nat)) rfl
          have hxx := bneq (a := ((x : Nat) : Int)) (b := (x : Nat)) rfl
          by_cases hij : i < j
          · have hijI : (i : Int) < j := by omega
            obtain ⟨b1, o1, rfl, hl1, hx1⟩ := hV.out.at (by omega)
            have cV := hx1 i hij
            rw [show F i = D i from (hC1.out i hij).symm] at cV
            clear hx1 hC1 hC0 hTw hSw hLw hln hAg
            generalize D i = z at *
            by_cases hil : i = l
            · subst hil
              rw [if_pos rfl] at cS
              have hll := bneq (a := ((i : Nat) : Int)) (b := (i : Nat)) rfl
              have hle : ((i : Int) == (i : Int)) = true := by simp
              go_wp2_with (go_at_call 17; (with_reducible refine hln1.out.mono ?_); rintro e w9 ⟨rfl, hn⟩; have cT := stepc hn hlT cT; have cS := stepc hn hlS cS; have hT9 := Lib.hid (hT.out.step hn); have hS9 := Lib.hid (hS.out.step hn); have hV9 := Lib.hid (hV.out.step hn); have hO9 := Lib.hid (hO.out.step hn); have hB9 := Lib.hid (nextw hB.out hn); clear hn hT hS hV hO hB hln1)
              exact ⟨⟨i + 1, by omega, by go_num, hT9, hS9, hV9, hO9, hB9⟩, by simp [intOf]; omega⟩
            · rw [if_neg hil] at cS
              have hll : ((i : Int) != (l : Int)) = true := by simp; omega
              have hle : ((i : Int) == (l : Int)) = false := by simp; omega
              go_wp2_with (go_at_call 17; (with_reducible refine hln1.out.mono ?_); rintro e w9 ⟨rfl, hn⟩; have cT := stepc hn hlT cT; have cS := stepc hn hlS cS; have hT9 := Lib.hid (hT.out.step hn); have hS9 := Lib.hid (hS.out.step hn); have hV9 := Lib.hid (hV.out.step hn); have hO9 := Lib.hid (hO.out.step hn); have hB9 := Lib.hid (nextw hB.out hn); clear hn hT hS hV hO hB hln1)
              exact ⟨⟨i + 1, by omega, by go_num, hT9, hS9, hV9, hO9, hB9⟩, by simp [intOf]; omega⟩
          · have hijI : ¬ ((i : Int) < j) := by omega
            have hz0 : D i = 0 := hC0.out i hij
            rw [hz0] at hln1 cT cS hzz
            clear hC1 hC0 hTw hSw hLw hln hAg hz0 hzz
            by_cases hil : i = l
            · subst hil
              rw [if_pos rfl] at cS
              have hll := bneq (a := ((i : Nat) : Int)) (b := (i : Nat)) rfl
              have hle : ((i : Int) == (i : Int)) = true := by simp
              go_wp2_with (go_at_call 17; (with_reducible refine hln1.out.mono ?_); rintro e w9 ⟨rfl, hn⟩; have cT := stepc hn hlT cT; have cS := stepc hn hlS cS; have hT9 := Lib.hid (hT.out.step hn); have hS9 := Lib.hid (hS.out.step hn); have hV9 := Lib.hid (hV.out.step hn); have hO9 := Lib.hid (hO.out.step hn); have hB9 := Lib.hid (nextw hB.out hn); clear hn hT hS hV hO hB hln1)
              exact ⟨⟨i + 1, by omega, by go_num, hT9, hS9, hV9, hO9, hB9⟩, by simp [intOf]; omega⟩
            · rw [if_neg hil] at cS
              have hll : ((i : Int) != (l : Int)) = true := by simp; omega
              have hle : ((i : Int) == (l : Int)) = false := by simp; omega
              go_wp2_with (go_at_call 17; (with_reducible refine hln1.out.mono ?_); rintro e w9 ⟨rfl, hn⟩; have cT := stepc hn hlT cT; have cS := stepc hn hlS cS; have hT9 := Lib.hid (hT.out.step hn); have hS9 := Lib.hid (hS.out.step hn); have hV9 := Lib.hid (hV.out.step hn); have hO9 := Lib.hid (hO.out.step hn); have hB9 := Lib.hid (nextw hB.out hn); clear hn hT hS hV hO hB hln1)
              exact ⟨⟨i + 1, by omega, by go_num, hT9, hS9, hV9, hO9, hB9⟩, by simp [intOf]; omega⟩
        · obtain rfl : i = 64 := by omega
          go_wp2
          go_ret
          exact ⟨rfl, hB.out⟩
end Go.Proofs.Ytgbhhmmllbanlaa
