/-
  LevelCalls: the walk.
-/
import Derived.Test.YtocfchgkfaogdaaLcB
import Derived.Deep.RegionLaw
namespace Go.Proofs.Ytocfchgkfaogdaa
open Go.RowKit Go.Maps
set_option maxRecDepth 100000

set_option maxHeartbeats 16000000 in
theorem LevelCalls_any {w : World} {a fa da : Option Addr} {n c fn fc dn dc : Nat} {N : List (List Int)} {F0 D0 : List Int} (h : RR w a n N) (hf : Row .i64 w fa fn F0) (hfc : fn ≤ fc) (hfm : fc ≤ 9223372036854775807) (hd : Row .i64 w da dn D0) (hdc : dn ≤ dc) (hdm : dc ≤ 9223372036854775807) :
    Calls Try.prog 3 #[.slice a n c, .slice fa fn fc, .slice da dn dc] w fun e w' => e = .returned (.bool true) ∧ Below w.heap.size w w' := by
  obtain ⟨f, hfr⟩ : ∃ f, min fn 10 = f := ⟨_, rfl⟩
  obtain ⟨d, hdr⟩ : ∃ d, min dn 60 = d := ⟨_, rfl⟩
  have hF1 := hf.take f (by omega)
  have hD1 := hd.take d (by omega)
  generalize F0.take f = F at *
  generalize D0.take d = D at *
  have hFl := hF1.len
  have hDl := hD1.len
  have hfew := Lib.hid (fun (W : World) (hb : Below w.heap.size w W) => few_any (h.step hb) c)
  have hcF := Lib.hid (fun (W : World) (hb : Below w.heap.size w W) => clone_row (hF1.step hb) (by omega) fc)
  have hcD := Lib.hid (fun (W : World) (hb : Below w.heap.size w W) => clone_row (hD1.step hb) (by omega) dc)
  have hfi : min (fn : Int) 10 = (f : Int) := by omega
  have hdi : min (dn : Int) 60 = (d : Int) := by omega
  have hff : f ≤ fc := by omega
  have hdd : d ≤ dc := by omega
  have hfn2 : f ≤ fn := by omega
  have hdn2 : d ≤ dn := by omega
  have hf10 : f ≤ 10 := by omega
  have hd60 : d ≤ 60 := by omega
  have hffi : (f : Int) ≤ fc := by omega
  have hddi : (d : Int) ≤ dc := by omega
  have hBw := Lib.hid (fun k => below_draws w k)
  have hM60 : (fewL N).length ≤ 60 := by rw [fewL_len]; omega
  clear h hf hd hF1 hD1 hfr hdr
  go_enter Try.func3, Try.ntmps3
  go_upto_region 1 with (fail)
  go_cut [0, 1, 2] (fun s t u wr => ∃ (oa ta ua : Option Addr) (oc tc uc : Nat), s = .slice oa (fewL N).length oc ∧ t = .slice ta f tc ∧ u = .slice ua d uc ∧ Hid (Cop w wr s t u f d (fewL N) F D))
  case first =>
    -- @slow
    have hcur : Hid (Below w.heap.size w w.drew) := Lib.hid (Below.refl _ _).drew
    have hsz0 := hcur.out.size
    go_region_with (first
      | (go_at_call 8; (with_reducible refine (hfew.out _ hcur.out).mono ?_); rintro e w2 ⟨oa, oc, rfl, hx, -, -, hb⟩; (first | (have hs := Lib.hid (hT.out.below hb); clear hT; have hT := hs; clear hs) | skip); (first | (have hs := Lib.hid (hU.out.below hb); clear hU; have hU := hs; clear hs) | skip); have hA := Lib.hid hx; clear hx; have hsz := hb.size; have hs := Lib.hid (nextw hcur.out hb); clear hcur; have hcur := hs; clear hs hb)
      | (go_at_call 9; (with_reducible refine (hcF.out _ hcur.out).mono ?_); rintro e w2 ⟨ta, tc, rfl, hx, hb⟩; (first | (have hs := Lib.hid (hA.out.below hb); clear hA; have hA := hs; clear hs) | skip); (first | (have hs := Lib.hid (hU.out.below hb); clear hU; have hU := hs; clear hs) | skip); have hT := Lib.hid (RowAt.new hx hFl); clear hx; have hsz := hb.size; have hs := Lib.hid (nextw hcur.out hb); clear hcur; have hcur := hs; clear hs hb)
      | (go_at_call 9; (with_reducible refine (hcD.out _ hcur.out).mono ?_); rintro e w2 ⟨ua, uc, rfl, hx, hb⟩; (first | (have hs := Lib.hid (hA.out.below hb); clear hA; have hA := hs; clear hs) | skip); (first | (have hs := Lib.hid (hT.out.below hb); clear hT; have hT := hs; clear hs) | skip); have hU := Lib.hid (RowAt.new hx hDl); clear hx; have hsz := hb.size; have hs := Lib.hid (nextw hcur.out hb); clear hcur; have hcur := hs; clear hs hb))
    all_goals (go_wp2_with fail; go_meet; exact ⟨_, _, _, _, _, _, rfl, rfl, rfl, Lib.hid ⟨hcur.out, _, _, _, _, _, _, hA.out, hT.out, hU.out, by omega, by omega, by omega⟩⟩)
    -- @end
  case rest =>
    obtain ⟨oa, ta, ua, oc, tc, uc, rfl, rfl, rfl, hC⟩ := hcut
    obtain ⟨hlow, a1, b1, a2, b2, a3, b3, hA, hT, hU, hw3, hd1, hd2⟩ := hC.out
    obtain ⟨wa, rfl⟩ : ∃ wa : World, wa = wc := ⟨_, rfl⟩
    obtain ⟨M, hM⟩ : ∃ M, fewL N = M := ⟨_, rfl⟩
    have hMM : fewL M = M := by rw [← hM]; exact fewL_idem N
    have hMr : Hid (∀ i, (M.getD i []).length ≤ 20) := Lib.hid (fun i => by rw [← hM]; exact fewL_row N i)
    rw [hM] at hA hM60 ⊢
    generalize hMl : M.length = m at *
    have hA := Lib.hid hA
    have hT := Lib.hid hT
    have hU0 := Lib.hid hU
    have hlw := Lib.hid hlow
    clear hC hfew hcF hcD hBw hU hlow
    go_wp2
    go_loopw [7, 43] (fun _ t wr => ∃ (j : Nat) (D2 : List Int), t = .int .i64 j ∧ j ≤ d ∧ Hid (RowAt a3 b3 wr (.slice ua d uc) d D2) ∧ Hid (Kept (fun b => a3 ≤ b ∧ b < b3) wa wr) ∧ Hid (∀ i, i < j → D2.getD i 0 ≤ 50)) (fun _ t _ => d - (RowKit.intOf t).toNat)
    case atStart => exact ⟨0, D, rfl, by omega, hU0, Lib.hid (Kept.refl _ _), Lib.hid (fun i hi => by omega)⟩
    case round =>
      clear hU0
      obtain ⟨j, D2, rfl, hj, hU, hK, hV⟩ := hrel
      by_cases hjd : j < d
      · obtain ⟨g, uc2, eo⟩ := own_form hU.out.own (by omega)
        simp only [Value.slice.injEq, true_and] at eo
        obtain ⟨rfl, rfl⟩ := eo
        have hDl2 := hU.out.len
        have co : wr.cell? ⟨g, j, none⟩ = some (.int .i64 (D2.getD j 0)) := by rw [hU.out.own.cellAt j (by omega), ints_get D2 (by omega)]
        have fo := hU.out.own.frozenAt j
        have hset := Lib.hid (fun x => hU.out.set j x)
        have hV2 := Lib.hid (fun (x : Int) (hx : x ≤ 50) => (show ∀ i, i < j + 1 → (D2.set j x).getD i 0 ≤ 50 from fun i hi => by
          rw [getD_set, hDl2]
          by_cases e : j = i
          · rw [if_pos ⟨e, by omega⟩]; exact hx
          · rw [if_neg (fun h => e h.1)]; exact hV.out i (by omega)))
        have hji : (j : Int) < d := by omega
        generalize D2.getD j 0 = z at *
        have hr50 : z.tmod 51 ≤ 50 := by have := Int.tmod_lt_of_pos z (show (0 : Int) < 51 by decide); omega
        generalize hrz : z.tmod 51 = r at *
        have s1 := Lib.hid (hset.out (max r (-5))).1
        have s2 := Lib.hid (hK.out.trans (hset.out (max r (-5))).2 (fun _ h => .inl h))
        have s3 := Lib.hid (hV2.out (max r (-5)) (by omega))
        clear hset hV2 hU hK hV
        go_wp2
        exact ⟨⟨j + 1, _, by go_num, by omega, s1, s2, s3⟩, by simp [RowKit.intOf]; omega⟩
      · obtain rfl : j = d := by omega
        obtain ⟨w0, rfl⟩ : ∃ w0 : World, w0 = wr := ⟨_, rfl⟩
        have hA2 := hA.out.kept hK.out (fun b h => by omega)
        have hT2 := hT.out.kept hK.out (fun b h => by omega)
        have hM0 := Lib.hid hA2.rr
        have hT0 := Lib.hid (hT2.row (by omega))
        have hU0 := Lib.hid (hU.out.row (by omega))
        have hDl2 := hU.out.len
        have hlast := Lib.hid (hlw.out.trans (hK.out.below (N := w.heap.size) (fun b h => by omega) hlw.out.size))
        obtain ⟨E, lo, Lo, dl, Dl, B, rl, Rl, CE, cl, Cl, mb, O1, O2, D1, D2', R1', R2', C1, C2, Y1, Y2⟩ := lc_k (F := F) (m := m) (f := f) hM60 hMr.out hf10
        obtain ⟨ly, Ly, L1, L2⟩ := lay_k (D := D2) hd60 (fun x hx => by
          obtain ⟨i, hi, rfl⟩ := List.getElem_of_mem hx
          have := hV.out i (by omega)
          rw [getD_at hi] at this; exact this)
        have hK0 := few_any hM0.out oc
        rw [hMM, hMl] at hK0
        have hK1 := Lib.hid hK0
        have hO1 := Lib.hid O1
        have hO2 := Lib.hid O2
        have hD1 := Lib.hid D1
        have hD2 := Lib.hid D2'
        have hR1 := Lib.hid R1'
        have hR2 := Lib.hid R2'
        have hC1 := Lib.hid C1
        have hC2 := Lib.hid C2
        have hY1 := Lib.hid Y1
        have hY2 := Lib.hid Y2
        have hL1 := Lib.hid L1
        have hL2 := Lib.hid L2
        clear O1 O2 D1 D2' R1' R2' C1 C2 Y1 Y2 L1 L2 hK0 hA hT hA2 hT2 hU hK hV hlw
        unfold OneK OneB OneR OneM at *
        -- @arms
        go_wp2_with (first
          | (go_at_call 8; (with_reducible refine hK1.out.mono ?_); rintro e w1 ⟨oa2, oc2, rfl, hx, -, -, hb⟩; have hb1 := Lib.hid hb; have R1 := Lib.hid hx.rr; clear hb hx)
          | (go_at_call 9; (with_reducible refine (clone_row (hT0.out.step hb1.out) (by omega) tc).mono ?_); rintro e w2 ⟨ta2, tc2, rfl, hx, hb⟩; have hb2 := Lib.hid hb; have R2 := Lib.hid (own_row hx hFl); clear hb hx)
          | (go_at_call 9; (with_reducible refine (clone_row (hU0.out.step (nextw hb1.out hb2.out)) (by omega) uc).mono ?_); rintro e w3 ⟨ua2, uc2, rfl, hx, hb⟩; have hb3 := Lib.hid hb; have R3 := Lib.hid (own_row hx hDl2); clear hb hx)
          | (go_at_call 10; (with_reducible refine (hO1.out _ _ oc2 (R1.out.step (nextw hb2.out hb3.out))).mono ?_); rintro e w4 ⟨a4, c4, rfl, hx, hb⟩; have hb4 := Lib.hid hb; have R4 := Lib.hid hx; clear hb hx)
          | (go_at_call 11; (with_reducible refine (hO2.out _ _ oc (hM0.out.step (nextw hb1.out (nextw hb2.out (nextw hb3.out hb4.out))))).mono ?_); rintro e w5 ⟨a5, c5, rfl, hx, hb⟩; have hb5 := Lib.hid hb; have R5 := Lib.hid hx; clear hb hx)
          | (go_at_call 12; (with_reducible refine (hD1.out _ _ oc2 (R1.out.step (nextw hb2.out (nextw hb3.out (nextw hb4.out hb5.out))))).mono ?_); rintro e w6 ⟨a6, c6, rfl, hx, hb⟩; have hb6 := Lib.hid hb; have R6 := Lib.hid hx; clear hb hx)
          | (go_at_call 13; (with_reducible refine (hD2.out _ _ oc (hM0.out.step (nextw hb1.out (nextw hb2.out (nextw hb3.out (nextw hb4.out (nextw hb5.out hb6.out))))))).mono ?_); rintro e w7 ⟨a7, c7, rfl, hx, hb⟩; have hb7 := Lib.hid hb; have R7 := Lib.hid hx; clear hb hx)
          | (go_at_call 14; (with_reducible refine (hR1.out _ _ oc2 (R1.out.step (nextw hb2.out (nextw hb3.out (nextw hb4.out (nextw hb5.out (nextw hb6.out hb7.out))))))).mono ?_); rintro e w8 ⟨a8, c8, rfl, hx, hb⟩; have hb8 := Lib.hid hb; have R8 := Lib.hid hx; clear hb hx)
          | (go_at_call 15; (with_reducible refine (hR2.out _ _ oc (hM0.out.step (nextw hb1.out (nextw hb2.out (nextw hb3.out (nextw hb4.out (nextw hb5.out (nextw hb6.out (nextw hb7.out hb8.out))))))))).mono ?_); rintro e w9 ⟨a9, c9, rfl, hx, hb⟩; have hb9 := Lib.hid hb; have R9 := Lib.hid hx; clear hb hx)
          | (go_at_call 16; (with_reducible refine (hC1.out _ _ _ oc2 tc2 (R1.out.step (nextw hb2.out (nextw hb3.out (nextw hb4.out (nextw hb5.out (nextw hb6.out (nextw hb7.out (nextw hb8.out hb9.out)))))))) (R2.out.step (nextw hb3.out (nextw hb4.out (nextw hb5.out (nextw hb6.out (nextw hb7.out (nextw hb8.out hb9.out)))))))).mono ?_); rintro e w10 ⟨a10, c10, rfl, hx, hb⟩; have hb10 := Lib.hid hb; have R10 := Lib.hid hx; clear hb hx)
          | (go_at_call 17; (with_reducible refine (hC2.out _ _ _ oc tc (hM0.out.step (nextw hb1.out (nextw hb2.out (nextw hb3.out (nextw hb4.out (nextw hb5.out (nextw hb6.out (nextw hb7.out (nextw hb8.out (nextw hb9.out hb10.out)))))))))) (hT0.out.step (nextw hb1.out (nextw hb2.out (nextw hb3.out (nextw hb4.out (nextw hb5.out (nextw hb6.out (nextw hb7.out (nextw hb8.out (nextw hb9.out hb10.out))))))))))).mono ?_); rintro e w11 ⟨a11, c11, rfl, hx, hb⟩; have hb11 := Lib.hid hb; have R11 := Lib.hid hx; clear hb hx)
          | (go_at_call 18; (with_reducible refine (equal_same (R4.out.step (nextw hb5.out (nextw hb6.out (nextw hb7.out (nextw hb8.out (nextw hb9.out (nextw hb10.out hb11.out))))))) (R5.out.step (nextw hb6.out (nextw hb7.out (nextw hb8.out (nextw hb9.out (nextw hb10.out hb11.out)))))) c4 c5).mono ?_); rintro e w12 ⟨rfl, hb⟩; have hb12 := Lib.hid hb; clear hb)
          | (go_at_call 18; (with_reducible refine (equal_same (R6.out.step (nextw hb7.out (nextw hb8.out (nextw hb9.out (nextw hb10.out (nextw hb11.out hb12.out)))))) (R7.out.step (nextw hb8.out (nextw hb9.out (nextw hb10.out (nextw hb11.out hb12.out))))) c6 c7).mono ?_); rintro e w13 ⟨rfl, hb⟩; have hb13 := Lib.hid hb; clear hb)
          | (go_at_call 18; (with_reducible refine (equal_same (R8.out.step (nextw hb9.out (nextw hb10.out (nextw hb11.out (nextw hb12.out hb13.out))))) (R9.out.step (nextw hb10.out (nextw hb11.out (nextw hb12.out hb13.out)))) c8 c9).mono ?_); rintro e w14 ⟨rfl, hb⟩; have hb14 := Lib.hid hb; clear hb)
          | (go_at_call 19; (with_reducible refine (bequal_same (R10.out.step (nextw hb11.out (nextw hb12.out (nextw hb13.out hb14.out)))) (R11.out.step (nextw hb12.out (nextw hb13.out hb14.out))) c10 c11).mono ?_); rintro e w15 ⟨rfl, hb⟩; have hb15 := Lib.hid hb; clear hb)
          | (go_at_call 21; (with_reducible refine (hL1.out _ _ uc2 (R3.out.step (nextw hb4.out (nextw hb5.out (nextw hb6.out (nextw hb7.out (nextw hb8.out (nextw hb9.out (nextw hb10.out (nextw hb11.out (nextw hb12.out (nextw hb13.out (nextw hb14.out hb15.out))))))))))))).mono ?_); rintro e w16 ⟨a16, c16, rfl, hx, hb⟩; have hb16 := Lib.hid hb; have R16 := Lib.hid hx; clear hb hx)
          | (go_at_call 22; (with_reducible refine (hL2.out _ _ uc (hU0.out.step (nextw hb1.out (nextw hb2.out (nextw hb3.out (nextw hb4.out (nextw hb5.out (nextw hb6.out (nextw hb7.out (nextw hb8.out (nextw hb9.out (nextw hb10.out (nextw hb11.out (nextw hb12.out (nextw hb13.out (nextw hb14.out (nextw hb15.out hb16.out))))))))))))))))).mono ?_); rintro e w17 ⟨a17, c17, rfl, hx, hb⟩; have hb17 := Lib.hid hb; have R17 := Lib.hid hx; clear hb hx)
          | (go_at_call 20; (with_reducible refine (same_any (R16.out.step hb17.out) R17.out c16 c17).mono ?_); rintro e w18 ⟨rfl, hb⟩; have hb18 := Lib.hid hb; clear hb)
          | (go_at_call 23; (with_reducible refine (hY1.out _ _ oc2 (R1.out.step (nextw hb2.out (nextw hb3.out (nextw hb4.out (nextw hb5.out (nextw hb6.out (nextw hb7.out (nextw hb8.out (nextw hb9.out (nextw hb10.out (nextw hb11.out (nextw hb12.out (nextw hb13.out (nextw hb14.out (nextw hb15.out (nextw hb16.out (nextw hb17.out hb18.out)))))))))))))))))).mono ?_); rintro e w19 ⟨rfl, hb⟩; have hb19 := Lib.hid hb; clear hb)
          | (go_at_call 24; (with_reducible refine (hY2.out _ _ oc (hM0.out.step (nextw hb1.out (nextw hb2.out (nextw hb3.out (nextw hb4.out (nextw hb5.out (nextw hb6.out (nextw hb7.out (nextw hb8.out (nextw hb9.out (nextw hb10.out (nextw hb11.out (nextw hb12.out (nextw hb13.out (nextw hb14.out (nextw hb15.out (nextw hb16.out (nextw hb17.out (nextw hb18.out hb19.out)))))))))))))))))))).mono ?_); rintro e w20 ⟨rfl, hb⟩; have hb20 := Lib.hid hb; clear hb)
          | (go_at_call 20; (with_reducible refine (same_any (R1.out.step (nextw hb2.out (nextw hb3.out (nextw hb4.out (nextw hb5.out (nextw hb6.out (nextw hb7.out (nextw hb8.out (nextw hb9.out (nextw hb10.out (nextw hb11.out (nextw hb12.out (nextw hb13.out (nextw hb14.out (nextw hb15.out (nextw hb16.out (nextw hb17.out (nextw hb18.out (nextw hb19.out hb20.out))))))))))))))))))) (hM0.out.step (nextw hb1.out (nextw hb2.out (nextw hb3.out (nextw hb4.out (nextw hb5.out (nextw hb6.out (nextw hb7.out (nextw hb8.out (nextw hb9.out (nextw hb10.out (nextw hb11.out (nextw hb12.out (nextw hb13.out (nextw hb14.out (nextw hb15.out (nextw hb16.out (nextw hb17.out (nextw hb18.out (nextw hb19.out hb20.out)))))))))))))))))))) oc2 oc).mono ?_); rintro e w21 ⟨rfl, hb⟩; have hb21 := Lib.hid hb; clear hb)
          | (go_at_call 18; (with_reducible refine (equal_same (R2.out.step (nextw hb3.out (nextw hb4.out (nextw hb5.out (nextw hb6.out (nextw hb7.out (nextw hb8.out (nextw hb9.out (nextw hb10.out (nextw hb11.out (nextw hb12.out (nextw hb13.out (nextw hb14.out (nextw hb15.out (nextw hb16.out (nextw hb17.out (nextw hb18.out (nextw hb19.out (nextw hb20.out hb21.out))))))))))))))))))) (hT0.out.step (nextw hb1.out (nextw hb2.out (nextw hb3.out (nextw hb4.out (nextw hb5.out (nextw hb6.out (nextw hb7.out (nextw hb8.out (nextw hb9.out (nextw hb10.out (nextw hb11.out (nextw hb12.out (nextw hb13.out (nextw hb14.out (nextw hb15.out (nextw hb16.out (nextw hb17.out (nextw hb18.out (nextw hb19.out (nextw hb20.out hb21.out))))))))))))))))))))) tc2 tc).mono ?_); rintro e w22 ⟨rfl, hb⟩; have hb22 := Lib.hid hb; clear hb)
          | (go_at_call 18; (with_reducible refine (equal_same (R3.out.step (nextw hb4.out (nextw hb5.out (nextw hb6.out (nextw hb7.out (nextw hb8.out (nextw hb9.out (nextw hb10.out (nextw hb11.out (nextw hb12.out (nextw hb13.out (nextw hb14.out (nextw hb15.out (nextw hb16.out (nextw hb17.out (nextw hb18.out (nextw hb19.out (nextw hb20.out (nextw hb21.out hb22.out))))))))))))))))))) (hU0.out.step (nextw hb1.out (nextw hb2.out (nextw hb3.out (nextw hb4.out (nextw hb5.out (nextw hb6.out (nextw hb7.out (nextw hb8.out (nextw hb9.out (nextw hb10.out (nextw hb11.out (nextw hb12.out (nextw hb13.out (nextw hb14.out (nextw hb15.out (nextw hb16.out (nextw hb17.out (nextw hb18.out (nextw hb19.out (nextw hb20.out (nextw hb21.out hb22.out)))))))))))))))))))))) uc2 uc).mono ?_); rintro e w23 ⟨rfl, hb⟩; have hb23 := Lib.hid hb; clear hb)
          | (go_at_call 25; (with_reducible refine (wakes_any _).mono ?_); rintro e w24 ⟨rfl, hb⟩; have hb24 := Lib.hid hb; clear hb))
        -- @armsend
        go_ret
        exact ⟨ret_bool (by simp), nextw hlast.out (nextw hb1.out (nextw hb2.out (nextw hb3.out (nextw hb4.out (nextw hb5.out (nextw hb6.out (nextw hb7.out (nextw hb8.out (nextw hb9.out (nextw hb10.out (nextw hb11.out (nextw hb12.out (nextw hb13.out (nextw hb14.out (nextw hb15.out (nextw hb16.out (nextw hb17.out (nextw hb18.out (nextw hb19.out (nextw hb20.out (nextw hb21.out (nextw hb22.out (nextw hb23.out hb24.out)))))))))))))))))))))))⟩
end Go.Proofs.Ytocfchgkfaogdaa
