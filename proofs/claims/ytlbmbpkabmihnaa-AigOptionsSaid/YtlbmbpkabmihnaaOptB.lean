/-
  AigOptions: the walk.
-/
import Derived.Test.YtlbmbpkabmihnaaOptC
namespace Go.Proofs.Ytlbmbpkabmihnaa
open Go.RowKit Go.Maps

set_option maxHeartbeats 4000000 in
set_option maxRecDepth 100000 in
theorem options_any {w : World} {a : Option Addr} {n cap : Nat} {l : List ActV} (hA : Acts w a n l) {wa : Option Addr} {wn wcap : Nat} {ws : List Int} (hW : Row .u64 w wa wn ws) (hWs : Words ws) :
    Calls Try.prog 5 #[.slice a n cap, .slice wa wn wcap] w fun e w' => e = .returned (.bool true) ∧ Below w.heap.size w w' := by
  have HA := Lib.hid hA
  have HW := Lib.hid hW
  have hle := hA.le
  have hwle := hW.le
  have hwlen := hW.len
  have HWs := Lib.hid hWs
  clear hA hW hWs
  go_enter Try.func5, Try.ntmps5
  go_wp2
  have hall0 := Lib.hid (all_zero w (meanO ws l (min n 40)).1)
  go_loopw [24] (fun i w' => ∃ k : Nat, k ≤ 4 ∧ i = .int .i64 k ∧ Hid (AllR w w' k (meanO ws l (min n 40)).1)) (fun i _ => 4 - (intOf i).toNat)
  case atStart => exact ⟨0, Nat.zero_le _, rfl, hall0⟩
  case round =>
    clear hall0
    obtain ⟨k, hk, rfl, hR⟩ := hrel
    obtain ⟨wb, rfl⟩ : ∃ wb : World, wb = wr := ⟨_, rfl⟩
    by_cases hk4 : k < 4
    · have hnew := Lib.hid (fun F H => new_opt F H wb)
      go_upto_block 2 with (go_at_call 21; (with_reducible refine (hnew.out _ _).mono ?_); rintro e w1 ⟨F, H, B, p, rfl, hA1⟩; have hA1 := Lib.hid hA1; clear hnew)
      have hkind := Lib.hid (fun i hi => runO_kind F H HWs.out l i hi)
      have hsucc : Hid (∀ i, runO F H ws l (i + 1) = ⟨(callO (runO F H ws l i).G (l.getD i act0).what (bRow (runO F H ws l i).t (l.getD i act0).zs)).1,
        (runO F H ws l i).t ++ [(callO (runO F H ws l i).G (l.getD i act0).what (bRow (runO F H ws l i).t (l.getD i act0).zs)).2],
        insO ws i (l.getD i act0).what (runO F H ws l i).ins⟩) := Lib.hid (fun i => rfl)
      have h0 : Hid (runO F H ws l 0 = ⟨newG F H, [0, 1], []⟩) := Lib.hid rfl
      generalize runO F H ws l = R at *
      go_cut [8, 9] (fun s8 s9 wx => ∃ a8 c8 a9 c9 p, s8 = .slice a8 (min n 40 + 2) c8 ∧ s9 = .slice a9 (R (min n 40)).ins.length c9 ∧ Hid (AtG wb B wx p (R (min n 40)).G) ∧ Hid (Mine wb wx 42 (.slice a8 (min n 40 + 2) c8) (min n 40 + 2) ((R (min n 40)).t.map (Value.int .u32))) ∧ Hid (Mine wb wx 36 (.slice a9 (R (min n 40)).ins.length c9) (R (min n 40)).ins.length ((R (min n 40)).ins.map (Value.int .u64))))
      case first =>
        have hold := Lib.hid (two_own wb w1 hA1.out.below.size (.int .u32 0) (.int .u32 1))
        have hA2 := Lib.hid (hA1.out.step ((Below.refl _ _).alloc (Nat.le_refl _) (.cells #[.int .u32 0, .int .u32 1] 42)))
        clear hA1
        go_wp2_with fail
        go_loopw [8, 9, 38] (fun s8 s9 i wr => ∃ (i' : Nat) (v8 v9 : Value), s8 = v8 ∧ s9 = v9 ∧ i' ≤ n ∧ i' ≤ 40 ∧ i = .int .i64 i' ∧ ∃ p, Hid (AtG wb B wr p (R i').G) ∧ Hid (Mine wb wr 42 v8 (i' + 2) ((R i').t.map (Value.int .u32))) ∧ Hid (Mine wb wr 36 v9 (R i').ins.length ((R i').ins.map (Value.int .u64)))) (fun _ _ i _ => n - (intOf i).toNat)
        case atStart => exact ⟨0, _, _, rfl, rfl, Nat.zero_le _, by omega, rfl, p, by rw [h0.out]; exact hA2, by rw [h0.out]; exact hold, by rw [h0.out]; exact Lib.hid ⟨own_nil _ _ _, by decide, by decide, by decide⟩⟩
        case round =>
          clear hold hA2
          obtain ⟨i, v8, v9, hs8, hs9, hin, hi40, rfl, p, hAi, hTi, hIi⟩ := hrel
          have hs8' := hs8.symm
          have hs9' := hs9.symm
          clear hs8 hs9
          subst hs8' hs9'
          obtain ⟨a8, c8, rfl⟩ := own_slice hTi.out.own
          obtain ⟨a9, c9, rfl⟩ := own_slice hIi.out.own
          have hBw : Below w.heap.size w wr := hR.out.below.trans (hAi.out.below.mono hR.out.below.size)
          by_cases hlt : i < n
          · obtain ⟨b, off, rfl, hb, hc⟩ : ∃ b off, a = some ⟨b, off, none⟩ ∧ b < w.heap.size ∧ ∀ i, i < n → w.cell? ⟨b, off + i * 2, none⟩ = some (.int .i64 (l.getD i act0).what) ∧ w.cell? ⟨b, off + i * 2 + 1, none⟩ = some (.slice (l.getD i act0).a (l.getD i act0).n (l.getD i act0).c) := by
              rcases HA.out.cells with h0 | h
              · omega
              · exact h
            have k0 := stepc hBw hb (hc i hlt).1
            have k1 := stepc hBw hb (hc i hlt).2
            clear hc
            by_cases h40 : i = 40
            · have hmin : Hid (min n 40 = i) := Lib.hid (by omega)
              subst h40
              have hbx := Lib.hid ((Below.refl wr.heap.size wr).alloc (Nat.le_refl _) (.cells #[.int .i64 (l.getD 40 act0).what, .slice (l.getD 40 act0).a (l.getD 40 act0).n (l.getD 40 act0).c] 50))
              go_wp2_with fail
              all_goals
                go_meet
                rw [hmin.out]
                exact ⟨a8, c8, a9, c9, p, rfl, rfl, Lib.hid (hAi.out.step hbx.out), Lib.hid (hTi.out.step hbx.out), Lib.hid (hIi.out.step hbx.out)⟩
            · have hn40 : ¬ ((i : Int) = 40) := by omega
              have hki := Lib.hid (hkind.out i (by omega))
              obtain ⟨hrow, hlc, hlit⟩ := HA.out.row i hlt
              have hsu := Lib.hid (hsucc.out i)
              obtain ⟨q0, hq, qz0, qz1, qz2⟩ := info_parts info_u32
              generalize hAA : l.getD i act0 = A at *
              obtain ⟨K, la, ln, lc, z⟩ := A
              simp only at k0 k1 hrow hlc hlit
              clear hAA
              have hrl := hrow.le
              have hr2 := hrow.step hBw
              go_upto_region 13 with fail
              go_cut [57, 58, 59] (fun s57 s58 s59 wx => ∃ a4 c4, s57 = .slice a4 (min ln 4 + 3) c4 ∧ s58 = .int .i64 (min ln 4 + 3 : Nat) ∧ s59 = .int .i64 0 ∧ Hid (Row .u32 wx a4 (min ln 4 + 3) (z.take 4 ++ [0, 1, 2])) ∧ Hid (Below wr.heap.size wr wx) ∧ wr.heap.size < wx.heap.size ∧ wx.cell? ⟨wr.heap.size, 0, none⟩ = some (.int .i64 K))
              case first =>
                by_cases h4 : ln ≤ 4
                · have hln : Hid (la = none → ln = 0) := Lib.hid (fun h => by
                    rcases hrow.2.2 with h0 | ⟨_, _, h1, _⟩
                    · exact h0
                    · rw [h] at h1; cases h1)
                  have hmin : Hid (min ln 4 = ln) := Lib.hid (by omega)
                  have hzl : Hid (((z.take ln).map (Value.int .u32)).length = ln * 1) := Lib.hid (by simp; have := hrow.len; omega)
                  have hzc := Lib.hid (row_news hr2 (m := ln) (by omega) (w' := (wr.alloc (.cells #[.int .i64 K, .slice la ln lc] 50)).alloc (.cells #[.int .u32 0, .int .u32 1, .int .u32 2] 41)) (((Below.refl _ _).alloc (Nat.le_refl _) _).alloc (by simp) _))
                  have HRW := Lib.hid hrow
                  clear hrow hr2
                  go_wp2_with (first
                    | (at_builtin; refine wpList_append_grows _ rfl _ _ 25 rfl 41 q0 (.int .u32 0) 1 4 Try.underlying25 hq qz0 qz1 qz2 rfl (by decide) la ln ln ((z.take ln).map (Value.int .u32)) rfl (fun h => ⟨hln.out h, hln.out h⟩) hzl.out hzc.out ⟨wr.heap.size + 1, 0, none⟩ 3 3 [.int .u32 0, .int .u32 1, .int .u32 2] rfl rfl (news3 (by go_simp) (by go_simp) (by go_simp)) (by simp [Value.oneCell']) (by omega) (by unfold maxLen; omega) (by omega) ?_; intro v4 w4 hown4 hg4; obtain ⟨a4, c4, rfl⟩ := own_slice hown4; have hbb4 := Lib.hid (below_new2 hg4); have kb4 := Lib.hid (below_new2c hg4); have hro4 := Lib.hid (row_app2 hown4); clear hown4 hg4))
                  go_meet
                  have htk : z.take ln = z.take 4 := by first | rfl | (have := HRW.out.len; rw [List.take_of_length_le (by omega), List.take_of_length_le (by omega)])
                  refine ⟨a4, c4, ?_, ?_, rfl, ?_, hbb4, kb4.out.1, kb4.out.2⟩
                  · rw [hmin.out]
                  · rw [hmin.out]; first | done | go_num
                  · rw [hmin.out, ← htk]; exact hro4
                · have h5 : 4 < ln := by omega
                  have hln : Hid (la = none → 4 = 0) := Lib.hid (fun h => by
                    rcases hrow.2.2 with h0 | ⟨_, _, h1, _⟩
                    · omega
                    · rw [h] at h1; cases h1)
                  have hmin : Hid (min ln 4 = 4) := Lib.hid (by omega)
                  have hzl : Hid (((z.take 4).map (Value.int .u32)).length = 4 * 1) := Lib.hid (by simp; have := hrow.len; omega)
                  have hzc := Lib.hid (row_news hr2 (m := 4) (by omega) (w' := (wr.alloc (.cells #[.int .i64 K, .slice la ln lc] 50)).alloc (.cells #[.int .u32 0, .int .u32 1, .int .u32 2] 41)) (((Below.refl _ _).alloc (Nat.le_refl _) _).alloc (by simp) _))
                  have HRW := Lib.hid hrow
                  clear hrow hr2
                  go_wp2_with (first
                    | (at_builtin; refine wpList_append_grows _ rfl _ _ 25 rfl 41 q0 (.int .u32 0) 1 4 Try.underlying25 hq qz0 qz1 qz2 rfl (by decide) la 4 4 ((z.take 4).map (Value.int .u32)) rfl (fun h => ⟨hln.out h, hln.out h⟩) hzl.out hzc.out ⟨wr.heap.size + 1, 0, none⟩ 3 3 [.int .u32 0, .int .u32 1, .int .u32 2] rfl rfl (news3 (by go_simp) (by go_simp) (by go_simp)) (by simp [Value.oneCell']) (by omega) (by unfold maxLen; omega) (by omega) ?_; intro v4 w4 hown4 hg4; obtain ⟨a4, c4, rfl⟩ := own_slice hown4; have hbb4 := Lib.hid (below_new2 hg4); have kb4 := Lib.hid (below_new2c hg4); have hro4 := Lib.hid (row_app2 hown4); clear hown4 hg4))
                  go_meet
                  have htk : z.take 4 = z.take 4 := by first | rfl | (have := HRW.out.len; rw [List.take_of_length_le (by omega), List.take_of_length_le (by omega)])
                  refine ⟨a4, c4, ?_, ?_, rfl, ?_, hbb4, kb4.out.1, kb4.out.2⟩
                  · rw [hmin.out]
                  · rw [hmin.out]; first | done | go_num
                  · rw [hmin.out, ← htk]; exact hro4
              case rest =>
                obtain ⟨a4, c4, rfl, rfl, rfl, hZ, hBq, hlq, kq⟩ := hcut
                obtain ⟨wq, rfl⟩ : ∃ wq : World, wq = wc := ⟨_, rfl⟩
                have hZl : Hid (∀ j, IsLit ((z.take 4 ++ [0, 1, 2]).getD j 0)) := Lib.hid (fun j => lits_app2 hlit 4 j)
                have hm7 : min ln 4 + 3 ≤ 7 := by omega
                have hm3 : 3 ≤ min ln 4 + 3 := by omega
                have hbl : Hid ((bRow (R i).t z).length = min ln 4 + 3) := Lib.hid (by rw [bRow_len, hrow.len])
                have hbt : Hid (AllThere (R i).G (bRow (R i).t z)) := Lib.hid (bRow_there hki.out.there (by have := hki.out.told; omega) z)
                have hbe : Hid (∀ j, j < min ln 4 + 3 → (bRow (R i).t z).getD j 0 = ifV ((R i).t.getD (pickN ((z.take 4 ++ [0, 1, 2]).getD j 0) (i + 2)) 0) ((z.take 4 ++ [0, 1, 2]).getD j 0 % 2 == 1)) := Lib.hid (fun j hj => by
                  rw [← hki.out.told]
                  exact bRow_at _ _ j (by rw [hrow.len]; exact hj))
                have htt := Lib.hid (fun q (hq : q < i + 2) => (hki.out.there.at (by rw [hki.out.told]; exact hq)).1)
                have hAq := Lib.hid (hAi.out.step hBq.out)
                have hTq := Lib.hid (hTi.out.step hBq.out)
                have hIq := Lib.hid (hIi.out.step hBq.out)
                clear hrow hr2 hlit hAi hTi hIi k0 k1 hq qz0 qz1 qz2 hlc hrl hBw hBq
                generalize z.take 4 ++ [0, 1, 2] = Z at *
                generalize min ln 4 + 3 = m7 at *
                obtain ⟨l0, li, lz0, lz1, lz2⟩ := info_parts info_lit
                go_wp2
                go_loopw [12, 59] (fun v12 i0 w' => ∃ (j : Nat) (v : Value), v12 = v ∧ j ≤ m7 ∧ i0 = .int .i64 j ∧ Hid (w'.ownsRow wq.heap.size 42 1 v j (((bRow (R i).t z).take j).map (Value.int .u32))) ∧ Hid (Below wq.heap.size wq w')) (fun _ i _ => m7 - (intOf i).toNat)
                case atStart => exact ⟨0, _, rfl, Nat.zero_le _, rfl, Lib.hid (own_nil _ _ _), Lib.hid (Below.refl _ _)⟩
                case round =>
                  obtain ⟨j, v12, hs12, hjm, rfl, ho, hB⟩ := hrel
                  have hs12' := hs12.symm
                  clear hs12
                  subst hs12'
                  by_cases hj7 : j < m7
                  · obtain ⟨b4, o4, rfl, hb4, hc4⟩ := hZ.out.at (by omega)
                    have x4 := stepc hB.out hb4 (hc4 j hj7)
                    have hn := hZl.out j
                    have hbj := Lib.hid (hbe.out j hj7)
                    have hbs := Lib.hid (take_push (bRow (R i).t z) j (by rw [hbl.out]; exact hj7))
                    rw [hbj.out] at hbs
                    obtain ⟨hrt, -⟩ := hTq.out.row (by omega)
                    obtain ⟨b8, o8, hv8, hb8, hc8⟩ := hrt.at (by omega)
                    clear hc4 hrt
                    obtain ⟨q, hq, hqi⟩ : ∃ q : Nat, q = pickN (Z.getD j 0) (i + 2) ∧ q < i + 2 := ⟨_, rfl, pickN_lt _ (by omega)⟩
                    have x8 := stepc hB.out hb8 (hc8 q hqi)
                    have hql := htt.out q hqi
                    rw [← hq] at hbs
                    have hqe : (Z.getD j 0 / 2) % ((i : Int) + 2) = q := by
                      rw [hq]; unfold pickN
                      have h1 := Int.emod_nonneg (Z.getD j 0 / 2) (b := (i : Int) + 2) (by omega)
                      have e : ((i + 2 : Nat) : Int) = (i : Int) + 2 := by omega
                      rw [e, Int.toNat_of_nonneg h1]
                    clear hc8 hq
                    obtain ⟨N, hN⟩ : ∃ N : Int, Z.getD j 0 = N := ⟨_, rfl⟩
                    rw [hN] at x4 hn hbs hqe
                    clear hN
                    generalize hL : (R i).t.getD q 0 = L at *
                    have hL := Lib.hid hL
                    have hif := Lib.hid (fun tb w => if_any L tb hql w)
                    obtain ⟨hn0, hn1⟩ := hn
                    subst hv8
                    have hsz := hB.out.size
                    go_wp2_with (first
                      | (go_at_call 22; (with_reducible refine (hif.out _ _).mono ?_); rintro e w9 ⟨rfl, rfl⟩)
                      | (at_builtin; refine wpList_append_lies _ rfl _ _ 30 rfl wq.heap.size 42 l0 (.int .u32 0) 1 4 Try.underlying30 li lz0 lz1 lz2 rfl (by decide) v12 j _ rfl (ho.out.alloc _) ⟨_, 0, none⟩ 1 1 [.int .u32 _] rfl rfl (cell_one_new _ _ _) (by simp [Value.oneCell']) (by decide) (by unfold maxLen; omega) (by omega) (by simp; omega) _ rfl ?_; intro g cap1 w7 hown1 hgrow1 hat1 hlt1))
                    go_roundw
                    case rel => exact ⟨j + 1, _, rfl, by omega, by go_num, by rw [hbs.out]; exact Lib.hid hown1, Lib.hid ((hB.out.alloc hsz _).grown hgrow1 (by simp; omega) (fun k hk => own_ge ho.out k hk))⟩
                    case measure => simp [intOf]; omega
                  · obtain rfl : j = m7 := by omega
                    have hwq := hAq.out.below.size
                    have hfull : Hid ((bRow (R i).t z).take j = bRow (R i).t z) := Lib.hid (List.take_of_length_le (by rw [hbl.out]; exact Nat.le_refl _))
                    obtain ⟨g12, c12, rfl⟩ := own_form ho.out (by omega)
                    have hM12 : Hid (Mine wb wr 42 (.slice (some ⟨g12, 0, none⟩) j c12) j ((bRow (R i).t z).map (Value.int .u32))) := Lib.hid ⟨by have := own_base ho.out hwq; rw [hfull.out] at this; exact this, by decide, by decide, by decide⟩
                    have hAr := Lib.hid (hAq.out.step hB.out)
                    have hTr := Lib.hid (hTq.out.step hB.out)
                    have hIr := Lib.hid (hIq.out.step hB.out)
                    have kq := stepc hB.out hlq kq
                    have hG9 : (R i).G.nodes.length ≤ 1000 := by have := hki.out.len; omega
                    have hil : (R i).ins.length ≤ 1000 := by have := hki.out.inl; have := hki.out.wf.cnt; omega
                    have hiw := Lib.hid hki.out.words
                    clear ho hB hAq hTq hIq hfull hZ hZl hbe htt hlq hki
                    generalize bRow (R i).t z = b at *
                    generalize R i = s at *
                    obtain ⟨G, t, ins⟩ := s
                    simp only at *
                    by_cases e1 : K = 1
                    · subst e1
                      have hcall := Lib.hid (hAr.out.manyS And_any and_ok (by omega) (.inr rfl) hM12.out hbt.out (by omega) (by omega))
                      have hnx : Hid (R (i + 1) = ⟨(manyG andG 1 G b).1, t ++ [(manyG andG 1 G b).2], ins⟩) := hsu
                      generalize manyG andG 1 G b = r at *
                      obtain ⟨G2, x⟩ := r
                      go_wp2_with (first | (go_at_call 11; (with_reducible refine hcall.out.mono ?_); rintro e w6 ⟨rfl, p6, hA6, hS⟩; have hT6 := Lib.hid (hTr.out.next hAr.out.is hS.kept); have hI6 := Lib.hid (hIr.out.next hAr.out.is hS.kept); have hA6 := Lib.hid hA6; clear hS) | (at_builtin; refine wpList_append_lies _ rfl _ _ 30 rfl wb.heap.size 42 l0 (.int .u32 0) 1 4 Try.underlying30 li lz0 lz1 lz2 rfl (by decide) (.slice a8 (i + 2) c8) (i + 2) _ rfl (hT6.out.own.alloc _) ⟨_, 0, none⟩ 1 1 [.int .u32 _] rfl rfl (cell_one_new _ _ _) (by simp [Value.oneCell']) (by decide) (by unfold maxLen; omega) (by omega) (by have := hA6.out.below.size; simp; omega) _ rfl ?_; intro g cap1 w7 hown1 hgrow1 hat1 hlt1; have HT7 := Lib.hid hown1; have HG7 := Lib.hid ((hA6.out.step ((Below.refl _ _).alloc (Nat.le_refl _) _)).grown (hT6.out.step ((Below.refl _ _).alloc (Nat.le_refl _) _)) hgrow1); have HI7 := Lib.hid ((hI6.out.step ((Below.refl _ _).alloc (Nat.le_refl _) _)).grown (hT6.out.step ((Below.refl _ _).alloc (Nat.le_refl _) _)) (by decide) hgrow1); clear hown1 hgrow1 hat1 hlt1))
                      go_roundw
                      case rel => exact ⟨i + 1, _, _, rfl, rfl, by omega, by omega, by go_num, _, by rw [hnx.out]; exact HG7, by rw [hnx.out, List.map_append]; exact Lib.hid ⟨HT7.out, by decide, by decide, by decide⟩, by rw [hnx.out]; exact HI7⟩
                      case measure => simp [intOf]; omega
                    have n1 : ¬ (K = 1) := e1
                    by_cases e2 : K = 2
                    · subst e2
                      have hcall := Lib.hid (hAr.out.manyS Or_any or_ok (by omega) (.inl rfl) hM12.out hbt.out (by omega) (by omega))
                      have hnx : Hid (R (i + 1) = ⟨(manyG orG 0 G b).1, t ++ [(manyG orG 0 G b).2], ins⟩) := hsu
                      generalize manyG orG 0 G b = r at *
                      obtain ⟨G2, x⟩ := r
                      go_wp2_with (first | (go_at_call 12; (with_reducible refine hcall.out.mono ?_); rintro e w6 ⟨rfl, p6, hA6, hS⟩; have hT6 := Lib.hid (hTr.out.next hAr.out.is hS.kept); have hI6 := Lib.hid (hIr.out.next hAr.out.is hS.kept); have hA6 := Lib.hid hA6; clear hS) | (at_builtin; refine wpList_append_lies _ rfl _ _ 30 rfl wb.heap.size 42 l0 (.int .u32 0) 1 4 Try.underlying30 li lz0 lz1 lz2 rfl (by decide) (.slice a8 (i + 2) c8) (i + 2) _ rfl (hT6.out.own.alloc _) ⟨_, 0, none⟩ 1 1 [.int .u32 _] rfl rfl (cell_one_new _ _ _) (by simp [Value.oneCell']) (by decide) (by unfold maxLen; omega) (by omega) (by have := hA6.out.below.size; simp; omega) _ rfl ?_; intro g cap1 w7 hown1 hgrow1 hat1 hlt1; have HT7 := Lib.hid hown1; have HG7 := Lib.hid ((hA6.out.step ((Below.refl _ _).alloc (Nat.le_refl _) _)).grown (hT6.out.step ((Below.refl _ _).alloc (Nat.le_refl _) _)) hgrow1); have HI7 := Lib.hid ((hI6.out.step ((Below.refl _ _).alloc (Nat.le_refl _) _)).grown (hT6.out.step ((Below.refl _ _).alloc (Nat.le_refl _) _)) (by decide) hgrow1); clear hown1 hgrow1 hat1 hlt1))
                      go_roundw
                      case rel => exact ⟨i + 1, _, _, rfl, rfl, by omega, by omega, by go_num, _, by rw [hnx.out]; exact HG7, by rw [hnx.out, List.map_append]; exact Lib.hid ⟨HT7.out, by decide, by decide, by decide⟩, by rw [hnx.out]; exact HI7⟩
                      case measure => simp [intOf]; omega
                    have n2 : ¬ (K = 2) := e2
                    by_cases e3 : K = 3
                    · subst e3
                      have hcall := Lib.hid (hAr.out.manyS Xor_any xor_ok (by omega) (.inl rfl) hM12.out hbt.out (by omega) (by omega))
                      have hnx : Hid (R (i + 1) = ⟨(manyG xorG 0 G b).1, t ++ [(manyG xorG 0 G b).2], ins⟩) := hsu
                      generalize manyG xorG 0 G b = r at *
                      obtain ⟨G2, x⟩ := r
                      go_wp2_with (first | (go_at_call 13; (with_reducible refine hcall.out.mono ?_); rintro e w6 ⟨rfl, p6, hA6, hS⟩; have hT6 := Lib.hid (hTr.out.next hAr.out.is hS.kept); have hI6 := Lib.hid (hIr.out.next hAr.out.is hS.kept); have hA6 := Lib.hid hA6; clear hS) | (at_builtin; refine wpList_append_lies _ rfl _ _ 30 rfl wb.heap.size 42 l0 (.int .u32 0) 1 4 Try.underlying30 li lz0 lz1 lz2 rfl (by decide) (.slice a8 (i + 2) c8) (i + 2) _ rfl (hT6.out.own.alloc _) ⟨_, 0, none⟩ 1 1 [.int .u32 _] rfl rfl (cell_one_new _ _ _) (by simp [Value.oneCell']) (by decide) (by unfold maxLen; omega) (by omega) (by have := hA6.out.below.size; simp; omega) _ rfl ?_; intro g cap1 w7 hown1 hgrow1 hat1 hlt1; have HT7 := Lib.hid hown1; have HG7 := Lib.hid ((hA6.out.step ((Below.refl _ _).alloc (Nat.le_refl _) _)).grown (hT6.out.step ((Below.refl _ _).alloc (Nat.le_refl _) _)) hgrow1); have HI7 := Lib.hid ((hI6.out.step ((Below.refl _ _).alloc (Nat.le_refl _) _)).grown (hT6.out.step ((Below.refl _ _).alloc (Nat.le_refl _) _)) (by decide) hgrow1); clear hown1 hgrow1 hat1 hlt1))
                      go_roundw
                      case rel => exact ⟨i + 1, _, _, rfl, rfl, by omega, by omega, by go_num, _, by rw [hnx.out]; exact HG7, by rw [hnx.out, List.map_append]; exact Lib.hid ⟨HT7.out, by decide, by decide, by decide⟩, by rw [hnx.out]; exact HI7⟩
                      case measure => simp [intOf]; omega
                    have n3 : ¬ (K = 3) := e3
                    by_cases e4 : K = 4
                    · subst e4
                      have hbl := hbl.out
                      have t0 : There G (b.getD 0 0) := hbt.out.at (by omega)
                      have t1 : There G (b.getD 1 0) := hbt.out.at (by omega)
                      have t2 : There G (b.getD 2 0) := hbt.out.at (by omega)
                      have cl := Lib.hid (fun (w' : World) (h : Mine wb w' 42 (.slice (some ⟨g12, 0, none⟩) j c12) j (b.map (Value.int .u32))) => (⟨mine_cell h (by omega) (by omega), mine_cell h (by omega) (by omega), mine_cell h (by omega) (by omega)⟩ : w'.cell? ⟨g12, 0, none⟩ = some (.int .u32 (b.getD 0 0)) ∧ w'.cell? ⟨g12, 1, none⟩ = some (.int .u32 (b.getD 1 0)) ∧ w'.cell? ⟨g12, 2, none⟩ = some (.int .u32 (b.getD 2 0))))
                      have hAd := hAr.out.step (below_draws wr 1)
                      have hTd := Lib.hid (hTr.out.step (below_draws wr 1))
                      have hId := Lib.hid (hIr.out.step (below_draws wr 1))
                      have hMd := Lib.hid (hM12.out.step (below_draws wr 1))
                      have hcall : Hid (Calls Try.prog 14 #[.pointer (some ⟨B, 0, none⟩), .int .u32 (b.getD 0 0), .int .u32 (b.getD 1 0), .int .u32 (b.getD 2 0)] wr.drew fun e w' => e = .returned (.tuple #[.int .u32 (muxG G (b.getD 0 0) (b.getD 1 0) (b.getD 2 0)).2, .int .i64 0]) ∧ ∃ p', AtG wb B w' p' (muxG G (b.getD 0 0) (b.getD 1 0) (b.getD 2 0)).1 ∧ Step p wr.drew p' w' (muxG G (b.getD 0 0) (b.getD 1 0) (b.getD 2 0)).1) := Lib.hid (hAd.mux (by omega) t0 t1 t2)
                      have hAd := Lib.hid hAd
                      have hnx : Hid (R (i + 1) = ⟨(muxG G (b.getD 0 0) (b.getD 1 0) (b.getD 2 0)).1, t ++ [(muxG G (b.getD 0 0) (b.getD 1 0) (b.getD 2 0)).2], ins⟩) := hsu
                      obtain ⟨x0, x1, x2⟩ := cl.out _ hM12.out
                      clear t0 t1 t2
                      generalize muxG G (b.getD 0 0) (b.getD 1 0) (b.getD 2 0) = r at *
                      obtain ⟨G2, x⟩ := r
                      generalize b.getD 0 0 = z0 at *
                      generalize b.getD 1 0 = z1 at *
                      generalize b.getD 2 0 = z2 at *
                      have y0 : (0 : Int) < (j : Int) := by omega
                      have y0n : 0 < j := by omega
                      have y1 : (1 : Int) < (j : Int) := by omega
                      have y2 : (2 : Int) < (j : Int) := by omega
                      go_wp2
                      go_region_held3 (fun w' => w'.cell? ⟨g12, 0, none⟩ = some (.int .u32 z0) ∧ w'.cell? ⟨g12, 1, none⟩ = some (.int .u32 z1) ∧ w'.cell? ⟨g12, 2, none⟩ = some (.int .u32 z2)) (go_keep) (first | (go_at_call 14; (with_reducible refine hcall.out.mono ?_); rintro e w6 ⟨rfl, p6, hA6, hS⟩; have hT6 := Lib.hid (hTd.out.next hAd.out.is hS.kept); have hI6 := Lib.hid (hId.out.next hAd.out.is hS.kept); obtain ⟨w0_, w1_, w2_⟩ := cl.out _ (hMd.out.next hAd.out.is hS.kept); have hA6 := Lib.hid hA6; clear hS))
                      go_wp2_with (first | (at_builtin; refine wpList_append_lies _ rfl _ _ 30 rfl wb.heap.size 42 l0 (.int .u32 0) 1 4 Try.underlying30 li lz0 lz1 lz2 rfl (by decide) (.slice a8 (i + 2) c8) (i + 2) _ rfl (hT6.out.own.alloc _) ⟨_, 0, none⟩ 1 1 [.int .u32 _] rfl rfl (cell_one_new _ _ _) (by simp [Value.oneCell']) (by decide) (by unfold maxLen; omega) (by omega) (by have := hA6.out.below.size; simp; omega) _ rfl ?_; intro g cap1 w7 hown1 hgrow1 hat1 hlt1; have HT7 := Lib.hid hown1; have HG7 := Lib.hid ((hA6.out.step ((Below.refl _ _).alloc (Nat.le_refl _) _)).grown (hT6.out.step ((Below.refl _ _).alloc (Nat.le_refl _) _)) hgrow1); have HI7 := Lib.hid ((hI6.out.step ((Below.refl _ _).alloc (Nat.le_refl _) _)).grown (hT6.out.step ((Below.refl _ _).alloc (Nat.le_refl _) _)) (by decide) hgrow1); clear hown1 hgrow1 hat1 hlt1))
                      go_roundw
                      case rel => exact ⟨i + 1, _, _, rfl, rfl, by omega, by omega, by go_num, _, by rw [hnx.out]; exact HG7, by rw [hnx.out, List.map_append]; exact Lib.hid ⟨HT7.out, by decide, by decide, by decide⟩, by rw [hnx.out]; exact HI7⟩
                      case measure => simp [intOf]; omega
                    have n4 : ¬ (K = 4) := e4
                    by_cases e0 : K = 0
                    · subst e0
                      have hcall := Lib.hid (hAr.out.inputS (by omega))
                      have hnx0 : Hid (R (i + 1) = ⟨inputG G, t ++ [2 * (G.nodes.length : Int)], ins ++ [if ins.length < ws.length then ws.getD ins.length 0 else (i : Int)]⟩) := hsu
                      obtain ⟨r0, ri, rz0, rz1, rz2⟩ := info_parts info_u64
                      generalize 2 * (G.nodes.length : Int) = x at *
                      generalize inputG G = G2 at *
                      have hwr : IntKind.u64.wrap (i : Int) = i := Num.nat64 (by omega)
                      have hbw := hR.out.below
                      by_cases hiw' : ins.length < wn
                      · obtain ⟨bw, ow, rfl, hbw1, hcw⟩ := HW.out.at (by omega)
                        have hcw := hcw _ hiw'
                        have hnx : Hid (R (i + 1) = ⟨G2, t ++ [x], ins ++ [ws.getD ins.length 0]⟩) := by
                          have := hnx0; rw [if_pos (by omega)] at this; exact this
                        clear hnx0 hsu
                        generalize ws.getD ins.length 0 = W at *
                        have hcw := Lib.hid hcw
                        have hbw := Lib.hid hbw
                        go_wp2_with (first | (go_at_call 23; (with_reducible refine hcall.out.mono ?_); rintro e w6 ⟨rfl, p6, hA6, hS⟩; have hT6 := Lib.hid (hTr.out.next hAr.out.is hS.kept); have hI6 := Lib.hid (hIr.out.next hAr.out.is hS.kept); have kw := stepc (hbw.out.trans (hA6.below.mono hbw.out.size)) hbw1 hcw.out; have hA6 := Lib.hid hA6; clear hS) | (at_builtin; refine wpList_append_lies _ rfl _ _ 26 rfl wb.heap.size 36 r0 (.int .u64 0) 1 8 Try.underlying26 ri rz0 rz1 rz2 rfl (by decide) (.slice a9 ins.length c9) ins.length _ rfl (hI6.out.own.alloc _) ⟨_, 0, none⟩ 1 1 [.int .u64 _] rfl rfl (cell_one_new _ _ _) (by simp [Value.oneCell']) (by decide) (by unfold maxLen; omega) (by omega) (by have := hA6.out.below.size; simp; omega) _ rfl ?_; intro g8 cap8 w8 hown8 hgrow8 hat8 hlt8; have hI8 := Lib.hid (Mine.mk hown8 (by decide) (by decide) (by decide)); have hA8 := Lib.hid ((hA6.out.step ((Below.refl _ _).alloc (Nat.le_refl _) _)).grown (hI6.out.step ((Below.refl _ _).alloc (Nat.le_refl _) _)) hgrow8); have hT8 := Lib.hid ((hT6.out.step ((Below.refl _ _).alloc (Nat.le_refl _) _)).grown (hI6.out.step ((Below.refl _ _).alloc (Nat.le_refl _) _)) (by decide) hgrow8); clear hA6 hT6 hI6 hown8 hgrow8 hat8 hlt8; have hA6 := hA8; have hT6 := hT8; have hI6 := hI8; clear hA8 hT8 hI8) | (at_builtin; refine wpList_append_lies _ rfl _ _ 30 rfl wb.heap.size 42 l0 (.int .u32 0) 1 4 Try.underlying30 li lz0 lz1 lz2 rfl (by decide) (.slice a8 (i + 2) c8) (i + 2) _ rfl (hT6.out.own.alloc _) ⟨_, 0, none⟩ 1 1 [.int .u32 _] rfl rfl (cell_one_new _ _ _) (by simp [Value.oneCell']) (by decide) (by unfold maxLen; omega) (by omega) (by have := hA6.out.below.size; simp; omega) _ rfl ?_; intro g cap1 w7 hown1 hgrow1 hat1 hlt1; have HT7 := Lib.hid hown1; have HG7 := Lib.hid ((hA6.out.step ((Below.refl _ _).alloc (Nat.le_refl _) _)).grown (hT6.out.step ((Below.refl _ _).alloc (Nat.le_refl _) _)) hgrow1); have HI7 := Lib.hid ((hI6.out.step ((Below.refl _ _).alloc (Nat.le_refl _) _)).grown (hT6.out.step ((Below.refl _ _).alloc (Nat.le_refl _) _)) (by decide) hgrow1); clear hown1 hgrow1 hat1 hlt1))
                        go_roundw
                        case rel =>
                          refine ⟨i + 1, _, _, rfl, rfl, by omega, by omega, by go_num, _, by rw [hnx.out]; exact HG7, by rw [hnx.out, List.map_append]; exact Lib.hid ⟨HT7.out, by decide, by decide, by decide⟩, ?_⟩
                          rw [hnx.out]
                          show Hid (Mine wb _ _ _ (ins ++ [W]).length ((ins ++ [W]).map (Value.int .u64)))
                          rw [show (ins ++ [W]).length = ins.length + 1 by simp, List.map_append]
                          exact HI7
                        case measure => simp [intOf]; omega
                      · have hnx : Hid (R (i + 1) = ⟨G2, t ++ [x], ins ++ [(i : Int)]⟩) := by
                          have := hnx0; rw [if_neg (by omega)] at this; exact this
                        clear hnx0 hsu
                        have hbw := Lib.hid hbw
                        go_wp2_with (first | (go_at_call 23; (with_reducible refine hcall.out.mono ?_); rintro e w6 ⟨rfl, p6, hA6, hS⟩; have hT6 := Lib.hid (hTr.out.next hAr.out.is hS.kept); have hI6 := Lib.hid (hIr.out.next hAr.out.is hS.kept); have hA6 := Lib.hid hA6; clear hS) | (at_builtin; refine wpList_append_lies _ rfl _ _ 26 rfl wb.heap.size 36 r0 (.int .u64 0) 1 8 Try.underlying26 ri rz0 rz1 rz2 rfl (by decide) (.slice a9 ins.length c9) ins.length _ rfl (hI6.out.own.alloc _) ⟨_, 0, none⟩ 1 1 [.int .u64 _] rfl rfl (cell_one_new _ _ _) (by simp [Value.oneCell']) (by decide) (by unfold maxLen; omega) (by omega) (by have := hA6.out.below.size; simp; omega) _ rfl ?_; intro g8 cap8 w8 hown8 hgrow8 hat8 hlt8; have hI8 := Lib.hid (Mine.mk hown8 (by decide) (by decide) (by decide)); have hA8 := Lib.hid ((hA6.out.step ((Below.refl _ _).alloc (Nat.le_refl _) _)).grown (hI6.out.step ((Below.refl _ _).alloc (Nat.le_refl _) _)) hgrow8); have hT8 := Lib.hid ((hT6.out.step ((Below.refl _ _).alloc (Nat.le_refl _) _)).grown (hI6.out.step ((Below.refl _ _).alloc (Nat.le_refl _) _)) (by decide) hgrow8); clear hA6 hT6 hI6 hown8 hgrow8 hat8 hlt8; have hA6 := hA8; have hT6 := hT8; have hI6 := hI8; clear hA8 hT8 hI8) | (at_builtin; refine wpList_append_lies _ rfl _ _ 30 rfl wb.heap.size 42 l0 (.int .u32 0) 1 4 Try.underlying30 li lz0 lz1 lz2 rfl (by decide) (.slice a8 (i + 2) c8) (i + 2) _ rfl (hT6.out.own.alloc _) ⟨_, 0, none⟩ 1 1 [.int .u32 _] rfl rfl (cell_one_new _ _ _) (by simp [Value.oneCell']) (by decide) (by unfold maxLen; omega) (by omega) (by have := hA6.out.below.size; simp; omega) _ rfl ?_; intro g cap1 w7 hown1 hgrow1 hat1 hlt1; have HT7 := Lib.hid hown1; have HG7 := Lib.hid ((hA6.out.step ((Below.refl _ _).alloc (Nat.le_refl _) _)).grown (hT6.out.step ((Below.refl _ _).alloc (Nat.le_refl _) _)) hgrow1); have HI7 := Lib.hid ((hI6.out.step ((Below.refl _ _).alloc (Nat.le_refl _) _)).grown (hT6.out.step ((Below.refl _ _).alloc (Nat.le_refl _) _)) (by decide) hgrow1); clear hown1 hgrow1 hat1 hlt1))
                        go_roundw
                        case rel =>
                          refine ⟨i + 1, _, _, rfl, rfl, by omega, by omega, by go_num, _, by rw [hnx.out]; exact HG7, by rw [hnx.out, List.map_append]; exact Lib.hid ⟨HT7.out, by decide, by decide, by decide⟩, ?_⟩
                          rw [hnx.out]
                          show Hid (Mine wb _ _ _ (ins ++ [(i : Int)]).length ((ins ++ [(i : Int)]).map (Value.int .u64)))
                          rw [show (ins ++ [(i : Int)]).length = ins.length + 1 by simp, List.map_append]
                          exact HI7
                        case measure => simp [intOf]; omega
                    have n0 : ¬ (K = 0) := e0
                    have hnx : Hid (R (i + 1) = ⟨G, t ++ [0], ins⟩) := Lib.hid (by rw [hsu.out]; simp [callO, insO, n0, n1, n2, n3, n4])
                    have hA6 := hAr
                    have hT6 := hTr
                    have hI6 := hIr
                    go_wp2_with (first | (at_builtin; refine wpList_append_lies _ rfl _ _ 30 rfl wb.heap.size 42 l0 (.int .u32 0) 1 4 Try.underlying30 li lz0 lz1 lz2 rfl (by decide) (.slice a8 (i + 2) c8) (i + 2) _ rfl (hT6.out.own.alloc _) ⟨_, 0, none⟩ 1 1 [.int .u32 _] rfl rfl (cell_one_new _ _ _) (by simp [Value.oneCell']) (by decide) (by unfold maxLen; omega) (by omega) (by have := hA6.out.below.size; simp; omega) _ rfl ?_; intro g cap1 w7 hown1 hgrow1 hat1 hlt1; have HT7 := Lib.hid hown1; have HG7 := Lib.hid ((hA6.out.step ((Below.refl _ _).alloc (Nat.le_refl _) _)).grown (hT6.out.step ((Below.refl _ _).alloc (Nat.le_refl _) _)) hgrow1); have HI7 := Lib.hid ((hI6.out.step ((Below.refl _ _).alloc (Nat.le_refl _) _)).grown (hT6.out.step ((Below.refl _ _).alloc (Nat.le_refl _) _)) (by decide) hgrow1); clear hown1 hgrow1 hat1 hlt1))
                    go_roundw
                    case rel => exact ⟨i + 1, _, _, rfl, rfl, by omega, by omega, by go_num, _, by rw [hnx.out]; exact HG7, by rw [hnx.out, List.map_append]; exact Lib.hid ⟨HT7.out, by decide, by decide, by decide⟩, by rw [hnx.out]; exact HI7⟩
                    case measure => simp [intOf]; omega
          · have hmin : Hid (min n 40 = i) := Lib.hid (by omega)
            go_wp2_with fail
            all_goals
              go_meet
              rw [hmin.out]
              exact ⟨a8, c8, a9, c9, p, rfl, rfl, hAi, hTi, hIi⟩
      case rest =>
        obtain ⟨a8, c8, a9, c9, p, rfl, rfl, hA2, hT2, hI2⟩ := hcut
        have hki := hkind.out (min n 40) (by omega)
        have hm40 : min n 40 ≤ 40 := by omega
        clear hkind hsucc h0 hA1
        generalize R (min n 40) = s at *
        generalize hMM : (meanO ws l (min n 40)).1 = M at *
        have HMM := Lib.hid hMM
        generalize hmn : min n 40 = m at *
        have HMN := Lib.hid hmn
        clear hmn
        obtain ⟨G, t, ins⟩ := s
        simp only at hA2 hT2 hI2
        have hinl : G.inputs.length = ins.length := hki.inl
        have htl : t.length = m + 2 := hki.told
        have hG9 : G.nodes.length ≤ 1000 := by have : G.nodes.length ≤ 1 + 24 * m := hki.len; omega
        have hlt : Hid (∀ j, IsLit (t.getD j 0)) := Lib.hid (fun j => by
          by_cases hj : j < t.length
          · exact (hki.there.at hj).1
          · rw [List.getD, List.getElem?_eq_none (by omega)]; simp [IsLit])
        have hmean := Lib.hid (fun E (v : Val G ins E) => hki.mean G ins E (Le.refl G) v (fun _ _ => rfl))
        rw [hMM] at hmean
        have hiw : Words ins := hki.words
        have hil : ins.length ≤ 1000 := by have := hki.wf.cnt; have : G.nodes.countP (·.gate) + G.inputs.length + 1 = G.nodes.length := this; omega
        have hev : Hid (Calls Try.prog 9 #[.pointer (some ⟨B, 0, none⟩), .slice a9 ins.length c9] wc fun e w' => ∃ E aE, e = .returned (.tuple #[.slice aE G.nodes.length G.nodes.length, .int .i64 0])
            ∧ Mine wb w' 36 (.slice aE G.nodes.length G.nodes.length) G.nodes.length (E.map (Value.int .u64)) ∧ E.length = G.nodes.length ∧ Val G ins E ∧ Below wc.heap.size wc w') := by
          have hrow := (hI2.out.row (by omega)).1
          rw [← hinl] at hrow
          have := hA2.out.eval (cap := c9) hrow hiw
          rw [hinl] at this
          exact Lib.hid this
        clear hki hMM hiw
        go_wp2_with (go_at_call 9; (with_reducible refine hev.out.mono ?_); rintro e w7 ⟨E, aE, rfl, hME, hEl, hV, hB7⟩)
        have hB7' := Lib.hid (hA2.out.below.trans (hB7.mono hA2.out.below.size))
        have hT7 := Lib.hid (hT2.out.step hB7)
        have hME := Lib.hid hME
        have hmE := Lib.hid (hmean.out E hV)
        have hEw := Lib.hid hV.words
        obtain ⟨hst, hfz⟩ := all_start hR.out hk4 hB7'.out
        have hA7 : w.heap.size < w7.heap.size := Nat.lt_of_lt_of_le hR.out.lt hB7'.out.size
        have hst := Lib.hid hst
        clear hev hA2 hI2 hT2 hB7 hmean
        obtain ⟨r0, ri, rz0, rz1, rz2⟩ := info_parts info_u64
        have hMl : Hid (M.length = m + 2) := Lib.hid (by rw [← hmE.out]; simp [htl])
        have hMw : Hid (∀ j, wordV (t.getD j 0) E = M.getD j 0) := Lib.hid (fun j => by rw [← hmE.out, map_getD (f := fun y => wordV y E) (wordV_0 E)])
        go_loopw [162] (fun i0 w' => ∃ (j : Nat) (v : Value), j ≤ m + 2 ∧ i0 = .int .i64 j ∧ Hid (AllK w.heap.size k w7 w' v j ((M.take j).map (Value.int .u64)))) (fun i0 _ => (m + 2) - (intOf i0).toNat)
        case atStart => exact ⟨0, _, Nat.zero_le _, rfl, hst⟩
        case round =>
          clear hst
          obtain ⟨j, v, hj, rfl, hK⟩ := hrel
          by_cases hjt : j < m + 2
          · obtain ⟨hrt, -⟩ := hT7.out.row (by omega)
            obtain ⟨b8, o8, rfl, hb8, hc8⟩ := hrt.at (by omega)
            have hR' := hR.out.lt
            have x8 := (kept_cell (o := o8 + j) hK.out.kept hb8 (fun e => by have := own_ge hT7.out.own b8 rfl; omega)).1.trans (hc8 j hjt)
            have hmr := Lib.hid ((hME.out.beside hK.out.kept (fun k' e1 e2 => by have := own_ge hME.out.own k' e1; omega)).row (by omega)).1
            have hwd := Lib.hid (fun w' (hb : Below wr.heap.size wr w') => word_as (a := aE) (n := G.nodes.length) (cap := G.nodes.length) (hMw.out j) (hlt.out j) w' (hmr.out.step hb) hEw.out)
            have htk : Hid ((M.take (j + 1)).map (Value.int .u64) = (M.take j).map (Value.int .u64) ++ [.int .u64 (M.getD j 0)]) := Lib.hid (by
              have := hMl.out
              rw [List.take_add_one, List.map_append]
              simp [List.getD, show j < M.length by omega])
            have kc := hK.out.cell
            have kf := (hK.out.froz k).trans (hfz k hk4)
            have hko := Lib.hid hK.out.own
            have hfar := Lib.hid (hK.out.far hA7)
            have hks := hK.out.kept.size
            have k3 : (k : Int) < 4 := by omega
            have hlA : w.heap.size < wr.heap.size := by omega
            have hnA : w.heap.size ≠ wr.heap.size := by omega
            have hdr : Below wr.heap.size wr wr.drew := below_draws wr 1
            clear hrt hc8 hmr
            generalize t.getD j 0 = Y at *
            generalize M.getD j 0 = V at *
            go_wp2
            go_region_law (first
              | (go_simp; go_at_call 16; (with_reducible refine (hwd.out wr.drew hdr).mono ?_); rintro e w9 ⟨rfl, rfl⟩)
              | ((refine step_append_lies _ (by rfl) (.tmp 169) (.tmp 173) _ (by rfl) w7.heap.size 36 r0 (.int .u64 0) 1 8 Try.underlying26 ri rz0 rz1 rz2 rfl (by decide) v j _ (by rfl) (by first | exact (hko.out.drew.alloc _) | exact (hko.out.alloc _).drew | exact hko.out.drew) _ 1 1 [.int .u64 V] (by rfl) rfl (by exact news_one (by go_simp)) (by simp [Value.oneCell']) (by decide) (by unfold maxLen; omega) (by omega) (by simp; omega) _ rfl ?_; intro g1 cap1 w1' hown1 hgrow1 hat1 hlt1; obtain ⟨c0, c1⟩ := grow_box hgrow1 (b := w.heap.size) (o := k) (v := v) (by go_simp) (by go_simp) hfar.out)))
            all_goals go_wp2
            all_goals go_roundw
            all_goals try (case measure => simp [intOf]; omega)
            all_goals exact ⟨j + 1, _, by omega, by go_num, by rw [htk.out]; exact Lib.hid (all_next hK.out hA7 (by first | exact ((Below.refl _ _).alloc (Nat.le_refl _) _).drew | exact ((Below.refl _ _).drew).alloc (Nat.le_refl _) _) hown1 hgrow1)⟩
          · obtain rfl : j = m + 2 := by omega
            have hfull : Hid (M.take (m + 2) = M) := Lib.hid (List.take_of_length_le (by rw [hMl.out]; exact Nat.le_refl _))
            go_wp2
            go_roundw
            case rel =>
              refine ⟨k + 1, by omega, by go_num, ?_⟩
              rw [HMN.out, HMM.out]
              refine Lib.hid (all_done hR.out hB7'.out (v := v) ?_)
              have := hK.out
              rw [hfull.out] at this
              rw [hMl.out]; exact this
            case measure => simp [intOf]; omega
    · obtain rfl : k = 4 := by omega
      have hrows := Lib.hid (all_rows hR.out (by rw [meanO_len]; omega))
      have hwk := Lib.hid (fun w => wakes_any w)
      have hAl := hR.out.lt
      have hBb := Lib.hid hR.out.below
      clear hR HA HW HWs
      generalize (meanO ws l (min n 40)).1 = M at *
      go_wp2
      go_loopw [178] (fun i w' => ∃ i' : Nat, i' ≤ 4 ∧ i = .int .i64 i' ∧ Below wb.heap.size wb w') (fun i _ => 4 - (intOf i).toNat)
      case atStart => exact ⟨0, Nat.zero_le _, rfl, Below.refl _ _⟩
      case round =>
        obtain ⟨i, hi, rfl, hB⟩ := hrel
        by_cases hi4 : i < 4
        · obtain ⟨ai, ci, hci, hri⟩ := hrows.out i hi4
          have xi := stepc hB hAl hci
          have hri := Lib.hid hri
          have hci := Lib.hid hci
          have i3 : (i : Int) < 4 := by omega
          have hml := hri.out.le
          go_wp2
          have HB := Lib.hid hB
          clear hB xi
          go_loopw [185] (fun i0 w' => ∃ j : Nat, j ≤ M.length ∧ i0 = .int .i64 j ∧ Below wb.heap.size wb w') (fun i0 _ => M.length - (intOf i0).toNat)
          case atStart => exact ⟨0, Nat.zero_le _, rfl, HB.out⟩
          case round =>
            clear HB
            obtain ⟨j, hj, rfl, hB⟩ := hrel
            by_cases hjm : j < M.length
            · obtain ⟨b1, o1, rfl, hb1, hc1⟩ := hri.out.at (by omega)
              obtain ⟨a0, c0, hc0, hr0⟩ := hrows.out 0 (by omega)
              obtain ⟨b0, o0, rfl, hb0, hc00⟩ := hr0.at (by omega)
              have x1 := stepc hB hAl hci.out
              have x2 := stepc hB hb1 (hc1 j hjm)
              have x3 := stepc hB hAl hc0
              have x4 := stepc hB hb0 (hc00 j hjm)
              clear hc1 hc0 hr0 hc00
              generalize M.getD j 0 = V at *
              go_wp2
              go_quiet (fail)
              go_wp2
              go_roundw
              case rel => exact ⟨j + 1, by omega, by go_num, nextw hB (below_draws _ _)⟩
              case measure => simp [intOf]; omega
            · obtain rfl : j = M.length := by omega
              go_wp2
              go_roundw
              case rel => exact ⟨i + 1, by omega, by go_num, hB⟩
              case measure => simp [intOf]; omega
        · obtain rfl : i = 4 := by omega
          go_wp2_with (go_at_call 7; (with_reducible refine (hwk.out _).mono ?_); rintro e w9 ⟨rfl, hB9⟩)
          go_ret
          exact ⟨rfl, hBb.out.trans ((nextw hB hB9).mono hBb.out.size)⟩
end Go.Proofs.Ytlbmbpkabmihnaa
