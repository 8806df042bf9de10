/-
  NetWell: the walk.
-/
import Derived.Test.YtjdebancpgpebaaNwM
import Derived.Carry
import Derived.Lib.SliceRun
namespace Go.Proofs.Ytjdebancpgpebaa
open Go.RowKit Go.Maps Bits
set_option maxRecDepth 100000

set_option maxHeartbeats 8000000 in
theorem NetWell_any (F H : Bool) {w : World} {a : Option Addr} {n c : Nat} {S : Nat → StV} (hs : StRow w a n S) :
    Calls Try.prog 3 #[.agg #[.bool F, .bool H], .slice a n c] w fun e w' => e = .returned (.bool true) ∧ Below w.heap.size w w' := by
  have hb0 : Below w.heap.size w (w.alloc (.cells #[.bool F, .bool H] 23)) := (Below.refl _ _).alloc (Nat.le_refl _) _
  have hnew := Lib.hid (AtN.new w hb0 F H top_may)
  have HS := Lib.hid hs
  have hle := hs.le
  have hg0 : Hid (Good ⟨newG F H, sTop, [], [], []⟩ []) := Lib.hid (Good.new F H top_may)
  have hu0 := Lib.hid (upto0 F H)
  clear hs hb0
  go_enter Try.func3, Try.ntmps3
  go_upto_block 0 with (go_at_call 5; (with_reducible refine hnew.out.mono ?_); rintro e w2 ⟨q0, B, C, rfl, hA0⟩; obtain ⟨b0, b1⟩ := hA0.cells)
  have hA0 := Lib.hid hA0
  clear hnew b0 b1
  go_cut [7] (fun s wx => ∃ (q : NPl) (N : Nt), Hid (AtN w B C wx q N) ∧ Hid (Good N []) ∧ Hid (Small N))
  case first =>
    go_wp2_with fail
    go_loopw [7] (fun i wr => ∃ (j : Nat) (q : NPl) (N : Nt), j ≤ min n 60 ∧ i = .int .i64 j ∧ Hid (AtN w B C wr q N) ∧ Hid (Good N []) ∧ Hid (Upto N j)) (fun i _ => min n 60 - (intOf i).toNat)
    case atStart => exact ⟨0, _, _, Nat.zero_le _, rfl, hA0, hg0, hu0⟩
    case round =>
      clear hA0 hg0 hu0
      obtain ⟨j, q, N, hj, rfl, hA, hG, hU⟩ := hrel
      have hSm := Lib.hid (hU.out.small (by omega))
      by_cases hlt : j < min n 60
      · have hjn : j < n := by omega
        have hj60 : j < 60 := by omega
        obtain ⟨b, off, rfl, hb, k0, k1, k2, k3, k4, k5, k6⟩ := HS.out.at hjn
        have k0 := stepc hA.out.below hb k0
        have k1 := stepc hA.out.below hb k1
        have k2 := stepc hA.out.below hb k2
        have k3 := stepc hA.out.below hb k3
        have k4 := stepc hA.out.below hb k4
        have k5 := stepc hA.out.below hb k5
        have k6 := stepc hA.out.below hb k6
        have hst := Lib.hid (HS.out.ok j hjn)
        generalize S j = s at *
        by_cases h8 : s.what = 8
        · rw [h8] at k0
          have hU2 := Lib.hid (hU.out.mono (Nat.le_succ j))
          clear hSm
          go_wp2_with fail
          exact ⟨⟨j + 1, q, N, by omega, by go_num, hA, hG, hU2⟩, by simp [intOf]; omega⟩
        · have g8 := beqf h8
          have hbl : b < wr.heap.size := Nat.lt_of_lt_of_le hb hA.out.below.size
          have hcp := Lib.hid (hA.out.copy hG.out hSm.out)
          obtain ⟨⟨N', ls, r⟩, hd⟩ : ∃ x, doesN N s = x := ⟨_, rfl⟩
          have hgd := Lib.hid (by have := doesN_good hG.out hSm.out hst.out h8; rw [hd] at this; exact this)
          have hup := Lib.hid (by have := hU.out.does (by omega) hG.out hst.out; rw [hd] at this; exact this)
          have href : Hid (r ≠ 0 → N' = N) := Lib.hid (by have := @doesN_refused N s; rw [hd] at this; exact this)
          have hdo := Lib.hid (fun w2 (hb2 : Below wr.heap.size wr w2) => AtN.does (hA.out.step hb2) hG.out hSm.out ((hst.out.step hA.out.below).step hb2) hd)
          have hsm2 := Lib.hid (hup.out.small (by omega))
          have hpos := hG.out.wf.pos
          have hAs := Lib.hid (fun k (hk : q.has k) => hA.out.is.has_lt hk)
          clear hd
          simp only [] at hgd hup hsm2
          generalize s.what = K at *
          generalize s.name = nm at *
          generalize s.n = sn at *
          generalize s.a = sa at *
          generalize s.b = sb at *
          generalize s.c = sc at *
          generalize s.la = la at *
          generalize s.ln = ln at *
          generalize s.lc = lc at *
          generalize ls.length = ll at *
          by_cases hr : r = 0
          · have hr0 := neq1 hr
            go_wp2_with (first
              | (go_at_call 6; (with_reducible refine hcp.out.mono ?_); rintro e w5 ⟨q2, rfl, hC, hb2, hn2⟩; have hdo2 := Lib.hid (hdo.out _ hb2); have e0 := stepc hb2 hbl k0; have e1 := stepc hb2 hbl k1; have e2 := stepc hb2 hbl k2; have e3 := stepc hb2 hbl k3; have e4 := stepc hb2 hbl k4; have e5 := stepc hb2 hbl k5; have e6 := stepc hb2 hbl k6; have hC := Lib.hid hC; have hn2 := Lib.hid hn2; clear hb2 hdo hcp k0 k1 k2 k3 k4 k5 k6)
              | (go_at_call 7; (with_reducible refine hdo2.out.mono ?_); rintro e w6 ⟨a6, c6, q6, rfl, hl6, hA6, hk6, hn6⟩; have hck := Lib.hid (hA6.check hgd.out hsm2.out (v := 0) rfl); have hA6 := Lib.hid hA6; clear hl6 hk6 hn6 hdo2)
              | (go_at_call 9; (with_reducible refine hck.out.mono ?_); rintro e w8 ⟨rfl, hb8⟩; have hA8 := Lib.hid (hA6.out.step hb8); clear hb8 hck))
            exact ⟨⟨j + 1, _, _, by omega, by go_num, hA8, hgd, hup⟩, by simp [intOf]; omega⟩
          · have hr0 := neq0 hr
            obtain rfl := href.out hr
            go_wp2_with (first
              | (go_at_call 6; (with_reducible refine hcp.out.mono ?_); rintro e w5 ⟨q2, rfl, hC, hb2, hn2⟩; have hdo2 := Lib.hid (hdo.out _ hb2); have e0 := stepc hb2 hbl k0; have e1 := stepc hb2 hbl k1; have e2 := stepc hb2 hbl k2; have e3 := stepc hb2 hbl k3; have e4 := stepc hb2 hbl k4; have e5 := stepc hb2 hbl k5; have e6 := stepc hb2 hbl k6; have hC := Lib.hid hC; have hn2 := Lib.hid hn2; clear hb2 hdo hcp k0 k1 k2 k3 k4 k5 k6)
              | (go_at_call 7; (with_reducible refine hdo2.out.mono ?_); rintro e w6 ⟨a6, c6, q6, rfl, hl6, hA6, hk6, hn6⟩; have hsa := Lib.hid (hA6.same (hC.out.beside hk6 (fun k hq hp => by have := hAs.out k hq; have := hn2.out k hp; omega) hn6) hpos); have hA6 := Lib.hid hA6; clear hl6 hk6 hn6 hdo2)
              | (go_at_call 8; (with_reducible refine hsa.out.mono ?_); rintro e w7 ⟨rfl, hb7⟩; have hA7 := Lib.hid (hA6.out.step hb7); have hck := Lib.hid (hA7.out.check hgd.out hsm2.out (v := 0) rfl); clear hb7 hsa)
              | (go_at_call 9; (with_reducible refine hck.out.mono ?_); rintro e w8 ⟨rfl, hb8⟩; have hA8 := Lib.hid (hA7.out.step hb8); clear hb8 hck))
            exact ⟨⟨j + 1, _, _, by omega, by go_num, hA8, hgd, hup⟩, by simp [intOf]; omega⟩
      · obtain rfl : j = min n 60 := by omega
        by_cases h6 : n ≤ 60
        · have hmn : min n 60 = n := by omega
          rw [hmn]
          go_wp2_with fail
          go_meet
          exact ⟨q, N, hA, hG, hSm⟩
        · have hmn : min n 60 = 60 := by omega
          have hn4 : 60 < n := by omega
          rw [hmn]
          go_wp2_with fail
          go_meet
          exact ⟨q, N, hA, hG, hSm⟩
  case rest =>
    clear hA0 hg0 hu0 HS hle
    obtain ⟨q, N, hA, hG, hSm⟩ := hcut
    have hmm := @run_makeMap Try.prog
    obtain ⟨cb0, cb1⟩ := hA.out.cells
    have hnb := hA.out.b
    obtain ⟨ia, ic, ra, rc, oa, oc, u1, u2, u3, a0, a1, a2, a3, a4, -⟩ := hA.out.is.cells
    rw [hnb] at a0 a1 a2 a3 a4
    rw [hA.out.gb] at a0
    have hbm : Below wc.heap.size wc (wc.alloc (.map #[] 0)) := (Below.refl _ _).alloc (Nat.le_refl _) _
    have hD0 : Hid (DS N wc.heap.size (leftB N [] 0) [] (.map []) (wc.alloc (.map #[] 0))) := Lib.hid ⟨by rw [leftB_zero]; simp, Drv.nil, World.ownsMap_made _ _ _ _⟩
    have hBm := Lib.hid hbm
    have d2 := stepc hbm cb1 a2
    have hIr := Lib.hid (show BusRow wc (.slice ia N.ins.length ic) N.ins by have := hA.out.is.ins; rw [u1] at this; exact this)
    have hOr := Lib.hid (show BusRow wc (.slice oa N.outs.length oc) N.outs by have := hA.out.is.outs; rw [u3] at this; exact this)
    have hRr := Lib.hid (show RegRow wc (.slice ra N.regs.length rc) N.regs by have := hA.out.is.regs; rw [u2] at this; exact this)
    obtain ⟨ni, hni0⟩ : ∃ ni, N.ins.length = ni := ⟨_, rfl⟩
    obtain ⟨nr, hnr0⟩ : ∃ nr, N.regs.length = nr := ⟨_, rfl⟩
    obtain ⟨no, hno0⟩ : ∃ no, N.outs.length = no := ⟨_, rfl⟩
    have hleI : ni ≤ 9000 := by have := hSm.out.ins; omega
    have hleR : nr ≤ 9000 := by have := hSm.out.regs; omega
    have hleO : no ≤ 9000 := by have := hSm.out.outs; omega
    rw [hni0] at a2 d2 hIr
    rw [hnr0] at a3 hRr
    rw [hno0] at a4 hOr
    have hni := Lib.hid hni0
    have hnr := Lib.hid hnr0
    have hno := Lib.hid hno0
    clear hbm hni0 hnr0 hno0 u1 u2 u3
    obtain ⟨wz, rfl⟩ : ∃ wz : World, wz = wc := ⟨_, rfl⟩
    go_wp2_with fail
    clear hmm
    go_loopw [90] (fun i wr => ∃ (j : Nat) (p : List Int) (D : DataW Unit), j ≤ ni ∧ i = .int .i64 j ∧ Hid (Below wz.heap.size wz wr) ∧ Hid (DS N wz.heap.size (leftB N [] j) p D wr)) (fun i _ => ni - (intOf i).toNat)
    case atStart => exact ⟨0, _, _, Nat.zero_le _, rfl, hBm, hD0⟩
    case round =>
      clear hD0 hBm d2
      obtain ⟨j, p, D, hj, rfl, hB, hD⟩ := hrel
      by_cases hlt : j < ni
      · have hiL : j < N.ins.length := by rw [hni.out]; exact hlt
        obtain ⟨g2, la, lc, rfl, hgl, b0, b1, hr⟩ := hIr.out.at hiL
        have d0 := stepc hB.out hgl b0
        have d1 := stepc hB.out hgl b1
        have d2 := stepc hB.out cb1 a2
        have hnm := hG.out.ins.name _ (List.getElem_mem hiL)
        have hwd := hG.out.ins.wide _ (List.getElem_mem hiL)
        have hB4 : Hid (Below wr.heap.size wr (wr.alloc (.cells #[.string N.ins[j].name, .slice la N.ins[j].lits.length lc] 46))) := Lib.hid ((Below.refl _ _).alloc (Nat.le_refl _) _)
        have hfi := Lib.hid (fun w2 (hb : Below wz.heap.size wz w2) => (show Calls Try.prog 11 #[.slice (some ⟨g2, 0, none⟩) j ic, .string N.ins[j].name] w2 fun e w' => e = .returned (.tuple #[.slice none 0 0, .bool false]) ∧ Below w2.heap.size w2 w' by
          have hbr := hIr.out.below hb
          rw [← hni.out] at hbr
          have := Find_any (hbr.take hiL) (by rw [List.length_take]; omega) (fun b hb => (hG.out.ins.wide b (List.mem_of_mem_take hb)).2) N.ins[j].name
          rw [atB_first hG.out.ins.apart hiL] at this
          exact this))
        have hD4 := Lib.hid (fun w2 (hb : Below wr.heap.size wr w2) => (show DS N wz.heap.size (leftD N [] j 0) p D w2 by rw [leftD_zero N [] hiL]; exact hD.out.step hb))
        have hD1 := Lib.hid (fun k => leftD_next N [] (k := k) hiL)
        have hD2 := Lib.hid (leftD_end N [] hiL)
        have hmn := Lib.hid (fun w => MayName_any N.ins[j].name w)
        rw [hnm] at hmn
        have hrr := Lib.hid hr.row
        have g1 : decide ((N.ins[j].lits.length : Int) < 1) = false := by simp; omega
        have g2' : decide (64 < (N.ins[j].lits.length : Int)) = false := by simp; omega
        have hl64 := hwd.2
        clear hnm hwd hr b0 b1 hD
        generalize hBB : N.ins[j] = Bb at *
        clear hBB
        generalize hll : Bb.lits.length = ll at *
        have hll := Lib.hid hll
        generalize Bb.name = nm at *
        generalize leftD N [] j = LD at *
        have f0 : (wr.alloc (.cells #[.string nm, .slice la ll lc] 46)).cell? ⟨wr.heap.size, 0, none⟩ = some (.string nm) := by simp [go_sem]
        have f1 : (wr.alloc (.cells #[.string nm, .slice la ll lc] 46)).cell? ⟨wr.heap.size, 1, none⟩ = some (.slice la ll lc) := by simp [go_sem]
        have fz : wr.heap.size < (wr.alloc (.cells #[.string nm, .slice la ll lc] 46)).heap.size := by simp
        obtain ⟨wy, rfl⟩ : ∃ wy : World, wy = wr := ⟨_, rfl⟩
        go_upto_region 20 with (go_at_call 10; (with_reducible refine (hmn.out _).mono ?_); rintro e w5 ⟨rfl, hb5⟩; have m0 := stepc hb5 fz f0; have m1 := stepc hb5 fz f1; have hb6 := nextw hB4.out hb5; have hb7 := nextw hB.out hb6; have m2 := stepc hb7 cb1 a2; have hb6 := Lib.hid hb6; have hb7 := Lib.hid hb7; clear hb5 f0 f1 fz)
        have mz : wy.heap.size < w5.heap.size := World.block_lt_of_cell? w5 _ m0
        have mB : B < w5.heap.size := World.block_lt_of_cell? w5 _ m2
        have hfd := Lib.hid (hfi.out _ (nextw hb7.out ((Below.refl w5.heap.size w5).drew)))
        have hdr := Lib.hid ((Below.refl w5.heap.size w5).drew)
        have hic : ni ≤ ic := by obtain ⟨K, hK⟩ := hIr.out; have h5 := hK.own; rw [hni.out] at h5; exact own_cap h5
        have hic0 : ¬ ic = 0 := by omega
        have hjc : j ≤ ic := by omega
        clear d0 d1 d2 hfi hmn
        go_region_held3 (fun w' => w'.cell? ⟨B, 2, none⟩ = some (.slice (some ⟨g2, 0, none⟩) ni ic) ∧ w'.cell? ⟨wy.heap.size, 0, none⟩ = some (.string nm) ∧ w'.cell? ⟨wy.heap.size, 1, none⟩ = some (.slice la ll lc)) (go_keep) (first
          | (go_at_call 11; (with_reducible refine hfd.out.mono ?_); rintro e w8 ⟨rfl, hb8⟩; have hb9 := nextw hdr.out hb8; have n2 := stepc hb9 mB m2; have n0 := stepc hb9 mz m0; have n1 := stepc hb9 mz m1; have hb9 := Lib.hid hb9))
        have hb10 := nextw hb6.out hb9.out
        have hB8 := Lib.hid (nextw hB.out hb10)
        have hD8 := Lib.hid (hD4.out _ hb10)
        clear hb10 hD4 hb6 hb7 hb9 hdr hfd m0 m1 m2 n0 n2 hB
        go_wp2_with fail
        go_loopw [132] (fun i wr => ∃ (k : Nat) (p : List Int) (D : DataW Unit), k ≤ ll ∧ i = .int .i64 k ∧ Hid (Below wz.heap.size wz wr) ∧ Hid (DS N wz.heap.size (LD k) p D wr)) (fun i _ => ll - (intOf i).toNat)
        case atStart => exact ⟨0, _, _, Nat.zero_le _, rfl, hB8, hD8⟩
        case round =>
          clear hB8 hD8 n1
          obtain ⟨k, p, D, hk, rfl, hB, hD⟩ := hrel
          by_cases hlt : k < ll
          · obtain ⟨b, off, rfl, hb, hc⟩ := hrr.out.at (by omega)
            have c1 := stepc hB.out hb (hc k hlt)
            have e := hD1.out k hlt
            have hD := hD.out
            rw [e] at hD
            obtain ⟨hx, hxp, hpl⟩ := hD.head hG.out hSm.out.g
            have hlk := hD.drv.look hD.own hx (v := 0) (by rw [if_neg hxp])
            have hnx := Lib.hid (fun w7 ho => hD.next (w7 := w7) hx hxp ho)
            have hkey := Lib.hid (lkey_of hx)
            have hown := Lib.hid hD.own
            clear hD hx hxp e hc
            generalize Bb.lits.getD k 0 = x at *
            go_wp2_with (at_mapUpdate; refine wpList_mapUpdate_own _ rfl _ _ _ 44 rfl 50 3 llaw Try.underlying44 _ wz.heap.size p.length D rfl hown.out (by unfold maxLen; omega) _ _ (lkey x) rfl rfl hkey.out (.lit (.int .i64 1)) [] (plainElem_int Try.underlying3 (by decide)) ?_; intro w7 hown7 hgrow7; have hD7 := Lib.hid (hnx.out _ hown7); have hB7 := Lib.hid (hB.out.grown hgrow7 hB.out.size (fun k hk => by cases hk; exact Nat.le_refl _)); clear hown7 hgrow7)
            exact ⟨⟨k + 1, _, _, by omega, by go_num, hB7, hD7⟩, by simp [intOf]; omega⟩
          · obtain rfl : k = ll := by omega
            have hD3 := Lib.hid (show DS N wz.heap.size (leftB N [] (j + 1)) p D wr by have := hD.out; rw [hD2.out] at this; exact this)
            go_wp2_with fail
            exact ⟨⟨j + 1, _, _, by omega, by go_num, hB, hD3⟩, by simp [intOf]; omega⟩
      · obtain rfl : j = ni := by omega
        have hD3 := Lib.hid (show DS N wz.heap.size (leftR N [] 0) p D wr by have := hD.out; rw [← hni.out, leftB_end] at this; exact this)
        have d3 := stepc hB.out cb1 a3
        have hnode := Lib.hid (fun x (hx : IsLit x) w => node_any x hx w)
        have hpos := Lib.hid hG.out.wf.pos
        have hng := hSm.out.g
        have hRT := Lib.hid hG.out.regT
        have hAN := Lib.hid (fun wr (hb : Below wz.heap.size wz wr) => (hA.out.step hb).nodes hpos.out)
        clear hD hIr
        go_wp2_with fail
        go_loopw [147] (fun i wr => ∃ (i' : Nat) (p : List Int) (D : DataW Unit), i' ≤ nr ∧ i = .int .i64 i' ∧ Hid (Below wz.heap.size wz wr) ∧ Hid (DS N wz.heap.size (leftR N [] i') p D wr)) (fun i _ => nr - (intOf i).toNat)
        case atStart => exact ⟨0, _, _, Nat.zero_le _, rfl, hB, hD3⟩
        case round =>
          clear hB hD3 d3
          obtain ⟨i, p, D, hi, rfl, hB, hD⟩ := hrel
          by_cases hlt : i < nr
          · have hiL : i < N.regs.length := by rw [hnr.out]; exact hlt
            obtain ⟨g2, rfl, hgl, b0, b1, b2, b3⟩ := hRr.out.at hiL
            have d0 := stepc hB.out hgl b0
            have d1 := stepc hB.out hgl b1
            have d2 := stepc hB.out hgl b2
            have d3 := stepc hB.out hgl b3
            obtain ⟨t1, t2⟩ := hRT.out _ (List.getElem_mem hiL)
            have hD := hD.out
            rw [leftR_next N [] hiL] at hD
            obtain ⟨hx, hxp, hpl⟩ := hD.head hG.out hSm.out.g
            have hb4 : Below wr.heap.size wr (wr.alloc (.cells #[.int .u32 N.regs[i].q, .int .u32 N.regs[i].d, .int .u32 N.regs[i].en, .bool N.regs[i].init] 52)) := (Below.refl _ _).alloc (Nat.le_refl _) _
            have hD4 := hD.step hb4
            have hlk := hD4.drv.look hD4.own hx (v := 0) (by rw [if_neg hxp])
            have hnx := Lib.hid (fun w7 ho => hD4.next (w7 := w7) hx hxp ho)
            have hkey := Lib.hid (lkey_of hx)
            have hown := Lib.hid hD4.own
            have hMl := hD.own.lt
            have hB4 := Lib.hid (nextw hB.out hb4)
            clear hD hD4 hx hxp b0 b1 b2 b3 hb4
            generalize N.regs[i] = r at *
            obtain ⟨rq, rd, re, ri⟩ := r
            simp only [] at d0 d1 d2 d3 t1 t2 hlk hnx hkey hown hB4
            have f1 : (wr.alloc (.cells #[.int .u32 rq, .int .u32 rd, .int .u32 re, .bool ri] 52)).cell? ⟨wr.heap.size, 1, none⟩ = some (.int .u32 rd) := by simp [go_sem]
            have f2 : (wr.alloc (.cells #[.int .u32 rq, .int .u32 rd, .int .u32 re, .bool ri] 52)).cell? ⟨wr.heap.size, 2, none⟩ = some (.int .u32 re) := by simp [go_sem]
            have n1 := Lib.hid (fun w => hnode.out rd t1.1 w)
            have n2 := Lib.hid (fun w => hnode.out re t2.1 w)
            have g1 : decide ((N.g.nodes.length : Int) ≤ rd / 2) = false := by have := t1.2; simp; omega
            have g2' : decide ((N.g.nodes.length : Int) ≤ re / 2) = false := by have := t2.2; simp; omega
            clear t1 t2
            go_wp2_with (at_mapUpdate; refine wpList_mapUpdate_own _ rfl _ _ _ 44 rfl 50 3 llaw Try.underlying44 _ wz.heap.size p.length D rfl hown.out (by unfold maxLen; omega) _ _ (lkey rq) rfl rfl hkey.out (.lit (.int .i64 1)) [] (plainElem_int Try.underlying3 (by decide)) ?_; intro w7 hown7 hgrow7; have hD7 := Lib.hid (hnx.out _ hown7); have hB7 := Lib.hid (hB4.out.grown hgrow7 hB4.out.size (fun k hk => by cases hk; exact Nat.le_refl _)); have m1 := hgrow7.cell f1 (by simp; omega); have m2 := hgrow7.cell f2 (by simp; omega); have m0 := stepc hB7.out cb1 a0; clear hown7 hgrow7)
            have hnd := Lib.hid (fun q => hAN.out _ (nextw hB7.out (below_draws w7 q)))
            have hBn := Lib.hid (fun q => nextw hB7.out (below_draws w7 q))
            have hDn := Lib.hid (fun q => hD7.out.step (below_draws w7 q))
            generalize N.g.nodes.length = nn at *
            go_quiet (first
              | (go_at_call 12; (with_reducible exact Calls.quiet_of_same ((n1.out _).mono (fun _ _ h => ⟨h.1, h.2.symm⟩))))
              | (go_at_call 12; (with_reducible exact Calls.quiet_of_same ((n2.out _).mono (fun _ _ h => ⟨h.1, h.2.symm⟩))))
              | (go_at_call 13; (with_reducible exact Calls.quiet_of_same ((hnd.out _).mono (fun _ _ h => ⟨h.1, h.2.symm⟩)))))
            go_wp2_with fail
            exact ⟨⟨i + 1, _, _, by omega, by go_num, Lib.hid (hBn.out _), Lib.hid (hDn.out _)⟩, by simp [intOf]; omega⟩
          · obtain rfl : i = nr := by omega
            have hDS := Lib.hid (show DS N wz.heap.size [] p D wr by have := hD.out; rw [← hnr.out, leftR_end] at this; exact this)
            have d4 := stepc hB.out cb1 a4
            have hOT := Lib.hid hG.out.outT
            clear hD hRr hRT
            go_wp2_with fail
            go_loopw [182] (fun i wr => ∃ i' : Nat, i' ≤ no ∧ i = .int .i64 i' ∧ Hid (Below wz.heap.size wz wr) ∧ Hid (DS N wz.heap.size [] p D wr)) (fun i _ => no - (intOf i).toNat)
            case atStart => exact ⟨0, Nat.zero_le _, rfl, hB, hDS⟩
            case round =>
              clear hB hDS d4
              obtain ⟨i, hi, rfl, hB, hD⟩ := hrel
              by_cases hlt : i < no
              · have hiL : i < N.outs.length := by rw [hno.out]; exact hlt
                obtain ⟨g2, la, lc, rfl, hgl, b0, b1, hr⟩ := hOr.out.at hiL
                have d0 := stepc hB.out hgl b0
                have d1 := stepc hB.out hgl b1
                have hT := Lib.hid (hOT.out _ (List.getElem_mem hiL))
                have hwd := (hG.out.outs.wide _ (List.getElem_mem hiL)).2
                have hrr := Lib.hid hr.row
                have hb4 : Hid (∀ o, Below wr.heap.size wr (wr.alloc o)) := Lib.hid (fun o => (Below.refl _ _).alloc (Nat.le_refl _) _)
                have hB4 := Lib.hid (fun o => nextw hB.out (hb4.out o))
                have hD4 := Lib.hid (fun o => hD.out.step (hb4.out o))
                have hlen := Lib.hid hr.len
                clear b0 b1 hr hB hD hb4
                generalize N.outs[i] = Bb at *
                generalize Bb.lits.length = ll at *
                generalize Bb.name = nm at *
                go_wp2_with fail
                go_loopw [189] (fun i wr => ∃ k : Nat, k ≤ ll ∧ i = .int .i64 k ∧ Hid (Below wz.heap.size wz wr) ∧ Hid (DS N wz.heap.size [] p D wr)) (fun i _ => ll - (intOf i).toNat)
                case atStart => exact ⟨0, Nat.zero_le _, rfl, Lib.hid (hB4.out _), Lib.hid (hD4.out _)⟩
                case round =>
                  clear hB4 hD4 d0 d1
                  obtain ⟨k, hk, rfl, hB, hD⟩ := hrel
                  by_cases hlt : k < ll
                  · obtain ⟨b, off, rfl, hb, hc⟩ := hrr.out.at (by omega)
                    have c1 := stepc hB.out hb (hc k hlt)
                    have t1 := hT.out _ (row_mem hrr.out hlt)
                    clear hc
                    generalize Bb.lits.getD k 0 = x at *
                    have n1 := Lib.hid (fun w => hnode.out x t1.1 w)
                    have g1 : decide ((N.g.nodes.length : Int) ≤ x / 2) = false := by have := t1.2; simp; omega
                    have m0 := stepc hB.out cb1 a0
                    have hnd := Lib.hid (fun q => hAN.out _ (nextw hB.out (below_draws wr q)))
                    have hBn := Lib.hid (fun q => nextw hB.out (below_draws wr q))
                    have hDn := Lib.hid (fun q => hD.out.step (below_draws wr q))
                    clear t1
                    generalize N.g.nodes.length = nn at *
                    go_wp2_with fail
                    go_quiet (first
                      | (go_at_call 12; (with_reducible exact Calls.quiet_of_same ((n1.out _).mono (fun _ _ h => ⟨h.1, h.2.symm⟩))))
                      | (go_at_call 13; (with_reducible exact Calls.quiet_of_same ((hnd.out _).mono (fun _ _ h => ⟨h.1, h.2.symm⟩)))))
                    go_wp2_with fail
                    exact ⟨⟨k + 1, by omega, by go_num, Lib.hid (hBn.out _), Lib.hid (hDn.out _)⟩, by simp [intOf]; omega⟩
                  · obtain rfl : k = ll := by omega
                    go_wp2_with fail
                    exact ⟨⟨i + 1, by omega, by go_num, hB, hD⟩, by simp [intOf]; omega⟩
              · obtain rfl : i = no := by omega
                have m0 := stepc hB.out cb1 a0
                have hin := Lib.hid ((hA.out.step hB.out).inputs hG.out.wf (by omega))
                have hDR0 := Lib.hid (hD.out.done hG.out)
                have hcnt := hG.out.wf.cnt
                have hdrop := Lib.hid (fun j (hj : j < N.g.inputs.length) => inLits_drop hG.out.wf hj)
                have hend := Lib.hid (inLits_end N.g)
                have hfirst : Hid ((inLits N.g).drop 0 = inLits N.g) := Lib.hid rfl
                have htl := Lib.hid (fun w => tells_any w)
                have hof := Lib.hid (fun k (hk : k ≤ 200000) w => of_even k hk w)
                have hwB := Lib.hid hA.out.below
                have hLd := Lib.hid (fun (j : Nat) wr (h : DR wz.heap.size p.length ((inLits N.g).drop j) D wr) => h)
                clear hD hOr hOT hAN hnode
                generalize hIL : inLits N.g = IL at *
                generalize hI : N.g.inputs = I at *
                generalize hm : I.length = m at *
                clear hIL hI
                have hm := Lib.hid hm
                generalize N.g.nodes.length = nn at *
                go_wp2_with (go_at_call 14; (with_reducible refine hin.out.mono ?_); rintro e w5 ⟨na, nc, rfl, hio, hb5⟩; have hB5 := Lib.hid (nextw hB.out hb5); have hDR := Lib.hid (hDR0.out.step hb5); have hio := Lib.hid hio; clear hb5 hin hDR0)
                go_loopw [209] (fun i wr => ∃ (j : Nat) (D : DataW Unit), j ≤ m ∧ i = .int .i64 j ∧ Hid (Below wz.heap.size wz wr) ∧ Hid (DR wz.heap.size p.length (IL.drop j) D wr) ∧ Hid (wr.ownsRow wz.heap.size 3 1 (.slice na m nc) m (I.map (Value.int .i64)))) (fun i _ => m - (intOf i).toNat)
                case atStart => exact ⟨0, D, Nat.zero_le _, rfl, hB5, hDR, Lib.hid (own_base hio.out hB.out.size)⟩
                case round =>
                  clear hB5 hDR hio hB m0
                  obtain ⟨j, D, hj, rfl, hB, hD, hio⟩ := hrel
                  by_cases hlt : j < m
                  · obtain ⟨k, hIj, hkn, hdr, hnod⟩ := hdrop.out j hlt
                    obtain ⟨gi, cap, e⟩ := own_form hio.out (by omega)
                    simp only [Value.slice.injEq] at e
                    obtain ⟨rfl, -, -⟩ := e
                    have c0 : wr.cell? ⟨gi, j, none⟩ = some (.int .i64 k) := by rw [hio.out.cellAt j (by omega)]; simp [hIj]
                    have hD := hD.out
                    rw [hdr] at hD hnod
                    have hx : IsLit (2 * (k : Int)) := by unfold IsLit; omega
                    obtain ⟨hlk, hnx⟩ := hD.head hnod hx
                    have hnx := Lib.hid hnx
                    have hkey := Lib.hid (lkey_of hx)
                    have hown := Lib.hid hD.own
                    have ho1 := Lib.hid (fun w => hof.out k (by omega) w)
                    have hMt := Lib.hid (fun w7 (hg : wr.grownBy w7 (some wz.heap.size)) => (show w7.ownsRow wz.heap.size 3 1 (.slice (some ⟨gi, 0, none⟩) m nc) m (I.map (Value.int .i64)) from by
                      refine own_keptF hio.out (kept_grown hg) (fun b e hf => ?_)
                      simp at hf
                      subst hf
                      obtain ⟨c2, hc2⟩ := own_type hio.out e
                      obtain ⟨es, cl, hmb, -⟩ := hD.own
                      rw [hmb] at hc2; cases hc2))
                    clear hD hx hnod hdr hdrop
                    generalize 2 * (k : Int) = x at *
                    go_wp2_with (first
                      | (go_at_call 15; (with_reducible refine (ho1.out _).mono ?_); rintro e w6 ⟨rfl, rfl⟩)
                      | (at_delete; refine wpList_delete_own _ rfl _ _ 44 50 rfl 3 llaw Try.underlying44 _ wz.heap.size p.length D rfl hown.out _ _ rfl hkey.out ?_; intro w7 hown7 hturn7; have hg7 := hturn7.grown; have hD7 := Lib.hid (hnx.out _ hown7); have hB7 := Lib.hid (hB.out.grown hg7 hB.out.size (fun k hk => by cases hk; exact Nat.le_refl _)); have hi7 := Lib.hid (hMt.out _ hg7); clear hown7 hturn7 hg7))
                    exact ⟨⟨j + 1, _, by omega, by go_num, hB7, hD7, hi7⟩, by simp [intOf]; omega⟩
                  · obtain rfl : j = m := by omega
                    have hD := hD.out
                    rw [hend.out] at hD
                    have hsz := hD.drv.size
                    rw [List.length_nil] at hsz
                    have hown := Lib.hid hD.own
                    clear hD
                    go_wp2_with (first
                      | (at_len; refine wpList_len_own _ rfl _ 44 rfl 50 3 Try.underlying44 _ wz.heap.size p.length D rfl hown.out ?_; rw [hsz])
                      | (go_at_call 16; (with_reducible refine (htl.out _).mono ?_); rintro e w9 ⟨rfl, hb9⟩))
                    go_ret
                    exact ⟨rfl, nextw (hwB.out.trans (hB.out.mono hwB.out.size)) hb9⟩
end Go.Proofs.Ytjdebancpgpebaa
