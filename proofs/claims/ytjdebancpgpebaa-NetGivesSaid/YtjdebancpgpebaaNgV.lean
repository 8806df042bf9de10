/-
  NetGives: the walk.
-/
import Derived.Test.YtjdebancpgpebaaNgC
import Derived.Carry
namespace Go.Proofs.Ytjdebancpgpebaa
open Go.RowKit Go.Maps Bits
set_option maxRecDepth 100000

set_option maxHeartbeats 8000000 in
theorem NetGives_any (F H : Bool) {w : World} {a : Option Addr} {n c : Nat} {S : Nat → StV} (hs : StRow w a n S) :
    Calls Try.prog 4 #[.agg #[.bool F, .bool H], .slice a n c] w fun e w' => e = .returned (.bool true) ∧ Below w.heap.size w w' := by
  have hb0 : Below w.heap.size w (w.alloc (.cells #[.bool F, .bool H] 23)) := (Below.refl _ _).alloc (Nat.le_refl _) _
  have hnew := Lib.hid (AtN.new w hb0 F H top_may)
  have HS := Lib.hid hs
  have hle := hs.le
  have hg0 : Hid (Good ⟨newG F H, sTop, [], [], []⟩ []) := Lib.hid (Good.new F H top_may)
  have hu0 := Lib.hid (upto0 F H)
  have hmm := @run_makeMap Try.prog
  clear hs hb0
  go_enter Try.func4, Try.ntmps4
  go_upto_block 0 with (go_at_call 5; (with_reducible refine hnew.out.mono ?_); rintro e w2 ⟨q0, B, C, rfl, hA0⟩; obtain ⟨b0, b1⟩ := hA0.cells)
  have hG0 := Lib.hid (Gv.start hA0)
  clear hnew b0 b1 hmm hA0
  generalize w2.heap.size = M1 at *
  generalize M1 + 1 = M2 at *
  generalize M2 + 1 = M3 at *
  go_cut [10] (fun s wx => ∃ (q : NPl) (N : Nt) (rest : List Int), Hid (Gv w B C M1 M2 M3 60 q N N.ins N.outs N.regs wx) ∧ Hid (Good N rest) ∧ Hid (Upto N 60))
  case first =>
    -- @slowF
    go_wp2_with fail
    go_loopw [10] (fun i wr => ∃ (j : Nat) (q : NPl) (N : Nt) (rest : List Int), j ≤ min n 60 ∧ i = .int .i64 j ∧ Hid (Gv w B C M1 M2 M3 j q N N.ins N.outs N.regs wr) ∧ Hid (Good N rest) ∧ Hid (Upto N j)) (fun i _ => min n 60 - (intOf i).toNat)
    case atStart => exact ⟨0, q0, _, [], Nat.zero_le _, rfl, hG0, hg0, hu0⟩
    case round =>
      clear hG0 hg0 hu0
      obtain ⟨j, q, N, rest, hj, rfl, hG, hGd, hU⟩ := hrel
      have hSm := Lib.hid (hU.out.small (by omega))
      by_cases hlt : j < min n 60
      · have hjn : j < n := by omega
        have hj60 : j < 60 := by omega
        have hpos := hGd.out.wf.pos
        obtain ⟨b, off, rfl, hb, k0, k1, k2, k3, k4, k5, k6⟩ := HS.out.at hjn
        have k0 := stepc hG.out.at_.below hb k0
        have k1 := stepc hG.out.at_.below hb k1
        have k2 := stepc hG.out.at_.below hb k2
        have k3 := stepc hG.out.at_.below hb k3
        have k4 := stepc hG.out.at_.below hb k4
        have k5 := stepc hG.out.at_.below hb k5
        have k6 := stepc hG.out.at_.below hb k6
        obtain ⟨cb0, cb1⟩ := hG.out.at_.cells
        have hst := Lib.hid (HS.out.ok j hjn)
        generalize S j = s at *
        have hbm : Below wr.heap.size wr (wr.alloc (.cells #[.int .i64 s.what, .string s.name, .int .i64 s.n, .int .u32 s.a, .int .u32 s.b, .int .u32 s.c, .slice s.la s.ln s.lc] 37)) := (Below.refl _ _).alloc (Nat.le_refl _) _
        have hGb := Lib.hid (hG.out.step hbm)
        have hsb := (hst.out.step hG.out.at_.below).step hbm
        have hnd := Lib.hid (hGb.out.at_.nodes hpos)
        obtain ⟨⟨N', ls, r⟩, hd⟩ : ∃ x, doesN N s = x := ⟨_, rfl⟩
        have hgd := Lib.hid (by have := doesN_goodE hGd.out hSm.out hst.out; rw [hd] at this; exact this)
        have hup := Lib.hid (by have := hU.out.does (by omega) hGd.out hst.out; rw [hd] at this; exact this)
        have hdo := Lib.hid (hGb.out.does hGd.out hSm.out hsb hd)
        have hlm := hGb.out.lt
        have hGlt := hG.out.lt
        have hfar : ¬ q.has wr.heap.size := fun hk => by have := hG.out.at_.is.has_lt hk; omega
        have cb2 := stepc hbm cb1 cb0
        have hfz : wr.heap.size < (wr.alloc (.cells #[.int .i64 s.what, .string s.name, .int .i64 s.n, .int .u32 s.a, .int .u32 s.b, .int .u32 s.c, .slice s.la s.ln s.lc] 37)).heap.size := by simp
        have f0 : (wr.alloc (.cells #[.int .i64 s.what, .string s.name, .int .i64 s.n, .int .u32 s.a, .int .u32 s.b, .int .u32 s.c, .slice s.la s.ln s.lc] 37)).cell? ⟨wr.heap.size, 0, none⟩ = some (.int .i64 s.what) := by simp [go_sem]
        have f1 : (wr.alloc (.cells #[.int .i64 s.what, .string s.name, .int .i64 s.n, .int .u32 s.a, .int .u32 s.b, .int .u32 s.c, .slice s.la s.ln s.lc] 37)).cell? ⟨wr.heap.size, 1, none⟩ = some (.string s.name) := by simp [go_sem]
        have f2 : (wr.alloc (.cells #[.int .i64 s.what, .string s.name, .int .i64 s.n, .int .u32 s.a, .int .u32 s.b, .int .u32 s.c, .slice s.la s.ln s.lc] 37)).cell? ⟨wr.heap.size, 2, none⟩ = some (.int .i64 s.n) := by simp [go_sem]
        have f3 : (wr.alloc (.cells #[.int .i64 s.what, .string s.name, .int .i64 s.n, .int .u32 s.a, .int .u32 s.b, .int .u32 s.c, .slice s.la s.ln s.lc] 37)).cell? ⟨wr.heap.size, 3, none⟩ = some (.int .u32 s.a) := by simp [go_sem]
        have f4 : (wr.alloc (.cells #[.int .i64 s.what, .string s.name, .int .i64 s.n, .int .u32 s.a, .int .u32 s.b, .int .u32 s.c, .slice s.la s.ln s.lc] 37)).cell? ⟨wr.heap.size, 4, none⟩ = some (.int .u32 s.b) := by simp [go_sem]
        have f5 : (wr.alloc (.cells #[.int .i64 s.what, .string s.name, .int .i64 s.n, .int .u32 s.a, .int .u32 s.b, .int .u32 s.c, .slice s.la s.ln s.lc] 37)).cell? ⟨wr.heap.size, 5, none⟩ = some (.int .u32 s.c) := by simp [go_sem]
        have f6 : (wr.alloc (.cells #[.int .i64 s.what, .string s.name, .int .i64 s.n, .int .u32 s.a, .int .u32 s.b, .int .u32 s.c, .slice s.la s.ln s.lc] 37)).cell? ⟨wr.heap.size, 6, none⟩ = some (.slice s.la s.ln s.lc) := by simp [go_sem]
        simp only [] at hgd hup
        by_cases hr : r = 0
        · subst hr
          by_cases w0 : s.what = 0
          · -- @slow0
            obtain ⟨k, sk, hk64, rfl, hnn, hin, hrg, hou, hsz, hat⟩ := acc0 hd w0
            obtain ⟨rest', hgd'⟩ := hgd.out
            have hfin := Lib.hid (fun wx q6 (h : Gv w B C M1 M2 M3 (j + 1) q6 N' (N.ins ++ [⟨s.name, newL N.g k⟩]) N.outs N.regs wx) => (show Gv w B C M1 M2 M3 (j + 1) q6 N' N'.ins N'.outs N'.regs wx by rw [hin, hrg, hou]; exact h))
            have hgd' := Lib.hid hgd'
            have hpos' := hgd'.out.wf.pos
            have hel : Hid (∀ t, t < k → (newL N.g k).getD t 0 = 2 * ((N.g.nodes.length + t : Nat) : Int)) := Lib.hid (fun t ht => by simp [newL, List.getD, ht])
            have hnm := hSm.out.g
            have hap := Lib.hid hat
            rw [newL_len] at hdo
            clear hd hsb hGb hst cb0 hin hrg hou hat
            generalize s.what = K at *
            generalize s.name = nm at *
            generalize s.n = sn at *
            generalize s.a = sa at *
            generalize s.b = sb at *
            generalize s.c = sc at *
            generalize s.la = la at *
            generalize s.ln = ln at *
            generalize s.lc = lc at *
            obtain rfl : K = 0 := w0
            obtain rfl : sn = k := sk
            generalize N.g.nodes.length = nn at *
            go_wp2_with (first
              | (go_at_call 13; (with_reducible refine hnd.out.mono ?_); rintro e w5 ⟨rfl, rfl⟩)
              | (go_at_call 7; (with_reducible refine hdo.out.mono ?_); rintro e w6 ⟨a6, c6, q6, rfl, hl6, hG6, hk6⟩; have m0 := keptc hk6 hfz hfar f0; have m1 := keptc hk6 hfz hfar f1; have m2 := keptc hk6 hfz hfar f2; obtain ⟨cc0, cc1⟩ := hG6.at_.cells; have hG6 := Lib.hid hG6; have hl6 := Lib.hid hl6; have hz6 := hk6.size; clear hk6 hdo))
            obtain ⟨m, hm⟩ : ∃ m : Nat, nn + k = m := ⟨_, rfl⟩
            have e98 : IntKind.i64.wrap ((nn : Int) + (k : Int)) = (m : Int) := by rw [IntWalk.i64_in _ (by omega)]; omega
            have hkk := bnef' (a := (k : Int)) (b := k) rfl
            have hmm := bnef' (a := (m : Int)) (b := m) rfl
            have hnd2 := Lib.hid (fun q => (hG6.out.step (below_draws w6 q)).at_.nodes hpos')
            rw [hnn, hm] at hnd2
            have hbn := Lib.hid (fun q => below_draws w6 q)
            clear hnd
            go_quiet (first | (go_at_call 13; (with_reducible exact Calls.quiet_of_same ((hnd2.out _).mono (fun _ _ h => ⟨h.1, h.2.symm⟩)))))
            clear e98 hmm
            go_wp2_with fail
            go_loopw [103] (fun i wx => ∃ t : Nat, t ≤ k ∧ i = .int .i64 t ∧ Hid (Below w6.heap.size w6 wx)) (fun i _ => k - (intOf i).toNat)
            case atStart => exact ⟨0, Nat.zero_le _, rfl, Lib.hid (hbn.out _)⟩
            case round =>
              obtain ⟨t, ht, rfl, hB⟩ := hrel
              have hG7 := Lib.hid (hG6.out.step hB.out)
              have hl7 := Lib.hid (hl6.out.below hB.out)
              have m1 := stepc hB.out (World.block_lt_of_cell? w6 _ m1) m1
              by_cases hlt : t < k
              · obtain ⟨gb, gf, rfl, hlb, hcc⟩ := hl7.out.row.at (by omega)
                have x0 := hcc t hlt
                rw [hel.out t hlt] at x0
                have hx : IsLit (2 * ((nn + t : Nat) : Int)) := by unfold IsLit; omega
                have n1 := Lib.hid (fun w => node_any _ hx w)
                have n2 := Lib.hid (fun w => turned_any _ hx w)
                rw [show 2 * ((nn + t : Nat) : Int) / 2 = ((nn + t : Nat) : Int) by omega] at n1
                rw [show turnV (2 * ((nn + t : Nat) : Int)) = false by unfold turnV; simp] at n2
                have e112 : IntKind.i64.wrap ((nn : Int) + (t : Int)) = ((nn + t : Nat) : Int) := by rw [IntWalk.i64_in _ (by omega)]; omega
                clear hcc hkk hG7 m1
                generalize nn + t = y at *
                have hyy := bnef' (a := (y : Int)) (b := y) rfl
                go_wp2_with (first
                  | (go_at_call 12; (with_reducible refine (n1.out _).mono ?_); rintro e w8 ⟨rfl, rfl⟩)
                  | (go_at_call 17; (with_reducible refine (n2.out _).mono ?_); rintro e w8 ⟨rfl, rfl⟩))
                exact ⟨⟨t + 1, by omega, by go_num, hB⟩, by simp [intOf]; omega⟩
              · obtain rfl : t = k := by omega
                go_wp2_with (at_mapUpdate; refine wp_put_bus rfl _ _ _ rfl hG7.out.mi (by omega) rfl rfl rfl hsz hap.out hl7.out ?_; intro w9 hM9 hg9; have hG9 := Lib.hid (hfin.out _ _ (hG7.out.put1 hM9 hg9)); clear hM9 hg9)
                exact ⟨⟨j + 1, _, _, _, by omega, by go_num, hG9, hgd', hup⟩, by simp [intOf]; omega⟩
            -- @end0
          by_cases w1 : s.what = 1
          · -- @slow1
            obtain ⟨rfl, hin, hrg, hou⟩ := acc1 hd w1
            obtain ⟨rest', hgd'⟩ := hgd.out
            have hgd' := Lib.hid hgd'
            have hfin := Lib.hid (fun wx q6 (h : Gv w B C M1 M2 M3 (j + 1) q6 N' N.ins N.outs (N.regs ++ [⟨2 * (N.g.nodes.length : Int), 0, 0, s.n.tmod 2 != 0⟩]) wx) => (show Gv w B C M1 M2 M3 (j + 1) q6 N' N'.ins N'.outs N'.regs wx by rw [hin, hrg, hou]; exact h))
            have hfq := Lib.hid hGd.out.freshQ
            have hnm := hSm.out.g
            have hx : IsLit (2 * (N.g.nodes.length : Int)) := by unfold IsLit; omega
            have n1 := Lib.hid (fun w => node_any _ hx w)
            have n2 := Lib.hid (fun w => turned_any _ hx w)
            rw [show 2 * (N.g.nodes.length : Int) / 2 = N.g.nodes.length by omega] at n1
            rw [show turnV (2 * (N.g.nodes.length : Int)) = false by unfold turnV; simp] at n2
            rw [show ([2 * (N.g.nodes.length : Int)] : List Int).length = 1 from rfl] at hdo
            have hxx := bnef' (a := (N.g.nodes.length : Int)) (b := N.g.nodes.length) rfl
            clear hd hsb hGb hst cb0 hin hrg hou w0
            generalize hiv : (s.n.tmod 2 != 0) = iv at *
            clear hiv
            generalize s.what = K at *
            generalize s.name = nm at *
            generalize s.n = sn at *
            generalize s.a = sa at *
            generalize s.b = sb at *
            generalize s.c = sc at *
            generalize s.la = la at *
            generalize s.ln = ln at *
            generalize s.lc = lc at *
            obtain rfl : K = 1 := w1
            generalize 2 * (N.g.nodes.length : Int) = x at *
            generalize N.g.nodes.length = nn at *
            go_wp2_with (first
              | (go_at_call 13; (with_reducible refine hnd.out.mono ?_); rintro e w5 ⟨rfl, rfl⟩)
              | (go_at_call 7; (with_reducible refine hdo.out.mono ?_); rintro e w6 ⟨a6, c6, q6, rfl, hl6, hG6, hk6⟩; have m0 := keptc hk6 hfz hfar f0; obtain ⟨gb, gf, rfl, hlb, hcc⟩ := hl6.row.at (by omega); have x0 : w6.cell? ⟨gb, gf, none⟩ = some (.int .u32 x) := (by simpa using hcc 0 (by omega)); have hG6 := Lib.hid hG6; clear hl6 hk6 hdo hcc)
              | (go_at_call 12; (with_reducible refine (n1.out _).mono ?_); rintro e w8 ⟨rfl, rfl⟩)
              | (go_at_call 17; (with_reducible refine (n2.out _).mono ?_); rintro e w8 ⟨rfl, rfl⟩)
              | (at_mapUpdate; refine wp_put_reg rfl _ _ _ rfl hG6.out.mr (by omega) iv rfl rfl rfl hx hfq.out ?_; intro w9 hM9 hg9; have hG9 := Lib.hid (hfin.out _ _ (hG6.out.put3 hM9 hg9)); clear hM9 hg9))
            exact ⟨⟨j + 1, _, _, _, by omega, by go_num, hG9, hgd', hup⟩, by simp [intOf]; omega⟩
            -- @end1
          by_cases w2 : s.what = 2
          · -- @slow2
            obtain ⟨t, ht, hin, hrg, hou⟩ := acc2 hd w2
            obtain ⟨rest', hgd'⟩ := hgd.out
            have hgd' := Lib.hid hgd'
            have hfin := Lib.hid (fun wx q6 (h : Gv w B C M1 M2 M3 (j + 1) q6 N' N.ins N.outs (N.regs.modify t (setRg s.b s.c)) wx) => (show Gv w B C M1 M2 M3 (j + 1) q6 N' N'.ins N'.outs N'.regs wx by rw [hin, hrg, hou]; exact h))
            obtain ⟨rg, hmem, hq⟩ : ∃ rg ∈ N.regs, rg.q = s.a := by
              have ht' := ht
              unfold regAt at ht'
              obtain ⟨hjl, hq, -⟩ := List.findIdx?_eq_some_iff_getElem.1 ht'
              exact ⟨_, List.getElem_mem hjl, by simpa using hq⟩
            have hnod := hGd.out.regNodup
            have hya := hst.out.a
            clear hd hsb hGb hst cb0 hin hrg hou w0 w1
            generalize ls.length = ll at *
            generalize s.what = K at *
            generalize s.name = nm at *
            generalize s.n = sn at *
            generalize s.a = sa at *
            generalize s.b = sb at *
            generalize s.c = sc at *
            generalize s.la = la at *
            generalize s.ln = ln at *
            generalize s.lc = lc at *
            obtain rfl : K = 2 := w2
            obtain rfl : sa = rg.q := hq.symm
            have ht := Lib.hid ht
            have hmem := Lib.hid hmem
            have hnod := Lib.hid hnod
            clear hq
            go_wp2_with (first
              | (go_at_call 13; (with_reducible refine hnd.out.mono ?_); rintro e w5 ⟨rfl, rfl⟩)
              | (go_at_call 7; (with_reducible refine hdo.out.mono ?_); rintro e w6 ⟨a6, c6, q6, rfl, hl6, hG6, hk6⟩; have m0 := keptc hk6 hfz hfar f0; have m3 := keptc hk6 hfz hfar f3; have m4 := keptc hk6 hfz hfar f4; have m5 := keptc hk6 hfz hfar f5; have mz : wr.heap.size < w6.heap.size := World.block_lt_of_cell? w6 _ m3; have hal := fun o => (Below.refl w6.heap.size w6).alloc (Nat.le_refl _) o; have ma3 := fun o => stepc (hal o) mz m3; have ma4 := fun o => stepc (hal o) mz m4; have ma5 := fun o => stepc (hal o) mz m5; have hGa := Lib.hid (fun o => hG6.step (hal o)); have hG6 := Lib.hid hG6; clear hl6 hk6 hdo hal)
              | (at_lookup; refine wp_look_reg rfl _ _ rfl hG6.out.mr hmem.out hya rfl rfl ?_)
              | (at_mapUpdate; refine wp_set_reg rfl _ _ _ rfl (hGa.out _).mr (by omega) rfl rfl rfl hya ht.out hnod.out ?_; intro w9 hM9 hg9; have hG9 := Lib.hid (hfin.out _ _ ((hGa.out _).put3 hM9 hg9)); clear hM9 hg9))
            exact ⟨⟨j + 1, _, _, _, by omega, by go_num, hG9, hgd', hup⟩, by simp [intOf]; omega⟩
            -- @end2
          by_cases w3 : s.what = 3
          · -- @slow3
            obtain ⟨hin, hrg, hou, hsz, hat⟩ := acc3 hd w3
            obtain ⟨rest', hgd'⟩ := hgd.out
            have hgd' := Lib.hid hgd'
            have hfin := Lib.hid (fun wx q6 (h : Gv w B C M1 M2 M3 (j + 1) q6 N' N.ins (N.outs ++ [⟨s.name, s.zs.take 70⟩]) N.regs wx) => (show Gv w B C M1 M2 M3 (j + 1) q6 N' N'.ins N'.outs N'.regs wx by rw [hin, hrg, hou]; exact h))
            have hap := Lib.hid hat
            have hof : Hid (∀ w2, Below w.heap.size w w2 → Calls Try.prog 18 #[.slice s.la s.ln s.lc] w2 fun e w' => ∃ (a2 : Option Addr) (c2 : Nat), e = .returned (.slice a2 (min s.ln 70) c2) ∧ LRow w' a2 (min s.ln 70) c2 (s.zs.take 70) ∧ Below w2.heap.size w2 w') := Lib.hid (fun w2 hb2 => Of_any (hst.out.step hb2).row)
            clear hd hsb hGb hst cb0 hin hrg hou w0 w1 w2
            generalize ls.length = ll at *
            generalize s.what = K at *
            generalize s.name = nm at *
            generalize s.n = sn at *
            generalize s.a = sa at *
            generalize s.b = sb at *
            generalize s.c = sc at *
            generalize s.la = la at *
            generalize s.ln = ln at *
            generalize s.lc = lc at *
            obtain rfl : K = 3 := w3
            go_wp2_with (first
              | (go_at_call 13; (with_reducible refine hnd.out.mono ?_); rintro e w5 ⟨rfl, rfl⟩)
              | (go_at_call 7; (with_reducible refine hdo.out.mono ?_); rintro e w6 ⟨a6, c6, q6, rfl, hl6, hG6, hk6⟩; have m0 := keptc hk6 hfz hfar f0; have m1 := keptc hk6 hfz hfar f1; have m6 := keptc hk6 hfz hfar f6; have hz6 := hk6.size; have hG6 := Lib.hid hG6; clear hl6 hk6 hdo))
            have mz : wr.heap.size < w6.heap.size := World.block_lt_of_cell? w6 _ m1
            have hdr := Lib.hid ((Below.refl w6.heap.size w6).drew)
            have hfd := Lib.hid (hof.out _ (nextw hG6.out.at_.below hdr.out))
            have hGd6 := Lib.hid (hG6.out.step hdr.out)
            clear m0
            have hne : wr.heap.size ≠ M2 := by omega
            go_region_held3 (fun w' => w'.cell? ⟨wr.heap.size, 1, none⟩ = some (.string nm) ∧ w'.cell? ⟨wr.heap.size, 6, none⟩ = some (.slice la ln lc)) (go_keep) (first
              | (go_at_call 18; (with_reducible refine hfd.out.mono ?_); rintro e w8 ⟨a8, c8, rfl, hl8, hb8⟩; have hb9 := nextw hdr.out hb8; have n1 := stepc hb9 mz m1; have n6 := stepc hb9 mz m6; have hG8 := Lib.hid (hG6.out.step hb9); have mz8 := World.block_lt_of_cell? w8 _ n1; obtain ⟨w9, hrun, hM9, hg9⟩ := put_run hG8.out.mo (by omega) hsz hap.out hl8; have hG9 := Lib.hid (hfin.out _ _ (hG8.out.put2 hM9 hg9)); have p1 := hg9.cell_far ⟨wr.heap.size, 1, none⟩ mz8 (by simpa using hne); have p6 := hg9.cell_far ⟨wr.heap.size, 6, none⟩ mz8 (by simpa using hne); rw [n1] at p1; rw [n6] at p6))
            all_goals go_wp2_with fail
            all_goals exact ⟨⟨j + 1, _, _, _, by omega, by go_num, hG9, hgd', hup⟩, by simp [intOf]; omega⟩
            -- @end3
          · -- @slow4
            obtain ⟨hin, hrg, hou⟩ := acc4 hd w0 w1 w2 w3
            obtain ⟨rest', hgd'⟩ := hgd.out
            have hgd' := Lib.hid hgd'
            have hfin := Lib.hid (fun wx q6 (h : Gv w B C M1 M2 M3 (j + 1) q6 N' N.ins N.outs N.regs wx) => (show Gv w B C M1 M2 M3 (j + 1) q6 N' N'.ins N'.outs N'.regs wx by rw [hin, hrg, hou]; exact h))
            have g0 := beqf w0
            have g1 := beqf w1
            have g2 := beqf w2
            have g3 := beqf w3
            clear hd hsb hGb hst cb0 hin hrg hou w0 w1 w2 w3
            generalize s.what = K at *
            generalize s.name = nm at *
            generalize s.n = sn at *
            generalize s.a = sa at *
            generalize s.b = sb at *
            generalize s.c = sc at *
            generalize s.la = la at *
            generalize s.ln = ln at *
            generalize s.lc = lc at *
            generalize ls.length = ll at *
            go_wp2_with (first
              | (go_at_call 13; (with_reducible refine hnd.out.mono ?_); rintro e w5 ⟨rfl, rfl⟩)
              | (go_at_call 7; (with_reducible refine hdo.out.mono ?_); rintro e w6 ⟨a6, c6, q6, rfl, hl6, hG6, hk6⟩; have m0 := keptc hk6 hfz hfar f0; have hG6 := Lib.hid (hfin.out _ _ (hG6.mono (Nat.le_succ j))); clear hl6 hk6 hdo))
            exact ⟨⟨j + 1, _, _, _, by omega, by go_num, hG6, hgd', hup⟩, by simp [intOf]; omega⟩
            -- @end4
        · have href := doesN_refused (N := N) (s := s) (by rw [hd]; exact hr)
          rw [hd] at href
          obtain rfl : N' = N := href
          have hr0 := neq0 hr
          clear hd hsb hGb hst cb0
          generalize s.what = K at *
          generalize s.name = nm at *
          generalize s.n = sn at *
          generalize s.a = sa at *
          generalize s.b = sb at *
          generalize s.c = sc at *
          generalize s.la = la at *
          generalize s.ln = ln at *
          generalize s.lc = lc at *
          generalize ls.length = ll at *
          obtain ⟨rest', hgd'⟩ := hgd.out
          have hgd' := Lib.hid hgd'
          go_wp2_with (first
            | (go_at_call 13; (with_reducible refine hnd.out.mono ?_); rintro e w5 ⟨rfl, rfl⟩)
            | (go_at_call 7; (with_reducible refine hdo.out.mono ?_); rintro e w6 ⟨a6, c6, q6, rfl, hl6, hG6, hk6⟩; have hG6 := Lib.hid (hG6.mono (Nat.le_succ j)); clear hl6 hk6 hdo))
          exact ⟨⟨j + 1, _, _, _, by omega, by go_num, hG6, hgd', hup⟩, by simp [intOf]; omega⟩
      · obtain rfl : j = min n 60 := by omega
        by_cases h6 : n ≤ 60
        · have hmn : min n 60 = n := by omega
          rw [hmn] at hG hU ⊢
          have hG := Lib.hid (hG.out.mono h6)
          have hU := Lib.hid (hU.out.mono h6)
          go_wp2_with fail
          go_meet
          exact ⟨q, N, rest, hG, hGd, hU⟩
        · have hmn : min n 60 = 60 := by omega
          have hn4 : 60 < n := by omega
          rw [hmn] at hG hU ⊢
          go_wp2_with fail
          go_meet
          exact ⟨q, N, rest, hG, hGd, hU⟩
    -- @endF
  case rest =>
    clear hG0 hg0 hu0 HS hle
    obtain ⟨q, N, rest, hG, hGd, hU⟩ := hcut
    obtain ⟨cb0, cb1⟩ := hG.out.at_.cells
    have hnb := hG.out.at_.b
    obtain ⟨ia, ic, ra, rc, oa, oc, u1, u2, u3, a0, a1, a2, a3, a4, -⟩ := hG.out.at_.is.cells
    rw [hnb] at a0 a1 a2 a3 a4
    have hIr := Lib.hid (show BusRow wc (.slice ia N.ins.length ic) N.ins by have := hG.out.at_.is.ins; rw [u1] at this; exact this)
    have hOr := Lib.hid (show BusRow wc (.slice oa N.outs.length oc) N.outs by have := hG.out.at_.is.outs; rw [u3] at this; exact this)
    have hRr := Lib.hid (show RegRow wc (.slice ra N.regs.length rc) N.regs by have := hG.out.at_.is.regs; rw [u2] at this; exact this)
    obtain ⟨m1, D1, -, hB1⟩ := hG.out.mi
    obtain ⟨m2, D2, -, hB2⟩ := hG.out.mo
    have hB1 := Lib.hid hB1
    have hB2 := Lib.hid hB2
    have hi9 : N.ins.length ≤ 60 := hU.out.ins
    have ho9 : N.outs.length ≤ 60 := hU.out.outs
    have hr9 : N.regs.length ≤ 60 := hU.out.regs
    clear hnb u1 u2 u3 a0 a1
    obtain ⟨wz, rfl⟩ : ∃ wz : World, wz = wc := ⟨_, rfl⟩
    go_wp2_with (at_range; refine wp_range_bus rfl _ rfl hB1.out rfl ?_; intro w3 left cnt hI hb3; have hI := Lib.hid hI; have hB3 := Lib.hid hb3; clear hb3)
    try go_frame
    go_loopw [23] (fun _ wr => ∃ (left : Lit → Bool) (cnt : Nat), Hid (Below wz.heap.size wz wr) ∧ Hid (It wr M1 wz.heap.size m1 D1 N.ins left cnt)) (fun _ wr => wr.rangeLeft M1 wz.heap.size)
    case atStart => exact ⟨_, _, hB3, hI⟩
    case round =>
      clear hB3 hI
      obtain ⟨left, cnt, hB, hI⟩ := hrel
      have hI2 := Lib.hid (hB2.out.below hB.out)
      have hvz := hB.out.size
      obtain ⟨wv, rfl⟩ : ∃ wv : World, wv = wr := ⟨_, rfl⟩
      go_wp2_with (first
        | (at_next; refine wp_next_bus rfl _ rfl hI.out rfl ?_ ?_)
        | (at_range; refine wp_range_bus rfl _ rfl hI2.out rfl ?_; intro w3 left2 cnt2 hI3 hb3; have hI3 := Lib.hid hI3; have hB3 := Lib.hid (nextw hB.out hb3); clear hb3))
      · clear hIr
        try go_frame
        go_loopw [27] (fun _ wr => ∃ (left : Lit → Bool) (cnt : Nat), Hid (Below wz.heap.size wz wr) ∧ Hid (It wr M2 wv.heap.size m2 D2 N.outs left cnt)) (fun _ wr => wr.rangeLeft M2 wv.heap.size)
        case atStart => exact ⟨_, _, hB3, hI3⟩
        case round =>
          clear hB3 hI3 hI hI2 hB
          obtain ⟨left, cnt, hB, hI⟩ := hrel
          have d3 := stepc hB.out cb1 a3
          go_wp2_with (at_next; refine wp_next_bus rfl _ rfl hI.out rfl ?_ ?_)
          · -- @slowR
            clear hOr hB2 hI
            have hxx := Lib.hid (fun a b W => pair_eqIn a b W)
            have hmr := Lib.hid (fun wx (hb : Below wz.heap.size wz wx) => hG.out.mr.below hb)
            have hrl := Lib.hid (hGd.out.regLit (by have := hU.out.g; omega))
            go_loopw [229] (fun i wr => ∃ t : Nat, t ≤ N.regs.length ∧ i = .int .i64 t ∧ Hid (Below wz.heap.size wz wr)) (fun i _ => N.regs.length - (intOf i).toNat)
            case atStart => exact ⟨0, Nat.zero_le _, rfl, hB⟩
            case round =>
              clear hB d3
              obtain ⟨t, ht, rfl, hB⟩ := hrel
              by_cases hlt : t < N.regs.length
              · obtain ⟨g2, rfl, hgl, b0, b1, b2, b3⟩ := hRr.out.at hlt
                have b0 := stepc hB.out hgl b0
                have b1 := stepc hB.out hgl b1
                have b2 := stepc hB.out hgl b2
                have b3 := stepc hB.out hgl b3
                have hmem := List.getElem_mem hlt
                obtain ⟨ly, -⟩ := hrl.out _ hmem
                generalize N.regs[t] = rg at *
                have hb4 : Hid (∀ o, Below wr.heap.size wr (wr.alloc o)) := Lib.hid (fun o => (Below.refl _ _).alloc (Nat.le_refl _) _)
                have hm4 := Lib.hid (fun o => hmr.out _ (nextw hB.out (hb4.out o)))
                have hB5 := Lib.hid (fun o o2 => nextw (nextw hB.out (hb4.out o)) ((Below.refl _ _).alloc (Nat.le_refl _) o2 : Below (wr.alloc o).heap.size (wr.alloc o) ((wr.alloc o).alloc o2)))
                have hx2 := hxx.out rg.d rg.en
                go_wp2_with (at_lookup; refine wp_look_reg rfl _ _ rfl (hm4.out _) hmem ly rfl rfl ?_)
                exact ⟨⟨t + 1, by omega, by go_num, Lib.hid (hB5.out _ _)⟩, by simp [intOf]; omega⟩
              · obtain rfl : t = N.regs.length := by omega
                have d2 := stepc hB.out cb1 a2
                have d4 := stepc hB.out cb1 a4
                have hlB := World.block_lt_of_cell? wr _ d2
                have e2 := fun q => stepc (ext_below wr q) hlB d2
                have e4 := fun q => stepc (ext_below wr q) hlB d4
                have hM1 := hG.out.mi.below hB.out
                have hM2 := hG.out.mo.below hB.out
                have hM3 := hG.out.mr.below hB.out
                have hbits := Lib.hid (fun q => bits_ext ((hG.out.at_.step hB.out).step (ext_below wr q)))
                have htl := Lib.hid (fun w => tells_any w)
                have hend := Lib.hid (nextw hG.out.at_.below hB.out)
                clear hRr hxx hrl hmr hG hGd hU hB hB1 a2 a3 a4 cb1
                have z1 : ((N.ins.length : Int) == (N.ins.length : Int)) = true := by simp
                have z2 : ((N.outs.length : Int) == (N.outs.length : Int)) = true := by simp
                have z3 : ((N.regs.length : Int) == (N.regs.length : Int)) = true := by simp
                go_wp2_with fail
                (refine wp_region_ext (by kernel_rfl) (by kernel_rfl) ?_; (try simp only [List.append_eq, List.cons_append, List.nil_append]); (repeat (first | go_big_quiet_skip | (go_big_quiet_want; first | (first | (refine quiet_blen hM1 _ rfl rfl ?_; go_big_quiet_on; simp only [Act.put, List.setIfInBounds_toArray, List.set_cons_succ, List.set_cons_zero]) | (refine quiet_blen hM2 _ rfl rfl ?_; go_big_quiet_on; simp only [Act.put, List.setIfInBounds_toArray, List.set_cons_succ, List.set_cons_zero]) | (refine quiet_rlen hM3 _ rfl rfl ?_; go_big_quiet_on; simp only [Act.put, List.setIfInBounds_toArray, List.set_cons_succ, List.set_cons_zero])) | (go_big_quiet_op; first | go_big_quiet_on | go_big_quiet_call (first | (go_at_call 20; exact Calls.ext_of (hbits.out _)) | (go_at_call 16; exact Calls.ext_of (htl.out _))))))); refine wpQuiet_nil ?_; intro w2 hw'; have hb2 := below_of_ext hw'; clear hw')
                go_wp2
                go_ret
                exact ⟨rfl, nextw hend.out hb2⟩
            -- @endR
          · intro s jx b A cc w1 left1 cnt1 hat hb hrow hI1 hlt hg1 hen
            have hBw := Lib.hid (hB.out.grown hg1 hB.out.size (fun k e => by cases e; exact hvz))
            have d4 := stepc hBw.out cb1 a4
            have hfi := Lib.hid (find_named (hOr.out.below hBw.out) rfl (fun b hb => (hGd.out.outs.wide b hb).2) hat hb)
            have hrow := Lib.hid hrow
            have hI1 := Lib.hid hI1
            clear hg1 hat hb hB
            go_wp2_with (first
              | (go_at_call 11; (with_reducible refine hfi.out.mono ?_); rintro e w4 ⟨a2, c2, rfl, hl4, hb4⟩; have hsm := Lib.hid (same_any (c := c2) (c2 := cc) hl4.row (hrow.out.below hb4).row); have hB4 := Lib.hid (nextw hBw.out hb4); have hI4 := Lib.hid (hI1.out.step hb4); clear hb4 hl4 hfi)
              | (go_at_call 19; (with_reducible refine hsm.out.mono ?_); rintro e w5 ⟨rfl, hb5⟩; have hB5 := Lib.hid (nextw hB4.out hb5); have hI5 := Lib.hid (hI4.out.step hb5); clear hb5 hsm))
            exact ⟨⟨_, _, hB5, hI5⟩, by show World.rangeLeft _ M2 _ < World.rangeLeft _ M2 _; rw [hI5.out.left, hI.out.left]; exact hlt⟩
      · intro s jx b A cc w1 left1 cnt1 hat hb hrow hI1 hlt hg1 hen
        have hBw := Lib.hid (hB.out.grown hg1 hB.out.size (fun k e => by cases e; exact Nat.le_refl _))
        have d2 := stepc hBw.out cb1 a2
        have hfi := Lib.hid (find_named (hIr.out.below hBw.out) rfl (fun b hb => (hGd.out.ins.wide b hb).2) hat hb)
        have hrow := Lib.hid hrow
        have hI1 := Lib.hid hI1
        clear hg1 hat hb hB hB2
        go_wp2_with (first
          | (go_at_call 11; (with_reducible refine hfi.out.mono ?_); rintro e w4 ⟨a2, c2, rfl, hl4, hb4⟩; have hsm := Lib.hid (same_any (c := c2) (c2 := cc) hl4.row (hrow.out.below hb4).row); have hB4 := Lib.hid (nextw hBw.out hb4); have hI4 := Lib.hid (hI1.out.step hb4); clear hb4 hl4 hfi)
          | (go_at_call 19; (with_reducible refine hsm.out.mono ?_); rintro e w5 ⟨rfl, hb5⟩; have hB5 := Lib.hid (nextw hB4.out hb5); have hI5 := Lib.hid (hI4.out.step hb5); clear hb5 hsm))
        exact ⟨⟨_, _, hB5, hI5⟩, by show World.rangeLeft _ M1 _ < World.rangeLeft _ M1 _; rw [hI5.out.left, hI.out.left]; exact hlt⟩
end Go.Proofs.Ytjdebancpgpebaa
