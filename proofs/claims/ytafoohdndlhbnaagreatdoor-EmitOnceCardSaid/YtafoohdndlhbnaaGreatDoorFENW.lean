/-
  EmitOnce: the walk.
-/
import Derived.Test.YtafoohdndlhbnaaGreatDoorFENV
import Derived.Carry
import Derived.Deep.DeepCutAuto
section
namespace Go.Proofs.YtafoohdndlhbnaaGreatDoor
open Go.RowKit Go.Maps Bits Go.Shelf
set_option maxRecDepth 100000
set_option linter.unusedVariables false

set_option maxHeartbeats 8000000 in
theorem once_any {w : World} (ht : PW w) (F H : Bool) {a : Option Addr} {n c : Nat} {SS : Nat → StV} (hs : StRow w a n SS) {m : Int} (hm : 0 ≤ m ∧ m < 256) :
    Calls Tryz.prog 4 #[.agg #[.bool F, .bool H], .slice a n c, .int .u8 m] w fun e w' => e = .returned (.bool true) ∧ Below w.heap.size w w' := by
  have hPW := Lib.hid (fun W (hb : Below w.heap.size w W) => ht.step hb)
  have hbA : Below w.heap.size w (w.alloc (.cells #[.bool F, .bool H] 23)) := (Below.refl _ w).alloc (Nat.le_refl _) _
  have k0 : (w.alloc (.cells #[.bool F, .bool H] 23)).cell? ⟨w.heap.size, 0, none⟩ = some (.bool F) := by simp [go_sem]
  have k1 : (w.alloc (.cells #[.bool F, .bool H] 23)).cell? ⟨w.heap.size, 1, none⟩ = some (.bool H) := by simp [go_sem]
  have hBu := Lib.hid (BuiltT_any F H (c := c) (stRow_up hs hbA))
  have hbA := Lib.hid hbA
  clear ht hs
  go_enter Tryz.func4, Tryz.ntmps4
  go_upto_region 4 with (go_at_call 9; (with_reducible refine hBu.out.mono ?_); rintro e w2 ⟨B, C, Bd, Bg, q, p, N, rfl, hA, -, ⟨rest, hG⟩, hU, hTop⟩)
  have hw2 := Lib.hid (nextw hbA.out hA.below)
  have hSm := hU.small (Nat.le_refl _)
  have hcd := codeQ_few hG hU
  have hAll := Lib.hid (fun W (hW : Below w2.heap.size w2 W) => All_tell (hA.is.below hW) hG hSm (hPW.out W (nextw hw2.out hW)))
  rw [hcd, hA.b] at hAll
  have hCk := Lib.hid (fun W (hW : Below w2.heap.size w2 W) => Check_any (hA.is.below hW) hG (by have := hSm.g; omega) (by have := hSm.ins; omega) (by have := hSm.regs; omega) (by have := hSm.outs; omega))
  rw [hA.b] at hCk
  have hte := Lib.hid (fun W (hW : Below w2.heap.size w2 W) => tells10_any (hPW.out W (nextw hw2.out hW)))
  have hT0 := Lib.hid (Below.refl w2.heap.size w2)
  have hc1 := Lib.hid (hAll.out w2 hT0.out)
  clear k0 k1 hBu hbA
  by_cases hz : ckV rest = 0
  · have hA0 := Lib.hid (all_row hA.is hG hU (hPW.out w2 hw2.out) hz (text_end N))
    rw [hA.b] at hA0
    clear hc1 hCk
    obtain ⟨J, hJ⟩ : ∃ J, joinC 10 (linesL N) = J := ⟨_, rfl⟩
    have hJ := Lib.hid hJ
    rw [hJ.out] at hA0
    have hJl : J.length < 16777216 := by
      have h1 := text_few hG hU
      rw [text_end, hJ.out] at h1
      simp at h1
      omega
    go_upto_region 7 with (go_at_call 10; (with_reducible refine hA0.out.mono ?_); rintro e w3 ⟨g, n3, rfl, ho3, hb3⟩)
    have hB3 := Lib.hid hb3
    have hl1 : (J ++ [10]).length = J.length + 1 := by simp
    have hlast : w3.cell? ⟨g, J.length, none⟩ = some (.int .u8 10) := by
      rw [ho3.cellAt (j := J.length) (by omega)]
      unfold bys
      simp
    have hcv := Lib.hid (fun (W : World) (hW : Below w3.heap.size w3 W) cap2 => conv_most (own_below ho3 hW) cap2)
    have hcap : J.length ≤ n3 := by have := (own_cap2 ho3).1; omega
    have hcv1 := hcv.out ((w3.alloc (.map #[] 0)).alloc (.map #[] 0)) (((Below.refl _ _).alloc (Nat.le_refl _) _).alloc (by simp) _) n3
    have ho3 := Lib.hid ho3
    clear hA0 hb3
    have hok := Lib.hid (EmOk.of hG hSm)
    have hsp := Lib.hid (split_text hG hJ.out hJl w3)
    have hnl := lines_len hok.out hSm
    have hmm := @run_makeMap Tryz.prog
    have hr0 : rest = [] := by unfold ckV at hz; cases rest <;> simp_all
    subst hr0
    obtain ⟨n, hn⟩ : ∃ n, (linesL N).length = n := ⟨_, rfl⟩
    rw [hn] at hsp hnl
    have hn := Lib.hid hn
    go_wp2_with (go_at_call 18; (with_reducible refine hsp.out.mono ?_); rintro e w6 ⟨rfl, hO6⟩; have hO6 := Lib.hid hO6)
    clear hmm hsp hcv1
    obtain ⟨M, hM⟩ : ∃ M, w3.heap.size = M := ⟨_, rfl⟩
    rw [hM] at hO6 ⊢
    obtain ⟨X, hX⟩ : ∃ X, linesL N = X := ⟨_, rfl⟩
    rw [hX] at hO6
    have hM := Lib.hid hM
    have hX := Lib.hid hX
    have hKn : Hid ((lnsK N).length = n) := Lib.hid (by rw [lnsK_lines]; exact hn.out)
    have hO0 : Hid (OS M X w3 (ldK N 0) (lsK N 0) w6) := hO6
    have hJ2 := hJ
    clear hO6 hJ hz
    go_loopw [86] (fun s wr => ∃ i : Nat, i ≤ n ∧ s = .int .i64 i ∧ Hid (OS M X w3 (ldK N i) (lsK N i) wr)) (fun s _ => n - (intOf s).toNat)
    case atStart => exact ⟨0, Nat.zero_le _, rfl, hO0⟩
    case round =>
      clear hO0 hlast hcv
      obtain ⟨i, hi, rfl, hO⟩ := hrel
      obtain ⟨wi, rfl⟩ : ∃ wi : World, wi = wr := ⟨_, rfl⟩
      by_cases hlt : i < n
      · as_aux_lemma =>
        obtain ⟨k, hk⟩ : ∃ k, (lnsK N)[i]? = some k := ⟨_, List.getElem?_eq_getElem (by rw [hKn.out]; exact hlt)⟩
        have hc0 : wi.cell? ⟨M + 2, i, none⟩ = some (.string (spellS (k.words N))) := by
          have h1 := lines_at hk
          rw [hX.out] at h1
          obtain ⟨h2, h3⟩ := List.getElem?_eq_some_iff.1 h1
          rw [← h3]
          exact hO.out.x.2 i h2
        have hszl := line_size hok.out hk
        obtain ⟨ws, hws⟩ : ∃ ws, k.words N = ws := ⟨_, rfl⟩
        have hbl := words_bl hG hk
        have hne := words_ne N k
        rw [hws] at hc0 hszl hbl hne
        obtain ⟨ln, hln⟩ : ∃ ln, spellS ws = ln := ⟨_, rfl⟩
        rw [hln] at hc0 hszl
        have hsl := Lib.hid (split_line hO.out hbl hne hln.symm hszl)
        have hln := Lib.hid hln
        have hws := Lib.hid hws
        have hk := Lib.hid hk
        clear hbl hne hszl
        have hnw : ws.length ≤ 66 := by
          rw [← hws.out, LnK.words_len]
          have := nums_few hok.out hk.out
          have := (start_le k).2
          omega
        have hf0 : Hid (ws[0]? = some k.first) := Lib.hid (by rw [← hws.out]; exact LnK.words_first N k)
        obtain ⟨nw, hnw2⟩ : ∃ nw, ws.length = nw := ⟨_, rfl⟩
        rw [hnw2] at hsl hnw
        have hnw2 := Lib.hid hnw2
        have hnw0 : 0 < nw := by
          rw [← hnw2.out]
          exact (List.getElem?_eq_some_iff.1 hf0.out).1
        go_upto_region 16 with (go_at_call 18; (with_reducible refine hsl.out.mono ?_); rintro e w7 ⟨g, rfl, hS7, hg7, hO7, hb7⟩; clear hsl)
        have c7 : w7.cell? ⟨g, 0, none⟩ = some (.string k.first) := by
          obtain ⟨h1, h2⟩ := List.getElem?_eq_some_iff.1 hf0.out
          rw [← h2]
          exact hS7.2 0 h1
        obtain ⟨C, hC, hCo⟩ := hO7.c
        have hlk := hC.look hCo (first_few k) rfl
        have hcl := cntS_le (lsK N i) k.first
        have hll := lsK_len N (i := i) (by rw [hKn.out]; omega)
        rw [hll] at hcl
        have hcn := Lib.hid (fun W' hg ho => OS.cnt (W' := W') hO7 hC (first_few k) hg ho)
        have hCo := Lib.hid (by rw [hll] at hCo; exact hCo)
        rw [hll, ← lsK_next hk.out] at hcn
        generalize cntS (lsK N i) k.first = cn at *
        have hkey := Lib.hid (skey_of k.first (first_few k))
        have hwf : Hid ((Lit.int .i64 ((cn : Nat) + 1)).wf = true) := Lib.hid (WalkArith.wf_i64 (by omega))
        have hSg := Lib.hid (fun W' hg => hS7.grown (W' := W') (m := M + 1) hg (by omega))
        clear hll hC hc0 hO hO7
        go_upto_region 18 with (at_mapUpdate; refine wpList_mapUpdate_own _ rfl _ _ _ 46 rfl 9 3 slaw Tryz.underlying46 _ (M + 1) i C rfl hCo.out (by unfold maxLen; omega) _ _ (skey k.first) rfl rfl hkey.out (.lit (.int .i64 ((cn : Nat) + 1))) [] (plainElem_int Tryz.underlying3 hwf.out) ?_; intro w8 hown8 hgrow8; have hO8 := Lib.hid (hcn.out _ hgrow8 hown8); have hS8 := Lib.hid (hSg.out _ hgrow8); have c8 := hgrow8.cell c7 (by simp; omega); clear hown8 hgrow8)
        have hlen1 : (1 : Int) ≤ nw := by omega
        have hlen0 : (0 : Int) < nw := by omega
        clear hlk hcl hcn hCo hkey hwf hSg c7 hf0
        go_upto_region 19 with fail
        go_cut [114] (fun s wx => s = .bool (decide (k.start = 2)) ∧ w8 = wx)
        case first =>
          -- @slow
          as_aux_lemma =>
          rcases first_start k with ⟨e1, e2⟩ | ⟨e1, e2⟩ | ⟨e1, e2⟩ | ⟨e1, e2⟩ | ⟨e1, e2⟩ | ⟨e1, e2⟩
          all_goals
            rw [e1] at c8
            have e2 := Lib.hid e2
            clear e1
            go_wp2_with fail
            go_meet
            exact ⟨by rw [e2.out]; rfl, rfl⟩
          -- @end
        case rest =>
          obtain ⟨rfl, rfl⟩ := hcut
          go_upto_if 114 with fail
          go_cut [18] (fun s wx => s = .int .i64 ((k.start : Nat) : Int) ∧ w8 = wx)
          case first =>
            -- @slow
            as_aux_lemma =>
            by_cases h2 : k.start = 2
            · go_wp2_with fail
              go_meet
              exact ⟨by rw [h2]; rfl, rfl⟩
            · have h1 : k.start = 1 := by have := start_le k; omega
              go_wp2_with fail
              go_meet
              exact ⟨by rw [h1]; rfl, rfl⟩
            -- @end
          case rest =>
            obtain ⟨rfl, rfl⟩ := hcut
            obtain ⟨st, hst⟩ : ∃ st, k.start = st := ⟨_, rfl⟩
            have hst2 := start_le k
            rw [hst] at hst2 ⊢
            have hst := Lib.hid hst
            obtain ⟨ns, hns⟩ : ∃ ns, k.nums N = ns := ⟨_, rfl⟩
            have hlit := Lib.hid (nums_lit hG hok.out hk.out)
            rw [hns] at hlit
            have hnsl : ns.length + st = nw := by rw [← hns, ← hst.out, ← hnw2.out, ← hws.out, LnK.words_len]; omega
            have hwat : Hid (∀ j x, ns[j]? = some x → ws[st + j]? = some (decS x)) := Lib.hid (fun j x hj => by
              rw [← hws.out, ← hst.out, LnK.words_at, hns, hj]
              rfl)
            have hns := Lib.hid hns
            have hnsl := Lib.hid hnsl
            have hN0 : Hid (NS M X w3 (ldK N i) (lsK N (i + 1)) g ws (.slice none 0 0) (ns.take (st - st)) w8) := Lib.hid (by
              rw [Nat.sub_self]
              exact NS.nil hO8.out hS8.out hg7)
            have hkk := Lib.hid (Below.refl w8.heap.size w8)
            obtain ⟨i0, hin, hz0, hz1, hz2⟩ := info_parts info_u64o
            have hstn : st ≤ nw := by have := hnsl.out; omega
            clear hO8 hS8
            go_wp2_with fail
            go_loopw [17, 19] (fun v s wr => ∃ p : Nat, st ≤ p ∧ p ≤ nw ∧ s = .int .i64 p ∧ Hid (NS M X w3 (ldK N i) (lsK N (i + 1)) g ws v (ns.take (p - st)) wr)) (fun _ s _ => nw - (intOf s).toNat)
            case atStart => exact ⟨st, Nat.le_refl _, hstn, rfl, hN0⟩
            case round =>
              clear hN0 c8 hkk
              obtain ⟨p, hp1, hp2, rfl, hNS⟩ := hrel
              obtain ⟨wp, rfl⟩ : ∃ wp : World, wp = wr := ⟨_, rfl⟩
              by_cases hpl : p < nw
              · -- @slow
                as_aux_lemma =>
                obtain ⟨x, hx⟩ : ∃ x, ns[p - st]? = some x := ⟨_, List.getElem?_eq_getElem (by have := hnsl.out; omega)⟩
                have hxl := hlit.out x (List.mem_of_getElem? hx)
                have hwx := hwat.out _ _ hx
                rw [show st + (p - st) = p by omega] at hwx
                have c9 : wp.cell? ⟨g, p, none⟩ = some (.string (decS x)) := by
                  obtain ⟨h1, h2⟩ := List.getElem?_eq_some_iff.1 hwx
                  rw [← h2]
                  exact hNS.out.s.2 p h1
                have hnx := Lib.hid (take_next hp1 hx)
                have hpu := Lib.hid (parseU_any x hxl)
                have htl : (ns.take (p - st)).length ≤ 66 := by rw [List.length_take]; omega
                clear hwx hx
                obtain ⟨sx, hsx⟩ : ∃ sx, decS x = sx := ⟨_, rfl⟩
                rw [hsx] at c9 hpu
                clear hsx
                obtain ⟨va, vc, hv⟩ := hNS.out.row
                subst hv
                generalize ns.take (p - st) = nt at *
                go_wp2_with (first
                  | (go_at_call 19; (with_reducible refine (hpu.out _).mono ?_); rintro e w9 ⟨rfl, hb9⟩; have hN9 := Lib.hid (hNS.out.step hb9); have hN9a := Lib.hid (fun o => hN9.out.step ((Below.refl w9.heap.size w9).alloc (Nat.le_refl _) o)); have hg9 := hN9.out.s.1; clear hb9)
                  | (at_builtin; refine wpList_append_own _ rfl _ _ 48 rfl (g + 1) 49 i0 (.int .u64 0) 1 8 Tryz.underlying48 hin hz0 hz1 hz2 rfl (by decide) _ _ _ rfl (hN9.out.r.alloc _) ⟨w9.heap.size, 0, none⟩ 1 1 [.int .u64 x] rfl rfl (news1 _ _ _) (by simp [Value.oneCell']) (by unfold maxLen; omega) (by omega) (by simp; omega) ?_; intro v10 w10 hown10 hg10 _; have hN10 := Lib.hid ((hN9a.out _).push hg10 hown10); clear hown10 hg10))
                exact ⟨⟨p + 1, by omega, by omega, by go_num, Lib.hid (by rw [hnx.out]; exact hN10.out)⟩, by simp [intOf]; omega⟩
                -- @end
              · obtain rfl : nw = p := by omega
                have hNN := Lib.hid (show NS M X w3 (ldK N i) (lsK N (i + 1)) g ws u17 ns wp by
                  have := hNS.out
                  rw [List.take_of_length_le (by have := hnsl.out; omega)] at this
                  exact this)
                have c9 : wp.cell? ⟨g, 0, none⟩ = some (.string k.first) := by
                  have h1 := LnK.words_first N k
                  rw [hws.out] at h1
                  obtain ⟨h1, h2⟩ := List.getElem?_eq_some_iff.1 h1
                  rw [← h2]
                  exact hNN.out.s.2 0 h1
                clear hNS hlit hwat hin hz0 hz1 hz2
                have hBp := Lib.hid (nextw hB3.out hNN.out.o.b)
                obtain ⟨ia, ic, ra, rc, oa, oc, BI, BR, BO, a0, a1, a2, a3, a4, hBl⟩ := net_cells hA hBp.out
                have BI := Lib.hid BI
                have BO := Lib.hid BO
                clear BR
                have hgl := hNN.out.s.1
                have hnl2 := hlen0
                rcases lnsK_at hk.out with ⟨rfl, hi0⟩ | ⟨b, hb, rfl⟩ | ⟨r, hr, rfl⟩ | ⟨j, hj, rfl⟩ | ⟨b, hb, rfl⟩ | ⟨rfl, hi1⟩
                · -- @model
                  as_aux_lemma =>
                  replace c9 : wp.cell? ⟨g, 0, none⟩ = some (.string sModel) := c9
                  have hOe := Lib.hid (fun q => (show OS M X w3 (ldK N (i + 1)) (lsK N (i + 1)) (wp.drewN q) by rw [ldK_next hk.out]; simpa [LnK.drives] using hNN.out.o.step (below_draws wp q)))
                  have hw2 : nw = 2 := by rw [← hnw2.out, ← hws.out]; rfl
                  have c10 : wp.cell? ⟨g, 1, none⟩ = some (.string N.name) := by
                    have h1 : ws[1]? = some N.name := by rw [← hws.out]; rfl
                    obtain ⟨h1, h2⟩ := List.getElem?_eq_some_iff.1 h1
                    rw [← h2]
                    exact hNN.out.s.2 1 h1
                  have gi : ((i : Int) != 0) = false := by simp; omega
                  have gw : ((nw : Int) != 2) = false := by simp; omega
                  have gl1 : 1 < nw := by omega
                  have gl1i : (1 : Int) < nw := by omega
                  clear hw2 hi0 hNN a0 a2 a3 a4
                  generalize N.name = nm at *
                  go_upto_region 52 with fail
                  go_quiet (fail)
                  go_wp2_with fail
                  exact ⟨⟨i + 1, by omega, by go_num, Lib.hid (hOe.out _)⟩, by simp [intOf]; omega⟩
                · -- @inp
                  as_aux_lemma =>
                  replace c9 : wp.cell? ⟨g, 0, none⟩ = some (.string sInput) := c9
                  have hwide := hG.ins.wide b hb
                  obtain ⟨ll, hll⟩ : ∃ ll, b.lits.length = ll := ⟨_, rfl⟩
                  rw [hll] at hwide
                  have hnb : ns = b.lits := hns.out.symm
                  subst hnb
                  obtain ⟨nb, nc, hv⟩ := hNN.out.form (l := ll) hll (by omega)
                  subst hv
                  have hlit := Lib.hid (nums_lit hG hok.out hk.out)
                  have hnewl := Lib.hid (fun j x (hj : b.lits[j]? = some x) => (show x ∉ ldK N i ++ b.lits.take j from ldK_new hG hk.out (j := j) (x := x) hj))
                  have hld := ldK_len hG i
                  have hgf := hok.out.few
                  have hnx := Lib.hid (ldK_next hk.out)
                  have hN0 : Hid (NS M X w3 (ldK N i ++ b.lits.take 0) (lsK N (i + 1)) g ws (.slice (some ⟨nb, 0, none⟩) ll nc) b.lits wp) := Lib.hid (by simpa using hNN.out)
                  have c10 : ws[1]? = some b.name := by rw [← hws.out]; rfl
                  have c10 := Lib.hid c10
                  have hfd := Lib.hid (fun W (hW : Below w2.heap.size w2 W) => (show ∃ (ia2 : Option Addr) (ic2 : Nat), W.cell? ⟨B, 2, none⟩ = some (.slice ia2 N.ins.length ic2) ∧ Calls Tryz.prog 20 #[.slice ia2 N.ins.length ic2, .string b.name] W.drew fun e w' => ∃ (a2 : Option Addr) (c2 : Nat), e = .returned (.tuple #[.slice a2 b.lits.length c2, .bool true]) ∧ Below W.drew.heap.size W.drew w' by
                    obtain ⟨ia, ic, ra, rc, oa, oc, BI, BR, BO, a0, a1, a2, a3, a4, hBl⟩ := net_cells hA hW
                    exact ⟨ia, ic, a2, find_own (BI.below (Below.refl _ _).drew) rfl hG.ins hb⟩))
                  have hgw2 : 2 ≤ nw := by rw [← hnw2.out, ← hws.out]; simp [LnK.words, busWs]
                  have gl1 : 1 < nw := by omega
                  have gl1i : (1 : Int) < nw := by omega
                  rw [hll] at hfd
                  clear hNN BI BO a0 a1 a2 a3 a4 hBp
                  generalize b.name = nm at *
                  have hll := Lib.hid hll
                  go_upto_region 31 with fail
                  clear c9
                  go_wp2_with fail
                  go_loopw [143] (fun s wr => ∃ j : Nat, j ≤ ll ∧ s = .int .i64 j ∧ Hid (NS M X w3 (ldK N i ++ b.lits.take j) (lsK N (i + 1)) g ws (.slice (some ⟨nb, 0, none⟩) ll nc) b.lits wr)) (fun s _ => ll - (intOf s).toNat)
                  case atStart => exact ⟨0, Nat.zero_le _, rfl, hN0⟩
                  case round =>
                    clear hN0
                    obtain ⟨j, hj, rfl, hN⟩ := hrel
                    obtain ⟨wj, rfl⟩ : ∃ wj : World, wj = wr := ⟨_, rfl⟩
                    by_cases hjl : j < ll
                    · as_aux_lemma =>
                      obtain ⟨x, hx⟩ : ∃ x, b.lits[j]? = some x := ⟨_, List.getElem?_eq_getElem (by rw [hll.out]; exact hjl)⟩
                      have m0 := (hN.out.num hx).1
                      have hxl := hlit.out x (List.mem_of_getElem? hx)
                      have hnew := hnewl.out j x hx
                      obtain ⟨D, hD, hDo⟩ := hN.out.o.m
                      have hlk := hD.look hDo hxl (v := 0) (by rw [if_neg hnew])
                      have hdl : (ldK N i ++ b.lits.take j).length ≤ 200100 := by rw [List.length_append, List.length_take]; omega
                      have htk : b.lits.take (j + 1) = b.lits.take j ++ [x] := by rw [List.take_add_one, hx]; rfl
                      have hdn := Lib.hid (fun W' hg ho => (show NS M X w3 (ldK N i ++ b.lits.take (j + 1)) (lsK N (i + 1)) g ws (.slice (some ⟨nb, 0, none⟩) ll nc) b.lits W' by
                        have h1 := NS.drv (W' := W') hN.out hD hxl hnew hg ho
                        rw [htk, ← List.append_assoc]
                        exact h1))
                      have hkey := Lib.hid (dkey_of hxl)
                      have hDo := Lib.hid hDo
                      clear htk hnew hD hld hxl hx hN hfd
                      generalize (ldK N i ++ b.lits.take j).length = dl at *
                      go_wp2_with (at_mapUpdate; refine wpList_mapUpdate_own _ rfl _ _ _ 45 rfl 49 3 dlaw Tryz.underlying45 _ M dl D rfl hDo.out (by unfold maxLen; omega) _ _ (dkey x) rfl rfl hkey.out (.lit (.int .i64 1)) [] (plainElem_int Tryz.underlying3 (by decide)) ?_; intro w11 hown11 hgrow11; have hN11 := Lib.hid (hdn.out _ hgrow11 hown11); clear hown11 hgrow11)
                      exact ⟨⟨j + 1, by omega, by go_num, hN11⟩, by simp [intOf]; omega⟩
                    · as_aux_lemma =>
                      obtain rfl : ll = j := by omega
                      have hNe : Hid (NS M X w3 (ldK N (i + 1)) (lsK N (i + 1)) g ws (.slice (some ⟨nb, 0, none⟩) ll nc) b.lits wj) := Lib.hid (by
                        have := hN.out
                        rw [List.take_of_length_le (by rw [hll.out]; exact Nat.le_refl _)] at this
                        rw [hnx.out]
                        exact this)
                      have hBq := nextw hB3.out hNe.out.o.b
                      obtain ⟨ia, ic, a2, hfe⟩ := hfd.out wj hBq
                      have hBl := World.block_lt_of_cell? wj _ a2
                      have hgl2 := hNe.out.s.1
                      have d10 : wj.cell? ⟨g, 1, none⟩ = some (.string nm) := by
                        obtain ⟨h1, h2⟩ := List.getElem?_eq_some_iff.1 c10.out
                        rw [← h2]
                        exact hNe.out.s.2 1 h1
                      have hdr := Lib.hid ((Below.refl wj.heap.size wj).drew)
                      have hfe := Lib.hid hfe
                      clear hN hfd hBq
                      go_upto_region 36 with fail
                      go_region_held3 (fun w' => w'.cell? ⟨B, 2, none⟩ = some (.slice ia N.ins.length ic) ∧ w'.cell? ⟨g, 1, none⟩ = some (.string nm)) (go_keep) (first
                        | (go_at_call 20; (with_reducible refine hfe.out.mono ?_); rintro e w12 ⟨a12, c12, rfl, hb12⟩; have hb12 := nextw hdr.out hb12; have n2 := stepc hb12 hBl a2; have n0 := stepc hb12 hgl2 d10; have hb12 := Lib.hid hb12))
                      have hO12 := Lib.hid (hNe.out.o.step hb12.out)
                      clear n2 n0 a2 d10
                      go_wp2_with fail
                      exact ⟨⟨i + 1, by omega, by go_num, hO12⟩, by simp [intOf]; omega⟩
                · -- @latch
                  as_aux_lemma =>
                  replace c9 : wp.cell? ⟨g, 0, none⟩ = some (.string sLatch) := c9
                  obtain ⟨x3, hx3⟩ : ∃ x3 : Int, (if r.init then 1 else 0) = x3 := ⟨_, rfl⟩
                  have hn4 : ns = [r.q, r.d, r.en, x3] := by rw [← hns.out, ← hx3]; rfl
                  have hx31 : decide ((1 : Int) < x3) = false := by rw [← hx3]; cases r.init <;> simp
                  obtain ⟨nb, nc, hv⟩ := hNN.out.form (l := 4) (by rw [hn4]; rfl) (by omega)
                  subst hv
                  have m0 := (hNN.out.num (j := 0) (x := r.q) (by rw [hn4]; rfl)).1
                  have m3 := (hNN.out.num (j := 3) (x := x3) (by rw [hn4]; rfl)).1
                  have hxl := nums_lit hG hok.out hk.out r.q (by simp [LnK.nums])
                  have hnew : r.q ∉ ldK N i := by have := ldK_new hG hk.out (j := 0) (x := r.q) rfl; simpa using this
                  obtain ⟨D, hD, hDo⟩ := hNN.out.o.m
                  have hlk := hD.look hDo hxl (v := 0) (by rw [if_neg hnew])
                  have hld := ldK_len hG i
                  have hgf := hok.out.few
                  have hdn := Lib.hid (fun W' hg ho => (show OS M X w3 (ldK N (i + 1)) (lsK N (i + 1)) W' by
                    have h1 := (NS.drv (W' := W') hNN.out hD hxl hnew hg ho).o
                    rw [ldK_next hk.out]
                    exact h1))
                  have hkey := Lib.hid (dkey_of hxl)
                  have hDo := Lib.hid hDo
                  have hdl : (ldK N i).length ≤ 200000 := by omega
                  clear hn4 hx3 hNN hnew hD hld hxl
                  generalize (ldK N i).length = dl at *
                  generalize r.q = x at *
                  go_wp2_with (at_mapUpdate; refine wpList_mapUpdate_own _ rfl _ _ _ 45 rfl 49 3 dlaw Tryz.underlying45 _ M dl D rfl hDo.out (by unfold maxLen; omega) _ _ (dkey x) rfl rfl hkey.out (.lit (.int .i64 1)) [] (plainElem_int Tryz.underlying3 (by decide)) ?_; intro w11 hown11 hgrow11; have hO11 := Lib.hid (hdn.out _ hgrow11 hown11); clear hown11 hgrow11)
                  exact ⟨⟨i + 1, by omega, by go_num, hO11⟩, by simp [intOf]; omega⟩
                · -- @gate
                  as_aux_lemma =>
                  replace c9 : wp.cell? ⟨g, 0, none⟩ = some (.string sAnd) := c9
                  obtain ⟨y, hy⟩ : ∃ y : Int, (nodeAt N.g j).a = y := ⟨_, rfl⟩
                  obtain ⟨z, hz⟩ : ∃ z : Int, (nodeAt N.g j).b = z := ⟨_, rfl⟩
                  obtain ⟨x, hx⟩ : ∃ x : Int, 2 * (j : Int) = x := ⟨_, rfl⟩
                  have hn3 : ns = [x, y, z] := by rw [← hns.out, ← hx, ← hy, ← hz]; rfl
                  have hord := gate_order hG.wf hj
                  rw [hy, hz, hx] at hord
                  have gxy : decide (x ≤ y) = false := by simp; omega
                  have gyz : decide (y < z) = false := by simp; omega
                  obtain ⟨nb, nc, hv⟩ := hNN.out.form (l := 3) (by rw [hn3]; rfl) (by omega)
                  subst hv
                  have m0 := (hNN.out.num (j := 0) (x := x) (by rw [hn3]; rfl)).1
                  have m1 := (hNN.out.num (j := 1) (x := y) (by rw [hn3]; rfl)).1
                  have m2 := (hNN.out.num (j := 2) (x := z) (by rw [hn3]; rfl)).1
                  have hnl3 := (hNN.out.num (j := 0) (x := x) (by rw [hn3]; rfl)).2
                  have hxl := nums_lit hG hok.out hk.out x (by rw [← hx]; simp [LnK.nums])
                  have hnew : x ∉ ldK N i := by have := ldK_new hG hk.out (j := 0) (x := x) (by rw [← hx]; rfl); simpa using this
                  have hld := ldK_len hG i
                  have hgf := hok.out.few
                  have hNq := Lib.hid (fun q => hNN.out.step (below_draws wp q))
                  have hmq := Lib.hid (fun q => stepc (below_draws wp q) hnl3 m0)
                  have hq := Lib.hid (fun q => (show ∃ D, (wp.drewN q).ownsMap Tryz.prog 49 (plainElem Tryz.prog 3) M (ldK N i).length D ∧ (Instr.lookup 45 (.map (some M)) (.int .u64 x) false).run Tryz.prog (wp.drewN q) = .ok (.int .i64 0) (wp.drewN q) ∧ ∀ W' : World, (wp.drewN q).grownBy W' (some M) → W'.ownsMap Tryz.prog 49 (plainElem Tryz.prog 3) M ((ldK N i).length + 1) (D.put (dkey x) (.lit (.int .i64 1))) → OS M X w3 (ldK N (i + 1)) (lsK N (i + 1)) W' by
                    obtain ⟨D, hD, hDo⟩ := (hNq.out q).o.m
                    refine ⟨D, hDo, hD.look hDo hxl (v := 0) (by rw [if_neg hnew]), fun W' hg ho => ?_⟩
                    have h1 := (NS.drv (W' := W') (hNq.out q) hD hxl hnew hg ho).o
                    rw [ldK_next hk.out]
                    rw [← hx] at h1
                    exact h1))
                  have hkey := Lib.hid (dkey_of hxl)
                  have hdl : (ldK N i).length ≤ 200000 := by omega
                  clear hn3 hNN hnew hld hxl hord hy hz hx hNq hnl3
                  generalize (ldK N i).length = dl at *
                  go_upto_region 44 with fail
                  go_quiet (fail)
                  go_upto_region 46 with fail
                  clear m0 m1 m2
                  generalize hqq : wp.drewN _ = wq
                  obtain ⟨D, hDo, hlk, hdn⟩ := (by have := hq.out; rw [← hqq]; exact hq.out _ : ∃ D, wq.ownsMap Tryz.prog 49 (plainElem Tryz.prog 3) M dl D ∧ (Instr.lookup 45 (.map (some M)) (.int .u64 x) false).run Tryz.prog wq = .ok (.int .i64 0) wq ∧ ∀ W' : World, wq.grownBy W' (some M) → W'.ownsMap Tryz.prog 49 (plainElem Tryz.prog 3) M (dl + 1) (D.put (dkey x) (.lit (.int .i64 1))) → OS M X w3 (ldK N (i + 1)) (lsK N (i + 1)) W')
                  have m0 : wq.cell? ⟨nb, 0, none⟩ = some (.int .u64 x) := by rw [← hqq]; exact hmq.out _
                  have hDo := Lib.hid hDo
                  have hdn := Lib.hid hdn
                  clear hq hmq hqq
                  go_wp2_with (at_mapUpdate; refine wpList_mapUpdate_own _ rfl _ _ _ 45 rfl 49 3 dlaw Tryz.underlying45 _ M dl D rfl hDo.out (by unfold maxLen; omega) _ _ (dkey x) rfl rfl hkey.out (.lit (.int .i64 1)) [] (plainElem_int Tryz.underlying3 (by decide)) ?_; intro w11 hown11 hgrow11; have hO11 := Lib.hid (hdn.out _ hgrow11 hown11); clear hown11 hgrow11)
                  exact ⟨⟨i + 1, by omega, by go_num, hO11⟩, by simp [intOf]; omega⟩
                · -- @out
                  as_aux_lemma =>
                  replace c9 : wp.cell? ⟨g, 0, none⟩ = some (.string sOutput) := c9
                  have hwide := hG.outs.wide b hb
                  obtain ⟨ll, hll⟩ : ∃ ll, b.lits.length = ll := ⟨_, rfl⟩
                  rw [hll] at hwide
                  have hnb : ns = b.lits := hns.out.symm
                  subst hnb
                  obtain ⟨nb, nc, hv⟩ := hNN.out.form (l := ll) hll (by omega)
                  subst hv
                  have hnx := ldK_next hk.out
                  have hOe : Hid (OS M X w3 (ldK N (i + 1)) (lsK N (i + 1)) wp) := Lib.hid (by rw [hnx]; simpa [LnK.drives] using hNN.out.o)
                  have d10 : wp.cell? ⟨g, 1, none⟩ = some (.string b.name) := by
                    have h1 : ws[1]? = some b.name := by rw [← hws.out]; rfl
                    obtain ⟨h1, h2⟩ := List.getElem?_eq_some_iff.1 h1
                    rw [← h2]
                    exact hNN.out.s.2 1 h1
                  have hfe := Lib.hid (find_own (c := oc) (BO.out.below (Below.refl _ _).drew) rfl hG.outs hb)
                  have hgw2 : 2 ≤ nw := by rw [← hnw2.out, ← hws.out]; simp [LnK.words, busWs]
                  have gl1 : 1 < nw := by omega
                  have gl1i : (1 : Int) < nw := by omega
                  have hdr := Lib.hid ((Below.refl wp.heap.size wp).drew)
                  rw [hll] at hfe
                  clear hNN BI BO a0 a1 a2 a3 hBp hll hnx
                  generalize b.name = nm at *
                  go_upto_region 48 with fail
                  clear c9
                  go_region_held3 (fun w' => w'.cell? ⟨B, 4, none⟩ = some (.slice oa N.outs.length oc) ∧ w'.cell? ⟨g, 1, none⟩ = some (.string nm)) (go_keep) (first
                    | (go_at_call 20; (with_reducible refine hfe.out.mono ?_); rintro e w12 ⟨a12, c12, rfl, hb12⟩; have hb12 := nextw hdr.out hb12; have n2 := stepc hb12 hBl a4; have n0 := stepc hb12 hgl d10; have hb12 := Lib.hid hb12))
                  have hO12 := Lib.hid (hOe.out.step hb12.out)
                  clear n2 n0 a4 d10
                  go_wp2_with fail
                  exact ⟨⟨i + 1, by omega, by go_num, hO12⟩, by simp [intOf]; omega⟩
                · -- @fin
                  as_aux_lemma =>
                  replace c9 : wp.cell? ⟨g, 0, none⟩ = some (.string sEnd) := c9
                  have hOe := Lib.hid (show OS M X w3 (ldK N (i + 1)) (lsK N (i + 1)) wp by rw [ldK_next hk.out]; simpa [LnK.drives] using hNN.out.o)
                  have hw1 : nw = 1 := by rw [← hnw2.out, ← hws.out]; rfl
                  have hin1 : i + 1 = n := by rw [hi1]; exact hKn.out
                  have gi : ((i : Int) != (n : Int) - 1) = false := by simp; omega
                  have gw : ((nw : Int) != 1) = false := by simp; omega
                  clear hw1 hi1 hNN a0 a2 a3 a4
                  go_wp2_with fail
                  exact ⟨⟨i + 1, by omega, by go_num, hOe⟩, by simp [intOf]; omega⟩
      · -- @tail
        as_aux_lemma =>
        have hin : i = n := by omega
        have hO := Lib.hid (show OS M X w3 (drvL N) ((lnsK N).map LnK.first) wi by
          have h1 := hO.out
          rw [hin, ← hKn.out, ldK_end, lsK_end] at h1
          exact h1)
        subst hin
        have hBp := Lib.hid (nextw hB3.out hO.out.b)
        obtain ⟨ia, ic, ra, rc, oa, oc, BI, BR, BO, a0, a1, a2, a3, a4, hBl⟩ := net_cells hA hBp.out
        obtain ⟨G, hGl⟩ : ∃ G, N.g.nodes.length = G := ⟨_, rfl⟩
        have hpos := hG.wf.pos
        have hgf := hok.out.few
        rw [hGl] at hpos hgf
        have hnd := Lib.hid (fun W (hW : Below w2.heap.size w2 W) => (hA.step hW).nodes hG.wf.pos)
        rw [hGl] at hnd
        obtain ⟨D, hD, hDo⟩ := hO.out.m
        have hdl : (drvL N).length = G - 1 := by rw [drv_len hG, hGl]
        have hlkd := Lib.hid (fun (j : Nat) (h1 : 1 ≤ j) (h2 : j < G) => hD.look hDo (x := 2 * (j : Int)) (by omega) (v := 1) (by rw [if_pos ((drv_mem hG _).2 ⟨j, h1, by rw [hGl]; exact h2, rfl⟩)]))
        have hGl := Lib.hid hGl
        have hnd1 := Lib.hid (hnd.out wi hBp.out)
        clear hDo hD BI BR BO
        go_wp2_with fail
        go_loopw [28] (fun s wr => ∃ k : Nat, 1 ≤ k ∧ k ≤ G ∧ s = .int .i64 k ∧ wi = wr) (fun s _ => G - (intOf s).toNat)
        case atStart => exact ⟨1, Nat.le_refl _, by omega, rfl, rfl⟩
        case round =>
          obtain ⟨k, hk1, hk2, rfl, rfl⟩ := hrel
          by_cases hkG : k < G
          · as_aux_lemma =>
            have hl1 := hlkd.out k hk1 hkG
            have gk0 : (0 : Int) ≤ 2 * (k : Int) := by omega
            have gk1 : 2 * (k : Int) < 18446744073709551616 := by omega
            go_wp2_with (go_at_call 21; (with_reducible refine hnd1.out.mono ?_); rintro e w13 ⟨rfl, rfl⟩)
            exact ⟨⟨k + 1, by omega, by omega, by go_num, by first | trivial | rfl⟩, by simp [intOf]; omega⟩
          · have hkG2 : k = G := by omega
            subst hkG2
            go_upto_region 63 with (go_at_call 21; (with_reducible refine hnd1.out.mono ?_); rintro e w13 ⟨rfl, rfl⟩)
            have hT := Lib.hid (fun q => (hO.out.step (below_draws wi q)).told hG hGl.out)
            have t1 := fun q => (hT.out q).d
            have t2 := fun q => (hT.out q).e
            have t3 := fun q => (hT.out q).m
            have t4 := fun q => (hT.out q).i
            have t5 := fun q => (hT.out q).l
            have t6 := fun q => (hT.out q).a
            have t7 := fun q => (hT.out q).o
            have hndq := Lib.hid (fun q => hnd.out (wi.drewN q) (nextw hBp.out (below_draws wi q)))
            have hgtq := Lib.hid (fun q => (hA.step (nextw hBp.out (below_draws wi q))).gatesQ hG hSm)
            have hsz : IntKind.i64.wrap ((k : Int) - 1) = (k : Int) - 1 := IntWalk.i64_in _ (by omega)
            have hga := gatesTo_le N.g N.g.nodes.length
            have hIl := hSm.ins
            have hRl := hSm.regs
            have hOl := hSm.outs
            clear hlkd hnd1 hkG
            generalize gatesTo N.g N.g.nodes.length = gg at *
            obtain ⟨li, hli⟩ : ∃ li, N.ins.length = li := ⟨_, rfl⟩
            obtain ⟨lr, hlr⟩ : ∃ lr, N.regs.length = lr := ⟨_, rfl⟩
            obtain ⟨lo, hlo⟩ : ∃ lo, N.outs.length = lo := ⟨_, rfl⟩
            rw [hli] at t4 a2 hIl
            rw [hlr] at t5 a3 hRl
            rw [hlo] at t7 a4 hOl
            have hli := Lib.hid hli
            have hlr := Lib.hid hlr
            have hlo := Lib.hid hlo
            go_quiet (first
              | (go_at_call 21; (with_reducible exact Calls.quiet_of_same ((hndq.out _).mono (fun _ _ h => ⟨h.1, h.2.symm⟩))))
              | (go_at_call 22; (with_reducible exact Calls.quiet_of (hgtq.out _))))
            go_upto_region 65 with fail
            generalize hqq : wi.drewN _ = wq
            have hBq : Below wi.heap.size wi wq := by rw [← hqq]; exact below_draws wi _
            have b1 := stepc hBq hBl a1
            have b3 := stepc hBq hBl a3
            have b4 := stepc hBq hBl a4
            have hBlq := Nat.lt_of_lt_of_le hBl hBq.size
            have hcp := Lib.hid ((hA.step (nextw hBp.out hBq)).copyF hG hSm)
            have hB3q := Lib.hid (nextw hO.out.b hBq)
            have hB2q := Lib.hid (nextw hBp.out hBq)
            clear t1 t2 t3 t4 t5 t6 t7 hT hndq hgtq hqq a0 a1 a2 a3 a4 hO hBq hsz
            go_upto_region 66 with (go_at_call 23; (with_reducible refine hcp.out.mono ?_); rintro e w14 ⟨q2, KI, KO, rfl, hQ, ⟨hKI, hKO, hKK⟩, hb14, hn14⟩)
            have c3 := stepc hb14 hBlq b3
            have c4 := stepc hb14 hBlq b4
            have hB3c := Lib.hid (nextw hB3q.out hb14)
            have hB2c := Lib.hid (nextw hB2q.out hb14)
            have hw3q := hB3q.out.size
            have hw3q2 := hw3q
            have hn14 := Lib.hid (fun k hk => Nat.le_trans hw3q (hn14 k hk))
            have hQ := Lib.hid hQ
            have hKI := Lib.hid hKI
            have hKO := Lib.hid hKO
            have hKK := Lib.hid hKK
            have hBlc := World.block_lt_of_cell? w14 _ c4
            clear b1 b3 b4 hcp hb14 hB3q hB2q hBlq hBl hw3q
            go_upto_block 9 with fail
            go_cut [] from 353 to 448 (fun wx => ∃ N' : Nt, Hid (Good N' []) ∧ Hid (Upto N' 60) ∧ Hid (¬ textN N' = textN N) ∧ Hid (NetIs wx q2 N') ∧ Hid (Below w3.heap.size w3 wx))
            case first =>
              -- @slowt
              as_aux_lemma =>
              obtain ⟨qia, qic, qra, qrc, qoa, qoc, e1, e2, e3, d0, d1, d2, d3, d4, dfz⟩ := hQ.out.cells
              have e2 := Lib.hid e2
              have e3 := Lib.hid e3
              have hq2l := hQ.out.lt
              have hge2 := hn14.out q2.b (.inl rfl)
              rw [hlr.out] at d3
              rw [hlo.out] at d4
              have f1 := dfz 1
              have hnm2 : Hid (¬ (⟨#[111, 116, 104, 101, 114]⟩ : ByteArray) = N.name) := Lib.hid (by rw [hTop]; decide)
              have hD : Hid (∀ wy, wy = w14.setCell ⟨q2.b, 1, none⟩ (.string ⟨#[111, 116, 104, 101, 114]⟩) → ∃ N' : Nt, Hid (Good N' []) ∧ Hid (Upto N' 60) ∧ Hid (¬ textN N' = textN N) ∧ Hid (NetIs wy q2 N') ∧ Hid (Below w3.heap.size w3 wy)) := Lib.hid (fun wy e => by
                subst e
                exact ⟨setNm N ⟨#[111, 116, 104, 101, 114]⟩, Lib.hid (hG.setNm (by decide)), Lib.hid (upto_nm hU), Lib.hid (text_nm hG (by decide) hnm2.out), Lib.hid (nm_store hQ.out _), Lib.hid (hB3c.out.setCell (p := ⟨q2.b, 1, none⟩) hge2 _)⟩)
              clear dfz e1 hnm2
              have hm0 := hm.1
              have hm1 := hm.2
              obtain ⟨rm, hrm⟩ : ∃ rm : Int, m % 4 = rm := ⟨_, rfl⟩
              have hrmb : 0 ≤ rm ∧ rm < 4 := by omega
              have hcs : (rm = 0 ∧ 0 < lr) ∨ (rm = 1 ∧ 0 < lr) ∨ (rm = 2 ∧ 0 < lo) ∨ (rm = 0 ∧ lr = 0) ∨ (rm = 1 ∧ lr = 0) ∨ (rm = 2 ∧ lo = 0) ∨ rm = 3 := by omega
              rcases hcs with ⟨rfl, hp⟩ | ⟨rfl, hp⟩ | ⟨rfl, hp⟩ | ⟨rfl, rfl⟩ | ⟨rfl, rfl⟩ | ⟨rfl, rfl⟩ | rfl
              · -- @regInit
                as_aux_lemma =>
                have hreg : RegRow w14 (.slice qra N.regs.length qrc) N.regs := by have := hQ.out.regs; rw [e2.out] at this; exact this
                obtain ⟨ix, hix, hixl⟩ : ∃ ix : Nat, (m / 4) % (lr : Int) = ix ∧ ix < lr := ⟨((m / 4) % (lr : Int)).toNat, by rw [Int.toNat_of_nonneg (Int.emod_nonneg _ (by omega))], by have := Int.emod_lt_of_pos (m / 4) (show (0 : Int) < lr by omega); have := Int.emod_nonneg (m / 4) (show (lr : Int) ≠ 0 by omega); omega⟩
                have hixN : ix < N.regs.length := by rw [hlr.out]; exact hixl
                obtain ⟨rg, hra, hrgl, r0, r1, r2, r3⟩ := RegRow.at hreg hixN
                subst hra
                obtain ⟨qm, hqm⟩ : ∃ qm : Int, m / 4 = qm := ⟨_, rfl⟩
                have hqb : 0 ≤ qm ∧ qm ≤ 63 := by omega
                rw [hqm] at hix
                have hqt : m.tdiv 4 = qm := by rw [Int.tdiv_eq_ediv_of_nonneg hm0, hqm]
                have hqx : qm.tmod (lr : Int) = ix := by rw [Int.tmod_eq_emod_of_nonneg hqb.1]; exact hix
                have gi0 : (0 : Int) ≤ ix := by omega
                have gil : (ix : Int) < lr := by omega
                have hTd := (hG.regT _ (List.getElem_mem hixN)).1
                have hTe := (hG.regT _ (List.getElem_mem hixN)).2
                have hri : N.regs[ix]? = some N.regs[ix] := List.getElem?_eq_getElem hixN
                generalize hrr : N.regs[ix] = r at *
                have hS : Hid (∀ wz, Below w14.heap.size w14 wz → wz.cell? ⟨q2.b, 3, none⟩ = some (.slice (some ⟨rg, 0, none⟩) lr qrc) ∧ wz.cell? ⟨rg, ix * 4 + 3, none⟩ = some (.bool r.init) ∧ wz.frozen? ⟨rg, ix * 4 + 3, none⟩ = false ∧ ∀ wy, wy = wz.setCell ⟨rg, ix * 4 + 3, none⟩ (.bool (!r.init)) → ∃ N' : Nt, Hid (Good N' []) ∧ Hid (Upto N' 60) ∧ Hid (¬ textN N' = textN N) ∧ Hid (NetIs wy q2 N') ∧ Hid (Below w3.heap.size w3 wy)) := Lib.hid (fun wz hwz => ⟨stepc hwz hq2l d3, stepc hwz hrgl r3, by
                  have := (show wz.ownsRow 0 68 4 (.slice (some ⟨rg, 0, none⟩) N.regs.length qrc) N.regs.length (rgCells N.regs) from own_below hreg hwz)
                  exact this.frozenAt _, fun wy e => by
                  subst e
                  have hrge : w3.heap.size ≤ rg := hn14.out rg (.inr (.inr (.inr (.inl (by rw [e2.out]; rfl)))))
                  exact ⟨setRegN N ix { r with init := !r.init }, Lib.hid (hG.setRegN hixN (by rw [hrr]) hTd hTe), Lib.hid (upto_reg hU), Lib.hid (text_reg hG hixN (by rw [hrr]) hTd hTe (by have := hTd.1; exact this.1) (by rw [hrr]; exact hTd.1.1) (by rw [hrr]; intro h; have := h.2; cases hb : r.init <;> simp [hb] at this)), Lib.hid (reg_store (hQ.out.below hwz) e2.out (rgCells_i _ _ _ _ hri)), Lib.hid ((nextw hB3c.out hwz).setCell (p := ⟨rg, ix * 4 + 3, none⟩) hrge _)⟩⟩)
                clear hreg r0 r1 r2 r3 hri hrr hixN hlo hD hrmb hQ hn14 hB3c hB2c hTe d0 d1 d2 d4
                generalize r.init = ib at *
                go_upto_region 69 with fail
                go_quiet (fail)
                generalize hzz : w14.drewN _ = wz
                obtain ⟨k3, kc, kf, hend⟩ := hS.out wz (by rw [← hzz]; exact below_draws w14 _)
                have hend := Lib.hid hend
                clear hS hzz d3 f1
                go_wp2_with fail
                go_meet
                exact hend.out _ rfl
              · -- @regD
                as_aux_lemma =>
                have hreg : RegRow w14 (.slice qra N.regs.length qrc) N.regs := by have := hQ.out.regs; rw [e2.out] at this; exact this
                obtain ⟨ix, hix, hixl⟩ : ∃ ix : Nat, (m / 4) % (lr : Int) = ix ∧ ix < lr := ⟨((m / 4) % (lr : Int)).toNat, by rw [Int.toNat_of_nonneg (Int.emod_nonneg _ (by omega))], by have := Int.emod_lt_of_pos (m / 4) (show (0 : Int) < lr by omega); have := Int.emod_nonneg (m / 4) (show (lr : Int) ≠ 0 by omega); omega⟩
                have hixN : ix < N.regs.length := by rw [hlr.out]; exact hixl
                obtain ⟨rg, hra, hrgl, r0, r1, r2, r3⟩ := RegRow.at hreg hixN
                subst hra
                obtain ⟨qm, hqm⟩ : ∃ qm : Int, m / 4 = qm := ⟨_, rfl⟩
                have hqb : 0 ≤ qm ∧ qm ≤ 63 := by omega
                rw [hqm] at hix
                have hqt : m.tdiv 4 = qm := by rw [Int.tdiv_eq_ediv_of_nonneg hm0, hqm]
                have hqx : qm.tmod (lr : Int) = ix := by rw [Int.tmod_eq_emod_of_nonneg hqb.1]; exact hix
                have gi0 : (0 : Int) ≤ ix := by omega
                have gil : (ix : Int) < lr := by omega
                have hTd := (hG.regT _ (List.getElem_mem hixN)).1
                have hTe := (hG.regT _ (List.getElem_mem hixN)).2
                have hri : N.regs[ix]? = some N.regs[ix] := List.getElem?_eq_getElem hixN
                generalize hrr : N.regs[ix] = r at *
                have hS : Hid (∀ wz, Below w14.heap.size w14 wz → wz.cell? ⟨q2.b, 3, none⟩ = some (.slice (some ⟨rg, 0, none⟩) lr qrc) ∧ wz.cell? ⟨rg, ix * 4 + 1, none⟩ = some (.int .u32 r.d) ∧ wz.frozen? ⟨rg, ix * 4 + 1, none⟩ = false ∧ ∀ wy, wy = wz.setCell ⟨rg, ix * 4 + 1, none⟩ (.int .u32 (notV r.d)) → ∃ N' : Nt, Hid (Good N' []) ∧ Hid (Upto N' 60) ∧ Hid (¬ textN N' = textN N) ∧ Hid (NetIs wy q2 N') ∧ Hid (Below w3.heap.size w3 wy)) := Lib.hid (fun wz hwz => ⟨stepc hwz hq2l d3, stepc hwz hrgl r1, by
                  have := (show wz.ownsRow 0 68 4 (.slice (some ⟨rg, 0, none⟩) N.regs.length qrc) N.regs.length (rgCells N.regs) from own_below hreg hwz)
                  exact this.frozenAt _, fun wy e => by
                  subst e
                  have hrge : w3.heap.size ≤ rg := hn14.out rg (.inr (.inr (.inr (.inl (by rw [e2.out]; rfl)))))
                  exact ⟨setRegN N ix { r with d := notV r.d }, Lib.hid (hG.setRegN hixN (by rw [hrr]) (there_not hTd) hTe), Lib.hid (upto_reg hU), Lib.hid (text_reg hG hixN (by rw [hrr]) (there_not hTd) hTe (there_not hTd).1.1 (by rw [hrr]; exact hTd.1.1) (by rw [hrr]; intro h; exact notV_neO r.d h.1)), Lib.hid (reg_store (hQ.out.below hwz) e2.out (rgCells_d _ _ _ _ hri)), Lib.hid ((nextw hB3c.out hwz).setCell (p := ⟨rg, ix * 4 + 1, none⟩) hrge _)⟩⟩)
                clear hreg r0 r1 r2 r3 hri hrr hixN hlo hD hrmb hQ hn14 hB3c hB2c hTe d0 d1 d2 d4
                have hno := Lib.hid (fun W => not_any r.d hTd.1 W)
                clear hTd
                generalize notV r.d = nd at *
                generalize r.d = rd at *
                go_upto_region 72 with fail
                go_quiet (fail)
                generalize hzz : w14.drewN _ = wz
                obtain ⟨k3, kc, kf, hend⟩ := hS.out wz (by rw [← hzz]; exact below_draws w14 _)
                have hend := Lib.hid hend
                clear hS hzz d3 f1
                go_wp2_with (go_at_call 24; (with_reducible refine (hno.out _).mono ?_); rintro e w15 ⟨rfl, rfl⟩)
                go_meet
                exact hend.out _ rfl
              · -- @regOut
                as_aux_lemma =>
                obtain ⟨ix, hix, hixl⟩ : ∃ ix : Nat, (m / 4) % (lo : Int) = ix ∧ ix < lo := ⟨((m / 4) % (lo : Int)).toNat, by rw [Int.toNat_of_nonneg (Int.emod_nonneg _ (by omega))], by have := Int.emod_lt_of_pos (m / 4) (show (0 : Int) < lo by omega); have := Int.emod_nonneg (m / 4) (show (lo : Int) ≠ 0 by omega); omega⟩
                have hixN : ix < N.outs.length := by rw [hlo.out]; exact hixl
                obtain ⟨og, bk, hoa, hogl, hKk, o1, hrow⟩ := (show BusF wq w14 (.slice qoa N.outs.length qoc) N.outs KO by have := hKO.out; rw [e3.out] at this; exact this).cellsAt hixN
                subst hoa
                have hwide := hG.outs.wide _ (List.getElem_mem hixN)
                obtain ⟨l1, hl1⟩ : ∃ l1, N.outs[ix].lits.length = l1 + 1 := ⟨N.outs[ix].lits.length - 1, by omega⟩
                rw [hl1] at o1 hrow hwide
                obtain ⟨lb, x, hla, hlbl, hx, o2, hfz⟩ := hrow.last
                rw [hla] at o1
                obtain ⟨qm, hqm⟩ : ∃ qm : Int, m / 4 = qm := ⟨_, rfl⟩
                have hqb : 0 ≤ qm ∧ qm ≤ 63 := by omega
                rw [hqm] at hix
                have hqt : m.tdiv 4 = qm := by rw [Int.tdiv_eq_ediv_of_nonneg hm0, hqm]
                have hqx : qm.tmod (lo : Int) = ix := by rw [Int.tmod_eq_emod_of_nonneg hqb.1]; exact hix
                have gi0 : (0 : Int) ≤ ix := by omega
                have gil : (ix : Int) < lo := by omega
                have hTh := hG.outT _ (List.getElem_mem hixN)
                have hTx := hTh x (List.mem_of_getElem? hx)
                have hno := Lib.hid (fun W => not_any x hTx.1 W)
                have hS : Hid (∀ wz, Below w14.heap.size w14 wz → wz.cell? ⟨lb, l1, none⟩ = some (.int .u32 x) ∧ wz.frozen? ⟨lb, l1, none⟩ = false ∧ ∀ wy, wy = wz.setCell ⟨lb, l1, none⟩ (.int .u32 (notV x)) → ∃ N' : Nt, Hid (Good N' []) ∧ Hid (Upto N' 60) ∧ Hid (¬ textN N' = textN N) ∧ Hid (NetIs wy q2 N') ∧ Hid (Below w3.heap.size w3 wy)) := Lib.hid (fun wz hwz => ⟨stepc hwz hlbl o2, ((bcell hwz).2 _ l1 hlbl).trans (hfz l1), fun wy e => by
                  subst e
                  have hlbn : wq.heap.size ≤ lb := hKO.out.new bk (List.mem_of_getElem? hKk) _ hla
                  have hlbge : w3.heap.size ≤ lb := Nat.le_trans hw3q2 hlbn
                  refine ⟨setOutN N ix ⟨N.outs[ix].name, N.outs[ix].lits.set l1 (notV x)⟩, Lib.hid (hG.setOutN hixN (by rw [List.length_set]) (set_there hTh (there_not hTx))), Lib.hid (upto_out hU), Lib.hid (text_out hG hixN (by rw [List.length_set]) (set_there hTh (there_not hTx)) (fun y hy => (set_there hTh (there_not hTx) y hy).1.1) (fun y hy => (hTh y hy).1.1) (set_ne hx (notV_neO x))), Lib.hid ?_, Lib.hid ((nextw hB3c.out hwz).setCell (p := ⟨lb, l1, none⟩) hlbge _)⟩
                  exact out_store (hQ.out.below hwz) (hKI.out.below hwz) (hKO.out.below hwz) hKK.out hKk (List.getElem?_eq_getElem hixN) hla l1 (notV x)⟩)
                have hl1b : l1 + 1 ≤ 64 := hwide.2
                clear hrow hwide hl1 hla hx hTh hTx hKk hixN hD hrmb hQ hn14 hB3c hB2c hKI hKO hKK hlr hlo d0 d1 d2 d3 hfz
                generalize notV x = nx at *
                go_upto_region 75 with fail
                go_quiet (fail)
                generalize hzz : w14.drewN _ = wz
                obtain ⟨kc, kf, hend⟩ := hS.out wz (by rw [← hzz]; exact below_draws w14 _)
                have hend := Lib.hid hend
                clear hS hzz d4 c4 o1 o2 f1
                go_wp2_with (go_at_call 24; (with_reducible refine (hno.out _).mono ?_); rintro e w15 ⟨rfl, rfl⟩)
                go_meet
                exact hend.out _ rfl
              all_goals
                clear hlr hlo hrmb
                go_wp2_with fail
                go_meet
                exact hD.out _ rfl
              -- @endt
            case rest =>
              as_aux_lemma =>
              obtain ⟨N', hG', hU', hne, hQ', hB'⟩ := hcut
              obtain ⟨wx, rfl⟩ : ∃ wx : World, wx = wc := ⟨_, rfl⟩
              clear c3 c4 hQ hn14 hB3c hB2c hKI hKO hKK hBlc
              obtain ⟨T2, hT2⟩ : ∃ T2, textN N' = T2 := ⟨_, rfl⟩
              have hB2x := nextw hB3.out hB'.out
              have hal := Lib.hid (all_row2 hQ'.out hG'.out hU'.out (hPW.out wx (nextw hw2.out hB2x)) hT2)
              have ht1 : textN N = J ++ [10] := by rw [text_end, hJ2.out]
              have hne2 : ¬ (⟨T2.toArray⟩ : ByteArray) = ⟨(J ++ [10]).toArray⟩ := by
                intro e
                refine hne.out ?_
                rw [hT2, ht1]
                have := congrArg (fun x : ByteArray => x.data.toList) e
                simpa using this
              have hs2 := str_neO hne2
              have hq2 : ((⟨T2.toArray⟩ : ByteArray).toList != (⟨(J ++ [10]).toArray⟩ : ByteArray).toList) = true := by simp only [bne, hs2]; rfl
              have hcvT := Lib.hid (fun W (hW : Below w3.heap.size w3 W) => conv_full (own_below ho3.out hW))
              have hB2x := Lib.hid hB2x
              clear hne hT2 ht1 hne2
              have hJ1 : (J ++ [10]).length = J.length + 1 := by simp
              rw [hJ1] at hcvT
              go_upto_region 78 with (go_at_call 10; (with_reducible refine hal.out.mono ?_); rintro e w15 ⟨g15, n15, rfl, ho15, hb15⟩)
              have cv1 := conv_full ho15
              have cv2 := hcvT.out w15 (nextw hB'.out hb15)
              have hte15 := Lib.hid (hte.out w15 (nextw hB2x.out hb15))
              have hB15 := Lib.hid (nextw hB2x.out hb15)
              clear hal ho15 hb15 hcvT
              generalize (⟨T2.toArray⟩ : ByteArray) = sa at *
              generalize (⟨(J ++ [10]).toArray⟩ : ByteArray) = sb at *
              go_wp2_with (go_at_call 16; (with_reducible refine hte15.out.mono ?_); rintro e w16 ⟨rfl, hb16⟩)
              go_ret
              exact ⟨rfl, nextw hw2.out (nextw hB15.out hb16)⟩
  · have hsz := strQ_bad (T := textN N) hz
    rw [hsz] at hc1
    generalize ckV rest = cd at *
    generalize strQ cd (textN N) = S at *
    go_wp2_with (first
      | (go_at_call 10; (with_reducible refine hc1.out.mono ?_); rintro e w3 ⟨a3, n3, rfl, hv3, hb3⟩; have hB3 := Lib.hid hb3; have hc2 := Lib.hid (hCk.out w3 hB3.out); clear hc1 hb3)
      | (go_at_call 17; (with_reducible refine hc2.out.mono ?_); rintro e w4 ⟨rfl, hb4⟩; have hB4 := Lib.hid (nextw hB3.out hb4); have hc3 := Lib.hid (hte.out w4 hB4.out); clear hc2 hb4)
      | (go_at_call 16; (with_reducible refine hc3.out.mono ?_); rintro e w5 ⟨rfl, hb5⟩; have hB5 := Lib.hid (nextw hB4.out hb5); clear hc3 hb5))
    go_ret
    exact ⟨rfl, nextw hw2.out hB5.out⟩
end Go.Proofs.YtafoohdndlhbnaaGreatDoor
end
