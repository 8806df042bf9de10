/-
  LevelDepth: the walk.
-/
import Derived.Test.YtocfchgkfaogdaaLdA
namespace Go.Proofs.Ytocfchgkfaogdaa
open Go.RowKit Go.Maps
set_option maxRecDepth 100000

set_option maxHeartbeats 16000000 in
theorem LevelDepth_any {w : World} {a : Option Addr} {n c : Nat} {B : List (List Int)} (h : RRk .u8 w a n B) (hc : n ≤ c) (hcm : c ≤ 9223372036854775807) (hB : ∀ i, i < n → ∀ z ∈ B.getD i [], (Lit.int .u8 z).wf = true) :
    Calls Try.prog 5 #[.slice a n c] w fun e w' => e = .returned (.bool true) ∧ Below w.heap.size w w' := by
  obtain ⟨i0, hi, hz0, hz1, hz2⟩ := info_parts info_int
  have hbr := Lib.hid (brought_any h hc hcm hB)
  have hwk := Lib.hid (fun w => wakes_any w)
  clear h hB
  go_enter Try.func5, Try.ntmps5
  go_wp2_with (go_at_call 26; (with_reducible refine hbr.out.mono ?_); rintro e w1 ⟨ov, m, V0, U0, rfl, hm40, hR1, hU1⟩; obtain ⟨na, nc, rfl, hnc, hncm⟩ := hR1.len; have hR0 := Lib.hid hR1; have hU0 := Lib.hid hU1; clear hR1 hU1)
  clear hbr
  go_loopw [5, 24] (fun s t wr => ∃ (i : Nat) (V : Nat → Value) (U : Nat → List Int) (v : Value), s = v ∧ t = .int .i64 i ∧ i ≤ m ∧ Hid (RC w wr (.slice na m nc) m V U) ∧ Hid (∀ k, k < m → (U k).length ≤ 10 ∧ (∀ z ∈ U k, 0 ≤ z) ∧ (k < i → ∀ z ∈ U k, z < (k : Int)))) (fun _ t _ => m - (RowKit.intOf t).toNat)
  case atStart => exact ⟨0, V0, U0, _, rfl, rfl, by omega, hR0, Lib.hid (fun k hk => ⟨(hU0.out k hk).1, fun z hz => ((hU0.out k hk).2 z hz).1, fun h => by omega⟩)⟩
  case round =>
    clear hR0 hU0
    obtain ⟨i, V, U, v, hv, rfl, him, hR, hU⟩ := hrel
    subst hv
    by_cases hilt : i < m
    · obtain ⟨g, oc2, eo⟩ := own_form hR.out.ub (by omega)
      simp only [Value.slice.injEq, true_and] at eo
      obtain ⟨rfl, rfl⟩ := eo
      obtain ⟨ai, ci, ev⟩ := own_slice (hR.out.ur i hilt)
      have hrow0 := hR.out.ur i hilt
      have c1 := hR.out.ub.cellAt i (by omega)
      have c1f := hR.out.ub.frozenAt i
      obtain ⟨hU1, hU2, -⟩ := hU.out i hilt
      have hii : (i : Int) < m := by omega
      have e1 : ((List.range m).map V)[i]? = some (V i) := by simp [hilt]
      rw [ev] at hrow0 e1
      rw [e1] at c1
      have hq1 := own_cap hrow0
      have hrow := Lib.hid (Row.of_own hrow0 rfl (by omega))
      have hU2 := Lib.hid hU2
      generalize hUi : U i = Ui at *
      generalize hq : Ui.length = q at *
      have hgb : g < wr.heap.size := own_lt hR.out.ub
      obtain ⟨wa, rfl⟩ : ∃ wa : World, wa = wr := ⟨_, rfl⟩
      clear hrow0 e1 ev hUi
      go_wp2
      go_loopw [5, 32] (fun s t wq => ∃ (p y : Nat) (la : Option Addr) (lc : Nat) (L : List Int), s = .slice la y lc ∧ t = .int .i64 p ∧ p ≤ q ∧ y ≤ p ∧ L.length = y ∧ Hid (Below wa.heap.size wa wq) ∧ Hid (wq.ownsRow wa.heap.size 3 1 (.slice la y lc) y (ints L)) ∧ Hid (∀ z ∈ L, 0 ≤ z ∧ z < (i : Int))) (fun _ t _ => q - (RowKit.intOf t).toNat)
      case atStart => exact ⟨0, 0, none, 0, [], rfl, rfl, by omega, by omega, rfl, Lib.hid (Below.refl _ _), Lib.hid (own_nil _ _ _), Lib.hid (fun z hz => by simp at hz)⟩
      case round =>
        obtain ⟨p, y, la, lc, L, rfl, rfl, hp, hyp, hLp, hB1, hown, hL⟩ := hrel
        have hlz := hB1.out.size
        by_cases hpq : p < q
        · obtain ⟨rb, roff, rfl, hrb, hrc⟩ := hrow.out.at (by omega)
          have cr := stepc hB1.out hrb (hrc p hpq)
          have hpl : p < Ui.length := by omega
          rw [getD_at hpl] at cr
          have hzz := hU2.out _ (List.getElem_mem hpl)
          generalize Ui[p] = z at *
          obtain ⟨x, rfl⟩ : ∃ x : Nat, z = (x : Int) := ⟨z.toNat, by omega⟩
          have hpi : (p : Int) < q := by omega
          by_cases hi0 : i = 0
          · subst hi0
            clear hrc
            go_wp2
            exact ⟨⟨p + 1, y, la, lc, L, rfl, by go_num, by omega, by omega, hLp, hB1, hown, hL⟩, by simp [RowKit.intOf]; omega⟩
          · have hmd : ((x : Int)).tmod (i : Int) = ((x % i : Nat) : Int) := by
              rw [Int.tmod_eq_emod_of_nonneg (by omega)]; rfl
            have hxl : x % i < i := Nat.mod_lt _ (by omega)
            have hL2 : Hid (∀ z ∈ L ++ [((x % i : Nat) : Int)], 0 ≤ z ∧ z < (i : Int)) := Lib.hid (fun z hz => by
              rcases List.mem_append.1 hz with hz | hz
              · exact hL.out z hz
              · simp at hz; omega)
            generalize hxx : x % i = r at *
            have hipos : 0 < i := by omega
            clear hrc hL
            go_wp2_with (at_builtin; refine wpList_append_lies _ rfl _ _ 23 rfl wa.heap.size 3 i0 (.int .i64 0) 1 8 Try.underlying23 hi hz0 hz1 hz2 rfl (by decide) (.slice la y lc) y _ rfl (hown.out.alloc _) ⟨_, 0, none⟩ 1 1 [.int .i64 (r : Int)] rfl rfl (news1 _ _ _) (by simp [Value.oneCell']) (by decide) (by unfold maxLen; omega) (by omega) (by simp; omega) _ rfl ?_; intro g1 cap1 w8 hown8 hgrow8 hat8 hlt8)
            exact ⟨⟨p + 1, y + 1, some ⟨g1, 0, none⟩, cap1, L ++ [(r : Int)], rfl, by go_num, by omega, by omega, by simp [hLp], Lib.hid ((hB1.out.alloc hlz _).grown hgrow8 (by simp; omega) (fun k hk => own_ge hown.out k hk)), Lib.hid (by rw [show ints (L ++ [(r : Int)]) = ints L ++ [.int .i64 (r : Int)] by simp [ints]]; exact hown8), hL2⟩, by simp [RowKit.intOf]; omega⟩
        · obtain rfl : p = q := by omega
          have hRq := Lib.hid (hR.out.below hB1.out)
          have hset := Lib.hid (hRq.out.set (i := i) (v := .slice la y lc) (l := L) (by rw [hLp]; exact own_base hown.out hR.out.low.size) (fun k hk b e1 e2 => by
            have h1 := own_ge hown.out b e1
            have h2 := own_blt (hR.out.ur k hk) e2
            omega))
          have hU3 : Hid (∀ k, k < m → (upd U i L k).length ≤ 10 ∧ (∀ z ∈ upd U i L k, 0 ≤ z) ∧ (k < i + 1 → ∀ z ∈ upd U i L k, z < (k : Int))) := Lib.hid (fun k hk => by
            by_cases e : k = i
            · subst e; rw [upd_same]; exact ⟨by omega, fun z hz => (hL.out z hz).1, fun _ z hz => (hL.out z hz).2⟩
            · rw [upd_other _ _ e]
              obtain ⟨h1, h2, h3⟩ := hU.out k hk
              exact ⟨h1, h2, fun h => h3 (by omega)⟩)
          have hfr := stepf hB1.out hgb c1f
          have c1q := stepc hB1.out hgb c1
          clear hL hown hR hU hrow hU2 hRq
          go_wp2
          exact ⟨⟨i + 1, _, _, _, rfl, by go_num, by omega, hset, hU3⟩, by simp [RowKit.intOf]; omega⟩
    · obtain rfl : i = m := by omega
      have hBw := Lib.hid hR.out.low
      obtain ⟨na2, nc2, N, e, -, -, hN, hNl, hmay, hrow, hless⟩ := hR.out.less hm40 (fun k hk => ⟨(hU.out k hk).1, fun z hz => ⟨(hU.out k hk).2.1 z hz, (hU.out k hk).2.2 hk z hz⟩⟩)
      simp only [Value.slice.injEq, true_and] at e
      obtain ⟨rfl, rfl⟩ := e
      have hq := told_full hless
      have hE : ordE N = 0 := by simp [ordE, hmay, hq]
      have hL : depL N = depth N := by simp [depL, hE]
      obtain ⟨hdl, hdx0⟩ := depth_is hmay hq
      have hdb := Lib.hid (depth_bound hmay hless)
      have hdp0 := Depth_any hN (by omega) (fun i => by have := hrow i; omega) nc
      rw [hE, hL, hdl] at hdp0
      rw [hNl] at hdp0 hdx0 hdl
      have hdp := Lib.hid hdp0
      have hdx := Lib.hid hdx0
      have HN := Lib.hid hN
      have HR := Lib.hid hrow
      have HM := Lib.hid hmay
      have HL := Lib.hid hNl
      generalize depth N = d at *
      clear hR hU hdp0 hdx0 hN hrow hmay hless hq hE hL hNl
      obtain ⟨wb, rfl⟩ : ∃ wb : World, wb = wr := ⟨_, rfl⟩
      go_wp2_with (first
        | (go_at_call 12; (with_reducible refine hdp.out.mono ?_); rintro e w3 ⟨va, ca, rfl, hdr, hb⟩; obtain ⟨hca1, hca2⟩ := own_cap hdr; have hB3 := Lib.hid hb; have hD3 := Lib.hid (Row.of_own hdr hdl (by omega)); clear hdr hb)
        | (go_at_call 25; (with_reducible refine (hwk.out _).mono ?_); rintro e w4 ⟨rfl, hb⟩; obtain ⟨hb34, hbx, hcx0⟩ := box1 hb; have hcx := Lib.hid hcx0; have hB4 := Lib.hid (nextw hB3.out hb34); have hD4 := Lib.hid (hD3.out.step hb34); clear hb hb34))
      have HN4 := Lib.hid (HN.out.step hB4.out)
      have hcap := hca1
      clear hwk hdp HN hB3 hD3
      generalize w3.heap.size = bx at *
      have hll : Hid (∀ j, j < i → 0 ≤ d.getD j 0 ∧ d.getD j 0 < ((layL d).length : Int)) := Lib.hid (fun j hj => ⟨(hdb.out j).1, layL_gt (by omega) (hdb.out j).1⟩)
      have hly := Lib.hid (Layers_any hD4.out (by omega) (fun x hx => by
        obtain ⟨j, hj, rfl⟩ := List.getElem_of_mem hx
        have := (hdb.out j).2
        rw [getD_at hj] at this; omega) ca)
      go_loopw [70] (fun s wr => wr = w4 ∧ ∃ x : Nat, s = .int .i64 x ∧ x ≤ i) (fun s _ => i - (RowKit.intOf s).toNat)
      case atStart => exact ⟨rfl, 0, rfl, by omega⟩
      case round =>
        obtain ⟨rfl, x, rfl, hxi⟩ := hrel
        by_cases hx : x < i
        · obtain ⟨b, off, rfl, hb, hcell⟩ := HN4.out.at (by omega)
          obtain ⟨ai, ci, c3, q1, q2, hrow⟩ := hcell x hx
          have hmj : (N.getD x []).length ≤ 10 := HR.out x
          have hxn : (x : Int) < i := by omega
          have hndl := nd_len N x
          have hrow2 := Lib.hid hrow
          clear hrow
          have hdxx := Lib.hid (hdx.out x hx)
          generalize hlen : (N.getD x []).length = len at *
          obtain ⟨db, do', rfl, hdbk, hdc0⟩ := hD4.out.at (by omega)
          have hdc := Lib.hid hdc0
          clear hcell hdc0
          go_wp2
          go_loopw [12, 77] (fun s t wq => wq = wr ∧ ∃ (y : Int) (p : Nat), s = .int .i64 y ∧ t = .int .i64 p ∧ p ≤ len ∧ 0 ≤ y ∧ y ≤ 1000 ∧ Hid (y = mxd d ((nd N x).take p) 0)) (fun _ t _ => len - (RowKit.intOf t).toNat)
          case atStart => exact ⟨rfl, 0, 0, rfl, rfl, by omega, by omega, by omega, Lib.hid rfl⟩
          case round =>
            obtain ⟨rfl, y, p, rfl, rfl, hp, hy0, hy1, hy⟩ := hrel
            by_cases hpl : p < len
            · obtain ⟨rb, roff, rfl, hrb, hrc⟩ := hrow2.out.at (by omega)
              have cr := hrc p hpl
              obtain ⟨ey, hyn⟩ := may_get HM.out (i := x) (p := p) (by omega)
              have hmx := mxd_take (d := d) (l := nd N x) (p := p) (by omega) 0
              rw [← hy.out] at hmx
              rw [ey] at cr
              rw [HL.out] at hyn
              generalize (nd N x).getD p 0 = k at *
              have ck := hdc.out k hyn
              have hk0 := (hdb.out k).1
              have hk1 := (hdb.out k).2
              generalize d.getD k 0 = z at *
              have hpi : (p : Int) < len := by omega
              have hki : (k : Int) < i := by omega
              clear hrc ey hy
              by_cases hyz : y < z + 1
              · have e2 : max y (z + 1) = z + 1 := by omega
                rw [e2] at hmx
                have hmx := Lib.hid hmx.symm
                clear e2
                go_wp2
                exact ⟨⟨trivial, z + 1, p + 1, by go_num, by go_num, by omega, by omega, by omega, hmx⟩, by simp [RowKit.intOf]; omega⟩
              · have e2 : max y (z + 1) = y := by omega
                rw [e2] at hmx
                have hmx := Lib.hid hmx.symm
                clear e2
                go_wp2
                exact ⟨⟨trivial, y, p + 1, by first | rfl | go_num, by go_num, by omega, by omega, by omega, hmx⟩, by simp [RowKit.intOf]; omega⟩
            · obtain rfl : p = len := by omega
              have hye : y = d.getD x 0 := by rw [hy.out, hdxx.out, ← hndl, List.take_length]
              have cx := hdc.out x hx
              rw [← hye] at cx
              have hyy : (y != y) = false := by simp
              clear hy hye
              go_wp2
              exact ⟨⟨trivial, x + 1, by go_num, by omega⟩, by simp [RowKit.intOf]; omega⟩
        · obtain rfl : x = i := by omega
          go_wp2_with (go_at_call 21; (with_reducible refine hly.out.mono ?_); rintro e w5 ⟨la, lc, rfl, hls, hlc1, hlc2, hb⟩; have hB5 := Lib.hid hb; have hLS := Lib.hid hls; clear hls hb)
          have hcx5 := Lib.hid (stepc hB5.out hbx hcx)
          have hbx5 : bx < w5.heap.size := Nat.lt_of_lt_of_le hbx hB5.out.size
          have hD5 := Lib.hid (hD4.out.step hB5.out)
          have HN5 := Lib.hid (HN4.out.step hB5.out)
          have hB45 := Lib.hid (nextw hB4.out hB5.out)
          have hG1 : Hid (∀ v, v < (layL d).length → (layL d).getD v [] = iz (lay d x v)) := Lib.hid (fun v hv => by rw [layL_get hv, hdl])
          have hall := Lib.hid (smL_all x hll.out)
          clear hly hcx hD4 HN4 hB5 hB4 hll
          generalize hGG : (layL d).length = G at *
          generalize layL d = LL at *
          have hbz : bx < w5.heap.size := hbx5
          go_loopw [15, 99] (fun s t wq => ∃ v : Nat, s = .int .i64 (smL d x v : Nat) ∧ t = .int .i64 v ∧ v ≤ G ∧ Hid (Below w5.heap.size w5 wq)) (fun _ t _ => G - (RowKit.intOf t).toNat)
          case atStart => exact ⟨0, rfl, rfl, by omega, Lib.hid (Below.refl _ _)⟩
          case round =>
            obtain ⟨v, rfl, rfl, hvG, hB6⟩ := hrel
            have hsm : smL d x v ≤ 40000000 := Nat.le_trans (smL_le d x v) (Nat.le_trans (Nat.mul_le_mul (show v ≤ 1000000 by omega) hm40) (by decide))
            by_cases hv : v < G
            · obtain ⟨lb, lo, rfl, hlb, hlcell⟩ := hLS.out.at (by omega)
              obtain ⟨ai, ci, c3, q1, q2, hrow⟩ := hlcell v hv
              rw [hG1.out v hv, iz_len] at c3 q1 hrow
              have c3r := stepc hB6.out hlb c3
              have hrow2 := Lib.hid hrow
              have hsm2 : smL d x (v + 1) = smL d x v + (lay d x v).length := rfl
              have hRm : Hid (∀ p, p < (lay d x v).length → (lay d x v).getD p 0 < x ∧ d.getD ((lay d x v).getD p 0) 0 = (v : Int)) := Lib.hid (fun p hp => by rw [getN_at hp]; exact mem_lay.1 (List.getElem_mem hp))
              have hRs : Hid (∀ p, p + 1 < (lay d x v).length → (lay d x v).getD p 0 < (lay d x v).getD (p + 1) 0) := Lib.hid (fun p hp => lay_lt hp)
              have hrl := lay_len d x v
              generalize lay d x v = R at *
              generalize hlen : R.length = len at *
              generalize hsv : smL d x v = sv at *
              have hvi : (v : Int) < G := by omega
              obtain ⟨wa, rfl⟩ : ∃ wa : World, wa = wr := ⟨_, rfl⟩
              have hbw : bx < wa.heap.size := Nat.lt_of_lt_of_le hbx5 hB6.out.size
              clear hlcell c3 hrow
              go_wp2
              go_loopw [106] (fun s wq => ∃ p : Nat, s = .int .i64 p ∧ p ≤ len ∧ Hid (Below w5.heap.size w5 wq) ∧ wa.heap.size < wq.heap.size ∧ Hid (wq.cell? ⟨wa.heap.size, 0, none⟩ = some (.int .i64 v))) (fun s _ => len - (RowKit.intOf s).toNat)
              case atStart => exact ⟨0, rfl, by omega, Lib.hid (hB6.out.alloc hB6.out.size _), by simp, Lib.hid (by simp [go_sem])⟩
              case round =>
                clear hB6 c3r
                obtain ⟨p, rfl, hp, hB7, hbd, hcd⟩ := hrel
                by_cases hpl : p < len
                · obtain ⟨rb, ro, rfl, hrb, hrc⟩ := hrow2.out.at (by omega)
                  have hge : ∀ j, j < len → (iz R).getD j 0 = ((R.getD j 0 : Nat) : Int) := fun j hj => by rw [getD_at (by rw [iz_len]; omega), getN_at (by omega)]; simp [iz]
                  have c1 := stepc hB7.out hrb (hrc p hpl)
                  rw [hge p hpl] at c1
                  obtain ⟨hyx, hyd⟩ := hRm.out p (by omega)
                  have hprev : Hid (∀ q, p = q + 1 → wr.cell? ⟨rb, ro + q, none⟩ = some (.int .i64 ((R.getD q 0 : Nat) : Int)) ∧ R.getD q 0 < R.getD p 0) := Lib.hid (fun q hq => by
                    have h1 := stepc hB7.out hrb (hrc q (by omega))
                    rw [hge q (by omega)] at h1
                    exact ⟨h1, by have := hRs.out q (by omega); rw [← hq] at this; exact this⟩)
                  generalize R.getD p 0 = y at *
                  obtain ⟨db, do', rfl, hdbk, hdc0⟩ := hD5.out.at (by omega)
                  have c2 := stepc hB7.out hdbk (hdc0 y hyx)
                  rw [hyd] at c2
                  have cb := stepc hB7.out hbx5 hcx5.out
                  have cd := hcd.out
                  obtain ⟨nb, no, rfl, hnb, hncell⟩ := HN5.out.at (by omega)
                  obtain ⟨ni, nci, c4, n1, n2, hnrow⟩ := hncell y hyx
                  have c4r := stepc hB7.out hnb c4
                  have hmj : (N.getD y []).length ≤ 10 := HR.out y
                  have hy1 := (hdb.out y).2
                  rw [hyd] at hy1
                  have hvm : (v : Int) ≤ 1000 := by omega
                  have hbl : bx < wr.heap.size := by omega
                  have hct := Lib.hid (fun (h0 : 0 < v) (W : World) (hW : Below wr.heap.size wr W) => containsAhead_any (n := (N.getD y []).length) (Nat.lt_of_lt_of_le hbl hW.size) (stepc hW hbl cb) (Nat.lt_of_lt_of_le hbd hW.size) (stepc hW hbd cd) (hD5.out.step (nextw hB7.out hW)) (by omega) hvm (hnrow.step (nextw hB7.out hW))
                    (fun q hq => ⟨_, (may_get HM.out hq).1, by have := (may_get HM.out hq).2; rw [HL.out] at this; exact this⟩) (need_ahead (hdx.out y hyx) hyd h0) nci)
                  have hBn := Lib.hid (fun k => below_draws wr k)
                  have hnx : Hid (∀ W, Below wr.heap.size wr W → Below w5.heap.size w5 W ∧ wa.heap.size < W.heap.size ∧ W.cell? ⟨wa.heap.size, 0, none⟩ = some (.int .i64 v)) := Lib.hid (fun W hW => ⟨nextw hB7.out hW, Nat.lt_of_lt_of_le hbd hW.size, stepc hW hbd cd⟩)
                  generalize (N.getD y []).length = nl at *
                  have hy0 : decide ((y : Int) < 0) = false := by simp
                  have hyn : ¬ x ≤ y := by omega
                  have hvv : ((v : Int) != (v : Int)) = false := by simp
                  have hpi : (p : Int) < len := by omega
                  have hyi : (y : Int) < x := by omega
                  clear hrc hge hyd hdc0 hncell c4 hnrow hcd hy1
                  have c4d : ∀ z, (wr.drewN z).cell? ⟨nb, no + y, none⟩ = some (.slice ni nl nci) := fun z => stepc (hBn.out z) (Nat.lt_of_lt_of_le hnb hB7.out.size) c4r
                  have cdd : ∀ z, (wr.drewN z).cell? ⟨wa.heap.size, 0, none⟩ = some (.int .i64 v) := fun z => stepc (hBn.out z) hbd cd
                  rcases Nat.eq_zero_or_pos p with hp0 | hp0
                  · have hpp0 : decide ((0 : Int) < (p : Int)) = false := by simp; omega
                    have hpp1 : ¬ 0 < p := by omega
                    clear hp0
                    rcases Nat.eq_zero_or_pos v with hv0 | hv0
                    · have hvi0 : decide ((0 : Int) < (v : Int)) = false := by simp; omega
                      clear hct
                      go_wp2
                      go_quiet (fail)
                      go_wp2
                      exact ⟨⟨p + 1, by go_num, by omega, Lib.hid (hnx.out _ (hBn.out _)).1, (hnx.out _ (hBn.out _)).2.1, Lib.hid (hnx.out _ (hBn.out _)).2.2⟩, by simp [RowKit.intOf]; omega⟩
                    · have hvi0 : decide ((0 : Int) < (v : Int)) = true := by simp; omega
                      have hctv := Lib.hid (hct.out hv0)
                      clear hct
                      go_wp2
                      go_quiet (fail)
                      go_wp2_with (go_at_call 29; (with_reducible refine (hctv.out _ (hBn.out _)).mono ?_); rintro e w7 ⟨rfl, hb7⟩; have hB8 := Lib.hid (hnx.out _ (nextw (hBn.out _) hb7)); clear hb7)
                      exact ⟨⟨p + 1, by go_num, by omega, Lib.hid hB8.out.1, hB8.out.2.1, Lib.hid hB8.out.2.2⟩, by simp [RowKit.intOf]; omega⟩
                  · have hpp0 : decide ((0 : Int) < (p : Int)) = true := by simp; omega
                    obtain ⟨q, rfl⟩ : ∃ q, p = q + 1 := ⟨p - 1, by omega⟩
                    obtain ⟨cq, hqy⟩ := hprev.out q rfl
                    generalize R.getD q 0 = yq at *
                    have hqn : ¬ y ≤ yq := by omega
                    have hql : q < len := by omega
                    have hqi : (q : Int) < len := by omega
                    have hw1 : IntKind.i64.wrap (((q + 1 : Nat) : Int) - 1) = (q : Int) := by simp [IntKind.wrap, IntKind.bits, IntKind.signed]; omega
                    clear hprev
                    rcases Nat.eq_zero_or_pos v with hv0 | hv0
                    · have hvi0 : decide ((0 : Int) < (v : Int)) = false := by simp; omega
                      clear hct
                      go_wp2
                      go_quiet (fail)
                      go_wp2
                      exact ⟨⟨q + 1 + 1, by go_num, by omega, Lib.hid (hnx.out _ (hBn.out _)).1, (hnx.out _ (hBn.out _)).2.1, Lib.hid (hnx.out _ (hBn.out _)).2.2⟩, by simp [RowKit.intOf]; omega⟩
                    · have hvi0 : decide ((0 : Int) < (v : Int)) = true := by simp; omega
                      have hctv := Lib.hid (hct.out hv0)
                      clear hct
                      go_wp2
                      go_quiet (fail)
                      go_wp2_with (go_at_call 29; (with_reducible refine (hctv.out _ (hBn.out _)).mono ?_); rintro e w7 ⟨rfl, hb7⟩; have hB8 := Lib.hid (hnx.out _ (nextw (hBn.out _) hb7)); clear hb7)
                      exact ⟨⟨q + 1 + 1, by go_num, by omega, Lib.hid hB8.out.1, hB8.out.2.1, Lib.hid hB8.out.2.2⟩, by simp [RowKit.intOf]; omega⟩
                · obtain rfl : p = len := by omega
                  go_wp2
                  exact ⟨⟨v + 1, by rw [hsm2]; go_num, by go_num, by omega, hB7⟩, by simp [RowKit.intOf]; omega⟩
            · obtain rfl : v = G := by omega
              rw [hall.out] at *
              go_wp2
              go_ret
              exact ⟨ret_bool (by simp), nextw hBw.out (nextw hB45.out hB6.out)⟩
end Go.Proofs.Ytocfchgkfaogdaa
