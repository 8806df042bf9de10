/-
  LevelOrder: the walk.
-/
import Derived.Test.YtocfchgkfaogdaaLxA
namespace Go.Proofs.Ytocfchgkfaogdaa
open Go.RowKit Go.Maps
set_option maxRecDepth 100000

/-- What is put together, as the calls name it. -/
theorem RC.use {w0 w : World} {ov : Value} {m : Nat} {V : Nat → Value} {U : Nat → List Int} (h : RC w0 w ov m V U) (hm : m ≤ 40) (hU : ∀ k, k < m → (U k).length ≤ 10 ∧ ∀ z ∈ U k, 0 ≤ z ∧ z < (m : Int)) :
    ∃ a c N, ov = .slice a m c ∧ m ≤ c ∧ c ≤ 9223372036854775807 ∧ RR w a m N ∧ N.length = m ∧ mayN N = true ∧ (∀ i, (N.getD i []).length ≤ 10) := by
  obtain ⟨a, c, e, h1, h2⟩ := h.len
  refine ⟨a, c, (List.range m).map U, e, h1, h2, h.rr (by omega) (fun k hk => by have := (hU k hk).1; omega) e, by simp, mayN_of (fun k hk => (hU k hk).2), fun i => ?_⟩
  by_cases hi : i < m
  · have : ((List.range m).map U).getD i [] = U i := by simp [List.getD, hi]
    rw [this]; exact (hU i hi).1
  · have : ((List.range m).map U).getD i [] = [] := by rw [List.getD_eq_getElem?_getD, List.getElem?_eq_none (by simp; omega)]; rfl
    rw [this]; simp

/-- A row that the law makes itself. -/
structure AT (wA wr : World) (g n : Nat) (A : List Int) : Prop where
  low : Below wA.heap.size wA wr
  row : wr.ownsRow wA.heap.size 3 1 (.slice (some ⟨g, 0, none⟩) n n) n (ints A)
  len : A.length = n
theorem AT.set {wA wr : World} {g n : Nat} {A : List Int} (h : AT wA wr g n A) (k : Nat) (x : Int) : AT wA (wr.setCell ⟨g, k, none⟩ (.int .i64 x)) g n (A.set k x) := by
  have hb : wA.heap.size ≤ g := own_ge h.row g rfl
  refine ⟨h.low.trans ((Below.refl wA.heap.size wr).setCell (p := ⟨g, k, none⟩) hb _), ?_, by simp [h.len]⟩
  rw [ints_set]; exact (h.row.stored k (.int .i64 x)).1
theorem AT.drewN {wA wr : World} {g n : Nat} {A : List Int} (h : AT wA wr g n A) (k : Nat) : AT wA (wr.drewN k) g n A := ⟨nextw h.low (below_draws wr k), own_below h.row (below_draws wr k), h.len⟩
theorem AT.cell {wA wr : World} {g n : Nat} {A : List Int} (h : AT wA wr g n A) {k : Nat} (hk : k < n) : wr.cell? ⟨g, k, none⟩ = some (.int .i64 (A.getD k 0)) ∧ wr.frozen? ⟨g, k, none⟩ = false :=
  ⟨by rw [h.row.cellAt k (by omega), ints_get A (by rw [h.len]; exact hk)], h.row.frozenAt k⟩

set_option maxHeartbeats 16000000 in
theorem LevelOrder_any {w : World} {a : Option Addr} {n c : Nat} {B : List (List Int)} (h : RRk .u8 w a n B) (hc : n ≤ c) (hcm : c ≤ 9223372036854775807) (hB : ∀ i, i < n → ∀ z ∈ B.getD i [], (Lit.int .u8 z).wf = true) :
    Calls Try.prog 4 #[.slice a n c] w fun e w' => e = .returned (.bool true) ∧ Below w.heap.size w w' := by
  obtain ⟨i0, hi, hz0, hz1, hz2⟩ := info_parts info_int
  have hbr := Lib.hid (brought_any h hc hcm hB)
  have hwk := Lib.hid (fun w => wakes_any w)
  clear h hB
  go_enter Try.func4, Try.ntmps4
  go_upto_region 2 with (go_at_call 26; (with_reducible refine hbr.out.mono ?_); rintro e w1 ⟨ov, m, V, U, rfl, hm40, hR, hU⟩; obtain ⟨na, nc, N, rfl, hnc, hncm, hN, hNl, hmay, hrow⟩ := hR.use hm40 hU; have hB1 := Lib.hid hR.low; clear hR hU)
  have hor := Lib.hid (Order_any hN (by omega) (fun i => by have := hrow i; omega) nc)
  have hrn := Lib.hid (fun (w2 : World) (hb : Below w1.heap.size w1 w2) => Round_any (hN.step hb) (by omega) (fun i => by have := hrow i; omega) nc)
  by_cases hq : (told N).length = N.length
  · have hE : ordE N = 0 := by simp [ordE, hmay, hq]
    have hL : ordL N = iz (told N) := by simp [ordL, hE]
    have hr0 : rndN N = [] := by simp [rndN, hmay, rnd_no hq]
    rw [hE, hL, iz_len, hq, hNl] at hor
    rw [hr0] at hrn
    have HT := Lib.hid (hq.trans hNl)
    have HQ := Lib.hid hq
    have HN := Lib.hid hN
    have HR := Lib.hid hrow
    have HL := Lib.hid hNl
    have HM := Lib.hid hmay
    have hz := Lib.hid (made_zero m)
    clear hN hrow hNl hq hE hL hr0 hmay
    go_wp2_with (first
      | (go_at_call 10; (with_reducible refine hor.out.mono ?_); rintro e w2 ⟨oa, oc, rfl, hor2, hb⟩; obtain ⟨hoc1, hoc2⟩ := own_cap hor2; have hB2 := Lib.hid hb; have HO2 := Lib.hid (Row.of_own hor2 (by rw [iz_len]; exact HT.out) (by omega)); clear hor2 hb)
      | (go_at_call 14; (with_reducible refine (hrn.out _ hB2.out).mono ?_); rintro e w3 ⟨ra, rc, rfl, hrr, hrc1, hrc2, hb⟩; have hB3 := Lib.hid (nextw hB2.out hb); have HO3 := Lib.hid (HO2.out.step hb); clear hrr hrc1 hrc2 hb)
      | (go_at_call 25; (with_reducible refine (hwk.out _).mono ?_); rintro e w4 ⟨rfl, hb⟩; have hB4 := Lib.hid (nextw hB3.out hb); have HO4 := Lib.hid (HO3.out.step hb); have HN4 := Lib.hid (HN.out.step hB4.out); clear hb)
      | (at_make; refine wpList_make_full _ rfl _ _ 23 rfl w4.heap.size 3 i0 (.int .i64 0) 1 Try.underlying23 hi hz0 hz1 .i64 .i64 m m m rfl rfl rfl rfl (by rw [hz2]; omega) (by unfold maxLen; omega) (Nat.le_refl _) ?_; intro w5 hown hg; rw [hz.out] at hown; have hAT : Hid (AT w4 w5 w4.heap.size m (List.replicate m 0)) := Lib.hid ⟨(Below.refl w4.heap.size w4).grown hg (Nat.le_refl _) (fun _ h => (by cases h)), hown, by simp⟩; clear hown hg))
    have hB14 := Lib.hid (nextw hB1.out hB4.out)
    clear hor hrn hwk hbr HO2 HO3 hB1 hB2 hB3 hB4 HN hz
    generalize w4.heap.size = g at *
    go_loopw [102] (fun s wr => ∃ (t : Nat) (A : List Int), s = .int .i64 t ∧ t ≤ m ∧ Hid (AT w4 wr g m A) ∧ Hid (∀ i, i < t → A.getD i 0 = -1)) (fun s _ => m - (RowKit.intOf s).toNat)
    case atStart => exact ⟨0, _, rfl, by omega, hAT, Lib.hid (fun i hi => by omega)⟩
    case round =>
      clear hAT
      obtain ⟨t, A, rfl, ht, hA, hv⟩ := hrel
      by_cases hlt : t < m
      · obtain ⟨c1, f1⟩ := hA.out.cell hlt
        have hti : (t : Int) < m := by omega
        have hset := Lib.hid (hA.out.set t (-1))
        have hv2 : Hid (∀ i, i < t + 1 → (A.set t (-1)).getD i 0 = -1) := Lib.hid (fun i hi => by
          rw [getD_set, hA.out.len]
          by_cases e : t = i
          · rw [if_pos ⟨e, by omega⟩]
          · rw [if_neg (by omega)]; exact hv.out i (by omega))
        generalize A.getD t 0 = z at *
        clear hA hv
        go_wp2
        exact ⟨⟨t + 1, _, by go_num, by omega, hset, hv2⟩, by simp [RowKit.intOf]; omega⟩
      · obtain rfl : t = m := by omega
        have hA0 := hA
        have hv0 : Hid (∀ x, x < t → A.getD x 0 = if pos N x < 0 then ((pos N x : Nat) : Int) else -1) := Lib.hid (fun x hx => by rw [if_neg (by omega)]; exact hv.out x hx)
        clear hA hv
        go_wp2
        go_loopw [111] (fun s wr => ∃ (q : Nat) (A : List Int), s = .int .i64 q ∧ q ≤ t ∧ Hid (AT w4 wr g t A) ∧ Hid (∀ x, x < t → A.getD x 0 = if pos N x < q then ((pos N x : Nat) : Int) else -1)) (fun s _ => t - (RowKit.intOf s).toNat)
        case atStart => exact ⟨0, A, rfl, by omega, hA0, hv0⟩
        case round =>
          clear hA0 hv0
          obtain ⟨q, A, rfl, hqt, hA, hv⟩ := hrel
          by_cases hqlt : q < t
          · obtain ⟨ob, oo, rfl, hob, hocl⟩ := HO4.out.at (by omega)
            have co := stepc hA.out.low hob (hocl q hqlt)
            have hql : q < (told N).length := by rw [HT.out]; exact hqlt
            have e1 : (iz (told N)).getD q 0 = (((told N).getD q 0 : Nat) : Int) := by rw [getD_at (by rw [iz_len]; exact hql), getN_at hql]; simp [iz]
            rw [e1] at co
            have hxl : (told N).getD q 0 < t := by
              have := (told_tld N).lt _ (List.getElem_mem hql)
              rw [getN_at hql]; rw [HL.out] at this; exact this
            have hpx : pos N ((told N).getD q 0) = q := pos_told HQ.out (by rw [HL.out]; exact hqlt)
            have hpu : Hid (∀ y, y < t → (pos N y = q ↔ y = (told N).getD q 0)) := Lib.hid (fun y hy => ⟨fun e => by rw [← e]; exact (pos_at HQ.out (by rw [HL.out]; exact hy)).symm, fun e => by rw [e]; exact hpx⟩)
            generalize (told N).getD q 0 = x at *
            obtain ⟨c1, f1⟩ := hA.out.cell hxl
            rw [hv.out x hxl, hpx, if_neg (by omega)] at c1
            have hset := Lib.hid (hA.out.set x (q : Int))
            have hv2 : Hid (∀ y, y < t → (A.set x (q : Int)).getD y 0 = if pos N y < q + 1 then ((pos N y : Nat) : Int) else -1) := Lib.hid (fun y hy => by
              rw [getD_set, hA.out.len]
              by_cases e : x = y
              · subst e
                rw [if_pos ⟨rfl, hxl⟩, hpx, if_pos (by omega)]
              · rw [if_neg (fun h => e h.1), hv.out y hy]
                have : pos N y ≠ q := fun h => e ((hpu.out y hy).1 h).symm
                by_cases h2 : pos N y < q
                · rw [if_pos h2, if_pos (by omega)]
                · rw [if_neg h2, if_neg (by omega)])
            have hxi : (x : Int) < t := by omega
            have hx0 : decide ((x : Int) < 0) = false := by simp
            have hxn : ¬ t ≤ x := by omega
            have hqi : (q : Int) < t := by omega
            clear hA hv hpu hpx e1 hocl
            go_wp2
            exact ⟨⟨q + 1, _, by go_num, by omega, hset, hv2⟩, by simp [RowKit.intOf]; omega⟩
          · obtain rfl : q = t := by omega
            have hpos : Hid (∀ x, x < q → A.getD x 0 = ((pos N x : Nat) : Int)) := Lib.hid (fun x hx => by rw [hv.out x hx, if_pos (by have := pos_lt HQ.out (x := x) (by rw [HL.out]; exact hx); rw [HL.out] at this; exact this)])
            have hA0 := hA
            clear hA hv
            go_wp2
            go_loopw [138] (fun s wr => ∃ x : Nat, s = .int .i64 x ∧ x ≤ q ∧ Hid (AT w4 wr g q A)) (fun s _ => q - (RowKit.intOf s).toNat)
            case atStart => exact ⟨0, rfl, by omega, hA0⟩
            case round =>
              clear hA0
              obtain ⟨x, rfl, hxq, hA⟩ := hrel
              by_cases hx : x < q
              · obtain ⟨b, off, rfl, hb, hcell⟩ := HN4.out.at (by omega)
                obtain ⟨ai, ci, c3, q1, q2, hrow⟩ := hcell x hx
                have c3r := stepc hA.out.low hb c3
                have hmj : (N.getD x []).length ≤ 10 := HR.out x
                have hxN : x < N.length := by rw [HL.out]; exact hx
                have hpx := pos_lt HQ.out hxN
                rw [HL.out] at hpx
                have hxi : (x : Int) < q := by omega
                have hndl := nd_len N x
                have hrow := Lib.hid hrow
                generalize hlen : (N.getD x []).length = len at *
                clear hcell c3
                go_wp2
                go_loopw [16, 145] (fun s t wq => ∃ (sn p : Nat), s = .int .i64 sn ∧ t = .int .i64 p ∧ p ≤ len ∧ Hid (AT w4 wq g q A) ∧ sn ≤ pos N x ∧ Hid (∀ k ∈ (nd N x).take p, pos N k < sn)) (fun _ t _ => len - (RowKit.intOf t).toNat)
                case atStart => exact ⟨0, 0, rfl, rfl, by omega, hA, by omega, Lib.hid (fun k hk => by simp at hk)⟩
                case round =>
                  clear hA
                  obtain ⟨sn, p, rfl, rfl, hp, hA, hsn, hall⟩ := hrel
                  by_cases hpl : p < len
                  · obtain ⟨rb, roff, rfl, hrb, hrc⟩ := hrow.out.at (by omega)
                    have cr := stepc hA.out.low hrb (hrc p hpl)
                    obtain ⟨ey, hyn⟩ := may_get HM.out (i := x) (p := p) (by omega)
                    have hpn : p < (nd N x).length := by omega
                    have e1 : (nd N x).getD p 0 = (nd N x)[p] := getN_at hpn
                    have hkb := need_before HQ.out hxN (List.getElem_mem hpn) HM.out
                    have hall2 : Hid (∀ k ∈ (nd N x).take (p + 1), pos N k < max sn (pos N (nd N x)[p] + 1)) := Lib.hid (fun k hk => by
                      rw [List.take_succ_eq_append_getElem hpn] at hk
                      rcases List.mem_append.1 hk with hk | hk
                      · have := hall.out k hk; omega
                      · simp at hk; subst hk; omega)
                    rw [ey, e1] at cr
                    rw [e1] at hyn
                    generalize (nd N x)[p] = k at *
                    rw [HL.out] at hyn
                    obtain ⟨ck, -⟩ := hA.out.cell hyn
                    obtain ⟨cx, -⟩ := hA.out.cell hx
                    rw [hpos.out k hyn] at ck
                    rw [hpos.out x hx] at cx
                    have hAd := Lib.hid (fun z => hA.out.drewN z)
                    have ckd := fun z => (hAd.out z).cell hyn
                    simp only [hpos.out k hyn] at ckd
                    have hki : (k : Int) < q := by omega
                    have hpi : (p : Int) < len := by omega
                    generalize pos N k = pk at *
                    generalize pos N x = px at *
                    have hlt2 : ¬ px ≤ pk := by omega
                    have hpk40 : pk < 40 := by omega
                    have ckd1 := fun z => (ckd z).1
                    have hckd := Lib.hid ckd1
                    clear hrc ey e1 hall hA ckd ckd1
                    by_cases hmx : sn < pk + 1
                    · have hsn2 : max sn (pk + 1) = pk + 1 := by omega
                      rw [hsn2] at hall2
                      clear hsn2
                      have hmi : (sn : Int) < (pk : Int) + 1 := by omega
                      go_wp2
                      go_quiet (fail)
                      go_wp2
                      exact ⟨⟨pk + 1, p + 1, by go_num, by go_num, by omega, hAd.out _, by omega, hall2⟩, by simp [RowKit.intOf]; omega⟩
                    · have hsn2 : max sn (pk + 1) = sn := by omega
                      rw [hsn2] at hall2
                      clear hsn2
                      have hmi : ¬ (sn : Int) < (pk : Int) + 1 := by omega
                      go_wp2
                      go_quiet (fail)
                      go_wp2
                      exact ⟨⟨sn, p + 1, by first | rfl | go_num, by go_num, by omega, hAd.out _, by omega, hall2⟩, by simp [RowKit.intOf]; omega⟩
                  · obtain rfl : p = len := by omega
                    have hall2 : Hid (∀ k ∈ nd N x, pos N k < sn) := Lib.hid (fun k hk => by
                      have := hall.out k
                      rw [← hndl, List.take_length] at this
                      exact this hk)
                    obtain ⟨cx, -⟩ := hA.out.cell hx
                    rw [hpos.out x hx] at cx
                    have hles : Hid (∀ j, sn ≤ j → j < pos N x → (told N).getD j 0 ≤ x) := Lib.hid (fun j h1 h2 => lesser HQ.out hxN h2 (fun k hk => by have := hall2.out k hk; omega) HM.out)
                    obtain ⟨ob, oo, rfl, hob, hocl⟩ := HO4.out.at (by omega)
                    have hcl := Lib.hid hocl
                    generalize pos N x = px at *
                    have hA1 := hA
                    clear hall hall2 hocl hA
                    have hs1 : (sn : Int) ≤ px := by omega
                    have hs2 : (px : Int) ≤ q := by omega
                    go_wp2
                    go_loopw [174] (fun s wq => ∃ j : Nat, s = .int .i64 j ∧ j ≤ px - sn ∧ Hid (AT w4 wq g q A)) (fun s _ => px - sn - (RowKit.intOf s).toNat)
                    case atStart => exact ⟨0, rfl, by omega, hA1⟩
                    case round =>
                      clear hA1 cx
                      obtain ⟨j, rfl, hj, hA⟩ := hrel
                      by_cases hjl : j < px - sn
                      · have co := stepc hA.out.low hob (hcl.out (sn + j) (by omega))
                        have hql : sn + j < (told N).length := by rw [HT.out]; omega
                        have e1 : (iz (told N)).getD (sn + j) 0 = (((told N).getD (sn + j) 0 : Nat) : Int) := by rw [getD_at (by rw [iz_len]; exact hql), getN_at hql]; simp [iz]
                        have hy := hles.out (sn + j) (by omega) (by omega)
                        rw [e1, ← Nat.add_assoc] at co
                        generalize (told N).getD (sn + j) 0 = y at *
                        have hji : (j : Int) < ((px - sn : Nat) : Int) := by omega
                        have hyg : ¬ x < y := by omega
                        clear e1
                        go_wp2
                        exact ⟨⟨j + 1, by go_num, by omega, hA⟩, by simp [RowKit.intOf]; omega⟩
                      · have hjd : j = px - sn := by omega
                        subst hjd
                        go_wp2
                        exact ⟨⟨x + 1, by go_num, by omega, hA⟩, by simp [RowKit.intOf]; omega⟩
              · obtain rfl : x = q := by omega
                go_wp2
                go_ret
                exact ⟨rfl, nextw hB14.out hA.out.low⟩
  · have hE : ordE N = 35 := by simp [ordE, hmay, hq]
    have hL : ordL N = [] := by simp [ordL, hE]
    have hr0 : rndN N = rndL N := by simp [rndN, hmay]
    have hok := rnd_ok hmay hq
    have hrl := nodup_le N.length (rndL N) hok.nodup (fun x hx => (lf_iff.1 (hok.left x hx)).1)
    have hgt : decide (0 < (rndL N).length) = true := by simpa using hok.pos
    rw [hE, hL] at hor
    rw [hr0, hgt] at hrn
    generalize rndL N = r at *
    generalize hrlen : r.length = rl at *
    have hpos : 0 < rl := by have := hok.pos; omega
    have HK := Lib.hid hok
    have HN := Lib.hid hN
    have HR := Lib.hid hrow
    have HL := Lib.hid hNl
    have hrl40 : rl ≤ 40 := by omega
    clear hok hN hrow hNl hq hE hL hr0 hgt hmay hrl
    go_wp2_with (first
      | (go_at_call 10; (with_reducible refine hor.out.mono ?_); rintro e w2 ⟨oa, oc, rfl, hor2, hb⟩; have hB2 := Lib.hid hb; clear hor2 hb)
      | (go_at_call 14; (with_reducible refine (hrn.out _ hB2.out).mono ?_); rintro e w3 ⟨ra, rc, rfl, hrr, hrc1, hrc2, hb⟩; have hB3 := Lib.hid (nextw hB2.out hb); have HRR := Lib.hid hrr; clear hrr hb)
      | (go_at_call 25; (with_reducible refine (hwk.out _).mono ?_); rintro e w4 ⟨rfl, hb⟩; have hB4 := Lib.hid (nextw hB3.out hb); have HRR4 := Lib.hid (HRR.out.step hb); clear hb))
    have hB14 := Lib.hid (nextw hB1.out hB4.out)
    clear hor hrn hwk hbr HRR hB2 hB3
    go_loopw [52] (fun s wr => ∃ j : Nat, s = .int .i64 j ∧ j ≤ rl ∧ Hid (Below w4.heap.size w4 wr)) (fun s _ => rl - (RowKit.intOf s).toNat)
    case atStart => exact ⟨0, rfl, by omega, Lib.hid (Below.refl _ _)⟩
    case round =>
      obtain ⟨j, rfl, hj, hB⟩ := hrel
      by_cases hlt : j < rl
      · obtain ⟨rb, ro, rfl, hrb, hrc⟩ := HRR4.out.at (by omega)
        obtain ⟨q, hqd⟩ : ∃ q, (j + 1) % rl = q := ⟨_, rfl⟩
        have hql : q < rl := by rw [← hqd]; exact Nat.mod_lt _ hpos
        have hqm : ((j : Int) + 1).tmod (rl : Int) = (q : Int) := by
          rw [Int.tmod_eq_emod_of_nonneg (by omega), ← hqd]; push_cast; rfl
        have c1 := stepc hB.out hrb (hrc j hlt)
        have c2 := stepc hB.out hrb (hrc q hql)
        have e1 : (iz r).getD j 0 = ((r.getD j 0 : Nat) : Int) := by rw [getD_at (by rw [iz_len]; omega), getN_at (by omega)]; simp [iz]
        have e2 : (iz r).getD q 0 = ((r.getD q 0 : Nat) : Int) := by rw [getD_at (by rw [iz_len]; omega), getN_at (by omega)]; simp [iz]
        have hnext := HK.out.next j (by omega)
        rw [hrlen, hqd] at hnext
        have hxl := (lf_iff.1 (HK.out.left (r.getD j 0) (by rw [getN_at (by omega)]; exact List.getElem_mem _))).1
        have hixv : ix (iz r) ((r.getD j 0 : Nat) : Int) = (j : Int) := ix_hit (by rw [iz_len]; omega) e1 (fun i hi he => by
          have e3 : (iz r).getD i 0 = ((r.getD i 0 : Nat) : Int) := by rw [getD_at (by rw [iz_len]; omega), getN_at (by omega)]; simp [iz]
          rw [e3] at he
          have e4 : r.getD i 0 = r.getD j 0 := by omega
          rw [getN_at (by omega), getN_at (by omega)] at e4
          have := (List.getElem_inj HK.out.nodup).1 e4
          omega)
        rw [e1] at c1
        rw [e2] at c2
        rw [HL.out] at hxl
        generalize r.getD j 0 = x at *
        generalize r.getD q 0 = y at *
        obtain ⟨b, off, rfl, hb, hcell⟩ := HN.out.at (by omega)
        obtain ⟨ai, ci, c3, q1, q2, hrow⟩ := hcell x hxl
        have c3r := stepc (nextw hB4.out hB.out) hb c3
        have hmj : (N.getD x []).length ≤ 10 := HR.out x
        have hct := Lib.hid (fun (W : World) (hW : Below wr.heap.size wr W) => contains_any (hrow.step (nextw (nextw hB4.out hB.out) hW)) (by omega) ci (y : Int))
        have hin : decide ((y : Int) ∈ N.getD x []) = true := by simpa using hnext
        rw [hin] at hct
        have hix := Lib.hid (fun (W : World) (hW : Below wr.heap.size wr W) => index_any (HRR4.out.step (nextw hB.out hW)) rc (x : Int))
        rw [hixv] at hix
        have hBn := Lib.hid (fun k => below_draws wr k)
        have hBm := Lib.hid (fun k => nextw hB.out (below_draws wr k))
        generalize (N.getD x []).length = len at *
        have hxm : (x : Int) < m := by omega
        have hx0 : decide ((x : Int) < 0) = false := by simp
        have hxn : ¬ m ≤ x := by omega
        have hjr : (j : Int) < rl := by omega
        have hjj : ((j : Int) != (j : Int)) = false := by simp
        have hqr : (q : Int) < rl := by omega
        have hr0 : ¬ rl = 0 := by omega
        have hr1 : ((rl : Int) == 0) = false := by simp; omega
        clear hrc e1 e2 hnext hixv hcell c3 hrow hin
        go_wp2
        have hw1 : IntKind.i64.wrap ((j : Int) + 1) = (j : Int) + 1 := by simp [IntKind.wrap, IntKind.bits, IntKind.signed]; omega
        go_quiet (first
          | (go_at_call 27; with_reducible exact Calls.quiet_of_same ((hct.out _ (hBn.out _)).mono (fun _ _ h => ⟨h.1, h.2⟩)))
          | (go_at_call 28; with_reducible exact Calls.quiet_of_same ((hix.out _ (hBn.out _)).mono (fun _ _ h => ⟨h.1, h.2⟩))))
        go_wp2
        exact ⟨⟨j + 1, by go_num, by omega, Lib.hid (hBm.out _)⟩, by simp [RowKit.intOf]; omega⟩
      · obtain rfl : j = rl := by omega
        go_wp2
        go_ret
        exact ⟨ret_bool (by simp), nextw hB14.out hB.out⟩
end Go.Proofs.Ytocfchgkfaogdaa
