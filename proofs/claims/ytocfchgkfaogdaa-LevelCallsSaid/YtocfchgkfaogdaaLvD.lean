/-
  Depth.
-/
import Derived.Test.YtocfchgkfaogdaaLvO
namespace Go.Proofs.Ytocfchgkfaogdaa
open Go.RowKit Go.Maps
set_option maxRecDepth 100000

/-- The depths so far, and the order. -/
structure DO (w wr : World) (g n : Nat) (d : List Int) (ov : Value) (T : List Nat) : Prop where
  low : Below w.heap.size w wr
  row : wr.ownsRow w.heap.size 3 1 (.slice (some ⟨g, 0, none⟩) n n) n (ints d)
  ord : wr.ownsRow 0 3 1 ov T.length (ints (iz T))
  ne : ∀ b, ov.ownBlock = some b → b ≠ g
theorem DO.set {w wr : World} {g n : Nat} {d : List Int} {ov : Value} {T : List Nat} (h : DO w wr g n d ov T) (k : Nat) (x : Int) : DO w (wr.setCell ⟨g, k, none⟩ (.int .i64 x)).drew g n (d.set k x) ov T := by
  have hs := h.row.stored k (.int .i64 x)
  have hb : w.heap.size ≤ g := own_ge h.row g rfl
  refine ⟨h.low.trans (((Below.refl w.heap.size wr).setCell (p := ⟨g, k, none⟩) hb _).drew), ?_, ?_, h.ne⟩
  · rw [ints_set]; exact hs.1
  · exact ownsRow_setCell_other h.ord (fun e => h.ne g e rfl) _
theorem DO.cell {w wr : World} {g n : Nat} {d : List Int} {ov : Value} {T : List Nat} (h : DO w wr g n d ov T) (hd : d.length = n) {k : Nat} (hk : k < n) : wr.cell? ⟨g, k, none⟩ = some (.int .i64 (d.getD k 0)) ∧ wr.frozen? ⟨g, k, none⟩ = false :=
  ⟨by rw [h.row.cellAt k (by omega), ints_get d (by omega)], h.row.frozenAt k⟩
theorem DO.orow {w wr : World} {g n : Nat} {d : List Int} {a : Option Addr} {c m : Nat} {T : List Nat} (h : DO w wr g n d (.slice a m c) T) (hm : T.length = m) (hle : m ≤ 9223372036854775807) : Row .i64 wr a m (iz T) := by
  have := h.ord
  rw [hm] at this
  exact Row.of_own this (by rw [iz_len, hm]) hle

set_option maxHeartbeats 8000000 in
theorem Depth_any {w : World} {a : Option Addr} {n : Nat} {N : List (List Int)} (h : RR w a n N) (hn : n ≤ 1000) (hr : ∀ i, (N.getD i []).length ≤ 1000) (c : Nat) :
    Calls Try.prog 12 #[.slice a n c] w fun e w' => ∃ (va : Option Addr) (ca : Nat), e = .returned (.tuple #[.slice va (depL N).length ca, .int .i64 (ordE N)]) ∧
      w'.ownsRow w.heap.size 3 1 (.slice va (depL N).length ca) (depL N).length (ints (depL N)) ∧ Below w.heap.size w w' := by
  have hor := Order_any h hn hr c
  have hl := h.len
  by_cases hE : ordE N = 0
  · have hm : mayN N = true := by
      unfold ordE at hE
      split at hE
      · assumption
      · simp at hE
    have hq : (told N).length = N.length := by
      unfold ordE at hE
      rw [if_pos hm] at hE
      split at hE
      · assumption
      · simp at hE
    have hL : ordL N = iz (told N) := by simp [ordL, hE]
    have hD : depL N = depth N := by simp [depL, hE]
    have hBD : BD (depth N) n 1000000 := by
      have : BD (depth N) N.length (0 + (told N).length * 1000) := BD.all hr (told N) _ 0 (BD.zero N.length)
      rw [hl] at this
      refine this.mono ?_
      omega
    rw [hE, hL, iz_len, hq, hl] at hor
    rw [hE, hD, hBD.1]
    have hor := Lib.hid hor
    have H := Lib.hid h
    have HM := Lib.hid hm
    have HR := Lib.hid hr
    have HT := Lib.hid (hq.trans hl)
    have HL := Lib.hid hl
    have hz := Lib.hid (made_zero n)
    obtain ⟨i0, hi, hz0, hz1, hz2⟩ := info_parts info_int
    clear h hm hr hE hL hq hD hBD hl
    go_enter Try.func12, Try.ntmps12
    go_wp2_with (first
      | (go_at_call 10; (with_reducible refine hor.out.mono ?_); rintro e w5 ⟨oa, oc, rfl, hrow, hb⟩; have hrow := Lib.hid hrow; have hb := Lib.hid hb)
      | (at_make; refine wpList_make_full _ rfl _ _ 23 rfl w.heap.size 3 i0 (.int .i64 0) 1 Try.underlying23 hi hz0 hz1 .i64 .i64 n n n rfl rfl rfl rfl (by rw [hz2]; omega) (by unfold maxLen; omega) hb.out.size ?_; intro w6 hown hg; rw [hz.out] at hown; have hB1 : Below w5.heap.size w5 w6 := (Below.refl w5.heap.size w5).grown hg (Nat.le_refl _) (fun _ h => (by cases h)); have hDO : Hid (DO w w6 w5.heap.size n (List.replicate n 0) (.slice oa n oc) (told N)) := Lib.hid ⟨nextw hb.out hB1, hown, (by rw [HT.out]; exact own_base (own_below hrow.out hB1) (Nat.zero_le _)), fun b e e2 => (by obtain ⟨cur, hc⟩ := own_type hrow.out e; have := (Array.getElem?_eq_some_iff.1 hc).1; omega)⟩; clear hown hg hB1))
    clear hor hrow hb hz
    generalize w5.heap.size = g at *
    go_loopw [24] (fun s wr => ∃ (t : Nat) (d : List Int), s = .int .i64 t ∧ t ≤ n ∧ Hid (DO w wr g n d (.slice oa n oc) (told N)) ∧ Hid (d = depF N ((told N).take t) ∧ BD d n (t * 1000))) (fun s _ => n - (RowKit.intOf s).toNat)
    case atStart => exact ⟨0, _, rfl, by omega, hDO, Lib.hid ⟨by simp [depF, HL.out], by simpa using BD.zero n⟩⟩
    case round =>
      clear hDO
      obtain ⟨t, d, rfl, ht, hDO, hd⟩ := hrel
      by_cases hlt : t < n
      · obtain ⟨ob, oo, rfl, hob, hoc⟩ := (hDO.out.orow HT.out (by omega)).at (by omega)
        have co := hoc t hlt
        have htl : t < (told N).length := by rw [HT.out]; exact hlt
        have hx := (told_tld N).lt _ (List.getElem_mem htl)
        have hgx : (iz (told N)).getD t 0 = (((told N)[t] : Nat) : Int) := by simp [iz, List.getD, htl]
        have hnext := Lib.hid (show depF N ((told N).take (t + 1)) = depR N (depF N ((told N).take t)) (told N)[t] from fold_take _ _ _ htl)
        rw [hgx] at co
        generalize (told N)[t] = x at *
        rw [HL.out] at hx
        obtain ⟨b, off, rfl, hb, hcell⟩ := H.out.at (by omega)
        obtain ⟨ai, ci, c1, q1, q2, hrow⟩ := hcell x hx
        have c1r := stepc hDO.out.low hb c1
        have hxi : (x : Int) < n := by omega
        have hti : (t : Int) < n := by omega
        have hmj : (N.getD x []).length ≤ 1000 := HR.out x
        have hndl := nd_len N x
        clear hoc hcell c1 hgx
        generalize hm : (N.getD x []).length = m at *
        go_wp2
        clear co c1r
        go_loopw [33] (fun s wq => ∃ (p : Nat) (d2 : List Int), s = .int .i64 p ∧ p ≤ m ∧ Hid (DO w wq g n d2 (.slice (some ⟨ob, oo, none⟩) n oc) (told N)) ∧ Hid (d2 = ((nd N x).take p).foldl (dep1 x) d ∧ BD d2 n (t * 1000 + p))) (fun s _ => m - (RowKit.intOf s).toNat)
        case atStart => exact ⟨0, d, rfl, by omega, hDO, Lib.hid ⟨rfl, hd.out.2⟩⟩
        case round =>
          clear hDO
          obtain ⟨p, d2, rfl, hp, hDO, hd2⟩ := hrel
          by_cases hpm : p < m
          · obtain ⟨rb, roff, rfl, hrb, hrc⟩ := hrow.at (by omega)
            have cr := stepc hDO.out.low hrb (hrc p hpm)
            obtain ⟨ey, hyn⟩ := may_get HM.out (i := x) (p := p) (by omega)
            rw [ey] at cr
            have hpl : p < (nd N x).length := by omega
            have e1 : (nd N x).getD p 0 = (nd N x)[p] := by simp [List.getD, hpl]
            have hf := fold_take (dep1 x) d (nd N x) hpl
            rw [e1] at cr hyn
            generalize (nd N x)[p] = k at *
            rw [HL.out] at hyn
            have hd3 : dep1 x d2 k = ((nd N x).take (p + 1)).foldl (dep1 x) d := by rw [hf, hd2.out.1]
            have hB3 := hd2.out.2.dep1 x k
            have hdl := hd2.out.2.1
            obtain ⟨cx, fx⟩ := hDO.out.cell hdl hx
            obtain ⟨ck, -⟩ := hDO.out.cell hdl hyn
            have bx := hd2.out.2.2 x
            have bk := hd2.out.2.2 k
            have hset := Lib.hid (fun z (hz : z = max (d2.getD x 0) (d2.getD k 0 + 1)) => (show DO w (wr.setCell ⟨g, x, none⟩ (.int .i64 z)).drew g n (dep1 x d2 k) (.slice (some ⟨ob, oo, none⟩) n oc) (told N) by rw [hz]; exact hDO.out.set x _))
            have hnx := Lib.hid (show dep1 x d2 k = ((nd N x).take (p + 1)).foldl (dep1 x) d ∧ BD (dep1 x d2 k) n (t * 1000 + (p + 1)) from ⟨hd3, hB3⟩)
            have hki : (k : Int) < n := by omega
            have hpi : (p : Int) < m := by omega
            generalize dep1 x d2 k = d3 at *
            generalize d2.getD x 0 = dx at *
            generalize d2.getD k 0 = dk at *
            clear hrc ey e1 hf hd3 hB3 hd2 hDO hd hnext hdl
            by_cases hlt2 : dx < dk + 1
            · have hS := Lib.hid (hset.out (dk + 1) (by omega))
              clear hset
              go_wp2
              go_region
              all_goals go_wp2
              all_goals exact ⟨⟨p + 1, d3, by go_num, by omega, hS, hnx⟩, by simp [RowKit.intOf]; omega⟩
            · have hS := Lib.hid (hset.out dx (by omega))
              clear hset
              go_wp2
              go_region
              all_goals go_wp2
              all_goals exact ⟨⟨p + 1, d3, by go_num, by omega, hS, hnx⟩, by simp [RowKit.intOf]; omega⟩
          · obtain rfl : p = m := by omega
            have hfull := hd2.out.1
            rw [← hndl, List.take_length] at hfull
            have hnx : Hid (d2 = depF N ((told N).take (t + 1)) ∧ BD d2 n ((t + 1) * 1000)) := Lib.hid ⟨by rw [hnext.out, ← hd.out.1, hfull]; rfl, hd2.out.2.mono (by omega)⟩
            clear hd2 hd hfull hnext hndl
            go_wp2
            exact ⟨⟨t + 1, d2, by go_num, by omega, hDO, hnx⟩, by simp [RowKit.intOf]; omega⟩
      · obtain rfl : t = n := by omega
        have hfull := hd.out.1
        have hT := HT.out
        rw [← hT, List.take_length] at hfull
        have hfin := hDO.out.row
        have hlow := Lib.hid hDO.out.low
        rw [hfull] at hfin
        have hfin := Lib.hid hfin
        clear hd hfull hT hDO HT
        go_wp2
        go_ret2
        exact ⟨some ⟨g, 0, none⟩, t, rfl, hfin.out, hlow.out⟩
  · have hL : ordL N = [] := by simp [ordL, hE]
    have hD : depL N = [] := by simp [depL, hE]
    have hne : (ordE N != 0) = true := by simpa using hE
    rw [hL] at hor
    rw [hD]
    generalize ordE N = E at *
    have hor := Lib.hid hor
    clear h hL hD hr
    go_enter Try.func12, Try.ntmps12
    go_wp2_with (go_at_call 10; (with_reducible refine hor.out.mono ?_); rintro e w5 ⟨oa, oc, rfl, hrow, hb⟩; have hb := Lib.hid hb; clear hrow)
    go_ret2
    exact ⟨none, 0, rfl, own_nil _ _ _, hb.out⟩
end Go.Proofs.Ytocfchgkfaogdaa
