/-
  TraceForm: the walk.
-/
import Derived.Test.YtnhpjacodhdpeaaDoorTfT
import Derived.Test.YtnhpjacodhdpeaaDoorTrP
import Derived.Test.YtnhpjacodhdpeaaDoorTrT
import Derived.Test.YtnhpjacodhdpeaaDoorTrV
namespace Go.Proofs.YtnhpjacodhdpeaaDoor
open Go.RowKit Go.Maps Bits
set_option maxRecDepth 100000
set_option linter.unusedVariables false

/-- A table in a variable's box: written over. -/
theorem tset {w w5 : World} {k : Nat} {u v u' v' : Value} (h : w5.heap[k]? = some (.cells #[u, v] 25 (0, 0))) (hB : Below w.heap.size w w5) (hk : w.heap.size ≤ k) :
    ∀ x, x = (w5.setCell ⟨k, 0, none⟩ u').setCell ⟨k, 1, none⟩ v' → x.heap[k]? = some (.cells #[u', v'] 25 (0, 0)) ∧ Below w.heap.size w x ∧ Below k w5 x ∧ KR k w5 x := by
  rintro x rfl
  have e1 : (w5.setCell ⟨k, 0, none⟩ u').heap[k]? = some (.cells #[u', v] 25 (0, 0)) := by
    rw [setCell_eq_setRow w5 k 0 _ _ _ _ h, setRow_heap w5 k _ _ _ _ h]; rfl
  refine ⟨?_, ?_, ?_, ?_⟩
  · rw [setCell_eq_setRow _ k 1 _ _ _ _ e1, setRow_heap _ k _ _ _ _ e1]; rfl
  · exact (hB.setCell (p := ⟨k, 0, none⟩) hk _).setCell (p := ⟨k, 1, none⟩) hk _
  · exact ((Below.refl k w5).setCell (p := ⟨k, 0, none⟩) (Nat.le_refl _) _).setCell (p := ⟨k, 1, none⟩) (Nat.le_refl _) _
  · refine ⟨rfl, rfl, rfl, by simp, fun j _ hj => ?_⟩
    rw [Below.heap_setCell _ _ _ _ hj, Below.heap_setCell _ _ _ _ hj]
/-- A table that a call has made is not in that box. -/
theorem TabV.box {w x : World} {base k : Nat} {va v2 : Value} {L : List TB} {G : List (List Int)} {cs : Array Value} {zz : Nat × Nat} (h : TabV w base va v2 L G) (hk : w.heap[k]? = some (.cells cs 25 zz)) (hx : KR k w x) : TabV x base va v2 L G := by
  have hF : ∀ T, T ≠ 25 → ∀ j, j = k → ∃ cur T' z, w.heap[j]? = some (.cells cur T' z) ∧ T' ≠ T := by
    rintro T hT j rfl
    exact ⟨_, _, _, hk, fun e => hT e.symm⟩
  obtain ⟨kv, h1, h2⟩ := h.rows
  refine ⟨own_other h.bus hx (hF _ (by decide)), kv, own_other h1 hx (hF _ (by decide)), fun i hi => ?_⟩
  obtain ⟨y, e1, e2⟩ := h2 i hi
  exact ⟨y, e1, own_other e2 hx (hF _ (by decide))⟩

set_option maxHeartbeats 8000000 in
theorem Form_any {w : World} {a a2 ai : Option Addr} {n m ni : Nat} {L : List TB} {R : List (List Int)} {li : List UInt8} (hTZ : TZ w) (h : BsR w a n L) (h2 : RRk .u64 w a2 m R) (hWd : ∀ i, Words ((fewR R).getD i [])) (hBi : BR w ai ni li) (c c2 ci : Nat) (hic : ni ≤ ci) (hcm : ci ≤ 9223372036854775807) (z : Nat) (hz : z < 65536) :
    Calls Tryd.prog 5 #[.agg #[.slice a n c, .slice a2 m c2], .slice ai ni ci, .int .u16 z] w fun e w' => e = .returned (.bool true) ∧ Below w.heap.size w w' := by
  have hb1 : ∀ x, x = w.alloc (.cells #[.slice a n c, .slice a2 m c2] 25) → Below w.heap.size w x ∧ w.heap.size < x.heap.size ∧ x.heap[w.heap.size]? = some (.cells #[.slice a n c, .slice a2 m c2] 25 (0, 0)) := by
    rintro x rfl
    exact ⟨(Below.refl _ _).alloc (Nat.le_refl _) _, by simp, heap_alloc_new w _⟩
  obtain ⟨hbx, hbz, hh0⟩ := hb1 _ rfl
  have hfew := Lib.hid (fun w3 (hb : Below w.heap.size w w3) => few_any (h.step hb) (h2.step hb) c c2)
  have hL20 := fewL_len L
  have hR30 := fewR_len R
  have hR25 := Lib.hid (fewR_rows R)
  have hwd := Lib.hid hWd
  have hTz := Lib.hid (fun w3 (hb : Below w.heap.size w w3) => hTZ.step hb)
  have hBi0 := hBi
  obtain ⟨k, hkk⟩ : ∃ k, k = min ni 2000 := ⟨_, rfl⟩
  have hk1 : k ≤ ni := by omega
  have hk2 : k ≤ 2000 := by omega
  have hmin : (if (2000 : Int) < (ni : Int) then (2000 : Int) else (ni : Int)) = (k : Int) := by split <;> omega
  have hmin2 : min (ni : Int) 2000 = (k : Int) := by omega
  have hkc : (k : Int) ≤ ci := by omega
  have hk0 : (0 : Int) ≤ k := by omega
  have hBi := Lib.hid (fun w3 (hb : Below w.heap.size w w3) => (hBi0.take k hk1).step hb)
  generalize hlk : li.take k = l at hBi
  clear h h2 hWd hb1 hBi0 hlk hkk
  generalize fewL L = LL at *
  generalize fewR R = RR at *
  generalize hwa : w.alloc (.cells #[.slice a n c, .slice a2 m c2] 25) = wa at *
  have hbx := Lib.hid hbx
  go_enter Tryd.func5, Tryd.ntmps5
  go_upto_region 1 with fail
  have q0 := cell_of_heap hh0 0 (.slice a n c) rfl
  have q1 := cell_of_heap hh0 1 (.slice a2 m c2) rfl
  go_cut [1] (fun s1 wx => ∃ z1 z2 z3 z4, s1 = .slice ai k ci ∧ Hid (wx.heap[w.heap.size]? = some (.cells #[.slice z1 LL.length z2, .slice z3 RR.length z4] 25 (0, 0)) ∧ Below w.heap.size w wx ∧ LL.length ≤ z2 ∧ RR.length ≤ z4 ∧ BsR wx z1 LL.length LL ∧ RRk .u64 wx z3 RR.length RR))
  case first =>
    go_region_law (first | (go_simp; go_at_call 10; (with_reducible refine (hfew.out _ hbx.out.drew).mono ?_); rintro e w5 ⟨va, v2, rfl, hTa, hb5⟩; obtain ⟨z1, z2, z3, z4, rfl, rfl, hz1, hbz1, hrz1⟩ := hTa.tab.ins (by omega) (by omega) (fun q _ => by have := hR25.out q; omega); have hh5 := (hb5.block _ hbz).trans hh0; have p0 := cell_of_heap hh5 0 (.slice a n c) rfl; have p1 := cell_of_heap hh5 1 (.slice a2 m c2) rfl; have pf0 := frozen_of_row w5 w.heap.size 0 _ _ hh5; have pf1 := frozen_of_row w5 w.heap.size 1 _ _ hh5; have hbz1 := Lib.hid hbz1; have hrz1 := Lib.hid hrz1; have hh5 := Lib.hid hh5; obtain ⟨kv9, hkv9, -⟩ := hTa.rows; have hz4 := (own_cap hkv9).1; have hB5 := Lib.hid (nextw hbx.out.drew hb5); have hge5 := Lib.hid (hTa.tab); clear hkv9 kv9 hTa hb5))
    all_goals (obtain ⟨e1, e2, -, e4⟩ := tset (u' := .slice z1 LL.length z2) (v' := .slice z3 RR.length z4) hh5.out hB5.out (Nat.le_refl _) _ rfl)
    all_goals (obtain ⟨y1, y2, y3, y4, f1, f2, -, f3, f4⟩ := (hge5.out.box hh5.out e4).ins (by omega) (by omega) (fun q _ => by have := hR25.out q; omega))
    all_goals (cases f1; cases f2)
    all_goals (simp only [List.getElem_toArray, List.getElem_cons_succ, List.getElem_cons_zero, Act.put, List.setIfInBounds_toArray, List.set_cons_succ, List.set_cons_zero])
    all_goals (go_wp2_with fail; go_meet)
    all_goals exact ⟨_, _, _, _, rfl, Lib.hid ⟨e1, e2, hz1, hz4, f3, f4⟩⟩
  case rest =>
    obtain ⟨z1, z2, z3, z4, rfl, hcut⟩ := hcut
    obtain ⟨hh1, hB1, hz2, hz4, hbz1, hrz1⟩ := hcut.out
    clear hcut hfew hbx hh0 q0 q1 hmin hmin2
    obtain ⟨wb, rfl⟩ : ∃ wb : World, wb = wc := ⟨_, rfl⟩
    have hB1 := Lib.hid hB1
    have hT1 := Lib.hid hbz1
    have hU1 := Lib.hid hrz1
    have hmayF := Lib.hid (fun w3 (hb : Below wb.heap.size wb w3) => May_any (hbz1.step hb) (hrz1.step hb) z2 z4 hz2)
    have q0 := cell_of_heap hh1 0 (.slice z1 LL.length z2) rfl
    have q1 := cell_of_heap hh1 1 (.slice z3 RR.length z4) rfl
    have hltb := (Array.getElem?_eq_some_iff.1 hh1).1
    have hnn : Hid (NN RR) := Lib.hid (by
      intro r hr z hz
      obtain ⟨i, hi, rfl⟩ := List.getElem_of_mem hr
      obtain ⟨j, hj, rfl⟩ := List.getElem_of_mem hz
      have := hwd.out i j
      simp [List.getD, hi, hj] at this
      omega)
    rcases (show mayT LL RR = false ∨ mayT LL RR = true by cases mayT LL RR <;> simp) with k1 | k1
    · rw [k1] at hmayF
      have hput := Lib.hid (Put_no hbz1 hrz1 z2 z4 hz2 (hTz.out _ hB1.out) hwd.out k1)
      have hm2 := Lib.hid (fun w3 hb => hmayF.out w3 hb)
      clear hmayF
      go_upto_region 18 with (first
        | (go_at_call 12; (with_reducible refine hput.out.mono ?_); rintro e w3 ⟨rfl, hb3⟩; have q0' := stepc hb3 hltb q0; have q1' := stepc hb3 hltb q1; have hB3 := Lib.hid (nextw hB1.out hb3); have hm3 := Lib.hid (hm2.out w3 hb3); clear hb3 hput hm2)
        | (go_at_call 20; (with_reducible refine hm3.out.mono ?_); rintro e w4 ⟨rfl, hb4⟩; have hB := Lib.hid (nextw hB3.out hb4); clear hb4 hm3))
      obtain ⟨wx, rfl⟩ : ∃ wx : World, wx = w4 := ⟨_, rfl⟩
      clear q0 q1 q0' q1' hh1 hB1 hB3 hbz1 hrz1 hT1 hU1
      have hBl := Lib.hid (hBi.out _ hB.out)
      have hTzx := Lib.hid (fun w3 (hb : Below wx.heap.size wx w3) => hTz.out w3 (nextw hB.out hb))
      have hBix := Lib.hid (fun w3 (hb : Below wx.heap.size wx w3) => hBi.out w3 (nextw hB.out hb))
      have hlen : l.length = k := hBl.out.1
      rcases hg : tableP l with e0 | ⟨L9, R9⟩
      · have he := tableP_err hg
        have hgt := Lib.hid (Get_err hBl.out ci (by omega) hcm (by omega) hg)
        clear hg
        go_upto_region 19 with (go_at_call 29; (with_reducible refine hgt.out.mono ?_); rintro e wy ⟨rfl, hby⟩; have hBy := Lib.hid (nextw hB.out hby); clear hby hgt)
        have hnew := tnew (W := wy) (u := .slice none 0 0) (v := .slice none 0 0) _ rfl
        generalize wy.alloc (.cells #[.slice none 0 0, .slice none 0 0] 25) = wz at *
        obtain ⟨hbn, hzn, -, t0, t1⟩ := hnew
        have hBz := Lib.hid (nextw hBy.out hbn)
        have hsm := Lib.hid (Same_any (BsR.none wz) (RRk.none wz) (BsR.none wz) (RRk.none wz) 0 0 0 0)
        rw [same_self] at hsm
        clear hbn hBy hB hBl hzn
        have hne : ((e0 : Int) = 0) = False := by rcases he with rfl | rfl <;> simp
        have hor : (((e0 : Int) == 4) || ((e0 : Int) == 5)) = true := by rcases he with rfl | rfl <;> rfl
        rcases he with rfl | rfl
        · go_wp2_with (first
            | (go_at_call 22; (with_reducible refine hsm.out.mono ?_); rintro e w8 ⟨rfl, hb8⟩; have hB8 := Lib.hid (nextw hBz.out hb8); have hwk8 := Lib.hid (wakes_any (hTz.out _ hB8.out)); clear hb8)
            | (go_at_call 24; (with_reducible refine hwk8.out.mono ?_); rintro e w9 ⟨rfl, hb9⟩; have hB9 := Lib.hid (nextw hB8.out hb9); clear hb9))
          go_ret
          exact ⟨rfl, hB9.out⟩
        · go_wp2_with (first
            | (go_at_call 22; (with_reducible refine hsm.out.mono ?_); rintro e w8 ⟨rfl, hb8⟩; have hB8 := Lib.hid (nextw hBz.out hb8); have hwk8 := Lib.hid (wakes_any (hTz.out _ hB8.out)); clear hb8)
            | (go_at_call 24; (with_reducible refine hwk8.out.mono ?_); rintro e w9 ⟨rfl, hb9⟩; have hB9 := Lib.hid (nextw hB8.out hb9); clear hb9))
          go_ret
          exact ⟨rfl, hB9.out⟩
      · have hgt := Lib.hid (Get_ok hBl.out ci (by omega) hcm (by omega) hg)
        obtain ⟨hm9, hn9, hp9⟩ := tableP_inv hg
        have hwd9 := Lib.hid (words_of_may hm9 hn9)
        have hl0 : 0 < k := by
          rw [← hlen, ← hp9]
          simp [putT, headT, lineT]
          omega
        have hm9 := Lib.hid hm9
        have hpl : Hid ((putT L9 R9).length = k) := Lib.hid (by show _ = _; rw [hp9]; exact hlen)
        have hp9 := Lib.hid hp9
        clear hg hn9
        go_upto_region 19 with (go_at_call 29; (with_reducible refine hgt.out.mono ?_); rintro e wy ⟨b1, x1, b2, x2, rfl, hd1, hd2, hu1, hu2, -, hby⟩; have hBy := Lib.hid (nextw hB.out hby); have hu1 := Lib.hid hu1; have hu2 := Lib.hid hu2; clear hby hgt)
        have hnew := tnew (W := wy) (u := .slice b1 L9.length x1) (v := .slice b2 R9.length x2) _ rfl
        generalize wy.alloc (.cells #[.slice b1 L9.length x1, .slice b2 R9.length x2] 25) = wz at *
        obtain ⟨hbn, hzn, -, t0, t1⟩ := hnew
        have hBz := Lib.hid (nextw hBy.out hbn)
        have hv1 := Lib.hid (hu1.out.step hbn)
        have hv2 := Lib.hid (hu2.out.step hbn)
        have hpt := Lib.hid (Put_yes hv1.out hv2.out x1 x2 hd1 (hTz.out _ hBz.out) hwd9.out hm9.out)
        have hmy := Lib.hid (fun w3 (hb : Below wz.heap.size wz w3) => May_any (hv1.out.step hb) (hv2.out.step hb) x1 x2 hd1)
        rw [hm9.out] at hmy
        have hBiz := Lib.hid (fun w3 (hb : Below wz.heap.size wz w3) => hBi.out w3 (nextw hBz.out hb))
        have hlz := World.block_lt_of_cell? wz _ t0
        clear hbn hBy hB hBl hzn hu1 hu2
        go_wp2_with (first
          | (go_at_call 12; (with_reducible refine hpt.out.mono ?_); rintro e w6 ⟨v6, rfl, hx6, hb6⟩; obtain ⟨g6, q6, rfl, hq6, -, hr6, -⟩ := BR.of_tx hx6 (by rw [hpl.out]; exact hl0); rw [hp9.out, hlen] at hr6; rw [hpl.out]; have s0 := stepc hb6 hlz t0; have s1 := stepc hb6 hlz t1; have hmy6 := Lib.hid (hmy.out w6 hb6); have hb6 := Lib.hid hb6; have hr6 := Lib.hid hr6; clear hx6)
          | (go_at_call 20; (with_reducible refine hmy6.out.mono ?_); rintro e w7 ⟨rfl, hb7⟩; have hb67 := Lib.hid (nextw hb6.out hb7); have heq7 := Lib.hid (equal_any (c := q6) (d := ci) (hr6.out.step hb7) (hBiz.out _ hb67.out) hl0); have hB7 := Lib.hid (nextw hBz.out hb67.out); have hwk7 := Lib.hid (wakes_any (hTz.out _ hB7.out)); clear hb7)
          | (go_at_call 18; (with_reducible refine heq7.out.mono ?_); rintro e w8 ⟨rfl, rfl⟩)
          | (go_at_call 24; (with_reducible refine hwk7.out.mono ?_); rintro e w9 ⟨rfl, hb9⟩; have hB9 := Lib.hid (nextw hB7.out hb9); clear hb9))
        go_ret
        exact ⟨rfl, hB9.out⟩
    · rw [k1] at hmayF
      have hput := Lib.hid (Put_yes hbz1 hrz1 z2 z4 hz2 (hTz.out _ hB1.out) hwd.out k1)
      have hm2 := Lib.hid (fun w3 hb => hmayF.out w3 hb)
      obtain ⟨hP0, hP1⟩ := putT_len k1 hnn.out hL20 hR30
      have hgo := Lib.hid (tableP_put k1 hnn.out)
      have hda := Lib.hid (tableP_dash k1 hnn.out)
      have hcu := Lib.hid (fun K hK => tableP_cut k1 hnn.out K hK)
      generalize putT LL RR = tx at *
      clear hmayF k1
      go_upto_if 52 with (first
        | (go_at_call 12; (with_reducible refine hput.out.mono ?_); rintro e w3 ⟨v3, rfl, hx3, hb3⟩; obtain ⟨g3, c3, rfl, hc3, hm3, hr3, hge3⟩ := BR.of_tx hx3 hP0; have q0' := stepc hb3 hltb q0; have q1' := stepc hb3 hltb q1; have hB3 := Lib.hid (nextw hB1.out hb3); have hT3 := Lib.hid (hT1.out.step hb3); have hU3 := Lib.hid (hU1.out.step hb3); have hr3 := Lib.hid hr3; have hlt3 : w.heap.size < w3.heap.size := Nat.lt_of_lt_of_le hltb hb3.size; have hm3' := Lib.hid (hm2.out w3 hb3); clear hb3 hx3 hput hm2 q0 q1)
        | (go_at_call 20; (with_reducible refine hm3'.out.mono ?_); rintro e w4 ⟨rfl, hb4⟩; have q0 := stepc hb4 hlt3 q0'; have q1 := stepc hb4 hlt3 q1'; have hB4 := Lib.hid (nextw hB3.out hb4); have hT4 := Lib.hid (hT3.out.step hb4); have hU4 := Lib.hid (hU3.out.step hb4); have hr4 := Lib.hid (hr3.out.step hb4); have hlt4 : w.heap.size < w4.heap.size := Nat.lt_of_lt_of_le hlt3 hb4.size; clear hb4 hm3'))
      clear q0' q1' hB3 hB1 hT3 hU3 hr3 hbz1 hrz1 hT1 hU1 hh1
      go_cut [] (fun wx => Hid (Below w.heap.size w wx))
      case first =>
        have hg6 := Lib.hid (Get_ok hr4.out c3 hc3 hm3 (by omega) hgo.out)
        go_upto_region 7 with (go_at_call 29; (with_reducible refine hg6.out.mono ?_); rintro e w5 ⟨b1, x1, b2, x2, rfl, hd1, hd2, hu1, hu2, -, hb5⟩; have q0' := stepc hb5 hlt4 q0; have q1' := stepc hb5 hlt4 q1; have hB5 := Lib.hid (nextw hB4.out hb5); have hT5 := Lib.hid (hT4.out.step hb5); have hU5 := Lib.hid (hU4.out.step hb5); have hr5 := Lib.hid (hr4.out.step hb5); have hu1 := Lib.hid hu1; have hu2 := Lib.hid hu2; have hlt5 : w.heap.size < w5.heap.size := Nat.lt_of_lt_of_le hlt4 hb5.size; clear hb5 hg6 q0 q1)
        have hnew := tnew (W := w5) (u := .slice b1 LL.length x1) (v := .slice b2 RR.length x2) _ rfl
        generalize w5.alloc (.cells #[.slice b1 LL.length x1, .slice b2 RR.length x2] 25) = w6 at *
        obtain ⟨hb6, hl6, -, t0, t1⟩ := hnew
        have q0 := stepc hb6 hlt5 q0'
        have q1 := stepc hb6 hlt5 q1'
        have hB6 := Lib.hid (nextw hB5.out hb6)
        have hT6 := Lib.hid (hT5.out.step hb6)
        have hU6 := Lib.hid (hU5.out.step hb6)
        have hr6 := Lib.hid (hr5.out.step hb6)
        have hv6 := Lib.hid (hu1.out.step hb6)
        have hy6 := Lib.hid (hu2.out.step hb6)
        have hlt6 : w.heap.size < w6.heap.size := Nat.lt_of_lt_of_le hlt5 hb6.size
        clear q0' q1' hT5 hU5 hr5 hu1 hu2 hb6 hB5 hgo hlt5
        generalize w5.heap.size = p9 at *
        obtain ⟨K, hK⟩ : ∃ K, K = z % tx.length := ⟨_, rfl⟩
        have hKP : K < tx.length := by rw [hK]; exact Nat.mod_lt _ hP0
        have hmax : max (tx.length : Int) 1 = (tx.length : Int) := by omega
        have hmax2 : (if (tx.length : Int) < 1 then (1 : Int) else (tx.length : Int)) = (tx.length : Int) := by rw [if_neg (by omega)]
        have hrem : (z : Int).tmod (tx.length : Int) = (K : Int) := by rw [hK]; rfl
        have hne0 : ¬ (tx.length : Int) = 0 := by omega
        have hKc : (K : Int) ≤ c3 := by omega
        have hK0 : (0 : Int) ≤ K := by omega
        have hzw : IntKind.i64.wrap (z : Int) = (z : Int) := by unfold IntKind.wrap; simp [IntKind.signed, IntKind.bits]; omega
        have hcuK := hcu.out K hKP
        have hg8 := Lib.hid (Get_cut (hr6.out.take K (by omega)) c3 (by omega) hm3 (by omega) hcuK)
        clear hcuK hcu hK
        go_upto_region 9 with (go_at_call 29; (with_reducible refine hg8.out.mono ?_); rintro e w7 ⟨b3, x3, b4, x4, L8, R8, e8, rfl, hu1, hu2, hci, hb7⟩; have q0' := stepc hb7 hlt6 q0; have q1' := stepc hb7 hlt6 q1; have t0' := stepc hb7 hl6 t0; have t1' := stepc hb7 hl6 t1; have hB7 := Lib.hid (nextw hB6.out hb7); have hT7 := Lib.hid (hT6.out.step hb7); have hU7 := Lib.hid (hU6.out.step hb7); have hr7 := Lib.hid (hr6.out.step hb7); have hv7 := Lib.hid (hv6.out.step hb7); have hy7 := Lib.hid (hy6.out.step hb7); have hu1 := Lib.hid hu1; have hu2 := Lib.hid hu2; have hci := Lib.hid hci; have hlt7 : w.heap.size < w7.heap.size := Nat.lt_of_lt_of_le hlt6 hb7.size; have hl7 : p9 < w7.heap.size := Nat.lt_of_lt_of_le hl6 hb7.size; clear hb7 hg8 q0 q1 t0 t1 hT6 hU6 hr6 hv6 hy6 hB6)
        have hnew := tnew (W := w7) (u := .slice b3 L8.length x3) (v := .slice b4 R8.length x4) _ rfl
        generalize w7.alloc (.cells #[.slice b3 L8.length x3, .slice b4 R8.length x4] 25) = wg at *
        obtain ⟨hb8, hl8, -, s0, s1⟩ := hnew
        have hF : Hid (FF w wg p9 w7.heap.size g3 z1 z3 b1 b2 b3 b4 z2 z4 x1 x2 x3 x4 LL RR L8 R8 tx) := Lib.hid ⟨nextw hB7.out hb8, stepc hb8 hlt7 q0', stepc hb8 hlt7 q1', stepc hb8 hl7 t0', stepc hb8 hl7 t1', s0, s1, hT7.out.step hb8, hU7.out.step hb8, hv7.out.step hb8, hy7.out.step hb8, hu1.out.step hb8, hu2.out.step hb8, hr7.out.step hb8⟩
        clear q0' q1' t0' t1' s0 s1 hT7 hU7 hr7 hv7 hy7 hu1 hu2 hb8 hB7 hmax hmax2 hrem hne0 hzw hlt7 hl7 hl6 hlt6 hlt4 hB4 hT4 hU4 hr4 hz
        generalize w7.heap.size = p12 at *
        have hcl := Lib.hid (clone_bytes (c := c3) hF.out.r hP0 (by omega))
        have hzz2 := hz2
        clear hz2
        obtain ⟨i0, hin, hz0, hz1, hz2⟩ := info_parts info_u8t
        have el : (tx ++ [(45 : UInt8)]).length = tx.length + 1 := by simp
        go_upto_region 10 with (first
          | (go_at_call 30; (with_reducible refine hcl.out.mono ?_); rintro e w9 ⟨v9, rfl, hx9, hb9⟩; have hT9 : Hid (TS wg w9 v9 tx) := Lib.hid ⟨hx9, hb9⟩; clear hx9 hb9)
          | (at_builtin; refine wpList_append_own _ rfl _ _ 31 rfl wg.heap.size 5 i0 (.int .u8 0) 1 1 Tryd.underlying31 hin hz0 hz1 hz2 rfl (by decide) _ _ _ rfl (hT9.out.step ((Below.refl _ _).alloc (Nat.le_refl _) _)).tx ⟨_, 0, none⟩ 1 1 [.int .u8 45] rfl rfl (news1 _ _ _) (one_byte _) (by unfold maxLen; omega) (by omega) (Nat.le_trans hT9.out.sz (by simp)) ?_; intro v8 w8 hown8 hg8 _; have hT8 := Lib.hid (hT9.out.byte (c := 45) hown8 hg8); obtain ⟨g8, c8, rfl, hc8, hm8, hr8, -⟩ := BR.of_tx hT8.out.tx (by simp); rw [el] at hr8 hc8; have hF8 := Lib.hid (hF.out.step hT8.out.low); have hg9 := Lib.hid (Get_err hr8 c8 hc8 hm8 (by omega) hda.out); clear hr8; clear hown8 hg8)
          | (go_at_call 29; (with_reducible refine hg9.out.mono ?_); rintro e w10 ⟨rfl, hb10⟩; have hF10 := Lib.hid (hF8.out.step hb10); clear hb10 hg9))
        have hb11 := (tnew (W := w10) (u := .slice none 0 0) (v := .slice none 0 0) _ rfl).1
        have hF11 := Lib.hid (hF10.out.step hb11)
        generalize w10.alloc (.cells #[.slice none 0 0, .slice none 0 0] 25) = w11 at *
        generalize w10.heap.size = p14 at *
        clear hb11 hF10 hF8 hT8 hT9 hcl hF hda hz0 hz1 hz2 hin el
        have hsm := Lib.hid (Same_any hF11.out.T hF11.out.U hF11.out.v hF11.out.y z2 z4 x1 x2)
        rw [same_self] at hsm
        have q0 := hF11.out.q0
        have q1 := hF11.out.q1
        have t0 := hF11.out.t0
        have t1 := hF11.out.t1
        go_upto_region 12 with (go_at_call 22; (with_reducible refine hsm.out.mono ?_); rintro e w12 ⟨rfl, hb12⟩; have hF12 := Lib.hid (hF11.out.step hb12); clear hb12 hsm)
        clear q0 q1 t0 t1 hF11
        have hnb : ∀ x, x = w12.alloc (.cells #[.int .u8 10] 5) → Below w12.heap.size w12 x ∧ x.cell? ⟨w12.heap.size, 0, none⟩ = some (.int .u8 10) := by
          rintro x rfl
          exact ⟨(Below.refl _ _).alloc (Nat.le_refl _) _, by simp [go_sem]⟩
        have hct := Lib.hid (count_any (c := c3) (d := 1) ((hF12.out.r.take K (by omega)).step (hnb _ rfl).1) (hnb _ rfl).2)
        have hF13 := Lib.hid (hF12.out.step (hnb _ rfl).1)
        have hcK : (tx.take K).count 10 ≤ 20000 := by
          have h1 := List.count_le_length (a := (10 : UInt8)) (l := tx.take K)
          rw [List.length_take] at h1
          omega
        have hlq := last_iff (l := tx) (K := K) (by omega)
        obtain ⟨hc1, hc2⟩ := hci.out
        have hc1 := Lib.hid hc1
        have hc2 := Lib.hid hc2
        clear hci hnb
        generalize (tx.take K).count 10 = cnt at *
        generalize (tx.take K).getLast? = lq at *
        have hwr : IntKind.i64.wrap ((cnt : Int) - 1) = (cnt : Int) - 1 := by unfold IntKind.wrap; simp [IntKind.signed, IntKind.bits]; omega
        go_upto_region 13 with (go_at_call 31; (with_reducible refine hct.out.mono ?_); rintro e w13 ⟨rfl, rfl⟩)
        generalize w12.alloc (.cells #[.int .u8 10] 5) = w14 at *
        clear hct hF12
        by_cases hKz : K = 0
        · obtain rfl := hc2.out (fun e => by have := (hlq.1 e).1; omega)
          subst hKz
          clear hc1 hc2 hlq hwr
          go_wp2
          go_meet
          exact Lib.hid hF13.out.low
        · have hKp : (0 : Int) < K := by omega
          obtain ⟨J, hJ⟩ : ∃ J, J = K - 1 := ⟨_, rfl⟩
          have hw1 : IntKind.i64.wrap ((K : Int) - 1) = (J : Int) := by unfold IntKind.wrap; simp [IntKind.signed, IntKind.bits]; omega
          have hJ0 : (0 : Int) ≤ J := by omega
          have hJl : (J : Int) < tx.length := by omega
          have hcell := hF13.out.r.cell (i := J) (by omega)
          rw [Nat.zero_add] at hcell
          have eJ : (⟨g3, J, none⟩ : Addr) = ⟨g3, K - 1, none⟩ := by rw [hJ]
          rw [eJ] at hcell
          clear eJ hw1
          have hw1 : IntKind.i64.wrap ((K : Int) - 1) = (K : Int) - 1 := by unfold IntKind.wrap; simp [IntKind.signed, IntKind.bits]; omega
          have hJ0 : (0 : Int) ≤ (K : Int) - 1 := by omega
          have hJl : (K : Int) - 1 < tx.length := by omega
          rw [← hJ] at hlq
          by_cases hby : tx.getD J 0 = 10
          · have hl10 := hlq.2 ⟨by omega, hby⟩
            obtain ⟨rfl, hcn1, hcn2, rfl, hR8⟩ := hc1.out hl10
            rw [hby] at hcell
            have hcell : w14.cell? ⟨g3, K - 1, none⟩ = some (.int .u8 10) := hcell
            obtain ⟨rr, hrr⟩ : ∃ rr, rr = cnt - 1 := ⟨_, rfl⟩
            have hcr : (cnt : Int) - 1 = (rr : Int) := by omega
            rw [← hrr] at hR8
            have hSl : R8.length = rr := by rw [hR8, List.length_take]; omega
            have hUt := hF13.out.U.take rr (by omega)
            rw [← hR8] at hUt
            have hUt := Lib.hid hUt
            have hrn : (0 : Int) ≤ rr := by omega
            have hrn2 : ((rr : Int) < 0) = False := by simp
            have hrl : ((RR.length : Int) < rr) = False := by simp; omega
            have hrc : (rr : Int) ≤ z4 := by omega
            have hsm := Lib.hid (fun w' (hb : Below w14.heap.size w14 w') => Same_any (hF13.out.m.step hb) (hF13.out.n.step hb) (hF13.out.T.step hb) (hUt.out.step hb) x3 x4 z2 z4)
            rw [same_self] at hsm
            have q0 := hF13.out.q0
            have q1 := hF13.out.q1
            have s0 := hF13.out.s0
            have s1 := hF13.out.s1
            clear hc1 hc2 hlq hby hR8 hUt hrr hl10 hcn1 hcn2
            rw [hSl] at hsm s1
            clear hKz hJ
            go_upto_region 14 with fail
            clear hcr
            have hsx := Lib.hid (fun q => hsm.out _ (ext_below w14 q))
            have x0 : ∀ q, (ext w14 q).cell? ⟨w.heap.size, 0, none⟩ = some (.slice z1 L8.length z2) := fun q => stepc (ext_below w14 q) (World.block_lt_of_cell? w14 _ q0) q0
            have x1 : ∀ q, (ext w14 q).cell? ⟨w.heap.size, 1, none⟩ = some (.slice z3 RR.length z4) := fun q => stepc (ext_below w14 q) (World.block_lt_of_cell? w14 _ q1) q1
            have y0 : ∀ q, (ext w14 q).cell? ⟨p12, 0, none⟩ = some (.slice b3 L8.length x3) := fun q => stepc (ext_below w14 q) (World.block_lt_of_cell? w14 _ s0) s0
            have y1 : ∀ q, (ext w14 q).cell? ⟨p12, 1, none⟩ = some (.slice b4 rr x4) := fun q => stepc (ext_below w14 q) (World.block_lt_of_cell? w14 _ s1) s1
            have hlo := Lib.hid hF13.out.low
            clear q0 q1 s0 s1 hsm hF13 hcell hJ0 hJl hw1 hwr
            generalize RR.length = nR at *
            generalize List.length L8 = nL at *
            have hd0 : decide ((rr : Int) < 0) = false := by simp
            have hd1 : decide ((nR : Int) < (rr : Int)) = false := by simpa using hrl
            (refine wp_region_ext (by kernel_rfl) (by kernel_rfl) ?_; (repeat (go_big_quiet_step ((go_at_call 22; exact Calls.ext_of (hsx.out _))))); refine wpQuiet_nil ?_; intro w2 hw'; have hb2 := below_of_ext hw'; clear hw')
            go_wp2
            go_meet
            exact Lib.hid (nextw hlo.out hb2)
          · obtain rfl := hc2.out (fun e => hby (hlq.1 e).2)
            have hcv : (((tx.getD J 0).toNat : Int) == 10) = false := by
              simp only [beq_eq_false_iff_ne, ne_eq]
              intro e
              apply hby
              apply UInt8.toNat_inj.1
              have : (10 : UInt8).toNat = 10 := rfl
              omega
            have hcv2 : ¬ ((tx.getD J 0).toNat : Int) = 10 := by simpa using hcv
            clear hc1 hc2 hlq hwr hby
            generalize (tx.getD J 0).toNat = cv at *
            go_wp2
            go_meet
            exact Lib.hid hF13.out.low
      case rest =>
        obtain ⟨wx, rfl⟩ : ∃ wx : World, wx = wc := ⟨_, rfl⟩
        have hB := hcut
        clear q0 q1
        have hBl := Lib.hid (hBi.out _ hB.out)
        have hTzx := Lib.hid (fun w3 (hb : Below wx.heap.size wx w3) => hTz.out w3 (nextw hB.out hb))
        have hBix := Lib.hid (fun w3 (hb : Below wx.heap.size wx w3) => hBi.out w3 (nextw hB.out hb))
        have hlen : l.length = k := hBl.out.1
        rcases hg : tableP l with e0 | ⟨L9, R9⟩
        · have he := tableP_err hg
          have hgt := Lib.hid (Get_err hBl.out ci (by omega) hcm (by omega) hg)
          clear hg
          go_upto_region 19 with (go_at_call 29; (with_reducible refine hgt.out.mono ?_); rintro e wy ⟨rfl, hby⟩; have hBy := Lib.hid (nextw hB.out hby); clear hby hgt)
          have hnew := tnew (W := wy) (u := .slice none 0 0) (v := .slice none 0 0) _ rfl
          generalize wy.alloc (.cells #[.slice none 0 0, .slice none 0 0] 25) = wz at *
          obtain ⟨hbn, hzn, -, t0, t1⟩ := hnew
          have hBz := Lib.hid (nextw hBy.out hbn)
          have hsm := Lib.hid (Same_any (BsR.none wz) (RRk.none wz) (BsR.none wz) (RRk.none wz) 0 0 0 0)
          rw [same_self] at hsm
          clear hbn hBy hB hBl hzn
          have hne : ((e0 : Int) = 0) = False := by rcases he with rfl | rfl <;> simp
          have hor : (((e0 : Int) == 4) || ((e0 : Int) == 5)) = true := by rcases he with rfl | rfl <;> rfl
          rcases he with rfl | rfl
          · go_wp2_with (first
              | (go_at_call 22; (with_reducible refine hsm.out.mono ?_); rintro e w8 ⟨rfl, hb8⟩; have hB8 := Lib.hid (nextw hBz.out hb8); have hwk8 := Lib.hid (wakes_any (hTz.out _ hB8.out)); clear hb8)
              | (go_at_call 24; (with_reducible refine hwk8.out.mono ?_); rintro e w9 ⟨rfl, hb9⟩; have hB9 := Lib.hid (nextw hB8.out hb9); clear hb9))
            go_ret
            exact ⟨rfl, hB9.out⟩
          · go_wp2_with (first
              | (go_at_call 22; (with_reducible refine hsm.out.mono ?_); rintro e w8 ⟨rfl, hb8⟩; have hB8 := Lib.hid (nextw hBz.out hb8); have hwk8 := Lib.hid (wakes_any (hTz.out _ hB8.out)); clear hb8)
              | (go_at_call 24; (with_reducible refine hwk8.out.mono ?_); rintro e w9 ⟨rfl, hb9⟩; have hB9 := Lib.hid (nextw hB8.out hb9); clear hb9))
            go_ret
            exact ⟨rfl, hB9.out⟩
        · have hgt := Lib.hid (Get_ok hBl.out ci (by omega) hcm (by omega) hg)
          obtain ⟨hm9, hn9, hp9⟩ := tableP_inv hg
          have hwd9 := Lib.hid (words_of_may hm9 hn9)
          have hl0 : 0 < k := by
            rw [← hlen, ← hp9]
            simp [putT, headT, lineT]
            omega
          have hm9 := Lib.hid hm9
          have hpl : Hid ((putT L9 R9).length = k) := Lib.hid (by show _ = _; rw [hp9]; exact hlen)
          have hp9 := Lib.hid hp9
          clear hg hn9
          go_upto_region 19 with (go_at_call 29; (with_reducible refine hgt.out.mono ?_); rintro e wy ⟨b1, x1, b2, x2, rfl, hd1, hd2, hu1, hu2, -, hby⟩; have hBy := Lib.hid (nextw hB.out hby); have hu1 := Lib.hid hu1; have hu2 := Lib.hid hu2; clear hby hgt)
          have hnew := tnew (W := wy) (u := .slice b1 L9.length x1) (v := .slice b2 R9.length x2) _ rfl
          generalize wy.alloc (.cells #[.slice b1 L9.length x1, .slice b2 R9.length x2] 25) = wz at *
          obtain ⟨hbn, hzn, -, t0, t1⟩ := hnew
          have hBz := Lib.hid (nextw hBy.out hbn)
          have hv1 := Lib.hid (hu1.out.step hbn)
          have hv2 := Lib.hid (hu2.out.step hbn)
          have hpt := Lib.hid (Put_yes hv1.out hv2.out x1 x2 hd1 (hTz.out _ hBz.out) hwd9.out hm9.out)
          have hmy := Lib.hid (fun w3 (hb : Below wz.heap.size wz w3) => May_any (hv1.out.step hb) (hv2.out.step hb) x1 x2 hd1)
          rw [hm9.out] at hmy
          have hBiz := Lib.hid (fun w3 (hb : Below wz.heap.size wz w3) => hBi.out w3 (nextw hBz.out hb))
          have hlz := World.block_lt_of_cell? wz _ t0
          clear hbn hBy hB hBl hzn hu1 hu2
          go_wp2_with (first
            | (go_at_call 12; (with_reducible refine hpt.out.mono ?_); rintro e w6 ⟨v6, rfl, hx6, hb6⟩; obtain ⟨g6, q6, rfl, hq6, -, hr6, -⟩ := BR.of_tx hx6 (by rw [hpl.out]; exact hl0); rw [hp9.out, hlen] at hr6; rw [hpl.out]; have s0 := stepc hb6 hlz t0; have s1 := stepc hb6 hlz t1; have hmy6 := Lib.hid (hmy.out w6 hb6); have hb6 := Lib.hid hb6; have hr6 := Lib.hid hr6; clear hx6)
            | (go_at_call 20; (with_reducible refine hmy6.out.mono ?_); rintro e w7 ⟨rfl, hb7⟩; have hb67 := Lib.hid (nextw hb6.out hb7); have heq7 := Lib.hid (equal_any (c := q6) (d := ci) (hr6.out.step hb7) (hBiz.out _ hb67.out) hl0); have hB7 := Lib.hid (nextw hBz.out hb67.out); have hwk7 := Lib.hid (wakes_any (hTz.out _ hB7.out)); clear hb7)
            | (go_at_call 18; (with_reducible refine heq7.out.mono ?_); rintro e w8 ⟨rfl, rfl⟩)
            | (go_at_call 24; (with_reducible refine hwk7.out.mono ?_); rintro e w9 ⟨rfl, hb9⟩; have hB9 := Lib.hid (nextw hB7.out hb9); clear hb9))
          go_ret
          exact ⟨rfl, hB9.out⟩
end Go.Proofs.YtnhpjacodhdpeaaDoor
