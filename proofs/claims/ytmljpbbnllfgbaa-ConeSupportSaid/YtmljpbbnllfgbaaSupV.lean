/-
  ConeSupport: the walk.
-/
import Derived.Test.YtmljpbbnllfgbaaSupS
import Derived.Carry
namespace Go.Proofs.Ytmljpbbnllfgbaa
open Go.RowKit Go.Maps Num
set_option maxRecDepth 100000

theorem there1 {G : Gr} {x : Int} (h : There G x) : AllThere G [x] := by intro y hy; simp at hy; subst hy; exact h
set_option maxHeartbeats 8000000 in
theorem ConeSupport_any {w : World} (F1 H1 : Bool) {La oa ta : Option Addr} {Ln Lc on_ oc tn tc : Nat} {SL : Nat → Int × Int × Int} {ol tl : List Int} (hL : Steps w La Ln SL) {x : Int} (hx : IsLit x) (hO : Row .u64 w oa on_ ol) (hOw : Words ol) (hT : Row .u64 w ta tn tl) (hTw : Words tl) :
    Calls Try.prog 4 #[.agg #[.bool F1, .bool H1], .slice La Ln Lc, .int .u32 x, .slice oa on_ oc, .slice ta tn tc] w fun e w' => e = .returned (.bool true) ∧ Below w.heap.size w w' := by
  have hb0 : Below w.heap.size w (w.alloc (.cells #[.bool F1, .bool H1] 23)) := bal _ _
  have hbx := Lib.hid (bld_box w (.bool F1) (.bool H1) 23)
  have hb1 := Lib.hid (Build_any F1 H1 (cap := Lc) (hL.step hb0))
  have g1 := buildG_good F1 H1 SL (min Ln 60) (by omega)
  have hGl : (buildG F1 H1 SL (min Ln 60)).nodes.length ≤ 181 := by have := g1.2.2; omega
  have hGp := g1.1.pos
  have hWG := Lib.hid g1.1
  have hGc := g1.1.cnt
  have hG0 : (((buildG F1 H1 SL (min Ln 60)).nodes.length : Int) == 0) = false := beqf (by omega)
  have hnew := Lib.hid (fun B w1 p (h : AtG (w.alloc (.cells #[.bool F1, .bool H1] 23)) B w1 p (buildG F1 H1 SL (min Ln 60))) => h.base hb0)
  generalize hG : buildG F1 H1 SL (min Ln 60) = G at *
  have hx0 := hx.1
  have hx1 := hx.2
  have htX := brV_there hWG.out (by omega) x
  have hm1 : x.tmod (2 * (G.nodes.length : Int)) = brV G.nodes.length x := Int.tmod_eq_emod_of_nonneg hx0
  have hm2 : x % (2 * (G.nodes.length : Int)) = brV G.nodes.length x := rfl
  have hz : (2 * (G.nodes.length : Int) == 0) = false := beqf (by omega)
  have hw1 : IntKind.u32.wrap (2 * (G.nodes.length : Int)) = 2 * (G.nodes.length : Int) := by rw [w32]; omega
  have hw2 : IntKind.i64.wrap (2 * (G.nodes.length : Int)) = 2 * (G.nodes.length : Int) := IntWalk.i64_in _ (by omega)
  generalize hXe : brV G.nodes.length x = X at *
  have hall := Lib.hid (there1 htX)
  have HTX := Lib.hid htX
  have hsup : Hid (∀ wk B p, AtG w B wk p G → Calls Try.prog 19 #[.pointer (some ⟨B, 0, none⟩), .slice (some ⟨wk.heap.size, 0, none⟩) 1 1] (wk.alloc (.cells #[.int .u32 X] 40)) fun e w' => ∃ a c, e = .returned (.tuple #[.slice a (supL G [X]).length c, .int .i64 0]) ∧ AtG w B w' p G ∧ Row .i64 w' a (supL G [X]).length (natI (supL G [X])) ∧ ∀ y, a = some y → y.block < w'.heap.size) := Lib.hid (fun wk B p h => by
    have h2 := h.step (bal wk (.cells #[.int .u32 X] 40))
    have := Support_any (c := 1) h2.is h2.wf (by omega) (row1 wk X 40) hall.out
    rw [h2.b] at this
    have hl := selTo_len (SupP G [X]) G.nodes.length
    exact this.mono (fun e w' ⟨a, c, he, ht⟩ => ⟨a, c, he, h2.step ht.below, ht.row (by unfold supL; omega), fun y hy => by
      subst hy
      obtain ⟨cur, hc⟩ := own_type ht.own rfl
      exact (Array.getElem?_eq_some_iff.1 hc).1⟩))
  have hrea : Hid (∀ wk B p sa, AtG w B wk p G → Row .i64 wk sa (supL G [X]).length (natI (supL G [X])) → (∀ y, sa = some y → y.block < wk.heap.size) → Calls Try.prog 18 #[.pointer (some ⟨B, 0, none⟩), .slice (some ⟨wk.heap.size, 0, none⟩) 1 1] (wk.alloc (.cells #[.int .u32 X] 40)) fun e w' => ∃ a c, e = .returned (.tuple #[.slice a (reachL G [X]).length c, .int .i64 0]) ∧ Hid (SpS w w' ((w'.alloc (.map #[] 0)).alloc (.map #[] 0)) B p G a (reachL G [X]) sa (supL G [X]) w'.heap.size (w'.heap.size + 1) 0 0 (fun _ => false) (fun _ => false))) := Lib.hid (fun wk B p sa h hs hsb => by
    have hb := bal wk (.cells #[.int .u32 X] 40)
    have h2 := h.step hb
    have := Reach_any (c := 1) h2.is h2.wf (by omega) (row1 wk X 40) hall.out
    rw [h2.b] at this
    have hl := selTo_len (ReachP G [X]) G.nodes.length
    refine this.mono (fun e w' ⟨a, c, he, ht⟩ => ⟨a, c, he, Lib.hid (spS_new (h2.step ht.below) (ht.row (by unfold reachL; omega)) ((hs.step hb).step ht.below) (fun y hy => ?_) (fun y hy => ?_))⟩)
    · subst hy
      obtain ⟨cur, hc⟩ := own_type ht.own rfl
      exact (Array.getElem?_eq_some_iff.1 hc).1
    · have := hsb y hy
      have := hb.size
      have := ht.below.size
      omega)
  clear hL hG g1 hb0 htX hXe hx
  have hmm := @run_makeMap Try.prog
  go_enter Try.func4, Try.ntmps4
  go_wp2_with (first
    | (go_at_call 7; (with_reducible refine hb1.out.mono ?_); rintro e w1 ⟨Bg, Bg2, pg, rfl, hg⟩; have hA := Lib.hid (hnew.out _ _ _ hg); have hn1 := Lib.hid (nodes_any hA.out.is.lay hA.out.wf.pos); rw [hA.out.b] at hn1; have hs1 := Lib.hid (hsup.out _ _ _ hA.out); clear hg hb1 hnew hsup)
    | (go_at_call 8; (with_reducible refine hn1.out.mono ?_); rintro e w9 ⟨rfl, rfl⟩)
    | (go_at_call 19; (with_reducible refine hs1.out.mono ?_); rintro e w2 ⟨sa, sc, rfl, hA2, hs, hsb⟩; have hr1 := Lib.hid (hrea.out _ _ _ _ hA2 hs hsb); clear hA2 hs hsb hs1 hrea)
    | (go_at_call 18; (with_reducible refine hr1.out.mono ?_); rintro e w3 ⟨ra, rc, rfl, hS⟩; clear hr1))
  obtain ⟨w3, rfl⟩ : ∃ w, w = w3 := ⟨_, rfl⟩
  clear hn1 hA hG0 hbx hm1 hm2 hz hw1 hw2
  have hRl : (reachL G [X]).length ≤ 181 := by have := selTo_len (ReachP G [X]) G.nodes.length; unfold reachL; omega
  have hSl : (supL G [X]).length ≤ 181 := by have := selTo_len (SupP G [X]) G.nodes.length; unfold supL; omega
  have hRn : Hid (∀ j, j < (reachL G [X]).length → (reachL G [X]).getD j 0 ≤ 1000000) := Lib.hid (fun j hj => by have := (reach_at hj).2; omega)
  have hSn : Hid (∀ j, j < (supL G [X]).length → (supL G [X]).getD j 0 ≤ 1000000) := Lib.hid (fun j hj => by
    have hm : (supL G [X]).getD j 0 ∈ supL G [X] := by simp [List.getD, hj]
    have := (selTo_mem.1 hm).1; omega)
  have hRs := Lib.hid (fun j (hj : j < (reachL G [X]).length) => memB_succ (reachL G [X]) j hj)
  have hSs := Lib.hid (fun j (hj : j < (supL G [X]).length) => memB_succ (supL G [X]) j hj)
  have hin := Lib.hid (fun k i (hk : G.inputs[k]? = some ((i : Nat) : Int)) => sup_input hWG.out hall.out hk)
  have hR0 : Hid ((fun _ => false) = memB ((reachL G [X]).take 0)) := Lib.hid (by funext i; simp [memB])
  have hS0 : Hid ((fun _ => false) = memB ((supL G [X]).take 0)) := Lib.hid (by funext i; simp [memB])
  have hRf : Hid ((reachL G [X]).take (reachL G [X]).length = reachL G [X]) := Lib.hid (List.take_of_length_le (Nat.le_refl _))
  have hSf : Hid ((supL G [X]).take (supL G [X]).length = supL G [X]) := Lib.hid (List.take_of_length_le (Nat.le_refl _))
  generalize hq1 : w3.heap.size = b1 at *
  have hq := Lib.hid hq1
  clear hq1
  generalize hRR : reachL G [X] = R at *
  generalize hSS : supL G [X] = S at *
  have HRR := Lib.hid hRR
  clear hRR hSS
  go_loopw [80] (fun s wr => ∃ j : Nat, j ≤ R.length ∧ s = .int .i64 j ∧ Hid (SpS w w3 wr Bg pg G ra R sa S b1 (b1 + 1) j 0 (memB (R.take j)) (fun _ => false))) (fun s _ => R.length - (intOf s).toNat)
  case atStart => exact ⟨0, Nat.zero_le _, rfl, by rw [← hR0.out]; exact hS⟩
  case round =>
    clear hS
    obtain ⟨j, hj, rfl, hS⟩ := hrel
    by_cases hlt : j < R.length
    · obtain ⟨b, off, rfl, hb, hcell⟩ := hS.out.r.at (by omega)
      have cj := hcell j hlt
      rw [natI_at] at cj
      have hv := hRn.out j hlt
      have hsu := hRs.out j hlt
      obtain ⟨D, hown, hD⟩ := hS.out.m1
      have HD := Lib.hid (hD.put hv)
      have HO := Lib.hid hown
      have hsu2 := Lib.hid hsu
      generalize R.getD j 0 = v at *
      clear hcell hown hD hsu
      go_wp2_with (at_mapUpdate; refine wpList_mapUpdate_own _ rfl _ _ _ 55 rfl 3 3 ilaw Try.underlying55 _ b1 j D rfl HO.out (by unfold maxLen; omega) _ _ (ikey v) rfl rfl (key_int hv) (.lit (.int .i64 1)) [] (plainElem_int Try.underlying3 (by decide)) ?_; intro w7 hown7 hgrow7)
      exact ⟨⟨j + 1, by omega, by go_num, Lib.hid (hS.out.put1 hgrow7 ⟨_, hown7, by rw [← hsu2.out]; exact HD.out⟩)⟩, by simp [intOf]; omega⟩
    · obtain rfl : j = R.length := by omega
      rw [hRf.out] at hS
      go_wp2
      go_loopw [89] (fun s wr => ∃ j : Nat, j ≤ S.length ∧ s = .int .i64 j ∧ Hid (SpS w w3 wr Bg pg G ra R sa S b1 (b1 + 1) R.length j (memB R) (memB (S.take j)))) (fun s _ => S.length - (intOf s).toNat)
      case atStart => exact ⟨0, Nat.zero_le _, rfl, by rw [← hS0.out]; exact hS⟩
      case round =>
        clear hS
        obtain ⟨j, hj, rfl, hS⟩ := hrel
        by_cases hlt : j < S.length
        · obtain ⟨b, off, rfl, hb, hcell⟩ := hS.out.s.at (by omega)
          have cj := hcell j hlt
          rw [natI_at] at cj
          have hv := hSn.out j hlt
          obtain ⟨D, hown, hD⟩ := hS.out.m2
          have HD := Lib.hid (hD.put hv)
          have HO := Lib.hid hown
          have hsu2 := Lib.hid (hSs.out j hlt)
          generalize S.getD j 0 = v at *
          clear hcell hown hD
          go_wp2_with (at_mapUpdate; refine wpList_mapUpdate_own _ rfl _ _ _ 55 rfl 3 3 ilaw Try.underlying55 _ (b1 + 1) j D rfl HO.out (by unfold maxLen; omega) _ _ (ikey v) rfl rfl (key_int hv) (.lit (.int .i64 1)) [] (plainElem_int Try.underlying3 (by decide)) ?_; intro w7 hown7 hgrow7)
          exact ⟨⟨j + 1, by omega, by go_num, Lib.hid (hS.out.put2 hgrow7 ⟨_, hown7, by rw [← hsu2.out]; exact HD.out⟩)⟩, by simp [intOf]; omega⟩
        · obtain rfl : j = S.length := by omega
          rw [hSf.out] at hS
          obtain ⟨w4, rfl⟩ : ∃ w, w = wr := ⟨_, rfl⟩
          obtain ⟨il, hil⟩ : ∃ il, il = G.inputs.length := ⟨_, rfl⟩
          have hil9 : il ≤ 181 := by omega
          have hil2 := Lib.hid hil
          have hio := Lib.hid (InputsOf_any hS.out.g.is hS.out.g.wf (by omega))
          rw [hS.out.g.b, ← hil] at hio
          have hfo := Lib.hid (fun w5 (hb : Below w.heap.size w w5) => filled_any (c := oc) (hO.step hb) (show il ≤ 200000 by omega))
          have hft := Lib.hid (fun w5 (hb : Below w.heap.size w w5) => filled_any (c := tc) (hT.step hb) (show il ≤ 200000 by omega))
          have hb2l := hS.out.m2.lt
          have hlo := hS.out.lo
          clear hil hO hT hSs hRs hSn hR0 hS0 hRf hSf hmm hGc
          go_wp2_with (first
            | (go_at_call 11; (with_reducible refine hio.out.mono ?_); rintro e w5 ⟨ua, uc, rfl, ho, hB⟩; have hS5 := Lib.hid (hS.out.step hB); have hu5 := Lib.hid ho; have hf5 := Lib.hid (hfo.out _ hS5.out.g.below); have hz5 := hB.size; clear ho hB hio hS hfo)
            | (go_at_call 14; (with_reducible refine hf5.out.mono ?_); rintro e w6 ⟨ga, rfl, hm⟩; have hS6 := Lib.hid (hS5.out.step hm.below); have hu6 := Lib.hid (own_below hu5.out hm.below); have hA6 := Lib.hid hm.own; have hf6 := Lib.hid (hft.out _ hS6.out.g.below); have hz6 := hm.below.size; have hga := own_lt hm.own; clear hm hf5 hS5 hu5 hft)
            | (go_at_call 14; (with_reducible refine hf6.out.mono ?_); rintro e w7 ⟨gb, rfl, hm⟩; have hS7 := Lib.hid (hS6.out.step hm.below); have hu7 := Lib.hid (own_below hu6.out hm.below); have hA7 := Lib.hid (own_below hA6.out hm.below); have hB7 := Lib.hid hm.own; have hz7 := hm.below.size; have hgb := own_ge hm.own gb rfl; clear hm hf6 hS6 hu6 hA6))
          obtain ⟨w7, rfl⟩ : ∃ w, w = w7 := ⟨_, rfl⟩
          obtain ⟨A, hAe⟩ : ∃ A, A = fillL ol := ⟨_, rfl⟩
          obtain ⟨Bf, hBe⟩ : ∃ Bf, Bf = fillL tl := ⟨_, rfl⟩
          rw [← hAe] at hA7
          rw [← hBe] at hB7
          have hAw : Hid (Words (Bits.row il A)) := Lib.hid (by rw [hAe]; exact fill_words hOw il)
          have hBw : Hid (Words (Bits.row il (mixF G R A Bf il))) := Lib.hid (fun i => by
            by_cases hi : i < il
            · rw [getD_row _ _ _ hi]
              unfold mixF
              split
              · rw [hAe]; exact hOw i
              · rw [hBe]; exact hTw i
            · rw [show (Bits.row il (mixF G R A Bf il)).getD i 0 = 0 by simp [List.getD, Bits.row, hi]]; omega)
          have hR7 : Hid (Row .u64 w7 (some ⟨ga, 0, none⟩) il (Bits.row il A)) := Lib.hid (Row.of_own hA7.out (by simp [Bits.row]) (by omega))
          have hm0 := Lib.hid (mix_zero G R A Bf il)
          have hmn := Lib.hid (fun k (h : memB R (G.inputs.getD k 0).toNat = false) => mix_no (A := A) (B := Bf) (n := il) h)
          have hmy := Lib.hid (fun k (h : memB R (G.inputs.getD k 0).toNat = true) (hk : k < il) => mix_yes (A := A) (B := Bf) h hk)
          have hin0 : ∀ k (hk : k < il), ∃ i : Nat, G.inputs[k]? = some (i : Int) ∧ G.inputs.getD k 0 = i ∧ i < G.nodes.length := fun k hk => by
            have hk' : k < G.inputs.length := by rw [← hil2.out]; exact hk
            have hg : G.inputs[k]? = some (G.inputs.getD k 0) := by simp [List.getD, hk']
            obtain ⟨m, em, m0, nd, hnd, -⟩ := hWG.out.ins k _ hg
            exact ⟨m, by rw [← em]; exact hg, em, (List.getElem?_eq_some_iff.1 hnd).1⟩
          have HIN := Lib.hid hin0
          have hgF : Hid (∀ k, k = gb → w3.heap.size ≤ k ∧ k ≠ b1 ∧ k ≠ b1 + 1) := Lib.hid (fun k hk => by have := hq.out; omega)
          have hga2 : ga ≠ gb := by omega
          have hB70 := Lib.hid hB7.out
          clear hAe hBe hin0 hA7 hOw hTw
          go_loopw [108] (fun s wr => ∃ k : Nat, k ≤ il ∧ s = .int .i64 k ∧ Hid (wr.ownsRow w6.heap.size 56 1 (.slice (some ⟨gb, 0, none⟩) il il) il ((Bits.row il (mixF G R A Bf k)).map (Value.int .u64))) ∧ Hid (Kept (fun b => b = gb) w7 wr)) (fun s _ => il - (intOf s).toNat)
          case atStart => exact ⟨0, Nat.zero_le _, rfl, by rw [← hm0.out]; exact hB7, Lib.hid (Kept.refl _ _)⟩
          case round =>
            clear hB7
            obtain ⟨k, hk, rfl, ho, hK⟩ := hrel
            have hSr := Lib.hid (hS7.out.kept hK.out hgF.out)
            by_cases hlt : k < il
            · obtain ⟨i, hki, hgi, hiN⟩ := HIN.out k hlt
              obtain ⟨ig, icc, e⟩ := own_form hu7.out (by omega)
              simp at e
              obtain ⟨rfl, rfl⟩ := e
              have hig := own_lt hu7.out
              have higt : ig ≠ gb := by
                obtain ⟨c1, h1⟩ := own_type hu7.out rfl
                obtain ⟨c2, h2⟩ := own_type ho.out rfl
                intro e
                have h3 := (Array.getElem?_eq_some_iff.1 h2).1
                obtain ⟨c4, h4⟩ : ∃ c4, w7.heap[gb]? = some (.cells c4 56 (0, 0)) := own_type hB70.out rfl
                rw [e, h4] at h1; simp at h1
              have ci : wr.cell? ⟨ig, k, none⟩ = some (.int .i64 (i : Int)) := by
                rw [(kept_cell hK.out hig higt).1, hu7.out.cellAt (j := k) (by have := hil2.out; simp; omega), List.getElem?_map, hki]; rfl
              have l1 := hSr.out.m1.look (k := i) (by omega)
              have l2 := hSr.out.m2.look (k := i) (by omega)
              rw [← hin.out k i hki] at l1
              obtain ⟨b, off, e7, hbl, hcell⟩ := hR7.out.at (by omega)
              cases e7
              have ca : wr.cell? ⟨ga, k, none⟩ = some (.int .u64 (A k)) := by
                have := (kept_cell hK.out hbl hga2 (o := 0 + k)).1.trans (hcell k hlt)
                rw [getD_row _ _ _ hlt, Nat.zero_add] at this
                exact this
              have hcl := ho.out.cellAt (j := k) (by simp [Bits.row]; exact hlt)
              have hfr := ho.out.frozenAt k
              have hst := Lib.hid (ho.out.stored k (.int .u64 (A k)))
              have hsome : (wr.cell? ⟨gb, k, none⟩).isSome = true := by rw [hcl]; simp [Bits.row, hlt]
              obtain ⟨u, hu⟩ := Option.isSome_iff_exists.1 hsome
              have hin1 := hin.out k i hki
              have hno := Lib.hid (fun h => hmn.out k h)
              have hye := Lib.hid (fun h => hmy.out k h hlt)
              rw [hgi, Int.toNat_natCast] at hno hye
              have hkl : (k : Int) < il := by omega
              have hKs := Lib.hid (hK.out.trans (F' := fun b => b = gb) (kept_set0 wr gb k (.int .u64 (A k))) (fun x hx => .inl hx))
              rw [hin1] at l1 l2
              generalize A k = y at *
              clear hcell hcl hsome hin1 hgi hki
              cases ht : memB R i with
              | true =>
                rw [ht] at l1 l2
                have hy2 := Lib.hid (hye.out ht)
                simp only [if_true] at l1 l2
                go_wp2
                refine ⟨⟨k + 1, by omega, by go_num, ?_, hKs⟩, by simp [intOf]; omega⟩
                have e := hst.out.1
                rw [← List.map_set, hy2.out] at e
                exact Lib.hid e
              | false =>
                rw [ht] at l1 l2
                have hn2 := Lib.hid (hno.out ht)
                simp at l1 l2
                go_wp2
                exact ⟨⟨k + 1, by omega, by go_num, by rw [hn2.out]; exact ho, hK⟩, by simp [intOf]; omega⟩
            · obtain rfl : k = il := by omega
              obtain ⟨w8, rfl⟩ : ∃ w, w = wr := ⟨_, rfl⟩
              have hA8 : Hid (Row .u64 w8 (some ⟨ga, 0, none⟩) k (Bits.row k A)) := Lib.hid (hR7.out.kept hK.out (fun x hx _ hh => by cases hx; exact hga2 hh))
              have hB8 : Hid (Row .u64 w8 (some ⟨gb, 0, none⟩) k (Bits.row k (mixF G R A Bf k))) := Lib.hid (Row.of_own ho.out (by simp [Bits.row]) (by omega))
              have hsame := Lib.hid (fun ws1 ws2 (v1 : Val G (Bits.row k A) ws1) (v2 : Val G (Bits.row k (mixF G R A Bf k)) ws2) => mix_same hWG.out HTX.out hil2.out v1 (by rw [HRR.out]; exact v2))
              generalize Bits.row k (mixF G R A Bf k) = bl at *
              generalize Bits.row k A = al at *
              have hwo : Hid (∀ wx a c fl, SpS w w3 wx Bg pg G ra R sa S b1 (b1 + 1) R.length S.length (memB R) (memB S) → Row .u64 wx a k fl → Words fl → Calls Try.prog 15 #[.pointer (some ⟨Bg, 0, none⟩), .slice a k c, .slice (some ⟨wx.heap.size, 0, none⟩) 1 1] (wx.alloc (.cells #[.int .u32 X] 40)) fun e w' => ∃ (ws : List Int) (g : Nat), e = .returned (.tuple #[.slice (some ⟨g, 0, none⟩) 1 1, .int .i64 0]) ∧ Hid (Row .u64 w' (some ⟨g, 0, none⟩) 1 (Bits.row 1 (wordsF [X] ws))) ∧ Hid (Val G fl ws) ∧ Below wx.heap.size wx w') := Lib.hid (fun wx a c fl h hr hw => by
                have hb := bal wx (.cells #[.int .u32 X] 40)
                have := (h.g.step hb).words (ia := a) (ic := c) (c := 1) (by rw [← hil2.out]; exact hr.step hb) hw (row1 wx X 40) hall.out (by omega)
                rw [← hil2.out] at this
                exact this.mono (fun e w' ⟨ws, g, he, h1, h2, h3⟩ => ⟨ws, g, he, h1, h2, nextw hb h3⟩))
              have hwa := Lib.hid (hwo.out w8 _ k _ hSr.out hA8.out hAw.out)
              have hnd := Lib.hid (fun w2 => node_any X HTX.out.1 w2)
              rw [← nodeN_int HTX.out.1] at hnd
              have hXr : Hid (0 < nodeN X → memB R (nodeN X) = true) := Lib.hid (fun h => by rw [← HRR.out, memB_reach hWG.out hall.out]; exact ⟨h, .lit (by simp)⟩)
              have hXN := nodeN_lt HTX.out
              have hneed0 : Hid (∀ M, M (nodeN X) = true → NeedIn G X R R.length M) := Lib.hid (fun M h => ⟨h, fun i h1 h2 _ => by omega⟩)
              have hneed1 : Hid (∀ j M, NeedIn G X R (j + 1) M → j < R.length → M (R.getD j 0) = true) := Lib.hid (fun j M h hj => by
                rw [← HRR.out] at h hj ⊢
                exact need_now hWG.out HTX.out h hj)
              have hrat : Hid (∀ j, j < R.length → 0 < R.getD j 0 ∧ R.getD j 0 < G.nodes.length ∧ Leans G [X] (R.getD j 0)) := Lib.hid (fun j hj => by
                rw [← HRR.out] at hj ⊢
                obtain ⟨⟨h1, h2⟩, h3⟩ := reach_at hj
                exact ⟨h1, h3, h2⟩)
              have hrlt : Hid (∀ i j, i < j → j < R.length → R.getD i 0 < R.getD j 0) := Lib.hid (fun i j hij hj => by
                rw [← HRR.out] at hj ⊢
                exact reach_lt hij hj)
              have hmem : Hid (∀ i, 0 < i → Leans G [X] i → memB R i = true) := Lib.hid (fun i h0 hL => by rw [← HRR.out, memB_reach hWG.out hall.out]; exact ⟨h0, hL⟩)
              obtain ⟨nX, hnX⟩ : ∃ nX, nX = nodeN X := ⟨_, rfl⟩
              rw [← hnX] at hnd hXr hXN hneed0
              have hnXh := Lib.hid hnX
              clear hnX
              clear hS7 hu7 hB70 hR7 hmn hmy HIN hin ho hK hm0 hA8
              go_upto_region 32 with (first
                | (go_at_call 15; (with_reducible refine hwa.out.mono ?_); rintro e w9 ⟨ws1, g9, rfl, hr9, hV1, hB⟩; have hS9 := Lib.hid (hSr.out.step hB); have hwb := Lib.hid (hwo.out w9 _ k _ hS9.out (hB8.out.step hB) hBw.out); clear hB hwa hSr hB8)
                | (go_at_call 15; (with_reducible refine hwb.out.mono ?_); rintro e w10 ⟨ws2, g10, rfl, hr10, hV2, hB⟩; have hS10 := Lib.hid (hS9.out.step hB); have hws := Lib.hid (words_same (c := 1) (c2 := 1) (hr9.out.step hB) (by rw [← hsame.out _ _ hV1.out hV2.out]; exact hr10.out)); clear hB hwb hS9 hr9 hr10 hV1 hV2))
              clear hsame hwo hAw hBw
              go_cut [173] (fun s173 wx => s173 = .bool false ∧ Hid (SpS w w3 wx Bg pg G ra R sa S b1 (b1 + 1) R.length S.length (memB R) (memB S)))
              case first =>
                by_cases hn0 : 0 < nX
                · have hd0 : decide (0 < (nX : Int)) = true := by simp; omega
                  have hx1 := hXr.out hn0
                  have hlk := Lib.hid (fun wy (h : SpS w w3 wy Bg pg G ra R sa S b1 (b1 + 1) R.length S.length (memB R) (memB S)) => h.m1.look (k := nX) (by omega))
                  rw [hx1] at hlk
                  go_wp2_with (first
                    | (go_at_call 16; (with_reducible refine hws.out.mono ?_); rintro e w11 ⟨rfl, hB⟩; have hS11 := Lib.hid (hS10.out.step hB); have hl1 := hlk.out _ hS11.out; simp only [if_true] at hl1; clear hB)
                    | (go_at_call 22; (with_reducible refine (hnd.out _).mono ?_); rintro e w12 ⟨rfl, rfl⟩))
                  go_meet
                  exact ⟨rfl, hS11⟩
                · have hd0 : decide (0 < (nX : Int)) = false := by simp; omega
                  go_wp2_with (first
                    | (go_at_call 16; (with_reducible refine hws.out.mono ?_); rintro e w11 ⟨rfl, hB⟩; have hS11 := Lib.hid (hS10.out.step hB); clear hB)
                    | (go_at_call 22; (with_reducible refine (hnd.out _).mono ?_); rintro e w12 ⟨rfl, rfl⟩))
                  go_meet
                  exact ⟨rfl, hS11⟩
              case rest =>
                obtain ⟨rfl, hSc⟩ := hcut
                clear hS10 hws
                have hb2c := hSc.out.m2.lt
                have hown0 := Lib.hid (World.ownsMap_made (H := Unit) wc Try.prog 3 (plainElem Try.prog 3))
                have hmm := @run_makeMap Try.prog
                have hXk : nX ≤ 1000000 := by omega
                have hput := Lib.hid (Ones.nil.put hXk)
                go_wp2_with (first
                  | (go_at_call 22; (with_reducible refine (hnd.out _).mono ?_); rintro e w12 ⟨rfl, rfl⟩)
                  | (refine wpList_insert_own _ rfl _ _ _ 55 rfl 3 3 ilaw Try.underlying55 _ wc.heap.size 0 (.map []) rfl hown0.out (by unfold maxLen; omega) _ _ (ikey nX) rfl rfl (key_int hXk) (.lit (.int .i64 1)) [] (plainElem_int Try.underlying3 (by decide)) ?_; intro w12 hown12 hgrow12; have hS12 := Lib.hid ((hSc.out.step (bal wc (.map #[] 0))).kept (kept_grown hgrow12) (fun k hk => (by cases hk; have := hq.out; have := hSc.out.lo; omega))); have hM12 : Hid (OneMap w12 wc.heap.size 1 (fun j => j == nX || false)) := Lib.hid ⟨_, hown12, hput.out⟩; clear hown12 hgrow12))
                obtain ⟨b3, hb3⟩ : ∃ b3, b3 = wc.heap.size := ⟨_, rfl⟩
                rw [← hb3] at hM12 ⊢
                have hb3l : b1 + 1 < b3 := by omega
                have hb3w : w3.heap.size ≤ b3 := by have := hq.out; omega
                have hgF3 : Hid (∀ k, some b3 = some k → w3.heap.size ≤ k ∧ k ≠ b1 ∧ k ≠ b1 + 1) := Lib.hid (fun k hk => by cases hk; omega)
                have hN0 := Lib.hid (hneed0.out (fun j => j == nX || false) (by simp))
                clear hSc hput hown0 hmm hneed0 hb3 hXr hnd hXN hb2l hlo
                go_loopw [34] (fun s wr => ∃ (j : Nat) (z : Int) (M : Nat → Bool) (n3 : Nat), j ≤ R.length ∧ s = .int .i64 z ∧ z = (j : Int) - 1 ∧ Hid (SpS w w3 wr Bg pg G ra R sa S b1 (b1 + 1) R.length S.length (memB R) (memB S)) ∧ Hid (OneMap wr b3 n3 M) ∧ n3 ≤ 1 + 2 * (R.length - j) ∧ Hid (NeedIn G X R j M)) (fun s _ => (intOf s + 1).toNat)
                case atStart => exact ⟨R.length, _, _, 1, Nat.le_refl _, rfl, by first | rfl | go_num, hS12, hM12, by omega, hN0⟩
                case round =>
                  clear hS12 hM12 hN0
                  obtain ⟨j, z, M, n3, hj, rfl, hz, hSr, hM, hn3, hNd⟩ := hrel
                  by_cases hj0 : 0 < j
                  · obtain ⟨i, rfl⟩ : ∃ i, j = i + 1 := ⟨j - 1, by omega⟩
                    have hzi : z = (i : Int) := by omega
                    clear hz
                    subst hzi
                    have hiR : i < R.length := by omega
                    obtain ⟨hv0, hvN, hvL⟩ := hrat.out i hiR
                    have hMv := hneed1.out i M hNd.out hiR
                    obtain ⟨b, off, rfl, hb, hcell⟩ := hSr.out.r.at (by omega)
                    have ci := hcell i hiR
                    rw [natI_at] at ci
                    have hpr : Hid (0 < i → R.getD (i - 1) 0 < R.getD i 0) := Lib.hid (fun h => hrlt.out (i - 1) i (by omega) hiR)
                    have cp : Hid (0 < i → wr.cell? ⟨b, off + (i - 1), none⟩ = some (.int .i64 ((R.getD (i - 1) 0 : Nat) : Int))) := Lib.hid (fun h => by
                      have := hcell (i - 1) (by omega)
                      rw [natI_at] at this; exact this)
                    have lk := hM.out.look (k := R.getD i 0) (by omega)
                    rw [hMv, if_pos rfl] at lk
                    have hga1 := Lib.hid (Gate_any hSr.out.g.is hSr.out.g.wf (by omega) hvN)
                    rw [hSr.out.g.b] at hga1
                    have hgl : Hid ((nodeAt G (R.getD i 0)).gate = true → IsLit (nodeAt G (R.getD i 0)).a ∧ IsLit (nodeAt G (R.getD i 0)).b ∧ Leans G [X] (nodeN (nodeAt G (R.getD i 0)).a) ∧ Leans G [X] (nodeN (nodeAt G (R.getD i 0)).b)) := Lib.hid (fun h => by
                      obtain ⟨t1, t2, -, -, -⟩ := gate_lits hWG.out h
                      exact ⟨t1.1, t2.1, .a hvL h, .b hvL h⟩)
                    have hnext : Hid (∀ M', (∀ q, M q = true → M' q = true) → ((nodeAt G (R.getD i 0)).gate = true → M' (nodeN (nodeAt G (R.getD i 0)).a) = true ∧ M' (nodeN (nodeAt G (R.getD i 0)).b) = true) → NeedIn G X R i M') := Lib.hid (fun M' h1 h2 => ⟨h1 _ hNd.out.1, fun q hq1 hq2 hg => by
                      by_cases e : q = i
                      · subst e; exact h2 hg
                      · obtain ⟨h3, h4⟩ := hNd.out.2 q (by omega) hq2 hg
                        exact ⟨h1 _ h3, h1 _ h4⟩⟩)
                    have hvz : ((R.getD i 0 : Nat) : Int) ≠ 0 := by omega
                    have hvz2 := beqf hvz
                    generalize (nodeAt G (R.getD i 0)).gate = gt at *
                    generalize (nodeAt G (R.getD i 0)).a = na at *
                    generalize (nodeAt G (R.getD i 0)).b = nb at *
                    generalize R.getD i 0 = v at *
                    generalize R.getD (i - 1) 0 = v' at *
                    have hil0 : (i : Int) < R.length := by omega
                    clear hcell hvL
                    cases gt with
                    | false =>
                      have hnx := Lib.hid (hnext.out M (fun _ h => h) (fun h => by cases h))
                      by_cases hi0 : 0 < i
                      · have cp' := cp.out hi0
                        have hpr' := hpr.out hi0
                        have hd1 : decide (0 < (i : Int)) = true := by simp; omega
                        have hd2 : decide ((v : Int) ≤ v') = false := by simp; omega
                        have hpi : ∃ i' : Nat, i = i' + 1 := ⟨i - 1, by omega⟩
                        obtain ⟨i', rfl⟩ := hpi
                        rw [show i' + 1 - 1 = i' by omega] at cp'
                        have hi'R : (i' : Int) < R.length := by omega
                        have hwi : ((i' + 1 : Nat) : Int) - 1 = i' := by omega
                        go_wp2_with (go_at_call 17; (with_reducible refine hga1.out.mono ?_); rintro e w13 ⟨rfl, hB⟩; have hS13 := Lib.hid (hSr.out.step hB); have hM13 := Lib.hid (hM.out.step hB); clear hB)
                        exact ⟨⟨_, _, M, n3, by omega, rfl, by first | rfl | omega | go_num | (push_cast; omega), hS13, hM13, by omega, hnx⟩, by first | (simp [intOf]; done) | (simp [intOf]; omega)⟩
                      · have hd1 : decide (0 < (i : Int)) = false := by simp; omega
                        go_wp2_with (go_at_call 17; (with_reducible refine hga1.out.mono ?_); rintro e w13 ⟨rfl, hB⟩; have hS13 := Lib.hid (hSr.out.step hB); have hM13 := Lib.hid (hM.out.step hB); clear hB)
                        exact ⟨⟨_, _, M, n3, by omega, rfl, by first | rfl | omega | go_num | (push_cast; omega), hS13, hM13, by omega, hnx⟩, by first | (simp [intOf]; done) | (simp [intOf]; omega)⟩
                    | true =>
                      obtain ⟨la, lb, hLa, hLb⟩ := hgl.out rfl
                      have hnda := Lib.hid (fun w2 => node_any na la w2)
                      have hndb := Lib.hid (fun w2 => node_any nb lb w2)
                      rw [← nodeN_int la] at hnda
                      rw [← nodeN_int lb] at hndb
                      have hma := Lib.hid (fun h => hmem.out (nodeN na) h hLa)
                      have hmb := Lib.hid (fun h => hmem.out (nodeN nb) h hLb)
                      have hNa := hLa.lt hWG.out hall.out
                      have hNb := hLb.lt hWG.out hall.out
                      have hnx := Lib.hid (fun M' h1 h2 => hnext.out M' h1 (fun _ => h2))
                      generalize nodeN na = ma at *
                      generalize nodeN nb = mb at *
                      clear hLa hLb hgl hnext
                      by_cases hi0 : 0 < i
                      · have cp' := cp.out hi0
                        have hpr' := hpr.out hi0
                        have hd1 : decide (0 < (i : Int)) = true := by simp; omega
                        have hd2 : decide ((v : Int) ≤ v') = false := by simp; omega
                        have hpi : ∃ i' : Nat, i = i' + 1 := ⟨i - 1, by omega⟩
                        obtain ⟨i', rfl⟩ := hpi
                        rw [show i' + 1 - 1 = i' by omega] at cp'
                        have hi'R : (i' : Int) < R.length := by omega
                        have hwi : ((i' + 1 : Nat) : Int) - 1 = i' := by omega
                        go_wp2_with (first
                          | (go_at_call 17; (with_reducible refine hga1.out.mono ?_); rintro e w13 ⟨rfl, hB⟩; have hS13 := Lib.hid (hSr.out.step hB); have hM13 := Lib.hid (hM.out.step hB); clear hB)
                          | (go_at_call 22; (with_reducible refine (hnda.out _).mono ?_); rintro e w14 ⟨rfl, rfl⟩)
                          | (go_at_call 22; (with_reducible refine (hndb.out _).mono ?_); rintro e w14 ⟨rfl, rfl⟩))
                        clear lk hga1 hnda hndb hSr hM ci
                        have ix0 : ∀ W : World, (Instr.index 57 (.agg #[.int .i64 (ma : Int), .int .i64 (mb : Int)]) (.int .i64 0)).run Try.prog W = .ok (.int .i64 (ma : Int)) W := fun W => by kernel_rfl
                        have ix1 : ∀ W : World, (Instr.index 57 (.agg #[.int .i64 (ma : Int), .int .i64 (mb : Int)]) (.int .i64 1)).run Try.prog W = .ok (.int .i64 (mb : Int)) W := fun W => by kernel_rfl
                        go_loopw [223] (fun s wq => ∃ (t : Nat) (M' : Nat → Bool) (n' : Nat), t ≤ 2 ∧ s = .int .i64 t ∧ Hid (SpS w w3 wq Bg pg G (some ⟨b, off, none⟩) R sa S b1 (b1 + 1) R.length S.length (memB R) (memB S)) ∧ Hid (OneMap wq b3 n' M') ∧ n' ≤ n3 + t ∧ Hid ((∀ y, M y = true → M' y = true) ∧ (1 ≤ t → M' ma = true) ∧ (2 ≤ t → M' mb = true))) (fun s _ => 2 - (intOf s).toNat)
                        case atStart => exact ⟨0, M, n3, by omega, rfl, hS13, hM13, by omega, Lib.hid ⟨fun _ h => h, fun h => by omega, fun h => by omega⟩⟩
                        case round =>
                          clear hS13 hM13
                          obtain ⟨t, M', n', ht, rfl, hSq, hMq, hnq, hgq⟩ := hrel
                          rcases (show t = 0 ∨ t = 1 ∨ t = 2 by omega) with rfl | rfl | rfl
                          · by_cases hp : 0 < ma
                            · have hrm := hma.out hp
                              have hdp : decide (0 < (ma : Int)) = true := by simp; omega
                              have hkm : ma ≤ 1000000 := by omega
                              obtain ⟨D, hown, hD⟩ := hMq.out
                              have HD := Lib.hid (hD.put hkm)
                              have HO := Lib.hid hown
                              clear hown hD
                              have hlk := Lib.hid (fun wy (h : SpS w w3 wy Bg pg G (some ⟨b, off, none⟩) R sa S b1 (b1 + 1) R.length S.length (memB R) (memB S)) => h.m1.look (k := ma) hkm)
                              go_wp2_with (at_mapUpdate; refine wpList_mapUpdate_own _ rfl _ _ _ 55 rfl 3 3 ilaw Try.underlying55 _ b3 n' D rfl HO.out (by unfold maxLen; omega) _ _ (ikey ma) rfl rfl (key_int hkm) (.lit (.int .i64 1)) [] (plainElem_int Try.underlying3 (by decide)) ?_; intro w7 hown7 hgrow7; have hSn := Lib.hid (hSq.out.kept (kept_grown hgrow7) hgF3.out); have hl1 := hlk.out _ hSn.out; (first | (rw [hrm, if_pos rfl] at hl1) | skip); have hMn : Hid (OneMap w7 b3 (n' + 1) (fun y => y == ma || M' y)) := Lib.hid ⟨_, hown7, HD.out⟩; clear hown7 hgrow7)
                              exact ⟨⟨1, _, n' + 1, by omega, by first | rfl | go_num, hSn, hMn, by omega, Lib.hid ⟨fun y hy => by simp [hgq.out.1 y hy], fun h => by first | (simp; done) | (simp [hgq.out.2.1 (by omega)]; done), fun h => by first | (simp; done) | omega⟩⟩, by first | (simp [intOf]; done) | (simp [intOf]; omega)⟩
                            · have hdp : decide (0 < (ma : Int)) = false := by simp; omega
                              have hrm : (0 : Nat) = 0 := rfl
                              have hkm : ma ≤ 1000000 := by omega
                              obtain ⟨D, hown, hD⟩ := hMq.out
                              have HD := Lib.hid (hD.put hkm)
                              have HO := Lib.hid hown
                              clear hown hD
                              have hlk := Lib.hid (fun wy (h : SpS w w3 wy Bg pg G (some ⟨b, off, none⟩) R sa S b1 (b1 + 1) R.length S.length (memB R) (memB S)) => h.m1.look (k := ma) hkm)
                              go_wp2_with (at_mapUpdate; refine wpList_mapUpdate_own _ rfl _ _ _ 55 rfl 3 3 ilaw Try.underlying55 _ b3 n' D rfl HO.out (by unfold maxLen; omega) _ _ (ikey ma) rfl rfl (key_int hkm) (.lit (.int .i64 1)) [] (plainElem_int Try.underlying3 (by decide)) ?_; intro w7 hown7 hgrow7; have hSn := Lib.hid (hSq.out.kept (kept_grown hgrow7) hgF3.out); have hl1 := hlk.out _ hSn.out; (first | (rw [hrm, if_pos rfl] at hl1) | skip); have hMn : Hid (OneMap w7 b3 (n' + 1) (fun y => y == ma || M' y)) := Lib.hid ⟨_, hown7, HD.out⟩; clear hown7 hgrow7)
                              exact ⟨⟨1, _, n' + 1, by omega, by first | rfl | go_num, hSn, hMn, by omega, Lib.hid ⟨fun y hy => by simp [hgq.out.1 y hy], fun h => by first | (simp; done) | (simp [hgq.out.2.1 (by omega)]; done), fun h => by first | (simp; done) | omega⟩⟩, by first | (simp [intOf]; done) | (simp [intOf]; omega)⟩
                          · by_cases hp : 0 < mb
                            · have hrm := hmb.out hp
                              have hdp : decide (0 < (mb : Int)) = true := by simp; omega
                              have hkm : mb ≤ 1000000 := by omega
                              obtain ⟨D, hown, hD⟩ := hMq.out
                              have HD := Lib.hid (hD.put hkm)
                              have HO := Lib.hid hown
                              clear hown hD
                              have hlk := Lib.hid (fun wy (h : SpS w w3 wy Bg pg G (some ⟨b, off, none⟩) R sa S b1 (b1 + 1) R.length S.length (memB R) (memB S)) => h.m1.look (k := mb) hkm)
                              go_wp2_with (at_mapUpdate; refine wpList_mapUpdate_own _ rfl _ _ _ 55 rfl 3 3 ilaw Try.underlying55 _ b3 n' D rfl HO.out (by unfold maxLen; omega) _ _ (ikey mb) rfl rfl (key_int hkm) (.lit (.int .i64 1)) [] (plainElem_int Try.underlying3 (by decide)) ?_; intro w7 hown7 hgrow7; have hSn := Lib.hid (hSq.out.kept (kept_grown hgrow7) hgF3.out); have hl1 := hlk.out _ hSn.out; (first | (rw [hrm, if_pos rfl] at hl1) | skip); have hMn : Hid (OneMap w7 b3 (n' + 1) (fun y => y == mb || M' y)) := Lib.hid ⟨_, hown7, HD.out⟩; clear hown7 hgrow7)
                              exact ⟨⟨2, _, n' + 1, by omega, by first | rfl | go_num, hSn, hMn, by omega, Lib.hid ⟨fun y hy => by simp [hgq.out.1 y hy], fun h => by first | (simp; done) | (simp [hgq.out.2.1 (by omega)]; done), fun h => by first | (simp; done) | omega⟩⟩, by first | (simp [intOf]; done) | (simp [intOf]; omega)⟩
                            · have hdp : decide (0 < (mb : Int)) = false := by simp; omega
                              have hrm : (0 : Nat) = 0 := rfl
                              have hkm : mb ≤ 1000000 := by omega
                              obtain ⟨D, hown, hD⟩ := hMq.out
                              have HD := Lib.hid (hD.put hkm)
                              have HO := Lib.hid hown
                              clear hown hD
                              have hlk := Lib.hid (fun wy (h : SpS w w3 wy Bg pg G (some ⟨b, off, none⟩) R sa S b1 (b1 + 1) R.length S.length (memB R) (memB S)) => h.m1.look (k := mb) hkm)
                              go_wp2_with (at_mapUpdate; refine wpList_mapUpdate_own _ rfl _ _ _ 55 rfl 3 3 ilaw Try.underlying55 _ b3 n' D rfl HO.out (by unfold maxLen; omega) _ _ (ikey mb) rfl rfl (key_int hkm) (.lit (.int .i64 1)) [] (plainElem_int Try.underlying3 (by decide)) ?_; intro w7 hown7 hgrow7; have hSn := Lib.hid (hSq.out.kept (kept_grown hgrow7) hgF3.out); have hl1 := hlk.out _ hSn.out; (first | (rw [hrm, if_pos rfl] at hl1) | skip); have hMn : Hid (OneMap w7 b3 (n' + 1) (fun y => y == mb || M' y)) := Lib.hid ⟨_, hown7, HD.out⟩; clear hown7 hgrow7)
                              exact ⟨⟨2, _, n' + 1, by omega, by first | rfl | go_num, hSn, hMn, by omega, Lib.hid ⟨fun y hy => by simp [hgq.out.1 y hy], fun h => by first | (simp; done) | (simp [hgq.out.2.1 (by omega)]; done), fun h => by first | (simp; done) | omega⟩⟩, by first | (simp [intOf]; done) | (simp [intOf]; omega)⟩
                          · have hnx2 := Lib.hid (hnx.out M' hgq.out.1 ⟨hgq.out.2.1 (by omega), hgq.out.2.2 (by omega)⟩)
                            go_wp2
                            exact ⟨⟨_, _, M', n', by omega, rfl, by first | rfl | omega | go_num | (push_cast; omega), hSq, hMq, by omega, hnx2⟩, by first | (simp [intOf]; done) | (simp [intOf]; omega)⟩
                      · have hd1 : decide (0 < (i : Int)) = false := by simp; omega
                        go_wp2_with (first
                          | (go_at_call 17; (with_reducible refine hga1.out.mono ?_); rintro e w13 ⟨rfl, hB⟩; have hS13 := Lib.hid (hSr.out.step hB); have hM13 := Lib.hid (hM.out.step hB); clear hB)
                          | (go_at_call 22; (with_reducible refine (hnda.out _).mono ?_); rintro e w14 ⟨rfl, rfl⟩)
                          | (go_at_call 22; (with_reducible refine (hndb.out _).mono ?_); rintro e w14 ⟨rfl, rfl⟩))
                        clear lk hga1 hnda hndb hSr hM ci
                        have ix0 : ∀ W : World, (Instr.index 57 (.agg #[.int .i64 (ma : Int), .int .i64 (mb : Int)]) (.int .i64 0)).run Try.prog W = .ok (.int .i64 (ma : Int)) W := fun W => by kernel_rfl
                        have ix1 : ∀ W : World, (Instr.index 57 (.agg #[.int .i64 (ma : Int), .int .i64 (mb : Int)]) (.int .i64 1)).run Try.prog W = .ok (.int .i64 (mb : Int)) W := fun W => by kernel_rfl
                        go_loopw [223] (fun s wq => ∃ (t : Nat) (M' : Nat → Bool) (n' : Nat), t ≤ 2 ∧ s = .int .i64 t ∧ Hid (SpS w w3 wq Bg pg G (some ⟨b, off, none⟩) R sa S b1 (b1 + 1) R.length S.length (memB R) (memB S)) ∧ Hid (OneMap wq b3 n' M') ∧ n' ≤ n3 + t ∧ Hid ((∀ y, M y = true → M' y = true) ∧ (1 ≤ t → M' ma = true) ∧ (2 ≤ t → M' mb = true))) (fun s _ => 2 - (intOf s).toNat)
                        case atStart => exact ⟨0, M, n3, by omega, rfl, hS13, hM13, by omega, Lib.hid ⟨fun _ h => h, fun h => by omega, fun h => by omega⟩⟩
                        case round =>
                          clear hS13 hM13
                          obtain ⟨t, M', n', ht, rfl, hSq, hMq, hnq, hgq⟩ := hrel
                          rcases (show t = 0 ∨ t = 1 ∨ t = 2 by omega) with rfl | rfl | rfl
                          · by_cases hp : 0 < ma
                            · have hrm := hma.out hp
                              have hdp : decide (0 < (ma : Int)) = true := by simp; omega
                              have hkm : ma ≤ 1000000 := by omega
                              obtain ⟨D, hown, hD⟩ := hMq.out
                              have HD := Lib.hid (hD.put hkm)
                              have HO := Lib.hid hown
                              clear hown hD
                              have hlk := Lib.hid (fun wy (h : SpS w w3 wy Bg pg G (some ⟨b, off, none⟩) R sa S b1 (b1 + 1) R.length S.length (memB R) (memB S)) => h.m1.look (k := ma) hkm)
                              go_wp2_with (at_mapUpdate; refine wpList_mapUpdate_own _ rfl _ _ _ 55 rfl 3 3 ilaw Try.underlying55 _ b3 n' D rfl HO.out (by unfold maxLen; omega) _ _ (ikey ma) rfl rfl (key_int hkm) (.lit (.int .i64 1)) [] (plainElem_int Try.underlying3 (by decide)) ?_; intro w7 hown7 hgrow7; have hSn := Lib.hid (hSq.out.kept (kept_grown hgrow7) hgF3.out); have hl1 := hlk.out _ hSn.out; (first | (rw [hrm, if_pos rfl] at hl1) | skip); have hMn : Hid (OneMap w7 b3 (n' + 1) (fun y => y == ma || M' y)) := Lib.hid ⟨_, hown7, HD.out⟩; clear hown7 hgrow7)
                              exact ⟨⟨1, _, n' + 1, by omega, by first | rfl | go_num, hSn, hMn, by omega, Lib.hid ⟨fun y hy => by simp [hgq.out.1 y hy], fun h => by first | (simp; done) | (simp [hgq.out.2.1 (by omega)]; done), fun h => by first | (simp; done) | omega⟩⟩, by first | (simp [intOf]; done) | (simp [intOf]; omega)⟩
                            · have hdp : decide (0 < (ma : Int)) = false := by simp; omega
                              have hrm : (0 : Nat) = 0 := rfl
                              have hkm : ma ≤ 1000000 := by omega
                              obtain ⟨D, hown, hD⟩ := hMq.out
                              have HD := Lib.hid (hD.put hkm)
                              have HO := Lib.hid hown
                              clear hown hD
                              have hlk := Lib.hid (fun wy (h : SpS w w3 wy Bg pg G (some ⟨b, off, none⟩) R sa S b1 (b1 + 1) R.length S.length (memB R) (memB S)) => h.m1.look (k := ma) hkm)
                              go_wp2_with (at_mapUpdate; refine wpList_mapUpdate_own _ rfl _ _ _ 55 rfl 3 3 ilaw Try.underlying55 _ b3 n' D rfl HO.out (by unfold maxLen; omega) _ _ (ikey ma) rfl rfl (key_int hkm) (.lit (.int .i64 1)) [] (plainElem_int Try.underlying3 (by decide)) ?_; intro w7 hown7 hgrow7; have hSn := Lib.hid (hSq.out.kept (kept_grown hgrow7) hgF3.out); have hl1 := hlk.out _ hSn.out; (first | (rw [hrm, if_pos rfl] at hl1) | skip); have hMn : Hid (OneMap w7 b3 (n' + 1) (fun y => y == ma || M' y)) := Lib.hid ⟨_, hown7, HD.out⟩; clear hown7 hgrow7)
                              exact ⟨⟨1, _, n' + 1, by omega, by first | rfl | go_num, hSn, hMn, by omega, Lib.hid ⟨fun y hy => by simp [hgq.out.1 y hy], fun h => by first | (simp; done) | (simp [hgq.out.2.1 (by omega)]; done), fun h => by first | (simp; done) | omega⟩⟩, by first | (simp [intOf]; done) | (simp [intOf]; omega)⟩
                          · by_cases hp : 0 < mb
                            · have hrm := hmb.out hp
                              have hdp : decide (0 < (mb : Int)) = true := by simp; omega
                              have hkm : mb ≤ 1000000 := by omega
                              obtain ⟨D, hown, hD⟩ := hMq.out
                              have HD := Lib.hid (hD.put hkm)
                              have HO := Lib.hid hown
                              clear hown hD
                              have hlk := Lib.hid (fun wy (h : SpS w w3 wy Bg pg G (some ⟨b, off, none⟩) R sa S b1 (b1 + 1) R.length S.length (memB R) (memB S)) => h.m1.look (k := mb) hkm)
                              go_wp2_with (at_mapUpdate; refine wpList_mapUpdate_own _ rfl _ _ _ 55 rfl 3 3 ilaw Try.underlying55 _ b3 n' D rfl HO.out (by unfold maxLen; omega) _ _ (ikey mb) rfl rfl (key_int hkm) (.lit (.int .i64 1)) [] (plainElem_int Try.underlying3 (by decide)) ?_; intro w7 hown7 hgrow7; have hSn := Lib.hid (hSq.out.kept (kept_grown hgrow7) hgF3.out); have hl1 := hlk.out _ hSn.out; (first | (rw [hrm, if_pos rfl] at hl1) | skip); have hMn : Hid (OneMap w7 b3 (n' + 1) (fun y => y == mb || M' y)) := Lib.hid ⟨_, hown7, HD.out⟩; clear hown7 hgrow7)
                              exact ⟨⟨2, _, n' + 1, by omega, by first | rfl | go_num, hSn, hMn, by omega, Lib.hid ⟨fun y hy => by simp [hgq.out.1 y hy], fun h => by first | (simp; done) | (simp [hgq.out.2.1 (by omega)]; done), fun h => by first | (simp; done) | omega⟩⟩, by first | (simp [intOf]; done) | (simp [intOf]; omega)⟩
                            · have hdp : decide (0 < (mb : Int)) = false := by simp; omega
                              have hrm : (0 : Nat) = 0 := rfl
                              have hkm : mb ≤ 1000000 := by omega
                              obtain ⟨D, hown, hD⟩ := hMq.out
                              have HD := Lib.hid (hD.put hkm)
                              have HO := Lib.hid hown
                              clear hown hD
                              have hlk := Lib.hid (fun wy (h : SpS w w3 wy Bg pg G (some ⟨b, off, none⟩) R sa S b1 (b1 + 1) R.length S.length (memB R) (memB S)) => h.m1.look (k := mb) hkm)
                              go_wp2_with (at_mapUpdate; refine wpList_mapUpdate_own _ rfl _ _ _ 55 rfl 3 3 ilaw Try.underlying55 _ b3 n' D rfl HO.out (by unfold maxLen; omega) _ _ (ikey mb) rfl rfl (key_int hkm) (.lit (.int .i64 1)) [] (plainElem_int Try.underlying3 (by decide)) ?_; intro w7 hown7 hgrow7; have hSn := Lib.hid (hSq.out.kept (kept_grown hgrow7) hgF3.out); have hl1 := hlk.out _ hSn.out; (first | (rw [hrm, if_pos rfl] at hl1) | skip); have hMn : Hid (OneMap w7 b3 (n' + 1) (fun y => y == mb || M' y)) := Lib.hid ⟨_, hown7, HD.out⟩; clear hown7 hgrow7)
                              exact ⟨⟨2, _, n' + 1, by omega, by first | rfl | go_num, hSn, hMn, by omega, Lib.hid ⟨fun y hy => by simp [hgq.out.1 y hy], fun h => by first | (simp; done) | (simp [hgq.out.2.1 (by omega)]; done), fun h => by first | (simp; done) | omega⟩⟩, by first | (simp [intOf]; done) | (simp [intOf]; omega)⟩
                          · have hnx2 := Lib.hid (hnx.out M' hgq.out.1 ⟨hgq.out.2.1 (by omega), hgq.out.2.2 (by omega)⟩)
                            go_wp2
                            exact ⟨⟨_, _, M', n', by omega, rfl, by first | rfl | omega | go_num | (push_cast; omega), hSq, hMq, by omega, hnx2⟩, by first | (simp [intOf]; done) | (simp [intOf]; omega)⟩
                  · obtain rfl : j = 0 := by omega
                    have hz1 : z = -1 := by omega
                    clear hz
                    subst hz1
                    have hte := Lib.hid (fun w2 => tells_any w2)
                    have hgB := Lib.hid hSr.out.g.below
                    go_wp2_with (go_at_call 21; (with_reducible refine (hte.out _).mono ?_); rintro e w15 ⟨rfl, hB⟩; have hB := Lib.hid hB)
                    go_ret
                    exact ⟨rfl, nextw hgB.out hB.out⟩
end Go.Proofs.Ytmljpbbnllfgbaa
