/-
  The document's own answers (orreryref07): Round.
-/
import Derived.Test.YtocfchgkfaogdaaRvL
namespace Go.Proofs.Ytocfchgkfaogdaa
open Go.RowKit Go.Maps
set_option maxRecDepth 100000

theorem lf_fl {N : List (List Int)} {n : Nat} {R : List Bool} (h : Fl n (told N) R) (hl : N.length = n) {k : Nat} (hk : k < n) : lf N k = !(R.getD k false) := by
  rw [h.of hk]
  unfold lf
  rw [hl]
  simp [hk]
theorem lst_snoc_no {N : List (List Int)} {l : List Int} {k : Nat} (h : lf N k = false) : lst N (l ++ [(k : Int)]) = lst N l := by
  unfold lst
  congr 1
  funext i
  by_cases hi : lf N i = true
  · have hik : i ≠ k := by rintro rfl; rw [h] at hi; cases hi
    have : ¬ (i : Int) = (k : Int) := by omega
    simp [this]
  · simp [hi]
theorem lst_snoc_some {N : List (List Int)} {l : List Int} {k y : Nat} (h : lf N k = true) (hy : lst N l = some y) : lst N (l ++ [(k : Int)]) = some (if k < y then k else y) := by
  rw [lst_some] at hy ⊢
  obtain ⟨h1, h2, h3⟩ := hy
  by_cases hk : k < y
  · rw [if_pos hk]
    refine ⟨h, by simp, fun j hj hl hm => ?_⟩
    rcases List.mem_append.1 hm with hm | hm
    · exact h3 j (by omega) hl hm
    · simp at hm; omega
  · rw [if_neg hk]
    refine ⟨h1, List.mem_append_left _ h2, fun j hj hl hm => ?_⟩
    rcases List.mem_append.1 hm with hm | hm
    · exact h3 j hj hl hm
    · simp at hm; omega
theorem lst_snoc_none {N : List (List Int)} {l : List Int} {k : Nat} (h : lf N k = true) (hy : lst N l = none) : lst N (l ++ [(k : Int)]) = some k := by
  rw [lst_none] at hy
  rw [lst_some]
  refine ⟨h, by simp, fun j hj hl hm => ?_⟩
  rcases List.mem_append.1 hm with hm | hm
  · exact hy j hl hm
  · simp at hm; omega
theorem lst_range {N : List (List Int)} {y : Nat} (hy : lf N y = true) (h : ∀ j, j < y → lf N j = false) : lst N (iz (List.range N.length)) = some y := by
  rw [lst_some]
  refine ⟨hy, List.mem_map.2 ⟨y, by simpa using (lf_iff.1 hy).1, rfl⟩, fun j hj hl _ => ?_⟩
  rw [h j hj] at hl; cases hl
theorem rnd_range {N : List (List Int)} (h : ∀ j, j < N.length → lf N j = false) : rndL N = [] := by
  have e : lst N (iz (List.range N.length)) = none := by
    rw [lst_none]
    intro j hl
    rw [h j (lf_iff.1 hl).1] at hl; cases hl
  unfold rndL
  rw [e]; rfl
theorem wi_start {N : List (List Int)} {y : Nat} (h : lst N (iz (List.range N.length)) = some y) : WI N [] (iz (List.range N.length)) :=
  ⟨List.nodup_nil, fun x h => by simp at h, rfl, by rw [h]; rfl, fun z hz => by obtain ⟨k, hk, rfl⟩ := List.mem_map.1 hz; exact ⟨k, rfl, by simpa using hk⟩⟩

set_option maxHeartbeats 16000000 in
theorem rRound_any {w : World} {a : Option Addr} {n : Nat} {N : List (List Int)} (h : RR w a n N) (hn : n ≤ 1000) (hr : ∀ i, (N.getD i []).length ≤ 1000) (c : Nat) :
    Calls Try.prog 15 #[.slice a n c] w fun e w' => ∃ (va : Option Addr) (ca : Nat), e = .returned (.tuple #[.slice va (rndN N).length ca, .bool (decide (0 < (rndN N).length))]) ∧ Row .i64 w' va (rndN N).length (iz (rndN N)) ∧ Below w.heap.size w w' := by
  have hmay := Lib.hid (rMay_any h c)
  have hl := h.len
  rcases (show mayN N = true ∨ mayN N = false by cases mayN N <;> simp) with hm | hm
  · have hR : rndN N = rndL N := by simp [rndN, hm]
    rw [hR]
    rw [hm] at hmay
    have ht := Lib.hid (rtold_any h hn hr hm c)
    have H := Lib.hid h
    have HM := Lib.hid hm
    have HR := Lib.hid hr
    obtain ⟨i0, hi, hz0, hz1, hz2⟩ := info_parts info_int
    clear h hm hr hR
    go_enter Try.func15, Try.ntmps15
    go_wp2_with (first
      | (go_at_call 24; (with_reducible refine hmay.out.mono ?_); rintro e w5 ⟨rfl, hw5⟩; obtain rfl : w = w5 := hw5.symm)
      | (go_at_call 32; (with_reducible refine ht.out.mono ?_); rintro e w6 ⟨va, ca, R, rfl, hRM, hF⟩; have hRM := Lib.hid hRM; have hF := Lib.hid hF))
    have HL := Lib.hid hl
    go_loopw [6, 7] (fun s t wr => wr = w6 ∧ ∃ (x z : Int) (q : Nat), s = .int .i64 x ∧ t = .int .i64 z ∧ z = (q : Int) - 1 ∧ q ≤ n ∧ ((x = -1 ∧ Hid (∀ j, q ≤ j → j < n → lf N j = false)) ∨ ∃ y : Nat, x = (y : Int) ∧ y < n ∧ Hid (lf N y = true ∧ ∀ j, q ≤ j → j < y → lf N j = false))) (fun _ t _ => (RowKit.intOf t + 1).toNat)
    case atStart => exact ⟨rfl, -1, _, n, rfl, rfl, by first | rfl | (simp [IntKind.wrap, IntKind.bits, IntKind.signed]; omega) | omega, by omega, .inl ⟨rfl, Lib.hid (fun j h1 h2 => by omega)⟩⟩
    case round =>
      obtain ⟨rfl, x, z, q, rfl, rfl, hzq, hqn, hc⟩ := hrel
      rcases Nat.eq_zero_or_pos q with hq0 | hq0
      · obtain rfl : z = -1 := by omega
        clear hzq
        rcases hc with ⟨rfl, hK⟩ | ⟨y, rfl, hyn, hK⟩
        · have hr0 := rnd_range (N := N) (fun j hj => hK.out j (by omega) (by rw [← HL.out]; exact hj))
          have hr1 := Lib.hid hr0
          have hlow := Lib.hid hRM.out.low
          clear hK hRM hF hr0
          go_wp2
          go_ret2
          rw [hr1.out]
          exact ⟨none, 0, rfl, Row.nil _ _ _, hlow.out⟩
        · have hls := lst_range hK.out.1 (fun j hj => hK.out.2 j (by omega) hj)
          have hW0 := Lib.hid (wi_start hls)
          have hL0 := Lib.hid hls
          have hy0 : decide ((y : Int) < 0) = false := by simp
          clear hK hls
          clear hmay ht
          obtain ⟨wT, rfl⟩ : ∃ wT : World, wT = wr := ⟨_, rfl⟩
          go_wp2
          go_loopg [6, 8, 9, 10, 11, 12] n (fun g s t _ _ _ _ wr => ∃ (x : Nat) (m : Nat) (pa : Option Addr) (pc : Nat) (way : List Nat) (l0 : List Int), s = .int .i64 x ∧ t = .slice pa m pc ∧ way.length = m ∧ m + g = n ∧ x < n ∧ Hid (Below wT.heap.size wT wr) ∧ Hid (wr.ownsRow wT.heap.size 3 1 (.slice pa m pc) m (ints (iz way))) ∧ Hid (WI N way l0 ∧ lst N l0 = some x))
          case atStart => exact ⟨y, 0, none, 0, [], _, rfl, rfl, rfl, by omega, hyn, Lib.hid (Below.refl _ _), Lib.hid (own_nil _ _ _), Lib.hid ⟨hW0.out, hL0.out⟩⟩
          case round =>
            clear hW0 hL0 hy0 hyn
            obtain ⟨x, m, pa, pc, way, l0, rfl, rfl, hwm, hg, hxn, hB, hown, hW⟩ := hrel
            have hmn : m ≤ n := by omega
            obtain ⟨hpc1, hpc2⟩ := own_cap hown.out
            go_wp2
            go_loopw [9] (fun s wq => wq = wr ∧ ∃ j : Nat, s = .int .i64 j ∧ j ≤ m ∧ Hid (∀ i, i < j → way.getD i 0 ≠ x)) (fun s _ => m - (RowKit.intOf s).toNat)
            case atStart => exact ⟨rfl, 0, rfl, by omega, Lib.hid (fun i hi => by omega)⟩
            case round =>
              obtain ⟨rfl, j, rfl, hj, hK⟩ := hrel
              by_cases hjm : j < m
              · obtain ⟨og, oc2, eo⟩ := own_form hown.out (by omega)
                have hro := hown.out
                rw [eo] at hro
                simp only [Value.slice.injEq, true_and] at eo
                obtain ⟨rfl, rfl⟩ := eo
                have hjl : j < way.length := by omega
                have e1 : (iz way).getD j 0 = ((way.getD j 0 : Nat) : Int) := by rw [getD_at (by rw [iz_len]; exact hjl), getN_at hjl]; simp [iz]
                have co : wr.cell? ⟨og, j, none⟩ = some (.int .i64 ((way.getD j 0 : Nat) : Int)) := by
                  rw [hro.cellAt j (by omega), ints_get _ (by rw [iz_len]; exact hjl), e1]
                have hji : (j : Int) < m := by omega
                have hback := Lib.hid (fun (h : way.getD j 0 = x) => (show rndL N = way.drop j by
                  rw [getN_at hjl] at h
                  rw [hW.out.1.back hW.out.2 (by rw [← h]; exact List.getElem_mem hjl), ← h, List.Nodup.idxOf_getElem hW.out.1.nodup j hjl]))
                have hnx := Lib.hid (fun (h : way.getD j 0 ≠ x) => (show ∀ i, i < j + 1 → way.getD i 0 ≠ x from fun i hi => by
                  by_cases e : i = j
                  · rw [e]; exact h
                  · exact hK.out i (by omega)))
                have hfr := Lib.hid (row_drop (B := j) hro hwm (by omega) (by omega))
                have hlow := Lib.hid (nextw hRM.out.low hB.out)
                generalize way.getD j 0 = z at *
                clear hro e1 hK
                by_cases hxe : z = x
                · subst hxe
                  have hfin := Lib.hid (hback.out rfl)
                  have hlen : Hid ((way.drop j).length = m - j) := Lib.hid (by simp [hwm])
                  have hpos : Hid (decide (0 < m - j) = true) := Lib.hid (by simp; omega)
                  have hzz : ((z : Int) == (z : Int)) = true := by simp
                  have hjp : j ≤ pc := by omega
                  have hjpi : (j : Int) ≤ pc := by omega
                  have hjmi : (j : Int) ≤ m := by omega
                  have hmpi : (m : Int) ≤ pc := by omega
                  clear hback hnx hW hown hB hRM hF
                  go_wp2
                  go_ret2
                  rw [hfin.out, hlen.out, hpos.out]
                  exact ⟨some ⟨og, j, none⟩, pc - j, rfl, hfr.out, hlow.out⟩
                · have r := Lib.hid (hnx.out hxe)
                  have hzz : ((z : Int) == (x : Int)) = false := beq_eq_false_iff_ne.2 (fun e => hxe (by omega))
                  clear hback hnx hfr hxe
                  go_wp2
                  exact ⟨⟨trivial, j + 1, by go_num, by omega, r⟩, by simp [RowKit.intOf]; omega⟩
              · obtain rfl : j = m := by omega
                have hxw : x ∉ way := fun hm => by
                  obtain ⟨i, hi, e⟩ := List.getElem_of_mem hm
                  exact hK.out i (by omega) (by rw [getN_at hi]; exact e)
                have hWn := hW.out.1.next HM.out hW.out.2 hxw
                have hlen2 := hWn.len
                rw [List.length_append, HL.out, hwm] at hlen2
                simp at hlen2
                have hW2 := Lib.hid hWn
                have hlz := hB.out.size
                clear hK hxw hWn hW
                go_wp2_with (at_builtin; refine wpList_append_lies _ rfl _ _ 23 rfl wT.heap.size 3 i0 (.int .i64 0) 1 8 Try.underlying23 hi hz0 hz1 hz2 rfl (by decide) (.slice pa j pc) j _ rfl (hown.out.alloc _) ⟨_, 0, none⟩ 1 1 [.int .i64 (x : Int)] rfl rfl (news1 _ _ _) (by simp [Value.oneCell']) (by decide) (by unfold maxLen; omega) (by omega) (by simp; omega) _ rfl ?_; intro g1 cap1 w8 hown8 hgrow8 hat8 hlt8)
                have hB8 := Lib.hid ((hB.out.alloc hlz (.cells #[.int .i64 (x : Int)] 3)).grown hgrow8 (by simp; omega) (fun k hk => own_ge hown.out k hk))
                have hP8 : Hid (w8.ownsRow wT.heap.size 3 1 (.slice (some ⟨g1, 0, none⟩) (j + 1) cap1) (j + 1) (ints (iz (way ++ [x])))) := Lib.hid (by rw [iz_snoc]; exact hown8)
                have hR8 := Lib.hid (hRM.out.step hB8.out)
                obtain ⟨b, off, rfl, hb, hcell⟩ := H.out.at (by omega)
                obtain ⟨ai, ci, c0, q1, q2, hrow0⟩ := hcell x hxn
                have c1 := stepc hR8.out.low hb c0
                have hrow := Lib.hid (hrow0.step hR8.out.low)
                have hmj : (N.getD x []).length ≤ 1000 := HR.out x
                have hxi : (x : Int) < n := by omega
                have hsome := left_needs HM.out (lf_iff.2 (lf_iff.1 (hW2.out.left x (by simp))))
                have hsome := Lib.hid hsome
                have hgt := Lib.hid (fun p hp => may_get HM.out (i := x) (p := p) hp)
                generalize hrw : N.getD x [] = row at *
                generalize hlen : row.length = len at *
                clear hown8 hgrow8 hat8 hlt8 hcell c0 hrow0 hown hB
                go_loopw [10, 11, 12] (fun s t _ wq => wq = w8 ∧ ∃ (nx : Int) (p : Nat), s = .int .i64 nx ∧ t = .int .i64 p ∧ p ≤ len ∧ ((nx = -1 ∧ Hid (lst N (row.take p) = none)) ∨ ∃ y : Nat, nx = (y : Int) ∧ y < n ∧ Hid (lst N (row.take p) = some y))) (fun _ t _ _ => len - (RowKit.intOf t).toNat)
                case atStart => exact ⟨rfl, -1, 0, rfl, rfl, by omega, .inl ⟨rfl, Lib.hid (by rw [lst_none]; intro j _ hm; simp at hm)⟩⟩
                case round =>
                  obtain ⟨rfl, nx, p, rfl, rfl, hp, hc⟩ := hrel
                  by_cases hpl : p < len
                  · obtain ⟨rb, ro, rfl, hrb, hrc⟩ := hrow.out.at (by omega)
                    have c2 := hrc p hpl
                    obtain ⟨ey, hyn⟩ := hgt.out p (by omega)
                    have htk : row.take (p + 1) = row.take p ++ [(((nd N x).getD p 0 : Nat) : Int)] := by
                      rw [List.take_succ_eq_append_getElem (by omega), ← ey, getD_at (by omega)]
                    rw [ey] at c2
                    rw [hl] at hyn
                    generalize (nd N x).getD p 0 = k at *
                    obtain ⟨ck, -⟩ := hR8.out.cell hF.out.1 hyn
                    have hlf := lf_fl hF.out hl hyn
                    generalize R.getD k false = bb at *
                    have hpi : (p : Int) < len := by omega
                    have hki : (k : Int) < n := by omega
                    clear hrc ey
                    cases bb with
                    | true =>
                      have hno := lst_snoc_no (l := row.take p) (show lf N k = false by rw [hlf]; rfl)
                      rw [← htk] at hno
                      rw [← hno] at hc
                      have hc2 := Lib.hid hc
                      clear hc hno hlf htk
                      go_wp2
                      exact ⟨⟨trivial, nx, p + 1, rfl, by go_num, by omega, hc2.out⟩, by simp [RowKit.intOf]; omega⟩
                    | false =>
                      have hlk : lf N k = true := by rw [hlf]; rfl
                      rcases hc with ⟨rfl, hK⟩ | ⟨y, rfl, hyn2, hK⟩
                      · have hs := lst_snoc_none hlk hK.out
                        rw [← htk] at hs
                        have hs := Lib.hid hs
                        clear hlk hlf htk hK
                        go_wp2
                        exact ⟨⟨trivial, k, p + 1, rfl, by go_num, by omega, .inr ⟨k, rfl, hyn, hs⟩⟩, by simp [RowKit.intOf]; omega⟩
                      · have hs := lst_snoc_some hlk hK.out
                        rw [← htk] at hs
                        have hy0 : decide ((y : Int) < 0) = false := by simp
                        clear hlk hlf htk hK
                        by_cases hky : k < y
                        · rw [if_pos hky] at hs
                          have hs := Lib.hid hs
                          have hkyi : decide ((k : Int) < (y : Int)) = true := by simp; omega
                          go_wp2
                          exact ⟨⟨trivial, k, p + 1, rfl, by go_num, by omega, .inr ⟨k, rfl, hyn, hs⟩⟩, by simp [RowKit.intOf]; omega⟩
                        · rw [if_neg hky] at hs
                          have hs := Lib.hid hs
                          have hkyi : decide ((k : Int) < (y : Int)) = false := by simp; omega
                          go_wp2
                          exact ⟨⟨trivial, y, p + 1, rfl, by go_num, by omega, .inr ⟨y, rfl, hyn2, hs⟩⟩, by simp [RowKit.intOf]; omega⟩
                  · obtain rfl : p = len := by omega
                    have htake : row.take p = row := by rw [← hlen, List.take_length]
                    rw [htake] at hc
                    rcases hc with ⟨rfl, hK⟩ | ⟨y, rfl, hyn2, hK⟩
                    · have := hsome.out
                      rw [hK.out] at this; cases this
                    · have hWf := Lib.hid (show WI N (way ++ [x]) row ∧ lst N row = some y from ⟨hW2.out, hK.out⟩)
                      clear htake hK hW2
                      go_wp2
                      go_roundg (gk - 1)
                      case measure => omega
                      case rel => exact ⟨y, j + 1, some ⟨g1, 0, none⟩, cap1, way ++ [x], row, rfl, rfl, by simp [hwm], by omega, hyn2, hB8, hP8, hWf⟩
      · obtain ⟨p, rfl⟩ : ∃ p, q = p + 1 := ⟨q - 1, by omega⟩
        obtain rfl : z = (p : Int) := by omega
        clear hzq
        have hpn : p < n := by omega
        obtain ⟨cb, -⟩ := hRM.out.cell hF.out.1 hpn
        have hlf := lf_fl hF.out HL.out hpn
        generalize R.getD p false = b at *
        have hpi : (p : Int) < n := by omega
        have hp0 : decide ((0 : Int) ≤ (p : Int)) = true := by simp
        cases b with
        | true =>
          have hc2 : (x = -1 ∧ Hid (∀ j, p ≤ j → j < n → lf N j = false)) ∨ ∃ y : Nat, x = (y : Int) ∧ y < n ∧ Hid (lf N y = true ∧ ∀ j, p ≤ j → j < y → lf N j = false) := by
            rcases hc with ⟨h, hK⟩ | ⟨y, h, hyn, hK⟩
            · exact .inl ⟨h, Lib.hid (fun j h1 h2 => by
                by_cases e : j = p
                · rw [e, hlf]; rfl
                · exact hK.out j (by omega) h2)⟩
            · exact .inr ⟨y, h, hyn, Lib.hid ⟨hK.out.1, fun j h1 h2 => by
                by_cases e : j = p
                · rw [e, hlf]; rfl
                · exact hK.out.2 j (by omega) h2⟩⟩
          clear hc hlf
          have hc3 := Lib.hid hc2
          clear hc2
          go_wp2
          exact ⟨⟨trivial, x, _, p, rfl, by go_num, rfl, by omega, hc3.out⟩, by simp [RowKit.intOf]⟩
        | false =>
          have hc2 := Lib.hid (show ∃ y : Nat, (p : Int) = (y : Int) ∧ y < n ∧ Hid (lf N y = true ∧ ∀ j, p ≤ j → j < y → lf N j = false) from ⟨p, rfl, hpn, Lib.hid ⟨hlf, fun j h1 h2 => by omega⟩⟩)
          clear hc hlf
          go_wp2
          exact ⟨⟨trivial, p, _, p, rfl, by go_num, rfl, by omega, .inr hc2.out⟩, by simp [RowKit.intOf]⟩
  · have hR : rndN N = [] := by simp [rndN, hm]
    rw [hR]
    rw [hm] at hmay
    clear h hm hr hR
    go_enter Try.func15, Try.ntmps15
    go_wp2_with (go_at_call 24; (with_reducible refine hmay.out.mono ?_); rintro e w5 ⟨rfl, hw5⟩; obtain rfl : w = w5 := hw5.symm)
    go_ret2
    exact ⟨none, 0, rfl, Row.nil _ _ _, Below.refl _ _⟩
end Go.Proofs.Ytocfchgkfaogdaa
