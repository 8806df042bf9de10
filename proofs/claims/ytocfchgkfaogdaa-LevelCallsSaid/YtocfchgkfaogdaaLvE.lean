/-
  Reach.
-/
import Derived.Test.YtocfchgkfaogdaaLvC
namespace Go.Proofs.Ytocfchgkfaogdaa
open Go.RowKit Go.Maps
set_option maxRecDepth 100000

/-- What is reached, what is open. -/
structure RM (w wr : World) (gr n : Nat) (R : List Bool) (sv : Value) (S : List Int) : Prop where
  low : Below w.heap.size w wr
  row : wr.ownsRow w.heap.size 4 1 (.slice (some ⟨gr, 0, none⟩) n n) n (bools R)
  stk : wr.ownsRow w.heap.size 3 1 sv S.length (ints S)
theorem own_cut {w : World} {base m c : Nat} {a : Option Addr} {S : List Int} (h : w.ownsRow base 3 1 (.slice a (m + 1) c) (m + 1) (ints S)) (hl : S.length = m + 1) : w.ownsRow base 3 1 (.slice a m c) m (ints (S.take m)) := by
  refine ⟨by simp [ints, hl], .inr ?_⟩
  rcases h.2 with ⟨h0, _⟩ | ⟨g', cap', cur, hv, hb, hh, h1, h2, h3, h4⟩
  · simp at h0
  · simp only [Value.slice.injEq, true_and] at hv
    obtain ⟨rfl, rfl⟩ := hv
    refine ⟨_, _, cur, rfl, hb, hh, by omega, h2, h3, ?_⟩
    rw [show ints (S.take m) = (ints S).take m by simp [ints, List.map_take], ← h4, List.take_take]
    congr 1; omega
section
variable {w wr wq : World} {gr n : Nat} {R : List Bool} {sv : Value} {S : List Int}
theorem RM.cell (h : RM w wr gr n R sv S) (hl : R.length = n) {k : Nat} (hk : k < n) : wr.cell? ⟨gr, k, none⟩ = some (.bool (R.getD k false)) ∧ wr.frozen? ⟨gr, k, none⟩ = false :=
  ⟨by rw [h.row.cellAt k (by omega), bools_get R (by omega)], h.row.frozenAt k⟩
theorem RM.ne (h : RM w wr gr n R sv S) : ∀ b, sv.ownBlock = some b → b ≠ gr := fun b e e2 => by
  obtain ⟨cur, hc⟩ := own_type h.stk e
  obtain ⟨cur2, hc2⟩ := own_type h.row (k := gr) rfl
  subst e2
  exact absurd (kinds hc hc2) (by decide)
theorem RM.cut {a : Option Addr} {m c : Nat} (h : RM w wr gr n R (.slice a (m + 1) c) S) (hl : S.length = m + 1) : RM w wr gr n R (.slice a m c) (S.take m) := by
  have hs := h.stk
  rw [hl] at hs
  refine ⟨h.low, h.row, ?_⟩
  have := own_cut hs hl
  rw [show (S.take m).length = m by simp [hl]]
  exact this
theorem RM.mark (h : RM w wr gr n R sv S) (x : Nat) : RM w (wr.setCell ⟨gr, x, none⟩ (.bool true)) gr n (R.set x true) sv S := by
  have hs := h.row.stored x (.bool true)
  have hb : w.heap.size ≤ gr := own_ge h.row gr rfl
  refine ⟨h.low.trans ((Below.refl w.heap.size wr).setCell (p := ⟨gr, x, none⟩) hb _), ?_, ownsRow_setCell_other h.stk (fun e => h.ne gr e rfl) _⟩
  rw [show bools (R.set x true) = (bools R).set x (.bool true) by simp [bools, List.map_set]]
  exact hs.1
theorem RM.app (h : RM w wr gr n R sv S) {v2 : Value} {m n2 : Nat} {l : List Int} (ez : S.length = m) (hl : l.length = n2) (hown : wq.ownsRow w.heap.size 3 1 v2 (m + n2) (ints S ++ ints l)) (hg : wr.grownBy wq sv.ownBlock) : RM w wq gr n R v2 (S ++ l) := by
  have hk := grown_kept (Below.refl wr.heap.size wr) hg
  refine ⟨h.low.trans (hk.below (fun k e => own_ge h.stk k e) h.low.size), own_keptF h.row hk (fun k e hf => ?_), ?_⟩
  · have : k = gr := by simpa [Value.ownBlock] using e.symm
    exact h.ne k hf this
  · rw [List.length_append, ez, hl, show ints (S ++ l) = ints S ++ ints l by simp [ints]]
    exact hown
end
theorem made_false (n : Nat) : (madeCells (Value.bool false).cells (n * 1)).toList = bools (List.replicate n false) := by
  apply List.ext_getElem
  · simp [madeCells, Value.cells, bools]
  · intro i h1 h2; simp [madeCells, Value.cells, Nat.mod_one, bools]
theorem info_bool : (Try.prog.info? 4).map (fun i => (i.zero, i.size, i.bytes)) = some (some (.bool false), 1, 1) := by kernel_rfl
theorem unr_rep (n : Nat) : unr (List.replicate n false) ≤ n := by have := unr_le (List.replicate n false); simpa using this

set_option maxHeartbeats 16000000 in
theorem Reach_any {w : World} {a fa : Option Addr} {n fn : Nat} {N : List (List Int)} {F : List Int} (h : RR w a n N) (hf : Row .i64 w fa fn F) (hn : n ≤ 1000) (hfn : fn ≤ 1000) (hr : ∀ i, (N.getD i []).length ≤ 1000) (c fc : Nat) :
    Calls Try.prog 16 #[.slice a n c, .slice fa fn fc] w fun e w' => ∃ (va : Option Addr) (ca : Nat), e = .returned (.tuple #[.slice va (rchL N F).length ca, .int .i64 (rchE N F)]) ∧
      w'.ownsRow w.heap.size 4 1 (.slice va (rchL N F).length ca) (rchL N F).length (bools (rchL N F)) ∧ Below w.heap.size w w' := by
  have hmay := Lib.hid (May_any h c)
  have hthg := Lib.hid (areThings_any hf fc n)
  have hl := h.len
  by_cases hE : mayN N = true ∧ allT N.length F = true
  · have e1 : rchE N F = 0 := by simp [rchE, hE]
    have e2 : rchL N F = rcL N F := by simp [rchL, e1]
    rw [e1, e2, rcL_len, hl]
    rw [hE.1] at hmay
    have hF := hE.2
    rw [hl] at hF
    rw [hF] at hthg
    have hcl := Lib.hid (fun (w6 : World) (hb : Below w.heap.size w w6) => clone_row (hf.step hb) (by omega) fc)
    have hz := Lib.hid (made_false n)
    have H := Lib.hid h
    have HM := Lib.hid hE.1
    have HR := Lib.hid hr
    have HL := Lib.hid hl
    have hS0 := Lib.hid (RS.start (N := N) hE.2)
    have hfl := hf.len
    obtain ⟨i0, hi, hz0, hz1, hz2⟩ := info_parts info_int
    obtain ⟨j0, ji, jz0, jz1, jz2⟩ := info_parts info_bool
    clear h hr hl hE e1 e2 hF hf
    go_enter Try.func16, Try.ntmps16
    go_wp2_with (first
      | (go_at_call 23; (with_reducible refine hmay.out.mono ?_); rintro e w5 ⟨rfl, hw5⟩; obtain rfl : w = w5 := hw5.symm)
      | (go_at_call 37; (with_reducible refine hthg.out.mono ?_); rintro e w5 ⟨rfl, hw5⟩; obtain rfl : w = w5 := hw5.symm)
      | (at_make; refine wpList_make_full _ rfl _ _ 33 rfl w.heap.size 4 j0 (.bool false) 1 Try.underlying33 ji jz0 jz1 .i64 .i64 n n n rfl rfl rfl rfl (by rw [jz2]; omega) (by unfold maxLen; omega) (Nat.le_refl _) ?_; intro w6 hown hg; rw [hz.out] at hown; have hb6 := Lib.hid ((Below.refl w.heap.size w).grown hg (Nat.le_refl _) (fun _ h => (by cases h))); have hown6 := Lib.hid hown; clear hown hg)
      | (go_at_call 9; (with_reducible refine (hcl.out _ hb6.out).mono ?_); rintro e w7 ⟨a2, c2, rfl, hown7, hb7⟩; have hRM : Hid (RM w w7 w.heap.size n (List.replicate n false) (.slice a2 fn c2) F) := Lib.hid ⟨nextw hb6.out hb7, own_below hown6.out hb7, (by rw [hfl]; exact own_base hown7 hb6.out.size)⟩; clear hown7 hb7))
    clear hmay hthg hcl hz hb6 hown6
    go_loopg [7] (n * 1001 + fn) (fun g s wr => ∃ (R : List Bool) (S : List Int) (sa : Option Addr) (sc : Nat), s = .slice sa S.length sc ∧ Hid (RM w wr w.heap.size n R (.slice sa S.length sc) S) ∧ Hid (RS N F R S) ∧ S.length + unr R * 1001 ≤ g ∧ g ≤ n * 1001 + fn)
    case atStart => exact ⟨List.replicate n false, F, a2, c2, by rw [hfl], by rw [hfl]; exact hRM, Lib.hid (by rw [← HL.out]; exact hS0.out), by have := unr_rep n; omega, Nat.le_refl _⟩
    case round =>
      clear hRM hS0
      obtain ⟨R, S, sa, sc, rfl, hRM, hRS, hg, hgm⟩ := hrel
      by_cases h0 : S.length = 0
      · have hS : S = [] := List.eq_nil_of_length_eq_zero h0
        subst hS
        have hfin := hRS.out.done
        have hrow := hRM.out.row
        rw [hfin] at hrow
        have hrow := Lib.hid hrow
        have hlow := Lib.hid hRM.out.low
        clear hRM hRS hfin hg
        go_wp2
        go_ret2
        exact ⟨some ⟨w.heap.size, 0, none⟩, n, rfl, hrow.out, hlow.out⟩
      · obtain ⟨m, hm⟩ : ∃ m, S.length = m + 1 := ⟨S.length - 1, by omega⟩
        have hml : m < S.length := by omega
        obtain ⟨x, ex, hx, -⟩ := hRS.out.okS _ (List.getElem_mem hml)
        have hsplit : S = S.take m ++ [(x : Int)] := by
          have := List.take_append_drop m S
          rw [List.drop_eq_getElem_cons hml, List.drop_eq_nil_of_le (by omega), ex] at this
          exact this.symm
        rw [HL.out] at hx
        have hRM1 := hRM.out
        rw [hm] at hRM1
        obtain ⟨g1, c1, e1⟩ := own_form (by have := hRM1.stk; rw [hm] at this; exact this) (by omega)
        simp only [Value.slice.injEq, true_and] at e1
        obtain ⟨rfl, rfl⟩ := e1
        have hstk := hRM1.stk
        rw [hm] at hstk
        have hcs : wr.cell? ⟨g1, m, none⟩ = some (.int .i64 (x : Int)) := by
          rw [hstk.cellAt m (by omega), ints_get S (by omega), getD_at hml, ex]
        obtain ⟨q1, q2⟩ := own_cap hstk
        have hRl : R.length = n := by rw [hRS.out.len]; exact HL.out
        obtain ⟨cb, fb⟩ := hRM1.cell hRl hx
        have hcut := Lib.hid (hRM1.cut hm)
        have hRS1 := hRS.out
        rw [hsplit] at hRS1
        have htl : (S.take m).length = m := by simp [hm]
        have hxi : (x : Int) < n := by omega
        cases hb : R.getD x false with
        | true =>
          have hnx := Lib.hid (hRS1.skip hb)
          rw [hb] at cb
          clear hRM hRM1 hRS hRS1 hsplit hstk hb ex
          rw [hm] at hg ⊢
          generalize S.take m = S1 at *
          clear hm hml h0
          go_wp2
          go_roundg (gk - 1)
          case measure => omega
          case rel => exact ⟨R, S1, some ⟨g1, 0, none⟩, sc, by rw [htl], by rw [htl]; exact hcut, hnx, by omega, by omega⟩
        | false =>
          have hnx := Lib.hid (hRS1.take HM.out)
          have hun := unr_set (x := x) (by rw [hRl]; exact hx) hb
          rw [hb] at cb
          have hmk := Lib.hid (hcut.out.mark x)
          obtain ⟨b, off, rfl, hbb, hcell⟩ := H.out.at (by omega)
          obtain ⟨ai, ci, cr, q3, q4, hrow⟩ := hcell x hx
          have crr := stepc hmk.out.low hbb cr
          have hrr := hrow.step hmk.out.low
          have hmj : (N.getD x []).length ≤ 1000 := HR.out x
          have hls := hmk.out.low.size
          have hsk := hmk.out.stk
          rw [htl] at hsk
          have hsk := Lib.hid hsk
          generalize hk : (N.getD x []).length = k at *
          have hm1 := hm
          clear hRM hRM1 hRS hRS1 hsplit hstk hb ex hcell cr hrow hcut
          rw [hm] at hg ⊢
          generalize S.take m = S1 at *
          clear hm hml h0 hm1
          cases ai with
          | none =>
            have hk0 : k = 0 := by
              by_cases h1 : 0 < k
              · obtain ⟨b2, o2, e, -⟩ := hrr.at h1; cases e
              · omega
            have hN0 : N.getD x [] = [] := List.eq_nil_of_length_eq_zero (by omega)
            rw [hN0, List.append_nil] at hnx
            subst hk0
            have hap : ∀ W : World, (Builtin.append_ #[23, 23] 23 #[.slice (some ⟨g1, 0, none⟩) m sc, .slice none 0 ci]).run Try.prog W = .ok (.slice (some ⟨g1, 0, none⟩) m sc) W := fun W => run_append_nothing W _ _ _ 3 i0 Try.underlying23 hi _ _ _ (by omega) _ (Src.ofNil W Try.underlying23 ci)
            clear hk hrr hN0
            go_wp2
            go_roundg (gk - 1)
            case measure => omega
            case rel => exact ⟨_, S1, some ⟨g1, 0, none⟩, sc, by rw [htl], by rw [htl]; exact hmk, hnx, by omega, by omega⟩
          | some ad =>
            have HN := Lib.hid (hrr.news rfl)
            have H1 := Lib.hid (ints_one (N.getD x []))
            have HLn : Hid ((ints (N.getD x [])).length = k * 1) := Lib.hid (by rw [ints_len, hk]; omega)
            have happ := Lib.hid (fun (wq : World) (v2 : Value) h1 h2 => hmk.out.app (wq := wq) (v2 := v2) htl hk h1 h2)
            clear hrr
            go_wp2_with (at_builtin; refine wpList_append_own_at _ rfl _ _ 23 rfl w.heap.size 3 i0 (.int .i64 0) 1 8 Try.underlying23 hi hz0 hz1 hz2 rfl (by decide) (.slice (some ⟨g1, 0, none⟩) m sc) m (ints S1) rfl hsk.out ad k ci (ints (N.getD x [])) rfl HLn.out HN.out H1.out (by unfold maxLen; omega) (by omega) hls ?_; intro v' w9 hown' hgrow hnil hloc; obtain ⟨a3, c3, rfl⟩ := own_slice hown'; have hRM9 := Lib.hid (happ.out _ _ hown' hgrow); clear hown' hgrow hnil hloc)
            have e9 : (S1 ++ N.getD x []).length = m + k := by rw [List.length_append, htl, hk]
            go_roundg (gk - 1)
            case measure => omega
            case rel => exact ⟨_, S1 ++ N.getD x [], a3, c3, by rw [e9], by rw [e9]; exact hRM9, hnx, by omega, by omega⟩
  · have e1 : rchE N F = 1 := by simp [rchE, hE]
    have e2 : rchL N F = [] := by simp [rchL, e1]
    rw [e1, e2]
    rcases (show mayN N = false ∨ (mayN N = true ∧ allT n F = false) by
      rw [hl] at hE
      cases h1 : mayN N
      · exact .inl rfl
      · right; refine ⟨rfl, ?_⟩
        cases h2 : allT n F
        · rfl
        · exact absurd ⟨h1, h2⟩ hE) with h1 | ⟨h1, h2⟩
    · rw [h1] at hmay
      clear h hr hl hE e1 e2 hf hthg
      go_enter Try.func16, Try.ntmps16
      go_wp2_with (go_at_call 23; (with_reducible refine hmay.out.mono ?_); rintro e w5 ⟨rfl, hw5⟩; obtain rfl : w = w5 := hw5.symm)
      go_ret2
      exact ⟨none, 0, rfl, own_nil _ _ _, Below.refl _ _⟩
    · rw [h1] at hmay
      rw [h2] at hthg
      clear h hr hl hE e1 e2 hf
      go_enter Try.func16, Try.ntmps16
      go_wp2_with (first
        | (go_at_call 23; (with_reducible refine hmay.out.mono ?_); rintro e w5 ⟨rfl, hw5⟩; obtain rfl : w = w5 := hw5.symm)
        | (go_at_call 37; (with_reducible refine hthg.out.mono ?_); rintro e w5 ⟨rfl, hw5⟩; obtain rfl : w = w5 := hw5.symm))
      go_ret2
      exact ⟨none, 0, rfl, own_nil _ _ _, Below.refl _ _⟩
end Go.Proofs.Ytocfchgkfaogdaa
