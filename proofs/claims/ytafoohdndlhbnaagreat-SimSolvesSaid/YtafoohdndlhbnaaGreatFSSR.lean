/-
  The document's own netlist: SetReg, AddIn, AddOut, New.
  Wants: a step with the document's own netlist.
-/
import Derived.Test.YtafoohdndlhbnaaGreatFSSQ
import Derived.Test.YtafoohdndlhbnaaGreatFSSH
import Derived.Test.YtafoohdndlhbnaaGreatFSSL
section
namespace Go.Proofs.YtafoohdndlhbnaaGreat
open Go.RowKit Go.Maps Num Bits
set_option maxRecDepth 100000

theorem setReg_no {N : Nt} {x d en : Int} (h : allHas N.g [d, en] = false) : (setReg N x d en).1 = N := by
  unfold setReg
  split
  · rfl
  · rw [if_neg (by simp [h])]
theorem setReg_miss {N : Nt} {x d en : Int} (h : regAt N.regs x = none) : (setReg N x d en).1 = N := by
  unfold setReg
  rw [h]
theorem setReg_hit {N : Nt} {x d en : Int} {i : Nat} (h : regAt N.regs x = some i) (ha : allHas N.g [d, en] = true) : (setReg N x d en).1 = { N with regs := N.regs.modify i (setRg d en) } := by
  unfold setReg
  rw [h]
  simp only [ha, if_true]

set_option maxHeartbeats 1000000 in
theorem rSetReg_any {w0 w : World} {B Bg : Nat} {p : RPl} {N : Nt} (h : RN w0 w B Bg p N) (hm : N.g.nodes.length ≤ 190000) (hr : N.regs.length ≤ 10000) (x d en : Int) (hd : IsLit d) (he : IsLit en) :
    Calls Tryz.prog 72 #[.pointer (some ⟨B, 0, none⟩), .int .u32 x, .int .u32 d, .int .u32 en] w fun e w' => (∃ v, e = .returned v) ∧ RNext w0 w B Bg (setReg N x d en).1 w' := by
  have hb : Below w.heap.size w (w.alloc (.cells #[.int .u32 d, .int .u32 en] 39)) := (Below.refl _ _).alloc (Nat.le_refl _) _
  have hth := Lib.hid (rhas_any (h.step hb).g (by omega) (cap := 2) (row2 w d en 39) (by intro z hz; simp at hz; rcases hz with rfl | rfl <;> assumption))
  obtain ⟨ia, ic, ra, rc, oa, oc, -, ev, -, c0, -, -, c3, -, -⟩ := h.cells
  have hlb := h.lt
  have hbel := Lib.hid (fun w2 (hb2 : Below w.heap.size w w2) => RNext.of_below h hb2)
  cases hA : allHas N.g [d, en] with
  | false =>
    rw [hA] at hth
    rw [setReg_no hA]
    have hb := Lib.hid hb
    clear h
    go_enter Tryz.func72, Tryz.ntmps72
    go_wp2_with (go_at_call 55; (with_reducible refine hth.out.mono ?_); rintro e w2 ⟨rfl, hB2⟩)
    go_ret
    exact ⟨⟨_, rfl⟩, hbel.out _ (nextw hb.out hB2)⟩
  | true =>
    rw [hA] at hth
    have hb := Lib.hid hb
    have HR : Hid (RRegRow w0 w (.slice ra N.regs.length rc) N.regs) := Lib.hid (by have := h.regs; rw [ev] at this; exact this)
    have hset := Lib.hid (fun w2 (hb2 : Below w.heap.size w w2) (g : Nat) (hg : ra = some ⟨g, 0, none⟩) (i : Nat) => rn_set (h.step hb2) (g := g) (rc := rc) (n := N.regs.length) (by rw [ev, hg]) i d en)
    have hA := Lib.hid hA
    have hfz := Lib.hid (fun w2 (hb2 : Below w.heap.size w w2) (g : Nat) (hg : ra = some ⟨g, 0, none⟩) o => (show w2.frozen? ⟨g, o, none⟩ = false from by
      have := own_below HR.out hb2
      rw [hg] at this
      exact this.frozenAt o))
    have hfar : Hid (∀ g, ra = some ⟨g, 0, none⟩ → g ≠ B ∧ B ≠ g) := Lib.hid (fun g hg => by
      have := h.far.2.1
      rw [ev, hg] at this
      simp [Value.ownBlock] at this
      exact ⟨this, fun e => this e.symm⟩)
    have hhit := Lib.hid (fun (j : Nat) (e : regAt N.regs x = some j) => setReg_hit (en := en) e hA.out)
    have hmiss := Lib.hid (fun (e : regAt N.regs x = none) => @setReg_miss N x d en e)
    generalize (setReg N x d en).1 = N' at *
    have hlen : ∀ k, k < N.regs.length ↔ k < N.regs.length := fun _ => Iff.rfl
    obtain ⟨nr, hnr⟩ : ∃ nr, N.regs.length = nr := ⟨_, rfl⟩
    have HN := Lib.hid hnr
    rw [hnr] at c3 hr HR
    clear h hlen hd he hA hnr hm
    go_enter Tryz.func72, Tryz.ntmps72
    go_wp2_with (go_at_call 55; (with_reducible refine hth.out.mono ?_); rintro e w2 ⟨rfl, hB2⟩; have hB3 := nextw hb.out hB2; have d3 := stepc hB3 hlb c3; have hB3 := Lib.hid hB3; clear hB2)
    go_loopw [9] (fun s9 wr => wr = w2 ∧ ∃ j : Nat, j ≤ nr ∧ s9 = .int .i64 j ∧ Hid (NoReg N.regs x j)) (fun s9 _ => nr - (intOf s9).toNat)
    case atStart => exact ⟨rfl, 0, Nat.zero_le _, rfl, Lib.hid (fun i _ hi => by omega)⟩
    case round =>
      obtain ⟨rfl, j, hj, rfl, hy⟩ := hrel
      by_cases hlt : j < nr
      · have hjL : j < N.regs.length := by rw [HN.out]; exact hlt
        obtain ⟨g, hra, hgl, b0, b1, b2, b3⟩ := RRegRow.at (w0 := w0) (a := ra) (n := nr) (c := rc) (by have := HR.out; exact this) hjL
        obtain ⟨g1, g2⟩ := hfar.out g hra
        have f1 := hfz.out _ hB3.out g hra (j * 4 + 1)
        have f2 := hfz.out _ hB3.out g hra (j * 4 + 2)
        have b0 := stepc hB3.out hgl b0
        have b1 := stepc hB3.out hgl b1
        have b2 := stepc hB3.out hgl b2
        have hse := Lib.hid (hset.out _ hB3.out g hra j)
        subst hra
        by_cases hq : (N.regs[j].q == x) = true
        · have hf := hhit.out j (regAt_hit hjL hq hy.out)
          rw [← hf] at hse
          generalize N.regs[j].q = r0 at *
          generalize N.regs[j].d = r1 at *
          generalize N.regs[j].en = r2 at *
          clear hf hhit hmiss hset hfz hfar HR hy hth
          go_wp2
          go_ret
          exact ⟨⟨_, rfl⟩, RNext.front hB3.out hse.out⟩
        · have hq : (N.regs[j].q == x) = false := by simpa using hq
          have hf := Lib.hid (hy.out.next hjL hq)
          generalize N.regs[j].q = r0 at *
          clear hse
          go_wp2
          exact ⟨⟨trivial, j + 1, by omega, by go_num, hf⟩, by simp [intOf]; omega⟩
      · obtain rfl : j = nr := by omega
        have hf := hmiss.out (regAt_miss (by rw [HN.out]; exact hy.out))
        have hf := Lib.hid hf
        go_wp2
        go_ret
        rw [hf.out]
        exact ⟨⟨_, rfl⟩, hbel.out _ hB3.out⟩

theorem row_all {w w' : World} {a : Option Addr} {n : Nat} {z : List Int} (h : Row .u32 w a n z) (hb : Below w.heap.size w w') : ∀ x, a = some x → ∀ (j : Nat) (u : Value), (z.map (Value.int .u32))[j]? = some u → w'.cell? (x.add j) = some u := by
  have := row_news h (Nat.le_refl n) hb
  rw [List.take_of_length_le (by rw [h.len]; exact Nat.le_refl _)] at this
  exact this
theorem u32_one (z : List Int) : ∀ u ∈ z.map (Value.int .u32), u.oneCell' = true := by
  intro u hu
  obtain ⟨v, -, rfl⟩ := List.mem_map.1 hu
  rfl
set_option maxHeartbeats 600000 in
theorem rAddOut_push {w0 w : World} {B Bg : Nat} {p : RPl} {N : Nt} (h : RN w0 w B Bg p N) (hm : N.g.nodes.length ≤ 190000) (ho : N.outs.length ≤ 10000) (s : ByteArray) {a : Option Addr} {n c : Nat} {l : List Int} (hs : Row .u32 w a n l) (hl : ∀ x ∈ l, IsLit x)
    (hmn : Hid (∀ w, Calls Tryz.prog 63 #[.string s] w fun e w' => e = .returned (.bool true) ∧ w = w')) (hk1 : 1 ≤ (n : Int)) (hk2 : (n : Int) ≤ 64)
    (hth : Hid (Calls Tryz.prog 55 #[.pointer (some ⟨Bg, 0, none⟩), .slice a n c] w fun e w' => e = .returned (.bool true) ∧ Below w.heap.size w w')) (he : atB N.outs s = none) :
    Calls Tryz.prog 73 #[.pointer (some ⟨B, 0, none⟩), .string s, .slice a n c] w fun e w' => (∃ v, e = .returned v) ∧ RNext w0 w B Bg { N with outs := N.outs ++ [⟨s, l⟩] } w' := by
  have hlen := hs.len
  have hle := hs.le
  obtain ⟨ia, ic, ra, rc, oa, oc, -, -, ev, c0, -, -, -, c4, fz⟩ := h.cells
  have hlb := h.lt
  have hfi := Lib.hid (fun w2 (hb2 : Below w.heap.size w w2) => rFind_any (w0 := w0) (a := oa) (c := oc) (by have := h.outs.below hb2; rw [ev] at this; exact this) rfl s)
  have g1 : decide ((n : Int) < 1) = false := by simp; omega
  have g2 : decide (64 < (n : Int)) = false := by simp; omega
  rw [he] at hfi
  simp only [Option.isSome_none] at hfi
  obtain ⟨K, hK⟩ := h.outs
  obtain ⟨ab, off, rfl, hab, hcell⟩ := hs.at (by omega)
  have hnw := Lib.hid (fun w2 (hb2 : Below w.heap.size w w2) => row_all hs hb2 _ rfl)
  have hrow := Lib.hid (fun w2 (hb2 : Below w.heap.size w w2) => (show w2.ownsRow w0.heap.size 119 2 (.slice oa N.outs.length oc) N.outs.length (bvCells K) by have := (hK.below hb2).own; rw [ev] at this; exact this))
  have hpush := Lib.hid (fun (wa w1 : World) (hb : Below w.heap.size w wa) (la : Option Addr) (lc : Nat) (hl : URow wa la n lc l) (g cap : Nat) hown hg hat => rn_outs (w1 := w1) h hb hK (s := s) hl (g := g) (cap := cap) hown hg hat)
  rw [ev] at hpush
  have hne : some B ≠ (Value.slice oa N.outs.length oc).ownBlock := by have := h.far.2.2; rw [ev] at this; exact fun e => this e.symm
  have f4 := fz 4
  have hs0 := h.below.size
  obtain ⟨i0, hi, hz0, hz1, hz2⟩ := info_parts rinfo_bus
  obtain ⟨i1, hi1, hy0, hy1, hy2⟩ := info_parts info_u32
  have hone := u32_one l
  have hll : (l.map (Value.int .u32)).length = n := by simp [hlen]
  have hlen := Lib.hid hlen
  clear h hs hK fz hl hcell
  generalize hLL : l.map (Value.int .u32) = LL at *
  have hLL := Lib.hid hLL
  generalize N.outs.length = k at *
  go_enter Tryz.func73, Tryz.ntmps73
  go_upto_region 7 with (first
    | (go_at_call 63; (with_reducible refine (hmn.out _).mono ?_); rintro e w2 ⟨rfl, rfl⟩)
    | (go_at_call 55; (with_reducible refine hth.out.mono ?_); rintro e w2 ⟨rfl, hB2⟩; have d4 := stepc hB2 hlb c4)
    | (go_at_call 106; (with_reducible refine (hfi.out _ hB2).mono ?_); rintro e w5 ⟨⟨a5, n5, c5, rfl⟩, rfl⟩))
  have hB5 := Lib.hid hB2.drew
  clear hB2 hth hmn hfi
  go_region_law (first
    | (refine step_append_lies _ (by rfl) (.tmp 46) (.tmp 52) _ (by rfl) w0.heap.size 119 i0 (.agg #[.string ByteArray.empty, .slice none 0 0]) 2 40 Tryz.underlying107 hi hz0 hz1 hz2 rfl (by decide) (.slice oa k oc) k (bvCells K) (by rfl) (hrow.out _ (hb7.out.alloc hb7.out.size _)) ⟨w6.heap.size, 0, none⟩ 1 1 [.string s, .slice (some ⟨g3, 0, none⟩) n cap3] (by rfl) rfl (news_list _ _ _) (by simp [Value.oneCell']) (by decide) (by unfold maxLen; omega) (by omega) (by simp; omega) _ rfl ?_; intro g1 cap1 w7 hown1 hgrow1 hat1 hlt1; obtain ⟨x0, x1⟩ := grow_box hgrow1 (b := B) (o := 4) (v := .slice oa k oc) (by go_simp) (by go_simp) hne)
    | (have hz := hnw; refine step_append_lies _ (by rfl) (.tmp 48) (.tmp 49) _ (by rfl) 0 39 i1 (.int .u32 0) 1 4 Tryz.underlying45 hi1 hy0 hy1 hy2 rfl (by decide) (.slice none 0 0) 0 [] (by (try simp only [List.getElem_toArray, List.getElem_cons_succ, List.getElem_cons_zero, Act.put, List.setIfInBounds_toArray, List.set_cons_succ, List.set_cons_zero]); rfl) (own_nil _ _ _) ⟨ab, off, none⟩ n c LL (by (try simp only [List.getElem_toArray, List.getElem_cons_succ, List.getElem_cons_zero, Act.put, List.setIfInBounds_toArray, List.set_cons_succ, List.set_cons_zero]); rfl) (by omega) (hnw.out _ hB5.out) hone (by omega) (by unfold maxLen; omega) (by omega) (Nat.zero_le _) _ rfl ?_; intro g3 cap3 w6 hown3 hgrow3 hat3 hlt3; have hb7 := hB5.out.grown hgrow3 hB5.out.size (fun k hk => by simp [Value.ownBlock] at hk); have f5 := stepc hb7 hlb c4; have ff5 := ((bcell hb7).2 B 4 hlb).trans f4; have hlr := Lib.hid (show URow w6 (some ⟨g3, 0, none⟩) n cap3 l from ⟨hlen.out, by rw [hLL.out]; simpa using hown3⟩); have hlb6 : B < w6.heap.size := Nat.lt_of_lt_of_le hlb hb7.size; have hb7 := Lib.hid hb7; have hs6 : w0.heap.size ≤ w6.heap.size := (by have := hb7.out.size; omega); clear hown3 hgrow3 hat3 hnw hz))
  all_goals go_wp2
  all_goals go_ret
  all_goals
    have hq := hpush.out _ _ (hb7.out.alloc hb7.out.size _) _ _ (hlr.out.below ((Below.refl _ _).alloc (Nat.le_refl _) _)) _ _ hown1 hgrow1 hat1
    exact ⟨⟨_, rfl⟩, hq⟩
set_option maxHeartbeats 2000000 in
theorem rAddOut_any {w0 w : World} {B Bg : Nat} {p : RPl} {N : Nt} (h : RN w0 w B Bg p N) (hm : N.g.nodes.length ≤ 190000) (ho : N.outs.length ≤ 10000) (s : ByteArray) {a : Option Addr} {n c : Nat} {l : List Int} (hs : Row .u32 w a n l) (hl : ∀ x ∈ l, IsLit x) :
    Calls Tryz.prog 73 #[.pointer (some ⟨B, 0, none⟩), .string s, .slice a n c] w fun e w' => (∃ v, e = .returned v) ∧ RNext w0 w B Bg (addOut N s l).1 w' := by
  have hmn := Lib.hid (fun w => rMayName_any s w)
  have hth := Lib.hid (rhas_any h.g (by omega) (cap := c) hs hl)
  have hlen := hs.len
  have hle := hs.le
  obtain ⟨ia, ic, ra, rc, oa, oc, -, -, ev, c0, -, -, -, c4, fz⟩ := h.cells
  have hlb := h.lt
  have hfi := Lib.hid (fun w2 (hb2 : Below w.heap.size w w2) => rFind_any (w0 := w0) (a := oa) (c := oc) (by have := h.outs.below hb2; rw [ev] at this; exact this) rfl s)
  have hbel := Lib.hid (fun w2 (hb2 : Below w.heap.size w w2) => RNext.of_below h hb2)
  have hrefl := Lib.hid (Below.refl w.heap.size w)
  unfold addOut
  rw [hlen]
  cases hmy : mayName s with
  | false =>
    rw [hmy] at hmn
    simp only [Bool.false_and, if_neg (show ¬ (false = true) by simp)]
    clear h hs hfi
    go_enter Tryz.func73, Tryz.ntmps73
    go_wp2_with (go_at_call 63; (with_reducible refine (hmn.out _).mono ?_); rintro e w2 ⟨rfl, rfl⟩)
    go_ret
    exact ⟨⟨_, rfl⟩, hbel.out _ hrefl.out⟩
  | true =>
    rw [hmy] at hmn
    cases hw : wide n with
    | false =>
      have hw2 : n < 1 ∨ (¬ n < 1 ∧ 64 < n) := by
        by_cases h1 : n < 1
        · exact .inl h1
        · refine .inr ⟨h1, ?_⟩
          by_cases h2 : 64 < n
          · exact h2
          · have := wide_iff.2 (show 1 ≤ (n : Int) ∧ (n : Int) ≤ 64 by omega)
            rw [hw] at this; cases this
      simp only [Bool.false_and, Bool.and_false, if_neg (show ¬ (false = true) by simp)]
      clear h hs hfi
      rcases hw2 with h1 | ⟨h1, h2⟩
      · have g1 : decide ((n : Int) < 1) = true := by simp; omega
        clear h1
        go_enter Tryz.func73, Tryz.ntmps73
        go_wp2_with (go_at_call 63; (with_reducible refine (hmn.out _).mono ?_); rintro e w2 ⟨rfl, rfl⟩)
        go_ret
        exact ⟨⟨_, rfl⟩, hbel.out _ hrefl.out⟩
      · have g1 : decide ((n : Int) < 1) = false := by simp; omega
        have g2 : decide (64 < (n : Int)) = true := by simp; omega
        clear h1 h2
        go_enter Tryz.func73, Tryz.ntmps73
        go_wp2_with (go_at_call 63; (with_reducible refine (hmn.out _).mono ?_); rintro e w2 ⟨rfl, rfl⟩)
        go_ret
        exact ⟨⟨_, rfl⟩, hbel.out _ hrefl.out⟩
    | true =>
      obtain ⟨hk1, hk2⟩ := wide_iff.1 hw
      have g1 : decide ((n : Int) < 1) = false := by simp; omega
      have g2 : decide (64 < (n : Int)) = false := by simp; omega
      cases hh : allHas N.g l with
      | false =>
        rw [hh] at hth
        simp only [Bool.false_and, Bool.and_false, if_neg (show ¬ (false = true) by simp)]
        clear h hs hfi
        go_enter Tryz.func73, Tryz.ntmps73
        go_wp2_with (first
          | (go_at_call 63; (with_reducible refine (hmn.out _).mono ?_); rintro e w2 ⟨rfl, rfl⟩)
          | (go_at_call 55; (with_reducible refine hth.out.mono ?_); rintro e w2 ⟨rfl, hB2⟩))
        go_ret
        exact ⟨⟨_, rfl⟩, hbel.out _ hB2⟩
      | true =>
        rw [hh] at hth
        simp only [Bool.true_and, if_true]
        cases he : atB N.outs s with
        | some j =>
          rw [he] at hfi
          simp only [Option.isSome_some, if_true] at hfi ⊢
          clear h hs
          go_enter Tryz.func73, Tryz.ntmps73
          go_wp2_with (first
            | (go_at_call 63; (with_reducible refine (hmn.out _).mono ?_); rintro e w2 ⟨rfl, rfl⟩)
            | (go_at_call 55; (with_reducible refine hth.out.mono ?_); rintro e w2 ⟨rfl, hB2⟩; have d4 := stepc hB2 hlb c4)
            | (go_at_call 106; (with_reducible refine (hfi.out _ hB2).mono ?_); rintro e w5 ⟨⟨a5, n5, c5, rfl⟩, rfl⟩))
          go_ret
          exact ⟨⟨_, rfl⟩, hbel.out _ hB2⟩
        | none =>
          rw [he] at hfi
          simp only [Option.isSome_none, if_neg (show ¬ (false = true) by simp)] at hfi ⊢
          exact rAddOut_push h hm ho s hs hl hmn hk1 hk2 hth he

/-! ### AddIn -/
theorem newL_take (G : Gr) (k : Nat) {j : Nat} (h : j ≤ k) : (newL G k).take j = newL G j := by
  unfold newL
  rw [← List.map_take, List.take_range, Nat.min_eq_left h]
/-- Some inputs are there, their literals beside them. -/
structure RFill (w0 w : World) (Bg : Nat) (G : Gr) (v : Value) (j : Nat) (wr : World) : Prop where
  g : ∃ g c, Rf w0 wr Bg g c G.fold G.hash (inputsN G j).nodes
  kept : Kept (RK w) w wr
  own : wr.ownsRow w.heap.size 39 1 v j ((newL G j).map (Value.int .u32))
theorem inputsN_fold (G : Gr) (j : Nat) : (inputsN G j).fold = G.fold ∧ (inputsN G j).hash = G.hash := ⟨(inputsN_le G j).fold, (inputsN_le G j).hash⟩
theorem RK.own {w0 w w2 : World} {Bg g c : Nat} {F H : Bool} {ns : List Nd} (_ : Rf w0 w Bg g c F H ns) {base n : Nat} {v : Value} {xs : List Value} (h : w.ownsRow base 39 1 v n xs) (hk : Kept (RK w) w w2) : w2.ownsRow base 39 1 v n xs :=
  own_keptF h hk (fun k e ⟨cur, T, fz, h1, h2⟩ => by
    obtain ⟨c, hc⟩ := own_type h e
    rw [hc] at h1; simp at h1
    obtain ⟨-, rfl, -⟩ := h1
    rcases h2 with h2 | h2 <;> revert h2 <;> decide)
theorem rfill_next {w0 w wr w7 w8 : World} {Bg j g7 c7 g8 cap8 sc : Nat} {G : Gr} {sa : Option Addr} {o : Obj} {xs : List Value} (hK : Kept (RK w) w wr) (hK7 : Kept (RK wr) wr w7) (hR7 : Rf w0 w7 Bg g7 c7 G.fold G.hash (inputsN G (j + 1)).nodes) (hO7 : w7.ownsRow w.heap.size 39 1 (.slice sa j sc) j xs)
    (hown8 : w8.ownsRow w.heap.size 39 1 (.slice (some ⟨g8, 0, none⟩) (j + 1) cap8) (j + 1) ((newL G (j + 1)).map (Value.int .u32))) (hg : (w7.alloc o).grownBy w8 (Value.slice sa j sc).ownBlock) (hw0 : w0.heap.size ≤ w.heap.size) : RFill w0 w Bg G (.slice (some ⟨g8, 0, none⟩) (j + 1) cap8) (j + 1) w8 := by
  have hb : Below w7.heap.size w7 (w7.alloc o) := (Below.refl _ _).alloc (Nat.le_refl _) _
  have kF : Kept (fun k => (Value.slice sa j sc).ownBlock = some k) (w7.alloc o) w8 := kept_grown hg
  have hge := own_ge hO7
  have hty : ∀ k, (Value.slice sa j sc).ownBlock = some k → ∃ c, (w7.alloc o).heap[k]? = some (.cells c 39 (0, 0)) := fun k e => own_type (hO7.alloc _) e
  have h7 := hR7.step hb
  refine ⟨⟨g7, c7, h7.kept kF (fun k e => Nat.le_trans hw0 (hge k e)) (fun e => ?_) (fun e => ?_)⟩, ?_, hown8⟩
  · obtain ⟨c, hc⟩ := hty _ e
    have := h7.box
    rw [hc] at this; simp at this
  · obtain ⟨c, hc⟩ := hty _ e
    obtain ⟨d, hd⟩ := h7.gty
    rw [hc] at hd; simp at hd
  · exact (RK.trans hK (RK.trans hK7 (RK.of_below hb))).trans kF (fun x hx => .inr (hge x hx))
set_option maxHeartbeats 2000000 in
theorem rAddIn_push {w0 w : World} {B Bg : Nat} {p : RPl} {N : Nt} (h : RN w0 w B Bg p N) (hm : N.g.nodes.length ≤ 190000) (ho : N.ins.length ≤ 10000) (s : ByteArray) {m : Nat}
    (hmn : Hid (∀ w, Calls Tryz.prog 63 #[.string s] w fun e w' => e = .returned (.bool true) ∧ w = w')) (hk1 : 1 ≤ (m : Int)) (hk2 : (m : Int) ≤ 64) (he : atB N.ins s = none) :
    Calls Tryz.prog 70 #[.pointer (some ⟨B, 0, none⟩), .string s, .int .i64 m] w fun e w' => (∃ v1 v2, e = .returned (.tuple #[v1, v2])) ∧ RNext w0 w B Bg { N with g := inputsN N.g m, ins := N.ins ++ [⟨s, newL N.g m⟩] } w' := by
  obtain ⟨ia, ic, ra, rc, oa, oc, ev, -, -, c0, -, c2, -, -, fz⟩ := h.cells
  have hlb := h.lt
  have hfi := Lib.hid (rFind_any (w0 := w0) (a := ia) (c := ic) (by have := h.ins; rw [ev] at this; exact this) rfl s)
  have hs0 := h.below.size
  have g1 : decide ((m : Int) < 1) = false := by simp; omega
  have g2 : decide (64 < (m : Int)) = false := by simp; omega
  rw [he] at hfi
  simp only [Option.isSome_none] at hfi
  obtain ⟨-, -, gc, -⟩ := h.g.cells
  have g3 : decide ((278528 : Int) < (N.g.nodes.length : Int) - 1 + m) = false := by simp; omega
  have hF0 : Hid (RFill w0 w Bg N.g (.slice none 0 0) 0 w) := Lib.hid ⟨⟨_, _, h.g⟩, RK.refl w, own_nil _ _ _⟩
  have hin := Lib.hid (fun (wr : World) (g c j : Nat) (hj : j ≤ m) (hR : Rf w0 wr Bg g c N.g.fold N.g.hash (inputsN N.g j).nodes) => rinput_val hR (by rw [inputsN_len]; omega))
  have hgrow := Lib.hid (fun (wr : World) (g c : Nat) (hR : Rf w0 wr Bg g c N.g.fold N.g.hash (inputsN N.g m).nodes) (hk : Kept (RK w) w wr) => h.grow (G' := inputsN N.g m) (by rw [(inputsN_fold N.g m).1, (inputsN_fold N.g m).2]; exact hR) hk)
  have hlen := Lib.hid (fun j => inputsN_len N.g j)
  have hns := Lib.hid (fun j => show (inputsN N.g (j + 1)).nodes = (inputsN N.g j).nodes ++ [⟨false, 0, 0⟩] from rfl)
  have hnl := Lib.hid (fun j => newL_succ N.g j)
  have hc0 := Lib.hid (fun (wr : World) (hk : Kept (RK w) w wr) => (show wr.cell? ⟨B, 0, none⟩ = some (.pointer (some ⟨Bg, 0, none⟩)) from by
    have hb := h.box
    have hbb := hk.block B h.lt (fun ⟨cur, T, fz, e1, e2⟩ => by rw [hb] at e1; simp [rnBox] at e1; obtain ⟨-, rfl, -⟩ := e1; rcases e2 with e2 | e2 <;> revert e2 <;> decide)
    simp only [World.cell?, hbb]
    simpa [World.cell?] using c0))
  obtain ⟨i0, hi, hz0, hz1, hz2⟩ := info_parts rinfo_bus
  obtain ⟨i1, hi1, hy0, hy1, hy2⟩ := info_parts info_u32
  clear fz h he
  generalize hnn : N.g.nodes.length = nn at *
  go_enter Tryz.func70, Tryz.ntmps70
  go_wp2_with (first
    | (go_at_call 63; (with_reducible refine (hmn.out _).mono ?_); rintro e w2 ⟨rfl, rfl⟩)
    | (go_at_call 106; (with_reducible refine hfi.out.mono ?_); rintro e w5 ⟨⟨a5, n5, c5, rfl⟩, rfl⟩))
  clear hfi hmn
  go_loopw [10, 11, 12, 13, 52] (fun s10 s11 _ _ _ wr => ∃ j : Nat, j ≤ m ∧ s11 = .int .i64 j ∧ Hid (RFill w0 w Bg N.g s10 j wr)) (fun _ s11 _ _ _ _ => m - (intOf s11).toNat)
  case atStart => exact ⟨0, Nat.zero_le _, rfl, hF0⟩
  case round =>
    clear hF0 gc g3
    obtain ⟨j, hj, rfl, hF⟩ := hrel
    obtain ⟨gg, cc, hR⟩ := hF.out.g
    have hKr := Lib.hid hF.out.kept
    have d0 := hc0.out _ hKr.out
    by_cases hlt : j < m
    · have hin1 := Lib.hid (hin.out _ _ _ j hj hR)
      have hRh := Lib.hid hR
      have hO := Lib.hid hF.out.own
      rw [hlen.out j] at hin1
      have hX : Hid (∃ x : Int, x = 2 * ((nn + j : Nat) : Int)) := Lib.hid ⟨_, rfl⟩
      obtain ⟨x, hx0⟩ := hX.out
      rw [← hx0] at hin1
      have hx := Lib.hid hx0
      clear hx0
      have hwz := hF.out.kept.size
      clear hin hc0 hF hR hX
      go_wp2_with (first
        | (go_at_call 75; (with_reducible refine hin1.out.mono ?_); rintro e w7 ⟨rfl, g7, c7, hR7, hK7⟩; have hO7 := RK.own hRh.out hO.out hK7; obtain ⟨sa, sc, rfl⟩ := own_slice hO7; have hO7 := Lib.hid hO7; have hR7 := Lib.hid hR7; have hw7 := hK7.size; have hK7 := Lib.hid hK7)
        | (at_builtin; refine wpList_append_lies _ rfl _ _ 45 rfl w.heap.size 39 i1 (.int .u32 0) 1 4 Tryz.underlying45 hi1 hy0 hy1 hy2 rfl (by decide) (.slice sa j sc) j _ rfl (hO7.out.alloc _) ⟨w7.heap.size, 0, none⟩ 1 1 [.int .u32 x] rfl rfl (news1 _ _ _) (by simp [Value.oneCell']) (by decide) (by unfold maxLen; omega) (by omega) (by simp; omega) _ rfl ?_; intro g8 cap8 w8 hown8 hgrow8 hat8 hlt8))
      refine ⟨⟨j + 1, by omega, by go_num, Lib.hid ?_⟩, by simp [intOf]; omega⟩
      refine rfill_next hKr.out hK7.out (by rw [hns.out]; exact hR7.out) hO7.out ?_ hgrow8 hs0
      rw [hnl.out, List.map_append, List.map_singleton, ← hx.out]
      exact hown8
    · obtain rfl : j = m := by omega
      have hO := hF.out.own
      obtain ⟨la, lc, rfl⟩ := own_slice hO
      have hUr : Hid (URow wr la j lc (newL N.g j)) := Lib.hid ⟨newL_len _ _, own_base hO (Nat.zero_le _)⟩
      have hP := hgrow.out _ _ _ hR hKr.out
      obtain ⟨ja, jc, sa, sc, ta, tc, ev2, -, -, -, -, d2, -, -, fz⟩ := hP.cells
      have f2 := fz 2
      obtain ⟨K, hK⟩ := hP.ins
      have hne : some B ≠ (Value.slice ja N.ins.length jc).ownBlock := by have := hP.far.1; rw [ev2] at this; exact fun e => this e.symm
      have hrow := Lib.hid (fun w2 (hb2 : Below wr.heap.size wr w2) => (show w2.ownsRow w0.heap.size 119 2 (.slice ja N.ins.length jc) N.ins.length (bvCells K) by have := (hK.below hb2).own; rw [ev2] at this; exact this))
      have hpush := Lib.hid (fun (wa w1 : World) (hb : Below wr.heap.size wr wa) (hl : URow wa la j lc (newL N.g j)) (g cap : Nat) hown hg hat => rn_ins (w1 := w1) hP hb hK (s := s) hl (g := g) (cap := cap) hown hg hat)
      rw [ev2] at hpush
      have hlr := hP.lt
      have hw0r := hP.below.size
      have hn3 := Lib.hid (fun o => (Below.refl wr.heap.size wr).alloc (Nat.le_refl _) o)
      simp only [] at d2 f2
      clear hP hK hR hF hO hin hc0 fz hgrow hns hnl hlen ev2
      generalize N.ins.length = k at *
      go_wp2_with (at_builtin; refine wpList_append_lies _ rfl _ _ 107 rfl w0.heap.size 119 i0 (.agg #[.string ByteArray.empty, .slice none 0 0]) 2 40 Tryz.underlying107 hi hz0 hz1 hz2 rfl (by decide) (.slice ja k jc) k (bvCells K) rfl (hrow.out _ (hn3.out _)) ⟨wr.heap.size, 0, none⟩ 1 1 [.string s, .slice la j lc] rfl rfl (news_list _ _ _) (by simp [Value.oneCell']) (by decide) (by unfold maxLen; omega) (by omega) (by simp; omega) _ rfl ?_; intro g1 cap1 w7 hown1 hgrow1 hat1 hlt1; obtain ⟨x0, x1⟩ := grow_box hgrow1 (b := B) (o := 2) (v := .slice ja k jc) (by go_simp) (by go_simp) hne)
      go_ret2
      have hq := hpush.out _ _ (hn3.out _) (hUr.out.below (hn3.out _)) _ _ hown1 hgrow1 hat1
      exact ⟨⟨_, _, rfl⟩, hq.1, DK.trans (DK.of_RK hKr.out) hq.2⟩
set_option maxHeartbeats 2000000 in
theorem rAddIn_any {w0 w : World} {B Bg : Nat} {p : RPl} {N : Nt} (h : RN w0 w B Bg p N) (hm : N.g.nodes.length ≤ 190000) (ho : N.ins.length ≤ 10000) (s : ByteArray) (kw : Int) :
    Calls Tryz.prog 70 #[.pointer (some ⟨B, 0, none⟩), .string s, .int .i64 kw] w fun e w' => (∃ v1 v2, e = .returned (.tuple #[v1, v2])) ∧ RNext w0 w B Bg (addIn N s kw).1 w' := by
  have hmn := Lib.hid (fun w => rMayName_any s w)
  obtain ⟨ia, ic, ra, rc, oa, oc, ev, -, -, c0, -, c2, -, -, fz⟩ := h.cells
  have hlb := h.lt
  have hfi := Lib.hid (rFind_any (w0 := w0) (a := ia) (c := ic) (by have := h.ins; rw [ev] at this; exact this) rfl s)
  have hbel := Lib.hid (RNext.of_below h (Below.refl w.heap.size w))
  unfold addIn
  cases hmy : mayName s with
  | false =>
    rw [hmy] at hmn
    simp only [Bool.false_and, if_neg (show ¬ (false = true) by simp)]
    clear h hfi
    go_enter Tryz.func70, Tryz.ntmps70
    go_wp2_with (go_at_call 63; (with_reducible refine (hmn.out _).mono ?_); rintro e w2 ⟨rfl, rfl⟩)
    all_goals go_ret2
    all_goals exact ⟨⟨_, _, rfl⟩, hbel.out⟩
  | true =>
    rw [hmy] at hmn
    cases hw : wide kw with
    | false =>
      have hw2 : kw < 1 ∨ (¬ kw < 1 ∧ 64 < kw) := by
        by_cases h1 : kw < 1
        · exact .inl h1
        · refine .inr ⟨h1, ?_⟩
          by_cases h2 : 64 < kw
          · exact h2
          · have := wide_iff.2 (show 1 ≤ kw ∧ kw ≤ 64 by omega)
            rw [hw] at this; cases this
      simp only [Bool.and_false, if_neg (show ¬ (false = true) by simp)]
      clear h hfi
      rcases hw2 with h1 | ⟨h1, h2⟩
      · have g1 : decide (kw < 1) = true := by simp; omega
        clear h1
        go_enter Tryz.func70, Tryz.ntmps70
        go_wp2_with (go_at_call 63; (with_reducible refine (hmn.out _).mono ?_); rintro e w2 ⟨rfl, rfl⟩)
        all_goals go_ret2
        all_goals exact ⟨⟨_, _, rfl⟩, hbel.out⟩
      · have g1 : decide (kw < 1) = false := by simp; omega
        have g2 : decide (64 < kw) = true := by simp; omega
        clear h1 h2
        go_enter Tryz.func70, Tryz.ntmps70
        go_wp2_with (go_at_call 63; (with_reducible refine (hmn.out _).mono ?_); rintro e w2 ⟨rfl, rfl⟩)
        all_goals go_ret2
        all_goals exact ⟨⟨_, _, rfl⟩, hbel.out⟩
    | true =>
      obtain ⟨hk1, hk2⟩ := wide_iff.1 hw
      obtain ⟨m, rfl⟩ := Int.eq_ofNat_of_zero_le (show 0 ≤ kw by omega)
      simp only [Bool.true_and, if_true]
      cases he : atB N.ins s with
      | some j =>
        rw [he] at hfi
        simp only [Option.isSome_some, if_true] at hfi ⊢
        have g1 : decide ((m : Int) < 1) = false := by simp; omega
        have g2 : decide (64 < (m : Int)) = false := by simp; omega
        clear h
        go_enter Tryz.func70, Tryz.ntmps70
        go_wp2_with (first
          | (go_at_call 63; (with_reducible refine (hmn.out _).mono ?_); rintro e w2 ⟨rfl, rfl⟩)
          | (go_at_call 106; (with_reducible refine hfi.out.mono ?_); rintro e w5 ⟨⟨a5, n5, c5, rfl⟩, rfl⟩))
        all_goals go_ret2
        all_goals exact ⟨⟨_, _, rfl⟩, hbel.out⟩
      | none =>
        simp only [Option.isSome_none, if_neg (show ¬ (false = true) by simp)]
        rw [show ((m : Int)).toNat = m by omega]
        exact rAddIn_push h hm ho s hmn hk1 hk2 he

theorem rNew_any (w0 : World) {w : World} (h0 : Below w0.heap.size w0 w) (F H : Bool) {s : ByteArray} (hs : mayName s = true) :
    Calls Tryz.prog 29 #[.string s, .bool F, .bool H] w fun e w' => ∃ (B Bg : Nat) (p : RPl), e = .returned (.tuple #[.pointer (some ⟨B, 0, none⟩), .int .i64 0]) ∧ RN w0 w' B Bg p ⟨newG F H, s, [], [], []⟩ ∧ Below w.heap.size w w' := by
  have hmn := Lib.hid (fun w => rMayName_any s w)
  rw [hs] at hmn
  have hnw := Lib.hid (fun w2 (hb : Below w0.heap.size w0 w2) => rnew_any F H w0 w2 hb)
  have H0 := Lib.hid h0
  have hz := h0.size
  go_enter Tryz.func29, Tryz.ntmps29
  go_wp2_with (first
    | (go_at_call 63; (with_reducible refine (hmn.out _).mono ?_); rintro e w2 ⟨rfl, rfl⟩)
    | (go_at_call 64; (with_reducible refine (hnw.out _ H0.out).mono ?_); rintro e w3 ⟨Bg, g, c, rfl, hR, hb3⟩; have hR := Lib.hid hR; have hb3 := Lib.hid hb3))
  go_ret2
  have hb4 : Below w3.heap.size w3 (w3.alloc (.cells #[.pointer (some ⟨Bg, 0, none⟩), .string s, .slice none 0 0, .slice none 0 0, .slice none 0 0] 110)) := (Below.refl _ _).alloc (Nat.le_refl _) _
  have hb5 := hb3.out.size
  exact ⟨w3.heap.size, Bg, ⟨g, c, .slice none 0 0, .slice none 0 0, .slice none 0 0⟩, rfl, ⟨Deep.blk_alloc_new _ _, hR.out.step hb4, RBusRow.nil _ _, ⟨rfl, .inl ⟨rfl, rfl⟩⟩, RBusRow.nil _ _, fun k e => (by simp [Value.ownBlock] at e), by omega⟩, nextw hb3.out hb4⟩
end Go.Proofs.YtafoohdndlhbnaaGreat
end

section
namespace Go.Proofs.YtafoohdndlhbnaaGreat
open Go.RowKit Go.Maps Num Bits
set_option maxRecDepth 100000

def Wants_call (P : StV → Prop) : Prop := ∀ (w0 w : World) (B Bg : Nat) (p : RPl) (N : Nt) (rest : List Int) (s : StV), RN w0 w B Bg p N → Good N rest → Small N → StOk w s → P s →
    Calls Tryz.prog 31 #[.pointer (some ⟨B, 0, none⟩), stVal s] w fun e w' => (∃ v, e = .returned v) ∧ RNext w0 w B Bg (doesN N s).1 w'

theorem wants_0 : Wants_call (fun s => s.what = 0) := by
  intro w0 w B Bg p N rest s h hg hS hs hw
  obtain ⟨K, nm, n, a, b, c, la, ln, lc, zs⟩ := s
  obtain rfl : K = 0 := hw
  have hb1 : Below w.heap.size w (w.alloc (.cells #[.int .i64 0, .string nm, .int .i64 n, .int .u32 a, .int .u32 b, .int .u32 c, .slice la ln lc] 88)) := (Below.refl _ _).alloc (Nat.le_refl _) _
  have h1 := h.step hb1
  have hsg := hS.g
  have hsi := hS.ins
  have hsr := hS.regs
  have hso := hS.outs
  have hf := Lib.hid (fun w2 N2 (hn : RNext w0 (w.alloc (.cells #[.int .i64 0, .string nm, .int .i64 n, .int .u32 a, .int .u32 b, .int .u32 c, .slice la ln lc] 88)) B Bg N2 w2) => RNext.front hb1 hn)
  have hnw := Lib.hid (fun (w2 : World) o => (Below.refl w2.heap.size w2).alloc (Nat.le_refl _) o)
  have hc := Lib.hid (rAddIn_any h1 (by omega) (by omega) nm n)
  rw [show doesN N ⟨0, nm, n, a, b, c, la, ln, lc, zs⟩ = addIn N nm n from rfl]
  unfold stVal
  generalize (addIn N nm n).1 = N' at *
  clear h h1 hg hS hs hb1
  go_enter Tryz.func31, Tryz.ntmps31
  go_wp2_with (go_at_call 70; (with_reducible refine hc.out.mono ?_); rintro e w2 ⟨⟨v1, v2, rfl⟩, hn⟩)
  go_ret2
  exact ⟨⟨_, rfl⟩, hf.out _ _ hn⟩
theorem wants_1 : Wants_call (fun s => s.what = 1) := by
  intro w0 w B Bg p N rest s h hg hS hs hw
  obtain ⟨K, nm, n, a, b, c, la, ln, lc, zs⟩ := s
  obtain rfl : K = 1 := hw
  have hb1 : Below w.heap.size w (w.alloc (.cells #[.int .i64 1, .string nm, .int .i64 n, .int .u32 a, .int .u32 b, .int .u32 c, .slice la ln lc] 88)) := (Below.refl _ _).alloc (Nat.le_refl _) _
  have h1 := h.step hb1
  have hsg := hS.g
  have hsi := hS.ins
  have hsr := hS.regs
  have hso := hS.outs
  have hf := Lib.hid (fun w2 N2 (hn : RNext w0 (w.alloc (.cells #[.int .i64 1, .string nm, .int .i64 n, .int .u32 a, .int .u32 b, .int .u32 c, .slice la ln lc] 88)) B Bg N2 w2) => RNext.front hb1 hn)
  have hnw := Lib.hid (fun (w2 : World) o => (Below.refl w2.heap.size w2).alloc (Nat.le_refl _) o)
  have hc := Lib.hid (fun i => rAddReg_any h1 (by omega) (by omega) i)
  rw [show doesN N ⟨1, nm, n, a, b, c, la, ln, lc, zs⟩ = ((addReg N (n.tmod 2 != 0)).1, [(addReg N (n.tmod 2 != 0)).2], 0) from rfl]
  simp only []
  unfold stVal
  clear h h1 hg hS hs hb1
  go_enter Tryz.func31, Tryz.ntmps31
  go_wp2_with (go_at_call 71; (with_reducible refine (hc.out _).mono ?_); rintro e w2 ⟨⟨v1, v2, rfl⟩, hn⟩)
  go_ret2
  exact ⟨⟨_, rfl⟩, (hf.out _ _ hn).then (hnw.out _ _)⟩
theorem wants_2 : Wants_call (fun s => s.what = 2) := by
  intro w0 w B Bg p N rest s h hg hS hs hw
  obtain ⟨K, nm, n, a, b, c, la, ln, lc, zs⟩ := s
  obtain rfl : K = 2 := hw
  have hb1 : Below w.heap.size w (w.alloc (.cells #[.int .i64 2, .string nm, .int .i64 n, .int .u32 a, .int .u32 b, .int .u32 c, .slice la ln lc] 88)) := (Below.refl _ _).alloc (Nat.le_refl _) _
  have h1 := h.step hb1
  have hsg := hS.g
  have hsi := hS.ins
  have hsr := hS.regs
  have hso := hS.outs
  have hf := Lib.hid (fun w2 N2 (hn : RNext w0 (w.alloc (.cells #[.int .i64 2, .string nm, .int .i64 n, .int .u32 a, .int .u32 b, .int .u32 c, .slice la ln lc] 88)) B Bg N2 w2) => RNext.front hb1 hn)
  have hnw := Lib.hid (fun (w2 : World) o => (Below.refl w2.heap.size w2).alloc (Nat.le_refl _) o)
  have hc := Lib.hid (rSetReg_any h1 (by omega) (by omega) a b c hs.b hs.c)
  rw [show doesN N ⟨2, nm, n, a, b, c, la, ln, lc, zs⟩ = ((setReg N a b c).1, [], (setReg N a b c).2) from rfl]
  simp only []
  unfold stVal
  generalize (setReg N a b c).1 = N' at *
  clear h h1 hg hS hs hb1
  go_enter Tryz.func31, Tryz.ntmps31
  go_wp2_with (go_at_call 72; (with_reducible refine hc.out.mono ?_); rintro e w2 ⟨⟨v1, rfl⟩, hn⟩)
  go_ret2
  exact ⟨⟨_, rfl⟩, hf.out _ _ hn⟩
theorem wants_n : Wants_call (fun s => s.what ≠ 0 ∧ s.what ≠ 1 ∧ s.what ≠ 2 ∧ s.what ≠ 3 ∧ s.what ≠ 4 ∧ s.what ≠ 5 ∧ s.what ≠ 6 ∧ s.what ≠ 7 ∧ s.what ≠ 8) := by
  intro w0 w B Bg p N rest s h hg hS hs hw
  obtain ⟨K, nm, n, a, b, c, la, ln, lc, zs⟩ := s
  obtain ⟨k0, k1, k2, k3, k4, k5, k6, k7, k8⟩ := hw
  simp only [] at k0 k1 k2 k3 k4 k5 k6 k7 k8
  have hb1 : Below w.heap.size w (w.alloc (.cells #[.int .i64 K, .string nm, .int .i64 n, .int .u32 a, .int .u32 b, .int .u32 c, .slice la ln lc] 88)) := (Below.refl _ _).alloc (Nat.le_refl _) _
  have hf := Lib.hid (RNext.of_below h hb1)
  rw [show doesN N ⟨K, nm, n, a, b, c, la, ln, lc, zs⟩ = (N, [], 0) by unfold doesN; simp [k0, k1, k2, k3, k4, k5, k6, k7, k8]]
  unfold stVal
  simp only []
  have g0 := beqf k0
  have g1 := beqf k1
  have g2 := beqf k2
  have g3 := beqf k3
  have g4 := beqf k4
  have g5 := beqf k5
  have g6 := beqf k6
  have g7 := beqf k7
  have g8 := beqf k8
  clear h hg hS hs hb1
  go_enter Tryz.func31, Tryz.ntmps31
  go_wp2
  go_ret2
  exact ⟨⟨_, rfl⟩, hf.out⟩
set_option maxHeartbeats 2000000 in
theorem wants_4 : Wants_call (fun s => s.what = 4) := by
  intro w0 w B Bg p N rest s h hg hS hs hw
  obtain ⟨K, nm, n, a, b, c, la, ln, lc, zs⟩ := s
  obtain rfl : K = 4 := hw
  have hb1 : Below w.heap.size w (w.alloc (.cells #[.int .i64 4, .string nm, .int .i64 n, .int .u32 a, .int .u32 b, .int .u32 c, .slice la ln lc] 88)) := (Below.refl _ _).alloc (Nat.le_refl _) _
  have h1 := h.step hb1
  have hsg := hS.g
  have hsi := hS.ins
  have hsr := hS.regs
  have hso := hS.outs
  have hf := Lib.hid (fun w2 N2 (hn : RNext w0 (w.alloc (.cells #[.int .i64 4, .string nm, .int .i64 n, .int .u32 a, .int .u32 b, .int .u32 c, .slice la ln lc] 88)) B Bg N2 w2) => RNext.front hb1 hn)
  have hnw := Lib.hid (fun (w2 : World) o => (Below.refl w2.heap.size w2).alloc (Nat.le_refl _) o)
  have hbd := ((Below.refl (w.alloc (.cells #[.int .i64 4, .string nm, .int .i64 n, .int .u32 a, .int .u32 b, .int .u32 c, .slice la ln lc] 88)).heap.size (w.alloc (.cells #[.int .i64 4, .string nm, .int .i64 n, .int .u32 a, .int .u32 b, .int .u32 c, .slice la ln lc] 88))).alloc (Nat.le_refl _) (.cells #[.int .u32 b, .int .u32 c] 39)).drew
  have h2 := h1.step hbd
  have hma := Lib.hid (rmany_any (op := 1) rtwo_and' and_ok (by omega) h2.g hg.wf (by omega) hs.b hs.c (cap := 2) ((row2 (w.alloc (.cells #[.int .i64 4, .string nm, .int .i64 n, .int .u32 a, .int .u32 b, .int .u32 c, .slice la ln lc] 88)) b c 39).step ((Below.refl _ _).drew)))
  have hgr := Lib.hid (fun w2 g1 c1 (hR : Rf w0 w2 Bg g1 c1 (manyR andG N.g b c).fold (manyR andG N.g b c).hash (manyR andG N.g b c).nodes) hk => And.intro (h2.growN hR hk) (h2.grow hR hk).cells)
  have hrn : Hid ((doesN N ⟨4, nm, n, a, b, c, la, ln, lc, zs⟩).1 = { N with g := manyR andG N.g b c }) := Lib.hid (by
    show (gateN andG N b c).1 = _
    unfold gateN manyR
    split <;> rfl)
  rw [hrn.out]
  obtain ⟨-, -, -, -, -, -, -, -, -, c0, -⟩ := h1.cells
  have hlb := h1.lt
  generalize manyR andG N.g b c = G' at *
  have k0 : (w.alloc (.cells #[.int .i64 4, .string nm, .int .i64 n, .int .u32 a, .int .u32 b, .int .u32 c, .slice la ln lc] 88)).cell? ⟨w.heap.size, 0, none⟩ = some (.int .i64 4) := by simp [go_sem]
  have k4 : (w.alloc (.cells #[.int .i64 4, .string nm, .int .i64 n, .int .u32 a, .int .u32 b, .int .u32 c, .slice la ln lc] 88)).cell? ⟨w.heap.size, 4, none⟩ = some (.int .u32 b) := by simp [go_sem]
  have k5 : (w.alloc (.cells #[.int .i64 4, .string nm, .int .i64 n, .int .u32 a, .int .u32 b, .int .u32 c, .slice la ln lc] 88)).cell? ⟨w.heap.size, 5, none⟩ = some (.int .u32 c) := by simp [go_sem]
  have hsc : (w.alloc (.cells #[.int .i64 4, .string nm, .int .i64 n, .int .u32 a, .int .u32 b, .int .u32 c, .slice la ln lc] 88)).heap[w.heap.size]? = some (.cells #[.int .i64 4, .string nm, .int .i64 n, .int .u32 a, .int .u32 b, .int .u32 c, .slice la ln lc] 88 (0, 0)) := Deep.blk_alloc_new _ _
  generalize hw1 : w.alloc (.cells #[.int .i64 4, .string nm, .int .i64 n, .int .u32 a, .int .u32 b, .int .u32 c, .slice la ln lc] 88) = w1 at *
  have hbz : (w.heap.size : Nat) < w1.heap.size := World.block_lt_of_cell? w1 _ k4
  have hKK := Lib.hid (fun w3 (hn : Kept (RK (w1.alloc (.cells #[.int .u32 b, .int .u32 c] 39)).drew) (w1.alloc (.cells #[.int .u32 b, .int .u32 c] 39)).drew w3) => (show w3.cell? ⟨w.heap.size, 4, none⟩ = some (.int .u32 b) ∧ w3.cell? ⟨w.heap.size, 5, none⟩ = some (.int .u32 c) by
    have e0 := (hbd.block _ hbz).trans hsc
    have hk := hn.block w.heap.size (Nat.lt_of_lt_of_le hbz hbd.size) (fun ⟨cur, T, fz, e1, e2⟩ => by rw [e0] at e1; simp at e1; obtain ⟨-, rfl, -⟩ := e1; rcases e2 with e2 | e2 <;> revert e2 <;> decide)
    have e := hk.trans e0
    exact ⟨by simp [World.cell?, e], by simp [World.cell?, e]⟩))
  have hFr := Lib.hid (fun w3 N2 (hn : RNext w0 (w1.alloc (.cells #[.int .u32 b, .int .u32 c] 39)).drew B Bg N2 w3) => hf.out w3 N2 (RNext.front hbd hn))
  clear h h1 h2 hg hS hs hb1 hsc hbd hf
  unfold stVal
  go_enter Tryz.func31, Tryz.ntmps31
  go_upto_region 16 with fail
  go_region_held3 (fun w' => w'.cell? ⟨w.heap.size, 4, none⟩ = some (.int .u32 b) ∧ w'.cell? ⟨w.heap.size, 5, none⟩ = some (.int .u32 c) ∧ w'.cell? ⟨B, 0, none⟩ = some (.pointer (some ⟨Bg, 0, none⟩))) (go_keep) (first
    | (go_at_call 74; (with_reducible refine hma.out.mono ?_); rintro e w7 ⟨⟨v1, v2, rfl⟩, g7, c7, hR, hk7⟩; obtain ⟨n4, n5⟩ := hKK.out _ hk7; obtain ⟨hnx, ha⟩ := hgr.out _ _ _ hR hk7; obtain ⟨-, -, -, -, -, -, -, -, -, n0, -⟩ := ha; have hnx := Lib.hid hnx; clear hR hk7))
  all_goals go_wp2
  all_goals go_ret2
  all_goals exact ⟨⟨_, rfl⟩, (hFr.out _ _ hnx.out).then (hnw.out _ _)⟩
set_option maxHeartbeats 2000000 in
theorem wants_5 : Wants_call (fun s => s.what = 5) := by
  intro w0 w B Bg p N rest s h hg hS hs hw
  obtain ⟨K, nm, n, a, b, c, la, ln, lc, zs⟩ := s
  obtain rfl : K = 5 := hw
  have hb1 : Below w.heap.size w (w.alloc (.cells #[.int .i64 5, .string nm, .int .i64 n, .int .u32 a, .int .u32 b, .int .u32 c, .slice la ln lc] 88)) := (Below.refl _ _).alloc (Nat.le_refl _) _
  have h1 := h.step hb1
  have hsg := hS.g
  have hsi := hS.ins
  have hsr := hS.regs
  have hso := hS.outs
  have hf := Lib.hid (fun w2 N2 (hn : RNext w0 (w.alloc (.cells #[.int .i64 5, .string nm, .int .i64 n, .int .u32 a, .int .u32 b, .int .u32 c, .slice la ln lc] 88)) B Bg N2 w2) => RNext.front hb1 hn)
  have hnw := Lib.hid (fun (w2 : World) o => (Below.refl w2.heap.size w2).alloc (Nat.le_refl _) o)
  have hbd := ((Below.refl (w.alloc (.cells #[.int .i64 5, .string nm, .int .i64 n, .int .u32 a, .int .u32 b, .int .u32 c, .slice la ln lc] 88)).heap.size (w.alloc (.cells #[.int .i64 5, .string nm, .int .i64 n, .int .u32 a, .int .u32 b, .int .u32 c, .slice la ln lc] 88))).alloc (Nat.le_refl _) (.cells #[.int .u32 b, .int .u32 c] 39)).drew
  have h2 := h1.step hbd
  have hma := Lib.hid (rmany_any (op := 1) rtwo_and' and_ok (by omega) h2.g hg.wf (by omega) hs.b hs.c (cap := 2) ((row2 (w.alloc (.cells #[.int .i64 5, .string nm, .int .i64 n, .int .u32 a, .int .u32 b, .int .u32 c, .slice la ln lc] 88)) b c 39).step ((Below.refl _ _).drew)))
  have hgr := Lib.hid (fun w2 g1 c1 (hR : Rf w0 w2 Bg g1 c1 (manyR andG N.g b c).fold (manyR andG N.g b c).hash (manyR andG N.g b c).nodes) hk => And.intro (h2.growN hR hk) (h2.grow hR hk).cells)
  have hrn : Hid ((doesN N ⟨5, nm, n, a, b, c, la, ln, lc, zs⟩).1 = { N with g := manyR andG N.g b c }) := Lib.hid (by
    show (gateN andG N b c).1 = _
    unfold gateN manyR
    split <;> rfl)
  rw [hrn.out]
  obtain ⟨-, -, -, -, -, -, -, -, -, c0, -⟩ := h1.cells
  have hlb := h1.lt
  generalize manyR andG N.g b c = G' at *
  have k0 : (w.alloc (.cells #[.int .i64 5, .string nm, .int .i64 n, .int .u32 a, .int .u32 b, .int .u32 c, .slice la ln lc] 88)).cell? ⟨w.heap.size, 0, none⟩ = some (.int .i64 5) := by simp [go_sem]
  have k4 : (w.alloc (.cells #[.int .i64 5, .string nm, .int .i64 n, .int .u32 a, .int .u32 b, .int .u32 c, .slice la ln lc] 88)).cell? ⟨w.heap.size, 4, none⟩ = some (.int .u32 b) := by simp [go_sem]
  have k5 : (w.alloc (.cells #[.int .i64 5, .string nm, .int .i64 n, .int .u32 a, .int .u32 b, .int .u32 c, .slice la ln lc] 88)).cell? ⟨w.heap.size, 5, none⟩ = some (.int .u32 c) := by simp [go_sem]
  have hsc : (w.alloc (.cells #[.int .i64 5, .string nm, .int .i64 n, .int .u32 a, .int .u32 b, .int .u32 c, .slice la ln lc] 88)).heap[w.heap.size]? = some (.cells #[.int .i64 5, .string nm, .int .i64 n, .int .u32 a, .int .u32 b, .int .u32 c, .slice la ln lc] 88 (0, 0)) := Deep.blk_alloc_new _ _
  generalize hw1 : w.alloc (.cells #[.int .i64 5, .string nm, .int .i64 n, .int .u32 a, .int .u32 b, .int .u32 c, .slice la ln lc] 88) = w1 at *
  have hbz : (w.heap.size : Nat) < w1.heap.size := World.block_lt_of_cell? w1 _ k4
  have hKK := Lib.hid (fun w3 (hn : Kept (RK (w1.alloc (.cells #[.int .u32 b, .int .u32 c] 39)).drew) (w1.alloc (.cells #[.int .u32 b, .int .u32 c] 39)).drew w3) => (show w3.cell? ⟨w.heap.size, 4, none⟩ = some (.int .u32 b) ∧ w3.cell? ⟨w.heap.size, 5, none⟩ = some (.int .u32 c) by
    have e0 := (hbd.block _ hbz).trans hsc
    have hk := hn.block w.heap.size (Nat.lt_of_lt_of_le hbz hbd.size) (fun ⟨cur, T, fz, e1, e2⟩ => by rw [e0] at e1; simp at e1; obtain ⟨-, rfl, -⟩ := e1; rcases e2 with e2 | e2 <;> revert e2 <;> decide)
    have e := hk.trans e0
    exact ⟨by simp [World.cell?, e], by simp [World.cell?, e]⟩))
  have hFr := Lib.hid (fun w3 N2 (hn : RNext w0 (w1.alloc (.cells #[.int .u32 b, .int .u32 c] 39)).drew B Bg N2 w3) => hf.out w3 N2 (RNext.front hbd hn))
  clear h h1 h2 hg hS hs hb1 hsc hbd hf
  unfold stVal
  go_enter Tryz.func31, Tryz.ntmps31
  go_upto_region 16 with fail
  go_region_held3 (fun w' => w'.cell? ⟨w.heap.size, 4, none⟩ = some (.int .u32 b) ∧ w'.cell? ⟨w.heap.size, 5, none⟩ = some (.int .u32 c) ∧ w'.cell? ⟨B, 0, none⟩ = some (.pointer (some ⟨Bg, 0, none⟩))) (go_keep) (first
    | (go_at_call 74; (with_reducible refine hma.out.mono ?_); rintro e w7 ⟨⟨v1, v2, rfl⟩, g7, c7, hR, hk7⟩; obtain ⟨n4, n5⟩ := hKK.out _ hk7; obtain ⟨hnx, ha⟩ := hgr.out _ _ _ hR hk7; obtain ⟨-, -, -, -, -, -, -, -, -, n0, -⟩ := ha; have hnx := Lib.hid hnx; clear hR hk7))
  all_goals go_wp2
  all_goals go_ret2
  all_goals exact ⟨⟨_, rfl⟩, (hFr.out _ _ hnx.out).then (hnw.out _ _)⟩
set_option maxHeartbeats 2000000 in
theorem wants_6 : Wants_call (fun s => s.what = 6) := by
  intro w0 w B Bg p N rest s h hg hS hs hw
  obtain ⟨K, nm, n, a, b, c, la, ln, lc, zs⟩ := s
  obtain rfl : K = 6 := hw
  have hb1 : Below w.heap.size w (w.alloc (.cells #[.int .i64 6, .string nm, .int .i64 n, .int .u32 a, .int .u32 b, .int .u32 c, .slice la ln lc] 88)) := (Below.refl _ _).alloc (Nat.le_refl _) _
  have h1 := h.step hb1
  have hsg := hS.g
  have hsi := hS.ins
  have hsr := hS.regs
  have hso := hS.outs
  have hf := Lib.hid (fun w2 N2 (hn : RNext w0 (w.alloc (.cells #[.int .i64 6, .string nm, .int .i64 n, .int .u32 a, .int .u32 b, .int .u32 c, .slice la ln lc] 88)) B Bg N2 w2) => RNext.front hb1 hn)
  have hnw := Lib.hid (fun (w2 : World) o => (Below.refl w2.heap.size w2).alloc (Nat.le_refl _) o)
  have hbd := ((Below.refl (w.alloc (.cells #[.int .i64 6, .string nm, .int .i64 n, .int .u32 a, .int .u32 b, .int .u32 c, .slice la ln lc] 88)).heap.size (w.alloc (.cells #[.int .i64 6, .string nm, .int .i64 n, .int .u32 a, .int .u32 b, .int .u32 c, .slice la ln lc] 88))).alloc (Nat.le_refl _) (.cells #[.int .u32 b, .int .u32 c] 39)).drew
  have h2 := h1.step hbd
  have hma := Lib.hid (rmany_any (op := 1) rtwo_and' and_ok (by omega) h2.g hg.wf (by omega) hs.b hs.c (cap := 2) ((row2 (w.alloc (.cells #[.int .i64 6, .string nm, .int .i64 n, .int .u32 a, .int .u32 b, .int .u32 c, .slice la ln lc] 88)) b c 39).step ((Below.refl _ _).drew)))
  have hgr := Lib.hid (fun w2 g1 c1 (hR : Rf w0 w2 Bg g1 c1 (manyR andG N.g b c).fold (manyR andG N.g b c).hash (manyR andG N.g b c).nodes) hk => And.intro (h2.growN hR hk) (h2.grow hR hk).cells)
  have hrn : Hid ((doesN N ⟨6, nm, n, a, b, c, la, ln, lc, zs⟩).1 = { N with g := manyR andG N.g b c }) := Lib.hid (by
    show (gateN andG N b c).1 = _
    unfold gateN manyR
    split <;> rfl)
  rw [hrn.out]
  obtain ⟨-, -, -, -, -, -, -, -, -, c0, -⟩ := h1.cells
  have hlb := h1.lt
  generalize manyR andG N.g b c = G' at *
  have k0 : (w.alloc (.cells #[.int .i64 6, .string nm, .int .i64 n, .int .u32 a, .int .u32 b, .int .u32 c, .slice la ln lc] 88)).cell? ⟨w.heap.size, 0, none⟩ = some (.int .i64 6) := by simp [go_sem]
  have k4 : (w.alloc (.cells #[.int .i64 6, .string nm, .int .i64 n, .int .u32 a, .int .u32 b, .int .u32 c, .slice la ln lc] 88)).cell? ⟨w.heap.size, 4, none⟩ = some (.int .u32 b) := by simp [go_sem]
  have k5 : (w.alloc (.cells #[.int .i64 6, .string nm, .int .i64 n, .int .u32 a, .int .u32 b, .int .u32 c, .slice la ln lc] 88)).cell? ⟨w.heap.size, 5, none⟩ = some (.int .u32 c) := by simp [go_sem]
  have hsc : (w.alloc (.cells #[.int .i64 6, .string nm, .int .i64 n, .int .u32 a, .int .u32 b, .int .u32 c, .slice la ln lc] 88)).heap[w.heap.size]? = some (.cells #[.int .i64 6, .string nm, .int .i64 n, .int .u32 a, .int .u32 b, .int .u32 c, .slice la ln lc] 88 (0, 0)) := Deep.blk_alloc_new _ _
  generalize hw1 : w.alloc (.cells #[.int .i64 6, .string nm, .int .i64 n, .int .u32 a, .int .u32 b, .int .u32 c, .slice la ln lc] 88) = w1 at *
  have hbz : (w.heap.size : Nat) < w1.heap.size := World.block_lt_of_cell? w1 _ k4
  have hKK := Lib.hid (fun w3 (hn : Kept (RK (w1.alloc (.cells #[.int .u32 b, .int .u32 c] 39)).drew) (w1.alloc (.cells #[.int .u32 b, .int .u32 c] 39)).drew w3) => (show w3.cell? ⟨w.heap.size, 4, none⟩ = some (.int .u32 b) ∧ w3.cell? ⟨w.heap.size, 5, none⟩ = some (.int .u32 c) by
    have e0 := (hbd.block _ hbz).trans hsc
    have hk := hn.block w.heap.size (Nat.lt_of_lt_of_le hbz hbd.size) (fun ⟨cur, T, fz, e1, e2⟩ => by rw [e0] at e1; simp at e1; obtain ⟨-, rfl, -⟩ := e1; rcases e2 with e2 | e2 <;> revert e2 <;> decide)
    have e := hk.trans e0
    exact ⟨by simp [World.cell?, e], by simp [World.cell?, e]⟩))
  have hFr := Lib.hid (fun w3 N2 (hn : RNext w0 (w1.alloc (.cells #[.int .u32 b, .int .u32 c] 39)).drew B Bg N2 w3) => hf.out w3 N2 (RNext.front hbd hn))
  clear h h1 h2 hg hS hs hb1 hsc hbd hf
  unfold stVal
  go_enter Tryz.func31, Tryz.ntmps31
  go_upto_region 16 with fail
  go_region_held3 (fun w' => w'.cell? ⟨w.heap.size, 4, none⟩ = some (.int .u32 b) ∧ w'.cell? ⟨w.heap.size, 5, none⟩ = some (.int .u32 c) ∧ w'.cell? ⟨B, 0, none⟩ = some (.pointer (some ⟨Bg, 0, none⟩))) (go_keep) (first
    | (go_at_call 74; (with_reducible refine hma.out.mono ?_); rintro e w7 ⟨⟨v1, v2, rfl⟩, g7, c7, hR, hk7⟩; obtain ⟨n4, n5⟩ := hKK.out _ hk7; obtain ⟨hnx, ha⟩ := hgr.out _ _ _ hR hk7; obtain ⟨-, -, -, -, -, -, -, -, -, n0, -⟩ := ha; have hnx := Lib.hid hnx; clear hR hk7))
  all_goals go_wp2
  all_goals go_ret2
  all_goals exact ⟨⟨_, rfl⟩, (hFr.out _ _ hnx.out).then (hnw.out _ _)⟩
set_option maxHeartbeats 2000000 in
theorem wants_7 : Wants_call (fun s => s.what = 7) := by
  intro w0 w B Bg p N rest s h hg hS hs hw
  obtain ⟨K, nm, n, a, b, c, la, ln, lc, zs⟩ := s
  obtain rfl : K = 7 := hw
  have hb1 : Below w.heap.size w (w.alloc (.cells #[.int .i64 7, .string nm, .int .i64 n, .int .u32 a, .int .u32 b, .int .u32 c, .slice la ln lc] 88)) := (Below.refl _ _).alloc (Nat.le_refl _) _
  have h1 := h.step hb1
  have hsg := hS.g
  have hsi := hS.ins
  have hsr := hS.regs
  have hso := hS.outs
  have hf := Lib.hid (fun w2 N2 (hn : RNext w0 (w.alloc (.cells #[.int .i64 7, .string nm, .int .i64 n, .int .u32 a, .int .u32 b, .int .u32 c, .slice la ln lc] 88)) B Bg N2 w2) => RNext.front hb1 hn)
  have hnw := Lib.hid (fun (w2 : World) o => (Below.refl w2.heap.size w2).alloc (Nat.le_refl _) o)
  have hbd := ((Below.refl (w.alloc (.cells #[.int .i64 7, .string nm, .int .i64 n, .int .u32 a, .int .u32 b, .int .u32 c, .slice la ln lc] 88)).heap.size (w.alloc (.cells #[.int .i64 7, .string nm, .int .i64 n, .int .u32 a, .int .u32 b, .int .u32 c, .slice la ln lc] 88))).alloc (Nat.le_refl _) (.cells #[.int .u32 b, .int .u32 c] 39)).drew
  have h2 := h1.step hbd
  have hma := Lib.hid (rmany_any (op := 3) rtwo_xor xor_ok (by omega) h2.g hg.wf (by omega) hs.b hs.c (cap := 2) ((row2 (w.alloc (.cells #[.int .i64 7, .string nm, .int .i64 n, .int .u32 a, .int .u32 b, .int .u32 c, .slice la ln lc] 88)) b c 39).step ((Below.refl _ _).drew)))
  have hgr := Lib.hid (fun w2 g1 c1 (hR : Rf w0 w2 Bg g1 c1 (manyR xorG N.g b c).fold (manyR xorG N.g b c).hash (manyR xorG N.g b c).nodes) hk => And.intro (h2.growN hR hk) (h2.grow hR hk).cells)
  have hrn : Hid ((doesN N ⟨7, nm, n, a, b, c, la, ln, lc, zs⟩).1 = { N with g := manyR xorG N.g b c }) := Lib.hid (by
    show (gateN xorG N b c).1 = _
    unfold gateN manyR
    split <;> rfl)
  rw [hrn.out]
  obtain ⟨-, -, -, -, -, -, -, -, -, c0, -⟩ := h1.cells
  have hlb := h1.lt
  generalize manyR xorG N.g b c = G' at *
  have k0 : (w.alloc (.cells #[.int .i64 7, .string nm, .int .i64 n, .int .u32 a, .int .u32 b, .int .u32 c, .slice la ln lc] 88)).cell? ⟨w.heap.size, 0, none⟩ = some (.int .i64 7) := by simp [go_sem]
  have k4 : (w.alloc (.cells #[.int .i64 7, .string nm, .int .i64 n, .int .u32 a, .int .u32 b, .int .u32 c, .slice la ln lc] 88)).cell? ⟨w.heap.size, 4, none⟩ = some (.int .u32 b) := by simp [go_sem]
  have k5 : (w.alloc (.cells #[.int .i64 7, .string nm, .int .i64 n, .int .u32 a, .int .u32 b, .int .u32 c, .slice la ln lc] 88)).cell? ⟨w.heap.size, 5, none⟩ = some (.int .u32 c) := by simp [go_sem]
  have hsc : (w.alloc (.cells #[.int .i64 7, .string nm, .int .i64 n, .int .u32 a, .int .u32 b, .int .u32 c, .slice la ln lc] 88)).heap[w.heap.size]? = some (.cells #[.int .i64 7, .string nm, .int .i64 n, .int .u32 a, .int .u32 b, .int .u32 c, .slice la ln lc] 88 (0, 0)) := Deep.blk_alloc_new _ _
  generalize hw1 : w.alloc (.cells #[.int .i64 7, .string nm, .int .i64 n, .int .u32 a, .int .u32 b, .int .u32 c, .slice la ln lc] 88) = w1 at *
  have hbz : (w.heap.size : Nat) < w1.heap.size := World.block_lt_of_cell? w1 _ k4
  have hKK := Lib.hid (fun w3 (hn : Kept (RK (w1.alloc (.cells #[.int .u32 b, .int .u32 c] 39)).drew) (w1.alloc (.cells #[.int .u32 b, .int .u32 c] 39)).drew w3) => (show w3.cell? ⟨w.heap.size, 4, none⟩ = some (.int .u32 b) ∧ w3.cell? ⟨w.heap.size, 5, none⟩ = some (.int .u32 c) by
    have e0 := (hbd.block _ hbz).trans hsc
    have hk := hn.block w.heap.size (Nat.lt_of_lt_of_le hbz hbd.size) (fun ⟨cur, T, fz, e1, e2⟩ => by rw [e0] at e1; simp at e1; obtain ⟨-, rfl, -⟩ := e1; rcases e2 with e2 | e2 <;> revert e2 <;> decide)
    have e := hk.trans e0
    exact ⟨by simp [World.cell?, e], by simp [World.cell?, e]⟩))
  have hFr := Lib.hid (fun w3 N2 (hn : RNext w0 (w1.alloc (.cells #[.int .u32 b, .int .u32 c] 39)).drew B Bg N2 w3) => hf.out w3 N2 (RNext.front hbd hn))
  clear h h1 h2 hg hS hs hb1 hsc hbd hf
  unfold stVal
  go_enter Tryz.func31, Tryz.ntmps31
  go_upto_region 18 with fail
  go_region_held3 (fun w' => w'.cell? ⟨w.heap.size, 4, none⟩ = some (.int .u32 b) ∧ w'.cell? ⟨w.heap.size, 5, none⟩ = some (.int .u32 c) ∧ w'.cell? ⟨B, 0, none⟩ = some (.pointer (some ⟨Bg, 0, none⟩))) (go_keep) (first
    | (go_at_call 74; (with_reducible refine hma.out.mono ?_); rintro e w7 ⟨⟨v1, v2, rfl⟩, g7, c7, hR, hk7⟩; obtain ⟨n4, n5⟩ := hKK.out _ hk7; obtain ⟨hnx, ha⟩ := hgr.out _ _ _ hR hk7; obtain ⟨-, -, -, -, -, -, -, -, -, n0, -⟩ := ha; have hnx := Lib.hid hnx; clear hR hk7))
  all_goals go_wp2
  all_goals go_ret2
  all_goals exact ⟨⟨_, rfl⟩, (hFr.out _ _ hnx.out).then (hnw.out _ _)⟩
set_option maxHeartbeats 2000000 in
theorem wants_3 : Wants_call (fun s => s.what = 3) := by
  intro w0 w B Bg p N rest s h hg hS hs hw
  obtain ⟨K, nm, n, a, b, c, la, ln, lc, zs⟩ := s
  obtain rfl : K = 3 := hw
  have hb1 : Below w.heap.size w (w.alloc (.cells #[.int .i64 3, .string nm, .int .i64 n, .int .u32 a, .int .u32 b, .int .u32 c, .slice la ln lc] 88)) := (Below.refl _ _).alloc (Nat.le_refl _) _
  have h1 := h.step hb1
  have hsg := hS.g
  have hsi := hS.ins
  have hsr := hS.regs
  have hso := hS.outs
  have hf := Lib.hid (fun w2 N2 (hn : RNext w0 (w.alloc (.cells #[.int .i64 3, .string nm, .int .i64 n, .int .u32 a, .int .u32 b, .int .u32 c, .slice la ln lc] 88)) B Bg N2 w2) => RNext.front hb1 hn)
  have hnw := Lib.hid (fun (w2 : World) o => (Below.refl w2.heap.size w2).alloc (Nat.le_refl _) o)
  have hzs := hs.lits
  have hrow : Row .u32 w la ln zs := hs.row
  have hcp : ln ≤ lc := hs.cap
  have hlb := h1.lt
  have hmn70 : min ln 70 ≤ ln := Nat.min_le_left _ _
  have k0 : (w.alloc (.cells #[.int .i64 3, .string nm, .int .i64 n, .int .u32 a, .int .u32 b, .int .u32 c, .slice la ln lc] 88)).cell? ⟨w.heap.size, 0, none⟩ = some (.int .i64 3) := by simp [go_sem]
  have k1 : (w.alloc (.cells #[.int .i64 3, .string nm, .int .i64 n, .int .u32 a, .int .u32 b, .int .u32 c, .slice la ln lc] 88)).cell? ⟨w.heap.size, 1, none⟩ = some (.string nm) := by simp [go_sem]
  have k6 : (w.alloc (.cells #[.int .i64 3, .string nm, .int .i64 n, .int .u32 a, .int .u32 b, .int .u32 c, .slice la ln lc] 88)).cell? ⟨w.heap.size, 6, none⟩ = some (.slice la ln lc) := by simp [go_sem]
  rw [show (doesN N ⟨3, nm, n, a, b, c, la, ln, lc, zs⟩).1 = (addOut N nm (zs.take 70)).1 from rfl]
  have hle := hrow.le
  have hr70 : Row .u32 w la (min ln 70) (zs.take 70) := by
    have h := hrow.take (min ln 70) (Nat.min_le_left _ _)
    rw [show zs.take (min ln 70) = zs.take 70 by rw [← hrow.len, ← List.take_take]; simp [List.take_take, Nat.min_comm]] at h
    exact h
  have hsc : (w.alloc (.cells #[.int .i64 3, .string nm, .int .i64 n, .int .u32 a, .int .u32 b, .int .u32 c, .slice la ln lc] 88)).heap[w.heap.size]? = some (.cells #[.int .i64 3, .string nm, .int .i64 n, .int .u32 a, .int .u32 b, .int .u32 c, .slice la ln lc] 88 (0, 0)) := Deep.blk_alloc_new _ _
  generalize hw1 : w.alloc (.cells #[.int .i64 3, .string nm, .int .i64 n, .int .u32 a, .int .u32 b, .int .u32 c, .slice la ln lc] 88) = w1 at *
  have hbz : (w.heap.size : Nat) < w1.heap.size := World.block_lt_of_cell? w1 _ k1
  have hdr := (Below.refl w1.heap.size w1).drew
  have hc := Lib.hid (rAddOut_any (h1.step hdr) (by omega) (by omega) nm (c := lc) ((hr70.step hb1).step hdr) (fun x hx => hzs x (List.mem_of_mem_take hx)))
  have hKK := Lib.hid (fun w3 (hn : Kept (DK w1.drew) w1.drew w3) => (show w3.cell? ⟨w.heap.size, 1, none⟩ = some (.string nm) ∧ w3.cell? ⟨w.heap.size, 6, none⟩ = some (.slice la ln lc) by
    have e0 := (hdr.block _ hbz).trans hsc
    have hk := hn.block w.heap.size (Nat.lt_of_lt_of_le hbz hdr.size) (fun ⟨cur, T, fz, e1, e2⟩ => by rw [e0] at e1; simp at e1; obtain ⟨-, rfl, -⟩ := e1; rcases e2 with e2 | e2 | e2 | e2 | e2 <;> revert e2 <;> decide)
    have e := hk.trans e0
    exact ⟨by simp [World.cell?, e], by simp [World.cell?, e]⟩))
  have hFr := Lib.hid (fun w3 N2 (hn : RNext w0 w1.drew B Bg N2 w3) => hf.out w3 N2 (RNext.front hdr hn))
  generalize (addOut N nm (zs.take 70)).1 = rN at *
  clear h h1 hg hS hs hb1 hsc hrow hzs hr70 hf
  unfold stVal
  by_cases h7 : ln ≤ 70
  · have e7 : min ln 70 = ln := by omega
    rw [e7] at hc
    have g7 : min (ln : Int) 70 = ln := by omega
    have i0 : ¬ (70 : Int) < (ln : Int) := by omega
    have i1 : (0 : Int) ≤ (ln : Int) := by omega
    have i2 : (ln : Int) ≤ (lc : Int) := by omega
    go_enter Tryz.func31, Tryz.ntmps31
    go_upto_region 12 with fail
    go_region_held3 (fun w' => w'.cell? ⟨w.heap.size, 1, none⟩ = some (.string nm) ∧ w'.cell? ⟨w.heap.size, 6, none⟩ = some (.slice la ln lc)) (go_keep) (first
      | (go_at_call 73; (with_reducible refine hc.out.mono ?_); rintro e w7 ⟨⟨v1, rfl⟩, hn⟩; obtain ⟨n1, n6⟩ := hKK.out _ hn.2; have hn := Lib.hid hn))
    all_goals go_wp2
    all_goals go_ret2
    all_goals exact ⟨⟨_, rfl⟩, hFr.out _ _ hn.out⟩
  · have e7 : min ln 70 = 70 := by omega
    rw [e7] at hc
    have g7 : min (ln : Int) 70 = 70 := by omega
    have i0 : (70 : Int) < (ln : Int) := by omega
    have i1 : (0 : Int) ≤ (lc : Int) := by omega
    have i2 : (70 : Int) ≤ (lc : Int) := by omega
    go_enter Tryz.func31, Tryz.ntmps31
    go_upto_region 12 with fail
    go_region_held3 (fun w' => w'.cell? ⟨w.heap.size, 1, none⟩ = some (.string nm) ∧ w'.cell? ⟨w.heap.size, 6, none⟩ = some (.slice la ln lc)) (go_keep) (first
      | (go_at_call 73; (with_reducible refine hc.out.mono ?_); rintro e w7 ⟨⟨v1, rfl⟩, hn⟩; obtain ⟨n1, n6⟩ := hKK.out _ hn.2; have hn := Lib.hid hn))
    all_goals go_wp2
    all_goals go_ret2
    all_goals exact ⟨⟨_, rfl⟩, hFr.out _ _ hn.out⟩

theorem Wants_any : Wants_call (fun s => s.what ≠ 8) := by
  intro w0 w B Bg p N rest s h hg hS hs h8
  by_cases h0 : s.what = 0
  · exact wants_0 w0 w B Bg p N rest s h hg hS hs h0
  by_cases h1 : s.what = 1
  · exact wants_1 w0 w B Bg p N rest s h hg hS hs h1
  by_cases h2 : s.what = 2
  · exact wants_2 w0 w B Bg p N rest s h hg hS hs h2
  by_cases h3 : s.what = 3
  · exact wants_3 w0 w B Bg p N rest s h hg hS hs h3
  by_cases h4 : s.what = 4
  · exact wants_4 w0 w B Bg p N rest s h hg hS hs h4
  by_cases h5 : s.what = 5
  · exact wants_5 w0 w B Bg p N rest s h hg hS hs h5
  by_cases h6 : s.what = 6
  · exact wants_6 w0 w B Bg p N rest s h hg hS hs h6
  by_cases h7 : s.what = 7
  · exact wants_7 w0 w B Bg p N rest s h hg hS hs h7
  exact wants_n w0 w B Bg p N rest s h hg hS hs ⟨h0, h1, h2, h3, h4, h5, h6, h7, h8⟩
theorem wants_8 : Wants_call (fun s => s.what = 8) := by
  intro w0 w B Bg p N rest s h hg hS hs hw
  obtain ⟨K, nm, n, a, b, c, la, ln, lc, zs⟩ := s
  obtain rfl : K = 8 := hw
  have hb1 : Below w.heap.size w (w.alloc (.cells #[.int .i64 8, .string nm, .int .i64 n, .int .u32 a, .int .u32 b, .int .u32 c, .slice la ln lc] 88)) := (Below.refl _ _).alloc (Nat.le_refl _) _
  have h1 := h.step hb1
  have hsg := hS.g
  have hsi := hS.ins
  have hsr := hS.regs
  have hso := hS.outs
  have hf := Lib.hid (fun w2 N2 (hn : RNext w0 (w.alloc (.cells #[.int .i64 8, .string nm, .int .i64 n, .int .u32 a, .int .u32 b, .int .u32 c, .slice la ln lc] 88)) B Bg N2 w2) => RNext.front hb1 hn)
  have hnw := Lib.hid (fun (w2 : World) o => (Below.refl w2.heap.size w2).alloc (Nat.le_refl _) o)
  obtain ⟨-, -, -, -, -, -, -, -, -, c0, -⟩ := h1.cells
  have hma := Lib.hid (rinput_val h1.g (by omega))
  have hgr := Lib.hid (fun w2 g1 c1 (hR : Rf w0 w2 Bg g1 c1 N.g.fold N.g.hash (N.g.nodes ++ [⟨false, 0, 0⟩])) hk => h1.growN (G' := inputG N.g) hR hk)
  rw [show doesN N ⟨8, nm, n, a, b, c, la, ln, lc, zs⟩ = ({ N with g := inputG N.g }, [2 * (N.g.nodes.length : Int)], 0) from rfl]
  simp only []
  unfold stVal
  clear h h1 hg hS hs hb1
  go_enter Tryz.func31, Tryz.ntmps31
  go_wp2_with (go_at_call 75; (with_reducible refine hma.out.mono ?_); rintro e w2 ⟨rfl, g1, c1, hR, hk⟩; have hn := Lib.hid (hgr.out _ _ _ hR hk); clear hR hk)
  go_ret2
  exact ⟨⟨_, rfl⟩, (hf.out _ _ hn.out).then (hnw.out _ _)⟩
theorem Wants_all : Wants_call (fun _ => True) := by
  intro w0 w B Bg p N rest s h hg hS hs _
  by_cases h8 : s.what = 8
  · exact wants_8 w0 w B Bg p N rest s h hg hS hs h8
  · exact Wants_any w0 w B Bg p N rest s h hg hS hs h8
end Go.Proofs.YtafoohdndlhbnaaGreat
end
