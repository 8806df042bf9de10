/-
  The document's own netlist: SetReg, AddIn, AddOut, New.
  The document's text: digits; literals, a blank ahead of each.
  The document's text: literals, a blank ahead of each.
  The document's lines, plainly.
-/
import Derived.Test.YtafoohdndlhbnaaGreatDoorFENQ
import Derived.Test.YtafoohdndlhbnaaGreatDoorFENH
import Derived.Test.YtafoohdndlhbnaaGreatDoorFENL
import Derived.Test.YtafoohdndlhbnaaGreatDoorFENN
section
namespace Go.Proofs.YtafoohdndlhbnaaGreatDoor
open Go.RowKit Go.Maps Num Bits
set_option maxRecDepth 100000

theorem setReg_no {N : Nt} {x d en : Int} (h : allHas N.g [d, en] = false) : (setReg N x d en).1 = N := by
  unfold setReg
  split
  · rfl
  · rw [if_neg (by simp [h])]
theorem setReg_miss {N : Nt} {x d en : Int} (h : regAt N.regs x = none) : (setReg N x d en).1 = N := by
  unfold setReg
  rw [h]
theorem setReg_hit {N : Nt} {x d en : Int} {i : Nat} (h : regAt N.regs x = some i) (ha : allHas N.g [d, en] = true) : (setReg N x d en).1 = { N with regs := N.regs.modify i (setRg d en) } := by
  unfold setReg
  rw [h]
  simp only [ha, if_true]

set_option maxHeartbeats 1000000 in
theorem rSetReg_any {w0 w : World} {B Bg : Nat} {p : RPl} {N : Nt} (h : RN w0 w B Bg p N) (hm : N.g.nodes.length ≤ 190000) (hr : N.regs.length ≤ 10000) (x d en : Int) (hd : IsLit d) (he : IsLit en) :
    Calls Tryz.prog 107 #[.pointer (some ⟨B, 0, none⟩), .int .u32 x, .int .u32 d, .int .u32 en] w fun e w' => (∃ v, e = .returned v) ∧ RNext w0 w B Bg (setReg N x d en).1 w' := by
  have hb : Below w.heap.size w (w.alloc (.cells #[.int .u32 d, .int .u32 en] 65)) := (Below.refl _ _).alloc (Nat.le_refl _) _
  have hth := Lib.hid (rhas_any (h.step hb).g (by omega) (cap := 2) (row2 w d en 65) (by intro z hz; simp at hz; rcases hz with rfl | rfl <;> assumption))
  obtain ⟨ia, ic, ra, rc, oa, oc, -, ev, -, c0, -, -, c3, -, -⟩ := h.cells
  have hlb := h.lt
  have hbel := Lib.hid (fun w2 (hb2 : Below w.heap.size w w2) => RNext.of_below h hb2)
  cases hA : allHas N.g [d, en] with
  | false =>
    rw [hA] at hth
    rw [setReg_no hA]
    have hb := Lib.hid hb
    clear h
    go_enter Tryz.func107, Tryz.ntmps107
    go_wp2_with (go_at_call 118; (with_reducible refine hth.out.mono ?_); rintro e w2 ⟨rfl, hB2⟩)
    go_ret
    exact ⟨⟨_, rfl⟩, hbel.out _ (nextw hb.out hB2)⟩
  | true =>
    rw [hA] at hth
    have hb := Lib.hid hb
    have HR : Hid (RRegRow w0 w (.slice ra N.regs.length rc) N.regs) := Lib.hid (by have := h.regs; rw [ev] at this; exact this)
    have hset := Lib.hid (fun w2 (hb2 : Below w.heap.size w w2) (g : Nat) (hg : ra = some ⟨g, 0, none⟩) (i : Nat) => rn_set (h.step hb2) (g := g) (rc := rc) (n := N.regs.length) (by rw [ev, hg]) i d en)
    have hA := Lib.hid hA
    have hfz := Lib.hid (fun w2 (hb2 : Below w.heap.size w w2) (g : Nat) (hg : ra = some ⟨g, 0, none⟩) o => (show w2.frozen? ⟨g, o, none⟩ = false from by
      have := own_below HR.out hb2
      rw [hg] at this
      exact this.frozenAt o))
    have hfar : Hid (∀ g, ra = some ⟨g, 0, none⟩ → g ≠ B ∧ B ≠ g) := Lib.hid (fun g hg => by
      have := h.far.2.1
      rw [ev, hg] at this
      simp [Value.ownBlock] at this
      exact ⟨this, fun e => this e.symm⟩)
    have hhit := Lib.hid (fun (j : Nat) (e : regAt N.regs x = some j) => setReg_hit (en := en) e hA.out)
    have hmiss := Lib.hid (fun (e : regAt N.regs x = none) => @setReg_miss N x d en e)
    generalize (setReg N x d en).1 = N' at *
    have hlen : ∀ k, k < N.regs.length ↔ k < N.regs.length := fun _ => Iff.rfl
    obtain ⟨nr, hnr⟩ : ∃ nr, N.regs.length = nr := ⟨_, rfl⟩
    have HN := Lib.hid hnr
    rw [hnr] at c3 hr HR
    clear h hlen hd he hA hnr hm
    go_enter Tryz.func107, Tryz.ntmps107
    go_wp2_with (go_at_call 118; (with_reducible refine hth.out.mono ?_); rintro e w2 ⟨rfl, hB2⟩; have hB3 := nextw hb.out hB2; have d3 := stepc hB3 hlb c3; have hB3 := Lib.hid hB3; clear hB2)
    go_loopw [9] (fun s9 wr => wr = w2 ∧ ∃ j : Nat, j ≤ nr ∧ s9 = .int .i64 j ∧ Hid (NoReg N.regs x j)) (fun s9 _ => nr - (intOf s9).toNat)
    case atStart => exact ⟨rfl, 0, Nat.zero_le _, rfl, Lib.hid (fun i _ hi => by omega)⟩
    case round =>
      obtain ⟨rfl, j, hj, rfl, hy⟩ := hrel
      by_cases hlt : j < nr
      · have hjL : j < N.regs.length := by rw [HN.out]; exact hlt
        obtain ⟨g, hra, hgl, b0, b1, b2, b3⟩ := RRegRow.at (w0 := w0) (a := ra) (n := nr) (c := rc) (by have := HR.out; exact this) hjL
        obtain ⟨g1, g2⟩ := hfar.out g hra
        have f1 := hfz.out _ hB3.out g hra (j * 4 + 1)
        have f2 := hfz.out _ hB3.out g hra (j * 4 + 2)
        have b0 := stepc hB3.out hgl b0
        have b1 := stepc hB3.out hgl b1
        have b2 := stepc hB3.out hgl b2
        have hse := Lib.hid (hset.out _ hB3.out g hra j)
        subst hra
        by_cases hq : (N.regs[j].q == x) = true
        · have hf := hhit.out j (regAt_hit hjL hq hy.out)
          rw [← hf] at hse
          generalize N.regs[j].q = r0 at *
          generalize N.regs[j].d = r1 at *
          generalize N.regs[j].en = r2 at *
          clear hf hhit hmiss hset hfz hfar HR hy hth
          go_wp2
          go_ret
          exact ⟨⟨_, rfl⟩, RNext.front hB3.out hse.out⟩
        · have hq : (N.regs[j].q == x) = false := by simpa using hq
          have hf := Lib.hid (hy.out.next hjL hq)
          generalize N.regs[j].q = r0 at *
          clear hse
          go_wp2
          exact ⟨⟨trivial, j + 1, by omega, by go_num, hf⟩, by simp [intOf]; omega⟩
      · obtain rfl : j = nr := by omega
        have hf := hmiss.out (regAt_miss (by rw [HN.out]; exact hy.out))
        have hf := Lib.hid hf
        go_wp2
        go_ret
        rw [hf.out]
        exact ⟨⟨_, rfl⟩, hbel.out _ hB3.out⟩

theorem row_all {w w' : World} {a : Option Addr} {n : Nat} {z : List Int} (h : Row .u32 w a n z) (hb : Below w.heap.size w w') : ∀ x, a = some x → ∀ (j : Nat) (u : Value), (z.map (Value.int .u32))[j]? = some u → w'.cell? (x.add j) = some u := by
  have := row_news h (Nat.le_refl n) hb
  rw [List.take_of_length_le (by rw [h.len]; exact Nat.le_refl _)] at this
  exact this
theorem u32_one (z : List Int) : ∀ u ∈ z.map (Value.int .u32), u.oneCell' = true := by
  intro u hu
  obtain ⟨v, -, rfl⟩ := List.mem_map.1 hu
  rfl
set_option maxHeartbeats 600000 in
theorem rAddOut_push {w0 w : World} {B Bg : Nat} {p : RPl} {N : Nt} (h : RN w0 w B Bg p N) (hm : N.g.nodes.length ≤ 190000) (ho : N.outs.length ≤ 10000) (s : ByteArray) {a : Option Addr} {n c : Nat} {l : List Int} (hs : Row .u32 w a n l) (hl : ∀ x ∈ l, IsLit x)
    (hmn : Hid (∀ w, Calls Tryz.prog 100 #[.string s] w fun e w' => e = .returned (.bool true) ∧ w = w')) (hk1 : 1 ≤ (n : Int)) (hk2 : (n : Int) ≤ 64)
    (hth : Hid (Calls Tryz.prog 118 #[.pointer (some ⟨Bg, 0, none⟩), .slice a n c] w fun e w' => e = .returned (.bool true) ∧ Below w.heap.size w w')) (he : atB N.outs s = none) :
    Calls Tryz.prog 108 #[.pointer (some ⟨B, 0, none⟩), .string s, .slice a n c] w fun e w' => (∃ v, e = .returned v) ∧ RNext w0 w B Bg { N with outs := N.outs ++ [⟨s, l⟩] } w' := by
  have hlen := hs.len
  have hle := hs.le
  obtain ⟨ia, ic, ra, rc, oa, oc, -, -, ev, c0, -, -, -, c4, fz⟩ := h.cells
  have hlb := h.lt
  have hfi := Lib.hid (fun w2 (hb2 : Below w.heap.size w w2) => rFind_any (w0 := w0) (a := oa) (c := oc) (by have := h.outs.below hb2; rw [ev] at this; exact this) rfl s)
  have g1 : decide ((n : Int) < 1) = false := by simp; omega
  have g2 : decide (64 < (n : Int)) = false := by simp; omega
  rw [he] at hfi
  simp only [Option.isSome_none] at hfi
  obtain ⟨K, hK⟩ := h.outs
  obtain ⟨ab, off, rfl, hab, hcell⟩ := hs.at (by omega)
  have hnw := Lib.hid (fun w2 (hb2 : Below w.heap.size w w2) => row_all hs hb2 _ rfl)
  have hrow := Lib.hid (fun w2 (hb2 : Below w.heap.size w w2) => (show w2.ownsRow w0.heap.size 111 2 (.slice oa N.outs.length oc) N.outs.length (bvCells K) by have := (hK.below hb2).own; rw [ev] at this; exact this))
  have hpush := Lib.hid (fun (wa w1 : World) (hb : Below w.heap.size w wa) (la : Option Addr) (lc : Nat) (hl : URow wa la n lc l) (g cap : Nat) hown hg hat => rn_outs (w1 := w1) h hb hK (s := s) hl (g := g) (cap := cap) hown hg hat)
  rw [ev] at hpush
  have hne : some B ≠ (Value.slice oa N.outs.length oc).ownBlock := by have := h.far.2.2; rw [ev] at this; exact fun e => this e.symm
  have f4 := fz 4
  have hs0 := h.below.size
  obtain ⟨i0, hi, hz0, hz1, hz2⟩ := info_parts rinfo_bus
  obtain ⟨i1, hi1, hy0, hy1, hy2⟩ := info_parts info_u32
  have hone := u32_one l
  have hll : (l.map (Value.int .u32)).length = n := by simp [hlen]
  have hlen := Lib.hid hlen
  clear h hs hK fz hl hcell
  generalize hLL : l.map (Value.int .u32) = LL at *
  have hLL := Lib.hid hLL
  generalize N.outs.length = k at *
  go_enter Tryz.func108, Tryz.ntmps108
  go_upto_region 7 with (first
    | (go_at_call 100; (with_reducible refine (hmn.out _).mono ?_); rintro e w2 ⟨rfl, rfl⟩)
    | (go_at_call 118; (with_reducible refine hth.out.mono ?_); rintro e w2 ⟨rfl, hB2⟩; have d4 := stepc hB2 hlb c4)
    | (go_at_call 184; (with_reducible refine (hfi.out _ hB2).mono ?_); rintro e w5 ⟨⟨a5, n5, c5, rfl⟩, rfl⟩))
  have hB5 := Lib.hid hB2.drew
  clear hB2 hth hmn hfi
  go_region_law (first
    | (refine step_append_lies _ (by rfl) (.tmp 46) (.tmp 52) _ (by rfl) w0.heap.size 111 i0 (.agg #[.string ByteArray.empty, .slice none 0 0]) 2 40 Tryz.underlying106 hi hz0 hz1 hz2 rfl (by decide) (.slice oa k oc) k (bvCells K) (by rfl) (hrow.out _ (hb7.out.alloc hb7.out.size _)) ⟨w6.heap.size, 0, none⟩ 1 1 [.string s, .slice (some ⟨g3, 0, none⟩) n cap3] (by rfl) rfl (news_list _ _ _) (by simp [Value.oneCell']) (by decide) (by unfold maxLen; omega) (by omega) (by simp; omega) _ rfl ?_; intro g1 cap1 w7 hown1 hgrow1 hat1 hlt1; obtain ⟨x0, x1⟩ := grow_box hgrow1 (b := B) (o := 4) (v := .slice oa k oc) (by go_simp) (by go_simp) hne)
    | (have hz := hnw; refine step_append_lies _ (by rfl) (.tmp 48) (.tmp 49) _ (by rfl) 0 65 i1 (.int .u32 0) 1 4 Tryz.underlying100 hi1 hy0 hy1 hy2 rfl (by decide) (.slice none 0 0) 0 [] (by (try simp only [List.getElem_toArray, List.getElem_cons_succ, List.getElem_cons_zero, Act.put, List.setIfInBounds_toArray, List.set_cons_succ, List.set_cons_zero]); rfl) (own_nil _ _ _) ⟨ab, off, none⟩ n c LL (by (try simp only [List.getElem_toArray, List.getElem_cons_succ, List.getElem_cons_zero, Act.put, List.setIfInBounds_toArray, List.set_cons_succ, List.set_cons_zero]); rfl) (by omega) (hnw.out _ hB5.out) hone (by omega) (by unfold maxLen; omega) (by omega) (Nat.zero_le _) _ rfl ?_; intro g3 cap3 w6 hown3 hgrow3 hat3 hlt3; have hb7 := hB5.out.grown hgrow3 hB5.out.size (fun k hk => by simp [Value.ownBlock] at hk); have f5 := stepc hb7 hlb c4; have ff5 := ((bcell hb7).2 B 4 hlb).trans f4; have hlr := Lib.hid (show URow w6 (some ⟨g3, 0, none⟩) n cap3 l from ⟨hlen.out, by rw [hLL.out]; simpa using hown3⟩); have hlb6 : B < w6.heap.size := Nat.lt_of_lt_of_le hlb hb7.size; have hb7 := Lib.hid hb7; have hs6 : w0.heap.size ≤ w6.heap.size := (by have := hb7.out.size; omega); clear hown3 hgrow3 hat3 hnw hz))
  all_goals go_wp2
  all_goals go_ret
  all_goals
    have hq := hpush.out _ _ (hb7.out.alloc hb7.out.size _) _ _ (hlr.out.below ((Below.refl _ _).alloc (Nat.le_refl _) _)) _ _ hown1 hgrow1 hat1
    exact ⟨⟨_, rfl⟩, hq⟩
set_option maxHeartbeats 2000000 in
theorem rAddOut_any {w0 w : World} {B Bg : Nat} {p : RPl} {N : Nt} (h : RN w0 w B Bg p N) (hm : N.g.nodes.length ≤ 190000) (ho : N.outs.length ≤ 10000) (s : ByteArray) {a : Option Addr} {n c : Nat} {l : List Int} (hs : Row .u32 w a n l) (hl : ∀ x ∈ l, IsLit x) :
    Calls Tryz.prog 108 #[.pointer (some ⟨B, 0, none⟩), .string s, .slice a n c] w fun e w' => (∃ v, e = .returned v) ∧ RNext w0 w B Bg (addOut N s l).1 w' := by
  have hmn := Lib.hid (fun w => rMayName_any s w)
  have hth := Lib.hid (rhas_any h.g (by omega) (cap := c) hs hl)
  have hlen := hs.len
  have hle := hs.le
  obtain ⟨ia, ic, ra, rc, oa, oc, -, -, ev, c0, -, -, -, c4, fz⟩ := h.cells
  have hlb := h.lt
  have hfi := Lib.hid (fun w2 (hb2 : Below w.heap.size w w2) => rFind_any (w0 := w0) (a := oa) (c := oc) (by have := h.outs.below hb2; rw [ev] at this; exact this) rfl s)
  have hbel := Lib.hid (fun w2 (hb2 : Below w.heap.size w w2) => RNext.of_below h hb2)
  have hrefl := Lib.hid (Below.refl w.heap.size w)
  unfold addOut
  rw [hlen]
  cases hmy : mayName s with
  | false =>
    rw [hmy] at hmn
    simp only [Bool.false_and, if_neg (show ¬ (false = true) by simp)]
    clear h hs hfi
    go_enter Tryz.func108, Tryz.ntmps108
    go_wp2_with (go_at_call 100; (with_reducible refine (hmn.out _).mono ?_); rintro e w2 ⟨rfl, rfl⟩)
    go_ret
    exact ⟨⟨_, rfl⟩, hbel.out _ hrefl.out⟩
  | true =>
    rw [hmy] at hmn
    cases hw : wide n with
    | false =>
      have hw2 : n < 1 ∨ (¬ n < 1 ∧ 64 < n) := by
        by_cases h1 : n < 1
        · exact .inl h1
        · refine .inr ⟨h1, ?_⟩
          by_cases h2 : 64 < n
          · exact h2
          · have := wide_iff.2 (show 1 ≤ (n : Int) ∧ (n : Int) ≤ 64 by omega)
            rw [hw] at this; cases this
      simp only [Bool.false_and, Bool.and_false, if_neg (show ¬ (false = true) by simp)]
      clear h hs hfi
      rcases hw2 with h1 | ⟨h1, h2⟩
      · have g1 : decide ((n : Int) < 1) = true := by simp; omega
        clear h1
        go_enter Tryz.func108, Tryz.ntmps108
        go_wp2_with (go_at_call 100; (with_reducible refine (hmn.out _).mono ?_); rintro e w2 ⟨rfl, rfl⟩)
        go_ret
        exact ⟨⟨_, rfl⟩, hbel.out _ hrefl.out⟩
      · have g1 : decide ((n : Int) < 1) = false := by simp; omega
        have g2 : decide (64 < (n : Int)) = true := by simp; omega
        clear h1 h2
        go_enter Tryz.func108, Tryz.ntmps108
        go_wp2_with (go_at_call 100; (with_reducible refine (hmn.out _).mono ?_); rintro e w2 ⟨rfl, rfl⟩)
        go_ret
        exact ⟨⟨_, rfl⟩, hbel.out _ hrefl.out⟩
    | true =>
      obtain ⟨hk1, hk2⟩ := wide_iff.1 hw
      have g1 : decide ((n : Int) < 1) = false := by simp; omega
      have g2 : decide (64 < (n : Int)) = false := by simp; omega
      cases hh : allHas N.g l with
      | false =>
        rw [hh] at hth
        simp only [Bool.false_and, Bool.and_false, if_neg (show ¬ (false = true) by simp)]
        clear h hs hfi
        go_enter Tryz.func108, Tryz.ntmps108
        go_wp2_with (first
          | (go_at_call 100; (with_reducible refine (hmn.out _).mono ?_); rintro e w2 ⟨rfl, rfl⟩)
          | (go_at_call 118; (with_reducible refine hth.out.mono ?_); rintro e w2 ⟨rfl, hB2⟩))
        go_ret
        exact ⟨⟨_, rfl⟩, hbel.out _ hB2⟩
      | true =>
        rw [hh] at hth
        simp only [Bool.true_and, if_true]
        cases he : atB N.outs s with
        | some j =>
          rw [he] at hfi
          simp only [Option.isSome_some, if_true] at hfi ⊢
          clear h hs
          go_enter Tryz.func108, Tryz.ntmps108
          go_wp2_with (first
            | (go_at_call 100; (with_reducible refine (hmn.out _).mono ?_); rintro e w2 ⟨rfl, rfl⟩)
            | (go_at_call 118; (with_reducible refine hth.out.mono ?_); rintro e w2 ⟨rfl, hB2⟩; have d4 := stepc hB2 hlb c4)
            | (go_at_call 184; (with_reducible refine (hfi.out _ hB2).mono ?_); rintro e w5 ⟨⟨a5, n5, c5, rfl⟩, rfl⟩))
          go_ret
          exact ⟨⟨_, rfl⟩, hbel.out _ hB2⟩
        | none =>
          rw [he] at hfi
          simp only [Option.isSome_none, if_neg (show ¬ (false = true) by simp)] at hfi ⊢
          exact rAddOut_push h hm ho s hs hl hmn hk1 hk2 hth he

/-! ### AddIn -/
theorem newL_take (G : Gr) (k : Nat) {j : Nat} (h : j ≤ k) : (newL G k).take j = newL G j := by
  unfold newL
  rw [← List.map_take, List.take_range, Nat.min_eq_left h]
/-- Some inputs are there, their literals beside them. -/
structure RFill (w0 w : World) (Bg : Nat) (G : Gr) (v : Value) (j : Nat) (wr : World) : Prop where
  g : ∃ g c, Rf w0 wr Bg g c G.fold G.hash (inputsN G j).nodes
  kept : Kept (RK w) w wr
  own : wr.ownsRow w.heap.size 65 1 v j ((newL G j).map (Value.int .u32))
theorem inputsN_fold (G : Gr) (j : Nat) : (inputsN G j).fold = G.fold ∧ (inputsN G j).hash = G.hash := ⟨(inputsN_le G j).fold, (inputsN_le G j).hash⟩
theorem RK.own {w0 w w2 : World} {Bg g c : Nat} {F H : Bool} {ns : List Nd} (_ : Rf w0 w Bg g c F H ns) {base n : Nat} {v : Value} {xs : List Value} (h : w.ownsRow base 65 1 v n xs) (hk : Kept (RK w) w w2) : w2.ownsRow base 65 1 v n xs :=
  own_keptF h hk (fun k e ⟨cur, T, fz, h1, h2⟩ => by
    obtain ⟨c, hc⟩ := own_type h e
    rw [hc] at h1; simp at h1
    obtain ⟨-, rfl, -⟩ := h1
    rcases h2 with h2 | h2 <;> revert h2 <;> decide)
theorem rfill_next {w0 w wr w7 w8 : World} {Bg j g7 c7 g8 cap8 sc : Nat} {G : Gr} {sa : Option Addr} {o : Obj} {xs : List Value} (hK : Kept (RK w) w wr) (hK7 : Kept (RK wr) wr w7) (hR7 : Rf w0 w7 Bg g7 c7 G.fold G.hash (inputsN G (j + 1)).nodes) (hO7 : w7.ownsRow w.heap.size 65 1 (.slice sa j sc) j xs)
    (hown8 : w8.ownsRow w.heap.size 65 1 (.slice (some ⟨g8, 0, none⟩) (j + 1) cap8) (j + 1) ((newL G (j + 1)).map (Value.int .u32))) (hg : (w7.alloc o).grownBy w8 (Value.slice sa j sc).ownBlock) (hw0 : w0.heap.size ≤ w.heap.size) : RFill w0 w Bg G (.slice (some ⟨g8, 0, none⟩) (j + 1) cap8) (j + 1) w8 := by
  have hb : Below w7.heap.size w7 (w7.alloc o) := (Below.refl _ _).alloc (Nat.le_refl _) _
  have kF : Kept (fun k => (Value.slice sa j sc).ownBlock = some k) (w7.alloc o) w8 := kept_grown hg
  have hge := own_ge hO7
  have hty : ∀ k, (Value.slice sa j sc).ownBlock = some k → ∃ c, (w7.alloc o).heap[k]? = some (.cells c 65 (0, 0)) := fun k e => own_type (hO7.alloc _) e
  have h7 := hR7.step hb
  refine ⟨⟨g7, c7, h7.kept kF (fun k e => Nat.le_trans hw0 (hge k e)) (fun e => ?_) (fun e => ?_)⟩, ?_, hown8⟩
  · obtain ⟨c, hc⟩ := hty _ e
    have := h7.box
    rw [hc] at this; simp at this
  · obtain ⟨c, hc⟩ := hty _ e
    obtain ⟨d, hd⟩ := h7.gty
    rw [hc] at hd; simp at hd
  · exact (RK.trans hK (RK.trans hK7 (RK.of_below hb))).trans kF (fun x hx => .inr (hge x hx))
set_option maxHeartbeats 2000000 in
theorem rAddIn_push {w0 w : World} {B Bg : Nat} {p : RPl} {N : Nt} (h : RN w0 w B Bg p N) (hm : N.g.nodes.length ≤ 190000) (ho : N.ins.length ≤ 10000) (s : ByteArray) {m : Nat}
    (hmn : Hid (∀ w, Calls Tryz.prog 100 #[.string s] w fun e w' => e = .returned (.bool true) ∧ w = w')) (hk1 : 1 ≤ (m : Int)) (hk2 : (m : Int) ≤ 64) (he : atB N.ins s = none) :
    Calls Tryz.prog 105 #[.pointer (some ⟨B, 0, none⟩), .string s, .int .i64 m] w fun e w' => (∃ v1 v2, e = .returned (.tuple #[v1, v2])) ∧ RNext w0 w B Bg { N with g := inputsN N.g m, ins := N.ins ++ [⟨s, newL N.g m⟩] } w' := by
  obtain ⟨ia, ic, ra, rc, oa, oc, ev, -, -, c0, -, c2, -, -, fz⟩ := h.cells
  have hlb := h.lt
  have hfi := Lib.hid (rFind_any (w0 := w0) (a := ia) (c := ic) (by have := h.ins; rw [ev] at this; exact this) rfl s)
  have hs0 := h.below.size
  have g1 : decide ((m : Int) < 1) = false := by simp; omega
  have g2 : decide (64 < (m : Int)) = false := by simp; omega
  rw [he] at hfi
  simp only [Option.isSome_none] at hfi
  obtain ⟨-, -, gc, -⟩ := h.g.cells
  have g3 : decide ((278528 : Int) < (N.g.nodes.length : Int) - 1 + m) = false := by simp; omega
  have hF0 : Hid (RFill w0 w Bg N.g (.slice none 0 0) 0 w) := Lib.hid ⟨⟨_, _, h.g⟩, RK.refl w, own_nil _ _ _⟩
  have hin := Lib.hid (fun (wr : World) (g c j : Nat) (hj : j ≤ m) (hR : Rf w0 wr Bg g c N.g.fold N.g.hash (inputsN N.g j).nodes) => rinput_val hR (by rw [inputsN_len]; omega))
  have hgrow := Lib.hid (fun (wr : World) (g c : Nat) (hR : Rf w0 wr Bg g c N.g.fold N.g.hash (inputsN N.g m).nodes) (hk : Kept (RK w) w wr) => h.grow (G' := inputsN N.g m) (by rw [(inputsN_fold N.g m).1, (inputsN_fold N.g m).2]; exact hR) hk)
  have hlen := Lib.hid (fun j => inputsN_len N.g j)
  have hns := Lib.hid (fun j => show (inputsN N.g (j + 1)).nodes = (inputsN N.g j).nodes ++ [⟨false, 0, 0⟩] from rfl)
  have hnl := Lib.hid (fun j => newL_succ N.g j)
  have hc0 := Lib.hid (fun (wr : World) (hk : Kept (RK w) w wr) => (show wr.cell? ⟨B, 0, none⟩ = some (.pointer (some ⟨Bg, 0, none⟩)) from by
    have hb := h.box
    have hbb := hk.block B h.lt (fun ⟨cur, T, fz, e1, e2⟩ => by rw [hb] at e1; simp [rnBox] at e1; obtain ⟨-, rfl, -⟩ := e1; rcases e2 with e2 | e2 <;> revert e2 <;> decide)
    simp only [World.cell?, hbb]
    simpa [World.cell?] using c0))
  obtain ⟨i0, hi, hz0, hz1, hz2⟩ := info_parts rinfo_bus
  obtain ⟨i1, hi1, hy0, hy1, hy2⟩ := info_parts info_u32
  clear fz h he
  generalize hnn : N.g.nodes.length = nn at *
  go_enter Tryz.func105, Tryz.ntmps105
  go_wp2_with (first
    | (go_at_call 100; (with_reducible refine (hmn.out _).mono ?_); rintro e w2 ⟨rfl, rfl⟩)
    | (go_at_call 184; (with_reducible refine hfi.out.mono ?_); rintro e w5 ⟨⟨a5, n5, c5, rfl⟩, rfl⟩))
  clear hfi hmn
  go_loopw [10, 11, 12, 13, 52] (fun s10 s11 _ _ _ wr => ∃ j : Nat, j ≤ m ∧ s11 = .int .i64 j ∧ Hid (RFill w0 w Bg N.g s10 j wr)) (fun _ s11 _ _ _ _ => m - (intOf s11).toNat)
  case atStart => exact ⟨0, Nat.zero_le _, rfl, hF0⟩
  case round =>
    clear hF0 gc g3
    obtain ⟨j, hj, rfl, hF⟩ := hrel
    obtain ⟨gg, cc, hR⟩ := hF.out.g
    have hKr := Lib.hid hF.out.kept
    have d0 := hc0.out _ hKr.out
    by_cases hlt : j < m
    · have hin1 := Lib.hid (hin.out _ _ _ j hj hR)
      have hRh := Lib.hid hR
      have hO := Lib.hid hF.out.own
      rw [hlen.out j] at hin1
      have hX : Hid (∃ x : Int, x = 2 * ((nn + j : Nat) : Int)) := Lib.hid ⟨_, rfl⟩
      obtain ⟨x, hx0⟩ := hX.out
      rw [← hx0] at hin1
      have hx := Lib.hid hx0
      clear hx0
      have hwz := hF.out.kept.size
      clear hin hc0 hF hR hX
      go_wp2_with (first
        | (go_at_call 110; (with_reducible refine hin1.out.mono ?_); rintro e w7 ⟨rfl, g7, c7, hR7, hK7⟩; have hO7 := RK.own hRh.out hO.out hK7; obtain ⟨sa, sc, rfl⟩ := own_slice hO7; have hO7 := Lib.hid hO7; have hR7 := Lib.hid hR7; have hw7 := hK7.size; have hK7 := Lib.hid hK7)
        | (at_builtin; refine wpList_append_lies _ rfl _ _ 100 rfl w.heap.size 65 i1 (.int .u32 0) 1 4 Tryz.underlying100 hi1 hy0 hy1 hy2 rfl (by decide) (.slice sa j sc) j _ rfl (hO7.out.alloc _) ⟨w7.heap.size, 0, none⟩ 1 1 [.int .u32 x] rfl rfl (news1 _ _ _) (by simp [Value.oneCell']) (by decide) (by unfold maxLen; omega) (by omega) (by simp; omega) _ rfl ?_; intro g8 cap8 w8 hown8 hgrow8 hat8 hlt8))
      refine ⟨⟨j + 1, by omega, by go_num, Lib.hid ?_⟩, by simp [intOf]; omega⟩
      refine rfill_next hKr.out hK7.out (by rw [hns.out]; exact hR7.out) hO7.out ?_ hgrow8 hs0
      rw [hnl.out, List.map_append, List.map_singleton, ← hx.out]
      exact hown8
    · obtain rfl : j = m := by omega
      have hO := hF.out.own
      obtain ⟨la, lc, rfl⟩ := own_slice hO
      have hUr : Hid (URow wr la j lc (newL N.g j)) := Lib.hid ⟨newL_len _ _, own_base hO (Nat.zero_le _)⟩
      have hP := hgrow.out _ _ _ hR hKr.out
      obtain ⟨ja, jc, sa, sc, ta, tc, ev2, -, -, -, -, d2, -, -, fz⟩ := hP.cells
      have f2 := fz 2
      obtain ⟨K, hK⟩ := hP.ins
      have hne : some B ≠ (Value.slice ja N.ins.length jc).ownBlock := by have := hP.far.1; rw [ev2] at this; exact fun e => this e.symm
      have hrow := Lib.hid (fun w2 (hb2 : Below wr.heap.size wr w2) => (show w2.ownsRow w0.heap.size 111 2 (.slice ja N.ins.length jc) N.ins.length (bvCells K) by have := (hK.below hb2).own; rw [ev2] at this; exact this))
      have hpush := Lib.hid (fun (wa w1 : World) (hb : Below wr.heap.size wr wa) (hl : URow wa la j lc (newL N.g j)) (g cap : Nat) hown hg hat => rn_ins (w1 := w1) hP hb hK (s := s) hl (g := g) (cap := cap) hown hg hat)
      rw [ev2] at hpush
      have hlr := hP.lt
      have hw0r := hP.below.size
      have hn3 := Lib.hid (fun o => (Below.refl wr.heap.size wr).alloc (Nat.le_refl _) o)
      simp only [] at d2 f2
      clear hP hK hR hF hO hin hc0 fz hgrow hns hnl hlen ev2
      generalize N.ins.length = k at *
      go_wp2_with (at_builtin; refine wpList_append_lies _ rfl _ _ 106 rfl w0.heap.size 111 i0 (.agg #[.string ByteArray.empty, .slice none 0 0]) 2 40 Tryz.underlying106 hi hz0 hz1 hz2 rfl (by decide) (.slice ja k jc) k (bvCells K) rfl (hrow.out _ (hn3.out _)) ⟨wr.heap.size, 0, none⟩ 1 1 [.string s, .slice la j lc] rfl rfl (news_list _ _ _) (by simp [Value.oneCell']) (by decide) (by unfold maxLen; omega) (by omega) (by simp; omega) _ rfl ?_; intro g1 cap1 w7 hown1 hgrow1 hat1 hlt1; obtain ⟨x0, x1⟩ := grow_box hgrow1 (b := B) (o := 2) (v := .slice ja k jc) (by go_simp) (by go_simp) hne)
      go_ret2
      have hq := hpush.out _ _ (hn3.out _) (hUr.out.below (hn3.out _)) _ _ hown1 hgrow1 hat1
      exact ⟨⟨_, _, rfl⟩, hq.1, DK.trans (DK.of_RK hKr.out) hq.2⟩
set_option maxHeartbeats 2000000 in
theorem rAddIn_any {w0 w : World} {B Bg : Nat} {p : RPl} {N : Nt} (h : RN w0 w B Bg p N) (hm : N.g.nodes.length ≤ 190000) (ho : N.ins.length ≤ 10000) (s : ByteArray) (kw : Int) :
    Calls Tryz.prog 105 #[.pointer (some ⟨B, 0, none⟩), .string s, .int .i64 kw] w fun e w' => (∃ v1 v2, e = .returned (.tuple #[v1, v2])) ∧ RNext w0 w B Bg (addIn N s kw).1 w' := by
  have hmn := Lib.hid (fun w => rMayName_any s w)
  obtain ⟨ia, ic, ra, rc, oa, oc, ev, -, -, c0, -, c2, -, -, fz⟩ := h.cells
  have hlb := h.lt
  have hfi := Lib.hid (rFind_any (w0 := w0) (a := ia) (c := ic) (by have := h.ins; rw [ev] at this; exact this) rfl s)
  have hbel := Lib.hid (RNext.of_below h (Below.refl w.heap.size w))
  unfold addIn
  cases hmy : mayName s with
  | false =>
    rw [hmy] at hmn
    simp only [Bool.false_and, if_neg (show ¬ (false = true) by simp)]
    clear h hfi
    go_enter Tryz.func105, Tryz.ntmps105
    go_wp2_with (go_at_call 100; (with_reducible refine (hmn.out _).mono ?_); rintro e w2 ⟨rfl, rfl⟩)
    all_goals go_ret2
    all_goals exact ⟨⟨_, _, rfl⟩, hbel.out⟩
  | true =>
    rw [hmy] at hmn
    cases hw : wide kw with
    | false =>
      have hw2 : kw < 1 ∨ (¬ kw < 1 ∧ 64 < kw) := by
        by_cases h1 : kw < 1
        · exact .inl h1
        · refine .inr ⟨h1, ?_⟩
          by_cases h2 : 64 < kw
          · exact h2
          · have := wide_iff.2 (show 1 ≤ kw ∧ kw ≤ 64 by omega)
            rw [hw] at this; cases this
      simp only [Bool.and_false, if_neg (show ¬ (false = true) by simp)]
      clear h hfi
      rcases hw2 with h1 | ⟨h1, h2⟩
      · have g1 : decide (kw < 1) = true := by simp; omega
        clear h1
        go_enter Tryz.func105, Tryz.ntmps105
        go_wp2_with (go_at_call 100; (with_reducible refine (hmn.out _).mono ?_); rintro e w2 ⟨rfl, rfl⟩)
        all_goals go_ret2
        all_goals exact ⟨⟨_, _, rfl⟩, hbel.out⟩
      · have g1 : decide (kw < 1) = false := by simp; omega
        have g2 : decide (64 < kw) = true := by simp; omega
        clear h1 h2
        go_enter Tryz.func105, Tryz.ntmps105
        go_wp2_with (go_at_call 100; (with_reducible refine (hmn.out _).mono ?_); rintro e w2 ⟨rfl, rfl⟩)
        all_goals go_ret2
        all_goals exact ⟨⟨_, _, rfl⟩, hbel.out⟩
    | true =>
      obtain ⟨hk1, hk2⟩ := wide_iff.1 hw
      obtain ⟨m, rfl⟩ := Int.eq_ofNat_of_zero_le (show 0 ≤ kw by omega)
      simp only [Bool.true_and, if_true]
      cases he : atB N.ins s with
      | some j =>
        rw [he] at hfi
        simp only [Option.isSome_some, if_true] at hfi ⊢
        have g1 : decide ((m : Int) < 1) = false := by simp; omega
        have g2 : decide (64 < (m : Int)) = false := by simp; omega
        clear h
        go_enter Tryz.func105, Tryz.ntmps105
        go_wp2_with (first
          | (go_at_call 100; (with_reducible refine (hmn.out _).mono ?_); rintro e w2 ⟨rfl, rfl⟩)
          | (go_at_call 184; (with_reducible refine hfi.out.mono ?_); rintro e w5 ⟨⟨a5, n5, c5, rfl⟩, rfl⟩))
        all_goals go_ret2
        all_goals exact ⟨⟨_, _, rfl⟩, hbel.out⟩
      | none =>
        simp only [Option.isSome_none, if_neg (show ¬ (false = true) by simp)]
        rw [show ((m : Int)).toNat = m by omega]
        exact rAddIn_push h hm ho s hmn hk1 hk2 he

theorem rNew_any (w0 : World) {w : World} (h0 : Below w0.heap.size w0 w) (F H : Bool) {s : ByteArray} (hs : mayName s = true) :
    Calls Tryz.prog 39 #[.string s, .bool F, .bool H] w fun e w' => ∃ (B Bg : Nat) (p : RPl), e = .returned (.tuple #[.pointer (some ⟨B, 0, none⟩), .int .i64 0]) ∧ RN w0 w' B Bg p ⟨newG F H, s, [], [], []⟩ ∧ Below w.heap.size w w' := by
  have hmn := Lib.hid (fun w => rMayName_any s w)
  rw [hs] at hmn
  have hnw := Lib.hid (fun w2 (hb : Below w0.heap.size w0 w2) => rnew_any F H w0 w2 hb)
  have H0 := Lib.hid h0
  have hz := h0.size
  go_enter Tryz.func39, Tryz.ntmps39
  go_wp2_with (first
    | (go_at_call 100; (with_reducible refine (hmn.out _).mono ?_); rintro e w2 ⟨rfl, rfl⟩)
    | (go_at_call 101; (with_reducible refine (hnw.out _ H0.out).mono ?_); rintro e w3 ⟨Bg, g, c, rfl, hR, hb3⟩; have hR := Lib.hid hR; have hb3 := Lib.hid hb3))
  go_ret2
  have hb4 : Below w3.heap.size w3 (w3.alloc (.cells #[.pointer (some ⟨Bg, 0, none⟩), .string s, .slice none 0 0, .slice none 0 0, .slice none 0 0] 109)) := (Below.refl _ _).alloc (Nat.le_refl _) _
  have hb5 := hb3.out.size
  exact ⟨w3.heap.size, Bg, ⟨g, c, .slice none 0 0, .slice none 0 0, .slice none 0 0⟩, rfl, ⟨Deep.blk_alloc_new _ _, hR.out.step hb4, RBusRow.nil _ _, ⟨rfl, .inl ⟨rfl, rfl⟩⟩, RBusRow.nil _ _, fun k e => (by simp [Value.ownBlock] at e), by omega⟩, nextw hb3.out hb4⟩
end Go.Proofs.YtafoohdndlhbnaaGreatDoor
end

section
namespace Go.Proofs.YtafoohdndlhbnaaGreatDoor
open Go.RowKit Go.Maps Bits
set_option maxRecDepth 100000

theorem digits_more {v : Nat} (h : 9 < v) : Lib.decDigits v = Lib.decDigits (v / 10) ++ [UInt8.ofNat (48 + v % 10)] := by
  rw [Lib.decDigits, dif_neg (by omega)]
theorem digits_one {v : Nat} (h : ¬ 9 < v) : Lib.decDigits v = [UInt8.ofNat (48 + v)] := by
  rw [Lib.decDigits, dif_pos (by omega)]
theorem conv_digit (d : Nat) (hd : d ≤ 9) (W : World) : (convert 29 9 (.slice (some ⟨W.heap.size, 0, none⟩) 1 1)).run Tryz.prog (W.alloc (.cells #[.int .u8 (48 + (d : Int))] 5)) = .ok (.string ⟨#[UInt8.ofNat (48 + d)]⟩) (W.alloc (.cells #[.int .u8 (48 + (d : Int))] 5)) := by
  refine run_convert_bytes_back (W.alloc (.cells #[.int .u8 (48 + (d : Int))] 5)) _ _ 5 ⟨W.heap.size, 0, none⟩ 1 [UInt8.ofNat (48 + d)] Tryz.underlying29 Tryz.underlying5 Tryz.underlying9 (fun j hj => ?_)
  have hj0 : j = 0 := by simpa using hj
  subst hj0
  simp [go_sem, Addr.add]
  omega
theorem str_app (a b : List UInt8) : (⟨a.toArray⟩ ++ ⟨b.toArray⟩ : ByteArray) = ⟨(a ++ b).toArray⟩ := ByteArray.ext (by simp [ByteArray.data_append])
theorem digits_tail {u v : Nat} {t : List UInt8} (hu : u < 18446744073709551616) (h : Lib.decDigits u = Lib.decDigits v ++ t) : t.length ≤ 1000 := by
  have h1 := decS_len (u : Int) (by omega) (by omega)
  have h2 := congrArg List.length h
  rw [List.length_append] at h2
  have h3 : (Lib.decDigits u).length ≤ 1000 := h1
  omega
set_option maxHeartbeats 2000000 in
theorem Digits_any (u : Nat) (hu : u < 18446744073709551616) (w : World) :
    Calls Tryz.prog 120 #[.int .u64 u] w fun e w' => e = .returned (.string ⟨(Lib.decDigits u).toArray⟩) ∧ Below w.heap.size w w' := by
  go_enter Tryz.func120, Tryz.ntmps120
  go_wp2
  go_loopw [0, 3] (fun n s wr => ∃ (v : Nat) (t : List UInt8), v ≤ u ∧ n = .int .u64 v ∧ s = .string ⟨t.toArray⟩ ∧ Hid (Lib.decDigits u = Lib.decDigits v ++ t) ∧ Hid (Below w.heap.size w wr)) (fun n s _ => (intOf n).toNat)
  case atStart => exact ⟨u, [], Nat.le_refl _, rfl, rfl, Lib.hid (by simp), Lib.hid (Below.refl _ _)⟩
  case round =>
    obtain ⟨v, t, hv, rfl, rfl, hD, hB⟩ := hrel
    by_cases hlt : 9 < v
    · have hl2 : (9 : Int) < v := by omega
      obtain ⟨d, hd⟩ : ∃ d : Nat, d = v % 10 := ⟨_, rfl⟩
      have hd9 : d ≤ 9 := by omega
      have hcv := conv_digit d hd9 wr
      have hm : (v : Int) % 10 = (d : Int) := by omega
      rw [← hm] at hcv
      clear hm
      have hb4 := Lib.hid (fun o => nextw hB.out ((Below.refl wr.heap.size wr).alloc (Nat.le_refl _) o))
      have hD2 : Hid (Lib.decDigits u = (Lib.decDigits (v / 10) ++ [UInt8.ofNat (48 + d)]) ++ t) := Lib.hid (hD.out.trans (by rw [digits_more hlt, ← hd]))
      have htl := digits_tail hu hD.out
      go_wp2
      exact ⟨⟨v / 10, UInt8.ofNat (48 + d) :: t, by omega, by rw [show ((v / 10 : Nat) : Int) = (v : Int) / 10 by omega], by rw [hd, UInt8.ofNat_add]; exact congrArg Value.string (str_app [_] _), by have := hD2.out; rw [List.append_assoc] at this; exact Lib.hid this, Lib.hid (hb4.out _)⟩, by simp [intOf]; omega⟩
    · have hl2 : ¬ (9 : Int) < v := by omega
      have hcv := conv_digit v (by omega) wr
      have hb4 := Lib.hid (fun o => nextw hB.out ((Below.refl wr.heap.size wr).alloc (Nat.le_refl _) o))
      have htl := digits_tail hu hD.out
      go_wp2
      go_ret
      exact ⟨by rw [hD.out, digits_one hlt, UInt8.ofNat_add]; exact congrArg (fun s => Ending.returned (.string s)) (str_app [_] _), hb4.out _⟩
end Go.Proofs.YtafoohdndlhbnaaGreatDoor
end

section
namespace Go.Proofs.YtafoohdndlhbnaaGreatDoor
open Go.RowKit Go.Maps Bits
set_option maxRecDepth 100000

def wordsB (l : List Int) : List UInt8 := l.flatMap (fun x => 32 :: Lib.decDigits x.toNat)
theorem wordsB_snoc (l : List Int) (x : Int) : wordsB (l ++ [x]) = (wordsB l ++ [32]) ++ Lib.decDigits x.toNat := by simp [wordsB]
theorem digits_len (x : Int) (h : 0 ≤ x ∧ x < 4294967296) : (Lib.decDigits x.toNat).length ≤ 1000 := decS_len x h.1 (by omega)
theorem wordsB_len : ∀ (l : List Int), (∀ x ∈ l, 0 ≤ x ∧ x < 4294967296) → (wordsB l).length ≤ 1001 * l.length
  | [], _ => by simp [wordsB]
  | x :: l, h => by
    have h1 := wordsB_len l (fun y hy => h y (by simp [hy]))
    have h2 := digits_len x (h x (by simp))
    have e : (wordsB (x :: l)).length = 1 + (Lib.decDigits x.toNat).length + (wordsB l).length := by
      simp [wordsB]
      omega
    rw [e, List.length_cons]
    omega
set_option maxHeartbeats 2000000 in
theorem rwords_any {w : World} {a : Option Addr} {n c : Nat} {l : List Int} (h : Row .u32 w a n l) (hl : ∀ x ∈ l, 0 ≤ x ∧ x < 4294967296) (hn : n ≤ 100) :
    Calls Tryz.prog 44 #[.slice a n c] w fun e w' => e = .returned (.string ⟨(wordsB l).toArray⟩) ∧ Below w.heap.size w w' := by
  have H := Lib.hid h
  have hlen := h.len
  have hl := Lib.hid hl
  clear h
  go_enter Tryz.func44, Tryz.ntmps44
  go_wp2
  go_loopw [3, 4] (fun s i wr => ∃ j : Nat, j ≤ n ∧ i = .int .i64 j ∧ s = .string ⟨(wordsB (l.take j)).toArray⟩ ∧ Hid (Below w.heap.size w wr)) (fun _ i _ => n - (intOf i).toNat)
  case atStart => exact ⟨0, Nat.zero_le _, rfl, rfl, Lib.hid (Below.refl _ _)⟩
  case round =>
    obtain ⟨j, hj, rfl, rfl, hB⟩ := hrel
    by_cases hlt : j < n
    · obtain ⟨b, off, rfl, hb, hc⟩ := H.out.at (by omega)
      have c1 := stepc hB.out hb (hc j hlt)
      have hjl : j < l.length := by omega
      have hx := hl.out l[j] (List.getElem_mem hjl)
      have hT := wordsB_len (l.take j) (fun x hx => hl.out x (List.mem_of_mem_take hx))
      rw [List.length_take] at hT
      have hT2 : (wordsB (l.take j)).length ≤ 100100 := by have := Nat.mul_le_mul_left 1001 (show min j l.length ≤ 100 by omega); omega
      have hs := Lib.hid (wordsB_snoc (l.take j) l[j])
      have hs2 : Hid (l.take (j + 1) = l.take j ++ [l[j]]) := Lib.hid (by rw [List.take_add_one, List.getElem?_eq_getElem hjl]; rfl)
      have hd := digits_len l[j] hx
      have e0 : l.getD j 0 = l[j] := by rw [List.getD_eq_getElem?_getD, List.getElem?_eq_getElem hjl]; rfl
      rw [e0] at c1
      have hs2 := Lib.hid (congrArg wordsB hs2.out)
      clear hc hT e0
      generalize wordsB (l.take j) = T at *
      obtain ⟨k, hk⟩ : ∃ k : Nat, l[j] = k := ⟨l[j].toNat, by omega⟩
      rw [hk] at c1 hs hs2 hd
      have hdg := Lib.hid (fun W => Digits_any k (by omega) W)
      have hw : IntKind.u64.wrap (k : Int) = k := by rw [IntKind.wrap_u64]; omega
      rw [Int.toNat_natCast] at hd hs
      have hs2 := Lib.hid (hs2.out.trans hs.out)
      clear hs hk hx
      generalize Lib.decDigits k = D at *
      go_wp2_with (go_at_call 120; (with_reducible refine (hdg.out _).mono ?_); rintro e w3 ⟨rfl, hb3⟩)
      exact ⟨⟨j + 1, by omega, by go_num, by rw [hs2.out]; exact congrArg Value.string ((congrArg (· ++ _) (str_app T [32])).trans (str_app (T ++ [32]) D)), Lib.hid (nextw hB.out hb3)⟩, by simp [intOf]; omega⟩
    · obtain rfl : j = n := by omega
      have hf : l.take j = l := List.take_of_length_le (by omega)
      rw [hf]
      go_wp2
      go_ret
      exact ⟨rfl, hB.out⟩
end Go.Proofs.YtafoohdndlhbnaaGreatDoor
end

section
namespace Go.Proofs.YtafoohdndlhbnaaGreatDoor
open Go.RowKit Go.Maps Bits
set_option maxRecDepth 100000

theorem tail_flat : ∀ (r : List (List UInt8)), Lib.joinTail [32] r = r.flatMap (fun z => 32 :: z)
  | [] => rfl
  | x :: r => by
    have h := tail_flat r
    simp [Lib.joinTail] at h ⊢
    exact h
theorem spellS_flat (x : ByteArray) (xs : List ByteArray) : spellS (x :: xs) = ⟨(x.data.toList ++ xs.flatMap (fun z => 32 :: z.data.toList)).toArray⟩ := by
  unfold spellS
  rw [List.map_cons, Lib.join_cons, tail_flat, List.flatMap_map]
theorem arr_list (a : ByteArray) : a = ⟨a.data.toList.toArray⟩ := ByteArray.ext (by simp)
theorem decS_list (x : Int) : (decS x).data.toList = Lib.decDigits x.toNat := by unfold decS; simp
theorem range_lits (l : List Int) : (List.range l.length).map (fun i => decS (l.getD i 0)) = l.map decS := by
  apply List.ext_getElem
  · simp
  · intro i h1 h2
    simp at h1 h2
    simp [h2]
theorem flat_words (l : List Int) : (l.map decS).flatMap (fun z => 32 :: z.data.toList) = wordsB l := by
  rw [List.flatMap_map]
  unfold wordsB
  refine congrArg (fun f => l.flatMap f) (funext fun x => ?_)
  show 32 :: (decS x).data.toList = _
  rw [decS_list]
theorem bus_doc (s s7 : ByteArray) (h7 : s7 = ⟨(s.data.toList ++ [32]).toArray⟩) (b : Bus) : (s7 ++ b.name) ++ (⟨(wordsB b.lits).toArray⟩ : ByteArray) = busS s b := by
  unfold busS
  rw [range_lits, List.cons_append, List.cons_append, List.nil_append, spellS_flat, List.flatMap_cons, flat_words, h7]
  rw [arr_list b.name, str_app, str_app]
  simp
theorem words_doc (s : ByteArray) (l : List Int) : s ++ (⟨(wordsB l).toArray⟩ : ByteArray) = spellS (s :: l.map decS) := by
  rw [spellS_flat, flat_words]
  rw [show s ++ (⟨(wordsB l).toArray⟩ : ByteArray) = ⟨s.data.toList.toArray⟩ ++ (⟨(wordsB l).toArray⟩ : ByteArray) by rw [← arr_list], str_app]
theorem dec0 : decS 0 = ⟨#[48]⟩ := by kernel_rfl
theorem dec1 : decS 1 = ⟨#[49]⟩ := by kernel_rfl
theorem reg_doc (r : Rg) : sLatch ++ (⟨(wordsB [r.q, r.d, r.en, if r.init then 1 else 0]).toArray⟩ : ByteArray) = regS r := by
  rw [words_doc]
  unfold regS
  cases r.init
  · show spellS [sLatch, decS r.q, decS r.d, decS r.en, decS 0] = _
    rw [dec0]
    rfl
  · show spellS [sLatch, decS r.q, decS r.d, decS r.en, decS 1] = _
    rw [dec1]
    rfl
theorem gate_doc (G : Gr) (j : Nat) : sAnd ++ (⟨(wordsB [2 * (j : Int), (nodeAt G j).a, (nodeAt G j).b]).toArray⟩ : ByteArray) = gateS G j := words_doc _ _
theorem model_doc (s s7 : ByteArray) (h7 : s7 = ⟨(s.data.toList ++ [32]).toArray⟩) (n : ByteArray) : s7 ++ n = spellS [s, n] := by
  rw [spellS_flat, h7]
  rw [arr_list n, str_app]
  simp
theorem end_doc : sEnd = spellS [sEnd] := by rw [spellS_flat]; rfl
def textL (L : List ByteArray) : List UInt8 := L.flatMap (fun x => x.data.toList ++ [10])
theorem textL_next {L : List ByteArray} {j : Nat} (hj : j < L.length) : textL (L.take (j + 1)) = (textL (L.take j) ++ L[j].data.toList) ++ [10] := by
  unfold textL
  rw [List.take_add_one, List.getElem?_eq_getElem hj, Option.toList_some, List.flatMap_append, List.append_assoc]
  simp
theorem textL_len : ∀ (L : List ByteArray), (∀ x ∈ L, x.size ≤ 1000000) → (textL L).length ≤ 1000001 * L.length
  | [], _ => by simp [textL]
  | x :: L, h => by
    have h1 := textL_len L (fun y hy => h y (by simp [hy]))
    have h2 : x.data.toList.length ≤ 1000000 := h x (by simp)
    have e : textL (x :: L) = (x.data.toList ++ [10]) ++ textL L := by simp [textL]
    rw [e, List.length_append, List.length_append, List.length_cons, List.length_cons, List.length_nil]
    omega
end Go.Proofs.YtafoohdndlhbnaaGreatDoor
end
