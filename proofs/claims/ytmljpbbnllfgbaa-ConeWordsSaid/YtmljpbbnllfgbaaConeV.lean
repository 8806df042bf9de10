/-
  ConeWords: the walk.
-/
import Derived.Test.YtmljpbbnllfgbaaConeQ
import Derived.Deep.RegionHeld3
namespace Go.Proofs.Ytmljpbbnllfgbaa
open Go.RowKit Go.Maps Num
set_option maxRecDepth 100000

/-- The argument's box, behind some calls. -/
structure BoxT (w wr : World) (v2 v3 v5 v6 v7 : Value) : Prop where
  below : Below w.heap.size w wr
  lt : w.heap.size < wr.heap.size
  c2 : wr.cell? ⟨w.heap.size, 2, none⟩ = some v2
  c3 : wr.cell? ⟨w.heap.size, 3, none⟩ = some v3
  c5 : wr.cell? ⟨w.heap.size, 5, none⟩ = some v5
  c6 : wr.cell? ⟨w.heap.size, 6, none⟩ = some v6
  c7 : wr.cell? ⟨w.heap.size, 7, none⟩ = some v7
theorem BoxT.new (w : World) (v0 v1 v2 v3 v4 v5 v6 v7 : Value) (T : Nat) : BoxT w (w.alloc (.cells #[v0, v1, v2, v3, v4, v5, v6, v7] T)) v2 v3 v5 v6 v7 :=
  ⟨(Below.refl _ _).alloc (Nat.le_refl _) _, by simp, by simp [go_sem], by simp [go_sem], by simp [go_sem], by simp [go_sem], by simp [go_sem]⟩
theorem BoxT.step {w wr w2 : World} {v2 v3 v5 v6 v7 : Value} (h : BoxT w wr v2 v3 v5 v6 v7) (hb : Below wr.heap.size wr w2) : BoxT w w2 v2 v3 v5 v6 v7 :=
  ⟨nextw h.below hb, Nat.lt_of_lt_of_le h.lt hb.size, stepc hb h.lt h.c2, stepc hb h.lt h.c3, stepc hb h.lt h.c5, stepc hb h.lt h.c6, stepc hb h.lt h.c7⟩

theorem BoxT.kept {F : Nat → Prop} {w wr w2 : World} {v2 v3 v5 v6 v7 : Value} (h : BoxT w wr v2 v3 v5 v6 v7) (hk : Kept F wr w2) (hF : ¬ F w.heap.size) (hb : Below w.heap.size w w2) : BoxT w w2 v2 v3 v5 v6 v7 :=
  ⟨hb, Nat.lt_of_lt_of_le h.lt hk.size, (kept_cell hk h.lt hF).1.trans h.c2, (kept_cell hk h.lt hF).1.trans h.c3, (kept_cell hk h.lt hF).1.trans h.c5, (kept_cell hk h.lt hF).1.trans h.c6, (kept_cell hk h.lt hF).1.trans h.c7⟩
/-- Two graphs made, the second one's blocks apart from the first one's. -/
structure Duo (w wr : World) (Bg : Nat) (pg : Pl) (G : Gr) (Bt : Nat) (pt : Pl) (T : Gr) : Prop where
  g : AtG w Bg wr pg G
  t : AtG w Bt wr pt T
  ap : Apart pt pg
  far : ∀ k, pt.has k → w.heap.size < k
theorem Duo.step {w wr w2 : World} {Bg Bt : Nat} {pg pt : Pl} {G T : Gr} (h : Duo w wr Bg pg G Bt pt T) (hb : Below wr.heap.size wr w2) : Duo w w2 Bg pg G Bt pt T := ⟨h.g.step hb, h.t.step hb, h.ap, h.far⟩
theorem duo_new {w W1 w1 w2 : World} {Bg Bt : Nat} {pg pt : Pl} {G T : Gr} (hb : Below w.heap.size w W1) (hlt : w.heap.size < W1.heap.size) (hg : AtG W1 Bg w1 pg G) (ht : AtG w1 Bt w2 pt T) : Duo w w2 Bg pg G Bt pt T :=
  ⟨(hg.base hb).step ht.below, ht.base (hg.base hb).below, Apart.new ht.out hg.is, fun k hk => by have := ht.out k hk; have := hg.below.size; omega⟩

/-- Behind the copy. -/
structure PhD (w w9 : World) (Bg Bt Bw : Nat) (pg p9 pw : Pl) (G T T2 : Gr) (xa ba : Option Addr) (g9 m il : Nat) (xl bl yl : List Int) (v2 v3 v5 v6 v7 : Value) : Prop where
  g : AtG w Bg w9 pg G
  t : AtG w Bt w9 p9 T2
  wa : AtG w Bw w9 pw T
  xs : Row .u32 w9 xa m xl
  bs : Row .u32 w9 ba il bl
  ys : Row .u32 w9 (some ⟨g9, 0, none⟩) m yl
  box : BoxT w w9 v2 v3 v5 v6 v7
theorem phD {w w8 w9 : World} {Bg Bt Bw : Nat} {pg pt p9 pw : Pl} {G T T2 : Gr} {xa ba : Option Addr} {g9 m il : Nat} {xl bl yl : List Int} {v2 v3 v5 v6 v7 : Value} (hD : Duo w w8 Bg pg G Bt pt T) (hwa : AtG w Bw w8 pw T) (hap : Apart pt pw) (hX : BoxT w w8 v2 v3 v5 v6 v7)
    (hC : Copied w8 pt w9 p9 T2 g9 m yl) (hW : Wf T2) (hlen : T2.nodes.length ≤ 100000) (hx : Row .u32 w8 xa m xl) (hb : Row .u32 w8 ba il bl) (hxm : ∀ x, xa = some x → ∃ cur, w8.heap[x.block]? = some (.cells cur 40 (0, 0))) (hbm : ∀ x, ba = some x → ∃ cur, w8.heap[x.block]? = some (.cells cur 40 (0, 0))) (hm : m ≤ 100000) (hyl : yl.length = m) :
    PhD w w9 Bg Bt Bw pg p9 pw G T T2 xa ba g9 m il xl bl yl v2 v3 v5 v6 v7 := by
  have ht := hD.t.next hC.step hW hlen
  exact ⟨hD.g.apart hD.ap hC.step.kept ht.below, ht, hwa.apart hap hC.step.kept ht.below,
    hx.kept hC.step.kept (fun x hx _ => by obtain ⟨cur, hc⟩ := hxm x hx; exact hD.t.is.other hc (by decide) (by decide) (by decide)),
    hb.kept hC.step.kept (fun x hx _ => by obtain ⟨cur, hc⟩ := hbm x hx; exact hD.t.is.other hc (by decide) (by decide) (by decide)),
    Row.of_own hC.row hyl (by omega), hX.kept hC.step.kept (fun h => by have := hD.far _ h; omega) ht.below⟩

set_option maxHeartbeats 4000000 in
theorem ConeWords_any {w : World} (F1 H1 F2 H2 : Bool) {La Ka Ya Ia a : Option Addr} {Ln Lc Kn Kc Yn Yc In Ic n c : Nat} {SL SK : Nat → Int × Int × Int} {yl inl l : List Int}
    (hL : Steps w La Ln SL) (hK : Steps w Ka Kn SK) (hY : Row .u32 w Ya Yn yl) (hYl : ∀ x ∈ yl, IsLit x) (hI : Row .u64 w Ia In inl) (hIw : Words inl) (hs : Row .u32 w a n l) (hl : ∀ x ∈ l, IsLit x) :
    Calls Try.prog 3 #[.agg #[.bool F1, .bool H1, .bool F2, .bool H2, .slice La Ln Lc, .slice Ka Kn Kc, .slice Ya Yn Yc, .slice Ia In Ic], .slice a n c] w fun e w' => e = .returned (.bool true) ∧ Below w.heap.size w w' := by
  have hX1 := Lib.hid (BoxT.new w (.bool F1) (.bool H1) (.bool F2) (.bool H2) (.slice La Ln Lc) (.slice Ka Kn Kc) (.slice Ya Yn Yc) (.slice Ia In Ic) 28)
  have hSt : Hid (∀ wr, Below w.heap.size w wr → Steps wr La Ln SL ∧ Steps wr Ka Kn SK) := Lib.hid (fun wr hb => ⟨hL.step hb, hK.step hb⟩)
  have hb1 := Lib.hid (Build_any F1 H1 (cap := Lc) (hSt.out _ hX1.out.below).1)
  have hb2 := Lib.hid (fun wr (hb : Below w.heap.size w wr) => Build_any F2 H2 (cap := Kc) (hSt.out wr hb).2)
  have g1 := buildG_good F1 H1 SL (min Ln 60) (by omega)
  have g2 := buildG_good F2 H2 SK (min Kn 60) (by omega)
  have hGl : (buildG F1 H1 SL (min Ln 60)).nodes.length ≤ 181 := by have := g1.2.2; omega
  have hTl : (buildG F2 H2 SK (min Kn 60)).nodes.length ≤ 181 := by have := g2.2.2; omega
  have hGp := g1.1.pos
  have hTp := g2.1.pos
  have hGc := g1.1.cnt
  have hG0 : (((buildG F1 H1 SL (min Ln 60)).nodes.length : Int) == 0) = false := beqf (by omega)
  have hT0 : (((buildG F2 H2 SK (min Kn 60)).nodes.length : Int) == 0) = false := beqf (by omega)
  generalize hG : buildG F1 H1 SL (min Ln 60) = G at *
  generalize hT : buildG F2 H2 SK (min Kn 60) = T at *
  clear hL hK hG hT g1 g2 hSt
  go_enter Try.func3, Try.ntmps3
  go_wp2_with (first
    | (go_at_call 7; (with_reducible refine hb1.out.mono ?_); rintro e w1 ⟨Bg, Bg2, pg, rfl, hg⟩; have hX2 := Lib.hid (hX1.out.step hg.below); have hb3 := Lib.hid (hb2.out _ hX2.out.below); obtain ⟨-, -, d2, d3, d5, -, -⟩ := hX2.out; have hg := Lib.hid hg; clear hb1 hb2)
    | (go_at_call 7; (with_reducible refine hb3.out.mono ?_); rintro e w2 ⟨Bt, Bt2, pt, rfl, ht⟩; have hX3 := Lib.hid (hX2.out.step ht.below); have hD := Lib.hid (duo_new hX1.out.below hX1.out.lt hg.out ht); clear d2 d3 d5 hX2 hb3 hg ht; have hnG := Lib.hid (nodes_any hD.out.g.is.lay hD.out.g.wf.pos); have hnT := Lib.hid (nodes_any hD.out.t.is.lay hD.out.t.wf.pos); rw [hD.out.g.b] at hnG; rw [hD.out.t.b] at hnT; have hins := Lib.hid (inside_any (c := c) (hs.step hX3.out.below) hl hGp (show G.nodes.length ≤ 100000 by omega)))
    | (go_at_call 8; (with_reducible refine hnG.out.mono ?_); rintro e w9 ⟨rfl, rfl⟩)
    | (go_at_call 8; (with_reducible refine hnT.out.mono ?_); rintro e w9 ⟨rfl, rfl⟩)
    | (go_at_call 10; (with_reducible refine hins.out.mono ?_); rintro e w3 ⟨x2, xc2, rfl, hm3⟩; have hlt := Lib.hid (inside_lits hm3); clear hm3 hins)
    | (go_at_call 9; (with_reducible refine hlt.out.mono ?_); rintro e w4 ⟨xa, xc, rfl, hm4⟩; have hX4 := Lib.hid (hX3.out.step hm4.below); have hD4 := Lib.hid (hD.out.step hm4.below); have hx4 := Lib.hid hm4; have hin := Lib.hid hD4.out.g.inputsOf; clear hm4 hlt hnG hnT)
    | (go_at_call 11; (with_reducible refine hin.out.mono ?_); rintro e w5 ⟨ua, uc, rfl, hB⟩; have hX5 := Lib.hid (hX4.out.step hB); have hD5 := Lib.hid (hD4.out.step hB); have hB5 := Lib.hid hB; clear hB hin hD4))
  obtain ⟨w5, rfl⟩ : ∃ w, w = w5 := ⟨_, rfl⟩
  obtain ⟨il, hil⟩ : ∃ il, il = G.inputs.length := ⟨_, rfl⟩
  rw [← hil]
  have hil9 : il ≤ 181 := by omega
  have hil2 := Lib.hid hil
  obtain ⟨i0, hi, hz0, hz1, hz2⟩ := info_parts info_u32
  obtain ⟨f, hf⟩ : ∃ f : Nat → Int, f = fun i => brV T.nodes.length (yl.getD i 0) := ⟨_, rfl⟩
  have hfi := Lib.hid (fun j => show f j = brV T.nodes.length (yl.getD j 0) from by rw [hf])
  have hfl : Hid (∀ j, There T (f j)) := Lib.hid (fun j => by rw [hf]; exact brV_there hD5.out.t.wf (by omega) _)
  have hno : Hid (∀ wr, Below w5.heap.size w5 wr → Calls Try.prog 8 #[.pointer (some ⟨Bt, 0, none⟩)] wr fun e w' => e = .returned (.int .i64 T.nodes.length) ∧ wr = w') := Lib.hid (fun wr hb => by
    have h := hD5.out.t.step hb
    have := nodes_any h.is.lay h.wf.pos
    rw [h.b] at this; exact this)
  have hys : Hid (∀ j, j < Yn → 0 ≤ yl.getD j 0 ∧ yl.getD j 0 < 4294967296) := Lib.hid (fun j hj => hYl _ (by have := hY.len; simp [List.getD, show j < yl.length by omega]))
  have hyo : Hid (∀ j, ¬ j < Yn → yl.getD j 0 = 0) := Lib.hid (fun j hj => by have := hY.len; simp [List.getD, List.getElem?_eq_none (show yl.length ≤ j by omega)])
  have HY := Lib.hid hY
  have hYle := hY.le
  have htz : (2 * (T.nodes.length : Int) == 0) = false := beqf (by omega)
  have htw1 : IntKind.u32.wrap (2 * (T.nodes.length : Int)) = 2 * (T.nodes.length : Int) := by rw [w32]; omega
  have htw2 : IntKind.i64.wrap (2 * (T.nodes.length : Int)) = 2 * (T.nodes.length : Int) := IntWalk.i64_in _ (by omega)
  have hrow0 : Hid ((Bits.row 0 f).map (Value.int .u32) = []) := Lib.hid rfl
  have hrows : Hid (∀ j, (Bits.row (j + 1) f).map (Value.int .u32) = (Bits.row j f).map (Value.int .u32) ++ [.int .u32 (f j)]) := Lib.hid (fun j => by simp [Bits.row, List.range_succ])
  clear hf hil hY hYl hs hl hG0 hT0 hGc hD hX1 hX3 hX4
  go_loopw [11, 12] (fun v s wr => ∃ j : Nat, j ≤ il ∧ s = .int .i64 j ∧ Hid (wr.ownsRow w5.heap.size 39 1 v j ((Bits.row j f).map (Value.int .u32))) ∧ Hid (Below w5.heap.size w5 wr)) (fun _ s _ => il - (intOf s).toNat)
  case atStart => exact ⟨0, Nat.zero_le _, rfl, Lib.hid (by rw [hrow0.out]; exact own_nil _ _ _), Lib.hid (Below.refl _ _)⟩
  case round =>
    obtain ⟨j, hj, rfl, ho, hB⟩ := hrel
    obtain ⟨va, vc, rfl⟩ := own_slice ho.out
    by_cases hlt : j < il
    · have hsz := hB.out.size
      have hsr := Lib.hid (hrows.out j)
      have c6 := (hX5.out.step hB.out).c6
      have hnr := Lib.hid (hno.out _ hB.out)
      have hfj := hfi.out j
      by_cases hy : j < Yn
      · obtain ⟨b, off, rfl, hb, hcell⟩ := HY.out.at (by omega)
        have cy := stepc (nextw hX5.out.below hB.out) hb (hcell j hy)
        obtain ⟨y0, y1⟩ := hys.out j hy
        generalize yl.getD j 0 = y at *
        clear hcell
        have hfj2 : (y : Int) % (2 * (T.nodes.length : Int)) = f j := hfj.symm
        have hfh := Lib.hid hfj2
        clear hfj
        go_wp2_with (first
          | (go_at_call 8; (with_reducible refine hnr.out.mono ?_); rintro e w9 ⟨rfl, rfl⟩)
          | (at_builtin; refine wpList_append_lies _ rfl _ _ 25 rfl w5.heap.size 39 i0 (.int .u32 0) 1 4 Try.underlying25 hi hz0 hz1 hz2 rfl (by decide) (.slice va j vc) j _ rfl (ho.out.alloc _) ⟨wr.heap.size, 0, none⟩ 1 1 [.int .u32 _] rfl rfl (news1 _ _ _) (by simp [Value.oneCell']) (by decide) (by unfold maxLen; omega) (by omega) (by simp; omega) _ rfl ?_; intro g cap1 w7 hown1 hgrow1 hat1 hlt1))
        refine ⟨⟨j + 1, by omega, by go_num, Lib.hid (by first | (rw [hsr.out]; exact hown1) | (rw [hsr.out, ← hfh.out]; exact hown1)), Lib.hid ((hB.out.alloc hsz _).grown hgrow1 (by simp; omega) (fun k hk => own_ge ho.out k hk))⟩, by simp [intOf]; omega⟩
      · have e0 := hyo.out j hy
        rw [e0] at hfj
        have hyd : decide ((j : Int) < Yn) = false := by simp; omega
        have hfj2 : (0 : Int) % (2 * (T.nodes.length : Int)) = f j := hfj.symm
        have hfh := Lib.hid hfj2
        clear hfj
        go_wp2_with (first
          | (go_at_call 8; (with_reducible refine hnr.out.mono ?_); rintro e w9 ⟨rfl, rfl⟩)
          | (at_builtin; refine wpList_append_lies _ rfl _ _ 25 rfl w5.heap.size 39 i0 (.int .u32 0) 1 4 Try.underlying25 hi hz0 hz1 hz2 rfl (by decide) (.slice va j vc) j _ rfl (ho.out.alloc _) ⟨wr.heap.size, 0, none⟩ 1 1 [.int .u32 _] rfl rfl (news1 _ _ _) (by simp [Value.oneCell']) (by decide) (by unfold maxLen; omega) (by omega) (by simp; omega) _ rfl ?_; intro g cap1 w7 hown1 hgrow1 hat1 hlt1))
        refine ⟨⟨j + 1, by omega, by go_num, Lib.hid (by first | (rw [hsr.out]; exact hown1) | (rw [hsr.out, ← hfh.out]; exact hown1)), Lib.hid ((hB.out.alloc hsz _).grown hgrow1 (by simp; omega) (fun k hk => own_ge ho.out k hk))⟩, by simp [intOf]; omega⟩
    · obtain rfl : j = il := by omega
      obtain ⟨w6, rfl⟩ : ∃ w, w = wr := ⟨_, rfl⟩
      have hX6 := Lib.hid (hX5.out.step hB.out)
      have hD6 := Lib.hid (hD5.out.step hB.out)
      have hx6 := Lib.hid (own_below (own_below hx4.out.own hB5.out) hB.out)
      have hR6 : Hid (Row .u32 w6 va j (Bits.row j f)) := Lib.hid (Row.of_own ho.out (by simp [Bits.row]) (by omega))
      have hw6 := hB.out.size
      have hq0 : Hid ((Bits.row 0 f).map (Value.int .u32) = []) := Lib.hid rfl
      obtain ⟨k0, ki, kz0, kz1, kz2⟩ := info_parts info_lit
      clear hX5 hD5 hB ho hno hys hyo HY hfi hB5 hx4 hi hz0 hz1 hz2
      go_wp2
      go_loopw [14, 15] (fun v s wr => ∃ k : Nat, k ≤ j ∧ s = .int .i64 k ∧ Hid (wr.ownsRow w6.heap.size 40 1 v k ((Bits.row k f).map (Value.int .u32))) ∧ Hid (Below w6.heap.size w6 wr)) (fun _ s _ => j - (intOf s).toNat)
      case atStart => exact ⟨0, Nat.zero_le _, rfl, Lib.hid (by rw [hq0.out]; exact own_nil _ _ _), Lib.hid (Below.refl _ _)⟩
      case round =>
        obtain ⟨k, hk, rfl, ho, hB⟩ := hrel
        obtain ⟨ta, tc, rfl⟩ := own_slice ho.out
        by_cases hlk : k < j
        · have hsz := hB.out.size
          have hsr := Lib.hid (hrows.out k)
          obtain ⟨b, off, rfl, hb, hcell⟩ := hR6.out.at (by omega)
          have cy := stepc hB.out hb (hcell k hlk)
          have hkj : (k : Int) < j := by omega
          rw [getD_row _ _ _ hlk] at cy
          generalize f k = y at *
          clear hcell
          go_wp2_with (at_builtin; refine wpList_append_lies _ rfl _ _ 34 rfl w6.heap.size 40 k0 (.int .u32 0) 1 4 Try.underlying34 ki kz0 kz1 kz2 rfl (by decide) (.slice ta k tc) k _ rfl (ho.out.alloc _) ⟨wr.heap.size, 0, none⟩ 1 1 [.int .u32 _] rfl rfl (news1 _ _ _) (by simp [Value.oneCell']) (by decide) (by unfold maxLen; omega) (by omega) (by simp; omega) _ rfl ?_; intro g cap1 w7 hown1 hgrow1 hat1 hlt1)
          refine ⟨⟨k + 1, by omega, by go_num, Lib.hid (by rw [hsr.out]; exact hown1), Lib.hid ((hB.out.alloc hsz _).grown hgrow1 (by simp; omega) (fun k hk => own_ge ho.out k hk))⟩, by simp [intOf]; omega⟩
        · obtain rfl : k = j := by omega
          obtain ⟨w7, rfl⟩ : ∃ w, w = wr := ⟨_, rfl⟩
          have hX7 := Lib.hid (hX6.out.step hB.out)
          have hD7 := Lib.hid (hD6.out.step hB.out)
          have hx7 : Hid (Row .u32 w7 xa (min n 40) ((l.take 40).map (brV G.nodes.length))) := Lib.hid (Row.of_own (own_below hx6.out hB.out) (by have := hx6.out.1; simpa using this) (by omega))
          have hxm : Hid (∀ x, xa = some x → ∃ cur, w7.heap[x.block]? = some (.cells cur 40 (0, 0))) := Lib.hid (fun x hx => by subst hx; exact own_type (own_below hx6.out hB.out) rfl)
          have hb7 : Hid (Row .u32 w7 ta k (Bits.row k f)) := Lib.hid (Row.of_own ho.out (by simp [Bits.row]) (by omega))
          have hbm : Hid (∀ x, ta = some x → ∃ cur, w7.heap[x.block]? = some (.cells cur 40 (0, 0))) := Lib.hid (fun x hx => by subst hx; exact own_type ho.out rfl)
          have hxl : Hid (AllThere G ((l.take 40).map (brV G.nodes.length)) ∧ ((l.take 40).map (brV G.nodes.length)).length = min n 40) := Lib.hid ⟨fun x hx => by
            obtain ⟨z, -, rfl⟩ := List.mem_map.1 hx
            exact brV_there hD7.out.g.wf (by omega) z, hx7.out.len⟩
          have hbl : Hid (AllThere T (Bits.row k f) ∧ (Bits.row k f).length = k) := Lib.hid ⟨fun x hx => by
            simp [Bits.row] at hx
            obtain ⟨z, -, rfl⟩ := hx
            exact hfl.out z, by simp [Bits.row]⟩
          have hcw := Lib.hid hD7.out.t.copy
          generalize (l.take 40).map (brV G.nodes.length) = xl at *
          generalize Bits.row k f = bl at *
          have hm40 : min n 40 ≤ 40 := by omega
          generalize min n 40 = m at *
          clear hX6 hD6 hx6 hR6 hB ho hrow0 hrows hq0 hfl ki kz0 kz1 kz2 hw6
          have hcc : Hid (∀ w8 p8, AtG w Bt w8 pt T → AtG w Bt2 w8 p8 T → True) := Lib.hid (fun _ _ _ _ => trivial)
          clear hcc
          go_upto_region 21 with (go_at_call 12; (with_reducible refine hcw.out.mono ?_); rintro e w8 ⟨Bw, pw, rfl, hwa, hta, hap, hB⟩; have hX8 := Lib.hid (hX7.out.step hB); have hD8 := Lib.hid (hD7.out.step hB); have hwa := Lib.hid hwa; have hap := Lib.hid hap; have hx8 := Lib.hid (hx7.out.step hB); have hb8 := Lib.hid (hb7.out.step hB); have hxm8 : Hid (∀ x, xa = some x → ∃ cur, w8.heap[x.block]? = some (.cells cur 40 (0, 0))) := Lib.hid (fun x hx => (by obtain ⟨cur, hc⟩ := hxm.out x hx; exact ⟨cur, (hB.block _ (Array.getElem?_eq_some_iff.1 hc).1).trans hc⟩)); have hbm8 : Hid (∀ x, ta = some x → ∃ cur, w8.heap[x.block]? = some (.cells cur 40 (0, 0))) := Lib.hid (fun x hx => (by obtain ⟨cur, hc⟩ := hbm.out x hx; exact ⟨cur, (hB.block _ (Array.getElem?_eq_some_iff.1 hc).1).trans hc⟩)); clear hX7 hD7 hx7 hb7 hxm hbm hcw hta hB)
          have hcp := Lib.hid (CopyL_any (bc := tc) (c := xc) hD8.out.t.is hD8.out.t.wf (by omega) hD8.out.g.is hD8.out.g.wf (by omega) hD8.out.ap (ba := ta) (byl := bl) (by rw [← hil2.out]; exact hb8.out) hbl.out.1 (a := xa) (n := m) (l := xl) hx8.out (fun x hx _ => by obtain ⟨cur, hc⟩ := hxm8.out x hx; exact hD8.out.t.is.other hc (by decide) (by decide) (by decide)) hxl.out.1 (by have := hxl.out.2; omega))
          rw [hD8.out.t.b, hD8.out.g.b, ← hil2.out] at hcp
          have hout := copyOut hD8.out.g.wf hD8.out.t.wf hbl.out.1 hxl.out.1 (by omega)
          generalize copyG G xl T bl = CP at *
          obtain ⟨T2, S2⟩ := CP
          simp only at hout hcp
          have HO := Lib.hid hout
          have hyl : Hid (AllThere T2 (Bits.row m (fun i => overV S2 (xl.getD i 0))) ∧ (Bits.row m (fun i => overV S2 (xl.getD i 0))).length = m) := Lib.hid ⟨fun x hx => by
            simp [Bits.row] at hx
            obtain ⟨z, -, rfl⟩ := hx
            exact hout.there _, by simp [Bits.row]⟩
          have hT2l : T2.nodes.length ≤ 100000 := by have := hout.len; have := hout.sup; have := selTo_len (ReachP G xl) G.nodes.length; unfold reachL at *; omega
          have hT2g : T.nodes.length ≤ T2.nodes.length := hout.le.len
          have hin2 : T2.inputs = T.inputs := hout.ins
          have hin3 := Lib.hid hin2
          clear hout
          have hmk := Lib.hid (fun w9 p9 g9 (hC : Copied w8 pt w9 p9 T2 g9 m (Bits.row m (fun i => overV S2 (xl.getD i 0)))) => phD hD8.out hwa.out hap.out hX8.out hC HO.out.wf hT2l hx8.out hb8.out hxm8.out hbm8.out (by omega) hyl.out.2)
          have hgw := Lib.hid (fun (fl gv ws ws2 wsG : List Int) (hV : Val T2 fl ws) (hV2 : Val T2 fl ws2) (hG : Val G (Bits.row k (wordsF bl ws)) wsG) => got_want HO.out hbl.out.1 hxl.out.2 hbl.out.2 hil2.out hV hV2 hG)
          generalize Bits.row m (fun i => overV S2 (xl.getD i 0)) = yl2 at *
          have hltd : decide ((T2.nodes.length : Int) < T.nodes.length) = false := by simp; omega
          have hmm := bnef (a := (m : Int)) (b := m) rfl
          clear hD8 hwa hap hX8 hx8 hb8 hxm8 hbm8
          go_upto_region 24 with (first
            | (go_at_call 13; (with_reducible refine hcp.out.mono ?_); rintro e w9 ⟨p9, g9, rfl, hC⟩; have hP := Lib.hid (hmk.out _ _ _ hC); have hn2 := Lib.hid (nodes_any hP.out.t.is.lay hP.out.t.wf.pos); have hn3 := Lib.hid (nodes_any hP.out.wa.is.lay hP.out.wa.wf.pos); rw [hP.out.t.b] at hn2; rw [hP.out.wa.b] at hn3; clear hC hmk)
            | (go_at_call 8; (with_reducible refine hn2.out.mono ?_); rintro e w10 ⟨rfl, rfl⟩)
            | (go_at_call 8; (with_reducible refine hn3.out.mono ?_); rintro e w10 ⟨rfl, rfl⟩))
          have hi2 : Hid (∀ wr, Below w9.heap.size w9 wr → Calls Try.prog 11 #[.pointer (some ⟨Bt, 0, none⟩)] wr fun e w' => ∃ (a : Option Addr) (c : Nat), e = .returned (.slice a T2.inputs.length c) ∧ Below wr.heap.size wr w') := Lib.hid (fun wr hb => (hP.out.t.step hb).inputsOf)
          have hi3 : Hid (∀ wr, Below w9.heap.size w9 wr → Calls Try.prog 11 #[.pointer (some ⟨Bw, 0, none⟩)] wr fun e w' => ∃ (a : Option Addr) (c : Nat), e = .returned (.slice a T.inputs.length c) ∧ Below wr.heap.size wr w') := Lib.hid (fun wr hb => (hP.out.wa.step hb).inputsOf)
          have hcn := hP.out.t.wf.cnt
          obtain ⟨i2, hi2e⟩ : ∃ i2, i2 = T2.inputs.length := ⟨_, rfl⟩
          rw [← hi2e] at hi2
          rw [← hin2, ← hi2e] at hi3
          have hi2l : i2 ≤ 100000 := by omega
          have hfi : Hid (∀ wr, Below w9.heap.size w9 wr → Calls Try.prog 14 #[.slice Ia In Ic, .int .i64 i2] wr fun e w' => ∃ g, e = .returned (.slice (some ⟨g, 0, none⟩) i2 i2) ∧ Row .u64 w' (some ⟨g, 0, none⟩) i2 (Bits.row i2 (fillL inl)) ∧ Below wr.heap.size wr w') := Lib.hid (fun wr hb => (filled_any (hI.step (hP.out.g.step hb).below) (by omega)).mono (fun e w' ⟨g, he, hm⟩ => ⟨g, he, Row.of_own hm.own (by simp [Bits.row]) (by omega), hm.below⟩))
          have hwt : Hid (∀ wr fa fc fl (a : Option Addr) (c n : Nat) l, Below w9.heap.size w9 wr → Row .u64 wr fa i2 fl → Words fl → Row .u32 wr a n l → AllThere T2 l → n ≤ 200000 → Calls Try.prog 15 #[.pointer (some ⟨Bt, 0, none⟩), .slice fa i2 fc, .slice a n c] wr fun e w' => ∃ (ws : List Int) (g : Nat), e = .returned (.tuple #[.slice (some ⟨g, 0, none⟩) n n, .int .i64 0]) ∧ Hid (Row .u64 w' (some ⟨g, 0, none⟩) n (Bits.row n (wordsF l ws))) ∧ Hid (Val T2 fl ws) ∧ Below wr.heap.size wr w') := Lib.hid (fun wr fa fc fl a c n l hb hr hw hs hl hn => by
            have := (hP.out.t.step hb).words (ic := fc) (c := c) (ia := fa) (by rw [← hi2e]; exact hr) hw hs hl hn
            rw [← hi2e] at this; exact this)
          have hwg : Hid (∀ wr fa fc fl (a : Option Addr) (c n : Nat) l, Below w9.heap.size w9 wr → Row .u64 wr fa k fl → Words fl → Row .u32 wr a n l → AllThere G l → n ≤ 200000 → Calls Try.prog 15 #[.pointer (some ⟨Bg, 0, none⟩), .slice fa k fc, .slice a n c] wr fun e w' => ∃ (ws : List Int) (g : Nat), e = .returned (.tuple #[.slice (some ⟨g, 0, none⟩) n n, .int .i64 0]) ∧ Hid (Row .u64 w' (some ⟨g, 0, none⟩) n (Bits.row n (wordsF l ws))) ∧ Hid (Val G fl ws) ∧ Below wr.heap.size wr w') := Lib.hid (fun wr fa fc fl a c n l hb hr hw hs hl hn => by
            have := (hP.out.g.step hb).words (ic := fc) (c := c) (ia := fa) (by rw [← hil2.out]; exact hr) hw hs hl hn
            rw [← hil2.out] at this; exact this)
          have HIW := Lib.hid hIw
          have c7 := hP.out.box.c7
          have hlt9 := hP.out.box.lt
          have I : Below w9.heap.size w9 w9.drew := (Below.refl _ _).drew
          have hi2h := Lib.hid hi2e
          clear hI hIw hcp hn2 hn3 hil2 hi2e hin2 hcn
          go_region_held3 (fun w' => w'.cell? ⟨w.heap.size, 7, none⟩ = some (.slice Ia In Ic)) (go_keep)
            (first
              | (go_at_call 11; (with_reducible refine (hi2.out _ I).mono ?_); rintro e w10 ⟨ua2, uc2, rfl, hB⟩; have c7' := stepc (nextw I hB) hlt9 c7; have I2 := nextw I hB; clear I hB; have I := I2; clear I2)
              | (go_at_call 14; (with_reducible refine (hfi.out _ I).mono ?_); rintro e w11 ⟨fg, rfl, hfr, hB⟩; have c7' := stepc (nextw I hB) hlt9 c7; have I2 := nextw I hB; clear I hB; have I := I2; clear I2))
          have HP := Lib.hid hP.out
          have hfw := Lib.hid (fill_words HIW.out i2)
          have hw1 := Lib.hid (hwt.out w11 _ i2 _ _ tc _ _ I hfr hfw.out (HP.out.bs.step I) (fun x hx => HO.out.le.there (hbl.out.1 x hx)) (by omega))
          have hF := Lib.hid hfr
          have I11 := Lib.hid I
          have hii := bnef (a := (i2 : Int)) (b := i2) rfl
          clear c7 c7' hfr I hfi hP
          generalize Bits.row i2 (fillL inl) = fl at *
          obtain ⟨w11, rfl⟩ : ∃ w, w = w11 := ⟨_, rfl⟩
          go_wp2_with (first
            | (go_at_call 15; (with_reducible refine hw1.out.mono ?_); rintro e w12 ⟨ws1, g12, rfl, hr12, hV1, hB⟩; have I12 := Lib.hid (nextw I11.out hB); have hF12 := Lib.hid (hF.out.step hB); have hw2 := Lib.hid (hwg.out w12 _ k _ _ xc _ _ I12.out hr12.out (words_row hV1.out.words) (HP.out.xs.step I12.out) hxl.out.1 (by omega)); clear hw1 hF I11 hB hr12)
            | (go_at_call 15; (with_reducible refine hw2.out.mono ?_); rintro e w13 ⟨ws2, g13, rfl, hr13, hV2, hB⟩; have I13 := Lib.hid (nextw I12.out hB); have hw3 := Lib.hid (hwt.out w13 _ i2 _ _ m _ _ I13.out (hF12.out.step hB) hfw.out (HP.out.ys.step I13.out) hyl.out.1 (by omega)); clear hw2 hF12 I12 hB)
            | (go_at_call 15; (with_reducible refine hw3.out.mono ?_); rintro e w14 ⟨ws3, g14, rfl, hr14, hV3, hB⟩; have I14 := Lib.hid (nextw I13.out hB); have hwo := Lib.hid (words_same (c := m) (c2 := m) (hr13.out.step hB) (by rw [← hgw.out fl [] ws1 ws3 ws2 hV1.out hV3.out hV2.out]; exact hr14.out)); clear hw3 I13 hB hr13 hr14)
            | (go_at_call 16; (with_reducible refine hwo.out.mono ?_); rintro e w15 ⟨rfl, hB⟩; have I15 := Lib.hid (nextw I14.out hB); have hi22 := Lib.hid (hi2.out _ I15.out); clear hwo I14 hB)
            | (go_at_call 11; (with_reducible refine hi22.out.mono ?_); rintro e w16 ⟨ub, uc3, rfl, hB⟩; have I16 := Lib.hid (nextw I15.out hB); have hi33 := Lib.hid (hi3.out _ I16.out); clear hi22 I15 hB)
            | (go_at_call 11; (with_reducible refine hi33.out.mono ?_); rintro e w17 ⟨ub2, uc4, rfl, hB⟩; have I17 := Lib.hid (nextw I16.out hB); clear hi33 I16 hB))
          have hnw : Hid (∀ wr, Below w9.heap.size w9 wr → Calls Try.prog 8 #[.pointer (some ⟨Bw, 0, none⟩)] wr fun e w' => e = .returned (.int .i64 T.nodes.length) ∧ wr = w') := Lib.hid (fun wr hb => by
            have h := HP.out.wa.step hb
            have := nodes_any h.is.lay h.wf.pos
            rw [h.b] at this; exact this)
          have hgw1 : Hid (∀ wr j, Below w9.heap.size w9 wr → j < T.nodes.length → Calls Try.prog 17 #[.pointer (some ⟨Bw, 0, none⟩), .int .i64 j] wr fun e w' => e = .returned (.tuple #[.int .u32 (nodeAt T j).a, .int .u32 (nodeAt T j).b, .bool (nodeAt T j).gate]) ∧ Below w9.heap.size w9 w') := Lib.hid (fun wr j hb hj => by
            have h := HP.out.wa.step hb
            have := Gate_any h.is h.wf (by omega) hj
            rw [h.b] at this
            exact this.mono (fun e w' ⟨he, hB⟩ => ⟨he, nextw hb hB⟩))
          have hgt1 : Hid (∀ wr j, Below w9.heap.size w9 wr → j < T.nodes.length → Calls Try.prog 17 #[.pointer (some ⟨Bt, 0, none⟩), .int .i64 j] wr fun e w' => e = .returned (.tuple #[.int .u32 (nodeAt T j).a, .int .u32 (nodeAt T j).b, .bool (nodeAt T j).gate]) ∧ Below w9.heap.size w9 w') := Lib.hid (fun wr j hb hj => by
            have h := HP.out.t.step hb
            have e : nodeAt T2 j = nodeAt T j := by
              have h1 := HO.out.le.node (nodeAt_some hj)
              have h2 := nodeAt_some (G := T2) (i := j) (by omega)
              rw [h1] at h2; exact (Option.some.inj h2).symm
            have := Gate_any h.is h.wf (by omega) (j := j) (by omega)
            rw [h.b, e] at this
            exact this.mono (fun e w' ⟨he, hB⟩ => ⟨he, nextw hb hB⟩))
          have hre : Hid (∀ wr, Below w9.heap.size w9 wr → Calls Try.prog 18 #[.pointer (some ⟨Bg, 0, none⟩), .slice xa m xc] wr fun e w' => ∃ a2 c2, e = .returned (.tuple #[.slice a2 (reachL G xl).length c2, .int .i64 0]) ∧ Below w9.heap.size w9 w') := Lib.hid (fun wr hb => by
            have h := HP.out.g.step hb
            have := Reach_any (c := xc) h.is h.wf (by omega) (HP.out.xs.step hb) hxl.out.1
            rw [h.b] at this
            exact this.mono (fun e w' ⟨a2, c2, he, ht⟩ => ⟨a2, c2, he, nextw hb ht.below⟩))
          have hsu : Hid (∀ wr, Below w9.heap.size w9 wr → Calls Try.prog 19 #[.pointer (some ⟨Bg, 0, none⟩), .slice xa m xc] wr fun e w' => ∃ a2 c2, e = .returned (.tuple #[.slice a2 (supL G xl).length c2, .int .i64 0]) ∧ Below w9.heap.size w9 w') := Lib.hid (fun wr hb => by
            have h := HP.out.g.step hb
            have := Support_any (c := xc) h.is h.wf (by omega) (HP.out.xs.step hb) hxl.out.1
            rw [h.b] at this
            exact this.mono (fun e w' ⟨a2, c2, he, ht⟩ => ⟨a2, c2, he, nextw hb ht.below⟩))
          have hcn1 := HP.out.t.wf.cnt
          have hcn2 := HP.out.wa.wf.cnt
          rw [hin3.out] at hcn1
          have hGt : Hid (∀ wr, Below w9.heap.size w9 wr → Calls Try.prog 20 #[.pointer (some ⟨Bt, 0, none⟩)] wr fun e w' => e = .returned (.int .i64 ((T2.nodes.length : Int) - 1 - T.inputs.length)) ∧ Below w9.heap.size w9 w') := Lib.hid (fun wr hb => by
            have h := HP.out.t.step hb
            have := gates_any h.is.lay h.wf.pos (by rw [hin3.out]; omega) (by omega)
            rw [h.b, hin3.out] at this
            exact this.mono (fun e w' ⟨he, hB⟩ => ⟨he, nextw hb hB⟩))
          have hGw : Hid (∀ wr, Below w9.heap.size w9 wr → Calls Try.prog 20 #[.pointer (some ⟨Bw, 0, none⟩)] wr fun e w' => e = .returned (.int .i64 ((T.nodes.length : Int) - 1 - T.inputs.length)) ∧ Below w9.heap.size w9 w') := Lib.hid (fun wr hb => by
            have h := HP.out.wa.step hb
            have := gates_any h.is.lay h.wf.pos (by omega) (by omega)
            rw [h.b] at this
            exact this.mono (fun e w' ⟨he, hB⟩ => ⟨he, nextw hb hB⟩))
          have hte := Lib.hid (fun wr => tells_any wr)
          have hbel := Lib.hid (fun wr (hb : Below w9.heap.size w9 wr) => nextw HP.out.g.below hb)
          have hlen := HO.out.len
          have hsup := HO.out.sup
          have hrl := selTo_len (ReachP G xl) G.nodes.length
          have hrl2 : (reachL G xl).length ≤ 181 := by unfold reachL; omega
          generalize (reachL G xl).length = rl at *
          generalize (supL G xl).length = sl at *
          generalize hTn : T.nodes.length = tn at *
          generalize T2.nodes.length = tn2 at *
          generalize T.inputs.length = ti at *
          clear HP HO hgw hwt hwg hi2 hi3 hV1 hV2 hV3 hfw HIW hyl hxl hbl hin3 hi2h hrl hTn
          go_loopw [25] (fun s wr => ∃ j : Nat, j ≤ tn ∧ s = .int .i64 j ∧ Hid (Below w9.heap.size w9 wr)) (fun s _ => tn - (intOf s).toNat)
          case atStart => exact ⟨0, Nat.zero_le _, rfl, I17⟩
          case round =>
            clear I17
            obtain ⟨j, hj, rfl, hB⟩ := hrel
            have hn1 := Lib.hid (hnw.out _ hB.out)
            by_cases hlt : j < tn
            · have hg1 := Lib.hid (hgw1.out _ _ hB.out hlt)
              have hg2 := Lib.hid (fun wr hb => hgt1.out wr j hb hlt)
              generalize (nodeAt T j).gate = ga at *
              generalize (nodeAt T j).a = na at *
              generalize (nodeAt T j).b = nb at *
              have hna := bnef (a := na) (b := na) rfl
              have hnb := bnef (a := nb) (b := nb) rfl
              have hgg : (ga != ga) = false := by cases ga <;> rfl
              go_wp2_with (first
                | (go_at_call 8; (with_reducible refine hn1.out.mono ?_); rintro e w18 ⟨rfl, rfl⟩)
                | (go_at_call 17; (with_reducible refine hg1.out.mono ?_); rintro e w19 ⟨rfl, hB1⟩; have hg3 := Lib.hid (hg2.out _ hB1); clear hB1)
                | (go_at_call 17; (with_reducible refine hg3.out.mono ?_); rintro e w20 ⟨rfl, hB2⟩; have hB2 := Lib.hid hB2))
              exact ⟨⟨j + 1, by omega, by go_num, hB2⟩, by simp [intOf]; omega⟩
            · obtain rfl : j = tn := by omega
              have hr1 := Lib.hid (hre.out _ hB.out)
              have hti : ti ≤ j := by omega
              have hdec : decide ((tn2 : Int) - 1 - ti - ((j : Int) - 1 - ti) ≤ (rl : Int) - sl) = true := by simp; omega
              have hsl : sl ≤ 181 := by omega
              have hfin := Lib.hid (fun wr hb => hbel.out wr hb)
              clear hcn1 hcn2
              go_wp2_with (first
                | (go_at_call 8; (with_reducible refine hn1.out.mono ?_); rintro e w18 ⟨rfl, rfl⟩)
                | (go_at_call 18; (with_reducible refine hr1.out.mono ?_); rintro e w19 ⟨ra, rc, rfl, hB1⟩; have hs1 := Lib.hid (hsu.out _ hB1); clear hB1)
                | (go_at_call 19; (with_reducible refine hs1.out.mono ?_); rintro e w20 ⟨sa, sc, rfl, hB2⟩; have hB2 := Lib.hid hB2; have hgt2 := Lib.hid (hGt.out _ hB2.out))
                | (go_at_call 20; (with_reducible refine hgt2.out.mono ?_); rintro e w21 ⟨rfl, hB3⟩; have hgw2 := Lib.hid (hGw.out _ hB3); clear hB3)
                | (go_at_call 20; (with_reducible refine hgw2.out.mono ?_); rintro e w22 ⟨rfl, hB4⟩; have hB4 := Lib.hid hB4)
                | (go_at_call 21; (with_reducible refine (hte.out _).mono ?_); rintro e w23 ⟨rfl, hB5⟩; have hB5 := Lib.hid (nextw hB4.out hB5)))
              go_ret
              exact ⟨rfl, hfin.out _ hB5.out⟩
end Go.Proofs.Ytmljpbbnllfgbaa
