/-
  EmitOnce: a copy whose buses' literals lie in blocks of their own; a literal stored anew.
-/
import Derived.Test.YtafoohdndlhbnaaGreatDoorFENU
import Derived.Test.YtafoohdndlhbnaaGreatDoorFENK
section
namespace Go.Proofs.YtafoohdndlhbnaaGreatDoor
open Go.RowKit Go.Maps Bits
set_option maxRecDepth 100000
set_option linter.unusedVariables false

/-- The rows of literals lie apart. -/
def RFar (K : List BV) : Prop := K.Pairwise (fun k k2 => FarA k.a k2.a)
def RNew (w : World) (K : List BV) : Prop := ∀ k ∈ K, NewA w k.a
theorem LRow.lt {w : World} {a : Option Addr} {n c : Nat} {l : List Int} (h : LRow w a n c l) {x : Addr} (hx : a = some x) : x.block < w.heap.size := by
  subst hx
  obtain ⟨cur, hc⟩ := own_type h.own (k := x.block) (by simp [Value.ownBlock])
  exact (Array.getElem?_eq_some_iff.1 hc).1
theorem BusAt.rowAt {w : World} {v : Value} {L : List Bus} {K : List BV} (h : BusAt w v L K) {k : BV} (hk : k ∈ K) : ∃ b ∈ L, LRow w k.a k.n k.c b.lits := by
  obtain ⟨i, hi, e⟩ := List.getElem_of_mem hk
  have hl := h.len
  have hiL : i < L.length := by omega
  exact ⟨L[i], List.getElem_mem hiL, (h.row i k L[i] (by rw [← e]; exact List.getElem?_eq_getElem hi) (List.getElem?_eq_getElem hiL)).2⟩
theorem rows_far {w : World} {v : Value} {L : List Bus} {K K2 : List BV} (h : BusAt w v L K) (h2 : RNew w K2) : ∀ k ∈ K, ∀ k2 ∈ K2, FarA k.a k2.a := by
  intro k hk k2 hk2 x y hx hy e
  obtain ⟨b, -, hr⟩ := h.rowAt hk
  have := hr.lt hx
  have := h2 k2 hk2 y hy
  omega
theorem RNew.mono {W w : World} {K : List BV} (h : RNew w K) (hs : W.heap.size ≤ w.heap.size) : RNew W K := fun k hk => (h k hk).mono hs
/-- Buses in a row of their own. -/
structure BusF (w0 w : World) (v : Value) (L : List Bus) (K : List BV) : Prop where
  at_ : BusAt w v L K
  far : RFar K
  new : RNew w0 K
theorem BusF.below {w0 w w' : World} {v : Value} {L : List Bus} {K : List BV} (h : BusF w0 w v L K) (hb : Below w.heap.size w w') : BusF w0 w' v L K := ⟨h.at_.below hb, h.far, h.new⟩
theorem BusF.mono {W w0 w : World} {v : Value} {L : List Bus} {K : List BV} (h : BusF w0 w v L K) (hs : W.heap.size ≤ w0.heap.size) : BusF W w v L K := ⟨h.at_, h.far, h.new.mono hs⟩
theorem BusF.farA {w0 w : World} {a b : Option Addr} {n c : Nat} {L : List Bus} {K : List BV} (h : BusF w0 w (.slice a n c) L K) (hb : NewA w b) : FarA a b := BusRow.farA ⟨K, h.at_⟩ hb
/-- A copy of buses that is being made, its rows apart. -/
structure CopF (w wr : World) (g n j : Nat) (L : List Bus) (K : List BV) : Prop where
  t : CopT w wr g n j L K
  far : RFar K
  new : RNew w K
  lt : ∀ k ∈ K, ∀ x, k.a = some x → x.block < wr.heap.size
theorem CopF.step {w wr w2 : World} {g n j : Nat} {L : List Bus} {K : List BV} (h : CopF w wr g n j L K) (hb : Below wr.heap.size wr w2) : CopF w w2 g n j L K :=
  ⟨h.t.step hb, h.far, h.new, fun k hk x hx => Nat.lt_of_lt_of_le (h.lt k hk x hx) hb.size⟩
theorem CopF.next {w wr wq w4 : World} {g n j : Nat} {L : List Bus} {K : List BV} (h : CopF w wq g n j L K) (hj : j < n) {b : Bus} (hb : L[j]? = some b) {a : Option Addr} {c : Nat} (h4 : Below wq.heap.size wq w4) (hw4 : w.heap.size ≤ w4.heap.size) (hn : NewA w4 a) (hr : Below w4.heap.size w4 wr) (hl : LRow wr a b.lits.length c b.lits) :
    CopF w ((wr.setCell ⟨g, j * 2, none⟩ (.string b.name)).setCell ⟨g, j * 2 + 1, none⟩ (.slice a b.lits.length c)) g n (j + 1) L (K ++ [⟨b.name, a, b.lits.length, c⟩]) := by
  have hq := nextw h4 hr
  have h1 := ((h.step hq).t.next hj hb hl).1
  refine ⟨h1, ?_, ?_, ?_⟩
  · refine List.pairwise_append.2 ⟨h.far, List.pairwise_singleton _ _, fun k hk k2 hk2 x y hx hy e => ?_⟩
    rw [List.mem_singleton] at hk2
    subst hk2
    have e1 := h.lt k hk x hx
    have e2 := hn y hy
    have e3 := h4.size
    omega
  · intro k hk
    rcases List.mem_append.1 hk with hk | hk
    · exact h.new k hk
    · rw [List.mem_singleton] at hk; subst hk
      exact hn.mono hw4
  · intro k hk x hx
    have hs := hq.size
    rcases List.mem_append.1 hk with hk | hk
    · have := h.lt k hk x hx
      simp [World.setCell]; omega
    · rw [List.mem_singleton] at hk; subst hk
      have := hl.lt hx
      simp [World.setCell]; omega
set_option maxHeartbeats 1000000 in
theorem copiedF_any {w : World} {a : Option Addr} {n c : Nat} {L : List Bus} (h : BusRow w (.slice a n c) L) (hn : n = L.length) (hw : ∀ b ∈ L, b.lits.length ≤ 64) (hm : n ≤ 10000) :
    Calls Tryz.prog 60 #[.slice a n c] w fun e w' => ∃ (a2 : Option Addr) (c2 : Nat) (K : List BV), e = .returned (.slice a2 n c2) ∧ BusF w w' (.slice a2 n c2) L K ∧ (∀ x, a2 = some x → w.heap.size ≤ x.block) ∧ Below w.heap.size w w' := by
  obtain ⟨i0, hi, hz0, hz1, hz2⟩ := info_parts info_bus
  have HI := Lib.hid (made_bv n)
  have H := Lib.hid h
  have HN := Lib.hid hn
  have HW := Lib.hid hw
  clear h hn hw
  go_enter Tryz.func60, Tryz.ntmps60
  go_wp2_with (at_make; refine wpList_make_full _ rfl _ _ 58 rfl w.heap.size 71 i0 (.agg #[.string ByteArray.empty, .slice none 0 0]) 2 Tryz.underlying58 hi hz0 hz1 .i64 .i64 n n n rfl rfl rfl rfl (by rw [hz2]; omega) (by unfold maxLen; omega) (Nat.le_refl _) ?_; intro w3 hown hg)
  rw [HI.out] at hown
  have hb3 := Lib.hid ((Below.refl w.heap.size w).grown hg (Nat.le_refl _) (fun _ h => by cases h))
  have hF : Hid (CopF w w3 w.heap.size n 0 L []) := Lib.hid ⟨⟨rfl, hown, fun i k b e => by simp at e⟩, List.Pairwise.nil, (fun k hk => by cases hk), (fun k hk => by cases hk)⟩
  have hz3 : Hid (w.heap.size < w3.heap.size) := Lib.hid (own_lt hown)
  clear HI hown hg
  go_loopw [11] (fun i wr => ∃ (j : Nat) (K : List BV), j ≤ n ∧ i = .int .i64 j ∧ Hid (CopF w wr w.heap.size n j L K) ∧ Hid (Below w.heap.size w wr)) (fun i _ => n - (intOf i).toNat)
  case atStart => exact ⟨0, [], Nat.zero_le _, rfl, hF, hb3⟩
  case round =>
    clear hF hb3 hz3
    obtain ⟨j, K, hj, rfl, hF, hB⟩ := hrel
    by_cases hlt : j < n
    · have hjL : j < L.length := by rw [← HN.out]; exact hlt
      obtain ⟨g2, la, lc, rfl, hgl, b0, b1, hr⟩ := H.out.at hjL
      have c0 := stepc hB.out hgl b0
      have c1 := stepc hB.out hgl b1
      have hr := Lib.hid (hr.below hB.out)
      have h64 := HW.out _ (List.getElem_mem hjL)
      have hLj : L[j]? = some L[j] := List.getElem?_eq_getElem hjL
      clear b0 b1
      generalize L[j] = B at *
      have hLj := Lib.hid hLj
      have hb4 : Hid (Below wr.heap.size wr (wr.alloc (.cells #[.string B.name, .slice la B.lits.length lc] 71))) := Lib.hid ((Below.refl _ _).alloc (Nat.le_refl _) _)
      have d0 : (wr.alloc (.cells #[.string B.name, .slice la B.lits.length lc] 71)).cell? ⟨wr.heap.size, 0, none⟩ = some (.string B.name) := by simp [go_sem]
      have d1 : (wr.alloc (.cells #[.string B.name, .slice la B.lits.length lc] 71)).cell? ⟨wr.heap.size, 1, none⟩ = some (.slice la B.lits.length lc) := by simp [go_sem]
      have hz4 : wr.heap.size < (wr.alloc (.cells #[.string B.name, .slice la B.lits.length lc] 71)).heap.size := by simp
      have hcl := Lib.hid (fun w2 (hb2 : Below wr.heap.size wr w2) => clone_lit (c := lc) (hr.out.below hb2).row (by omega))
      have hFs := Lib.hid (fun w2 (hb2 : Below wr.heap.size wr w2) => hF.out.step hb2)
      have hs0 := own_some' hF.out.t.own (i := j * 2) (by omega)
      have hs1 := own_some' hF.out.t.own (i := j * 2 + 1) (by omega)
      obtain ⟨u0, hu0⟩ := hs0
      obtain ⟨u1, hu1⟩ := hs1
      have hfz := hF.out.t.own.frozenAt
      have hgw := own_lt hF.out.t.own
      have f0 := hfz (j * 2)
      have f1 := hfz (j * 2 + 1)
      have hFw := Lib.hid hF.out
      have hwz := hB.out.size
      clear hr hfz hF
      generalize hll : B.lits.length = ll at *
      generalize hnm : B.name = nm at *
      have hll := Lib.hid hll
      have hnm := Lib.hid hnm
      go_upto_region 5 with fail
      generalize wr.alloc (.cells #[.string nm, .slice la ll lc] 71) = w4 at *
      have e0 := stepc hb4.out hgw hu0
      have e1 := stepc hb4.out hgw hu1
      clear c0 c1
      go_region_law (first
        | (go_simp; go_at_call 57; (with_reducible refine (hcl.out _ hb4.out.drew).mono ?_); rintro e w6 ⟨a2, c2, rfl, hM⟩; have hM := Lib.hid hM; have hb5 := nextw ((Below.refl w4.heap.size w4).drew) hM.out.below; have k0 := stepc hb5 hz4 d0; have k1 := stepc hb5 hz4 d1; have m0 := stepc hb5 (Nat.lt_of_lt_of_le hgw hb4.out.size) e0; have m1 := stepc hb5 (Nat.lt_of_lt_of_le hgw hb4.out.size) e1; have hb6 := nextw hb4.out hb5; have n0 := ((bcell hb6).2 _ (j * 2) hgw).trans f0; have n1 := ((bcell hb6).2 _ (j * 2 + 1) hgw).trans f1; have hb6 := Lib.hid hb6; clear hb5))
      all_goals go_wp2
      all_goals
        have hnx := hFw.out.next hlt hLj.out (a := a2) (c := c2) hb4.out.drew (Nat.le_trans hwz hb4.out.drew.size) (own_newA hM.out.own (Nat.le_refl _)) hM.out.below (by rw [hll.out]; exact hM.out.lrow)
        rw [hll.out, hnm.out] at hnx
        exact ⟨⟨j + 1, _, by omega, by go_num, Lib.hid hnx, Lib.hid (((nextw hB.out hb6.out).setCell (Nat.le_refl _) _).setCell (Nat.le_refl _) _)⟩, by simp [intOf]; omega⟩
    · obtain rfl : j = n := by omega
      go_wp2
      go_ret
      exact ⟨some ⟨w.heap.size, 0, none⟩, j, K, rfl, ⟨⟨by rw [← HN.out]; have := hF.out.t.own; simp only [Nat.sub_self, List.replicate_zero, List.append_nil] at this; exact own_base this (Nat.zero_le _), by rw [hF.out.t.len, HN.out], hF.out.t.row⟩, hF.out.far, hF.out.new⟩, fun x hx => by cases hx; exact Nat.le_refl _, hB.out⟩
theorem ncopyF_end {w wk : World} {N : Nt} {p2 : Pl} {a r b : Option Addr} {c d e : Nat} {KI KO : List BV} (hB : Below w.heap.size w wk) (hG : Is wk p2 N.g) (hGn : ∀ k, p2.has k → w.heap.size ≤ k) (hI : BusF w wk (.slice a N.ins.length c) N.ins KI) (hIn : NewA w a)
    (hR : RegRow wk (.slice r N.regs.length d) N.regs) (hRn : NewA w r) (hO : BusF w wk (.slice b N.outs.length e) N.outs KO) (hOn : NewA w b) (hap : FarA a b) (hrr : ∀ k ∈ KI, ∀ k2 ∈ KO, FarA k.a k2.a) :
    ∃ q : NPl, q.b = wk.heap.size ∧ NetIs (wk.alloc (.cells #[.pointer (some ⟨p2.b, 0, none⟩), .string N.name, .slice a N.ins.length c, .slice r N.regs.length d, .slice b N.outs.length e] 61)) q N ∧ (∀ k, q.has k → w.heap.size ≤ k) ∧
      (BusF w (wk.alloc (.cells #[.pointer (some ⟨p2.b, 0, none⟩), .string N.name, .slice a N.ins.length c, .slice r N.regs.length d, .slice b N.outs.length e] 61)) q.iv N.ins KI ∧ BusF w (wk.alloc (.cells #[.pointer (some ⟨p2.b, 0, none⟩), .string N.name, .slice a N.ins.length c, .slice r N.regs.length d, .slice b N.outs.length e] 61)) q.ov N.outs KO ∧ ∀ k ∈ KI, ∀ k2 ∈ KO, FarA k.a k2.a) := by
  have hb1 : ∀ o, Below wk.heap.size wk (wk.alloc o) := fun o => (Below.refl _ _).alloc (Nat.le_refl _) _
  refine ⟨⟨wk.heap.size, p2, .slice a N.ins.length c, .slice r N.regs.length d, .slice b N.outs.length e⟩, rfl, ⟨Deep.blk_alloc_new _ _, hG.below (hb1 _), ⟨_, (hI.below (hb1 _)).at_⟩, own_below hR (hb1 _), ⟨_, (hO.below (hb1 _)).at_⟩, fun k h1 h2 => ?_⟩, fun k hk => ?_, hI.below (hb1 _), hO.below (hb1 _), hrr⟩
  · obtain ⟨x, hx, e1⟩ := blk_some h1
    obtain ⟨y, hy, e2⟩ := blk_some h2
    exact hap x y hx hy (e1.trans e2.symm)
  · rcases hk with rfl | hk | hk | hk | hk
    · exact hB.size
    · exact hGn k hk
    · obtain ⟨x, hx, rfl⟩ := blk_some hk; exact hIn x hx
    · obtain ⟨x, hx, rfl⟩ := blk_some hk; exact hRn x hx
    · obtain ⟨x, hx, rfl⟩ := blk_some hk; exact hOn x hx
set_option maxHeartbeats 4000000 in
theorem NCopyF_any {w : World} {q : NPl} {N : Nt} {rest : List Int} (h : NetIs w q N) (hg : Good N rest) (hm : N.g.nodes.length ≤ 190000) (hi : N.ins.length ≤ 10000) (hr : N.regs.length ≤ 10000) (ho : N.outs.length ≤ 10000) :
    Calls Tryz.prog 23 #[.pointer (some ⟨q.b, 0, none⟩)] w fun e w' => ∃ q2 : NPl, ∃ KI KO : List BV, e = .returned (.pointer (some ⟨q2.b, 0, none⟩)) ∧ NetIs w' q2 N ∧ (BusF w w' q2.iv N.ins KI ∧ BusF w w' q2.ov N.outs KO ∧ ∀ k ∈ KI, ∀ k2 ∈ KO, FarA k.a k2.a) ∧ Below w.heap.size w w' ∧ ∀ k, q2.has k → w.heap.size ≤ k := by
  have hst := Lib.hid (nstands_any h hg.wf.pos)
  obtain ⟨ia, ic, ra, rc, oa, oc, e1, e2, e3, c0, c1, c2, c3, c4, -⟩ := h.cells
  have hlt := h.lt
  have hIr := h.ins
  rw [e1] at hIr
  have hOr := h.outs
  rw [e3] at hOr
  have hRr := h.regs
  rw [e2] at hRr
  have hKG := Lib.hid (fun wk (hb : Below w.heap.size w wk) => (CpQ (Copy_any (h.g.below hb) hg.wf (by omega)) (fun e w2 => ∃ p2 : Pl, e = .returned (.pointer (some ⟨p2.b, 0, none⟩)) ∧ Is w2 p2 N.g ∧ (∀ k, p2.has k → w.heap.size ≤ k) ∧ Below wk.heap.size wk w2) (fun _ _ ⟨p2, he, h1, h2, h3⟩ => ⟨p2, he, h1, fun k hk => Nat.le_trans hb.size (h3 k hk), h2⟩)))
  have hKI := Lib.hid (fun wk (hb : Below w.heap.size w wk) => copiedF_any (hIr.below hb) rfl (fun b hb => (hg.ins.wide b hb).2) hi)
  have hKO := Lib.hid (fun wk (hb : Below w.heap.size w wk) => copiedF_any (hOr.below hb) rfl (fun b hb => (hg.outs.wide b hb).2) ho)
  have hKR := Lib.hid (fun wk (hb : Below w.heap.size w wk) => (CpQ (clone_reg (own_below hRr hb) rfl (by omega)) (fun e w2 => ∃ (a2 : Option Addr) (c2 : Nat), e = .returned (.slice a2 N.regs.length c2) ∧ RegRow w2 (.slice a2 N.regs.length c2) N.regs ∧ NewA w a2 ∧ Below wk.heap.size wk w2) (fun _ _ ⟨a2, c2, he, h1, h2⟩ => ⟨a2, c2, he, own_base h1 (Nat.zero_le _), own_newA h1 hb.size, h2⟩)))
  have hend := Lib.hid (fun wk p2 a r b c d e KI KO (h1 : Below w.heap.size w wk) hG hGn (hI : BusF w wk (.slice a N.ins.length c) N.ins KI) hIn hR hRn (hO : BusF w wk (.slice b N.outs.length e) N.outs KO) hOn hap (hrr : ∀ k ∈ KI, ∀ k2 ∈ KO, FarA k.a k2.a) => ncopyF_end (N := N) (p2 := p2) (a := a) (r := r) (b := b) (c := c) (d := d) (e := e) h1 hG hGn hI hIn hR hRn hO hOn hap hrr)
  have hKeep := Lib.hid (fun (wk w2 : World) (hb : Below w.heap.size w wk) (hb2 : Below wk.heap.size wk w2) (o : Nat) (v : Value) (h : wk.cell? ⟨q.b, o, none⟩ = some v) => stepc hb2 (Nat.lt_of_lt_of_le hlt hb.size) h)
  have I : Below w.heap.size w w.drew := (Below.refl _ _).drew
  clear h hg hIr hOr hRr e1 e2 e3 hlt hm
  generalize hni : N.ins.length = ni at *
  generalize hnr : N.regs.length = nr at *
  generalize hno : N.outs.length = no at *
  generalize hnn : N.name = nm at *
  generalize q.g.b = gb at *
  clear hni hnr hno hnn
  go_enter Tryz.func23, Tryz.ntmps23
  go_upto_region 3 with (go_at_call 48; (with_reducible refine hst.out.mono ?_); rintro e w2 ⟨rfl, rfl⟩)
  clear hst
  go_region_held3 (fun w' => w'.cell? ⟨q.b, 0, none⟩ = some (.pointer (some ⟨gb, 0, none⟩)) ∧ w'.cell? ⟨q.b, 1, none⟩ = some (.string nm) ∧ w'.cell? ⟨q.b, 2, none⟩ = some (.slice ia ni ic) ∧ w'.cell? ⟨q.b, 3, none⟩ = some (.slice ra nr rc) ∧ w'.cell? ⟨q.b, 4, none⟩ = some (.slice oa no oc)) (go_keep)
    (first
      | (go_at_call 59; (with_reducible refine (hKG.out _ I).mono ?_); rintro e w2 ⟨p2, rfl, hG, hGn, hb⟩; have hG := Lib.hid hG; have hGn := Lib.hid hGn; (first | (have h1 := Lib.hid (hG.out.below hb); clear hG; have hG := h1; clear h1) | skip); (first | (have h1 := Lib.hid (hI.out.below hb); clear hI; have hI := h1; clear h1) | skip); (first | (have h1 := Lib.hid (own_below hR.out hb); clear hR; have hR := h1; clear h1) | skip); (first | (have h1 := Lib.hid (hO.out.below hb); clear hO; have hO := h1; clear h1) | skip); have q0 := hKeep.out _ _ I hb 0 _ c0; have q1 := hKeep.out _ _ I hb 1 _ c1; have q2 := hKeep.out _ _ I hb 2 _ c2; have q3 := hKeep.out _ _ I hb 3 _ c3; have q4 := hKeep.out _ _ I hb 4 _ c4; have I2 := nextw I hb; clear I hb c0 c1 c2 c3 c4; have I := I2; have c0 := q0; have c1 := q1; have c2 := q2; have c3 := q3; have c4 := q4; clear I2 q0 q1 q2 q3 q4)
      | (go_at_call 61; (with_reducible refine (hKR.out _ I).mono ?_); rintro e w2 ⟨a5, c5, rfl, hR, hRn, hb⟩; have hR := Lib.hid hR; have hRn := Lib.hid hRn; (first | (have h1 := Lib.hid (hG.out.below hb); clear hG; have hG := h1; clear h1) | skip); (first | (have h1 := Lib.hid (hI.out.below hb); clear hI; have hI := h1; clear h1) | skip); (first | (have h1 := Lib.hid (own_below hR.out hb); clear hR; have hR := h1; clear h1) | skip); (first | (have h1 := Lib.hid (hO.out.below hb); clear hO; have hO := h1; clear h1) | skip); have q0 := hKeep.out _ _ I hb 0 _ c0; have q1 := hKeep.out _ _ I hb 1 _ c1; have q2 := hKeep.out _ _ I hb 2 _ c2; have q3 := hKeep.out _ _ I hb 3 _ c3; have q4 := hKeep.out _ _ I hb 4 _ c4; have I2 := nextw I hb; clear I hb c0 c1 c2 c3 c4; have I := I2; have c0 := q0; have c1 := q1; have c2 := q2; have c3 := q3; have c4 := q4; clear I2 q0 q1 q2 q3 q4)
      | (go_at_call 60; (with_reducible refine (hKI.out _ I).mono ?_); rintro e w2 ⟨a6, c6, KI, rfl, hI, hIn, hb⟩; (first | (have hap := Lib.hid (hO.out.farA hIn).symm; have hrr := Lib.hid (fun k hk k2 hk2 => (rows_far hO.out.at_ hI.new k2 hk2 k hk).symm)) | skip); have hI := Lib.hid (hI.mono I.size); have hIn := Lib.hid (NewA.mono hIn I.size); (first | (have h1 := Lib.hid (hG.out.below hb); clear hG; have hG := h1; clear h1) | skip); (first | (have h1 := Lib.hid (hI.out.below hb); clear hI; have hI := h1; clear h1) | skip); (first | (have h1 := Lib.hid (own_below hR.out hb); clear hR; have hR := h1; clear h1) | skip); (first | (have h1 := Lib.hid (hO.out.below hb); clear hO; have hO := h1; clear h1) | skip); have q0 := hKeep.out _ _ I hb 0 _ c0; have q1 := hKeep.out _ _ I hb 1 _ c1; have q2 := hKeep.out _ _ I hb 2 _ c2; have q3 := hKeep.out _ _ I hb 3 _ c3; have q4 := hKeep.out _ _ I hb 4 _ c4; have I2 := nextw I hb; clear I hb c0 c1 c2 c3 c4; have I := I2; have c0 := q0; have c1 := q1; have c2 := q2; have c3 := q3; have c4 := q4; clear I2 q0 q1 q2 q3 q4)
      | (go_at_call 60; (with_reducible refine (hKO.out _ I).mono ?_); rintro e w2 ⟨a7, c7, KO, rfl, hO, hOn, hb⟩; (first | (have hap := Lib.hid (hI.out.farA hOn); have hrr := Lib.hid (rows_far hI.out.at_ hO.new)) | skip); have hO := Lib.hid (hO.mono I.size); have hOn := Lib.hid (NewA.mono hOn I.size); (first | (have h1 := Lib.hid (hG.out.below hb); clear hG; have hG := h1; clear h1) | skip); (first | (have h1 := Lib.hid (hI.out.below hb); clear hI; have hI := h1; clear h1) | skip); (first | (have h1 := Lib.hid (own_below hR.out hb); clear hR; have hR := h1; clear h1) | skip); (first | (have h1 := Lib.hid (hO.out.below hb); clear hO; have hO := h1; clear h1) | skip); have q0 := hKeep.out _ _ I hb 0 _ c0; have q1 := hKeep.out _ _ I hb 1 _ c1; have q2 := hKeep.out _ _ I hb 2 _ c2; have q3 := hKeep.out _ _ I hb 3 _ c3; have q4 := hKeep.out _ _ I hb 4 _ c4; have I2 := nextw I hb; clear I hb c0 c1 c2 c3 c4; have I := I2; have c0 := q0; have c1 := q1; have c2 := q2; have c3 := q3; have c4 := q4; clear I2 q0 q1 q2 q3 q4))
  all_goals go_wp2
  all_goals go_ret
  all_goals
    obtain ⟨q2, e1, h1, h2, h3⟩ := hend.out _ _ _ _ _ _ _ _ _ _ I hG.out hGn.out hI.out hIn.out hR.out hRn.out hO.out hOn.out hap.out hrr.out
    exact ⟨q2, _, _, by rw [e1]; rfl, h1, h3, I.alloc I.size _, h2⟩
/-- A literal of a bus that goes out, stored anew. -/
theorem out_store {w0 w : World} {q : NPl} {N : Nt} (h : NetIs w q N) {KI KO : List BV} (hI : BusF w0 w q.iv N.ins KI) (hO : BusF w0 w q.ov N.outs KO) (hrr : ∀ k ∈ KI, ∀ k2 ∈ KO, FarA k.a k2.a) {i : Nat} {k : BV} (hk : KO[i]? = some k) {b : Bus} (hb : N.outs[i]? = some b) {lb : Nat} (ha : k.a = some ⟨lb, 0, none⟩) (j : Nat) (x : Int) :
    NetIs (w.setCell ⟨lb, j, none⟩ (.int .u32 x)) q (setOutN N i ⟨b.name, b.lits.set j x⟩) := by
  obtain ⟨hname, hrow⟩ := hO.at_.row i k b hk hb
  have hown := hrow.own
  rw [ha] at hown
  have h1 := hown.stored j (.int .u32 x)
  have hg := h1.2
  have hkm : k ∈ KO := List.mem_of_getElem? hk
  obtain ⟨cur, hcur⟩ := own_type hown (k := lb) rfl
  have hkp : Kept (fun k => k = lb) w (w.setCell ⟨lb, j, none⟩ (.int .u32 x)) := ⟨hg.os, hg.tape, hg.output, hg.size, fun k hlt hn => hg.block k hlt (fun e => hn (by simpa using e))⟩
  have hno : ∀ k, q.has k → ¬ k = lb := fun k hp e => by subst e; exact h.noLits k _ _ hp hcur
  have hrowk : ∀ {a2 : Option Addr} {n c : Nat} {l : List Int}, LRow w a2 n c l → FarA a2 k.a → LRow (w.setCell ⟨lb, j, none⟩ (.int .u32 x)) a2 n c l := fun {a2 n c l} hr hf => ⟨hr.len, own_keptF hr.own hkp (fun y e ey => by
    obtain ⟨z, hz, ez⟩ := blk_some e
    exact hf z _ hz ha (by rw [ez]; exact ey))⟩
  refine ⟨(hkp.block _ h.lt (hno q.b (.inl rfl))).trans h.box, h.g.beside hkp (fun y hy hp => hno y (.inr (.inl hp)) hy), ⟨KI, own_keptF hI.at_.own hkp (fun y e ey => hno y (.inr (.inr (.inl e))) ey), hI.at_.len, fun i2 k2 b2 e1 e2 => ?_⟩,
    own_keptF h.regs hkp (fun y e ey => hno y (.inr (.inr (.inr (.inl e)))) ey), ⟨KO, ?_, ?_, fun i2 k2 b2 e1 e2 => ?_⟩, h.apart⟩
  · obtain ⟨r1, r2⟩ := hI.at_.row i2 k2 b2 e1 e2
    exact ⟨r1, hrowk r2 (hrr k2 (List.mem_of_getElem? e1) k hkm)⟩
  · show World.ownsRow _ _ _ _ _ (N.outs.set i _).length _
    rw [List.length_set]
    exact own_keptF hO.at_.own hkp (fun y e ey => hno y (.inr (.inr (.inr (.inr e)))) ey)
  · show KO.length = (N.outs.set i _).length
    rw [List.length_set]; exact hO.at_.len
  · have e2 : (N.outs.set i ⟨b.name, b.lits.set j x⟩)[i2]? = some b2 := e2
    by_cases hi : i = i2
    · subst hi
      have hlt := (List.getElem?_eq_some_iff.1 hb).1
      rw [List.getElem?_set_self hlt] at e2
      rw [hk] at e1
      cases e1; cases e2
      refine ⟨hname, by rw [List.length_set]; exact hrow.len, ?_⟩
      rw [List.map_set, ha]
      exact h1.1
    · rw [List.getElem?_set_ne hi] at e2
      obtain ⟨r1, r2⟩ := hO.at_.row i2 k2 b2 e1 e2
      refine ⟨r1, hrowk r2 ?_⟩
      obtain ⟨l1, g1⟩ := List.getElem?_eq_some_iff.1 e1
      obtain ⟨l2, g2⟩ := List.getElem?_eq_some_iff.1 hk
      rcases Nat.lt_or_gt_of_ne hi with hlt | hgt
      · have := List.pairwise_iff_getElem.1 hO.far i i2 l2 l1 hlt
        rw [g1, g2] at this
        exact this.symm
      · have := List.pairwise_iff_getElem.1 hO.far i2 i l1 l2 hgt
        rw [g1, g2] at this
        exact this
theorem BusF.cellsAt {w0 w : World} {a : Option Addr} {n c : Nat} {L : List Bus} {K : List BV} (h : BusF w0 w (.slice a n c) L K) {j : Nat} (hj : j < L.length) :
    ∃ (g : Nat) (k : BV), a = some ⟨g, 0, none⟩ ∧ g < w.heap.size ∧ K[j]? = some k ∧ w.cell? ⟨g, j * 2 + 1, none⟩ = some (.slice k.a L[j].lits.length k.c) ∧ LRow w k.a L[j].lits.length k.c L[j].lits := by
  have hK := h.at_
  obtain ⟨g, cap, e⟩ := own_form hK.own (by omega)
  have ho := hK.own
  rw [e] at ho
  have hl := bvCells_len K
  have hjK : j < K.length := by rw [hK.len]; exact hj
  obtain ⟨e0, e1⟩ := bvCells_at K j K[j] (List.getElem?_eq_getElem hjK)
  obtain ⟨n1, n2⟩ := hK.row j K[j] L[j] (List.getElem?_eq_getElem hjK) (List.getElem?_eq_getElem hj)
  have hn := n2.len
  simp only [Value.slice.injEq] at e
  refine ⟨g, K[j], e.1, own_lt ho, List.getElem?_eq_getElem hjK, ?_, ?_⟩
  · rw [ho.cellAt _ (by omega), Nat.mul_comm j 2, e1, hn]
  · rw [hn]; exact n2
theorem LRow.last {w : World} {a : Option Addr} {n c : Nat} {l : List Int} (h : LRow w a (n + 1) c l) : ∃ lb x, a = some ⟨lb, 0, none⟩ ∧ lb < w.heap.size ∧ l[n]? = some x ∧ w.cell? ⟨lb, n, none⟩ = some (.int .u32 x) ∧ ∀ o, w.frozen? ⟨lb, o, none⟩ = false := by
  obtain ⟨lb, cap, e⟩ := own_form h.own (by omega)
  have ho := h.own
  rw [e] at ho
  simp only [Value.slice.injEq] at e
  have hl := h.len
  have hlt : n < l.length := by omega
  refine ⟨lb, l[n], e.1, own_lt ho, List.getElem?_eq_getElem hlt, ?_, fun o => ho.frozenAt o⟩
  rw [ho.cellAt _ (by omega)]
  simp [hlt]
theorem set_there {G : Gr} {l : List Int} {j : Nat} {x : Int} (h : ∀ y ∈ l, There G y) (hx : There G x) : ∀ y ∈ l.set j x, There G y := by
  intro y hy
  rcases List.mem_or_eq_of_mem_set hy with h1 | rfl
  · exact h y h1
  · exact hx
theorem set_ne {l : List Int} {j : Nat} {x y : Int} (h : l[j]? = some x) (hne : ¬ y = x) : ¬ l.set j y = l := by
  intro e
  have hlt := (List.getElem?_eq_some_iff.1 h).1
  have h1 : (l.set j y)[j]? = some y := List.getElem?_set_self hlt
  rw [e, h] at h1
  exact hne (Option.some.inj h1).symm
theorem AtN.copyF {w0 w : World} {B C : Nat} {q : NPl} {N : Nt} (h : AtN w0 B C w q N) {rest : List Int} (hg : Good N rest) (hS : Small N) :
    Calls Tryz.prog 23 #[.pointer (some ⟨B, 0, none⟩)] w fun e w' => ∃ q2 : NPl, ∃ KI KO : List BV, e = .returned (.pointer (some ⟨q2.b, 0, none⟩)) ∧ NetIs w' q2 N ∧ (BusF w w' q2.iv N.ins KI ∧ BusF w w' q2.ov N.outs KO ∧ ∀ k ∈ KI, ∀ k2 ∈ KO, FarA k.a k2.a) ∧ Below w.heap.size w w' ∧ ∀ k, q2.has k → w.heap.size ≤ k := by
  have := NCopyF_any h.is hg (by have := hS.g; omega) (by have := hS.ins; omega) (by have := hS.regs; omega) (by have := hS.outs; omega)
  rw [h.b] at this
  exact this
end Go.Proofs.YtafoohdndlhbnaaGreatDoor
end
