/-
  EmitTells: the walk.
  What a row's condition says of the table of powers of ten.
  EmitTells: for every input the law's Go text returns true and leaves its arguments as they were; the tables that the text of the program lays hold what it lays there.
-/
import Derived.Test.YtafoohdndlhbnaaGreatDoorFETE
import Derived.Test.YtafoohdndlhbnaaGreatDoorFEOA
import Derived.Test.YtafoohdndlhbnaaGreatDoorFEOL
import Derived.Test.YtafoohdndlhbnaaGreatDoorCards
import Derived.Test.YtafoohdndlhbnaaGreatDoorTie
import Derived.SevenTiedAt
section
namespace Go.Proofs.YtafoohdndlhbnaaGreatDoor
open Go.RowKit Go.Maps Bits Go.Shelf
attribute [local go_sem] Oper.semAt_some
set_option maxRecDepth 100000
set_option linter.unusedVariables false

theorem steps_step {w w' : World} {a : Option Addr} {n : Nat} {S : Nat → StV} (h : StRow w a n S) (hb : Below w.heap.size w w') : StRow w' a n S := by
  refine ⟨h.le, ?_, fun i hi => (h.ok i hi).step hb⟩
  rcases h.cells with h0 | ⟨b, off, e, hlt, hc⟩
  · exact .inl h0
  · refine .inr ⟨b, off, e, Nat.lt_of_lt_of_le hlt hb.size, fun i hi => ?_⟩
    obtain ⟨k0, k1, k2, k3, k4, k5, k6⟩ := hc i hi
    exact ⟨stepc hb hlt k0, stepc hb hlt k1, stepc hb hlt k2, stepc hb hlt k3, stepc hb hlt k4, stepc hb hlt k5, stepc hb hlt k6⟩
theorem boxedS {W W2 : World} {k T : Nat} {v : Value} (h : Boxed W k T v) (hb : Below W.heap.size W W2) : Boxed W2 k T v := (hb.block _ (Array.getElem?_eq_some_iff.1 (show W.heap[k]? = _ from h)).1).trans h
/-- The result's box, the bound's box. -/
structure Sd (w : World) (m : Int) (W : World) : Prop where
  r : Boxed W (w.heap.size + 2) 4 (.bool false)
  l : Boxed W (w.heap.size + 1) 5 (.int .u8 m)
  b : Below w.heap.size w W
theorem Sd.step {w : World} {m : Int} {W W2 : World} (h : Sd w m W) (hb : Below W.heap.size W W2) : Sd w m W2 := ⟨boxedS h.r hb, boxedS h.l hb, nextw h.b hb⟩
/-- .. the lines' box and row, the count's box. -/
structure Lw (w : World) (m : Int) (mk vb n : Nat) (v : Value) (xs : List ByteArray) (k : Int) (W : World) : Prop where
  s : Sd w m W
  bx : Boxed W vb 37 v
  o : W.ownsRow mk 9 1 v n (strs xs)
  c : Boxed W (vb + 1) 3 (.int .i64 k)
theorem Lw.step {w : World} {m : Int} {mk vb n : Nat} {v : Value} {xs : List ByteArray} {k : Int} {W W2 : World} (h : Lw w m mk vb n v xs k W) (hb : Below W.heap.size W W2) : Lw w m mk vb n v xs k W2 := ⟨h.s.step hb, boxedS h.bx hb, own_below h.o hb, boxedS h.c hb⟩

theorem Lw.turn {w X Y : World} {m : Int} {mk vb n : Nat} {v : Value} {xs : List ByteArray} {k : Int} {row : Option Nat} (h : Lw w m mk vb n v xs k X) (hg : X.grownBy Y row) (hr : ∀ r, row = some r → w.heap.size ≤ r ∧ ∃ o : Obj, X.heap[r]? = some o ∧ o.isCells = false) : Lw w m mk vb n v xs k Y := by
  have hr2 := fun r e => (hr r e).2
  refine ⟨⟨boxed_turn h.s.r hg hr2, boxed_turn h.s.l hg hr2, h.s.b.grown hg h.s.b.size (fun k e => (hr k e).1)⟩, boxed_turn h.bx hg hr2, h.o.kept hg ?_, boxed_turn h.c hg hr2⟩
  rcases h.o.2 with ⟨rfl, _⟩ | ⟨g, cap, cur, rfl, _, hgb, _⟩
  · exact .inl rfl
  · refine .inr fun e' => ?_
    obtain ⟨o, ho, hc⟩ := hr2 g (by simpa [Value.ownBlock] using e'.symm)
    rw [hgb] at ho; cases ho; cases hc
/-- Behind a store into the count's box. -/
theorem Lw.count {w W : World} {m : Int} {mk vb n : Nat} {v : Value} {xs : List ByteArray} {k : Int} (h : Lw w m mk vb n v xs k W) (hv : w.heap.size + 2 < vb) (k' : Int) : Lw w m mk vb n v xs k' (W.setCell ⟨vb + 1, 0, none⟩ (.int .i64 k')) := by
  refine ⟨⟨h.s.r.other (by omega) _, h.s.l.other (by omega) _, h.s.b.setCell (p := ⟨vb + 1, 0, none⟩) (by show w.heap.size ≤ vb + 1; omega) _⟩, h.bx.other (by omega) _, ?_, h.c.set _⟩
  refine h.o.kept (grownBy_setCell' W (vb + 1) _) ?_
  exact .inr (h.c.not_row (by decide) h.o).symm
theorem contains_same {s : ByteArray} (h : NoNl s) (w : World) : Calls Tryz.prog 15 #[.string s, .string ⟨#[10]⟩] w fun e w' => e = .returned (.bool false) ∧ w' = w := by
  have h1 := Any.strings_Contains_one layContains s 10 w
  rw [index_none _ _ h] at h1
  exact h1
theorem prefix_next {L pre : List Ln} {x : Ln} (h : pre <+: L) (hl : pre.length < L.length) : pre ++ [x] <+: L ↔ x.1 = (L[pre.length]).1 := by
  have e : pre = L.take pre.length := List.prefix_iff_eq_take.1 h
  constructor
  · intro h2
    obtain ⟨t, ht⟩ := h2
    have h3 : L[pre.length]? = some x := by
      rw [← ht, List.append_assoc, List.getElem?_append_right (Nat.le_refl _)]
      simp
    rw [List.getElem?_eq_getElem hl] at h3
    rw [Option.some.inj h3]
  · intro h2
    have h3 : x = L[pre.length] := Subtype.ext h2
    refine List.prefix_iff_eq_take.2 ?_
    rw [List.length_append, List.length_singleton, List.take_add_one, List.getElem?_eq_getElem hl, ← e, h3]
    rfl
theorem u8_bounds {z : Int} (h : (Lit.int .u8 z).wf = true) : 0 ≤ z ∧ z < 256 := by
  simp [Go.Lit.wf, IntKind.min, IntKind.max, IntKind.signed, IntKind.bits] at h
  omega
set_option maxHeartbeats 8000000 in
theorem tellsLaw_any {w : World} (ht : PW w) (F H : Bool) {a : Option Addr} {n c : Nat} {SS : Nat → StV} (hs : StRow w a n SS) {m : Int} (hm : 0 ≤ m ∧ m < 256) :
    Calls Tryz.prog 3 #[.agg #[.bool F, .bool H], .slice a n c, .int .u8 m] w fun e w' => e = .returned (.bool true) ∧ Below w.heap.size w w' := by
  have hPW := Lib.hid (fun W (hb : Below w.heap.size w W) => ht.step hb)
  have hglt := ht.lt
  obtain ⟨wA, hwA⟩ : ∃ wA, wA = ((w.alloc (.cells #[.bool F, .bool H] 23)).alloc (.cells #[.int .u8 m] 5)).alloc (.cells #[.bool false] 4) := ⟨_, rfl⟩
  have hbA : Below w.heap.size w wA := by rw [hwA]; exact (((Below.refl _ w).alloc (Nat.le_refl _) _).alloc (by simp) _).alloc (by simp; omega) _
  have k0 : wA.cell? ⟨w.heap.size, 0, none⟩ = some (.bool F) := by rw [hwA]; exact cell_alloc_m _ (cell_alloc_m _ (by simp [go_sem]))
  have k1 : wA.cell? ⟨w.heap.size, 1, none⟩ = some (.bool H) := by rw [hwA]; exact cell_alloc_m _ (cell_alloc_m _ (by simp [go_sem]))
  have hSd : Sd w m wA := by
    refine ⟨?_, ?_, hbA⟩
    · rw [hwA]
      have := Boxed.new ((w.alloc (.cells #[.bool F, .bool H] 23)).alloc (.cells #[.int .u8 m] 5)) 4 (.bool false)
      simpa using this
    · rw [hwA]
      have := Boxed.new (w.alloc (.cells #[.bool F, .bool H] 23)) 5 (.int .u8 m)
      rw [World.size_alloc] at this
      exact this.alloc _
  have hBu := Lib.hid (Built_any F H (c := c) (steps_step hs hbA))
  have hwAs : w.heap.size ≤ wA.heap.size := hbA.size
  rw [hwA] at k0 k1 hBu hSd
  have hSd := Lib.hid hSd
  have hwA := Lib.hid hwA
  clear ht hs hbA
  refine (callsIn_wide (n := 5)).1 ?_
  refine callsIn_of_wp_marks Tryz.func3 rfl trivial ?_ rfl
  simp only [Tryz.ntmps3, List.size_toArray, List.length_cons, List.length_nil, Nat.reduceAdd, Nat.reduceSub, Array.replicate_succ, Array.replicate_zero, List.push_toArray, List.append_toArray, List.nil_append, List.cons_append]
  gi_wp2_with (first
    | (refine ⟨trivial, ?_⟩; gi_at_call 9; refine (callsIn_wide.2 hBu.out).mono ?_; rintro e w2 ⟨B, C, Bd, Bg, q, p, N, rfl, hA, hR, ⟨rest, hG⟩, hU⟩; have hS2 := Lib.hid (hSd.out.step hA.below); obtain ⟨S, cd, L, ⟨hLn, hnl⟩, hp⟩ := tells_pack hA hR hG hU (hPW.out _ hS2.out.b); have hp := Lib.hid hp; have hnl := Lib.hid hnl; have hc1 := Lib.hid (hp.out w2 (Below.refl _ _)).f1; clear hA hR hG hU)
    | (refine ⟨trivial, ?_⟩; gi_at_call 10; refine (callsIn_wide.2 hc1.out).mono ?_; rintro e w3 ⟨a3, n3, rfl, hv3, hb3⟩; have hB3 := Lib.hid hb3; have hv3 := Lib.hid hv3; have hc2 := Lib.hid (hp.out w3 hB3.out).f2; clear hc1 hb3)
    | (refine ⟨trivial, ?_⟩; gi_at_call 11; refine (callsIn_wide.2 hc2.out).mono ?_; rintro e w4 ⟨a4, n4, rfl, hv4, hb4⟩; have hB4 := Lib.hid (nextw hB3.out hb4); have hv34 := Lib.hid (hv3.out.step hb4); have hv4 := Lib.hid hv4; have hc3 := Lib.hid (hp.out w4 hB4.out).f3; clear hc2 hb4)
    | (refine ⟨trivial, ?_⟩; gi_at_call 12; refine (callsIn_wide.2 hc3.out).mono ?_; rintro e w5 ⟨rfl, hb5⟩; have hB5 := Lib.hid (nextw hB4.out hb5); have hv35 := Lib.hid (hv34.out.step hb5); have hv45 := Lib.hid (hv4.out.step hb5); have hc4 := Lib.hid (hp.out w5 hB5.out).f4; clear hc3 hb5)
    | (refine ⟨trivial, ?_⟩; gi_at_call 13; refine (callsIn_wide.2 hc4.out).mono ?_; rintro e w6 ⟨v, rfl, ho6, hb6⟩; obtain ⟨va, vc, rfl⟩ := own_slice ho6; have hB6 := Lib.hid (nextw hB5.out hb6); have hal : Below w6.heap.size w6 (w6.alloc (.cells #[.slice va L.length vc] 37)) := (Below.refl _ _).alloc (Nat.le_refl _) _; have r3 := (hv35.out.step hb6) _ hal; have r4 := (hv45.out.step hb6) _ hal; have hal := Lib.hid hal; have hal2 : Hid (Below w6.heap.size w6 ((w6.alloc (.cells #[.slice va L.length vc] 37)).alloc (.cells #[.int .i64 0] 3))) := Lib.hid (hal.out.alloc hal.out.size _); have hc5 := Lib.hid (hp.out _ (nextw hB6.out hal2.out)).f5; have ho6 := Lib.hid ho6; clear hc4 hb6)
    | (refine ⟨trivial, ?_⟩; gi_at_call 14; refine (callsIn_wide.2 hc5.out).mono ?_; rintro e w7 ⟨g7, l7, Kp7, rfl, hT7, hb7⟩; have hn7 := hT7.nil; have hb7 := Lib.hid hb7; have hc6 := Lib.hid (hp.out _ (nextw (nextw hB6.out hal2.out) hb7.out)).f5; clear hc5 hT7)
    | (refine ⟨trivial, ?_⟩; gi_at_call 14; refine (callsIn_wide.2 hc6.out).mono ?_; rintro e w8 ⟨gf, lb, Kp, rfl, hT8, hb8⟩; have hb8 := Lib.hid hb8; have hT8 := Lib.hid hT8; clear hc6))
  have hD8 := nextw hb7.out hb8.out
  have hB28 := nextw (nextw hB6.out hal2.out) hD8
  have hLw : Lw w m w5.heap.size w6.heap.size L.length (.slice va L.length vc) (L.map (fun x : Ln => x.1)) 0 w8 := by
    refine ⟨hS2.out.step hB28, boxedS ((Boxed.new w6 _ _).alloc _) hD8, own_below (own_below ho6.out hal2.out) hD8, boxedS ?_ hD8⟩
    have := Boxed.new (w6.alloc (.cells #[.slice va L.length vc] 37)) 3 (.int .i64 0)
    rw [World.size_alloc] at this
    exact this
  have hwv : w.heap.size + 2 < w6.heap.size := by
    have h1 := hSd.out.r
    have h2 := (Array.getElem?_eq_some_iff.1 (show _ = _ from hS2.out.r)).1
    have h3 := hB6.out.size
    omega
  have hw0 : w.heap.size ≤ w8.heap.size := hLw.s.b.size
  have hc7 : w6.heap.size + 1 < w7.heap.size := by
    have := hb7.out.size
    simp at this
    omega
  have hst := Lib.hid (fun (W : World) x v hb => hT8.out.st W (w6.heap.size + 1) x v hc7 (by omega) hb)
  have hLw := Lib.hid hLw
  clear hb7 hb8 hD8 hB28 hal hal2 hB3 hB4 hB5 hB6 hv3 hv34 hv35 hv4 hv45 hp hc7 hS2 hSd hBu hwA ho6 r3 r4 hn7
  refine wpIn_rangeFunc_ownF rfl (by omega) (gf := gf) (lb := lb) rfl trivial hT8.out.ent (hT8.out.seq 4 (by omega)) (fun h k => hT8.out.tr _ _ _ h k) (fun W l o o' hl ho h1 h2 => hT8.out.bk W l o o' hl ho h1 h2) (Below.refl _ _) (fun _ => rfl)
    (fun pre W => Lw w m w5.heap.size w6.heap.size L.length (.slice va L.length vc) (L.map (fun x : Ln => x.1)) pre.length W ∧ pre <+: L)
    (fun c pre W => (c = .ret ∧ ¬ pre <+: L) ∨ (c = .exit 0 ∧ Lw w m w5.heap.size w6.heap.size L.length (.slice va L.length vc) (L.map (fun x : Ln => x.1)) pre.length W ∧ (pre.length : Int) = m))
    (fun s A B row hs hg hr => ⟨hs.1.turn hg (fun r e => ⟨Nat.le_trans hw0 (hr r e).1, (hr r e).2⟩), hs.2⟩)
    (fun c s A B row hs hg hr => by
      rcases hs with h1 | ⟨h1, h2, h3⟩
      · exact .inl h1
      · exact .inr ⟨h1, h2.turn hg (fun r e => ⟨Nat.le_trans hw0 (hr r e).1, (hr r e).2⟩), h3⟩)
    ⟨hLw.out, List.nil_prefix⟩ ?a1 ?assign ?body ?done ?stop
  case assign =>
    intro l x W K hK
    gi_wp2
    exact hK
  case body =>
    rintro l pre x W ⟨hL, hpre⟩ hlen
    obtain ⟨g, cap, eg⟩ := own_form hL.o (by omega)
    simp only [Value.slice.injEq] at eg
    obtain ⟨rfl, -, -⟩ := eg
    have hpx := prefix_next (x := x) hpre hlen
    have hrow : W.cell? ⟨g, pre.length, none⟩ = some (.string (L[pre.length]).1) := by
      rw [hL.o.cellAt (j := pre.length) (by omega)]
      simp [strs, hlen]
    have hny := hnl.out _ (List.getElem_mem hlen)
    have q0 := hL.c.cell
    have q1 := hL.c.frozen
    have q2 := hL.bx.cell
    have q3 := hL.s.l.cell
    have q4 := hL.s.r.cell
    have q5 := hL.s.r.frozen
    have hLx := Lib.hid hL
    have hlx : (x.1, x) = (x.1, x) := rfl
    obtain ⟨y, hy⟩ : ∃ y, (L[pre.length]).1 = y := ⟨_, rfl⟩
    rw [hy] at hrow hny hpx
    have hlenI : ((pre.length : Nat) : Int) < (L.length : Int) := by omega
    have hgeI : decide ((L.length : Int) ≤ (pre.length : Int)) = false := by simp; omega
    obtain ⟨pl, hpl⟩ : ∃ pl, pre.length = pl := ⟨_, rfl⟩
    have hpn : (pre ++ [x]).length = pl + 1 := by simp [hpl]
    simp only [hpl] at *
    have hcn : (((pre ++ [x]).length : Nat) : Int) = (pl : Int) + 1 := by rw [hpn]; rfl
    by_cases e : x.1 = y
    · have hxp := hpx.2 e
      have hcc := Lib.hid (contains_same hny W)
      have hcnt := Lib.hid (hLx.out.count hwv ((pl : Int) + 1))
      have hkp := Lib.hid (hst.out W _ (.int .i64 ((pl : Int) + 1)) hLx.out.c)
      have hcn := Lib.hid hcn
      rw [e]
      clear hpx hpn hlx
      by_cases hm1 : (pl : Int) + 1 = m
      · have hm2 : ((pl : Int) + 1 == m) = true := by simpa using hm1
        gi_wp2_with (refine ⟨trivial, ?_⟩; gi_at_call 15; refine (callsIn_wide.2 hcc.out).mono ?_; rintro e w9 ⟨rfl, rfl⟩)
        exact ⟨KeepsOthers.setCell _ _ _, .inr ⟨rfl, by rw [hcn.out]; have h := hcnt.out; rw [hm1] at h ⊢; exact h, by rw [hcn.out]; exact hm1⟩⟩
      · have hm2 : ((pl : Int) + 1 == m) = false := by simpa using hm1
        gi_wp2_with (refine ⟨trivial, ?_⟩; gi_at_call 15; refine (callsIn_wide.2 hcc.out).mono ?_; rintro e w9 ⟨rfl, rfl⟩)
        exact ⟨KeepsOthers.setCell _ _ _, hkp.out, by rw [hcn.out]; exact hcnt.out, hxp⟩
    · have hq := str_ne e
      have hnp : ¬ pre ++ [x] <+: L := fun h => e (hpx.1 h)
      have hnp := Lib.hid hnp
      clear hpx hpn hlx hcn e
      generalize x.1 = xs at *
      have hq2 : (xs.toList != y.toList) = true := by simp only [bne, hq]; rfl
      gi_wp2
      refine ⟨trivial, ?_⟩
      gi_wp2
      exact ⟨KeepsOthers.setCell _ _ _, .inl ⟨rfl, hnp.out⟩⟩
  case done =>
    rintro D ys W hD rfl ⟨hL, -⟩ hK
    have hte := Lib.hid (tells10_any (hPW.out W hL.s.b))
    have q0 := hL.c.cell
    have q2 := hL.bx.cell
    have q3 := hL.s.l.cell
    have hLx := Lib.hid hL
    have hD2 : w.heap.size ≤ D := Nat.le_trans hw0 hD
    have hK := Lib.hid hK
    have hee : ((ys.length : Int) == (ys.length : Int)) = true := by simp
    gi_wp2_with (refine ⟨trivial, ?_⟩; gi_at_call 16; refine (callsIn_wide.2 hte.out).mono ?_; rintro e w9 ⟨rfl, hb9⟩; have hr9 := Lib.hid (boxedS hLx.out.s.r hb9); have r0 := hr9.out.cell; have r1 := hr9.out.frozen; have hk9 := Lib.hid ((hb9.block _ (Array.getElem?_eq_some_iff.1 hK.out).1).trans hK.out); have hB9 := Lib.hid (nextw hLx.out.s.b hb9); clear hb9)
    have hk2 := (KeepsOthers.setCell w9 ⟨w.heap.size + 2, 0, none⟩ (.bool true)).same D _ hk9.out rfl
    have hR1 := hr9.out.set (.bool true)
    have hB1 := hB9.out.setCell (p := ⟨w.heap.size + 2, 0, none⟩) (by show w.heap.size ≤ w.heap.size + 2; omega) (.bool true)
    generalize w9.setCell ⟨w.heap.size + 2, 0, none⟩ (.bool true) = wz at *
    have hR2 := boxed_turn hR1 (grownBy_putObj' wz D (.deferred none)) (fun r e => by cases e; exact ⟨_, hk2, rfl⟩)
    refine ⟨by simp, .inl ⟨_, _, rfl, run_takeDeferred hk2, ?_⟩⟩
    exact ⟨.bool true, by simp [results, Tryz.f3, go_sem, hR2.cell], rfl, hB1.trans (belowK_b (w := w) (Nat.le_refl _) _ D _ _ hD2 hk2 rfl rfl)⟩
  case stop =>
    rintro D c pre W hD hpre (⟨rfl, hnp⟩ | ⟨rfl, hL, hpm⟩) hK
    · exact absurd hpre hnp
    have hee : ((pre.length : Int) == m) = true := by simpa using hpm
    obtain ⟨pl, hpl⟩ : ∃ pl, pre.length = pl := ⟨_, rfl⟩
    simp only [hpl] at hee hL hpm
    subst hpm
    by_cases hll : (pl : Int) = (L.length : Int)
    · have hl2 : ((pl : Int) == (L.length : Int)) = true := by simpa using hll
      have hte := Lib.hid (tells10_any (hPW.out W hL.s.b))
      have q0 := hL.c.cell
      have q2 := hL.bx.cell
      have q3 := hL.s.l.cell
      have hLx := Lib.hid hL
      have hD2 : w.heap.size ≤ D := Nat.le_trans hw0 hD
      have hK := Lib.hid hK
      skip
      gi_wp2_with (refine ⟨trivial, ?_⟩; gi_at_call 16; refine (callsIn_wide.2 hte.out).mono ?_; rintro e w9 ⟨rfl, hb9⟩; have hr9 := Lib.hid (boxedS hLx.out.s.r hb9); have r0 := hr9.out.cell; have r1 := hr9.out.frozen; have hk9 := Lib.hid ((hb9.block _ (Array.getElem?_eq_some_iff.1 hK.out).1).trans hK.out); have hB9 := Lib.hid (nextw hLx.out.s.b hb9); clear hb9)
      have hk2 := (KeepsOthers.setCell w9 ⟨w.heap.size + 2, 0, none⟩ (.bool true)).same D _ hk9.out rfl
      have hR1 := hr9.out.set (.bool true)
      have hB1 := hB9.out.setCell (p := ⟨w.heap.size + 2, 0, none⟩) (by show w.heap.size ≤ w.heap.size + 2; omega) (.bool true)
      generalize w9.setCell ⟨w.heap.size + 2, 0, none⟩ (.bool true) = wz at *
      have hR2 := boxed_turn hR1 (grownBy_putObj' wz D (.deferred none)) (fun r e => by cases e; exact ⟨_, hk2, rfl⟩)
      refine ⟨by simp, .inl ⟨_, _, rfl, run_takeDeferred hk2, ?_⟩⟩
      exact ⟨.bool true, by simp [results, Tryz.f3, go_sem, hR2.cell], rfl, hB1.trans (belowK_b (w := w) (Nat.le_refl _) _ D _ _ hD2 hk2 rfl rfl)⟩
    · have hl2 : ((pl : Int) == (L.length : Int)) = false := by simpa using hll
      have hte := Lib.hid (tells10_any (hPW.out W hL.s.b))
      have q0 := hL.c.cell
      have q2 := hL.bx.cell
      have q3 := hL.s.l.cell
      have hLx := Lib.hid hL
      have hD2 : w.heap.size ≤ D := Nat.le_trans hw0 hD
      have hK := Lib.hid hK
      skip
      gi_wp2_with (refine ⟨trivial, ?_⟩; gi_at_call 16; refine (callsIn_wide.2 hte.out).mono ?_; rintro e w9 ⟨rfl, hb9⟩; have hr9 := Lib.hid (boxedS hLx.out.s.r hb9); have r0 := hr9.out.cell; have r1 := hr9.out.frozen; have hk9 := Lib.hid ((hb9.block _ (Array.getElem?_eq_some_iff.1 hK.out).1).trans hK.out); have hB9 := Lib.hid (nextw hLx.out.s.b hb9); clear hb9)
      have hk2 := (KeepsOthers.setCell w9 ⟨w.heap.size + 2, 0, none⟩ (.bool true)).same D _ hk9.out rfl
      have hR1 := hr9.out.set (.bool true)
      have hB1 := hB9.out.setCell (p := ⟨w.heap.size + 2, 0, none⟩) (by show w.heap.size ≤ w.heap.size + 2; omega) (.bool true)
      generalize w9.setCell ⟨w.heap.size + 2, 0, none⟩ (.bool true) = wz at *
      have hR2 := boxed_turn hR1 (grownBy_putObj' wz D (.deferred none)) (fun r e => by cases e; exact ⟨_, hk2, rfl⟩)
      refine ⟨by simp, .inl ⟨_, _, rfl, run_takeDeferred hk2, ?_⟩⟩
      exact ⟨.bool true, by simp [results, Tryz.f3, go_sem, hR2.cell], rfl, hB1.trans (belowK_b (w := w) (Nat.le_refl _) _ D _ _ hD2 hk2 rfl rfl)⟩
end Go.Proofs.YtafoohdndlhbnaaGreatDoor
end

section
namespace Go.Proofs.YtafoohdndlhbnaaGreatDoor
open Go.ChangeShapes Go.WideShapes Go.ChangeAt Go.RowKit
set_option maxRecDepth 100000

theorem tPow : (Tryz.prog.globals[5]?).map (·.type) = some 353 := by kernel_rfl
theorem pw_of_laid {W : World} (h : laidMetH Tryz.prog laid3 W) : PW W := by
  have h2 : laidMet Tryz.prog laid3 W := by
    have e := MakeChecks.laidMetH_plain Tryz.prog laid3 W (by kernel_rfl)
    rw [e] at h; exact h
  have h3 := h2.filter (fun x => x.1 == "internal/strconv.uint64pow10")
  have e : (laid3.filter fun x => x.1 == "internal/strconv.uint64pow10") = [("internal/strconv.uint64pow10", Lib.tabData .u64 Lib.pow10Tab)] := by kernel_rfl
  rw [e] at h3
  exact Lib.tabIs_of_head gPow tPow Tryz.underlying353 Tryz.underlying49 (by kernel_rfl) (by kernel_rfl) h3
end Go.Proofs.YtafoohdndlhbnaaGreatDoor
end

section
namespace Go.Proofs.YtafoohdndlhbnaaGreatDoor.emitTells
open Go.ChangeShapes Go.WideShapes Go.ChangeAt Go.RowKit Go.Joins
open Go.ChangeMaps (open_string shut_string)
set_option linter.unusedVariables false

set_option maxRecDepth 100000 in
theorem lifted (os : Os) (started : os.Started) (H : Type) (enc : TypeId × Value → H) :
    ReturnsInHanded {} Tryz.checked os 3 .any (fun w args => (Rows.emitTellsSpec.pre enc Tryz.prog Tryz.f3 [] false w args ∧ laidMetH Tryz.prog laid3 w) ∧ sizedMet enc Tryz.prog Tryz.f3 (OpenSpec.ofChange Rows.emitTellsSpec) false w args) (Rows.emitTellsSpec.post enc Tryz.prog Tryz.f3 false true false false) := by
  refine returnsInHanded_of_change_and (C := Tryz.checked) (X := fun w _ => laidMetH Tryz.prog laid3 w) (fun _ _ _ hh h => h.of_heap hh) own started (by kernel_rfl) Tryz.func3
    (ChangeSpec.witness_shaped (enc := enc) (C := Tryz.checked) (os := os) (X := fun w _ => laidMetH Tryz.prog laid3 w) false (World.doorLaid Tryz.prog 4000 os) #[.agg #[.bool false, .bool false], .slice none 0 0, .int .u8 0] 8 rfl (World.shaped_of_RefB (by kernel_rfl) (by kernel_rfl)) (by kernel_rfl) (by kernel_rfl) (by kernel_rfl) (door_met os _)) ?_
  intro W base args ds gs before hval0 hW _ hwt hL _
  have hval : ∀ (j : Nat) t v, Tryz.f3.params[j]? = some t → args[j]? = some v → Value.okWide Tryz.prog W .any base t v := hval0
  have hW' := hW
  obtain ⟨p, q, hA0, hV, rfl, hfz, hnd⟩ := hW
  have hA : DataW.TrodAll enc Tryz.prog W 0 (fun _ => true) true Tryz.f3.params.toList args.toList ds p := hA0
  rw [Tryz.params3] at hA hval
  obtain ⟨v0, vs0, d0, ds0, p0, q0, hargs, rfl, rfl, h0, r0⟩ := trodAll_cons hA
  obtain ⟨v1, vs1, d1, ds1, p1, q1, rfl, rfl, rfl, h1, r1⟩ := trodAll_cons r0
  obtain ⟨v2, vs2, d2, ds2, p2, q2, rfl, rfl, rfl, h2, r2⟩ := trodAll_cons r1
  obtain ⟨rfl, rfl, rfl⟩ := trodAll_nil r2
  obtain rfl : args = #[v0, v1, v2] := by cases args; simp_all
  obtain ⟨rfl, rfl⟩ := trodVars_none hV
  have k0 := h0
  have lt0 : ∀ x ∈ p0, x.block < W.heap.size := by obtain ⟨m, hm⟩ := k0; exact DataW.trod_lt m _ _ _ hm
  obtain ⟨F0, H0, rfl⟩ := options_in (hval 0 23 v0 rfl rfl) h0
  have k1 := h1
  have lt1 : ∀ x ∈ p1, x.block < W.heap.size := by obtain ⟨m, hm⟩ := k1; exact DataW.trod_lt m _ _ _ hm
  obtain ⟨a1, len1, cap1, rfl⟩ := okWide_slice Tryz.underlying24 (hval 1 24 v1 rfl rfl)
  obtain ⟨S1, w1⟩ := steps_in h1
  have k2 := h2
  have lt2 : ∀ x ∈ p2, x.block < W.heap.size := by obtain ⟨m, hm⟩ := k2; exact DataW.trod_lt m _ _ _ hm
  obtain ⟨z2, rfl, -, -, w2⟩ := open_int Tryz.underlying5 (hval 2 5 v2 rfl rfl) h2
  clear hA0 hval0
  refine (tellsLaw_any (pw_of_laid hL) F0 H0 w1 (u8_bounds w2)).mono fun e W' ⟨he, bel⟩ => ?_
  subst he
  exact ⟨_, rfl, _, _, _, [], _, [], hW', trodAll_mk1 (shut_bool Tryz.underlying4 _), (trodAll_cons_mk (Below.trod laidOut (by kernel_rfl) (of_decide_eq_true (by kernel_rfl)) k0 bel lt0) (trodAll_cons_mk (Below.trod laidOut (by kernel_rfl) (of_decide_eq_true (by kernel_rfl)) k1 bel lt1) (trodAll_cons_mk (Below.trod laidOut (by kernel_rfl) (of_decide_eq_true (by kernel_rfl)) k2 bel lt2) trodAll_mk0))), rfl, bel.frame _, fun h => by cases h⟩

theorem row_holds : Rows.EmitTellsSaid :=
  OpenClaim.holds_of_wide 3 Tryz.f3 rfl rfl rfl rfl rfl rfl rfl ⟨rfl, rfl, rfl, rfl, rfl⟩ rfl rfl rfl rfl rfl (by kernel_rfl) Tryz.func3 (by kernel_rfl)
    (of_decide_eq_true (by kernel_rfl)) (by unfold Func.isWrapper; first | (rw [if_pos (by decide +kernel)]; kernel_rfl) | (rw [if_neg (by decide +kernel)]; exact ⟨rfl, rfl⟩))
    (fun os started H enc _ => lifted os started H enc)

set_option maxRecDepth 100000 in
theorem holds : Rows.EmitTellsCardSaid :=
  Claim7.holds_tied_plain_at .later [] [.data, .data, .data] true Rows.emitTellsCard.stood.harness true
    row_holds (fun _ h => by cases h) (by kernel_rfl) (fun _ h => by cases h) emitTells_row_tie rfl ⟨rfl, rfl⟩ (by kernel_rfl) rfl
    (fun f fn hf hfn => by
      obtain rfl : f = 3 := Option.some.inj ((show Tryz.prog.funcNamed "orrery/orrerylaw10.EmitTells" = some 3 by kernel_rfl).symm.trans hf) |>.symm
      obtain rfl : fn = Tryz.f3 := (Option.some.inj (Tryz.func3.symm.trans hfn)).symm
      exact ⟨by kernel_rfl, fun j t ht => by
        rw [Tryz.params3] at ht
        have hm : t ∈ [23, 24, 5] := by simpa using Array.mem_of_getElem? ht
        have hall : ([23, 24, 5].all fun u => !Tryz.prog.wantsStandIn u) = true := by kernel_rfl
        exact (show Tryz.prog.wantsStandIn t = false by simpa using List.all_eq_true.1 hall t hm)⟩)
    (by kernel_rfl)
#print axioms holds
end Go.Proofs.YtafoohdndlhbnaaGreatDoor.emitTells
end
