/-
  Simulations: a cycle.
  The document's own netlist: Find; are all there; an input with its literal; a gate of two.
-/
import Derived.Test.YtafoohdndlhbnaaGreatFSSO
import Derived.Test.YtafoohdndlhbnaaGreatFSSN
import Derived.Test.YtafoohdndlhbnaaGreatFSSG
import Derived.Laws.IdiomStrings
section
namespace Go.Proofs.YtafoohdndlhbnaaGreat
open Go.RowKit Go.Maps Bits Num
set_option maxRecDepth 100000

/-- Rows of words that a call has made, the first j of them. -/
def ORow (w : World) (base g no : Nat) (L : List (List Int)) (j : Nat) : Prop :=
  ∃ kv : List Value, w.ownsRow base 44 1 (.slice (some ⟨g, 0, none⟩) no no) no kv ∧ ∀ i, i < j → ∃ (ra : Option Addr) (rc : Nat), kv[i]? = some (.slice ra (L.getD i []).length rc) ∧ WR w ra (L.getD i []).length rc (L.getD i [])
theorem ORow.step {w w' : World} {base g no j : Nat} {L : List (List Int)} (h : ORow w base g no L j) (hb : Below w.heap.size w w') : ORow w' base g no L j := by
  obtain ⟨kv, h1, h2⟩ := h
  exact ⟨kv, own_below h1 hb, fun i hi => by obtain ⟨ra, rc, e1, e2⟩ := h2 i hi; exact ⟨ra, rc, e1, e2.below hb⟩⟩
theorem ORow.base {w : World} {base b2 g no j : Nat} {L : List (List Int)} (h : ORow w base g no L j) (hb : b2 ≤ base) : ORow w b2 g no L j := let ⟨kv, h1, h2⟩ := h; ⟨kv, own_base h1 hb, h2⟩
theorem ORow.sim {w w' : World} {base g no j : Nat} {L : List (List Int)} (h : ORow w base g no L j) {S2 : Nat} {q2 : NPl} {p2 : SPl} {N2 : Nt} {s2 : St} (h2 : SimIs w S2 q2 p2 N2 s2) (hk : Kept (fun k => k = S2) w w') : ORow w' base g no L j := by
  obtain ⟨kv, e1, e2⟩ := h
  refine ⟨kv, own_keptF e1 hk (fun k e hf => ?_), fun i hi => ?_⟩
  · subst hf
    obtain ⟨c, hc⟩ := own_type e1 e
    rw [h2.box] at hc; simp [simBox] at hc
  · obtain ⟨ra, rc, e3, e4⟩ := e2 i hi
    exact ⟨ra, rc, e3, e4.keptF hk h2.self.2.1⟩
theorem ORow.next {w w5 : World} {base g no j : Nat} {L : List (List Int)} (h : ORow w base g no L j) (hj : j < no) (hb : Below w.heap.size w w5) {ra : Option Addr} {rc : Nat} {l : List Int} (hW : WR w5 ra l.length rc l) (hl : L.getD j [] = l) :
    ORow (w5.setCell ⟨g, j, none⟩ (.slice ra l.length rc)) base g no L (j + 1) := by
  obtain ⟨kv, e1, e2⟩ := h
  have e1 := own_below e1 hb
  have hst := (e1.stored j (.slice ra l.length rc)).1
  have hk := kept_set' w5 g j (.slice ra l.length rc)
  obtain ⟨cg, hcg⟩ := own_type e1 (k := g) rfl
  have hN : NoWd w5 (fun k => k = g) := by
    rintro k cur fz rfl hh
    rw [hcg] at hh; simp at hh
  have hkl : kv.length = no := by have := e1.1; omega
  refine ⟨kv.set j (.slice ra l.length rc), hst, fun i hi => ?_⟩
  by_cases e : i = j
  · subst e
    rw [hl]
    exact ⟨ra, rc, by rw [List.getElem?_set, if_pos rfl, if_pos (by omega)], hW.keptF hk hN⟩
  · obtain ⟨ra', rc', e3, e4⟩ := e2 i (by omega)
    exact ⟨ra', rc', by rw [List.getElem?_set, if_neg (fun h => e h.symm)]; exact e3, (e4.below hb).keptF hk hN⟩
theorem ORow.at {w : World} {base g no : Nat} {L : List (List Int)} (h : ORow w base g no L no) {i : Nat} (hi : i < no) : ∃ (ra : Option Addr) (rc : Nat), w.cell? ⟨g, i, none⟩ = some (.slice ra (L.getD i []).length rc) ∧ WR w ra (L.getD i []).length rc (L.getD i []) ∧ g < w.heap.size := by
  obtain ⟨kv, e1, e2⟩ := h
  obtain ⟨ra, rc, e3, e4⟩ := e2 i hi
  exact ⟨ra, rc, by rw [e1.cellAt i (by omega)]; exact e3, e4, own_lt e1⟩
theorem info_row64 : (Tryz.prog.info? 44).map (fun i => (i.zero, i.size, i.bytes)) = some (some (.slice none 0 0), 1, 24) := by kernel_rfl
/-- What goes out. -/
def outR (N : Nt) (ws : List Int) : List (List Int) := N.outs.map (fun b => outW b ws)
theorem outR_at (N : Nt) (ws : List Int) {i : Nat} (h : i < N.outs.length) : (outR N ws).getD i [] = outW N.outs[i] ws := by simp [outR, List.getD, h]

set_option maxHeartbeats 2000000 in
theorem SStep_no {w : World} {S : Nat} {q : NPl} {p : SPl} {N : Nt} {s : St} (h : SimIs w S q p N s) {a : Option Addr} {n c : Nat} (hn : n ≠ N.ins.length) :
    Calls Tryz.prog 14 #[.pointer (some ⟨S, 0, none⟩), .slice a n c] w fun e w' => e = .returned (.tuple #[.slice none 0 0, .int .i64 1]) ∧ Below w.heap.size w w' := by
  have hst := Lib.hid (sstands_any h)
  obtain ⟨c0, c1, c2, c3, -⟩ := h.cells
  have hfi := Lib.hid (fits_no h.net (ha := p.ha) (hn := N.regs.length) (hc := p.hc) (la := p.la) (ln := p.ln) (lc := p.lc) (cy := s.cy) (a := a) (c := c) hn)
  clear h hn
  go_enter Tryz.func14, Tryz.ntmps14
  go_wp2_with (first
    | (go_at_call 45; (with_reducible refine hst.out.mono ?_); rintro e w2 ⟨rfl, rfl⟩)
    | (go_at_call 46; (with_reducible refine hfi.out.mono ?_); rintro e w2 ⟨rfl, hb2⟩))
  go_ret2
  exact ⟨rfl, hb2⟩

set_option maxHeartbeats 8000000 in
theorem SStep_ok {w : World} {S : Nat} {q : NPl} {p : SPl} {N : Nt} {s : St} (h : SimIs w S q p N s) (hcy : s.cy < 1000000) {a : Option Addr} {n c : Nat} {X : List Int} (hI : InRows w a n N.ins X) :
    Calls Tryz.prog 14 #[.pointer (some ⟨S, 0, none⟩), .slice a n c] w fun e w' => ∃ (ws : List Int) (p' : SPl) (g : Nat), Cyc N (X ++ s.has) ws ∧ e = .returned (.tuple #[.slice (some ⟨g, 0, none⟩) N.outs.length N.outs.length, .int .i64 0]) ∧ ORow w' w.heap.size g N.outs.length (outR N ws) N.outs.length ∧ SimIs w' S q p' N ⟨nxR N ws, ws, s.cy + 1⟩ ∧ Kept (fun k => k = S) w w' := by
  have hst := Lib.hid (sstands_any h)
  obtain ⟨c0, c1, c2, c3, fz⟩ := h.cells
  have hlt := h.lt
  have hql := h.net.lt
  have hfi := Lib.hid (fits_yes h.net (ha := p.ha) (hn := N.regs.length) (hc := p.hc) (la := p.la) (ln := p.ln) (lc := p.lc) (cy := s.cy) (c := c) hI)
  have hin := Lib.hid (fun w2 (hb : Below w.heap.size w w2) => inputs_any (h.net.below hb) h.good h.small (la := p.la) (ln := p.ln) (lc := p.lc) (cy := s.cy) (h.has.below hb) (c := c) (hI.step hb))
  have hsg := h.small.g
  have hev := Lib.hid (fun w2 (hb : Below w.heap.size w w2) (g : Nat) (hW : WR w2 (some ⟨g, 0, none⟩) N.g.inputs.length N.g.inputs.length (insW N (X ++ s.has))) => Eval_any (h.net.below hb).g h.good.wf (by omega) (cap := N.g.inputs.length) hW.row hW.words)
  have hnx := Lib.hid (fun w2 (hb : Below w.heap.size w w2) (wa : Option Addr) (wn wc : Nat) (ws : List Int) (hW : WR w2 wa wn wc ws) => next_any (h.net.below hb) h.good h.small (ha := p.ha) (hn := N.regs.length) (hc := p.hc) (la := p.la) (ln := p.ln) (lc := p.lc) (cy := s.cy) (by omega) hW)
  obtain ⟨-, -, -, -, -, -, -, -, -, n0, -⟩ := h.net.cells
  have H := Lib.hid h
  have hcyc := Lib.hid (fun (ws : List Int) (hl : ws.length = N.g.nodes.length) (v : Val N.g (insW N (X ++ s.has)) ws) => cyc_of h.good (V := X ++ s.has) hl v)
  clear h hI
  go_enter Tryz.func14, Tryz.ntmps14
  go_upto_region 5 with (first
    | (go_at_call 45; (with_reducible refine hst.out.mono ?_); rintro e w2 ⟨rfl, rfl⟩)
    | (go_at_call 46; (with_reducible refine hfi.out.mono ?_); rintro e w2 ⟨rfl, hb2⟩; have d0 := stepc hb2 hlt c0; have d1 := stepc hb2 hlt c1; have d2 := stepc hb2 hlt c2; have d3 := stepc hb2 hlt c3; have dn := stepc hb2 hql n0; have hb2 := Lib.hid hb2.drew))
  clear hst hfi
  go_region_held3 (fun w' => w'.cell? ⟨S, 0, none⟩ = some (.pointer (some ⟨q.b, 0, none⟩)) ∧ w'.cell? ⟨S, 1, none⟩ = some (.slice p.ha N.regs.length p.hc) ∧ w'.cell? ⟨S, 2, none⟩ = some (.slice p.la p.ln p.lc) ∧ w'.cell? ⟨S, 3, none⟩ = some (.int .i64 s.cy) ∧ w'.cell? ⟨q.b, 0, none⟩ = some (.pointer (some ⟨q.g.b, 0, none⟩))) (go_keep) (first
    | (go_at_call 48; (with_reducible refine (hin.out _ hb2.out).mono ?_); rintro e w3 ⟨g3, rfl, hW3, hb3⟩; have hb4 := nextw hb2.out hb3; have e0 := stepc hb4 hlt c0; have e1 := stepc hb4 hlt c1; have e2 := stepc hb4 hlt c2; have e3 := stepc hb4 hlt c3; have en := stepc hb4 hql n0; have hev2 := Lib.hid (hev.out _ hb4 _ hW3); have hb4 := Lib.hid hb4; clear hb3 hW3)
    | (go_at_call 47; (with_reducible refine hev2.out.mono ?_); rintro e w5 ⟨ws, rfl, ho5, hl5, hV5, hb5⟩; have hc5 := hcyc.out _ hl5 hV5; have hW5 : WR w5 (some ⟨w3.heap.size, 0, none⟩) N.g.nodes.length N.g.nodes.length ws := ⟨hl5, own_base ho5 (Nat.zero_le _), hV5.words⟩; have hb6 := nextw hb4.out hb5; have f0 := stepc hb6 hlt c0; have f1 := stepc hb6 hlt c1; have f2 := stepc hb6 hlt c2; have f3 := stepc hb6 hlt c3; have fn := stepc hb6 hql n0; have hnx2 := Lib.hid (hnx.out _ hb6 _ _ _ _ hW5); have hW5 := Lib.hid hW5; have hc5 := Lib.hid hc5; have hb6 := Lib.hid hb6; clear ho5 hV5 hl5 hb5 hev2))
  clear hin hev hcyc e0 e1 e2 e3 en d0 d1 d2 d3 dn
  go_upto_region 9 with (go_at_call 49; (with_reducible refine hnx2.out.mono ?_); rintro e w7 ⟨g7, rfl, hW7, hg7, hb7⟩; have hb8 := nextw hb6.out hb7; have m0 := stepc hb8 hlt c0; have m1 := stepc hb8 hlt c1; have m2 := stepc hb8 hlt c2; have m3 := stepc hb8 hlt c3; have x0 := stepf hb8 hlt (fz 0); have x1 := stepf hb8 hlt (fz 1); have x2 := stepf hb8 hlt (fz 2); have x3 := stepf hb8 hlt (fz 3); have hW5' := Lib.hid (hW5.out.below hb7); have hW7 := Lib.hid hW7; have hb8 := Lib.hid hb8; clear hb7)
  have h8 := H.out.below hb8.out
  obtain ⟨e1, e2⟩ := set4_box h8.box rfl (.pointer (some ⟨q.b, 0, none⟩)) (.slice (some ⟨g7, 0, none⟩) N.regs.length N.regs.length) (.slice (some ⟨w3.heap.size, 0, none⟩) N.g.nodes.length N.g.nodes.length) (.int .i64 ((s.cy : Int) + 1))
  have hS9 := Lib.hid (sim_next (s' := ⟨nxR N ws, ws, s.cy + 1⟩) (p' := ⟨some ⟨g7, 0, none⟩, N.regs.length, some ⟨w3.heap.size, 0, none⟩, N.g.nodes.length, N.g.nodes.length⟩) h8 e2 e1 (hW7.out.keptF e2 h8.self.2.1) (hW5'.out.keptF e2 h8.self.2.1) (by show s.cy + 1 ≤ _; omega))
  have hK9 := Lib.hid ((Kept.of_below hb8.out).trans e2 (fun _ h => .inl h))
  generalize hp9 : (⟨some ⟨g7, 0, none⟩, N.regs.length, some ⟨w3.heap.size, 0, none⟩, N.g.nodes.length, N.g.nodes.length⟩ : SPl) = p9 at hS9
  have hw9 : w.heap.size ≤ _ := hK9.out.size
  generalize hww : (((World.setCell w7 ⟨S, 0, none⟩ (.pointer (some ⟨q.b, 0, none⟩))).setCell ⟨S, 1, none⟩ (.slice (some ⟨g7, 0, none⟩) N.regs.length N.regs.length)).setCell ⟨S, 2, none⟩ (.slice (some ⟨w3.heap.size, 0, none⟩) N.g.nodes.length N.g.nodes.length)).setCell ⟨S, 3, none⟩ (.int .i64 ((s.cy : Int) + 1)) = w9 at *
  clear hww e1 e2 h8 hW7 hW5' hW5 hb8 hb6 hnx2 hnx m0 m1 m2 m3 x0 x1 x2 x3 c0 c1 c2 c3 fz f0 f1 f2 f3 fn hb2 hb4 n0 H
  obtain ⟨c0, c1, c2, c3, -⟩ := hS9.out.cells
  obtain ⟨-, -, -, -, oa, oc, -, -, ev, -, -, -, -, n4, -⟩ := hS9.out.net.cells
  have hz9 := hS9.out.lt
  have hq9 := hS9.out.net.lt
  have hso := hS9.out.small.outs
  have HO := Lib.hid (show BusRow w9 (.slice oa N.outs.length oc) N.outs by have := hS9.out.net.outs; rw [ev] at this; exact this)
  have HT := Lib.hid (fun i (hi : i < N.outs.length) => (show (∀ x ∈ N.outs[i].lits, IsLit x) ∧ N.outs[i].lits.length ≤ 64 from ⟨fun x hx => (hS9.out.good.outT _ (List.getElem_mem hi) x hx).1, (hS9.out.good.outs.wide _ (List.getElem_mem hi)).2⟩))
  have HL := Lib.hid (And.intro hS9.out.last.row hS9.out.last.words)
  have HR := Lib.hid (fun i (hi : i < N.outs.length) => outR_at N ws hi)
  obtain ⟨i0, hi0, hz0, hz1, hz2⟩ := info_parts info_row64
  simp only [] at c0 c1 c2 c3 HL
  obtain ⟨cz, hcz⟩ : ∃ cz : Int, ((s.cy + 1 : Nat) : Int) = cz := ⟨_, rfl⟩
  rw [hcz] at c3
  clear hcz
  obtain ⟨no, hno⟩ : ∃ m, N.outs.length = m := ⟨_, rfl⟩
  rw [hno] at n4 HO hso
  have hNO := Lib.hid hno
  clear hno ev
  go_wp2_with (at_make; refine wpList_make_full _ rfl _ _ 50 rfl w9.heap.size 44 i0 (.slice none 0 0) 1 Tryz.underlying50 hi0 hz0 hz1 .i64 .i64 no no no rfl rfl rfl rfl (by rw [hz2]; omega) (by unfold maxLen; omega) (Nat.le_refl _) ?_; intro w10 hown hgw; have hb10 := (Below.refl w9.heap.size w9).grown hgw (Nat.le_refl _) (fun _ h => by cases h); have b0 := stepc hb10 hz9 c0; have b4 := stepc hb10 hq9 n4)
  have hO0 : Hid (ORow w10 w9.heap.size w9.heap.size no (outR N ws) 0) := Lib.hid ⟨_, hown, fun i hi => by omega⟩
  have hb10' := Lib.hid hb10
  clear hown hgw b0 b4 hb10
  go_loopw [70] (fun s wr => ∃ i : Nat, i ≤ no ∧ s = .int .i64 i ∧ Hid (ORow wr w9.heap.size w9.heap.size no (outR N ws) i) ∧ Hid (Below w9.heap.size w9 wr)) (fun s _ => no - (intOf s).toNat)
  case atStart => exact ⟨0, Nat.zero_le _, rfl, hO0, hb10'⟩
  case round =>
    clear hO0 hb10'
    obtain ⟨i, hi, rfl, hO, hB⟩ := hrel
    by_cases hlt2 : i < no
    · have hiL : i < N.outs.length := by rw [hNO.out]; exact hlt2
      obtain ⟨g2, la2, lc2, rfl, hg2, b0, b1, hl2⟩ := HO.out.at hiL
      obtain ⟨ht1, ht2⟩ := HT.out i hiL
      have b0 := stepc hB.out hg2 b0
      have b1 := stepc hB.out hg2 b1
      have hba : Below wr.heap.size wr (wr.alloc (.cells #[.string N.outs[i].name, .slice la2 N.outs[i].lits.length lc2] 81)) := (Below.refl _ _).alloc (Nat.le_refl _) _
      have hBa := nextw hB.out hba
      have hwo := Lib.hid (fun w2 (hb : Below w9.heap.size w9 w2) => rwords_any (pv := .pointer (some ⟨q.b, 0, none⟩)) (ha := p9.ha) (hn := N.regs.length) (hc := p9.hc) (la := p9.la) (ln := p9.ln) (lc := p9.lc) (cy := cz) (HL.out.1.step hb) HL.out.2 (c := lc2) (hl2.row.step hb) ht1 (by omega) rfl)
      have hoi : Hid ((outR N ws).getD i [] = N.outs[i].lits.map (fun x => wordV x ws)) := Lib.hid (outR_at N ws hiL)
      have hlm : Hid ((N.outs[i].lits.map (fun x => wordV x ws)).length = N.outs[i].lits.length) := Lib.hid (by simp)
      have y1 : (wr.alloc (.cells #[.string N.outs[i].name, .slice la2 N.outs[i].lits.length lc2] 81)).cell? ⟨wr.heap.size, 1, none⟩ = some (.slice la2 N.outs[i].lits.length lc2) := by simp [go_sem]
      have d0 := stepc hBa hz9 c0
      have d1 := stepc hBa hz9 c1
      have d2 := stepc hBa hz9 c2
      have d3 := stepc hBa hz9 c3
      have hOa := Lib.hid (hO.out.step hba)
      have hgw9 : w9.heap.size < wr.heap.size := (by obtain ⟨kv, e1, -⟩ := hO.out; exact own_lt e1)
      clear hl2 ht1 ht2
      generalize N.outs[i].lits.map (fun x => wordV x ws) = V at *
      generalize N.outs[i].lits.length = m at *
      generalize N.outs[i].name = nm at *
      go_upto_region 13 with fail
      generalize hwa : wr.alloc (.cells #[.string nm, .slice la2 m lc2] 81) = wa at *
      have zb : wr.heap.size < wa.heap.size := World.block_lt_of_cell? wa _ y1
      generalize hBx : wr.heap.size = Bx at *
      have u1 : ¬ (Bx = w9.heap.size) := by omega
      have u2 : ¬ (w9.heap.size = Bx) := by omega
      have u3 : ¬ (S = w9.heap.size) := by omega
      have u4 : ¬ (w9.heap.size = S) := by omega
      have zs : S < wa.heap.size := by omega
      have hdr := Lib.hid (nextw hBa ((Below.refl wa.heap.size wa).drew))
      have hdr2 := Lib.hid ((Below.refl wa.heap.size wa).drew)
      clear hba hBa hwa b0 b1
      go_region_held3 (fun w' => w'.cell? ⟨S, 0, none⟩ = some (.pointer (some ⟨q.b, 0, none⟩)) ∧ w'.cell? ⟨S, 1, none⟩ = some (.slice p9.ha N.regs.length p9.hc) ∧ w'.cell? ⟨S, 2, none⟩ = some (.slice p9.la p9.ln p9.lc) ∧ w'.cell? ⟨S, 3, none⟩ = some (.int .i64 cz) ∧ w'.cell? ⟨Bx, 1, none⟩ = some (.slice la2 m lc2)) (go_keep) (first
        | (go_at_call 50; (with_reducible refine (hwo.out _ hdr.out).mono ?_); rintro e w5 ⟨g5, rfl, hW5, hg5, hb5⟩; have hb6 := nextw hdr2.out hb5; have e0 := stepc hb6 zs d0; have e1 := stepc hb6 zs d1; have e2 := stepc hb6 zs d2; have e3 := stepc hb6 zs d3; have e4 := stepc hb6 zb y1; have hO6 := hOa.out.step hb6; obtain ⟨kv, hkv, -⟩ := hO6; have hfr := hkv.frozenAt i; obtain ⟨u, hu⟩ := own_some hkv hlt2; have hW5 := Lib.hid hW5; have hb5' := Lib.hid hb5; have hb6 := Lib.hid hb6; clear hkv))
      all_goals go_wp2_with fail
      all_goals go_roundw
      all_goals try (case measure => simp [intOf]; omega)
      all_goals
        have hW6 := hW5.out
        have hlm := hlm.out
        subst hlm
        exact ⟨i + 1, by omega, by go_num, Lib.hid (hOa.out.next hlt2 hb6.out hW6 hoi.out), Lib.hid ((nextw hdr.out hb5'.out).setCell (Nat.le_refl _) _)⟩
    · obtain rfl : i = no := by omega
      go_wp2_with fail
      go_ret2
      have hno := hNO.out
      rw [hno]
      exact ⟨ws, p9, w9.heap.size, hc5.out, rfl, ORow.base hO.out hw9, hS9.out.below hB.out, hK9.out.trans (Kept.of_below hB.out) (fun _ h => .inl h)⟩
end Go.Proofs.YtafoohdndlhbnaaGreat
end

section
namespace Go.Proofs.YtafoohdndlhbnaaGreat
open Go.RowKit Go.Maps Num
set_option maxRecDepth 100000

theorem rFind_any {w0 w : World} {a : Option Addr} {n c : Nat} {L : List Bus} (h : RBusRow w0 w (.slice a n c) L) (hn : n = L.length) (s : ByteArray) :
    Calls Tryz.prog 106 #[.slice a n c, .string s] w fun e w' => (∃ (a2 : Option Addr) (n2 c2 : Nat), e = .returned (.tuple #[.slice a2 n2 c2, .bool (atB L s).isSome])) ∧ w = w' := by
  have hle : n ≤ 9223372036854775807 := by obtain ⟨K, hK⟩ := h; rw [hn]; exact own_maxLen hK.own
  have H := Lib.hid h
  have HN := Lib.hid hn
  clear h hn
  go_enter Tryz.func106, Tryz.ntmps106
  go_wp2
  go_loopw [6] (fun i wr => wr = w ∧ ∃ j : Nat, j ≤ n ∧ i = .int .i64 j ∧ Hid (NotYet L s j)) (fun i _ => n - (intOf i).toNat)
  case atStart => exact ⟨rfl, 0, Nat.zero_le _, rfl, Lib.hid (fun i _ hi => by omega)⟩
  case round =>
    obtain ⟨rfl, j, hj, rfl, hy⟩ := hrel
    by_cases hlt : j < n
    · have hjL : j < L.length := by rw [← HN.out]; exact hlt
      obtain ⟨g, la, lc, rfl, hg, b0, b1, -⟩ := H.out.at hjL
      by_cases hs : sameN L[j].name s = true
      · have hf := Lib.hid (atB_hit hjL hs (fun i hi => hy.out i (by omega) hi))
        unfold sameN at hs
        generalize L[j].name = nm at *
        generalize L[j].lits.length = ll at *
        go_wp2
        go_ret2
        rw [hf.out]
        exact ⟨⟨_, _, _, rfl⟩, rfl⟩
      · have hs' : sameN L[j].name s = false := by simpa using hs
        have hf := Lib.hid (hy.out.next hjL hs')
        unfold sameN at hs'
        clear hs
        generalize L[j].name = nm at *
        generalize L[j].lits.length = ll at *
        go_wp2
        exact ⟨⟨trivial, j + 1, by omega, by go_num, hf⟩, by simp [intOf]; omega⟩
    · obtain rfl : j = n := by omega
      go_wp2
      go_ret2
      rw [atB_miss (fun i hi => hy.out i hi (by rw [HN.out]; exact hi))]
      exact ⟨⟨none, 0, 0, rfl⟩, rfl⟩

theorem rhas_any {w0 w : World} {B g c : Nat} {G : Gr} (h : Rf w0 w B g c G.fold G.hash G.nodes) (hm : G.nodes.length ≤ 200000) {a : Option Addr} {n cap : Nat} {l : List Int} (hs : Row .u32 w a n l) (hl : ∀ x ∈ l, IsLit x) :
    Calls Tryz.prog 55 #[.pointer (some ⟨B, 0, none⟩), .slice a n cap] w fun e w' => e = .returned (.bool (allHas G l)) ∧ Below w.heap.size w w' := by
  obtain ⟨-, -, c2, -⟩ := h.cells
  have hblt := h.blt
  have HT := Lib.hid (fun j (hj : j < n) => allHas_take G l j (by rw [hs.len]; exact hj))
  have HNN := Lib.hid (fun j (hj : j < n) => allHas_not G l j (by rw [hs.len]; exact hj))
  have HL := Lib.hid (fun j (hj : j < n) => hl (l.getD j 0) (by simp [List.getD, hs.len, hj]))
  have HA : Hid (allHas G (l.take n) = allHas G l) := Lib.hid (by rw [← hs.len, List.take_length])
  have HZ : Hid (allHas G (l.take 0) = true) := Lib.hid rfl
  have HS := Lib.hid hs
  have hle := hs.le
  have HB : Hid (∀ x, hasB G x = decide (x / 2 < (G.nodes.length : Int))) := Lib.hid (fun x => rfl)
  generalize hk : G.nodes.length = k at *
  generalize allHas G = P at *
  generalize hasB G = HBf at *
  clear h hk hs hl
  go_enter Tryz.func55, Tryz.ntmps55
  go_wp2
  go_loopw [5] (fun s wr => ∃ j : Nat, j ≤ n ∧ s = .int .i64 j ∧ Hid (Below w.heap.size w wr) ∧ Hid (P (l.take j) = true)) (fun s _ => n - (intOf s).toNat)
  case atStart => exact ⟨0, Nat.zero_le _, rfl, Lib.hid (Below.refl _ _), HZ⟩
  case round =>
    obtain ⟨j, hj, rfl, hB, ht⟩ := hrel
    by_cases hlt : j < n
    · obtain ⟨b, off, rfl, hb, hcell⟩ := HS.out.at (by omega)
      have hcj := stepc hB.out hb (hcell j hlt)
      have c2r := stepc hB.out hblt c2
      have hx := HL.out j hlt
      have htk := Lib.hid (HT.out j hlt)
      have hnt := Lib.hid (HNN.out j hlt)
      have hBx := Lib.hid (HB.out (l.getD j 0))
      generalize l.getD j 0 = x at *
      have hx0 := hx.1
      have hx1 := hx.2
      have hxt : x.tdiv 2 = x / 2 := by rw [Int.tdiv_eq_ediv_of_nonneg hx0]
      have hw1 : IntKind.u32.wrap (x / 2) = x / 2 := by rw [w32]; omega
      have hw2 : IntKind.i64.wrap (x / 2) = x / 2 := IntWalk.i64_in _ (by omega)
      have hBr := Lib.hid (fun q => nextw hB.out (below_draws wr q))
      clear hcell hx hB
      by_cases hxk : x / 2 < (k : Int)
      · have hge : decide (x / 2 ≥ (k : Int)) = false := by simp; omega
        have hge2 : decide ((k : Int) ≤ x / 2) = false := by simp; omega
        go_wp2
        go_quiet (fail)
        go_wp2
        exact ⟨⟨j + 1, by omega, by go_num, Lib.hid (hBr.out _), Lib.hid (by rw [htk.out, ht.out, hBx.out]; simp [hxk])⟩, by simp [intOf]; omega⟩
      · have hge : decide (x / 2 ≥ (k : Int)) = true := by simp; omega
        have hge2 : decide ((k : Int) ≤ x / 2) = true := by simp; omega
        go_wp2
        go_quiet (fail)
        go_wp2
        go_ret
        rw [hnt.out (by rw [hBx.out]; simp; omega)]
        exact ⟨rfl, hBr.out _⟩
    · obtain rfl : j = n := by omega
      go_wp2
      go_ret
      rw [← HA.out, ht.out]
      exact ⟨rfl, hB.out⟩

theorem rinput_val {w0 w : World} {B g c : Nat} {F H : Bool} {ns : List Nd} (h : Rf w0 w B g c F H ns) (hm : ns.length ≤ 200000) :
    Calls Tryz.prog 75 #[.pointer (some ⟨B, 0, none⟩)] w fun e w' => e = .returned (.tuple #[.int .u32 (2 * (ns.length : Int)), .int .i64 0]) ∧ ∃ g1 c1, Rf w0 w' B g1 c1 F H (ns ++ [⟨false, 0, 0⟩]) ∧ Kept (RK w) w w' := by
  obtain ⟨-, -, c2, f2⟩ := h.cells
  have f2 := f2 2
  have hlt := h.blt
  have hglt := h.glt
  have HR := Lib.hid h.row
  have HF := Lib.hid h
  have hne2 : some B ≠ Value.ownBlock (.slice (some ⟨g, 0, none⟩) ns.length c) := by have := h.ne; simpa [Value.ownBlock] using this
  have hp := h.pos
  have hs0 := h.below.size
  obtain ⟨i0, hi, hz0, hz1, hz2⟩ := info_parts info_rnode
  have g0 : decide ((278528 : Int) < (ns.length : Int)) = false := by simp; omega
  generalize hk : ns.length = k at *
  have hk := Lib.hid hk
  clear h
  go_enter Tryz.func75, Tryz.ntmps75
  go_wp2_with (at_builtin; refine wpList_append_lies _ rfl _ _ 120 rfl w0.heap.size 124 i0 (.agg #[.bool false, .int .u32 0, .int .u32 0]) 3 12 Tryz.underlying120 hi hz0 hz1 hz2 rfl (by decide) (.slice (some ⟨g, 0, none⟩) k c) k _ rfl (HR.out.alloc _) ⟨w.heap.size, 0, none⟩ 1 1 [.bool true, .int .u32 0, .int .u32 0] rfl rfl (news3 (by go_simp) (by go_simp) (by go_simp)) (by simp [Value.oneCell']) (by decide) (by unfold maxLen; omega) (by omega) (by simp; omega) _ rfl ?_; intro g1 cap1 w1 hown1 hgrow1 hat1 hlt1; obtain ⟨x0, x1⟩ := grow_box hgrow1 (b := B) (o := 2) (v := .slice (some ⟨g, 0, none⟩) k c) (by go_simp) (by go_simp) hne2)
  go_ret2
  obtain ⟨r1, r2⟩ := rf_next HF.out ((Below.refl _ _).alloc (Nat.le_refl _) _) ⟨false, 0, 0⟩ (by rw [hk.out]; exact hown1) hgrow1 hat1
  rw [hk.out] at r1 r2
  exact ⟨by congr 4, _, _, r1, r2⟩

/-- What Many of two comes to. -/
def manyR (T : Gr → Int → Int → Gr × Int) (G : Gr) (b c : Int) : Gr := if allHas G [b, c] = true then (T G b c).1 else G
theorem rmany_any {op : Int} {T : Gr → Int → Int → Gr × Int} {k : Nat} (hT : RTwo 190000 op T) (hO : OpOk T k) (hk3 : k ≤ 3) {w0 w : World} {B g c : Nat} {G : Gr} (h : Rf w0 w B g c G.fold G.hash G.nodes) (hW : Wf G) (hm : G.nodes.length ≤ 190000) {x y : Int} (hx : IsLit x) (hy : IsLit y) {a : Option Addr} {cap : Nat} (hs : Row .u32 w a 2 [x, y]) :
    Calls Tryz.prog 74 #[.pointer (some ⟨B, 0, none⟩), .int .i64 op, .slice a 2 cap] w fun e w' => (∃ v1 v2, e = .returned (.tuple #[.int .u32 v1, .int .i64 v2])) ∧ ∃ g1 c1, Rf w0 w' B g1 c1 (manyR T G x y).fold (manyR T G x y).hash (manyR T G x y).nodes ∧ Kept (RK w) w w' := by
  have hth := Lib.hid (rhas_any h (by omega) (cap := cap) hs (by intro z hz; simp at hz; rcases hz with rfl | rfl <;> assumption))
  obtain ⟨b, off, rfl, hb, hc⟩ := hs.at (by omega)
  have e0 : w.cell? ⟨b, off, none⟩ = some (.int .u32 x) := hc 0 (by omega)
  have e1 : w.cell? ⟨b, off + 1, none⟩ = some (.int .u32 y) := hc 1 (by omega)
  unfold manyR
  cases hA : allHas G [x, y] with
  | false =>
    rw [hA] at hth
    have hst := Lib.hid (fun w2 (hb2 : Below w.heap.size w w2) => h.step hb2)
    simp only [if_neg (show ¬ (false = true) by simp)]
    clear h hs hc
    go_enter Tryz.func74, Tryz.ntmps74
    go_wp2_with (go_at_call 55; (with_reducible refine hth.out.mono ?_); rintro e w2 ⟨rfl, hB2⟩)
    go_ret2
    exact ⟨⟨_, _, rfl⟩, g, c, hst.out _ hB2, RK.of_below hB2⟩
  | true =>
    rw [hA] at hth
    have ha := allHas_there (l := [x, y]) (by intro z hz; simp at hz; rcases hz with rfl | rfl <;> assumption) hA
    have hxT := ha x (by simp)
    have hyT := ha y (by simp)
    have hg := hO G x y hW hxT hyT (by omega)
    have htw := Lib.hid (fun w2 (hb2 : Below w.heap.size w w2) => hT w0 w2 B g c G x y (h.step hb2) hW hm hxT hyT)
    have hfo := Lib.hid (And.intro hg.le.fold hg.le.hash)
    simp only [if_true]
    clear h hs hc hg ha hxT hyT hA
    generalize T G x y = r at *
    go_enter Tryz.func74, Tryz.ntmps74
    go_wp2_with (go_at_call 55; (with_reducible refine hth.out.mono ?_); rintro e w2 ⟨rfl, hB2⟩; have d0 := stepc hB2 hb e0; have d1 := stepc hB2 hb e1; have htw2 := Lib.hid (htw.out _ hB2); have hB2 := Lib.hid hB2)
    go_loopw [8, 9, 10, 11, 30] (fun s8 s9 _ _ _ wr => (s9 = .int .i64 1 ∧ s8 = .int .u32 x ∧ wr = w2) ∨ (s9 = .int .i64 2 ∧ (∃ v, s8 = .int .u32 v) ∧ ∃ g1 c1, Hid (Rf w0 wr B g1 c1 G.fold G.hash r.1.nodes) ∧ Hid (Kept (RK w2) w2 wr))) (fun _ s9 _ _ _ _ => 2 - (intOf s9).toNat)
    case atStart => exact .inl ⟨rfl, rfl, rfl⟩
    case round =>
      rcases hrel with ⟨rfl, rfl, rfl⟩ | ⟨rfl, ⟨v, rfl⟩, g1, c1, hR, hK⟩
      · go_wp2_with (go_at_call 107; (with_reducible refine htw2.out.mono ?_); rintro e w3 ⟨rfl, g3, c3, hR3, hK3⟩)
        exact ⟨.inr ⟨rfl, ⟨_, rfl⟩, g3, c3, Lib.hid hR3, Lib.hid hK3⟩, by decide⟩
      · clear d0 d1 htw2 htw
        go_wp2
        go_ret2
        refine ⟨⟨_, _, rfl⟩, g1, c1, ?_, RK.trans (RK.of_below hB2.out) hK.out⟩
        rw [hfo.out.1, hfo.out.2]
        exact hR.out
theorem rtwo_and' : RTwo 190000 1 andG := fun w0 w B g c G a b h hW hm ha hb => rtwo_and w0 w B g c G a b h hW (by omega) ha hb

-- May a bus have this name?
set_option maxHeartbeats 4000000 in
theorem rMayName_any (s : ByteArray) (w : World) :
    Calls Tryz.prog 63 #[.string s] w fun e w' => e = .returned (.bool (mayName s)) ∧ w = w' := by
  by_cases h1 : s.size < 1
  · have e : mayName s = false := by unfold mayName; simp; omega
    rw [e]
    have h1' : decide ((s.size : Int) < 1) = true := by simp; omega
    go_enter Tryz.func63, Tryz.ntmps63
    go_wp2
    go_ret
    exact ⟨rfl, rfl⟩
  by_cases h2 : 80 < s.size
  · have e : mayName s = false := by unfold mayName; simp; omega
    rw [e]
    have h1' : decide ((s.size : Int) < 1) = false := by simp; omega
    have h2' : decide (80 < (s.size : Int)) = true := by simp; omega
    go_enter Tryz.func63, Tryz.ntmps63
    go_wp2
    go_ret
    exact ⟨rfl, rfl⟩
  have hm : Hid (mayName s = spellAll s.data.toList) := Lib.hid (by unfold mayName; rw [show decide (1 ≤ s.size) = true by simp; omega, show decide (s.size ≤ 80) = true by simp; omega]; rfl)
  have hl : Hid (s.data.toList.length = s.size) := Lib.hid (Array.length_toList)
  have h1' : decide ((s.size : Int) < 1) = false := by simp; omega
  have h2' : decide (80 < (s.size : Int)) = false := by simp; omega
  rw [hm.out]
  go_enter Tryz.func63, Tryz.ntmps63
  go_wp2
  go_loopw [3, 4, 5, 6] (fun i _ _ _ wr => wr = w ∧ ∃ j : Nat, j ≤ s.size ∧ i = .int .i64 j ∧ Hid (spellAll (s.data.toList.take j) = true)) (fun i _ _ _ _ => s.size - (intOf i).toNat)
  case atStart => exact ⟨rfl, 0, Nat.zero_le _, rfl, Lib.hid rfl⟩
  case round =>
    obtain ⟨rfl, j, hj, rfl, ht⟩ := hrel
    by_cases hlt : j < s.size
    · have hn := Lib.hid (spell_not s.data.toList j (by rw [hl.out]; exact hlt))
      have htk := Lib.hid (spell_take s.data.toList j (by rw [hl.out]; exact hlt))
      have e1 : s.data.toList.getD j 0 = s[j] := by
        rw [List.getD_eq_getElem?_getD, Array.getElem?_toList, Array.getElem?_eq_getElem hlt]; rfl
      rw [e1] at hn htk
      obtain ⟨b, hb⟩ : ∃ b : Int, ((s[j].toNat : Nat) : Int) = b := ⟨_, rfl⟩
      rw [hb] at hn htk
      obtain ⟨p1, hp1⟩ : ∃ p, decide (b ≥ 97) = p := ⟨_, rfl⟩
      obtain ⟨p2, hp2⟩ : ∃ p, decide (b ≤ 122) = p := ⟨_, rfl⟩
      obtain ⟨p3, hp3⟩ : ∃ p, decide (b ≥ 65) = p := ⟨_, rfl⟩
      obtain ⟨p4, hp4⟩ : ∃ p, decide (b ≤ 90) = p := ⟨_, rfl⟩
      obtain ⟨p5, hp5⟩ : ∃ p, decide (b ≥ 48) = p := ⟨_, rfl⟩
      obtain ⟨p6, hp6⟩ : ∃ p, decide (b ≤ 57) = p := ⟨_, rfl⟩
      obtain ⟨p7, hp7⟩ : ∃ p, (b == 95) = p := ⟨_, rfl⟩
      obtain ⟨p8, hp8⟩ : ∃ p, (b == 64) = p := ⟨_, rfl⟩
      obtain ⟨p9, hp9⟩ : ∃ p, (b == 63) = p := ⟨_, rfl⟩
      have hsp : Hid (spellB b = ((((((p1 && p2) || (p3 && p4)) || (p5 && p6)) || p7) || p8) || p9)) := Lib.hid (by subst hp1 hp2 hp3 hp4 hp5 hp6 hp7 hp8 hp9; rfl)
      rw [hsp.out] at hn htk
      clear e1 hsp
      obtain ⟨LL, hLL⟩ : ∃ q, ((p1 && p2) || (p3 && p4)) = q := ⟨_, rfl⟩
      obtain ⟨DD, hDD⟩ : ∃ q, (p5 && p6) = q := ⟨_, rfl⟩
      rw [hLL, hDD] at hn htk
      go_upto_region 7 with fail
      go_cut [5] (fun s5 wx => wx = wr ∧ s5 = .bool LL)
      case first =>
        clear hn htk hDD hp5 hp6 hp7 hp8 hp9
        go_wp2
        all_goals (go_meet; exact ⟨rfl, by subst hLL; simp [*]⟩)
      case rest =>
        clear hp1 hp2 hp3 hp4 hLL
        obtain ⟨rfl, rfl⟩ := hcut
        go_upto_region 8 with fail
        go_cut [6] (fun s6 wx => wx = wc ∧ s6 = .bool DD)
        case first =>
          clear hn htk hp7 hp8 hp9
          go_wp2
          all_goals (go_meet; exact ⟨rfl, by subst hDD; simp [*]⟩)
        case rest =>
          clear hp5 hp6 hDD
          obtain ⟨rfl, rfl⟩ := hcut
          subst hp7 hp8 hp9
          go_wp2
          all_goals first
            | (go_ret; rw [hn.out (by simp_all)]; exact ⟨rfl, rfl⟩)
            | exact ⟨⟨trivial, j + 1, by omega, by go_num, Lib.hid (by rw [htk.out, ht.out]; simp_all; done)⟩, by simp [intOf]; omega⟩
    · obtain rfl : j = s.size := by omega
      rw [← hl.out, List.take_length] at ht
      go_wp2
      go_ret
      rw [ht.out]
      exact ⟨rfl, rfl⟩
end Go.Proofs.YtafoohdndlhbnaaGreat
end
