/-
  Simulations: Words; a cycle.
  Simulations: a cycle.
-/
import Derived.Test.YtlkainmkhofpaaaGreatFSAR
section
namespace Go.Proofs.YtlkainmkhofpaaaGreat
open Go.RowKit Go.Maps Bits Num
set_option maxRecDepth 100000

theorem swords1_any {w : World} {p : Nat} {k : Nat} (hc : w.cell? ⟨p, 0, none⟩ = some (.int .i64 k)) {x : Int} (hx : IsLit x) :
    Calls Tryz.prog 62 #[.int .u32 x, .pointer (some ⟨p, 0, none⟩)] w fun e w' => e = .returned (.bool (!decide (x / 2 < (k : Int)))) ∧ Below w.heap.size w w' := by
  have hno := Lib.hid (fun w => node_any x hx w)
  have hBn := Lib.hid (fun q => below_draws w q)
  have hpl := World.block_lt_of_cell? w _ hc
  have hc' := fun q => stepc (hBn.out q) hpl hc
  go_enter Tryz.func62, Tryz.ntmps62
  go_wp2
  go_quiet (first | (go_at_call 63; with_reducible exact Calls.quiet_of_same ((hno.out _).mono (fun _ _ h => ⟨h.1, h.2.symm⟩))))
  go_wp2
  go_ret
  refine ⟨ret_bool ?_, hBn.out _⟩
  rw [Bool.eq_iff_iff]; simp
theorem scontains_any {w : World} {p k : Nat} (hc : w.cell? ⟨p, 0, none⟩ = some (.int .i64 k)) {G : Gr} (hk : G.nodes.length = k) {a : Option Addr} {n c : Nat} {l : List Int} (hs : Row .u32 w a n l) (hl : ∀ x ∈ l, IsLit x) :
    Calls Tryz.prog 61 #[.slice a n c, .func (.func 62) #[] #[.pointer (some ⟨p, 0, none⟩)]] w fun e w' => e = .returned (.bool (!allHas G l)) ∧ Below w.heap.size w w' := by
  have hix : Hid (Calls Tryz.prog 104 #[.slice a n c, .func (.func 62) #[] #[.pointer (some ⟨p, 0, none⟩)]] w fun e w' => (∃ v : Int, e = .returned (.int .i64 v) ∧ (decide (v ≥ 0) = !allHas G l)) ∧ Below w.heap.size w w') := by
    show Calls _ _ _ _ _
    have HT := Lib.hid (fun j (hj : j < n) => allHas_take G l j (by rw [hs.len]; exact hj))
    have HN := Lib.hid (fun j (hj : j < n) => allHas_not G l j (by rw [hs.len]; exact hj))
    have HL := Lib.hid (fun j (hj : j < n) => hl (l.getD j 0) (by simp [List.getD, hs.len, hj]))
    have HA : Hid (allHas G (l.take n) = allHas G l) := Lib.hid (by rw [← hs.len, List.take_length])
    have HZ : Hid (allHas G (l.take 0) = true) := Lib.hid rfl
    have HS := Lib.hid hs
    have hle := hs.le
    have HB : Hid (∀ x, hasB G x = decide (x / 2 < (k : Int))) := Lib.hid (fun x => by unfold hasB; rw [hk])
    have hpl := World.block_lt_of_cell? w _ hc
    have hcl := Lib.hid (fun w2 (hb : Below w.heap.size w w2) (x : Int) (hx : IsLit x) => swords1_any (w := w2) (stepc hb hpl hc) hx)
    clear hs hl hc hk
    generalize allHas G = P at *
    generalize hasB G = HBf at *
    go_enter Tryz.func104, Tryz.ntmps104
    go_wp2
    go_loopw [8] (fun i wr => ∃ j : Nat, j ≤ n ∧ i = .int .i64 j ∧ Hid (Below w.heap.size w wr) ∧ Hid (P (l.take j) = true)) (fun i _ => n - (intOf i).toNat)
    case atStart => exact ⟨0, Nat.zero_le _, rfl, Lib.hid (Below.refl _ _), HZ⟩
    case round =>
      obtain ⟨j, hj, rfl, hB, ht⟩ := hrel
      by_cases hlt : j < n
      · obtain ⟨b, off, rfl, hb, hcell⟩ := HS.out.at (by omega)
        have hcj := stepc hB.out hb (hcell j hlt)
        have hx := HL.out j hlt
        have htk := Lib.hid (HT.out j hlt)
        have hnt := Lib.hid (HN.out j hlt)
        have hBx := Lib.hid (HB.out (l.getD j 0))
        generalize l.getD j 0 = x at *
        have hca := Lib.hid (hcl.out _ hB.out x hx)
        clear hcell
        by_cases hxk : x / 2 < (k : Int)
        · rw [show (!decide (x / 2 < (k : Int))) = false by simp [hxk]] at hca
          go_wp2_with (go_at_call 62; (with_reducible refine hca.out.mono ?_); rintro e w2 ⟨rfl, hb2⟩; have hb3 := Lib.hid (nextw hB.out hb2); clear hb2)
          exact ⟨⟨j + 1, by omega, by go_num, hb3, Lib.hid (by rw [htk.out, ht.out, hBx.out]; simp [hxk])⟩, by simp [intOf]; omega⟩
        · rw [show (!decide (x / 2 < (k : Int))) = true by simp [hxk]] at hca
          go_wp2_with (go_at_call 62; (with_reducible refine hca.out.mono ?_); rintro e w2 ⟨rfl, hb2⟩; have hb3 := Lib.hid (nextw hB.out hb2); clear hb2)
          go_ret
          refine ⟨⟨_, rfl, ?_⟩, hb3.out⟩
          rw [hnt.out (by rw [hBx.out]; simp [hxk])]
          simp
      · obtain rfl : j = n := by omega
        go_wp2
        go_ret
        refine ⟨⟨_, rfl, ?_⟩, hB.out⟩
        rw [← HA.out, ht.out]
        decide
  clear hs hl hc
  generalize allHas G l = A at *
  go_enter Tryz.func61, Tryz.ntmps61
  go_wp2_with (go_at_call 104; (with_reducible refine hix.out.mono ?_); rintro e w2 ⟨⟨v, rfl, hv⟩, hb2⟩)
  go_ret
  exact ⟨by simp_all, hb2⟩

/-- What Words tells. -/
def WordsQ (N : Nt) (s : St) (n : Nat) (l : List Int) (w : World) (e : Ending) (w' : World) : Prop :=
  (allHas N.g l = false → e = .returned (.tuple #[.slice none 0 0, .int .i64 1])) ∧ (allHas N.g l = true → s.cy = 0 → e = .returned (.tuple #[.slice none 0 0, .int .i64 6])) ∧
  (allHas N.g l = true → 0 < s.cy → ∃ g : Nat, e = .returned (.tuple #[.slice (some ⟨g, 0, none⟩) n n, .int .i64 0]) ∧ WR w' (some ⟨g, 0, none⟩) n n (l.map (fun x => wordV x s.last)) ∧ w.heap.size ≤ g) ∧ Below w.heap.size w w'
set_option maxHeartbeats 1000000 in
theorem SWords_any {w : World} {S : Nat} {q : NPl} {p : SPl} {N : Nt} {s : St} (h : SimIs w S q p N s) {a : Option Addr} {n c : Nat} {l : List Int} (hs : Row .u32 w a n l) (hl : ∀ x ∈ l, IsLit x) (hn : n ≤ 400000) :
    Calls Tryz.prog 25 #[.pointer (some ⟨S, 0, none⟩), .slice a n c] w (WordsQ N s n l w) := by
  have hst := Lib.hid (sstands_any h)
  obtain ⟨c0, c1, c2, c3, -⟩ := h.cells
  have hlt := h.lt
  have hno := Lib.hid (nodes_any h.net.g.lay h.good.wf.pos)
  obtain ⟨-, -, -, -, -, -, -, -, -, n0, -⟩ := h.net.cells
  have hb0 : Below w.heap.size w (w.alloc (.cells #[.int .i64 N.g.nodes.length] 3)) := (Below.refl _ _).alloc (Nat.le_refl _) _
  have hco := Lib.hid (scontains_any (w := w.alloc (.cells #[.int .i64 N.g.nodes.length] 3)) (p := w.heap.size) (k := N.g.nodes.length) (by simp [go_sem]) (G := N.g) rfl (c := c) (hs.step hb0) hl)
  have hwo := Lib.hid (fun w2 (hb : Below w.heap.size w w2) => rwords_any (pv := .pointer (some ⟨q.b, 0, none⟩)) (ha := p.ha) (hn := N.regs.length) (hc := p.hc) (la := p.la) (ln := p.ln) (lc := p.lc) (cy := s.cy) (h.last.row.step hb) h.last.words (c := c) (hs.step hb) hl hn rfl)
  have hb0 := Lib.hid hb0
  unfold WordsQ
  clear h hs hl
  generalize l.map (fun x => wordV x s.last) = V at *
  cases hA : allHas N.g l with
  | false =>
    rw [hA] at hco
    clear hwo
    go_enter Tryz.func25, Tryz.ntmps25
    go_wp2_with (first
      | (go_at_call 49; (with_reducible refine hst.out.mono ?_); rintro e w2 ⟨rfl, rfl⟩)
      | (go_at_call 26; (with_reducible refine hno.out.mono ?_); rintro e w2 ⟨rfl, rfl⟩)
      | (go_at_call 61; (with_reducible refine hco.out.mono ?_); rintro e w3 ⟨rfl, hb3⟩))
    go_ret2
    exact ⟨fun _ => rfl, fun h => by simp at h, fun h => by simp at h, nextw hb0.out hb3⟩
  | true =>
    rw [hA] at hco
    by_cases hcy : s.cy = 0
    · rw [hcy] at c3
      clear hwo
      go_enter Tryz.func25, Tryz.ntmps25
      go_wp2_with (first
        | (go_at_call 49; (with_reducible refine hst.out.mono ?_); rintro e w2 ⟨rfl, rfl⟩)
        | (go_at_call 26; (with_reducible refine hno.out.mono ?_); rintro e w2 ⟨rfl, rfl⟩)
        | (go_at_call 61; (with_reducible refine hco.out.mono ?_); rintro e w3 ⟨rfl, hb3⟩; have hb4 := nextw hb0.out hb3; have d3 := stepc hb4 hlt c3))
      go_ret2
      exact ⟨fun h => by simp at h, fun _ _ => rfl, fun _ h => by omega, hb4⟩
    · have hcz : ((s.cy : Int) == 0) = false := by simp; omega
      generalize s.cy = cy at *
      go_enter Tryz.func25, Tryz.ntmps25
      go_wp2_with (first
        | (go_at_call 49; (with_reducible refine hst.out.mono ?_); rintro e w2 ⟨rfl, rfl⟩)
        | (go_at_call 26; (with_reducible refine hno.out.mono ?_); rintro e w2 ⟨rfl, rfl⟩)
        | (go_at_call 61; (with_reducible refine hco.out.mono ?_); rintro e w3 ⟨rfl, hb3⟩; have hb4 := nextw hb0.out hb3; have d0 := stepc hb4 hlt c0; have d1 := stepc hb4 hlt c1; have d2 := stepc hb4 hlt c2; have d3 := stepc hb4 hlt c3; have hwo2 := Lib.hid (hwo.out _ hb4); have hb4 := Lib.hid hb4; clear hb3)
        | (go_at_call 54; (with_reducible refine hwo2.out.mono ?_); rintro e w5 ⟨g, rfl, hW, hgl, hb5⟩; have hW := Lib.hid hW; have hb5 := Lib.hid hb5))
      go_ret2
      exact ⟨fun h => by simp at h, fun _ h => by omega, fun _ _ => ⟨g, rfl, hW.out, Nat.le_trans hb4.out.size hgl⟩, nextw hb4.out hb5.out⟩
end Go.Proofs.YtlkainmkhofpaaaGreat
end

section
namespace Go.Proofs.YtlkainmkhofpaaaGreat
open Go.RowKit Go.Maps Bits Num
set_option maxRecDepth 100000

/-- Rows of words that a call has made, the first j of them. -/
def ORow (w : World) (base g no : Nat) (L : List (List Int)) (j : Nat) : Prop :=
  ∃ kv : List Value, w.ownsRow base 44 1 (.slice (some ⟨g, 0, none⟩) no no) no kv ∧ ∀ i, i < j → ∃ (ra : Option Addr) (rc : Nat), kv[i]? = some (.slice ra (L.getD i []).length rc) ∧ WR w ra (L.getD i []).length rc (L.getD i [])
theorem ORow.step {w w' : World} {base g no j : Nat} {L : List (List Int)} (h : ORow w base g no L j) (hb : Below w.heap.size w w') : ORow w' base g no L j := by
  obtain ⟨kv, h1, h2⟩ := h
  exact ⟨kv, own_below h1 hb, fun i hi => by obtain ⟨ra, rc, e1, e2⟩ := h2 i hi; exact ⟨ra, rc, e1, e2.below hb⟩⟩
theorem ORow.base {w : World} {base b2 g no j : Nat} {L : List (List Int)} (h : ORow w base g no L j) (hb : b2 ≤ base) : ORow w b2 g no L j := let ⟨kv, h1, h2⟩ := h; ⟨kv, own_base h1 hb, h2⟩
theorem ORow.sim {w w' : World} {base g no j : Nat} {L : List (List Int)} (h : ORow w base g no L j) {S2 : Nat} {q2 : NPl} {p2 : SPl} {N2 : Nt} {s2 : St} (h2 : SimIs w S2 q2 p2 N2 s2) (hk : Kept (fun k => k = S2) w w') : ORow w' base g no L j := by
  obtain ⟨kv, e1, e2⟩ := h
  refine ⟨kv, own_keptF e1 hk (fun k e hf => ?_), fun i hi => ?_⟩
  · subst hf
    obtain ⟨c, hc⟩ := own_type e1 e
    rw [h2.box] at hc; simp [simBox] at hc
  · obtain ⟨ra, rc, e3, e4⟩ := e2 i hi
    exact ⟨ra, rc, e3, e4.keptF hk h2.self.2.1⟩
theorem ORow.next {w w5 : World} {base g no j : Nat} {L : List (List Int)} (h : ORow w base g no L j) (hj : j < no) (hb : Below w.heap.size w w5) {ra : Option Addr} {rc : Nat} {l : List Int} (hW : WR w5 ra l.length rc l) (hl : L.getD j [] = l) :
    ORow (w5.setCell ⟨g, j, none⟩ (.slice ra l.length rc)) base g no L (j + 1) := by
  obtain ⟨kv, e1, e2⟩ := h
  have e1 := own_below e1 hb
  have hst := (e1.stored j (.slice ra l.length rc)).1
  have hk := kept_set' w5 g j (.slice ra l.length rc)
  obtain ⟨cg, hcg⟩ := own_type e1 (k := g) rfl
  have hN : NoWd w5 (fun k => k = g) := by
    rintro k cur fz rfl hh
    rw [hcg] at hh; simp at hh
  have hkl : kv.length = no := by have := e1.1; omega
  refine ⟨kv.set j (.slice ra l.length rc), hst, fun i hi => ?_⟩
  by_cases e : i = j
  · subst e
    rw [hl]
    exact ⟨ra, rc, by rw [List.getElem?_set, if_pos rfl, if_pos (by omega)], hW.keptF hk hN⟩
  · obtain ⟨ra', rc', e3, e4⟩ := e2 i (by omega)
    exact ⟨ra', rc', by rw [List.getElem?_set, if_neg (fun h => e h.symm)]; exact e3, (e4.below hb).keptF hk hN⟩
theorem ORow.at {w : World} {base g no : Nat} {L : List (List Int)} (h : ORow w base g no L no) {i : Nat} (hi : i < no) : ∃ (ra : Option Addr) (rc : Nat), w.cell? ⟨g, i, none⟩ = some (.slice ra (L.getD i []).length rc) ∧ WR w ra (L.getD i []).length rc (L.getD i []) ∧ g < w.heap.size := by
  obtain ⟨kv, e1, e2⟩ := h
  obtain ⟨ra, rc, e3, e4⟩ := e2 i hi
  exact ⟨ra, rc, by rw [e1.cellAt i (by omega)]; exact e3, e4, own_lt e1⟩
theorem info_row64 : (Tryz.prog.info? 44).map (fun i => (i.zero, i.size, i.bytes)) = some (some (.slice none 0 0), 1, 24) := by kernel_rfl
/-- What goes out. -/
def outR (N : Nt) (ws : List Int) : List (List Int) := N.outs.map (fun b => outW b ws)
theorem outR_at (N : Nt) (ws : List Int) {i : Nat} (h : i < N.outs.length) : (outR N ws).getD i [] = outW N.outs[i] ws := by simp [outR, List.getD, h]

set_option maxHeartbeats 2000000 in
theorem SStep_no {w : World} {S : Nat} {q : NPl} {p : SPl} {N : Nt} {s : St} (h : SimIs w S q p N s) {a : Option Addr} {n c : Nat} (hn : n ≠ N.ins.length) :
    Calls Tryz.prog 16 #[.pointer (some ⟨S, 0, none⟩), .slice a n c] w fun e w' => e = .returned (.tuple #[.slice none 0 0, .int .i64 1]) ∧ Below w.heap.size w w' := by
  have hst := Lib.hid (sstands_any h)
  obtain ⟨c0, c1, c2, c3, -⟩ := h.cells
  have hfi := Lib.hid (fits_no h.net (ha := p.ha) (hn := N.regs.length) (hc := p.hc) (la := p.la) (ln := p.ln) (lc := p.lc) (cy := s.cy) (a := a) (c := c) hn)
  clear h hn
  go_enter Tryz.func16, Tryz.ntmps16
  go_wp2_with (first
    | (go_at_call 49; (with_reducible refine hst.out.mono ?_); rintro e w2 ⟨rfl, rfl⟩)
    | (go_at_call 50; (with_reducible refine hfi.out.mono ?_); rintro e w2 ⟨rfl, hb2⟩))
  go_ret2
  exact ⟨rfl, hb2⟩

set_option maxHeartbeats 8000000 in
theorem SStep_ok {w : World} {S : Nat} {q : NPl} {p : SPl} {N : Nt} {s : St} (h : SimIs w S q p N s) (hcy : s.cy < 1000000) {a : Option Addr} {n c : Nat} {X : List Int} (hI : InRows w a n N.ins X) :
    Calls Tryz.prog 16 #[.pointer (some ⟨S, 0, none⟩), .slice a n c] w fun e w' => ∃ (ws : List Int) (p' : SPl) (g : Nat), Cyc N (X ++ s.has) ws ∧ e = .returned (.tuple #[.slice (some ⟨g, 0, none⟩) N.outs.length N.outs.length, .int .i64 0]) ∧ ORow w' w.heap.size g N.outs.length (outR N ws) N.outs.length ∧ SimIs w' S q p' N ⟨nxR N ws, ws, s.cy + 1⟩ ∧ Kept (fun k => k = S) w w' := by
  have hst := Lib.hid (sstands_any h)
  obtain ⟨c0, c1, c2, c3, fz⟩ := h.cells
  have hlt := h.lt
  have hql := h.net.lt
  have hfi := Lib.hid (fits_yes h.net (ha := p.ha) (hn := N.regs.length) (hc := p.hc) (la := p.la) (ln := p.ln) (lc := p.lc) (cy := s.cy) (c := c) hI)
  have hin := Lib.hid (fun w2 (hb : Below w.heap.size w w2) => inputs_any (h.net.below hb) h.good h.small (la := p.la) (ln := p.ln) (lc := p.lc) (cy := s.cy) (h.has.below hb) (c := c) (hI.step hb))
  have hsg := h.small.g
  have hev := Lib.hid (fun w2 (hb : Below w.heap.size w w2) (g : Nat) (hW : WR w2 (some ⟨g, 0, none⟩) N.g.inputs.length N.g.inputs.length (insW N (X ++ s.has))) => Eval_any (h.net.below hb).g h.good.wf (by omega) (cap := N.g.inputs.length) hW.row hW.words)
  have hnx := Lib.hid (fun w2 (hb : Below w.heap.size w w2) (wa : Option Addr) (wn wc : Nat) (ws : List Int) (hW : WR w2 wa wn wc ws) => next_any (h.net.below hb) h.good h.small (ha := p.ha) (hn := N.regs.length) (hc := p.hc) (la := p.la) (ln := p.ln) (lc := p.lc) (cy := s.cy) (by omega) hW)
  obtain ⟨-, -, -, -, -, -, -, -, -, n0, -⟩ := h.net.cells
  have H := Lib.hid h
  have hcyc := Lib.hid (fun (ws : List Int) (hl : ws.length = N.g.nodes.length) (v : Val N.g (insW N (X ++ s.has)) ws) => cyc_of h.good (V := X ++ s.has) hl v)
  clear h hI
  go_enter Tryz.func16, Tryz.ntmps16
  go_upto_region 5 with (first
    | (go_at_call 49; (with_reducible refine hst.out.mono ?_); rintro e w2 ⟨rfl, rfl⟩)
    | (go_at_call 50; (with_reducible refine hfi.out.mono ?_); rintro e w2 ⟨rfl, hb2⟩; have d0 := stepc hb2 hlt c0; have d1 := stepc hb2 hlt c1; have d2 := stepc hb2 hlt c2; have d3 := stepc hb2 hlt c3; have dn := stepc hb2 hql n0; have hb2 := Lib.hid hb2.drew))
  clear hst hfi
  go_region_held3 (fun w' => w'.cell? ⟨S, 0, none⟩ = some (.pointer (some ⟨q.b, 0, none⟩)) ∧ w'.cell? ⟨S, 1, none⟩ = some (.slice p.ha N.regs.length p.hc) ∧ w'.cell? ⟨S, 2, none⟩ = some (.slice p.la p.ln p.lc) ∧ w'.cell? ⟨S, 3, none⟩ = some (.int .i64 s.cy) ∧ w'.cell? ⟨q.b, 0, none⟩ = some (.pointer (some ⟨q.g.b, 0, none⟩))) (go_keep) (first
    | (go_at_call 52; (with_reducible refine (hin.out _ hb2.out).mono ?_); rintro e w3 ⟨g3, rfl, hW3, hb3⟩; have hb4 := nextw hb2.out hb3; have e0 := stepc hb4 hlt c0; have e1 := stepc hb4 hlt c1; have e2 := stepc hb4 hlt c2; have e3 := stepc hb4 hlt c3; have en := stepc hb4 hql n0; have hev2 := Lib.hid (hev.out _ hb4 _ hW3); have hb4 := Lib.hid hb4; clear hb3 hW3)
    | (go_at_call 51; (with_reducible refine hev2.out.mono ?_); rintro e w5 ⟨ws, rfl, ho5, hl5, hV5, hb5⟩; have hc5 := hcyc.out _ hl5 hV5; have hW5 : WR w5 (some ⟨w3.heap.size, 0, none⟩) N.g.nodes.length N.g.nodes.length ws := ⟨hl5, own_base ho5 (Nat.zero_le _), hV5.words⟩; have hb6 := nextw hb4.out hb5; have f0 := stepc hb6 hlt c0; have f1 := stepc hb6 hlt c1; have f2 := stepc hb6 hlt c2; have f3 := stepc hb6 hlt c3; have fn := stepc hb6 hql n0; have hnx2 := Lib.hid (hnx.out _ hb6 _ _ _ _ hW5); have hW5 := Lib.hid hW5; have hc5 := Lib.hid hc5; have hb6 := Lib.hid hb6; clear ho5 hV5 hl5 hb5 hev2))
  clear hin hev hcyc e0 e1 e2 e3 en d0 d1 d2 d3 dn
  go_upto_region 9 with (go_at_call 53; (with_reducible refine hnx2.out.mono ?_); rintro e w7 ⟨g7, rfl, hW7, hg7, hb7⟩; have hb8 := nextw hb6.out hb7; have m0 := stepc hb8 hlt c0; have m1 := stepc hb8 hlt c1; have m2 := stepc hb8 hlt c2; have m3 := stepc hb8 hlt c3; have x0 := stepf hb8 hlt (fz 0); have x1 := stepf hb8 hlt (fz 1); have x2 := stepf hb8 hlt (fz 2); have x3 := stepf hb8 hlt (fz 3); have hW5' := Lib.hid (hW5.out.below hb7); have hW7 := Lib.hid hW7; have hb8 := Lib.hid hb8; clear hb7)
  have h8 := H.out.below hb8.out
  obtain ⟨e1, e2⟩ := set4_box h8.box rfl (.pointer (some ⟨q.b, 0, none⟩)) (.slice (some ⟨g7, 0, none⟩) N.regs.length N.regs.length) (.slice (some ⟨w3.heap.size, 0, none⟩) N.g.nodes.length N.g.nodes.length) (.int .i64 ((s.cy : Int) + 1))
  have hS9 := Lib.hid (sim_next (s' := ⟨nxR N ws, ws, s.cy + 1⟩) (p' := ⟨some ⟨g7, 0, none⟩, N.regs.length, some ⟨w3.heap.size, 0, none⟩, N.g.nodes.length, N.g.nodes.length⟩) h8 e2 e1 (hW7.out.keptF e2 h8.self.2.1) (hW5'.out.keptF e2 h8.self.2.1) (by show s.cy + 1 ≤ _; omega))
  have hK9 := Lib.hid ((Kept.of_below hb8.out).trans e2 (fun _ h => .inl h))
  generalize hp9 : (⟨some ⟨g7, 0, none⟩, N.regs.length, some ⟨w3.heap.size, 0, none⟩, N.g.nodes.length, N.g.nodes.length⟩ : SPl) = p9 at hS9
  have hw9 : w.heap.size ≤ _ := hK9.out.size
  generalize hww : (((World.setCell w7 ⟨S, 0, none⟩ (.pointer (some ⟨q.b, 0, none⟩))).setCell ⟨S, 1, none⟩ (.slice (some ⟨g7, 0, none⟩) N.regs.length N.regs.length)).setCell ⟨S, 2, none⟩ (.slice (some ⟨w3.heap.size, 0, none⟩) N.g.nodes.length N.g.nodes.length)).setCell ⟨S, 3, none⟩ (.int .i64 ((s.cy : Int) + 1)) = w9 at *
  clear hww e1 e2 h8 hW7 hW5' hW5 hb8 hb6 hnx2 hnx m0 m1 m2 m3 x0 x1 x2 x3 c0 c1 c2 c3 fz f0 f1 f2 f3 fn hb2 hb4 n0 H
  obtain ⟨c0, c1, c2, c3, -⟩ := hS9.out.cells
  obtain ⟨-, -, -, -, oa, oc, -, -, ev, -, -, -, -, n4, -⟩ := hS9.out.net.cells
  have hz9 := hS9.out.lt
  have hq9 := hS9.out.net.lt
  have hso := hS9.out.small.outs
  have HO := Lib.hid (show BusRow w9 (.slice oa N.outs.length oc) N.outs by have := hS9.out.net.outs; rw [ev] at this; exact this)
  have HT := Lib.hid (fun i (hi : i < N.outs.length) => (show (∀ x ∈ N.outs[i].lits, IsLit x) ∧ N.outs[i].lits.length ≤ 64 from ⟨fun x hx => (hS9.out.good.outT _ (List.getElem_mem hi) x hx).1, (hS9.out.good.outs.wide _ (List.getElem_mem hi)).2⟩))
  have HL := Lib.hid (And.intro hS9.out.last.row hS9.out.last.words)
  have HR := Lib.hid (fun i (hi : i < N.outs.length) => outR_at N ws hi)
  obtain ⟨i0, hi0, hz0, hz1, hz2⟩ := info_parts info_row64
  simp only [] at c0 c1 c2 c3 HL
  obtain ⟨cz, hcz⟩ : ∃ cz : Int, ((s.cy + 1 : Nat) : Int) = cz := ⟨_, rfl⟩
  rw [hcz] at c3
  clear hcz
  obtain ⟨no, hno⟩ : ∃ m, N.outs.length = m := ⟨_, rfl⟩
  rw [hno] at n4 HO hso
  have hNO := Lib.hid hno
  clear hno ev
  go_wp2_with (at_make; refine wpList_make_full _ rfl _ _ 50 rfl w9.heap.size 44 i0 (.slice none 0 0) 1 Tryz.underlying50 hi0 hz0 hz1 .i64 .i64 no no no rfl rfl rfl rfl (by rw [hz2]; omega) (by unfold maxLen; omega) (Nat.le_refl _) ?_; intro w10 hown hgw; have hb10 := (Below.refl w9.heap.size w9).grown hgw (Nat.le_refl _) (fun _ h => by cases h); have b0 := stepc hb10 hz9 c0; have b4 := stepc hb10 hq9 n4)
  have hO0 : Hid (ORow w10 w9.heap.size w9.heap.size no (outR N ws) 0) := Lib.hid ⟨_, hown, fun i hi => by omega⟩
  have hb10' := Lib.hid hb10
  clear hown hgw b0 b4 hb10
  go_loopw [70] (fun s wr => ∃ i : Nat, i ≤ no ∧ s = .int .i64 i ∧ Hid (ORow wr w9.heap.size w9.heap.size no (outR N ws) i) ∧ Hid (Below w9.heap.size w9 wr)) (fun s _ => no - (intOf s).toNat)
  case atStart => exact ⟨0, Nat.zero_le _, rfl, hO0, hb10'⟩
  case round =>
    clear hO0 hb10'
    obtain ⟨i, hi, rfl, hO, hB⟩ := hrel
    by_cases hlt2 : i < no
    · have hiL : i < N.outs.length := by rw [hNO.out]; exact hlt2
      obtain ⟨g2, la2, lc2, rfl, hg2, b0, b1, hl2⟩ := HO.out.at hiL
      obtain ⟨ht1, ht2⟩ := HT.out i hiL
      have b0 := stepc hB.out hg2 b0
      have b1 := stepc hB.out hg2 b1
      have hba : Below wr.heap.size wr (wr.alloc (.cells #[.string N.outs[i].name, .slice la2 N.outs[i].lits.length lc2] 81)) := (Below.refl _ _).alloc (Nat.le_refl _) _
      have hBa := nextw hB.out hba
      have hwo := Lib.hid (fun w2 (hb : Below w9.heap.size w9 w2) => rwords_any (pv := .pointer (some ⟨q.b, 0, none⟩)) (ha := p9.ha) (hn := N.regs.length) (hc := p9.hc) (la := p9.la) (ln := p9.ln) (lc := p9.lc) (cy := cz) (HL.out.1.step hb) HL.out.2 (c := lc2) (hl2.row.step hb) ht1 (by omega) rfl)
      have hoi : Hid ((outR N ws).getD i [] = N.outs[i].lits.map (fun x => wordV x ws)) := Lib.hid (outR_at N ws hiL)
      have hlm : Hid ((N.outs[i].lits.map (fun x => wordV x ws)).length = N.outs[i].lits.length) := Lib.hid (by simp)
      have y1 : (wr.alloc (.cells #[.string N.outs[i].name, .slice la2 N.outs[i].lits.length lc2] 81)).cell? ⟨wr.heap.size, 1, none⟩ = some (.slice la2 N.outs[i].lits.length lc2) := by simp [go_sem]
      have d0 := stepc hBa hz9 c0
      have d1 := stepc hBa hz9 c1
      have d2 := stepc hBa hz9 c2
      have d3 := stepc hBa hz9 c3
      have hOa := Lib.hid (hO.out.step hba)
      have hgw9 : w9.heap.size < wr.heap.size := (by obtain ⟨kv, e1, -⟩ := hO.out; exact own_lt e1)
      clear hl2 ht1 ht2
      generalize N.outs[i].lits.map (fun x => wordV x ws) = V at *
      generalize N.outs[i].lits.length = m at *
      generalize N.outs[i].name = nm at *
      go_upto_region 13 with fail
      generalize hwa : wr.alloc (.cells #[.string nm, .slice la2 m lc2] 81) = wa at *
      have zb : wr.heap.size < wa.heap.size := World.block_lt_of_cell? wa _ y1
      generalize hBx : wr.heap.size = Bx at *
      have u1 : ¬ (Bx = w9.heap.size) := by omega
      have u2 : ¬ (w9.heap.size = Bx) := by omega
      have u3 : ¬ (S = w9.heap.size) := by omega
      have u4 : ¬ (w9.heap.size = S) := by omega
      have zs : S < wa.heap.size := by omega
      have hdr := Lib.hid (nextw hBa ((Below.refl wa.heap.size wa).drew))
      have hdr2 := Lib.hid ((Below.refl wa.heap.size wa).drew)
      clear hba hBa hwa b0 b1
      go_region_held3 (fun w' => w'.cell? ⟨S, 0, none⟩ = some (.pointer (some ⟨q.b, 0, none⟩)) ∧ w'.cell? ⟨S, 1, none⟩ = some (.slice p9.ha N.regs.length p9.hc) ∧ w'.cell? ⟨S, 2, none⟩ = some (.slice p9.la p9.ln p9.lc) ∧ w'.cell? ⟨S, 3, none⟩ = some (.int .i64 cz) ∧ w'.cell? ⟨Bx, 1, none⟩ = some (.slice la2 m lc2)) (go_keep) (first
        | (go_at_call 54; (with_reducible refine (hwo.out _ hdr.out).mono ?_); rintro e w5 ⟨g5, rfl, hW5, hg5, hb5⟩; have hb6 := nextw hdr2.out hb5; have e0 := stepc hb6 zs d0; have e1 := stepc hb6 zs d1; have e2 := stepc hb6 zs d2; have e3 := stepc hb6 zs d3; have e4 := stepc hb6 zb y1; have hO6 := hOa.out.step hb6; obtain ⟨kv, hkv, -⟩ := hO6; have hfr := hkv.frozenAt i; obtain ⟨u, hu⟩ := own_some hkv hlt2; have hW5 := Lib.hid hW5; have hb5' := Lib.hid hb5; have hb6 := Lib.hid hb6; clear hkv))
      all_goals go_wp2_with fail
      all_goals go_roundw
      all_goals try (case measure => simp [intOf]; omega)
      all_goals
        have hW6 := hW5.out
        have hlm := hlm.out
        subst hlm
        exact ⟨i + 1, by omega, by go_num, Lib.hid (hOa.out.next hlt2 hb6.out hW6 hoi.out), Lib.hid ((nextw hdr.out hb5'.out).setCell (Nat.le_refl _) _)⟩
    · obtain rfl : i = no := by omega
      go_wp2_with fail
      go_ret2
      have hno := hNO.out
      rw [hno]
      exact ⟨ws, p9, w9.heap.size, hc5.out, rfl, ORow.base hO.out hw9, hS9.out.below hB.out, hK9.out.trans (Kept.of_below hB.out) (fun _ h => .inl h)⟩
end Go.Proofs.YtlkainmkhofpaaaGreat
end
