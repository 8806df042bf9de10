/-
  Simulations: what the graph's inputs have: the walk.
  Where a simulation lies; New, Regs, Cycles, Reset, Copy.
  Simulations: Words; a cycle.
-/
import Derived.Test.YtafoohdndlhbnaaGreatFSSN
section
namespace Go.Proofs.YtafoohdndlhbnaaGreat
open Go.RowKit Go.Maps Bits Num
set_option maxRecDepth 100000

theorem kept_set (w : World) (G o : Nat) (v : Value) : Kept (fun k => k = G) w ((w.setCell ⟨G, o, none⟩ v).drew) :=
  ⟨rfl, rfl, rfl, by simp [World.setCell], fun k _ hn => Below.heap_setCell _ _ _ _ hn⟩
theorem kept_set' (w : World) (G o : Nat) (v : Value) : Kept (fun k => k = G) w (w.setCell ⟨G, o, none⟩ v) :=
  ⟨rfl, rfl, rfl, by simp [World.setCell], fun k _ hn => Below.heap_setCell _ _ _ _ hn⟩
set_option maxHeartbeats 4000000 in
theorem inputs_any {w : World} {q : NPl} {N : Nt} (h : NetIs w q N) (hg : Good N []) (hS : Small N) {ha : Option Addr} {hc : Nat} {la : Option Addr} {ln lc : Nat} {cy : Int} {hs : List Int} (hH : WR w ha N.regs.length hc hs) {a : Option Addr} {n c : Nat} {X : List Int} (hI : InRows w a n N.ins X) :
    Calls Tryz.prog 48 #[.agg #[.pointer (some ⟨q.b, 0, none⟩), .slice ha N.regs.length hc, .slice la ln lc, .int .i64 cy], .slice a n c] w fun e w' => ∃ g : Nat, e = .returned (.slice (some ⟨g, 0, none⟩) N.g.inputs.length N.g.inputs.length) ∧ WR w' (some ⟨g, 0, none⟩) N.g.inputs.length N.g.inputs.length (insW N (X ++ hs)) ∧ Below w.heap.size w w' := by
  obtain ⟨ia, ic, ra, rc, oa, oc, ev, ev2, -, c0, -, c2, c3, -, -⟩ := h.cells
  have hlt := h.lt
  have hsg := hS.g
  have hsi := hS.ins
  have hsr := hS.regs
  have hb : Below w.heap.size w (w.alloc (.cells #[.pointer (some ⟨q.b, 0, none⟩), .slice ha N.regs.length hc, .slice la ln lc, .int .i64 cy] 93)) := (Below.refl _ _).alloc (Nat.le_refl _) _
  have k0 : (w.alloc (.cells #[.pointer (some ⟨q.b, 0, none⟩), .slice ha N.regs.length hc, .slice la ln lc, .int .i64 cy] 93)).cell? ⟨w.heap.size, 0, none⟩ = some (.pointer (some ⟨q.b, 0, none⟩)) := by simp [go_sem]
  have k1 : (w.alloc (.cells #[.pointer (some ⟨q.b, 0, none⟩), .slice ha N.regs.length hc, .slice la ln lc, .int .i64 cy] 93)).cell? ⟨w.heap.size, 1, none⟩ = some (.slice ha N.regs.length hc) := by simp [go_sem]
  generalize hw1 : w.alloc (.cells #[.pointer (some ⟨q.b, 0, none⟩), .slice ha N.regs.length hc, .slice la ln lc, .int .i64 cy] 93) = w1 at *
  have hno := Lib.hid (nodes_any (h.below hb).g.lay hg.wf.pos)
  have z0 : w.heap.size < w1.heap.size := World.block_lt_of_cell? w1 _ k0
  obtain ⟨i0, hi, hz0, hz1, hz2⟩ := info_parts info_u64
  have d0 := stepc hb hlt c0
  have d2 := stepc hb hlt c2
  have HB := Lib.hid (fun w2 (hb2 : Below w.heap.size w w2) => (show BusRow w2 (.slice ia N.ins.length ic) N.ins by have := h.ins.below hb2; rw [ev] at this; exact this))
  have HRg := Lib.hid (fun w2 (hb2 : Below w.heap.size w w2) => (show RegRow w2 (.slice ra N.regs.length rc) N.regs by have := own_below h.regs hb2; rw [ev2] at this; exact this))
  have hIn := Lib.hid (fun w2 (hb2 : Below w.heap.size w w2) => InputsOf_any (h.below hb2).g hg.wf (by omega))
  have hlitb := Lib.hid (fun i (hi : i < N.ins.length) k (hk : k < N.ins[i].lits.length) => taken_lit N hi hk)
  have hb := Lib.hid hb
  clear h
  go_enter Tryz.func48, Tryz.ntmps48
  go_upto_region 2 with (first
    | (go_at_call 24; (with_reducible refine hno.out.mono ?_); rintro e w2 ⟨rfl, rfl⟩)
    | (at_make; refine wpList_make_full _ rfl _ _ 44 rfl w1.heap.size 62 i0 (.int .u64 0) 1 Tryz.underlying44 hi hz0 hz1 .i64 .i64 N.g.nodes.length N.g.nodes.length N.g.nodes.length rfl rfl rfl rfl (by rw [hz2]; omega) (by unfold maxLen; omega) (Nat.le_refl _) ?_; intro w2 hown hgw))
  have hn0 : (madeCells (Value.int IntKind.u64 0).cells (N.g.nodes.length * 1)).toList = (laid N.g.nodes.length (takenN N) (X ++ hs) 0).map (Value.int .u64) := made_zero .u64 _
  rw [hn0] at hown
  have hb2 : Below w1.heap.size w1 w2 := (Below.refl _ _).grown hgw (Nat.le_refl _) (fun _ h => by cases h)
  have hG2 : w1.heap.size < w2.heap.size := own_lt hown
  have hbb : Below w1.heap.size w1 (w2.alloc (.cells #[.slice (some ⟨w1.heap.size, 0, none⟩) N.g.nodes.length N.g.nodes.length] 44)) := hb2.alloc hb2.size _
  have hownA := hown.alloc (.cells #[.slice (some ⟨w1.heap.size, 0, none⟩) N.g.nodes.length N.g.nodes.length] 44)
  have p0 : (w2.alloc (.cells #[.slice (some ⟨w1.heap.size, 0, none⟩) N.g.nodes.length N.g.nodes.length] 44)).cell? ⟨w2.heap.size, 0, none⟩ = some (.slice (some ⟨w1.heap.size, 0, none⟩) N.g.nodes.length N.g.nodes.length) := by simp [go_sem]
  have m0 := stepc hbb z0 k0
  have m1 := stepc hbb z0 k1
  clear k0 k1 hown
  generalize hwb : w2.alloc (.cells #[.slice (some ⟨w1.heap.size, 0, none⟩) N.g.nodes.length N.g.nodes.length] 44) = wb at *
  have hKb := Lib.hid (nextw hb.out hbb)
  have hPG : ¬ (w2.heap.size = w1.heap.size) := by omega
  have hwG : ¬ (w.heap.size = w1.heap.size) := by omega
  have hwle : w.heap.size ≤ w1.heap.size := by omega
  have D0 := stepc hKb.out hlt c0
  have D2 := stepc hKb.out hlt c2
  clear d2
  have D3 := stepc hKb.out hlt c3
  have hown := Lib.hid hownA
  have hqG : ¬ (q.b = w1.heap.size) := by omega
  have hbz : w.heap.size ≤ wb.heap.size := hKb.out.size
  have hk0 := Lib.hid (Kept.refl (fun k => k = w1.heap.size) wb)
  have hbel := Lib.hid (fun (wr : World) (g : Nat) (hg : w.heap.size ≤ g) (hk : Kept (fun k => k = g) wb wr) => hKb.out.trans (hk.below (N := w.heap.size) (fun k e => by subst e; exact hg) hbz))
  clear hw1 hwb hb2 hbb hn0 hG2 hgw z0 hno hb hownA d0
  generalize hPP : w2.heap.size = P at *
  generalize hGG : w1.heap.size = G at *
  clear hPP hGG
  have HI := Lib.hid hI
  have HH := Lib.hid hH
  have HG := Lib.hid hg
  have hnn := hI.len
  have hX := Lib.hid hI.len2
  obtain ⟨nn, hnn2⟩ : ∃ m, N.g.nodes.length = m := ⟨_, rfl⟩
  obtain ⟨nb, hnb⟩ : ∃ m, N.ins.length = m := ⟨_, rfl⟩
  obtain ⟨nr, hnr⟩ : ∃ m, N.regs.length = m := ⟨_, rfl⟩
  rw [hnn2] at p0 hown hsg
  rw [hnb] at D2 HB hsi hnn
  rw [hnr] at D3 HRg hsr m1 HH
  subst n
  have hNN := Lib.hid hnn2
  have hNB := Lib.hid hnb
  have hNR := Lib.hid hnr
  have hlaid := Lib.hid (fun k => show laid nn (takenN N) (X ++ hs) (k + 1) = (laid nn (takenN N) (X ++ hs) k).set ((takenN N).getD k 0 / 2).toNat ((X ++ hs).getD k 0) from rfl)
  have hlw := Lib.hid (fun k => laid_words nn (takenN N) (words_append hI.words hH.words) k)
  clear hI hH hg hnn2 hnb hnr c0 c2 c3 ev ev2
  go_wp2_with fail
  go_loopw [25] (fun s wr => ∃ i : Nat, i ≤ nb ∧ s = .int .i64 i ∧ Hid (wr.ownsRow G 62 1 (.slice (some ⟨G, 0, none⟩) nn nn) nn ((laid nn (takenN N) (X ++ hs) (offB N.ins i)).map (Value.int .u64))) ∧ Hid (Kept (fun k => k = G) wb wr)) (fun s _ => nb - (intOf s).toNat)
  case atStart => exact ⟨0, Nat.zero_le _, rfl, by rw [offB_zero]; exact hown, hk0⟩
  case round =>
    clear hown hk0
    obtain ⟨i, hi2, rfl, hown, hK⟩ := hrel
    have hB := Lib.hid (hbel.out wr G hwle hK.out)
    by_cases hlt2 : i < nb
    · have hiL : i < N.ins.length := by rw [hNB.out]; exact hlt2
      obtain ⟨g2, la2, lc2, rfl, hg2, b0, b1, hl2⟩ := (HB.out _ (Below.refl _ _)).at hiL
      obtain ⟨b3, off3, rfl, hb3, xa, xc, e0, hr2⟩ := HI.out.at hiL
      have hll := Lib.hid (fun k (hk : k < N.ins[i].lits.length) => taken_lit N hiL hk)
      have hpi := Lib.hid (fun k (hk : k < N.ins[i].lits.length) => piece_at (X := X) hiL hk)
      have hle2 := Lib.hid (fun k (hk : k < N.ins[i].lits.length) => offB_le N.ins hiL hk)
      have hsu := Lib.hid (offB_succ N.ins hiL)
      have hL2 := Lib.hid hl2.row
      have hR2 := Lib.hid hr2
      have b0 := stepc hB.out hg2 b0
      have b1 := stepc hB.out hg2 b1
      clear hl2 hr2
      obtain ⟨m, hm⟩ : ∃ m, N.ins[i].lits.length = m := ⟨_, rfl⟩
      obtain ⟨ls, hls⟩ : ∃ ls, N.ins[i].lits = ls := ⟨_, rfl⟩
      rw [hm] at b1 e0 hL2 hR2 hll hpi hle2 hsu
      rw [hls] at hL2 hll
      generalize N.ins[i].name = nm at *
      clear hm hls
      have hmle := hL2.out.le
      have hbox : Hid (Kept (fun k => k = G) wb (wr.alloc (.cells #[.string nm, .slice la2 m lc2] 81))) := Lib.hid (hK.out.trans (Kept.of_below (F := fun k => k = G) ((Below.refl wr.heap.size wr).alloc (Nat.le_refl _) _)) (fun _ h => .inl h))
      have hown2 := Lib.hid (hown.out.alloc (.cells #[.string nm, .slice la2 m lc2] 81))
      go_wp2_with fail
      go_loopw [33] (fun s wr => ∃ k : Nat, k ≤ m ∧ s = .int .i64 k ∧ Hid (wr.ownsRow G 62 1 (.slice (some ⟨G, 0, none⟩) nn nn) nn ((laid nn (takenN N) (X ++ hs) (offB N.ins i + k)).map (Value.int .u64))) ∧ Hid (Kept (fun k => k = G) wb wr)) (fun s _ => m - (intOf s).toNat)
      case atStart => exact ⟨0, Nat.zero_le _, rfl, hown2, hbox⟩
      case round =>
        clear hown2 hbox hown hK hB
        obtain ⟨k, hk, rfl, hown, hK⟩ := hrel
        have hB := Lib.hid (hbel.out wr G hwle hK.out)
        by_cases hlt3 : k < m
        · obtain ⟨b4, off4, rfl, hb4, hc4⟩ := hL2.out.at (by omega)
          obtain ⟨b5, off5, rfl, hb5, hc5⟩ := hR2.out.at (by omega)
          have t4 := stepc hB.out hb4 (hc4 k hlt3)
          have t5 := stepc hB.out hb5 (hc5 k hlt3)
          have e1 := stepc hB.out hb3 e0
          have q0 := keptc hK.out hPG p0
          have hk2 := hle2.out k hlt3
          obtain ⟨nd, jj, hnd, hnd0, hnd1, -⟩ := taken_at HG.out (k := offB N.ins i + k) (by rw [taken_len]; omega)
          rw [hNN.out] at hnd1
          rw [← hll.out k hlt3, hnd] at t4
          rw [hpi.out k hlt3, ← app_left (H := hs) (by rw [hX.out]; exact hk2)] at t5
          have hsuc := hlaid.out (offB N.ins i + k)
          rw [hnd, show (2 * (nd : Int) / 2).toNat = nd by omega] at hsuc
          have hsuc := Lib.hid hsuc
          have hno := Lib.hid (fun w => node_any (2 * (nd : Int)) (by unfold IsLit; omega) w)
          rw [show 2 * (nd : Int) / 2 = nd by omega] at hno
          have hfr := hown.out.frozenAt nd
          obtain ⟨u, hu⟩ := own_some hown.out hnd1
          have hst := Lib.hid (hown.out.stored nd (.int .u64 ((X ++ hs).getD (offB N.ins i + k) 0))).1
          have hwz := World.block_lt_of_cell? wr _ hu
          generalize (X ++ hs).getD (offB N.ins i + k) 0 = x at *
          clear hc4 hc5 hnd
          go_wp2_with fail
          go_region_law (first | (go_simp; go_at_call 59; (with_reducible refine (hno.out _).mono ?_); rintro e w4 ⟨rfl, rfl⟩))
          all_goals go_wp2_with fail
          all_goals go_roundw
          all_goals try (case measure => simp [intOf]; omega)
          all_goals
            refine ⟨k + 1, by omega, by go_num, Lib.hid ?_, Lib.hid (hK.out.trans (kept_set _ _ _ _) (fun _ h => .inl h))⟩
            have e := hst.out.drew
            rw [← List.map_set, ← hsuc.out] at e
            exact e
        · obtain rfl : k = m := by omega
          have hown := hown.out
          rw [← hsu.out] at hown
          have hown := Lib.hid hown
          go_wp2_with fail
          exact ⟨⟨i + 1, by omega, by go_num, hown, hK⟩, by simp [intOf]; omega⟩
    · obtain rfl : i = nb := by omega
      have v0 := keptc hK.out hwG m0
      have v1 := keptc hK.out hwG m1
      have v2 := keptc hK.out hqG D0
      have v3 := keptc hK.out hqG D3
      go_wp2_with fail
      have hown := hown.out
      rw [← hNB.out, offB_all] at hown
      have hown := Lib.hid hown
      go_loopw [57] (fun s wr => ∃ i : Nat, i ≤ nr ∧ s = .int .i64 i ∧ Hid (wr.ownsRow G 62 1 (.slice (some ⟨G, 0, none⟩) nn nn) nn ((laid nn (takenN N) (X ++ hs) ((litsOf N.ins).length + i)).map (Value.int .u64))) ∧ Hid (Kept (fun k => k = G) wb wr)) (fun s _ => nr - (intOf s).toNat)
      case atStart => exact ⟨0, Nat.zero_le _, rfl, hown, hK⟩
      case round =>
        clear hown hK hB v0 v1 v2 v3
        obtain ⟨i, hi2, rfl, hown, hK⟩ := hrel
        have hB := Lib.hid (hbel.out wr G hwle hK.out)
        by_cases hlt4 : i < nr
        · have hiR : i < N.regs.length := by rw [hNR.out]; exact hlt4
          obtain ⟨g6, rfl, hg6, b0, b1, b2, b3⟩ := RegRow.at (HRg.out _ (Below.refl _ _)) hiR
          obtain ⟨g7, off7, rfl, hg7, c7⟩ := HH.out.row.at (by omega)
          have b0 := stepc hB.out hg6 b0
          have b1 := stepc hB.out hg6 b1
          have b2 := stepc hB.out hg6 b2
          have b3 := stepc hB.out hg6 b3
          have e7 := stepc hB.out hg7 (c7 i hlt4)
          have q0 := keptc hK.out hPG p0
          have v1 := keptc hK.out hwG m1
          obtain ⟨nd, jj, hnd, hnd0, hnd1, -⟩ := taken_at HG.out (k := (litsOf N.ins).length + i) (by rw [taken_len]; omega)
          rw [hNN.out] at hnd1
          rw [← taken_reg N hiR, hnd] at b0
          rw [← app_right (X := X) (H := hs) hX.out] at e7
          have hsuc := hlaid.out ((litsOf N.ins).length + i)
          rw [hnd, show (2 * (nd : Int) / 2).toNat = nd by omega] at hsuc
          have hsuc := Lib.hid hsuc
          have hno := Lib.hid (fun w => node_any (2 * (nd : Int)) (by unfold IsLit; omega) w)
          rw [show 2 * (nd : Int) / 2 = nd by omega] at hno
          generalize N.regs[i].d = rd at *
          generalize N.regs[i].en = re at *
          generalize N.regs[i].init = ri at *
          generalize hxx : (X ++ hs).getD ((litsOf N.ins).length + i) 0 = x at *
          clear c7 hnd hxx
          have hba : Below wr.heap.size wr (wr.alloc (.cells #[.int .u32 (2 * (nd : Int)), .int .u32 rd, .int .u32 re, .bool ri] 71)) := (Below.refl _ _).alloc (Nat.le_refl _) _
          have hKa := Lib.hid (hK.out.trans (Kept.of_below (F := fun k => k = G) hba) (fun _ h => .inl h))
          have hoa := Lib.hid (hown.out.alloc (.cells #[.int .u32 (2 * (nd : Int)), .int .u32 rd, .int .u32 re, .bool ri] 71))
          have y0 : (wr.alloc (.cells #[.int .u32 (2 * (nd : Int)), .int .u32 rd, .int .u32 re, .bool ri] 71)).cell? ⟨wr.heap.size, 0, none⟩ = some (.int .u32 (2 * (nd : Int))) := by simp [go_sem]
          have q1 := stepc hba (World.block_lt_of_cell? wr _ q0) q0
          have v2 := stepc hba (World.block_lt_of_cell? wr _ v1) v1
          have e8 := stepc hba (World.block_lt_of_cell? wr _ e7) e7
          go_upto_region 14 with fail
          generalize hwa : wr.alloc (.cells #[.int .u32 (2 * (nd : Int)), .int .u32 rd, .int .u32 re, .bool ri] 71) = wa at *
          generalize wr.heap.size = Bx at *
          have hfr := hoa.out.frozenAt nd
          obtain ⟨u, hu⟩ := own_some hoa.out hnd1
          have hst := Lib.hid (hoa.out.stored nd (.int .u64 x)).1
          clear hwa q0 v1 e7 b0 b1 b2 b3 hba
          go_region_law (first | (go_simp; go_at_call 59; (with_reducible refine (hno.out _).mono ?_); rintro e w4 ⟨rfl, rfl⟩))
          all_goals go_wp2_with fail
          all_goals go_roundw
          all_goals try (case measure => simp [intOf]; omega)
          all_goals
            refine ⟨i + 1, by omega, by go_num, Lib.hid ?_, Lib.hid (hKa.out.trans (kept_set _ _ _ _) (fun _ h => .inl h))⟩
            have e := hst.out.drew
            rw [← List.map_set, ← hsuc.out] at e
            exact e
        · obtain rfl : i = nr := by omega
          have v0 := keptc hK.out hwG m0
          have v2 := keptc hK.out hqG D0
          have q0 := keptc hK.out hPG p0
          have hown := hown.out
          rw [← hNR.out, ← taken_len] at hown
          have hown := Lib.hid hown
          have hin := Lib.hid (hIn.out _ hB.out)
          have hrow : Hid (Row .u64 wr (some ⟨G, 0, none⟩) nn (laid nn (takenN N) (X ++ hs) (takenN N).length)) := Lib.hid (Row.of_own hown.out (laid_len _ _ _ _) (by omega))
          have hnI := Lib.hid (fun j (hj : j < N.g.inputs.length) => (show ∃ i : Nat, N.g.inputs.getD j 0 = i ∧ i < nn from by
            obtain ⟨i, e, h0, n, hn, -⟩ := HG.out.wf.ins j (N.g.inputs.getD j 0) (by simp [List.getD, hj])
            exact ⟨i, e, by rw [← hNN.out]; exact (List.getElem?_eq_some_iff.1 hn).1⟩))
          have hil : N.g.inputs.length ≤ 400000 := by have := HG.out.wf.cnt; have := hNN.out; omega
          have hea := Lib.hid (fun w2 (hb2 : Below wr.heap.size wr w2) (a2 : Option Addr) (c2 : Nat) (ho : w2.ownsRow wr.heap.size 3 1 (.slice a2 N.g.inputs.length c2) N.g.inputs.length (N.g.inputs.map (Value.int .i64))) => each_node (w := w2) (a := a2) (c := c2) (Row.of_own ho (by simp) (by omega)) hil hnI.out (p := P) (wa := some ⟨G, 0, none⟩) (wn := nn) (wc := nn) (Nat.lt_of_lt_of_le (World.block_lt_of_cell? wr _ q0) hb2.size) (stepc hb2 (World.block_lt_of_cell? wr _ q0) q0) (hrow.out.step hb2))
          have hiw : row N.g.inputs.length (fun j => (laid nn (takenN N) (X ++ hs) (takenN N).length).getD (N.g.inputs.getD j 0).toNat 0) = insW N (X ++ hs) := by
            unfold insW
            rw [hNN.out]
            exact row_map N.g.inputs 0 (fun nd => (laid nn (takenN N) (X ++ hs) (takenN N).length).getD nd.toNat 0)
          rw [hiw] at hea
          have hlen : Hid ((insW N (X ++ hs)).length = N.g.inputs.length) := Lib.hid (by simp [insW])
          have hwd : Hid (Words (insW N (X ++ hs))) := Lib.hid (insW_words (words_append HI.out.words HH.out.words))
          clear hnI hrow hiw hown
          generalize hII0 : insW N (X ++ hs) = I at hea hlen hwd
          generalize hni0 : N.g.inputs.length = ni at hea hlen hin hil
          have hII := Lib.hid hII0
          have hni := Lib.hid hni0
          clear hII0 hni0
          go_wp2_with (first
            | (go_at_call 95; (with_reducible refine hin.out.mono ?_); rintro e w5 ⟨a5, c5, rfl, ho5, hb5⟩; have hea2 := Lib.hid (hea.out _ hb5 _ _ ho5); have hB5 := Lib.hid (nextw hB.out hb5); have hsz5 := hb5.size; clear ho5 hb5)
            | (go_at_call 94; (with_reducible refine hea2.out.mono ?_); rintro e w6 ⟨rfl, ho6, hb6⟩; have ho6 := Lib.hid ho6; have hb6 := Lib.hid hb6))
          go_ret
          obtain rfl := hII.out
          obtain rfl := hni.out
          exact ⟨_, rfl, ⟨hlen.out, own_base ho6.out (Nat.zero_le _), hwd.out⟩, nextw hB5.out hb6.out⟩
end Go.Proofs.YtafoohdndlhbnaaGreat
end

section
namespace Go.Proofs.YtafoohdndlhbnaaGreat
open Go.RowKit Go.Maps Bits Num
set_option maxRecDepth 100000

structure SPl where
  ha : Option Addr
  hc : Nat
  la : Option Addr
  ln : Nat
  lc : Nat
structure St where
  has : List Int
  last : List Int
  cy : Nat
def simBox (q : NPl) (p : SPl) (nr cy : Nat) : Obj := .cells #[.pointer (some ⟨q.b, 0, none⟩), .slice p.ha nr p.hc, .slice p.la p.ln p.lc, .int .i64 cy] 96 (0, 0)
structure SimIs (w : World) (S : Nat) (q : NPl) (p : SPl) (N : Nt) (s : St) : Prop where
  box : w.heap[S]? = some (simBox q p N.regs.length s.cy)
  net : NetIs w q N
  good : Good N []
  small : Small N
  has : WR w p.ha N.regs.length p.hc s.has
  last : WR w p.la p.ln p.lc s.last
  cyle : s.cy ≤ 1000000
/-- F holds no row of words. -/
def NoWd (w : World) (F : Nat → Prop) : Prop := ∀ k cur fz, F k → w.heap[k]? ≠ some (.cells cur 62 fz)
theorem SimIs.lt {w : World} {S : Nat} {q : NPl} {p : SPl} {N : Nt} {s : St} (h : SimIs w S q p N s) : S < w.heap.size := (Array.getElem?_eq_some_iff.1 h.box).1
theorem SimIs.below {w w' : World} {S : Nat} {q : NPl} {p : SPl} {N : Nt} {s : St} (h : SimIs w S q p N s) (hb : Below w.heap.size w w') : SimIs w' S q p N s :=
  ⟨(hb.block _ h.lt).trans h.box, h.net.below hb, h.good, h.small, h.has.below hb, h.last.below hb, h.cyle⟩
theorem SimIs.keptF {F : Nat → Prop} {w w' : World} {S : Nat} {q : NPl} {p : SPl} {N : Nt} {s : St} (h : SimIs w S q p N s) (hk : Kept F w w') (h1 : ¬ F S) (h2 : ∀ k, F k → ¬ q.has k) (h3 : NoLits w F) (h4 : NoWd w F) : SimIs w' S q p N s :=
  ⟨(hk.block _ h.lt h1).trans h.box, h.net.beside hk h2 h3, h.good, h.small, h.has.keptF hk h4, h.last.keptF hk h4, h.cyle⟩
theorem SimIs.cells {w : World} {S : Nat} {q : NPl} {p : SPl} {N : Nt} {s : St} (h : SimIs w S q p N s) :
    w.cell? ⟨S, 0, none⟩ = some (.pointer (some ⟨q.b, 0, none⟩)) ∧ w.cell? ⟨S, 1, none⟩ = some (.slice p.ha N.regs.length p.hc) ∧ w.cell? ⟨S, 2, none⟩ = some (.slice p.la p.ln p.lc) ∧ w.cell? ⟨S, 3, none⟩ = some (.int .i64 s.cy) ∧ ∀ o, w.frozen? ⟨S, o, none⟩ = false := by
  have hb := h.box
  refine ⟨?_, ?_, ?_, ?_, fun o => ?_⟩ <;> simp [World.cell?, World.frozen?, hb, simBox]
/-- A simulation's own block is none of a netlist's, of literals, of words. -/
theorem SimIs.self {w : World} {S : Nat} {q : NPl} {p : SPl} {N : Nt} {s : St} (h : SimIs w S q p N s) : NoLits w (fun k => k = S) ∧ NoWd w (fun k => k = S) ∧ (∀ {q2 : NPl} {N2 : Nt}, NetIs w q2 N2 → ¬ q2.has S) ∧ NoDoc w (fun k => k = S) := by
  have hb := h.box
  refine ⟨?_, ?_, fun h2 => h2.other hb (by decide) (by decide) (by decide) (by decide) (by decide) (by decide), ?_⟩
  · rintro k cur fz rfl hh; rw [hb] at hh; simp [simBox] at hh
  · rintro k cur fz rfl hh; rw [hb] at hh; simp [simBox] at hh
  · rintro k cur T fz rfl hh
    rw [hb] at hh; simp [simBox] at hh
    obtain ⟨-, rfl, -⟩ := hh
    exact ⟨fun hT => by rcases hT with hT | hT | hT | hT | hT <;> revert hT <;> decide, by decide⟩
/-- Another simulation goes on beside. -/
theorem SimIs.aside {w w' : World} {S S2 : Nat} {q q2 : NPl} {p p2 : SPl} {N N2 : Nt} {s s2 : St} (h : SimIs w S q p N s) (h2 : SimIs w S2 q2 p2 N2 s2) (hne : S ≠ S2) (hk : Kept (fun k => k = S2) w w') : SimIs w' S q p N s :=
  h.keptF hk hne (fun k e => by subst e; exact h2.self.2.2.1 h.net) h2.self.1 h2.self.2.1
theorem NetIs.sim {w w' : World} {S2 : Nat} {q q2 : NPl} {p2 : SPl} {N N2 : Nt} {s2 : St} (h : NetIs w q N) (h2 : SimIs w S2 q2 p2 N2 s2) (hk : Kept (fun k => k = S2) w w') : NetIs w' q N :=
  h.beside hk (fun k e => by subst e; exact h2.self.2.2.1 h) h2.self.1
/-- The simulation's own box is another now. -/
theorem sim_next {w w' : World} {S : Nat} {q : NPl} {p p' : SPl} {N : Nt} {s s' : St} (h : SimIs w S q p N s) (hk : Kept (fun k => k = S) w w') (hbox : w'.heap[S]? = some (simBox q p' N.regs.length s'.cy)) (h1 : WR w' p'.ha N.regs.length p'.hc s'.has) (h2 : WR w' p'.la p'.ln p'.lc s'.last) (hc : s'.cy ≤ 1000000) : SimIs w' S q p' N s' :=
  ⟨hbox, h.net.beside hk (fun k e => by subst e; exact h.self.2.2.1 h.net) h.self.1, h.good, h.small, h1, h2, hc⟩

theorem sstands_any {w : World} {S : Nat} {q : NPl} {p : SPl} {N : Nt} {s : St} (h : SimIs w S q p N s) :
    Calls Tryz.prog 45 #[.pointer (some ⟨S, 0, none⟩)] w fun e w' => e = .returned (.bool true) ∧ w = w' := by
  obtain ⟨c0, -, -, -, -⟩ := h.cells
  clear h
  go_enter Tryz.func45, Tryz.ntmps45
  go_wp2
  go_ret
  exact ⟨rfl, rfl⟩
theorem Cycles_any {w : World} {S : Nat} {q : NPl} {p : SPl} {N : Nt} {s : St} (h : SimIs w S q p N s) :
    Calls Tryz.prog 19 #[.pointer (some ⟨S, 0, none⟩)] w fun e w' => e = .returned (.int .i64 s.cy) ∧ w = w' := by
  have hst := Lib.hid (sstands_any h)
  obtain ⟨-, -, -, c3, -⟩ := h.cells
  clear h
  go_enter Tryz.func19, Tryz.ntmps19
  go_wp2_with (go_at_call 45; (with_reducible refine hst.out.mono ?_); rintro e w2 ⟨rfl, rfl⟩)
  go_ret
  exact ⟨rfl, rfl⟩
theorem clone_words {w : World} {a : Option Addr} {m c : Nat} {l : List Int} (hW : WR w a m c l) (hm : m ≤ 200000) :
    Calls Tryz.prog 53 #[.slice a m c] w fun e w' => ∃ (a2 : Option Addr) (c2 : Nat), e = .returned (.slice a2 m c2) ∧ w'.ownsRow w.heap.size 62 1 (.slice a2 m c2) m (l.map (Value.int .u64)) ∧ Below w.heap.size w w' := by
  have h := hW.own
  obtain ⟨i0, hi, hz0, hz1, hz2⟩ := info_parts info_u64
  have hlen : (l.map (Value.int .u64)).length = m := by simp [hW.len]
  have hone : ∀ u ∈ l.map (Value.int .u64), u.oneCell' = true := by
    intro u hu
    obtain ⟨z, -, rfl⟩ := List.mem_map.1 hu
    rfl
  clear hW
  generalize l.map (Value.int .u64) = xs at *
  rcases h.2 with ⟨h0, h1⟩ | ⟨g, cap', cur, hv, -, -⟩
  · simp at h0
    obtain ⟨rfl, rfl, rfl⟩ := h0
    obtain rfl : xs = [] := List.length_eq_zero_iff.1 hlen
    clear h hlen hone h1
    have heq : ∀ W, (binOp .eql 44 (.slice none 0 0) (.slice none 0 0)).run Tryz.prog W = .ok (.bool true) W := fun W => Lib.run_eql_slice_nil W _ _ _ _ _ _ _ Tryz.underlying44
    go_enter Tryz.func53, Tryz.ntmps53
    go_wp2
    go_ret
    exact ⟨none, 0, rfl, ⟨rfl, .inl ⟨rfl, rfl⟩⟩, Below.refl _ _⟩
  · simp at hv
    obtain ⟨rfl, rfl⟩ := hv
    have hlt := own_lt h
    have hcells := h.cells (g := g) rfl
    have HO := Lib.hid (fun j u (h : xs[j]? = some u) => hcells j u h)
    have HL := Lib.hid hlen
    have H1 := Lib.hid hone
    have hemp : Hid ((w.alloc (.cells #[] 62)).ownsRow w.heap.size 62 1 (.slice (some ⟨w.heap.size, 0, none⟩) 0 0) 0 []) := Lib.hid ⟨rfl, .inr ⟨w.heap.size, 0, #[], rfl, Nat.le_refl _, Deep.blk_alloc_new _ _, Nat.le_refl _, by decide, rfl, rfl⟩⟩
    have hb0 : Hid (Below w.heap.size w (w.alloc (.cells #[] 62))) := Lib.hid ((Below.refl _ _).alloc (Nat.le_refl _) _)
    have hadd : ∀ j, (⟨g, 0, none⟩ : Addr).add j = ⟨g, j, none⟩ := fun j => by simp [Addr.add]; omega
    have HN := Lib.hid (fun j u (h : xs[j]? = some u) => (hb0.out.cell (p := (⟨g, 0, none⟩ : Addr).add j) (by rw [hadd]; exact hlt)).trans (HO.out j u h))
    clear h hcells hlen hone hadd
    have heq : ∀ W, (binOp .eql 44 (.slice (some ⟨g, 0, none⟩) m c) (.slice none 0 0)).run Tryz.prog W = .ok (.bool false) W := fun W => Lib.run_eql_slice_nil W _ _ _ _ _ _ _ Tryz.underlying44
    go_enter Tryz.func53, Tryz.ntmps53
    go_wp2_with (at_builtin; refine wpList_append_own_at _ rfl _ _ 44 rfl w.heap.size 62 i0 (.int .u64 0) 1 8 Tryz.underlying44 hi hz0 hz1 hz2 rfl (by decide) (.slice (some ⟨w.heap.size, 0, none⟩) 0 0) 0 [] rfl hemp.out ⟨g, 0, none⟩ m c xs rfl (by rw [HL.out]; omega) HN.out H1.out (by unfold maxLen; omega) (by omega) (by simp) ?_; intro v' w3 hown' hgrow hnil hloc)
    obtain ⟨a3, c3, rfl⟩ := own_slice hown'
    go_wp2
    go_ret
    rw [List.nil_append, Nat.zero_add] at hown'
    refine ⟨a3, c3, by simp, hown', ?_⟩
    exact hb0.out.grown hgrow (by simp) (fun k hk => by simp [Value.ownBlock] at hk; omega)
theorem Regs_any {w : World} {S : Nat} {q : NPl} {p : SPl} {N : Nt} {s : St} (h : SimIs w S q p N s) :
    Calls Tryz.prog 18 #[.pointer (some ⟨S, 0, none⟩)] w fun e w' => ∃ (a2 : Option Addr) (c2 : Nat), e = .returned (.slice a2 N.regs.length c2) ∧ w'.ownsRow w.heap.size 62 1 (.slice a2 N.regs.length c2) N.regs.length (s.has.map (Value.int .u64)) ∧ Below w.heap.size w w' := by
  have hst := Lib.hid (sstands_any h)
  have hcl := Lib.hid (clone_words h.has (by have := h.small.regs; omega))
  obtain ⟨-, c1, -, -, -⟩ := h.cells
  clear h
  go_enter Tryz.func18, Tryz.ntmps18
  go_wp2_with (first
    | (go_at_call 45; (with_reducible refine hst.out.mono ?_); rintro e w2 ⟨rfl, rfl⟩)
    | (go_at_call 53; (with_reducible refine hcl.out.mono ?_); rintro e w3 ⟨a2, c2, rfl, ho, hb3⟩; have ho := Lib.hid ho))
  go_ret
  exact ⟨a2, c2, rfl, ho.out, hb3⟩
theorem SNew_any {w : World} {q : NPl} {N : Nt} (h : NetIs w q N) (hg : Good N []) (hS : Small N) :
    Calls Tryz.prog 6 #[.pointer (some ⟨q.b, 0, none⟩)] w fun e w' => ∃ (S : Nat) (q2 : NPl) (p : SPl), e = .returned (.tuple #[.pointer (some ⟨S, 0, none⟩), .int .i64 0]) ∧ SimIs w' S q2 p N ⟨iniR N.regs, [], 0⟩ ∧ w.heap.size ≤ S ∧ (∀ k, q2.has k → w.heap.size ≤ k) ∧ Below w.heap.size w w' := by
  have hsg := hS.g
  have hsi := hS.ins
  have hsr := hS.regs
  have hso := hS.outs
  have hck := Lib.hid (Check_any h hg (by omega) (by omega) (by omega) (by omega))
  rw [show ckV [] = 0 from rfl] at hck
  have hcp := Lib.hid (fun w2 (hb : Below w.heap.size w w2) => NCopy_any (h.below hb) hg (by omega) (by omega) (by omega) (by omega))
  have hbg := Lib.hid (fun w2 (q2 : NPl) (h2 : NetIs w2 q2 N) => begun_any h2 hS)
  have hG := Lib.hid hg
  have hSS := Lib.hid hS
  clear h hg hS
  go_enter Tryz.func6, Tryz.ntmps6
  go_wp2_with (first
    | (go_at_call 32; (with_reducible refine hck.out.mono ?_); rintro e w2 ⟨rfl, hb2⟩; have hcp2 := Lib.hid (hcp.out _ hb2); have hb2 := Lib.hid hb2)
    | (go_at_call 8; (with_reducible refine hcp2.out.mono ?_); rintro e w3 ⟨q2, rfl, hI, hb3, hn⟩; have hbg2 := Lib.hid (hbg.out _ _ hI); have hI := Lib.hid hI; have hn := Lib.hid hn; have hb3 := Lib.hid hb3)
    | (go_at_call 33; (with_reducible refine hbg2.out.mono ?_); rintro e w4 ⟨g, rfl, hW, hgl, hb4⟩; have hW := Lib.hid hW; have hb4 := Lib.hid hb4))
  go_ret2
  have h5 : Below w4.heap.size w4 (w4.alloc (.cells #[.pointer (some ⟨q2.b, 0, none⟩), .slice (some ⟨g, 0, none⟩) N.regs.length N.regs.length, .slice none 0 0, .int .i64 0] 96)) := (Below.refl _ _).alloc (Nat.le_refl _) _
  have h24 := nextw hb2.out (nextw hb3.out hb4.out)
  have z2 := hb2.out.size
  have z24 := h24.size
  exact ⟨w4.heap.size, q2, ⟨some ⟨g, 0, none⟩, N.regs.length, none, 0, 0⟩, rfl, ⟨Deep.blk_alloc_new _ _, (hI.out.below hb4.out).below h5, hG.out, hSS.out, hW.out.below h5, WR.nil _, by simp⟩, z24, fun k hk => Nat.le_trans z2 (hn.out k hk), nextw h24 h5⟩
theorem SCopy_any {w : World} {S : Nat} {q : NPl} {p : SPl} {N : Nt} {s : St} (h : SimIs w S q p N s) :
    Calls Tryz.prog 13 #[.pointer (some ⟨S, 0, none⟩)] w fun e w' => ∃ S2 : Nat, e = .returned (.pointer (some ⟨S2, 0, none⟩)) ∧ SimIs w' S2 q p N s ∧ w.heap.size ≤ S2 ∧ Below w.heap.size w w' := by
  have hst := Lib.hid (sstands_any h)
  obtain ⟨c0, c1, c2, c3, -⟩ := h.cells
  have H := Lib.hid h
  clear h
  go_enter Tryz.func13, Tryz.ntmps13
  go_wp2_with (go_at_call 45; (with_reducible refine hst.out.mono ?_); rintro e w2 ⟨rfl, rfl⟩)
  go_ret
  have h5 : Below w.heap.size w (w.alloc (simBox q p N.regs.length s.cy)) := (Below.refl _ _).alloc (Nat.le_refl _) _
  have h6 := H.out.below h5
  exact ⟨w.heap.size, rfl, ⟨Deep.blk_alloc_new _ _, h6.net, h6.good, h6.small, h6.has, h6.last, h6.cyle⟩, Nat.le_refl _, h5⟩
theorem set4_box {w : World} {S : Nat} {cs : Array Value} {T : Nat} (hb : w.heap[S]? = some (.cells cs T (0, 0))) (hs : cs.size = 4) (x0 x1 x2 x3 : Value) :
    ((((w.setCell ⟨S, 0, none⟩ x0).setCell ⟨S, 1, none⟩ x1).setCell ⟨S, 2, none⟩ x2).setCell ⟨S, 3, none⟩ x3).heap[S]? = some (.cells #[x0, x1, x2, x3] T (0, 0)) ∧ Kept (fun k => k = S) w ((((w.setCell ⟨S, 0, none⟩ x0).setCell ⟨S, 1, none⟩ x1).setCell ⟨S, 2, none⟩ x2).setCell ⟨S, 3, none⟩ x3) := by
  refine ⟨?_, (((kept_set' w S 0 x0).trans (kept_set' _ S 1 x1) (fun _ h => .inl h)).trans (kept_set' _ S 2 x2) (fun _ h => .inl h)).trans (kept_set' _ S 3 x3) (fun _ h => .inl h)⟩
  have h0 := box_set (o := 0) hb x0
  have h1 := box_set (o := 1) h0 x1
  have h2 := box_set (o := 2) h1 x2
  have h3 := box_set (o := 3) h2 x3
  rw [h3]
  match cs, hs with
  | ⟨[a, b, c, d]⟩, _ => rfl
theorem Reset_any {w : World} {S : Nat} {q : NPl} {p : SPl} {N : Nt} {s : St} (h : SimIs w S q p N s) :
    Calls Tryz.prog 12 #[.pointer (some ⟨S, 0, none⟩)] w fun e w' => e = .returned (.int .i64 0) ∧ ∃ p', SimIs w' S q p' N ⟨iniR N.regs, [], 0⟩ ∧ Kept (fun k => k = S) w w' := by
  have hst := Lib.hid (sstands_any h)
  have hbg := Lib.hid (begun_any h.net h.small)
  obtain ⟨c0, c1, c2, c3, fz⟩ := h.cells
  have hlt := h.lt
  have H := Lib.hid h
  clear h
  go_enter Tryz.func12, Tryz.ntmps12
  go_wp2_with (first
    | (go_at_call 45; (with_reducible refine hst.out.mono ?_); rintro e w2 ⟨rfl, rfl⟩)
    | (go_at_call 33; (with_reducible refine hbg.out.mono ?_); rintro e w4 ⟨g, rfl, hW, hgl, hb4⟩; have m0 := stepc hb4 hlt c0; have m1 := stepc hb4 hlt c1; have m2 := stepc hb4 hlt c2; have m3 := stepc hb4 hlt c3; have f0 := stepf hb4 hlt (fz 0); have f1 := stepf hb4 hlt (fz 1); have f2 := stepf hb4 hlt (fz 2); have f3 := stepf hb4 hlt (fz 3); have hW := Lib.hid hW; have hb4 := Lib.hid hb4))
  go_ret
  have h4 := H.out.below hb4.out
  obtain ⟨e1, e2⟩ := set4_box h4.box rfl (.pointer (some ⟨q.b, 0, none⟩)) (.slice (some ⟨g, 0, none⟩) N.regs.length N.regs.length) (.slice none 0 0) (.int .i64 0)
  refine ⟨rfl, ⟨some ⟨g, 0, none⟩, N.regs.length, none, 0, 0⟩, sim_next h4 e2 e1 (hW.out.keptF e2 h4.self.2.1) (WR.nil _) (by simp), (Kept.of_below hb4.out).trans e2 (fun _ h => .inl h)⟩
end Go.Proofs.YtafoohdndlhbnaaGreat
end

section
namespace Go.Proofs.YtafoohdndlhbnaaGreat
open Go.RowKit Go.Maps Bits Num
set_option maxRecDepth 100000

theorem swords1_any {w : World} {p : Nat} {k : Nat} (hc : w.cell? ⟨p, 0, none⟩ = some (.int .i64 k)) {x : Int} (hx : IsLit x) :
    Calls Tryz.prog 58 #[.int .u32 x, .pointer (some ⟨p, 0, none⟩)] w fun e w' => e = .returned (.bool (!decide (x / 2 < (k : Int)))) ∧ Below w.heap.size w w' := by
  have hno := Lib.hid (fun w => node_any x hx w)
  have hBn := Lib.hid (fun q => below_draws w q)
  have hpl := World.block_lt_of_cell? w _ hc
  have hc' := fun q => stepc (hBn.out q) hpl hc
  go_enter Tryz.func58, Tryz.ntmps58
  go_wp2
  go_quiet (first | (go_at_call 59; with_reducible exact Calls.quiet_of_same ((hno.out _).mono (fun _ _ h => ⟨h.1, h.2.symm⟩))))
  go_wp2
  go_ret
  refine ⟨ret_bool ?_, hBn.out _⟩
  rw [Bool.eq_iff_iff]; simp
theorem scontains_any {w : World} {p k : Nat} (hc : w.cell? ⟨p, 0, none⟩ = some (.int .i64 k)) {G : Gr} (hk : G.nodes.length = k) {a : Option Addr} {n c : Nat} {l : List Int} (hs : Row .u32 w a n l) (hl : ∀ x ∈ l, IsLit x) :
    Calls Tryz.prog 57 #[.slice a n c, .func (.func 58) #[] #[.pointer (some ⟨p, 0, none⟩)]] w fun e w' => e = .returned (.bool (!allHas G l)) ∧ Below w.heap.size w w' := by
  have hix : Hid (Calls Tryz.prog 100 #[.slice a n c, .func (.func 58) #[] #[.pointer (some ⟨p, 0, none⟩)]] w fun e w' => (∃ v : Int, e = .returned (.int .i64 v) ∧ (decide (v ≥ 0) = !allHas G l)) ∧ Below w.heap.size w w') := by
    show Calls _ _ _ _ _
    have HT := Lib.hid (fun j (hj : j < n) => allHas_take G l j (by rw [hs.len]; exact hj))
    have HN := Lib.hid (fun j (hj : j < n) => allHas_not G l j (by rw [hs.len]; exact hj))
    have HL := Lib.hid (fun j (hj : j < n) => hl (l.getD j 0) (by simp [List.getD, hs.len, hj]))
    have HA : Hid (allHas G (l.take n) = allHas G l) := Lib.hid (by rw [← hs.len, List.take_length])
    have HZ : Hid (allHas G (l.take 0) = true) := Lib.hid rfl
    have HS := Lib.hid hs
    have hle := hs.le
    have HB : Hid (∀ x, hasB G x = decide (x / 2 < (k : Int))) := Lib.hid (fun x => by unfold hasB; rw [hk])
    have hpl := World.block_lt_of_cell? w _ hc
    have hcl := Lib.hid (fun w2 (hb : Below w.heap.size w w2) (x : Int) (hx : IsLit x) => swords1_any (w := w2) (stepc hb hpl hc) hx)
    clear hs hl hc hk
    generalize allHas G = P at *
    generalize hasB G = HBf at *
    go_enter Tryz.func100, Tryz.ntmps100
    go_wp2
    go_loopw [8] (fun i wr => ∃ j : Nat, j ≤ n ∧ i = .int .i64 j ∧ Hid (Below w.heap.size w wr) ∧ Hid (P (l.take j) = true)) (fun i _ => n - (intOf i).toNat)
    case atStart => exact ⟨0, Nat.zero_le _, rfl, Lib.hid (Below.refl _ _), HZ⟩
    case round =>
      obtain ⟨j, hj, rfl, hB, ht⟩ := hrel
      by_cases hlt : j < n
      · obtain ⟨b, off, rfl, hb, hcell⟩ := HS.out.at (by omega)
        have hcj := stepc hB.out hb (hcell j hlt)
        have hx := HL.out j hlt
        have htk := Lib.hid (HT.out j hlt)
        have hnt := Lib.hid (HN.out j hlt)
        have hBx := Lib.hid (HB.out (l.getD j 0))
        generalize l.getD j 0 = x at *
        have hca := Lib.hid (hcl.out _ hB.out x hx)
        clear hcell
        by_cases hxk : x / 2 < (k : Int)
        · rw [show (!decide (x / 2 < (k : Int))) = false by simp [hxk]] at hca
          go_wp2_with (go_at_call 58; (with_reducible refine hca.out.mono ?_); rintro e w2 ⟨rfl, hb2⟩; have hb3 := Lib.hid (nextw hB.out hb2); clear hb2)
          exact ⟨⟨j + 1, by omega, by go_num, hb3, Lib.hid (by rw [htk.out, ht.out, hBx.out]; simp [hxk])⟩, by simp [intOf]; omega⟩
        · rw [show (!decide (x / 2 < (k : Int))) = true by simp [hxk]] at hca
          go_wp2_with (go_at_call 58; (with_reducible refine hca.out.mono ?_); rintro e w2 ⟨rfl, hb2⟩; have hb3 := Lib.hid (nextw hB.out hb2); clear hb2)
          go_ret
          refine ⟨⟨_, rfl, ?_⟩, hb3.out⟩
          rw [hnt.out (by rw [hBx.out]; simp [hxk])]
          simp
      · obtain rfl : j = n := by omega
        go_wp2
        go_ret
        refine ⟨⟨_, rfl, ?_⟩, hB.out⟩
        rw [← HA.out, ht.out]
        decide
  clear hs hl hc
  generalize allHas G l = A at *
  go_enter Tryz.func57, Tryz.ntmps57
  go_wp2_with (go_at_call 100; (with_reducible refine hix.out.mono ?_); rintro e w2 ⟨⟨v, rfl, hv⟩, hb2⟩)
  go_ret
  exact ⟨by simp_all, hb2⟩

/-- What Words tells. -/
def WordsQ (N : Nt) (s : St) (n : Nat) (l : List Int) (w : World) (e : Ending) (w' : World) : Prop :=
  (allHas N.g l = false → e = .returned (.tuple #[.slice none 0 0, .int .i64 1])) ∧ (allHas N.g l = true → s.cy = 0 → e = .returned (.tuple #[.slice none 0 0, .int .i64 6])) ∧
  (allHas N.g l = true → 0 < s.cy → ∃ g : Nat, e = .returned (.tuple #[.slice (some ⟨g, 0, none⟩) n n, .int .i64 0]) ∧ WR w' (some ⟨g, 0, none⟩) n n (l.map (fun x => wordV x s.last)) ∧ w.heap.size ≤ g) ∧ Below w.heap.size w w'
set_option maxHeartbeats 1000000 in
theorem SWords_any {w : World} {S : Nat} {q : NPl} {p : SPl} {N : Nt} {s : St} (h : SimIs w S q p N s) {a : Option Addr} {n c : Nat} {l : List Int} (hs : Row .u32 w a n l) (hl : ∀ x ∈ l, IsLit x) (hn : n ≤ 400000) :
    Calls Tryz.prog 23 #[.pointer (some ⟨S, 0, none⟩), .slice a n c] w (WordsQ N s n l w) := by
  have hst := Lib.hid (sstands_any h)
  obtain ⟨c0, c1, c2, c3, -⟩ := h.cells
  have hlt := h.lt
  have hno := Lib.hid (nodes_any h.net.g.lay h.good.wf.pos)
  obtain ⟨-, -, -, -, -, -, -, -, -, n0, -⟩ := h.net.cells
  have hb0 : Below w.heap.size w (w.alloc (.cells #[.int .i64 N.g.nodes.length] 3)) := (Below.refl _ _).alloc (Nat.le_refl _) _
  have hco := Lib.hid (scontains_any (w := w.alloc (.cells #[.int .i64 N.g.nodes.length] 3)) (p := w.heap.size) (k := N.g.nodes.length) (by simp [go_sem]) (G := N.g) rfl (c := c) (hs.step hb0) hl)
  have hwo := Lib.hid (fun w2 (hb : Below w.heap.size w w2) => rwords_any (pv := .pointer (some ⟨q.b, 0, none⟩)) (ha := p.ha) (hn := N.regs.length) (hc := p.hc) (la := p.la) (ln := p.ln) (lc := p.lc) (cy := s.cy) (h.last.row.step hb) h.last.words (c := c) (hs.step hb) hl hn rfl)
  have hb0 := Lib.hid hb0
  unfold WordsQ
  clear h hs hl
  generalize l.map (fun x => wordV x s.last) = V at *
  cases hA : allHas N.g l with
  | false =>
    rw [hA] at hco
    clear hwo
    go_enter Tryz.func23, Tryz.ntmps23
    go_wp2_with (first
      | (go_at_call 45; (with_reducible refine hst.out.mono ?_); rintro e w2 ⟨rfl, rfl⟩)
      | (go_at_call 24; (with_reducible refine hno.out.mono ?_); rintro e w2 ⟨rfl, rfl⟩)
      | (go_at_call 57; (with_reducible refine hco.out.mono ?_); rintro e w3 ⟨rfl, hb3⟩))
    go_ret2
    exact ⟨fun _ => rfl, fun h => by simp at h, fun h => by simp at h, nextw hb0.out hb3⟩
  | true =>
    rw [hA] at hco
    by_cases hcy : s.cy = 0
    · rw [hcy] at c3
      clear hwo
      go_enter Tryz.func23, Tryz.ntmps23
      go_wp2_with (first
        | (go_at_call 45; (with_reducible refine hst.out.mono ?_); rintro e w2 ⟨rfl, rfl⟩)
        | (go_at_call 24; (with_reducible refine hno.out.mono ?_); rintro e w2 ⟨rfl, rfl⟩)
        | (go_at_call 57; (with_reducible refine hco.out.mono ?_); rintro e w3 ⟨rfl, hb3⟩; have hb4 := nextw hb0.out hb3; have d3 := stepc hb4 hlt c3))
      go_ret2
      exact ⟨fun h => by simp at h, fun _ _ => rfl, fun _ h => by omega, hb4⟩
    · have hcz : ((s.cy : Int) == 0) = false := by simp; omega
      generalize s.cy = cy at *
      go_enter Tryz.func23, Tryz.ntmps23
      go_wp2_with (first
        | (go_at_call 45; (with_reducible refine hst.out.mono ?_); rintro e w2 ⟨rfl, rfl⟩)
        | (go_at_call 24; (with_reducible refine hno.out.mono ?_); rintro e w2 ⟨rfl, rfl⟩)
        | (go_at_call 57; (with_reducible refine hco.out.mono ?_); rintro e w3 ⟨rfl, hb3⟩; have hb4 := nextw hb0.out hb3; have d0 := stepc hb4 hlt c0; have d1 := stepc hb4 hlt c1; have d2 := stepc hb4 hlt c2; have d3 := stepc hb4 hlt c3; have hwo2 := Lib.hid (hwo.out _ hb4); have hb4 := Lib.hid hb4; clear hb3)
        | (go_at_call 50; (with_reducible refine hwo2.out.mono ?_); rintro e w5 ⟨g, rfl, hW, hgl, hb5⟩; have hW := Lib.hid hW; have hb5 := Lib.hid hb5))
      go_ret2
      exact ⟨fun h => by simp at h, fun _ h => by omega, fun _ _ => ⟨g, rfl, hW.out, Nat.le_trans hb4.out.size hgl⟩, nextw hb4.out hb5.out⟩
end Go.Proofs.YtafoohdndlhbnaaGreat
end
