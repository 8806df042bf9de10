/-
  The document's netlist is looked at: Check.
-/
import Derived.Test.YtafoohdndlhbnaaGreatDoorFETA
import Derived.Test.YtafoohdndlhbnaaGreatDoorFEOJ
section
namespace Go.Proofs.YtafoohdndlhbnaaGreatDoor
open Go.RowKit Go.Maps Bits
set_option maxRecDepth 100000

def openB (N : Nt) (i : Nat) : Bool := decide (0 < i) && (!(nodeAt N.g i).gate && decide ((takenN N).count (2 * (i : Int)) = 0))
def noneB (N : Nt) (j : Nat) : Bool := (List.range j).any (openB N)
theorem noneB_succ (N : Nt) (j : Nat) : noneB N (j + 1) = (noneB N j || openB N j) := by simp [noneB, List.range_succ]
theorem node_some {G : Gr} {j : Nat} (hj : j < G.nodes.length) : G.nodes[j]? = some (nodeAt G j) := by
  unfold nodeAt
  rw [List.getD_eq_getElem?_getD, List.getElem?_eq_getElem hj]
  rfl
theorem count_one {N : Nt} {rest : List Int} (hg : Good N rest) (x : Int) : (takenN N).count x ≤ 1 := List.nodup_iff_count.1 (List.nodup_append.1 hg.left.nodup).1 x
theorem noneB_all {N : Nt} {rest : List Int} (hg : Good N rest) : (if noneB N N.g.nodes.length = true then (37 : Int) else 0) = ckV rest := by
  have hnd := List.nodup_append.1 hg.left.nodup
  unfold ckV
  by_cases hr : rest.length = 0
  · rw [if_pos hr, if_neg]
    intro h
    obtain ⟨i, hi, ho⟩ := List.any_eq_true.1 h
    have hi := List.mem_range.1 hi
    unfold openB at ho
    simp only [Bool.and_eq_true, decide_eq_true_eq, Bool.not_eq_true'] at ho
    obtain ⟨h0, h1, h2⟩ := ho
    obtain ⟨k, hk⟩ := hg.wf.all i _ h0 (node_some hi) h1
    have h3 : 2 * (i : Int) ∈ inLits N.g := List.mem_map.2 ⟨_, List.mem_of_getElem? hk, rfl⟩
    have h4 := hg.drv.mem_iff.2 h3
    rcases List.mem_append.1 h4 with h5 | h5
    · exact absurd h5 (List.count_eq_zero.1 h2)
    · cases rest with
      | nil => cases h5
      | cons y r => simp at hr
  · rw [if_neg hr, if_pos]
    cases rest with
    | nil => simp at hr
    | cons y r =>
      have h4 := hg.drv.mem_iff.1 (List.mem_append_right (takenN N) (List.mem_cons_self (a := y) (l := r)))
      obtain ⟨i, e, h0, h1, h2⟩ := inLits_mem hg.wf h4
      refine List.any_eq_true.2 ⟨i, List.mem_range.2 h1, ?_⟩
      have h3 : (takenN N).count (2 * (i : Int)) = 0 := by
        rw [List.count_eq_zero, ← e]
        intro h5
        exact hnd.2.2 y h5 y (by simp) rfl
      obtain ⟨m, hm⟩ := List.getElem?_of_mem h2
      obtain ⟨i', e', -, nd, hn, hng⟩ := hg.wf.ins m _ hm
      obtain rfl : i' = i := by omega
      have e2 : nd = nodeAt N.g i' := by rw [node_some h1] at hn; exact (Option.some.inj hn).symm
      unfold openB
      rw [← e2, hng, h3]
      simp [h0]
set_option maxHeartbeats 8000000 in
theorem rCheck_any {w0 w : World} {B Bg : Nat} {p : RPl} {N : Nt} {rest : List Int} (h : RN w0 w B Bg p N) (hg : Good N rest) (hS : Small N) :
    Calls Tryz.prog 43 #[.pointer (some ⟨B, 0, none⟩)] w fun e w' => e = .returned (.int .i64 (ckV rest)) ∧ Below w.heap.size w w' := by
  have hsg := hS.g
  have hsi := hS.ins
  have hsr := hS.regs
  obtain ⟨ia, ic, ra, rc, oa, oc, e1, e2, e3, a0, a1, a2, a3, a4, -⟩ := h.cells
  have hlt := h.lt
  obtain ⟨-, -, g2, -⟩ := h.g.cells
  have hglt := h.g.blt
  have hnglt := h.g.glt
  have hmn := Lib.hid (fun (q : World) => (by
    have := rMayName_any N.name q
    rw [hg.name] at this
    exact this.mono (fun _ _ hh => ⟨hh.1, hh.2 ▸ Below.refl _ _⟩) : Calls Tryz.prog 100 #[.string N.name] q fun e w' => e = .returned (.bool true) ∧ Below q.heap.size q w'))
  have hI := Lib.hid (show RBusRow w0 w (.slice ia N.ins.length ic) N.ins by have := h.ins; rw [e1] at this; exact this)
  have hR := Lib.hid (show RRegRow w0 w (.slice ra N.regs.length rc) N.regs by have := h.regs; rw [e2] at this; exact this)
  have hO := Lib.hid (show RBusRow w0 w (.slice oa N.outs.length oc) N.outs by have := h.outs; rw [e3] at this; exact this)
  have hinl : ∀ x ∈ takenN N, ∃ i : Nat, x = 2 * (i : Int) ∧ 0 < i ∧ i < N.g.nodes.length ∧ (nodeAt N.g i).gate = false := by
    intro x hx
    obtain ⟨i, e, h0, h1, h2⟩ := inLits_mem hg.wf (hg.drv.mem_iff.1 (List.mem_append_left rest hx))
    obtain ⟨m, hm⟩ := List.getElem?_of_mem h2
    obtain ⟨i', e', -, nd, hn, hng⟩ := hg.wf.ins m _ hm
    obtain rfl : i' = i := by omega
    have e2 : nd = nodeAt N.g i' := by rw [node_some h1] at hn; exact (Option.some.inj hn).symm
    exact ⟨i', e, h0, h1, e2 ▸ hng⟩
  have hth2 : ∀ b ∈ N.ins, AllThere N.g b.lits := fun b hb x hx => by
    obtain ⟨i, rfl, h0, h1, -⟩ := hinl x (List.mem_append_left _ (List.mem_flatMap.2 ⟨b, hb, hx⟩))
    exact ⟨⟨by omega, by omega⟩, by omega⟩
  have hbI := Lib.hid (fun W (hb : Below w.heap.size w W) => rbuses_any (h.step hb) (by omega) (hI.out.below hb) rfl hg.ins hth2)
  have hbO := Lib.hid (fun W (hb : Below w.heap.size w W) => rbuses_any (h.step hb) (by omega) (hO.out.below hb) rfl hg.outs (fun b hb x hx => hg.outT b hb x hx))
  have his := Lib.hid (fun W (hb : Below w.heap.size w W) x (hx : x ∈ takenN N) => (by
    obtain ⟨i, rfl, h0, h1, h2⟩ := hinl x hx
    exact isInput_any (h.step hb) h0 h1 h2 (by omega) : Calls Tryz.prog 117 #[.pointer (some ⟨B, 0, none⟩), .int .u32 x] W fun e w' => e = .returned (.bool true) ∧ Below W.heap.size W w'))
  have hdr := Lib.hid (fun W (hb : Below w.heap.size w W) x => Driven_any (h.step hb) (by omega) (by omega) (fun b hb => (hg.ins.wide b hb).2) x)
  have hth := Lib.hid (fun W (hb : Below w.heap.size w W) (la : Option Addr) (d en : Int) (r : Rg) (hr : r ∈ N.regs) (e1 : r.d = d) (e2 : r.en = en) (hu : Row .u32 W la 2 [d, en]) => (by
    have ht : AllThere N.g [d, en] := by
      intro x hx
      simp at hx
      rcases hx with rfl | rfl
      · rw [← e1]; exact (hg.regT r hr).1
      · rw [← e2]; exact (hg.regT r hr).2
    have := rhas_any (h.step hb).g (by omega) (cap := 2) hu (fun x hx => (ht x hx).1)
    rw [allHas_of ht] at this
    exact this : Calls Tryz.prog 118 #[.pointer (some ⟨Bg, 0, none⟩), .slice la 2 2] W fun e w' => e = .returned (.bool true) ∧ Below W.heap.size W w'))
  have hnode := Lib.hid (fun i (h0 : 0 < i) (hi : i < N.g.nodes.length) => (h.g.node h0 hi).1)
  have hc1 := Lib.hid (count_one hg)
  have hfin := Lib.hid (noneB_all hg)
  have hnb := Lib.hid (noneB_succ N)
  have hnb1 : noneB N 1 = false := by simp [noneB, openB]
  have hmem := Lib.hid (fun (j : Nat) (hj : j < N.ins.length) (x : Int) (hx : x ∈ N.ins[j].lits) => (List.mem_append_left _ (List.mem_flatMap.2 ⟨N.ins[j], List.getElem_mem hj, hx⟩) : x ∈ takenN N))
  have hmeq := Lib.hid (fun (j : Nat) (hj : j < N.regs.length) => (List.mem_append_right _ (List.mem_map.2 ⟨N.regs[j], List.getElem_mem hj, rfl⟩) : N.regs[j].q ∈ takenN N))
  have hpos := hg.wf.pos
  have hg0 : decide (16384 < ((N.regs.length : Nat) : Int)) = false := by simp; omega
  clear h hg hS e1 e2 e3 hinl hth2 hO
  obtain ⟨ck, hck⟩ : ∃ ck, ckV rest = ck := ⟨_, rfl⟩
  rw [hck] at hfin
  rw [hck]
  clear hck
  obtain ⟨ni, hni⟩ : ∃ ni, N.ins.length = ni := ⟨_, rfl⟩
  obtain ⟨nr, hnr⟩ : ∃ nr, N.regs.length = nr := ⟨_, rfl⟩
  obtain ⟨nn, hnn⟩ : ∃ nn, N.g.nodes.length = nn := ⟨_, rfl⟩
  rw [hni] at a2 hI hsi hbI
  rw [hnr] at a3 hR hsr hg0
  rw [hnn] at g2 hsg hfin hpos
  have hni := Lib.hid hni
  have hnr := Lib.hid hnr
  have hnn := Lib.hid hnn
  go_enter Tryz.func43, Tryz.ntmps43
  go_wp2_with (first
    | (go_at_call 100; (with_reducible refine (hmn.out _).mono ?_); rintro e w2 ⟨rfl, hb2⟩; have b2 := stepc hb2 hlt a2; have b3 := stepc hb2 hlt a3; have b4 := stepc hb2 hlt a4; have hB := Lib.hid hb2; clear hb2)
    | (go_at_call 116; (with_reducible refine (hbI.out _ hB.out).mono ?_); rintro e w3 ⟨rfl, hb3⟩; have b3 := stepc hb3 (Nat.lt_of_lt_of_le hlt hB.out.size) b3; have b4 := stepc hb3 (Nat.lt_of_lt_of_le hlt hB.out.size) b4; have hB3 := Lib.hid (nextw hB.out hb3); clear hb3)
    | (go_at_call 116; (with_reducible refine (hbO.out _ hB3.out).mono ?_); rintro e w4 ⟨rfl, hb4⟩; have b3 := stepc hb4 (Nat.lt_of_lt_of_le hlt hB3.out.size) b3; have hB4 := Lib.hid (nextw hB3.out hb4); clear hb4))
  clear b2 b3 b4 hB hB3 hbI hbO hmn a1
  go_loopw [3, 4] (fun i _ wr => ∃ j : Nat, j ≤ ni ∧ i = .int .i64 j ∧ Hid (Below w.heap.size w wr)) (fun i _ _ => ni - (intOf i).toNat)
  case atStart => exact ⟨0, Nat.zero_le _, rfl, hB4⟩
  case round =>
    clear hB4
    obtain ⟨j, hj, rfl, hB⟩ := hrel
    have d2 := stepc hB.out hlt a2
    by_cases hlt2 : j < ni
    · have hjl : j < N.ins.length := by rw [hni.out]; exact hlt2
      obtain ⟨g, la, lc, rfl, hgl, b0, b1, hu⟩ := hI.out.at hjl
      have hu := Lib.hid hu.row
      have hmj := Lib.hid (hmem.out j hjl)
      have hlle := hu.out.le
      obtain ⟨lits, hlits⟩ : ∃ lits, N.ins[j].lits = lits := ⟨_, rfl⟩
      simp only [hlits] at b1 hu hmj hlle
      clear hlits b0
      obtain ⟨ll, hll⟩ : ∃ ll, lits.length = ll := ⟨_, rfl⟩
      rw [hll] at b1 hu hlle
      have hll := Lib.hid hll
      have y1 := stepc hB.out hgl b1
      obtain ⟨wo, rfl⟩ : ∃ wo : World, wo = wr := ⟨_, rfl⟩
      go_wp2
      go_loopw [4] (fun k wr => ∃ i : Nat, i ≤ ll ∧ k = .int .i64 i ∧ Hid (Below w.heap.size w wr)) (fun k _ => ll - (intOf k).toNat)
      case atStart => exact ⟨0, Nat.zero_le _, rfl, hB⟩
      case round =>
        clear hB d2 y1
        obtain ⟨i, hil, rfl, hB⟩ := hrel
        have d2 := stepc hB.out hlt a2
        have y1 := stepc hB.out hgl b1
        by_cases hik : i < ll
        · have hik2 : i < lits.length := by rw [hll.out]; exact hik
          obtain ⟨bu, off, rfl, hbu, huc⟩ := hu.out.at (by omega)
          have y2 := stepc hB.out hbu (huc i hik)
          rw [show lits.getD i 0 = lits[i] by rw [List.getD_eq_getElem?_getD, List.getElem?_eq_getElem hik2]; rfl] at y2
          have hin := Lib.hid (his.out wr hB.out lits[i] (hmj.out _ (List.getElem_mem hik2)))
          clear huc
          generalize lits[i] = z at *
          go_wp2_with (go_at_call 117; (with_reducible refine hin.out.mono ?_); rintro e w5 ⟨rfl, hb5⟩)
          exact ⟨⟨i + 1, by omega, by go_num, Lib.hid (nextw hB.out hb5)⟩, by simp [intOf]; omega⟩
        · obtain rfl : i = ll := by omega
          go_wp2
          exact ⟨⟨j + 1, by omega, by go_num, hB⟩, by simp [intOf]; omega⟩
    · obtain rfl : j = ni := by omega
      have d3 := stepc hB.out hlt a3
      clear hI hmem
      go_wp2
      go_loopw [5] (fun k wr => ∃ i : Nat, i ≤ nr ∧ k = .int .i64 i ∧ Hid (Below w.heap.size w wr)) (fun k _ => nr - (intOf k).toNat)
      case atStart => exact ⟨0, Nat.zero_le _, rfl, hB⟩
      case round =>
        clear hB d2 d3
        obtain ⟨i, hil, rfl, hB⟩ := hrel
        have d3 := stepc hB.out hlt a3
        by_cases hik : i < nr
        · have hik2 : i < N.regs.length := by rw [hnr.out]; exact hik
          obtain ⟨g, rfl, hgl, b0, b1, b2, b3⟩ := hR.out.at hik2
          have y0 := stepc hB.out hgl b0
          have y1 := stepc hB.out hgl b1
          have y2 := stepc hB.out hgl b2
          have z0 := stepc hB.out hlt a0
          have hgw := Nat.lt_of_lt_of_le hgl hB.out.size
          have hbw := Nat.lt_of_lt_of_le hlt hB.out.size
          have hin := Lib.hid (his.out wr.drew hB.out.drew N.regs[i].q (hmeq.out i hik2))
          have hthi := Lib.hid (fun W hb la => hth.out W hb la N.regs[i].d N.regs[i].en N.regs[i] (List.getElem_mem hik2) rfl rfl)
          clear b0 b1 b2 b3
          generalize N.regs[i].q = rq at *
          generalize N.regs[i].d = rd at *
          generalize N.regs[i].en = re at *
          go_wp2
          go_region_held3 (fun w' => w'.cell? ⟨B, 0, none⟩ = some (.pointer (some ⟨Bg, 0, none⟩)) ∧ w'.cell? ⟨B, 3, none⟩ = some (.slice (some ⟨g, 0, none⟩) nr rc) ∧ w'.cell? ⟨g, i * 4, none⟩ = some (.int .u32 rq) ∧ w'.cell? ⟨g, i * 4 + 1, none⟩ = some (.int .u32 rd) ∧ w'.cell? ⟨g, i * 4 + 2, none⟩ = some (.int .u32 re)) (go_keep) (first
            | (go_at_call 117; (with_reducible refine hin.out.mono ?_); rintro e w5 ⟨rfl, hb5⟩; have hb5 := nextw (Below.refl wr.heap.size wr).drew hb5; have x0 := stepc hb5 hbw z0; have x3 := stepc hb5 hbw d3; have v0 := stepc hb5 hgw y0; have v1 := stepc hb5 hgw y1; have v2 := stepc hb5 hgw y2; have hB5 := Lib.hid (nextw hB.out hb5); have hthw := Lib.hid (hthi.out (w5.alloc (.cells #[.int .u32 rd, .int .u32 re] 65)) (hB5.out.alloc hB5.out.size _) _ (row2 w5 rd re 65)); have hab := (Below.refl w5.heap.size w5).alloc (Nat.le_refl _) (.cells #[.int .u32 rd, .int .u32 re] 65); have hl5 := Nat.lt_of_lt_of_le hbw hb5.size; have hg5 := Nat.lt_of_lt_of_le hgw hb5.size; have hab := Lib.hid hab; clear hb5)
            | (go_at_call 118; (with_reducible refine hthw.out.mono ?_); rintro e w6 ⟨rfl, hb6⟩; have hc6 := nextw hab.out hb6; have x0' := stepc hc6 hl5 x0; have x3' := stepc hc6 hl5 x3; have v0' := stepc hc6 hg5 v0; have v1' := stepc hc6 hg5 v1; have v2' := stepc hc6 hg5 v2; have hB6 := Lib.hid (nextw hB5.out hc6)))
          all_goals go_wp2
          all_goals exact ⟨⟨i + 1, by omega, by go_num, hB6⟩, by simp [intOf]; omega⟩
        · obtain rfl : i = nr := by omega
          have d0 := stepc hB.out hlt a0
          have g3 := stepc hB.out hglt g2
          go_wp2
          go_loopw [6, 7, 8] (fun b k _ wr => ∃ m : Nat, 1 ≤ m ∧ m ≤ nn ∧ k = .int .i64 m ∧ b = .bool (noneB N m) ∧ Hid (Below w.heap.size w wr)) (fun _ k _ _ => nn - (intOf k).toNat)
          case atStart => exact ⟨1, Nat.le_refl _, hpos, rfl, by rw [hnb1], hB⟩
          case round =>
            clear hB d0 d3 g3
            obtain ⟨m, hm1, hm2, rfl, rfl, hB⟩ := hrel
            have d0 := stepc hB.out hlt a0
            have g3 := stepc hB.out hglt g2
            by_cases hmn : m < nn
            · have hmn2 : m < N.g.nodes.length := by rw [hnn.out]; exact hmn
              have x0 := stepc hB.out hnglt (hnode.out m (by omega) hmn2)
              have hnbm := Lib.hid (hnb.out m)
              have hx2 : IntKind.u32.wrap (2 * (m : Int)) = 2 * (m : Int) := by rw [IntKind.wrap_u32]; omega
              have hdm := Lib.hid (hdr.out wr hB.out (2 * (m : Int)))
              have hcm := hc1.out (2 * (m : Int))
              have hob : Hid (openB N m = (!(nodeAt N.g m).gate && decide ((takenN N).count (2 * (m : Int)) = 0))) := Lib.hid (by unfold openB; simp; omega)
              rw [hob.out] at hnbm
              have hga : N.g.nodes.getD m ⟨false, 0, 0⟩ = nodeAt N.g m := rfl
              rw [hga] at x0
              clear hob hga
              generalize (nodeAt N.g m).gate = gt at *
              generalize (takenN N).count (2 * (m : Int)) = cm at *
              generalize noneB N m = bm at *
              cases gt
              · by_cases h0 : cm = 0
                · subst h0
                  go_wp2_with (go_at_call 119; (with_reducible refine hdm.out.mono ?_); rintro e w5 ⟨rfl, hb5⟩)
                  exact ⟨⟨m + 1, by omega, by omega, by go_num, by rw [hnbm.out]; simp, Lib.hid (nextw hB.out hb5)⟩, by simp [intOf]; omega⟩
                · obtain rfl : cm = 1 := by omega
                  go_wp2_with (go_at_call 119; (with_reducible refine hdm.out.mono ?_); rintro e w5 ⟨rfl, hb5⟩)
                  exact ⟨⟨m + 1, by omega, by omega, by go_num, by rw [hnbm.out]; simp, Lib.hid (nextw hB.out hb5)⟩, by simp [intOf]; omega⟩
              · go_wp2
                exact ⟨⟨m + 1, by omega, by omega, by go_num, by rw [hnbm.out]; simp, hB⟩, by simp [intOf]; omega⟩
            · obtain rfl : m = nn := by omega
              have hf := hfin.out
              clear hnb hnb1 hfin
              generalize noneB N m = bm at *
              cases bm
              · rw [if_neg (by simp)] at hf
                go_wp2
                go_ret
                exact ⟨by rw [← hf]; rfl, hB.out⟩
              · rw [if_pos rfl] at hf
                go_wp2
                go_ret
                exact ⟨by rw [← hf]; rfl, hB.out⟩
end Go.Proofs.YtafoohdndlhbnaaGreatDoor
end
