/-
  The document's lines: the walk.
-/
import Derived.Test.YtafoohdndlhbnaaGreatDoorFETA
import Derived.Test.YtafoohdndlhbnaaGreatDoorFETB
section
namespace Go.Proofs.YtafoohdndlhbnaaGreatDoor
open Go.RowKit Go.Maps Bits
set_option maxRecDepth 100000
set_option linter.unusedVariables false

def lx (N : Nt) (rest : List Int) : List ByteArray := if ckV rest = 0 then linesL N else []
theorem strs_next {L : List ByteArray} {k : Nat} {s : ByteArray} (h : L[k]? = some s) : strs (L.take (k + 1)) = strs (L.take k) ++ [.string s] := by
  rw [List.take_add_one, h]
  simp [strs]
theorem news_at {w : World} {b : Nat} {x : Value} (h : w.cell? ⟨b, 0, none⟩ = some x) : ∀ (j : Nat) (u : Value), [x][j]? = some u → w.cell? ((⟨b, 0, none⟩ : Addr).add j) = some u := by
  intro j u hj
  match j with
  | 0 => simp at hj; subst hj; simpa [Addr.add] using h
  | j + 1 => simp at hj
theorem row_four (W : World) (T : Nat) (x y z u : Int) : Row .u32 (W.alloc (.cells #[.int .u32 x, .int .u32 y, .int .u32 z, .int .u32 u] T)) (some ⟨W.heap.size, 0, none⟩) 4 [x, y, z, u] := by
  refine ⟨rfl, by omega, .inr ⟨W.heap.size, 0, rfl, by simp, fun i hi => ?_⟩⟩
  match i, hi with
  | 0, _ => simp [go_sem]
  | 1, _ => simp [go_sem]
  | 2, _ => simp [go_sem]
  | 3, _ => simp [go_sem]
  | i + 4, h => omega
theorem row_four' (W : World) (T : Nat) (x y z u : Int) (n : Nat) (h : W.heap.size = n) : Row .u32 (W.alloc (.cells #[.int .u32 x, .int .u32 y, .int .u32 z, .int .u32 u] T)) (some ⟨n, 0, none⟩) 4 [x, y, z, u] := h ▸ row_four W T x y z u
theorem bus_doc' {s s7 : ByteArray} (h7 : s7 = ⟨(s.data.toList ++ [32]).toArray⟩) (b : Bus) : Hid (Value.string ((s7 ++ b.name) ++ (⟨(wordsB b.lits).toArray⟩ : ByteArray)) = .string (busS s b)) := Lib.hid (by rw [bus_doc s s7 h7 b])
theorem run_add_str (s t : ByteArray) (h : s.size + t.size ≤ 1000000000) (W : World) : Sem.run Tryz.prog (binOp .add 9 (.string s) (.string t)) W = .ok (.string (s ++ t)) W := by
  simp [go_sem]
  omega
theorem add_size (s t : ByteArray) : (s ++ t).size = s.size + t.size := by simp
theorem arr_size (T : List UInt8) : (⟨T.toArray⟩ : ByteArray).size = T.length := by simp [ByteArray.size]
abbrev sModel7 : ByteArray := { data := #[46, 109, 111, 100, 101, 108, 32] }
abbrev sInput7 : ByteArray := { data := #[46, 105, 110, 112, 117, 116, 32] }
abbrev sOutput7 : ByteArray := { data := #[46, 111, 117, 116, 112, 117, 116, 32] }

set_option maxHeartbeats 8000000 in
theorem rLines_any {w0 w : World} {B Bg : Nat} {p : RPl} {N : Nt} {rest : List Int} (h : RN w0 w B Bg p N) (hg : Good N rest) (hS : Small N) :
    Calls Tryz.prog 13 #[.pointer (some ⟨B, 0, none⟩)] w fun e w' => ∃ v, e = .returned v ∧ w'.ownsRow w.heap.size 9 1 v (lx N rest).length (strs (lx N rest)) ∧ Below w.heap.size w w' := by
  have hck := Lib.hid (rCheck_any h hg hS)
  unfold lx
  by_cases hz : ckV rest = 0
  · rw [if_pos hz]
    rw [hz] at hck
    have hok := EmOk.of hg hS
    have hlen := linesL_len N
    have hgl := gatesL_len N.g N.g.nodes.length
    have hsg := hS.g
    have hsi := hS.ins
    have hsr := hS.regs
    have hso := hS.outs
    have hnm := hok.name
    obtain ⟨ia, ic, ra, rc, oa, oc, e1, e2, e3, a0, a1, a2, a3, a4, -⟩ := h.cells
    have hlt := h.lt
    obtain ⟨-, -, g2, -⟩ := h.g.cells
    have hglt := h.g.blt
    have hnglt := h.g.glt
    have hI := Lib.hid (show RBusRow w0 w (.slice ia N.ins.length ic) N.ins by have := h.ins; rw [e1] at this; exact this)
    have hR := Lib.hid (show RRegRow w0 w (.slice ra N.regs.length rc) N.regs by have := h.regs; rw [e2] at this; exact this)
    have hO := Lib.hid (show RBusRow w0 w (.slice oa N.outs.length oc) N.outs by have := h.outs; rw [e3] at this; exact this)
    have hnode := Lib.hid (fun i (h0 : 0 < i) (hi : i < N.g.nodes.length) => h.g.node h0 hi)
    have hok := Lib.hid hok
    have hl0 := Lib.hid (strs_next (L := linesL N) (k := 0) rfl)
    have hmd := Lib.hid (congrArg Value.string (model_doc sModel sModel7 (by rfl) N.name))
    obtain ⟨L, hL⟩ : ∃ L, linesL N = L := ⟨_, rfl⟩
    obtain ⟨ni, hni⟩ : ∃ ni, N.ins.length = ni := ⟨_, rfl⟩
    obtain ⟨nr, hnr⟩ : ∃ nr, N.regs.length = nr := ⟨_, rfl⟩
    obtain ⟨no, hno⟩ : ∃ no, N.outs.length = no := ⟨_, rfl⟩
    obtain ⟨nn, hnn⟩ : ∃ nn, N.g.nodes.length = nn := ⟨_, rfl⟩
    obtain ⟨ng, hng⟩ : ∃ ng, (gatesL N.g nn).length = ng := ⟨_, rfl⟩
    have hlin : Hid (∀ j (hj : j < N.ins.length), L[1 + j]? = some (busS sInput N.ins[j])) := Lib.hid (fun j hj => by rw [← hL]; exact linesL_in N hj)
    have hlrg : Hid (∀ j (hj : j < N.regs.length), L[1 + ni + j]? = some (regS N.regs[j])) := Lib.hid (fun j hj => by rw [← hL, ← hni]; exact linesL_reg N hj)
    have hlgt : Hid (∀ j (hj : j < N.g.nodes.length), (nodeAt N.g j).gate = true → L[1 + ni + nr + (gatesL N.g j).length]? = some (gateS N.g j)) := Lib.hid (fun j hj hgt => by rw [← hL, ← hni, ← hnr]; exact linesL_gate N hj hgt)
    have hlou : Hid (∀ j (hj : j < N.outs.length), L[1 + ni + nr + ng + j]? = some (busS sOutput N.outs[j])) := Lib.hid (fun j hj => by rw [← hL, ← hni, ← hnr, ← hng, ← hnn]; exact linesL_out N hj)
    have hlen2 : Hid (L[1 + ni + nr + ng + no]? = some (spellS [sEnd])) := Lib.hid (by rw [← hL, ← hni, ← hnr, ← hng, ← hnn, ← hno]; exact linesL_end N)
    rw [hnn] at hlen hgl hsg g2
    rw [hng] at hlen hgl
    rw [hni] at hlen hsi a2 hI
    rw [hnr] at hlen hsr a3 hR
    rw [hno] at hlen hso a4 hO
    have hng := Lib.hid hng
    have hni := Lib.hid hni
    have hnr := Lib.hid hnr
    have hno := Lib.hid hno
    have hnn := Lib.hid hnn
    have hgs := Lib.hid (gatesL_succ N.g)
    have hgb := Lib.hid (gatesL_len N.g)
    have hpos : 1 ≤ nn := by have := hok.out.wf.pos; rw [hnn.out] at this; exact this
    have hg1 : (gatesL N.g 1).length = 0 := by
      have h0 := hok.out.wf.zero
      have h1 : (nodeAt N.g 0).gate = false := by
        unfold nodeAt
        rw [List.getD_eq_getElem?_getD, h0]
        rfl
      have h2 := gatesL_succ N.g 0
      rw [h1] at h2
      rw [h2]
      rfl
    have hLe : L.take (1 + ni + nr + ng + no + 1) = L := by rw [← hL]; exact List.take_of_length_le (by omega)
    have hed := Lib.hid (congrArg Value.string end_doc)
    obtain ⟨i0, hin, hz0, hz1, hz2⟩ := info_parts info_strt
    rw [hL] at hl0 hlen ⊢
    clear h hg hS e1 e2 e3 hL hz
    go_enter Tryz.func13, Tryz.ntmps13
    go_wp2_with (first
      | (go_at_call 43; (with_reducible refine hck.out.mono ?_); rintro e w2 ⟨rfl, hb2⟩; have b1 := stepc hb2 hlt a1; have hB2 := Lib.hid hb2; clear hb2)
      | (at_builtin; refine wpList_append_lies _ rfl _ _ 37 rfl w.heap.size 9 i0 (.string ByteArray.empty) 1 16 Tryz.underlying37 hin hz0 hz1 hz2 rfl (by decide) (.slice none 0 0) 0 [] rfl (own_nil _ _ _) ⟨w2.heap.size, 0, none⟩ 1 1 [.string _] rfl rfl (news1 _ _ _) (by simp [Value.oneCell']) (by decide) (by unfold maxLen; omega) (by omega) (by have := hB2.out.size; simp; omega) _ rfl ?_; intro g3 cap3 w3 hown3 hgrow3 hat3 hlt3))
    have hB3 := Lib.hid ((hB2.out.alloc hB2.out.size _).grown hgrow3 (hB2.out.alloc hB2.out.size _).size (fun k hk => by simp [Value.ownBlock] at hk))
    have hT0 : Hid (w3.ownsRow w.heap.size 9 1 (.slice (some ⟨g3, 0, none⟩) 1 cap3) (1 + 0) (strs (L.take (1 + 0)))) := Lib.hid (by
      have h1 := hl0.out
      rw [← hmd.out] at h1
      rw [show 1 + 0 = 0 + 1 by rfl, h1]
      exact hown3)
    clear hown3 hgrow3 hat3 hlt3 hl0 hmd b1 a1 hck
    go_loopw [3, 4] (fun v i wr => ∃ j : Nat, j ≤ ni ∧ i = .int .i64 j ∧ Hid (wr.ownsRow w.heap.size 9 1 v (1 + j) (strs (L.take (1 + j)))) ∧ Hid (Below w.heap.size w wr)) (fun _ i _ => ni - (intOf i).toNat)
    case atStart => exact ⟨0, Nat.zero_le _, rfl, hT0, hB3⟩
    case round =>
      clear hT0 hB3
      obtain ⟨j, hj, rfl, ho, hB⟩ := hrel
      have d2 := stepc hB.out hlt a2
      obtain ⟨va, vc, rfl⟩ := own_slice ho.out
      by_cases hlt2 : j < ni
      · have hjl : j < N.ins.length := by rw [hni.out]; exact hlt2
        obtain ⟨g, la, lc, rfl, hgl2, b0, b1, hu⟩ := hI.out.at hjl
        have y0 := stepc hB.out hgl2 b0
        have y1 := stepc hB.out hgl2 b1
        obtain ⟨k1, k2, k3⟩ := hok.out.ins _ (List.getElem_mem hjl)
        have hlb : ∀ x ∈ N.ins[j].lits, 0 ≤ x ∧ x < 4294967296 := fun x hx => by
          obtain ⟨i, hi⟩ := List.getElem?_of_mem hx
          have h3 := k2 i
          rw [List.getD_eq_getElem?_getD, hi] at h3
          exact h3
        have hwl := wordsB_len _ hlb
        have hwd := Lib.hid (fun W (hb : Below w.heap.size w W) => rwords_any (c := lc) ((hu.below hb).row) hlb (by omega))
        have hnx := Lib.hid ((strs_next (hlin.out j hjl)).trans (by rw [← (bus_doc' (s := sInput) (s7 := sInput7) (by rfl) N.ins[j]).out]))
        have hwl2 : (wordsB N.ins[j].lits).length ≤ 64064 := by have := Nat.mul_le_mul_left 1001 k1; omega
        clear b0 b1 k2 hlb hwl hu
        generalize wordsB N.ins[j].lits = T at *
        generalize N.ins[j].name = nm at *
        generalize N.ins[j].lits.length = ll at *
        have hgw := Nat.lt_of_lt_of_le hgl2 hB.out.size
        have hbw := Nat.lt_of_lt_of_le hlt hB.out.size
        have hneB : some B ≠ (Value.slice va (1 + j) vc).ownBlock := fun e => by have := own_ge ho.out B e.symm; omega
        have hneg : some g ≠ (Value.slice va (1 + j) vc).ownBlock := fun e => by have := own_ge ho.out g e.symm; omega
        -- @slow
        go_wp2
        have g1 : ¬ 9223372036854775807 < 7 + nm.size := by omega
        have g2 : ¬ 9223372036854775807 < 7 + nm.size + T.length := by omega
        go_region_held3 (fun w' => w'.cell? ⟨B, 2, none⟩ = some (.slice (some ⟨g, 0, none⟩) ni ic) ∧ w'.cell? ⟨g, j * 2, none⟩ = some (.string nm) ∧ w'.cell? ⟨g, j * 2 + 1, none⟩ = some (.slice la ll lc)) (go_keep)
          (first | (go_at_call 44; (with_reducible refine (hwd.out wr.drew hB.out.drew).mono ?_); rintro e w5 ⟨rfl, hb5⟩; have hb5 := nextw (Below.refl wr.heap.size wr).drew hb5; have u2 := stepc hb5 hbw d2; have u0 := stepc hb5 hgw y0; have u1 := stepc hb5 hgw y1; have ho5 := Lib.hid (own_below ho.out hb5); have hB5 := Lib.hid (nextw hB.out hb5); clear hb5) | (refine step_append_lies _ (by rfl) (.tmp 32) (.tmp 52) _ (by rfl) w.heap.size 9 i0 (.string ByteArray.empty) 1 16 Tryz.underlying37 hin hz0 hz1 hz2 rfl (by decide) (.slice va (1 + j) vc) (1 + j) _ (by rfl) (ho5.out.alloc _) _ 1 1 [.string ((sInput7 ++ nm) ++ ⟨T.toArray⟩)] (by rfl) rfl (news_at (by go_simp)) (by simp [Value.oneCell']) (by decide) (by unfold maxLen; omega) (by omega) (by have := hB5.out.size; simp; omega) _ rfl ?_; intro g7 cap7 w7 hown7 hgrow7 hat7 hlt7; have t2 := hgrow7.cell (cell_alloc_m _ u2) hneB; have t0 := hgrow7.cell (cell_alloc_m _ u0) hneg; have t1 := hgrow7.cell (cell_alloc_m _ u1) hneg; have hB7 := Lib.hid ((hB5.out.alloc hB5.out.size _).grown hgrow7 (hB5.out.alloc hB5.out.size _).size (fun k hk => own_ge ho5.out k hk)); rw [← hnx.out] at hown7; have hown7 := Lib.hid hown7; clear hgrow7 hat7 hlt7))
        all_goals go_wp2
        all_goals exact ⟨⟨j + 1, by omega, by go_num, hown7, hB7⟩, by simp [intOf]; omega⟩
        -- @end
      · obtain rfl : j = ni := by omega
        clear hI hlin
        have d3 := stepc hB.out hlt a3
        go_wp2
        go_loopw [3, 5, 6, 7] (fun v i _ _ wr => ∃ k : Nat, k ≤ nr ∧ i = .int .i64 k ∧ Hid (wr.ownsRow w.heap.size 9 1 v (1 + j + k) (strs (L.take (1 + j + k)))) ∧ Hid (Below w.heap.size w wr)) (fun _ i _ _ _ => nr - (intOf i).toNat)
        case atStart => exact ⟨0, Nat.zero_le _, rfl, ho, hB⟩
        case round =>
          clear ho hB d2 d3
          obtain ⟨k, hk, rfl, ho, hB⟩ := hrel
          have d3 := stepc hB.out hlt a3
          obtain ⟨va, vc, rfl⟩ := own_slice ho.out
          by_cases hlt2 : k < nr
          · have hkl : k < N.regs.length := by rw [hnr.out]; exact hlt2
            obtain ⟨g, rfl, hgl2, b0, b1, b2, b3⟩ := hR.out.at hkl
            have y0 := stepc hB.out hgl2 b0
            have y1 := stepc hB.out hgl2 b1
            have y2 := stepc hB.out hgl2 b2
            have y3 := stepc hB.out hgl2 b3
            obtain ⟨k1, k2, k3⟩ := hok.out.regs _ (List.getElem_mem hkl)
            have hnx := Lib.hid (strs_next (hlrg.out k hkl))
            have hB := Lib.hid hB.out
            clear b0 b1 b2 b3
            generalize N.regs[k] = r at *
            have hrd := Lib.hid (reg_doc r)
            obtain ⟨rq, rd, re, ri⟩ := r
            simp only [] at y0 y1 y2 y3 k1 k2 k3 hrd
            cases ri
            · have hl4 : ∀ x ∈ [rq, rd, re, 0], 0 ≤ x ∧ x < 4294967296 := by
                intro x hx
                simp only [List.mem_cons, List.not_mem_nil, or_false] at hx
                rcases hx with rfl | rfl | rfl | rfl
                · exact k1
                · exact k2
                · exact k3
                · omega
              have hwd := Lib.hid (fun W a (hu : Row .u32 W a 4 [rq, rd, re, 0]) => rwords_any (c := 4) hu hl4 (by omega))
              have hwl2 : (wordsB [rq, rd, re, 0]).length ≤ 4004 := wordsB_len _ hl4
              have hrd := Lib.hid (show sLatch ++ (⟨(wordsB [rq, rd, re, 0]).toArray⟩ : ByteArray) = _ from hrd.out)
              rw [← hrd.out] at hnx
              clear hl4 hrd
              generalize wordsB [rq, rd, re, 0] = T at *
              go_wp2_with (first
                | (go_at_call 44; refine (hwd.out _ _ (row_four' _ _ _ _ _ _ _ (by simp))).mono ?_; rintro e w5 ⟨rfl, hb5⟩; have ho5 := Lib.hid (own_below ((ho.out.alloc _).alloc _) hb5); have hB5 := Lib.hid (nextw ((hB.out.alloc hB.out.size _).alloc (hB.out.alloc hB.out.size _).size _) hb5); clear hb5)
                | (at_builtin; refine wpList_append_lies _ rfl _ _ 37 rfl w.heap.size 9 i0 (.string ByteArray.empty) 1 16 Tryz.underlying37 hin hz0 hz1 hz2 rfl (by decide) (.slice va (1 + j + k) vc) (1 + j + k) _ rfl (ho5.out.alloc _) ⟨w5.heap.size, 0, none⟩ 1 1 [.string _] rfl rfl (news1 _ _ _) (by simp [Value.oneCell']) (by decide) (by unfold maxLen; omega) (by omega) (by have := hB5.out.size; simp; omega) _ rfl ?_; intro g7 cap7 w7 hown7 hgrow7 hat7 hlt7; have hB7 := Lib.hid ((hB5.out.alloc hB5.out.size _).grown hgrow7 (hB5.out.alloc hB5.out.size _).size (fun k hk => own_ge ho5.out k hk)); rw [← hnx.out] at hown7; have hown7 := Lib.hid hown7; clear hgrow7 hat7 hlt7))
              exact ⟨⟨k + 1, by omega, by go_num, hown7, hB7⟩, by simp [intOf]; omega⟩
            · have hl4 : ∀ x ∈ [rq, rd, re, 1], 0 ≤ x ∧ x < 4294967296 := by
                intro x hx
                simp only [List.mem_cons, List.not_mem_nil, or_false] at hx
                rcases hx with rfl | rfl | rfl | rfl
                · exact k1
                · exact k2
                · exact k3
                · omega
              have hwd := Lib.hid (fun W a (hu : Row .u32 W a 4 [rq, rd, re, 1]) => rwords_any (c := 4) hu hl4 (by omega))
              have hwl2 : (wordsB [rq, rd, re, 1]).length ≤ 4004 := wordsB_len _ hl4
              have hrd := Lib.hid (show sLatch ++ (⟨(wordsB [rq, rd, re, 1]).toArray⟩ : ByteArray) = _ from hrd.out)
              rw [← hrd.out] at hnx
              clear hl4 hrd
              generalize wordsB [rq, rd, re, 1] = T at *
              go_wp2_with (first
                | (go_at_call 44; refine (hwd.out _ _ (row_four' _ _ _ _ _ _ _ (by simp))).mono ?_; rintro e w5 ⟨rfl, hb5⟩; have ho5 := Lib.hid (own_below ((ho.out.alloc _).alloc _) hb5); have hB5 := Lib.hid (nextw ((hB.out.alloc hB.out.size _).alloc (hB.out.alloc hB.out.size _).size _) hb5); clear hb5)
                | (at_builtin; refine wpList_append_lies _ rfl _ _ 37 rfl w.heap.size 9 i0 (.string ByteArray.empty) 1 16 Tryz.underlying37 hin hz0 hz1 hz2 rfl (by decide) (.slice va (1 + j + k) vc) (1 + j + k) _ rfl (ho5.out.alloc _) ⟨w5.heap.size, 0, none⟩ 1 1 [.string _] rfl rfl (news1 _ _ _) (by simp [Value.oneCell']) (by decide) (by unfold maxLen; omega) (by omega) (by have := hB5.out.size; simp; omega) _ rfl ?_; intro g7 cap7 w7 hown7 hgrow7 hat7 hlt7; have hB7 := Lib.hid ((hB5.out.alloc hB5.out.size _).grown hgrow7 (hB5.out.alloc hB5.out.size _).size (fun k hk => own_ge ho5.out k hk)); rw [← hnx.out] at hown7; have hown7 := Lib.hid hown7; clear hgrow7 hat7 hlt7))
              exact ⟨⟨k + 1, by omega, by go_num, hown7, hB7⟩, by simp [intOf]; omega⟩
          · obtain rfl : k = nr := by omega
            clear hR hlrg
            have d0 := stepc hB.out hlt a0
            have g3 := stepc hB.out hglt g2
            go_wp2
            go_loopw [3, 8, 9] (fun v i _ wr => ∃ m : Nat, 1 ≤ m ∧ m ≤ nn ∧ i = .int .i64 m ∧ Hid (wr.ownsRow w.heap.size 9 1 v (1 + j + k + (gatesL N.g m).length) (strs (L.take (1 + j + k + (gatesL N.g m).length)))) ∧ Hid (Below w.heap.size w wr)) (fun _ i _ _ => nn - (intOf i).toNat)
            case atStart => exact ⟨1, Nat.le_refl _, hpos, rfl, Lib.hid (by rw [hg1]; exact ho.out), hB⟩
            case round =>
              clear ho hB d0 d3 g3
              obtain ⟨m, hm1, hm2, rfl, ho, hB⟩ := hrel
              have d0 := stepc hB.out hlt a0
              have g3 := stepc hB.out hglt g2
              obtain ⟨va, vc, rfl⟩ := own_slice ho.out
              have hgbm := hgb.out m
              by_cases hlt2 : m < nn
              · have hml : m < N.g.nodes.length := by rw [hnn.out]; exact hlt2
                obtain ⟨b0, b1, b2⟩ := hnode.out m (by omega) hml
                have y0 := stepc hB.out hnglt b0
                have y1 := stepc hB.out hnglt b1
                have y2 := stepc hB.out hnglt b2
                have hna : N.g.nodes.getD m ⟨false, 0, 0⟩ = nodeAt N.g m := rfl
                rw [hna] at y0 y1 y2
                clear b0 b1 b2 hna
                have hgm := hgs.out m
                by_cases hgt : (nodeAt N.g m).gate = true
                · have hnx := Lib.hid (strs_next (hlgt.out m hml hgt))
                  obtain ⟨k1, k2⟩ := nodeAt_lits hok.out.wf hok.out.few hml hgt
                  have hgd := Lib.hid (gate_doc N.g m)
                  rw [hgt] at y0
                  rw [if_pos hgt] at hgm
                  have hgm := congrArg List.length hgm
                  rw [List.length_append] at hgm
                  have hgm := Lib.hid hgm
                  have hx2 : IntKind.u32.wrap (2 * (m : Int)) = 2 * (m : Int) := by rw [IntKind.wrap_u32]; omega
                  rw [← hgd.out] at hnx
                  generalize (nodeAt N.g m).a = na at *
                  generalize (nodeAt N.g m).b = nb at *
                  have hl3 : ∀ x ∈ [2 * (m : Int), na, nb], 0 ≤ x ∧ x < 4294967296 := by
                    intro x hx
                    simp only [List.mem_cons, List.not_mem_nil, or_false] at hx
                    rcases hx with rfl | rfl | rfl
                    · omega
                    · exact k1
                    · exact k2
                  have hwd := Lib.hid (fun W a (hu : Row .u32 W a 3 [2 * (m : Int), na, nb]) => rwords_any (c := 3) hu hl3 (by omega))
                  have hwl2 : (wordsB [2 * (m : Int), na, nb]).length ≤ 3003 := wordsB_len _ hl3
                  clear hl3 hgd hgt
                  generalize wordsB [2 * (m : Int), na, nb] = T at *
                  generalize (gatesL N.g m).length = gl at *
                  go_wp2_with (first
                    | (go_at_call 44; refine (hwd.out _ _ (row_three' _ _ _ _ _ _ (by simp))).mono ?_; rintro e w5 ⟨rfl, hb5⟩; have ho5 := Lib.hid (own_below ((ho.out.alloc _).alloc _) hb5); have hB5 := Lib.hid (nextw ((hB.out.alloc hB.out.size _).alloc (hB.out.alloc hB.out.size _).size _) hb5); clear hb5)
                    | (at_builtin; refine wpList_append_lies _ rfl _ _ 37 rfl w.heap.size 9 i0 (.string ByteArray.empty) 1 16 Tryz.underlying37 hin hz0 hz1 hz2 rfl (by decide) (.slice va (1 + j + k + gl) vc) (1 + j + k + gl) _ rfl (ho5.out.alloc _) ⟨w5.heap.size, 0, none⟩ 1 1 [.string _] rfl rfl (news1 _ _ _) (by simp [Value.oneCell']) (by decide) (by unfold maxLen; omega) (by omega) (by have := hB5.out.size; simp; omega) _ rfl ?_; intro g7 cap7 w7 hown7 hgrow7 hat7 hlt7; have hB7 := Lib.hid ((hB5.out.alloc hB5.out.size _).grown hgrow7 (hB5.out.alloc hB5.out.size _).size (fun kk hk => own_ge ho5.out kk hk)); rw [← hnx.out] at hown7; have hown7 := Lib.hid hown7; clear hgrow7 hat7 hlt7))
                  exact ⟨⟨m + 1, by omega, by omega, by go_num, Lib.hid (by rw [hgm.out]; exact hown7.out), hB7⟩, by simp [intOf]; omega⟩
                · have hgt : (nodeAt N.g m).gate = false := by simpa using hgt
                  rw [hgt] at y0
                  rw [if_neg (by simp [hgt]), List.append_nil] at hgm
                  have hgm := Lib.hid hgm
                  clear hgt
                  generalize (nodeAt N.g m).a = na at *
                  generalize (nodeAt N.g m).b = nb at *
                  go_wp2
                  exact ⟨⟨m + 1, by omega, by omega, by go_num, Lib.hid (by rw [hgm.out]; exact ho.out.alloc _), Lib.hid (hB.out.alloc hB.out.size _)⟩, by simp [intOf]; omega⟩
              · obtain rfl : m = nn := by omega
                clear hnode hlgt hgs hgb hgbm
                have ho := Lib.hid (show wr.ownsRow w.heap.size 9 1 (.slice va (1 + j + k + (gatesL N.g m).length) vc) (1 + j + k + ng) (strs (L.take (1 + j + k + ng))) by rw [← hng.out]; exact ho.out)
                have d4 := stepc hB.out hlt a4
                go_wp2
                go_loopw [3, 10] (fun v i wr => ∃ l : Nat, l ≤ no ∧ i = .int .i64 l ∧ Hid (wr.ownsRow w.heap.size 9 1 v (1 + j + k + ng + l) (strs (L.take (1 + j + k + ng + l)))) ∧ Hid (Below w.heap.size w wr)) (fun _ i _ => no - (intOf i).toNat)
                case atStart => exact ⟨0, Nat.zero_le _, rfl, ho, hB⟩
                case round =>
                  clear ho hB d0 d4 g3
                  obtain ⟨l, hl, rfl, ho, hB⟩ := hrel
                  have d4 := stepc hB.out hlt a4
                  obtain ⟨va, vc, rfl⟩ := own_slice ho.out
                  by_cases hlt2 : l < no
                  · have hjl : l < N.outs.length := by rw [hno.out]; exact hlt2
                    obtain ⟨g, la, lc, rfl, hgl2, b0, b1, hu⟩ := hO.out.at hjl
                    have y0 := stepc hB.out hgl2 b0
                    have y1 := stepc hB.out hgl2 b1
                    obtain ⟨k1, k2, k3⟩ := hok.out.outs _ (List.getElem_mem hjl)
                    have hlb : ∀ x ∈ N.outs[l].lits, 0 ≤ x ∧ x < 4294967296 := fun x hx => by
                      obtain ⟨i, hi⟩ := List.getElem?_of_mem hx
                      have h3 := k2 i
                      rw [List.getD_eq_getElem?_getD, hi] at h3
                      exact h3
                    have hwl := wordsB_len _ hlb
                    have hwd := Lib.hid (fun W (hb : Below w.heap.size w W) => rwords_any (c := lc) ((hu.below hb).row) hlb (by omega))
                    have hnx := Lib.hid ((strs_next (hlou.out l hjl)).trans (by rw [← (bus_doc' (s := sOutput) (s7 := sOutput7) (by rfl) N.outs[l]).out]))
                    have hwl2 : (wordsB N.outs[l].lits).length ≤ 64064 := by have := Nat.mul_le_mul_left 1001 k1; omega
                    clear b0 b1 k2 hlb hwl hu
                    generalize wordsB N.outs[l].lits = T at *
                    generalize N.outs[l].name = nm at *
                    generalize N.outs[l].lits.length = ll at *
                    have hgw := Nat.lt_of_lt_of_le hgl2 hB.out.size
                    have hbw := Nat.lt_of_lt_of_le hlt hB.out.size
                    have hneB : some B ≠ (Value.slice va (1 + j + k + ng + l) vc).ownBlock := fun e => by have := own_ge ho.out B e.symm; omega
                    have hneg : some g ≠ (Value.slice va (1 + j + k + ng + l) vc).ownBlock := fun e => by have := own_ge ho.out g e.symm; omega
                    -- @slow
                    go_wp2
                    have g1 : ¬ 9223372036854775807 < 8 + nm.size := by omega
                    have g2 : ¬ 9223372036854775807 < 8 + nm.size + T.length := by omega
                    go_region_held3 (fun w' => w'.cell? ⟨B, 4, none⟩ = some (.slice (some ⟨g, 0, none⟩) no oc) ∧ w'.cell? ⟨g, l * 2, none⟩ = some (.string nm) ∧ w'.cell? ⟨g, l * 2 + 1, none⟩ = some (.slice la ll lc)) (go_keep)
                      (first | (go_at_call 44; (with_reducible refine (hwd.out wr.drew hB.out.drew).mono ?_); rintro e w5 ⟨rfl, hb5⟩; have hb5 := nextw (Below.refl wr.heap.size wr).drew hb5; have u2 := stepc hb5 hbw d4; have u0 := stepc hb5 hgw y0; have u1 := stepc hb5 hgw y1; have ho5 := Lib.hid (own_below ho.out hb5); have hB5 := Lib.hid (nextw hB.out hb5); clear hb5) | (refine step_append_lies _ (by rfl) (.tmp 132) (.tmp 152) _ (by rfl) w.heap.size 9 i0 (.string ByteArray.empty) 1 16 Tryz.underlying37 hin hz0 hz1 hz2 rfl (by decide) (.slice va (1 + j + k + ng + l) vc) (1 + j + k + ng + l) _ (by rfl) (ho5.out.alloc _) _ 1 1 [.string ((sOutput7 ++ nm) ++ ⟨T.toArray⟩)] (by rfl) rfl (news_at (by go_simp)) (by simp [Value.oneCell']) (by decide) (by unfold maxLen; omega) (by omega) (by have := hB5.out.size; simp; omega) _ rfl ?_; intro g7 cap7 w7 hown7 hgrow7 hat7 hlt7; have t2 := hgrow7.cell (cell_alloc_m _ u2) hneB; have t0 := hgrow7.cell (cell_alloc_m _ u0) hneg; have t1 := hgrow7.cell (cell_alloc_m _ u1) hneg; have hB7 := Lib.hid ((hB5.out.alloc hB5.out.size _).grown hgrow7 (hB5.out.alloc hB5.out.size _).size (fun kk hk => own_ge ho5.out kk hk)); rw [← hnx.out] at hown7; have hown7 := Lib.hid hown7; clear hgrow7 hat7 hlt7))
                    all_goals go_wp2
                    all_goals exact ⟨⟨l + 1, by omega, by go_num, hown7, hB7⟩, by simp [intOf]; omega⟩
                    -- @end
                  · obtain rfl : l = no := by omega
                    have hnx := Lib.hid (strs_next hlen2.out)
                    rw [← end_doc] at hnx
                    go_wp2_with (at_builtin; refine wpList_append_lies _ rfl _ _ 37 rfl w.heap.size 9 i0 (.string ByteArray.empty) 1 16 Tryz.underlying37 hin hz0 hz1 hz2 rfl (by decide) (.slice va (1 + j + k + ng + l) vc) (1 + j + k + ng + l) _ rfl (ho.out.alloc _) ⟨wr.heap.size, 0, none⟩ 1 1 [.string _] rfl rfl (news1 _ _ _) (by simp [Value.oneCell']) (by decide) (by unfold maxLen; omega) (by omega) (by have := hB.out.size; simp; omega) _ rfl ?_; intro g7 cap7 w7 hown7 hgrow7 hat7 hlt7; have hB7 := Lib.hid ((hB.out.alloc hB.out.size _).grown hgrow7 (hB.out.alloc hB.out.size _).size (fun kk hk => own_ge ho.out kk hk)); rw [← hnx.out, hLe] at hown7; have hown7 := Lib.hid hown7; clear hgrow7 hat7 hlt7)
                    go_ret
                    exact ⟨_, rfl, by rw [hlen]; exact hown7.out, hB7.out⟩
  · rw [if_neg hz]
    generalize ckV rest = ck at *
    clear h hg hS
    go_enter Tryz.func13, Tryz.ntmps13
    go_wp2_with (go_at_call 43; (with_reducible refine hck.out.mono ?_); rintro e w2 ⟨rfl, hb2⟩)
    go_ret
    exact ⟨_, rfl, own_nil _ _ _, hb2⟩
end Go.Proofs.YtafoohdndlhbnaaGreatDoor
end
