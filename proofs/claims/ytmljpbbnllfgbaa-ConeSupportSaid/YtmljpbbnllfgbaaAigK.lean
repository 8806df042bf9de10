/-
  Eval: the walk.
-/
import Derived.Test.YtmljpbbnllfgbaaAigJ
import Derived.Test.YtmljpbbnllfgbaaAigP
namespace Go.Proofs.Ytmljpbbnllfgbaa
open Go.RowKit Go.Maps

theorem info_u64 : (Try.prog.info? 56).map (fun i => (i.zero, i.size, i.bytes)) = some (some (.int .u64 0), 1, 8) := by kernel_rfl
theorem made_zero (kd : IntKind) (n : Nat) : (madeCells (Value.int kd 0).cells (n * 1)).toList = (List.replicate n (0 : Int)).map (Value.int kd) := by
  rw [fillK_zero kd (fun _ => 0) n]
  congr 1
  apply List.ext_getElem
  · simp [fillF, Bits.row]
  · intro i h1 h2; simp [fillF, Bits.row]

theorem node_cells {w : World} {p : Pl} {G : Gr} (hL : Lay w p G.fold G.hash G.nodes G.inputs) {j : Nat} (hj : j < G.nodes.length) :
    w.cell? ⟨p.nb, j * 3, none⟩ = some (.bool (nodeAt G j).gate) ∧ w.cell? ⟨p.nb, j * 3 + 1, none⟩ = some (.int .u32 (nodeAt G j).a) ∧ w.cell? ⟨p.nb, j * 3 + 2, none⟩ = some (.int .u32 (nodeAt G j).b) := by
  have hn : G.nodes[j]? = some (nodeAt G j) := by simp [nodeAt, List.getD, hj]
  obtain ⟨e0, e1, e2⟩ := nodeCells_at _ _ _ hn
  have ho : w.ownsRow 0 88 3 (.slice (some ⟨p.nb, 0, none⟩) G.nodes.length p.nc) G.nodes.length (nodeCells G.nodes) := hL.nodes
  rw [ho.cellAt _ (by omega), ho.cellAt _ (by omega), ho.cellAt _ (by omega), Nat.mul_comm j 3]
  exact ⟨e0, e1, e2⟩

theorem tri_box (w : World) (x y z : Value) (T : Nat) : (w.alloc (.cells #[x, y, z] T)).cell? ⟨w.heap.size, 1, none⟩ = some y ∧ (w.alloc (.cells #[x, y, z] T)).cell? ⟨w.heap.size, 2, none⟩ = some z := ⟨by simp [go_sem], by simp [go_sem]⟩

set_option maxRecDepth 100000 in
set_option maxHeartbeats 1000000 in
theorem Eval_any {w : World} {p : Pl} {G : Gr} (hG : Is w p G) (hW : Wf G) (hm : G.nodes.length ≤ 200000) {a : Option Addr} {cap : Nat} {ins : List Int} (hs : Row .u64 w a G.inputs.length ins) (hI : Words ins) :
    Calls Try.prog 49 #[.pointer (some ⟨p.b, 0, none⟩), .slice a G.inputs.length cap] w fun e w' => ∃ (ws : List Int), e = .returned (.tuple #[.slice (some ⟨w.heap.size, 0, none⟩) G.nodes.length G.nodes.length, .int .i64 0])
      ∧ w'.ownsRow w.heap.size 56 1 (.slice (some ⟨w.heap.size, 0, none⟩) G.nodes.length G.nodes.length) G.nodes.length (ws.map (Value.int .u64)) ∧ ws.length = G.nodes.length ∧ Val G ins ws ∧ Below w.heap.size w w' := by
  have h0 := hW.pos
  have hcn := hW.cnt
  have hst := Lib.hid (stands_any hG.lay h0)
  obtain ⟨-, -, c2, c3, -, -⟩ := hG.lay.cells
  obtain ⟨ia, ic, hiv⟩ := own_slice hG.lay.inputs
  rw [hiv] at c3
  have HL := Lib.hid hG.lay
  have hlt := hG.lay.lt
  have hnl := hG.lay.nlt
  have HIV := Lib.hid hiv
  have HS := Lib.hid hs
  have HV := Lib.hid (ev_val hW hI)
  have HW := Lib.hid hW
  have HI := Lib.hid hI
  have hz := Lib.hid (made_zero .u64 G.nodes.length)
  have hin0 := Lib.hid (show in1 G ins 0 = List.replicate G.nodes.length 0 from rfl)
  obtain ⟨i0, hi, hz0, hz1, hz2⟩ := info_parts info_u64
  have hmi : G.inputs.length ≤ 200000 := by omega
  have hN := Lib.hid (show ∀ j, nodeAt G j = nodeAt G j from fun _ => rfl)
  clear hG hW hcn hiv hs hI
  go_enter Try.func49, Try.ntmps49
  go_wp2_with (first
    | (go_at_call 37; refine hst.out.mono ?_; rintro e w2 ⟨rfl, rfl⟩)
    | (at_make; refine wpList_make_full _ rfl _ _ 26 rfl w.heap.size 56 i0 (.int .u64 0) 1 Try.underlying26 hi hz0 hz1 .i64 .i64 G.nodes.length G.nodes.length G.nodes.length rfl rfl rfl rfl (by rw [hz2]; omega) (by unfold maxLen; omega) (Nat.le_refl _) ?_; intro w1 hown hg; have hB1 : Below w.heap.size w w1 := (Below.refl _ _).grown hg (Nat.le_refl _) (fun _ h => by cases h); have d2 := stepc hB1 hlt c2; have d3 := stepc hB1 hlt c3))
  go_loopw [33] (fun i wr => ∃ j : Nat, j ≤ G.inputs.length ∧ i = .int .i64 j ∧ Hid (wr.ownsRow w.heap.size 56 1 (.slice (some ⟨w.heap.size, 0, none⟩) G.nodes.length G.nodes.length) G.nodes.length ((in1 G ins j).map (Value.int .u64))) ∧ Below w.heap.size w wr) (fun i _ => G.inputs.length - (intOf i).toNat)
  case atStart => exact ⟨0, Nat.zero_le _, rfl, Lib.hid (by rw [hin0.out, ← hz.out]; exact hown), hB1⟩
  case round =>
    clear hown hg hB1 d2 d3
    obtain ⟨j, hj, rfl, ho, hB⟩ := hrel
    by_cases hjm : j < G.inputs.length
    · obtain ⟨ib, ic2, hif⟩ := own_form HL.out.inputs (by omega)
      have hif2 := HIV.out.symm.trans hif
      simp at hif2
      obtain ⟨rfl, rfl⟩ := hif2
      have hio : w.ownsRow 0 3 1 (.slice (some ⟨ib, 0, none⟩) G.inputs.length ic) G.inputs.length (G.inputs.map (Value.int .i64)) := by have := HL.out.inputs; rw [HIV.out] at this; exact this
      have hib := own_lt hio
      have hg1 : G.inputs[j]? = some (G.inputs.getD j 0) := by simp [List.getD, hjm]
      have e1 : w.cell? ⟨ib, j, none⟩ = some (.int .i64 (G.inputs.getD j 0)) := by rw [hio.cellAt j (by omega), List.getElem?_map, hg1]; rfl
      obtain ⟨mi, em, m0, nd, hnd, -⟩ := HW.out.ins j _ hg1
      have hml := (List.getElem?_eq_some_iff.1 hnd).1
      rw [em] at e1
      have e1 := stepc hB hib e1
      obtain ⟨b, off, rfl, hb, hc⟩ := HS.out.at (by omega)
      have e2 := stepc hB hb (hc j hjm)
      have hvb := HI.out j
      have hsu : Hid (in1 G ins (j + 1) = (in1 G ins j).set mi (ins.getD j 0)) := Lib.hid (by show (in1 G ins j).set (G.inputs.getD j 0).toNat (ins.getD j 0) = _; rw [em, Int.toNat_natCast])
      have hfr := ho.out.frozenAt mi
      obtain ⟨u, hu⟩ := own_some ho.out hml
      have hst2 := Lib.hid (ho.out.stored mi (.int .u64 (ins.getD j 0))).1
      generalize ins.getD j 0 = v at *
      clear hc hio hif em
      go_wp2
      go_roundw
      case rel =>
        refine ⟨j + 1, by omega, by go_num, ?_, hB.setCell (Nat.le_refl _) _⟩
        have e := hst2.out
        rw [← List.map_set, ← hsu.out] at e
        exact Lib.hid e
      case measure => simp [intOf]; omega
    · obtain rfl : j = G.inputs.length := by omega
      have d2 := stepc hB hlt c2
      have d3 := stepc hB hlt c3
      go_wp2
      go_loopw [51] (fun i wr2 => ∃ j : Nat, j ≤ G.nodes.length ∧ i = .int .i64 j ∧ Hid (wr2.ownsRow w.heap.size 56 1 (.slice (some ⟨w.heap.size, 0, none⟩) G.nodes.length G.nodes.length) G.nodes.length ((ev G (in1 G ins G.inputs.length) j).map (Value.int .u64))) ∧ Below w.heap.size w wr2) (fun i _ => G.nodes.length - (intOf i).toNat)
      case atStart => exact ⟨0, Nat.zero_le _, rfl, ho, hB⟩
      case round =>
        clear hB ho d2 d3
        obtain ⟨j, hj, rfl, ho, hB⟩ := hrel
        by_cases hjn : j < G.nodes.length
        · obtain ⟨n0, n1, n2⟩ := node_cells HL.out hjn
          have n0 := stepc hB hnl n0
          have n1 := stepc hB hnl n1
          have n2 := stepc hB hnl n2
          have hel : (ev G (in1 G ins G.inputs.length) j).length = G.nodes.length := by rw [ev_len, in1_len]
          have hsu : Hid (ev G (in1 G ins G.inputs.length) (j + 1) = if (nodeAt G j).gate then (ev G (in1 G ins G.inputs.length) j).set j (gateW G j (ev G (in1 G ins G.inputs.length) j)) else ev G (in1 G ins G.inputs.length) j) := Lib.hid rfl
          have hwd := Lib.hid (ev_words G (in1_words G HI.out G.inputs.length) j)
          have hlit : Hid ((nodeAt G j).gate = true → IsLit (nodeAt G j).a ∧ IsLit (nodeAt G j).b) := Lib.hid (fun hg => by obtain ⟨x, y, -⟩ := HW.out.gates j _ (by simp [nodeAt, List.getD, hjn]) hg; exact ⟨x, y⟩)
          have hel := Lib.hid hel
          have hwz := hB.size
          unfold gateW at hsu
          generalize (nodeAt G j).gate = ng at *
          generalize (nodeAt G j).a = na at *
          generalize (nodeAt G j).b = nb at *
          generalize ev G (in1 G ins G.inputs.length) j = E at *
          cases ng with
          | false =>
            go_wp2
            go_roundw
            case rel =>
              refine ⟨j + 1, by omega, by go_num, ?_, hB.alloc hwz _⟩
              rw [hsu.out]; exact Lib.hid (ho.out.alloc _)
            case measure => simp [intOf]; omega
          | true =>
            go_wp2
            obtain ⟨w3, hw3, x1, x2, hO3, hB3⟩ : ∃ w3, w3 = wr.alloc (Obj.cells #[Value.bool true, Value.int IntKind.u32 na, Value.int IntKind.u32 nb] 88) ∧ w3.cell? ⟨wr.heap.size, 1, none⟩ = some (.int .u32 na) ∧ w3.cell? ⟨wr.heap.size, 2, none⟩ = some (.int .u32 nb)
                ∧ Hid (w3.ownsRow w.heap.size 56 1 (.slice (some ⟨w.heap.size, 0, none⟩) G.nodes.length G.nodes.length) G.nodes.length (E.map (Value.int .u64))) ∧ Hid (Below w.heap.size w w3) :=
              ⟨_, rfl, (tri_box _ _ _ _ _).1, (tri_box _ _ _ _ _).2, Lib.hid (ho.out.alloc _), Lib.hid (hB.alloc hwz _)⟩
            rw [← hw3]
            have hrow : Row .u64 w3.drew (some ⟨w.heap.size, 0, none⟩) G.nodes.length E := Row.of_own hO3.out.drew hel.out (by omega)
            have hwa := Lib.hid (word_any na _ _ G.nodes.length _ (hlit.out trivial).1 w3.drew hrow hwd.out)
            have hwb := Lib.hid (word_any nb _ _ G.nodes.length _ (hlit.out trivial).2 w3.drew hrow hwd.out)
            have hba := wordV_bd hwd.out na
            have hbb := wordV_bd hwd.out nb
            have hfr := hO3.out.frozenAt j
            obtain ⟨u, hu⟩ := own_some hO3.out hjn
            rw [if_pos trivial] at hsu
            have hst2 := Lib.hid (hO3.out.stored j (.int .u64 (bits .and .u64 (wordV na E) (wordV nb E)))).1
            generalize wordV na E = A at *
            generalize wordV nb E = B at *
            clear hrow hw3 ho n0 n1 n2 hB
            go_region_law (first | (go_simp; go_at_call 50; (with_reducible refine hwa.out.mono ?_); rintro e w4 ⟨rfl, rfl⟩) | (go_simp; go_at_call 50; (with_reducible refine hwb.out.mono ?_); rintro e w4 ⟨rfl, rfl⟩))
            all_goals go_wp2
            all_goals go_roundw
            all_goals try (case measure => simp [intOf]; omega)
            all_goals
              refine ⟨j + 1, by omega, by go_num, ?_, (hB3.out.setCell (Nat.le_refl _) _).drew⟩
              have e := hst2.out.drew
              rw [← List.map_set, ← hsu.out] at e
              exact Lib.hid e
        · obtain rfl : j = G.nodes.length := by omega
          have hev := Lib.hid (show (ev G (in1 G ins G.inputs.length) G.nodes.length).length = G.nodes.length by rw [ev_len, in1_len])
          go_wp2
          go_ret2
          exact ⟨_, rfl, ho.out, hev.out, HV.out, hB⟩
end Go.Proofs.Ytmljpbbnllfgbaa
