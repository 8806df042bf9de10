/-
  A new gate: the walk.
-/
import Derived.Test.YtjdebancpgpebaaAigC
namespace Go.Proofs.Ytjdebancpgpebaa
open Go.RowKit Go.Maps
set_option maxRecDepth 100000

theorem gate_any {w : World} {p : Pl} {G : Gr} (hG : Is w p G) (hW : Wf G) (hm : G.nodes.length ≤ 200000) {a b : Int} (ha : IsLit a) (hb : IsLit b) :
    Calls Try.prog 68 #[.pointer (some ⟨p.b, 0, none⟩), .agg #[.int .u32 a, .int .u32 b]] w fun e w' => e = .returned (.tuple #[.int .u32 (2 * (G.nodes.length : Int)), .int .i64 0]) ∧ ∃ p', Step p w p' w' (addN G a b) := by
  have h0 := hW.pos
  have hc := hW.cnt
  have hi : G.inputs.length < G.nodes.length := by omega
  have HG := Lib.hid hG
  have HL := Lib.hid hG.lay
  have hlt := hG.lay.lt
  have hnl := hG.lay.nlt
  cases hH : G.hash with
  | false =>
    have HH := Lib.hid hH
    have HM : Hid (p.m = none) := by have := hG.map; unfold MapIn at this; rw [hH] at this; exact Lib.hid (by simpa using this)
    clear hG hW hc hH
    go_enter Try.func68, Try.ntmps68
    go_wp2_with (first
      | (go_at_call 71; refine (gates_any (HL.out.below ((Below.refl _ _).alloc (Nat.le_refl _) _)) h0 hi (by omega)).mono ?_; rintro e w2 ⟨rfl, hb2⟩; obtain ⟨hB, hz, d0, d1⟩ := box2 hb2; clear hb2)
      | (go_at_call 57; refine (add_any (HL.out.below hB) h0 (by omega) ⟨true, a, b⟩).mono ?_; rintro e w3 ⟨rfl, p', hl3, hk3, eb, ei, em, hnb⟩; have hL3 := Lib.hid hl3; obtain ⟨-, e1, -, -, -, -⟩ := hl3.cells; rw [eb, HH.out] at e1; have hK := Lib.hid hk3; have hN := Lib.hid hnb; have hE := Lib.hid (show p'.b = p.b ∧ p'.iv = p.iv ∧ p'.m = p.m from ⟨eb, ei, em⟩); clear eb ei em hl3 hk3 hnb))
    go_ret2
    refine ⟨rfl, p', ?_⟩
    exact step_node HG.out hB hK.out hE.out.1 hE.out.2.1 hE.out.2.2 hN.out (Kept.refl _ _) (n := ⟨true, a, b⟩) hL3.out (by unfold MapIn; rw [show (addN G a b).hash = false from HH.out]; exact hE.out.2.2.trans HM.out)
  | true =>
    have HH := Lib.hid hH
    have hmap := hG.map
    unfold MapIn at hmap
    rw [if_pos hH] at hmap
    obtain ⟨mb, D, hmb, hown, hD⟩ := hmap
    have HM := Lib.hid hmb
    have HO := Lib.hid hown
    have HD := Lib.hid hD
    cases hf : findG G.nodes a b with
    | some i =>
      have HF := Lib.hid hf
      clear hG hW hc hH hmb hown hD hf
      go_enter Try.func68, Try.ntmps68
      go_wp2_with (first
        | (go_at_call 71; refine (gates_any (HL.out.below ((Below.refl _ _).alloc (Nat.le_refl _) _)) h0 hi (by omega)).mono ?_; rintro e w2 ⟨rfl, hb2⟩; obtain ⟨hB, hz, d0, d1⟩ := box2 hb2; clear hb2)
        | (go_at_call 57; refine (add_any (HL.out.below hB) h0 (by omega) ⟨true, a, b⟩).mono ?_; rintro e w3 ⟨rfl, p', hl3, hk3, eb, ei, em, hnb⟩; have hL3 := Lib.hid hl3; obtain ⟨-, e1, -, -, e4, -⟩ := hl3.cells; rw [eb, HH.out] at e1; rw [eb, em, HM.out] at e4; obtain ⟨es0, cl0, hbk0, -⟩ := HO.out; have hmbl := HO.out.lt; have hO3 := Lib.hid (map_block HO.out ((hk3.block mb (Nat.lt_of_lt_of_le hmbl hB.size) (map_apart HL.out hbk0)).trans (hB.block mb hmbl))); clear hbk0; have hbx := fun o => (kept_cell hk3 (b := w.heap.size) (o := o) (by omega) (by rintro (h | h) <;> omega)).1; have d2 := (hbx 0).trans d0; have d3 := (hbx 1).trans d1; clear hbx d0 d1; obtain ⟨cv, -, hlk⟩ := look_map hO3.out HD.out ha hb; have hlook := fun j => hlk (w3.drewN j) rfl; rw [HF.out] at hlook; clear hlk; have hK := Lib.hid hk3; have hN := Lib.hid hnb; have hE := Lib.hid (show p'.b = p.b ∧ p'.iv = p.iv ∧ p'.m = p.m from ⟨eb, ei, em⟩); clear eb ei em hl3 hk3 hnb))
      go_quiet (fail)
      go_wp2
      go_ret2
      refine ⟨rfl, p', ?_⟩
      exact step_node HG.out hB hK.out hE.out.1 hE.out.2.1 hE.out.2.2 hN.out (Kept.of_below (below_draws _ _)) (n := ⟨true, a, b⟩) (hL3.out.below (below_draws _ _)) (by unfold MapIn; rw [if_pos (show (addN G a b).hash = true from HH.out)]; exact ⟨mb, D, hE.out.2.2.trans HM.out, hO3.out.mono (by rw [addN_len]; omega), mapOf_found HD.out HF.out⟩)
    | none =>
      have HF := Lib.hid hf
      clear hG hW hc hH hmb hown hD hf
      go_enter Try.func68, Try.ntmps68
      go_wp2_with (first
        | (go_at_call 71; refine (gates_any (HL.out.below ((Below.refl _ _).alloc (Nat.le_refl _) _)) h0 hi (by omega)).mono ?_; rintro e w2 ⟨rfl, hb2⟩; obtain ⟨hB, hz, d0, d1⟩ := box2 hb2; clear hb2)
        | (go_at_call 57; refine (add_any (HL.out.below hB) h0 (by omega) ⟨true, a, b⟩).mono ?_; rintro e w3 ⟨rfl, p', hl3, hk3, eb, ei, em, hnb⟩; have hL3 := Lib.hid hl3; obtain ⟨-, e1, -, -, e4, -⟩ := hl3.cells; rw [eb, HH.out] at e1; rw [eb, em, HM.out] at e4; obtain ⟨es0, cl0, hbk0, -⟩ := HO.out; have hmbl := HO.out.lt; have hO3 := Lib.hid (map_block HO.out ((hk3.block mb (Nat.lt_of_lt_of_le hmbl hB.size) (map_apart HL.out hbk0)).trans (hB.block mb hmbl))); clear hbk0; have hbx := fun o => (kept_cell hk3 (b := w.heap.size) (o := o) (by omega) (by rintro (h | h) <;> omega)).1; have d2 := (hbx 0).trans d0; have d3 := (hbx 1).trans d1; clear hbx d0 d1; obtain ⟨cv, -, hlk⟩ := look_map hO3.out HD.out ha hb; have hlook := fun j => hlk (w3.drewN j) rfl; rw [HF.out] at hlook; clear hlk; have hK := Lib.hid hk3; have hN := Lib.hid hnb; have hE := Lib.hid (show p'.b = p.b ∧ p'.iv = p.iv ∧ p'.m = p.m from ⟨eb, ei, em⟩); clear eb ei em hl3 hk3 hnb))
      go_quiet (fail)
      obtain ⟨w5, hw5, c54, c50, c51, hO5, hL5⟩ : ∃ w5, w5 = w3.drewN nq ∧ w5.cell? ⟨p.b, 4, none⟩ = some (.map (some mb)) ∧ w5.cell? ⟨w.heap.size, 0, none⟩ = some (.int .u32 a) ∧ w5.cell? ⟨w.heap.size, 1, none⟩ = some (.int .u32 b) ∧ Hid (w5.ownsMap Try.prog 96 (plainElem Try.prog 50) mb G.nodes.length D) ∧ Hid (Lay w5 p' G.fold G.hash (G.nodes ++ [{ gate := true, a := a, b := b }]) G.inputs) := ⟨_, rfl, e4, d2, d3, hO3, Lib.hid (hL3.out.below (below_draws w3 nq))⟩
      have hk5 : Hid (Kept (fun k => p.m = some k) w3 w5) := by rw [hw5]; exact Kept.of_below (below_draws _ _)
      rw [← hw5]
      clear hw5 e4 d2 d3 hlook e1 hO3 hL3
      go_wp2
      go_still_tail 6, (by kernel_rfl)
      change wpList _ _ _ _ _ w5.drew
      go_wp2_with (at_mapUpdate; refine wpList_mapUpdate_own _ rfl _ _ _ 90 rfl 96 50 alaw Try.underlying90 _ mb G.nodes.length D rfl hO5.out (by unfold maxLen; omega) _ _ (pkey a b) rfl rfl (key_pair ha hb) (.lit (.int .u32 (2 * (G.nodes.length : Int)))) [] (plainElem_int Try.underlying50 (WalkArith.wf_u32 ⟨by omega, by omega⟩)) ?_; intro w4 hown4 hgrow4)
      go_ret2
      refine ⟨rfl, p', ?_⟩
      have hmm := HM.out
      obtain ⟨es, cl, hbk, -⟩ := hO5.out
      have hg4 : w5.grownBy w4 (some mb) := ⟨hgrow4.os, hgrow4.tape, hgrow4.output, hgrow4.size, hgrow4.block⟩
      exact step_node HG.out hB hK.out hE.out.1 hE.out.2.1 hE.out.2.2 hN.out (hk5.out.trans (F' := fun k => p.m = some k) ⟨hg4.os, hg4.tape, hg4.output, hg4.size, fun k hk hn => hg4.block k hk (fun e => hn (by rw [hmm]; exact e.symm))⟩ (fun x hx => .inl hx)) (n := ⟨true, a, b⟩) (hL5.out.grown hg4 hbk) (by unfold MapIn; rw [if_pos (show (addN G a b).hash = true from HH.out)]; exact ⟨mb, _, hE.out.2.2.trans HM.out, hown4.mono (by rw [addN_len]; exact Nat.le_refl _), mapOf_put HD.out ha hb HF.out⟩)
end Go.Proofs.Ytjdebancpgpebaa
