/-
  A new gate: its place in the map.
  A new gate: the walk.
  The And of two literals.
  Or, the Or of two Ands, Xor.
  Are all literals there; a row of them put together.
-/
import Derived.Test.YtlkainmkhofpaaaGreatFSAC
import Derived.StillTailTactics
section
namespace Go.Proofs.YtlkainmkhofpaaaGreat
open Go.RowKit Go.Maps

theorem mapOf_keep {ns : List Nd} {D : DataW Unit} (h : MapOf ns D) {n : Nd} (hn : ∀ a b, IsLit a → IsLit b → findG ns a b = none → isPair a b n = false) : MapOf (ns ++ [n]) D := by
  refine ⟨h.1, fun a b ha hb => ?_⟩
  obtain ⟨h1, h2⟩ := h.2 a b ha hb
  have e : findG (ns ++ [n]) a b = findG ns a b := by
    rw [findG_push]
    cases hf : findG ns a b with
    | some i => rfl
    | none => rw [if_neg (by rw [hn a b ha hb hf]; simp)]; rfl
  rw [e]; exact ⟨h1, h2⟩
theorem mapOf_input {ns : List Nd} {D : DataW Unit} (h : MapOf ns D) : MapOf (ns ++ [⟨false, 0, 0⟩]) D := mapOf_keep h (fun _ _ _ _ _ => rfl)
theorem mapOf_found {ns : List Nd} {D : DataW Unit} (h : MapOf ns D) {a b : Int} {i : Nat} (hf : findG ns a b = some i) : MapOf (ns ++ [⟨true, a, b⟩]) D :=
  mapOf_keep h (fun c d _ _ hn => by
    unfold isPair
    by_cases e : a = c ∧ b = d
    · obtain ⟨rfl, rfl⟩ := e; rw [hf] at hn; cases hn
    · simp; omega)
theorem mapOf_put {ns : List Nd} {D : DataW Unit} (h : MapOf ns D) {a b : Int} (ha : IsLit a) (hb : IsLit b) (hf : findG ns a b = none) : MapOf (ns ++ [⟨true, a, b⟩]) (D.put (pkey a b) (.lit (.int .u32 (2 * (ns.length : Int))))) := by
  refine ⟨h.1.put _ _, fun c d hc hd => ?_⟩
  obtain ⟨h1, h2⟩ := h.2 c d hc hd
  rw [findG_push]
  by_cases e : a = c ∧ b = d
  · obtain ⟨rfl, rfl⟩ := e
    rw [hf, has_put_same h.1 (pkey_key ha hb), show isPair a b ⟨true, a, b⟩ = true by simp [isPair]]
    refine ⟨rfl, fun i hi => ?_⟩
    simp at hi
    rw [atKey_put_same h.1 (pkey_key ha hb), hi]
  · have hne : pkey c d ≠ pkey a b := fun he => e (by obtain ⟨x, y⟩ := pkey_inj hc hd ha hb he; exact ⟨x.symm, y.symm⟩)
    have hp : isPair c d ⟨true, a, b⟩ = false := by unfold isPair; simp; omega
    rw [hp, has_put_other hne, atKey_put_other hne]
    simp only [Bool.false_eq_true, if_false, Option.or_none]
    exact ⟨h1, h2⟩

theorem kept_cell {F : Nat → Prop} {w w' : World} (h : Kept F w w') {b o : Nat} (hb : b < w.heap.size) (hn : ¬ F b) : w'.cell? ⟨b, o, none⟩ = w.cell? ⟨b, o, none⟩ ∧ w'.frozen? ⟨b, o, none⟩ = w.frozen? ⟨b, o, none⟩ :=
  ⟨World.cell?_of_block (h.block b hb hn), World.frozen?_of_block (h.block b hb hn)⟩
theorem box2 {w w1 : World} {x y : Value} {T : Nat} (hb : Below (w.alloc (.cells #[x, y] T)).heap.size (w.alloc (.cells #[x, y] T)) w1) :
    Below w.heap.size w w1 ∧ w.heap.size + 1 ≤ w1.heap.size ∧ w1.cell? ⟨w.heap.size, 0, none⟩ = some x ∧ w1.cell? ⟨w.heap.size, 1, none⟩ = some y :=
  ⟨nextb ((Below.refl _ _).alloc (Nat.le_refl _) _) (by simp) hb, by have := hb.size; simpa using this, stepc hb (by simp) (by simp), stepc hb (by simp) (by simp)⟩
theorem Lay.grown {w w' : World} {p : Pl} {F H : Bool} {ns : List Nd} {ins : List Int} {mb : Nat} {es : Array MapEntry} {cl : Nat} (h : Lay w p F H ns ins) (hg : w.grownBy w' (some mb)) (hm : w.heap[mb]? = some (.map es cl)) : Lay w' p F H ns ins := by
  have hne : ∀ k cs T fz, w.heap[k]? = some (.cells cs T fz) → k < w.heap.size ∧ some k ≠ some mb := fun k cs T fz e =>
    ⟨(Array.getElem?_eq_some_iff.1 e).1, fun e2 => by simp at e2; subst e2; rw [hm] at e; cases e⟩
  have own : ∀ {e size n : Nat} {v : Value} {xs : List Value}, w.ownsRow 0 e size v n xs → w'.ownsRow 0 e size v n xs := by
    intro e size n v xs h
    refine ⟨h.1, ?_⟩
    rcases h.2 with h0 | ⟨g, cap, cur, hv, hg', hh, r⟩
    · exact .inl h0
    · exact .inr ⟨g, cap, cur, hv, hg', by rw [hg.block g (hne g _ _ _ hh).1 (hne g _ _ _ hh).2]; exact hh, r⟩
  exact ⟨by have hb := h.box; rw [hg.block p.b (hne p.b _ _ _ hb).1 (hne p.b _ _ _ hb).2]; exact hb, own h.nodes, own h.inputs⟩

/-- The map's block is none of the graph's own. -/
theorem map_apart {w : World} {p : Pl} {F H : Bool} {ns : List Nd} {ins : List Int} (h : Lay w p F H ns ins) {mb : Nat} {es : Array MapEntry} {cl : Nat} (hm : w.heap[mb]? = some (.map es cl)) : ¬ p.own mb := by
  rintro (rfl | rfl)
  · rw [h.box] at hm; simp [boxOf] at hm
  · obtain ⟨c, hc⟩ := h.nlen; rw [hc] at hm; cases hm

/-- A node more: what the graph is then. -/
theorem step_node {w w2 w3 w4 : World} {p p' : Pl} {G G' : Gr} {n : Nd} (hG : Is w p G) (hB : Below w.heap.size w w2) (hk : Kept p.own w2 w3) (eb : p'.b = p.b) (ei : p'.iv = p.iv) (em : p'.m = p.m) (hnb : p'.nb = p.nb ∨ w2.heap.size ≤ p'.nb)
    (hk4 : Kept (fun k => p.m = some k) w3 w4) (hl4 : Lay w4 p' G'.fold G'.hash G'.nodes G'.inputs) (hmap : MapIn w4 p'.m G'.hash G'.nodes) : Step p w p' w4 G' := by
  have hs := hB.size
  refine ⟨⟨hl4, hmap⟩, ?_, eb, fun k hp => ?_⟩
  · have h1 : Kept p.has w w2 := Kept.of_below hB
    have h2 : Kept p.has w w3 := h1.trans hk (fun x hx => .inl (by rcases hx with hx | hx; exact .inl hx; exact .inr (.inl hx)))
    exact h2.trans hk4 (fun x hx => .inl (.inr (.inr (.inr hx))))
  · rcases hp with hp | hp | hp | hp
    · exact .inl (.inl (hp.trans eb))
    · rcases hnb with h | h
      · exact .inl (.inr (.inl (hp.trans h)))
      · exact .inr (by omega)
    · rw [ei] at hp; exact .inl (.inr (.inr (.inl hp)))
    · rw [em] at hp; exact .inl (.inr (.inr (.inr hp)))

theorem zero_lit (w : World) : (zeroValue 40).run Tryz.prog w = .ok (.int .u32 0) w := by kernel_rfl
/-- The look-up. -/
theorem look_map {w : World} {mb n : Nat} {D : DataW Unit} {ns : List Nd} (ho : w.ownsMap Tryz.prog 146 (plainElem Tryz.prog 40) mb n D) (hD : MapOf ns D) {a b : Int} (ha : IsLit a) (hb : IsLit b) :
    ∃ c : Int, (∀ i, findG ns a b = some i → c = 2 * (i : Int)) ∧ ∀ w', w'.heap[mb]? = w.heap[mb]? → (Instr.lookup 141 (.map (some mb)) (.agg #[.int .u32 a, .int .u32 b]) true).run Tryz.prog w' = .ok (.tuple #[.int .u32 c, .bool (findG ns a b).isSome]) w' := by
  have main : ∀ w', w'.heap[mb]? = w.heap[mb]? → ∃ c : Int, D.atKey (pkey a b) (.lit (.int .u32 0)) = .lit (.int .u32 c) ∧ (Instr.lookup 141 (.map (some mb)) (.agg #[.int .u32 a, .int .u32 b]) true).run Tryz.prog w' = .ok (.tuple #[.int .u32 c, .bool (findG ns a b).isSome]) w' := by
    intro w' hb'
    obtain ⟨v, ps, hrun, hv⟩ := (map_block ho hb').look_ok alaw Tryz.underlying141 (zero_lit w') (plainElem_int Tryz.underlying40 (by decide)) (key_pair ha hb)
    obtain ⟨c, rfl, hc, _⟩ := plainElem_int_inv Tryz.underlying40 hv
    exact ⟨c, congrArg Prod.fst hc, by rw [hrun, (hD.2 a b ha hb).1]⟩
  obtain ⟨c, hc, -⟩ := main w rfl
  refine ⟨c, fun i hi => ?_, fun w' hw' => ?_⟩
  · rw [(hD.2 a b ha hb).2 i hi] at hc
    simp at hc; exact hc.symm
  · obtain ⟨c', hc', hr⟩ := main w' hw'
    rw [hc] at hc'
    simp at hc'
    rw [hr, hc']
theorem look_none {w : World} {a b : Int} (ha : IsLit a) (hb : IsLit b) :
    (Instr.lookup 141 (.map none) (.agg #[.int .u32 a, .int .u32 b]) true).run Tryz.prog w = .ok (.tuple #[.int .u32 0, .bool false]) w :=
  Maps.look_nil true alaw Tryz.underlying141 (zero_lit w) (key_pair ha hb)
end Go.Proofs.YtlkainmkhofpaaaGreat
end

section
namespace Go.Proofs.YtlkainmkhofpaaaGreat
open Go.RowKit Go.Maps
set_option maxRecDepth 100000

theorem gate_any {w : World} {p : Pl} {G : Gr} (hG : Is w p G) (hW : Wf G) (hm : G.nodes.length ≤ 200000) {a b : Int} (ha : IsLit a) (hb : IsLit b) :
    Calls Tryz.prog 118 #[.pointer (some ⟨p.b, 0, none⟩), .agg #[.int .u32 a, .int .u32 b]] w fun e w' => e = .returned (.tuple #[.int .u32 (2 * (G.nodes.length : Int)), .int .i64 0]) ∧ ∃ p', Step p w p' w' (addN G a b) := by
  have h0 := hW.pos
  have hc := hW.cnt
  have hi : G.inputs.length < G.nodes.length := by omega
  have HG := Lib.hid hG
  have HL := Lib.hid hG.lay
  have hlt := hG.lay.lt
  have hnl := hG.lay.nlt
  cases hH : G.hash with
  | false =>
    have HH := Lib.hid hH
    have HM : Hid (p.m = none) := by have := hG.map; unfold MapIn at this; rw [hH] at this; exact Lib.hid (by simpa using this)
    clear hG hW hc hH
    go_enter Tryz.func118, Tryz.ntmps118
    go_wp2_with (first
      | (go_at_call 124; refine (gates_any (HL.out.below ((Below.refl _ _).alloc (Nat.le_refl _) _)) h0 hi (by omega)).mono ?_; rintro e w2 ⟨rfl, hb2⟩; obtain ⟨hB, hz, d0, d1⟩ := box2 hb2; clear hb2)
      | (go_at_call 94; refine (add_any (HL.out.below hB) h0 (by omega) ⟨true, a, b⟩).mono ?_; rintro e w3 ⟨rfl, p', hl3, hk3, eb, ei, em, hnb⟩; have hL3 := Lib.hid hl3; obtain ⟨-, e1, -, -, -, -⟩ := hl3.cells; rw [eb, HH.out] at e1; have hK := Lib.hid hk3; have hN := Lib.hid hnb; have hE := Lib.hid (show p'.b = p.b ∧ p'.iv = p.iv ∧ p'.m = p.m from ⟨eb, ei, em⟩); clear eb ei em hl3 hk3 hnb))
    go_ret2
    refine ⟨rfl, p', ?_⟩
    exact step_node HG.out hB hK.out hE.out.1 hE.out.2.1 hE.out.2.2 hN.out (Kept.refl _ _) (n := ⟨true, a, b⟩) hL3.out (by unfold MapIn; rw [show (addN G a b).hash = false from HH.out]; exact hE.out.2.2.trans HM.out)
  | true =>
    have HH := Lib.hid hH
    have hmap := hG.map
    unfold MapIn at hmap
    rw [if_pos hH] at hmap
    obtain ⟨mb, D, hmb, hown, hD⟩ := hmap
    have HM := Lib.hid hmb
    have HO := Lib.hid hown
    have HD := Lib.hid hD
    cases hf : findG G.nodes a b with
    | some i =>
      have HF := Lib.hid hf
      clear hG hW hc hH hmb hown hD hf
      go_enter Tryz.func118, Tryz.ntmps118
      go_wp2_with (first
        | (go_at_call 124; refine (gates_any (HL.out.below ((Below.refl _ _).alloc (Nat.le_refl _) _)) h0 hi (by omega)).mono ?_; rintro e w2 ⟨rfl, hb2⟩; obtain ⟨hB, hz, d0, d1⟩ := box2 hb2; clear hb2)
        | (go_at_call 94; refine (add_any (HL.out.below hB) h0 (by omega) ⟨true, a, b⟩).mono ?_; rintro e w3 ⟨rfl, p', hl3, hk3, eb, ei, em, hnb⟩; have hL3 := Lib.hid hl3; obtain ⟨-, e1, -, -, e4, -⟩ := hl3.cells; rw [eb, HH.out] at e1; rw [eb, em, HM.out] at e4; obtain ⟨es0, cl0, hbk0, -⟩ := HO.out; have hmbl := HO.out.lt; have hO3 := Lib.hid (map_block HO.out ((hk3.block mb (Nat.lt_of_lt_of_le hmbl hB.size) (map_apart HL.out hbk0)).trans (hB.block mb hmbl))); clear hbk0; have hbx := fun o => (kept_cell hk3 (b := w.heap.size) (o := o) (by omega) (by rintro (h | h) <;> omega)).1; have d2 := (hbx 0).trans d0; have d3 := (hbx 1).trans d1; clear hbx d0 d1; obtain ⟨cv, -, hlk⟩ := look_map hO3.out HD.out ha hb; have hlook := fun j => hlk (w3.drewN j) rfl; rw [HF.out] at hlook; clear hlk; have hK := Lib.hid hk3; have hN := Lib.hid hnb; have hE := Lib.hid (show p'.b = p.b ∧ p'.iv = p.iv ∧ p'.m = p.m from ⟨eb, ei, em⟩); clear eb ei em hl3 hk3 hnb))
      go_quiet (fail)
      go_wp2
      go_ret2
      refine ⟨rfl, p', ?_⟩
      exact step_node HG.out hB hK.out hE.out.1 hE.out.2.1 hE.out.2.2 hN.out (Kept.of_below (below_draws _ _)) (n := ⟨true, a, b⟩) (hL3.out.below (below_draws _ _)) (by unfold MapIn; rw [if_pos (show (addN G a b).hash = true from HH.out)]; exact ⟨mb, D, hE.out.2.2.trans HM.out, hO3.out.mono (by rw [addN_len]; omega), mapOf_found HD.out HF.out⟩)
    | none =>
      have HF := Lib.hid hf
      clear hG hW hc hH hmb hown hD hf
      go_enter Tryz.func118, Tryz.ntmps118
      go_wp2_with (first
        | (go_at_call 124; refine (gates_any (HL.out.below ((Below.refl _ _).alloc (Nat.le_refl _) _)) h0 hi (by omega)).mono ?_; rintro e w2 ⟨rfl, hb2⟩; obtain ⟨hB, hz, d0, d1⟩ := box2 hb2; clear hb2)
        | (go_at_call 94; refine (add_any (HL.out.below hB) h0 (by omega) ⟨true, a, b⟩).mono ?_; rintro e w3 ⟨rfl, p', hl3, hk3, eb, ei, em, hnb⟩; have hL3 := Lib.hid hl3; obtain ⟨-, e1, -, -, e4, -⟩ := hl3.cells; rw [eb, HH.out] at e1; rw [eb, em, HM.out] at e4; obtain ⟨es0, cl0, hbk0, -⟩ := HO.out; have hmbl := HO.out.lt; have hO3 := Lib.hid (map_block HO.out ((hk3.block mb (Nat.lt_of_lt_of_le hmbl hB.size) (map_apart HL.out hbk0)).trans (hB.block mb hmbl))); clear hbk0; have hbx := fun o => (kept_cell hk3 (b := w.heap.size) (o := o) (by omega) (by rintro (h | h) <;> omega)).1; have d2 := (hbx 0).trans d0; have d3 := (hbx 1).trans d1; clear hbx d0 d1; obtain ⟨cv, -, hlk⟩ := look_map hO3.out HD.out ha hb; have hlook := fun j => hlk (w3.drewN j) rfl; rw [HF.out] at hlook; clear hlk; have hK := Lib.hid hk3; have hN := Lib.hid hnb; have hE := Lib.hid (show p'.b = p.b ∧ p'.iv = p.iv ∧ p'.m = p.m from ⟨eb, ei, em⟩); clear eb ei em hl3 hk3 hnb))
      go_quiet (fail)
      obtain ⟨w5, hw5, c54, c50, c51, hO5, hL5⟩ : ∃ w5, w5 = w3.drewN nq ∧ w5.cell? ⟨p.b, 4, none⟩ = some (.map (some mb)) ∧ w5.cell? ⟨w.heap.size, 0, none⟩ = some (.int .u32 a) ∧ w5.cell? ⟨w.heap.size, 1, none⟩ = some (.int .u32 b) ∧ Hid (w5.ownsMap Tryz.prog 146 (plainElem Tryz.prog 40) mb G.nodes.length D) ∧ Hid (Lay w5 p' G.fold G.hash (G.nodes ++ [{ gate := true, a := a, b := b }]) G.inputs) := ⟨_, rfl, e4, d2, d3, hO3, Lib.hid (hL3.out.below (below_draws w3 nq))⟩
      have hk5 : Hid (Kept (fun k => p.m = some k) w3 w5) := by rw [hw5]; exact Kept.of_below (below_draws _ _)
      rw [← hw5]
      clear hw5 e4 d2 d3 hlook e1 hO3 hL3
      go_wp2
      go_still_tail 6, (by kernel_rfl)
      change wpList _ _ _ _ _ w5.drew
      go_wp2_with (at_mapUpdate; refine wpList_mapUpdate_own _ rfl _ _ _ 141 rfl 146 40 alaw Tryz.underlying141 _ mb G.nodes.length D rfl hO5.out (by unfold maxLen; omega) _ _ (pkey a b) rfl rfl (key_pair ha hb) (.lit (.int .u32 (2 * (G.nodes.length : Int)))) [] (plainElem_int Tryz.underlying40 (WalkArith.wf_u32 ⟨by omega, by omega⟩)) ?_; intro w4 hown4 hgrow4)
      go_ret2
      refine ⟨rfl, p', ?_⟩
      have hmm := HM.out
      obtain ⟨es, cl, hbk, -⟩ := hO5.out
      have hg4 : w5.grownBy w4 (some mb) := ⟨hgrow4.os, hgrow4.tape, hgrow4.output, hgrow4.size, hgrow4.block⟩
      exact step_node HG.out hB hK.out hE.out.1 hE.out.2.1 hE.out.2.2 hN.out (hk5.out.trans (F' := fun k => p.m = some k) ⟨hg4.os, hg4.tape, hg4.output, hg4.size, fun k hk hn => hg4.block k hk (fun e => hn (by rw [hmm]; exact e.symm))⟩ (fun x hx => .inl hx)) (n := ⟨true, a, b⟩) (hL5.out.grown hg4 hbk) (by unfold MapIn; rw [if_pos (show (addN G a b).hash = true from HH.out)]; exact ⟨mb, _, hE.out.2.2.trans HM.out, hown4.mono (by rw [addN_len]; exact Nat.le_refl _), mapOf_put HD.out ha hb HF.out⟩)
end Go.Proofs.YtlkainmkhofpaaaGreat
end

section
namespace Go.Proofs.YtlkainmkhofpaaaGreat
open Go.RowKit Go.Maps
set_option maxRecDepth 100000

theorem andG_fold {G : Gr} {a b : Int} (h : (G.fold && foldB a b) = true) : andG G a b = (G, foldV a b) := by unfold andG; rw [if_pos h]
theorem andG_seen {G : Gr} {a b : Int} {i : Nat} (h : (G.fold && foldB a b) = false) (hH : G.hash = true) (hs : findG G.nodes (hiV a b) (loV a b) = some i) : andG G a b = (G, 2 * (i : Int)) := by
  unfold andG seenG; rw [if_neg (by simp [h]), if_pos hH, hs]
theorem andG_none {G : Gr} {a b : Int} (h : (G.fold && foldB a b) = false) (hs : G.hash = true → findG G.nodes (hiV a b) (loV a b) = none) : andG G a b = (addN G (hiV a b) (loV a b), 2 * (G.nodes.length : Int)) := by
  unfold andG seenG; rw [if_neg (by simp [h])]
  by_cases hH : G.hash = true
  · rw [if_pos hH, hs hH]; rfl
  · rw [if_neg hH]; rfl

theorem pair_box (w : World) (x y : Value) (T : Nat) : (w.alloc (.cells #[x, y] T)).cell? ⟨w.heap.size, 0, none⟩ = some x ∧ (w.alloc (.cells #[x, y] T)).cell? ⟨w.heap.size, 1, none⟩ = some y := ⟨by simp [go_sem], by simp [go_sem]⟩

theorem and_any {w : World} {p : Pl} {G : Gr} (hG : Is w p G) (hW : Wf G) (hm : G.nodes.length ≤ 200000) {a b : Int} (ha : IsLit a) (hb : IsLit b) :
    Calls Tryz.prog 108 #[.pointer (some ⟨p.b, 0, none⟩), .int .u32 a, .int .u32 b] w fun e w' => e = .returned (.tuple #[.int .u32 (andG G a b).2, .int .i64 0]) ∧ ∃ p', Step p w p' w' (andG G a b).1 := by
  obtain ⟨c0, c1, -, -, c4, -⟩ := hG.lay.cells
  have hlt := hG.lay.lt
  have HG := Lib.hid hG
  have HW := Lib.hid hW
  have hfo := Lib.hid (fun w => fold_any a b ha hb w)
  have hor := Lib.hid (fun w => ordered_any (a := a) (b := b) w)
  by_cases hf : (G.fold && foldB a b) = true
  · rw [andG_fold hf]
    obtain ⟨hF, hB⟩ : G.fold = true ∧ foldB a b = true := by simpa using hf
    rw [hF] at c0
    rw [hB] at hfo
    clear hf hG hW hF hB hor
    go_enter Tryz.func108, Tryz.ntmps108
    go_wp2_with (go_at_call 116; refine (hfo.out _).mono ?_; rintro e w1 ⟨rfl, rfl⟩)
    go_ret2
    exact ⟨rfl, p, Step.refl HG.out⟩
  · have hf : (G.fold && foldB a b) = false := by simpa using hf
    have hX : Hid (IsLit (hiV a b) ∧ IsLit (loV a b)) := by
      rcases hiV_or a b with ⟨h1, h2⟩ | ⟨h1, h2⟩ <;> rw [h1, h2]
      · exact ⟨ha, hb⟩
      · exact ⟨hb, ha⟩
    have e1 := Lib.hid (fun i hH hs => andG_seen (i := i) hf hH hs)
    have e2 := Lib.hid (andG_none hf)
    generalize hiV a b = x at *
    generalize loV a b = y at *
    cases hH : G.hash with
    | false =>
      have HE := Lib.hid (e2.out (fun h => by rw [hH] at h; cases h))
      have HM : p.m = none := by have := hG.map; unfold MapIn at this; rw [hH] at this; simpa using this
      have hlook : ∀ w', (Instr.lookup 141 (.map p.m) (.agg #[.int .u32 x, .int .u32 y]) true).run Tryz.prog w' = .ok (.tuple #[.int .u32 0, .bool false]) w' := fun w' => by rw [HM]; exact look_none hX.out.1 hX.out.2
      rw [HE.out]
      clear hG hW e1 e2 c1 HM
      cases hF : G.fold with
      | false =>
        rw [hF] at c0
        clear hf hF
        go_enter Tryz.func108, Tryz.ntmps108
        go_wp2_with (first | (go_at_call 116; refine (hfo.out _).mono ?_; rintro e w1 ⟨rfl, rfl⟩) | (go_at_call 117; refine (hor.out _).mono ?_; rintro e w2 ⟨rfl, hB⟩; have d4 := stepc hB hlt c4; have hs2 := hB.size))
        obtain ⟨w3, hw3, x4, x0, x1, hB3⟩ : ∃ w3, w3 = w2.alloc (.cells #[.int .u32 x, .int .u32 y] 146) ∧ w3.cell? ⟨p.b, 4, none⟩ = some (.map p.m) ∧ w3.cell? ⟨w2.heap.size, 0, none⟩ = some (.int .u32 x) ∧ w3.cell? ⟨w2.heap.size, 1, none⟩ = some (.int .u32 y) ∧ Hid (Below w.heap.size w w3) := ⟨_, rfl, stepc ((Below.refl _ w2).alloc (Nat.le_refl _) _) (by omega) d4, (pair_box _ _ _ _).1, (pair_box _ _ _ _).2, Lib.hid (hB.alloc hs2 _)⟩
        rw [← hw3]
        clear hw3 hB d4
        go_quiet (fail)
        have hn := below_draws w3 nq
        obtain ⟨w4, hw4, y0, y1, hB4⟩ : ∃ w4, w4 = w3.drewN nq ∧ w4.cell? ⟨w2.heap.size, 0, none⟩ = some (.int .u32 x) ∧ w4.cell? ⟨w2.heap.size, 1, none⟩ = some (.int .u32 y) ∧ Hid (Below w.heap.size w w4) := ⟨_, rfl, x0, x1, Lib.hid (nextw hB3.out hn)⟩
        rw [← hw4]
        clear hn hlook hw4 x0 x1 x4 hB3
        go_wp2_with (go_at_call 118; refine (gate_any (HG.out.below hB4.out) HW.out hm hX.out.1 hX.out.2).mono ?_; rintro e w5 ⟨rfl, p', hS⟩)
        go_ret2
        exact ⟨rfl, p', Step.front HG.out hB4.out hS⟩
      | true =>
        rw [hF] at c0
        have hB : foldB a b = false := by rw [hF] at hf; simpa using hf
        rw [hB] at hfo
        clear hf hF hB
        go_enter Tryz.func108, Tryz.ntmps108
        go_wp2_with (first | (go_at_call 116; refine (hfo.out _).mono ?_; rintro e w1 ⟨rfl, rfl⟩) | (go_at_call 117; refine (hor.out _).mono ?_; rintro e w2 ⟨rfl, hB⟩; have d4 := stepc hB hlt c4; have hs2 := hB.size))
        obtain ⟨w3, hw3, x4, x0, x1, hB3⟩ : ∃ w3, w3 = w2.alloc (.cells #[.int .u32 x, .int .u32 y] 146) ∧ w3.cell? ⟨p.b, 4, none⟩ = some (.map p.m) ∧ w3.cell? ⟨w2.heap.size, 0, none⟩ = some (.int .u32 x) ∧ w3.cell? ⟨w2.heap.size, 1, none⟩ = some (.int .u32 y) ∧ Hid (Below w.heap.size w w3) := ⟨_, rfl, stepc ((Below.refl _ w2).alloc (Nat.le_refl _) _) (by omega) d4, (pair_box _ _ _ _).1, (pair_box _ _ _ _).2, Lib.hid (hB.alloc hs2 _)⟩
        rw [← hw3]
        clear hw3 hB d4
        go_quiet (fail)
        have hn := below_draws w3 nq
        obtain ⟨w4, hw4, y0, y1, hB4⟩ : ∃ w4, w4 = w3.drewN nq ∧ w4.cell? ⟨w2.heap.size, 0, none⟩ = some (.int .u32 x) ∧ w4.cell? ⟨w2.heap.size, 1, none⟩ = some (.int .u32 y) ∧ Hid (Below w.heap.size w w4) := ⟨_, rfl, x0, x1, Lib.hid (nextw hB3.out hn)⟩
        rw [← hw4]
        clear hn hlook hw4 x0 x1 x4 hB3
        go_wp2_with (go_at_call 118; refine (gate_any (HG.out.below hB4.out) HW.out hm hX.out.1 hX.out.2).mono ?_; rintro e w5 ⟨rfl, p', hS⟩)
        go_ret2
        exact ⟨rfl, p', Step.front HG.out hB4.out hS⟩
    | true =>
      have hmap := hG.map
      unfold MapIn at hmap
      rw [if_pos hH] at hmap
      obtain ⟨mb, D, hmb, hown, hD⟩ := hmap
      obtain ⟨cv, hcv, hlk⟩ := look_map hown hD hX.out.1 hX.out.2
      have hmlt := hown.lt
      rw [hmb] at c4
      have HMB := Lib.hid hmb
      cases hfi : findG G.nodes x y with
      | some i =>
        have HE := Lib.hid (e1.out i hH hfi)
        have hci := hcv i hfi
        subst hci
        rw [hfi] at hlk
        have hlk := Lib.hid hlk
        rw [HE.out]
        clear hG hW e1 e2 c1 hmb hown hD hcv hfi
        cases hF : G.fold with
        | false =>
          rw [hF] at c0
          clear hf hF
          go_enter Tryz.func108, Tryz.ntmps108
          go_wp2_with (first | (go_at_call 116; refine (hfo.out _).mono ?_; rintro e w1 ⟨rfl, rfl⟩) | (go_at_call 117; refine (hor.out _).mono ?_; rintro e w2 ⟨rfl, hB⟩; have d4 := stepc hB hlt c4; have hs2 := hB.size))
          rw [← HMB.out] at d4
          obtain ⟨w3, hw3, x4, x0, x1, hB3⟩ : ∃ w3, w3 = w2.alloc (.cells #[.int .u32 x, .int .u32 y] 146) ∧ w3.cell? ⟨p.b, 4, none⟩ = some (.map p.m) ∧ w3.cell? ⟨w2.heap.size, 0, none⟩ = some (.int .u32 x) ∧ w3.cell? ⟨w2.heap.size, 1, none⟩ = some (.int .u32 y) ∧ Hid (Below w.heap.size w w3) := ⟨_, rfl, stepc ((Below.refl _ w2).alloc (Nat.le_refl _) _) (by omega) d4, (pair_box _ _ _ _).1, (pair_box _ _ _ _).2, Lib.hid (hB.alloc hs2 _)⟩
          rw [← hw3]
          rw [HMB.out] at x4
          have hlook : ∀ j, (Instr.lookup 141 (.map (some mb)) (.agg #[.int .u32 x, .int .u32 y]) true).run Tryz.prog (w3.drewN j) = .ok (.tuple #[.int .u32 (2 * (i : Int)), .bool true]) (w3.drewN j) := fun j => hlk.out _ (hB3.out.block mb hmlt)
          clear hw3 hB d4
          go_quiet (fail)
          go_wp2
          go_ret2
          exact ⟨rfl, p, Step.of_below HG.out (nextw hB3.out (below_draws w3 nq))⟩
        | true =>
          rw [hF] at c0
          have hB : foldB a b = false := by rw [hF] at hf; simpa using hf
          rw [hB] at hfo
          clear hf hF hB
          go_enter Tryz.func108, Tryz.ntmps108
          go_wp2_with (first | (go_at_call 116; refine (hfo.out _).mono ?_; rintro e w1 ⟨rfl, rfl⟩) | (go_at_call 117; refine (hor.out _).mono ?_; rintro e w2 ⟨rfl, hB⟩; have d4 := stepc hB hlt c4; have hs2 := hB.size))
          rw [← HMB.out] at d4
          obtain ⟨w3, hw3, x4, x0, x1, hB3⟩ : ∃ w3, w3 = w2.alloc (.cells #[.int .u32 x, .int .u32 y] 146) ∧ w3.cell? ⟨p.b, 4, none⟩ = some (.map p.m) ∧ w3.cell? ⟨w2.heap.size, 0, none⟩ = some (.int .u32 x) ∧ w3.cell? ⟨w2.heap.size, 1, none⟩ = some (.int .u32 y) ∧ Hid (Below w.heap.size w w3) := ⟨_, rfl, stepc ((Below.refl _ w2).alloc (Nat.le_refl _) _) (by omega) d4, (pair_box _ _ _ _).1, (pair_box _ _ _ _).2, Lib.hid (hB.alloc hs2 _)⟩
          rw [← hw3]
          rw [HMB.out] at x4
          have hlook : ∀ j, (Instr.lookup 141 (.map (some mb)) (.agg #[.int .u32 x, .int .u32 y]) true).run Tryz.prog (w3.drewN j) = .ok (.tuple #[.int .u32 (2 * (i : Int)), .bool true]) (w3.drewN j) := fun j => hlk.out _ (hB3.out.block mb hmlt)
          clear hw3 hB d4
          go_quiet (fail)
          go_wp2
          go_ret2
          exact ⟨rfl, p, Step.of_below HG.out (nextw hB3.out (below_draws w3 nq))⟩
      | none =>
        have HE := Lib.hid (e2.out (fun _ => hfi))
        rw [hfi] at hlk
        have hlk := Lib.hid hlk
        rw [HE.out]
        clear hG hW e1 e2 c1 hmb hown hD hcv hfi
        cases hF : G.fold with
        | false =>
          rw [hF] at c0
          clear hf hF
          go_enter Tryz.func108, Tryz.ntmps108
          go_wp2_with (first | (go_at_call 116; refine (hfo.out _).mono ?_; rintro e w1 ⟨rfl, rfl⟩) | (go_at_call 117; refine (hor.out _).mono ?_; rintro e w2 ⟨rfl, hB⟩; have d4 := stepc hB hlt c4; have hs2 := hB.size))
          rw [← HMB.out] at d4
          obtain ⟨w3, hw3, x4, x0, x1, hB3⟩ : ∃ w3, w3 = w2.alloc (.cells #[.int .u32 x, .int .u32 y] 146) ∧ w3.cell? ⟨p.b, 4, none⟩ = some (.map p.m) ∧ w3.cell? ⟨w2.heap.size, 0, none⟩ = some (.int .u32 x) ∧ w3.cell? ⟨w2.heap.size, 1, none⟩ = some (.int .u32 y) ∧ Hid (Below w.heap.size w w3) := ⟨_, rfl, stepc ((Below.refl _ w2).alloc (Nat.le_refl _) _) (by omega) d4, (pair_box _ _ _ _).1, (pair_box _ _ _ _).2, Lib.hid (hB.alloc hs2 _)⟩
          rw [← hw3]
          rw [HMB.out] at x4
          have hlook : ∀ j, (Instr.lookup 141 (.map (some mb)) (.agg #[.int .u32 x, .int .u32 y]) true).run Tryz.prog (w3.drewN j) = .ok (.tuple #[.int .u32 cv, .bool false]) (w3.drewN j) := fun j => hlk.out _ (hB3.out.block mb hmlt)
          clear hw3 hB d4
          go_quiet (fail)
          have hn := below_draws w3 nq
          obtain ⟨w4, hw4, y0, y1, hB4⟩ : ∃ w4, w4 = w3.drewN nq ∧ w4.cell? ⟨w2.heap.size, 0, none⟩ = some (.int .u32 x) ∧ w4.cell? ⟨w2.heap.size, 1, none⟩ = some (.int .u32 y) ∧ Hid (Below w.heap.size w w4) := ⟨_, rfl, x0, x1, Lib.hid (nextw hB3.out hn)⟩
          rw [← hw4]
          clear hn hlook hw4 x0 x1 x4 hB3
          go_wp2_with (go_at_call 118; refine (gate_any (HG.out.below hB4.out) HW.out hm hX.out.1 hX.out.2).mono ?_; rintro e w5 ⟨rfl, p', hS⟩)
          go_ret2
          exact ⟨rfl, p', Step.front HG.out hB4.out hS⟩
        | true =>
          rw [hF] at c0
          have hB : foldB a b = false := by rw [hF] at hf; simpa using hf
          rw [hB] at hfo
          clear hf hF hB
          go_enter Tryz.func108, Tryz.ntmps108
          go_wp2_with (first | (go_at_call 116; refine (hfo.out _).mono ?_; rintro e w1 ⟨rfl, rfl⟩) | (go_at_call 117; refine (hor.out _).mono ?_; rintro e w2 ⟨rfl, hB⟩; have d4 := stepc hB hlt c4; have hs2 := hB.size))
          rw [← HMB.out] at d4
          obtain ⟨w3, hw3, x4, x0, x1, hB3⟩ : ∃ w3, w3 = w2.alloc (.cells #[.int .u32 x, .int .u32 y] 146) ∧ w3.cell? ⟨p.b, 4, none⟩ = some (.map p.m) ∧ w3.cell? ⟨w2.heap.size, 0, none⟩ = some (.int .u32 x) ∧ w3.cell? ⟨w2.heap.size, 1, none⟩ = some (.int .u32 y) ∧ Hid (Below w.heap.size w w3) := ⟨_, rfl, stepc ((Below.refl _ w2).alloc (Nat.le_refl _) _) (by omega) d4, (pair_box _ _ _ _).1, (pair_box _ _ _ _).2, Lib.hid (hB.alloc hs2 _)⟩
          rw [← hw3]
          rw [HMB.out] at x4
          have hlook : ∀ j, (Instr.lookup 141 (.map (some mb)) (.agg #[.int .u32 x, .int .u32 y]) true).run Tryz.prog (w3.drewN j) = .ok (.tuple #[.int .u32 cv, .bool false]) (w3.drewN j) := fun j => hlk.out _ (hB3.out.block mb hmlt)
          clear hw3 hB d4
          go_quiet (fail)
          have hn := below_draws w3 nq
          obtain ⟨w4, hw4, y0, y1, hB4⟩ : ∃ w4, w4 = w3.drewN nq ∧ w4.cell? ⟨w2.heap.size, 0, none⟩ = some (.int .u32 x) ∧ w4.cell? ⟨w2.heap.size, 1, none⟩ = some (.int .u32 y) ∧ Hid (Below w.heap.size w w4) := ⟨_, rfl, x0, x1, Lib.hid (nextw hB3.out hn)⟩
          rw [← hw4]
          clear hn hlook hw4 x0 x1 x4 hB3
          go_wp2_with (go_at_call 118; refine (gate_any (HG.out.below hB4.out) HW.out hm hX.out.1 hX.out.2).mono ?_; rintro e w5 ⟨rfl, p', hS⟩)
          go_ret2
          exact ⟨rfl, p', Step.front HG.out hB4.out hS⟩
end Go.Proofs.YtlkainmkhofpaaaGreat
end

section
namespace Go.Proofs.YtlkainmkhofpaaaGreat
open Go.RowKit Go.Maps
set_option maxRecDepth 100000

theorem orG_good {G : Gr} (h : Wf G) {a b : Int} (ha : There G a) (hb : There G b) (hl : G.nodes.length ≤ 10000000) : Grows G (orG G a b).1 (orG G a b).2 1 := by
  have g := andG_good h ha.not hb.not hl
  exact ⟨g.wf, g.le, g.there.not, g.len, g.ins⟩
theorem Grows.trans {A B C : Gr} {l m : Int} {j k : Nat} (h : Grows A B l j) (g : Grows B C m k) : Grows A C m (j + k) :=
  ⟨g.wf, h.le.trans g.le, g.there, by have := h.len; have := g.len; omega, g.ins.trans h.ins⟩
theorem eitherG_good {G : Gr} (h : Wf G) {a b c d : Int} (ha : There G a) (hb : There G b) (hc : There G c) (hd : There G d) (hl : G.nodes.length ≤ 9000000) : Grows G (eitherG G a b c d).1 (eitherG G a b c d).2 3 := by
  have g1 := andG_good h ha hb (by omega)
  have l1 := g1.len
  have g2 := andG_good g1.wf (g1.le.there hc) (g1.le.there hd) (by omega)
  have l2 := g2.len
  have g3 := orG_good g2.wf (g2.le.there g1.there) g2.there (by omega)
  exact (g1.trans g2).trans g3
theorem xorG_good {G : Gr} (h : Wf G) {a b : Int} (ha : There G a) (hb : There G b) (hl : G.nodes.length ≤ 9000000) : Grows G (xorG G a b).1 (xorG G a b).2 3 := eitherG_good h ha hb.not ha.not hb hl
theorem muxG_good {G : Gr} (h : Wf G) {c a b : Int} (hc : There G c) (ha : There G a) (hb : There G b) (hl : G.nodes.length ≤ 9000000) : Grows G (muxG G c a b).1 (muxG G c a b).2 3 := eitherG_good h hc ha hc.not hb hl

theorem or_any {w : World} {p : Pl} {G : Gr} (hG : Is w p G) (hW : Wf G) (hm : G.nodes.length ≤ 200000) {a b : Int} (ha : There G a) (hb : There G b) :
    Calls Tryz.prog 125 #[.pointer (some ⟨p.b, 0, none⟩), .int .u32 a, .int .u32 b] w fun e w' => e = .returned (.tuple #[.int .u32 (orG G a b).2, .int .i64 0]) ∧ ∃ p', Step p w p' w' (orG G a b).1 := by
  have hna := Lib.hid (fun w => not_any a ha.1 w)
  have hnb := Lib.hid (fun w => not_any b hb.1 w)
  have hand := Lib.hid (and_any hG hW hm (notV_lit ha.1) (notV_lit hb.1))
  have hop := Lib.hid (fun w => opposite_any (andG_good hW ha.not hb.not (by omega)).there.1 w)
  unfold orG
  generalize andG G (notV a) (notV b) = r at *
  clear hG hW ha hb
  go_enter Tryz.func125, Tryz.ntmps125
  go_wp2_with (first
    | (go_at_call 29; (with_reducible refine (hna.out _).mono ?_); rintro e w2 ⟨rfl, rfl⟩)
    | (go_at_call 29; (with_reducible refine (hnb.out _).mono ?_); rintro e w2 ⟨rfl, rfl⟩)
    | (go_at_call 108; refine hand.out.mono ?_; rintro e w2 ⟨rfl, p', hS⟩)
    | (go_at_call 128; refine (hop.out _).mono ?_; rintro e w3 ⟨rfl, rfl⟩))
  go_ret2
  exact ⟨rfl, p', hS⟩

theorem either_any {w : World} {p : Pl} {G : Gr} (hG : Is w p G) (hW : Wf G) (hm : G.nodes.length ≤ 199000) {a b c d : Int} (ha : There G a) (hb : There G b) (hc : There G c) (hd : There G d) :
    Calls Tryz.prog 119 #[.pointer (some ⟨p.b, 0, none⟩), .int .u32 a, .int .u32 b, .int .u32 c, .int .u32 d] w fun e w' => e = .returned (.tuple #[.int .u32 (eitherG G a b c d).2, .int .i64 0]) ∧ ∃ p', Step p w p' w' (eitherG G a b c d).1 := by
  have g1 := andG_good hW ha hb (by omega)
  have l1 := g1.len
  have g2 := andG_good g1.wf (g1.le.there hc) (g1.le.there hd) (by omega)
  have l2 := g2.len
  have h1 := Lib.hid (and_any hG hW (by omega) ha.1 hb.1)
  have h2 := Lib.hid (fun (w' : World) (p' : Pl) (hI : Is w' p' (andG G a b).1) => and_any hI g1.wf (by omega) hc.1 hd.1)
  have h3 := Lib.hid (fun (w' : World) (p' : Pl) (hI : Is w' p' (andG (andG G a b).1 c d).1) => or_any hI g2.wf (by omega) (g2.le.there g1.there) g2.there)
  unfold eitherG
  clear hG hW ha hb hc hd g1 l1 g2 l2
  generalize andG G a b = r at *
  generalize andG r.1 c d = s at *
  generalize orG s.1 r.2 s.2 = t at *
  go_enter Tryz.func119, Tryz.ntmps119
  go_wp2_with (first
    | (go_at_call 108; (with_reducible refine h1.out.mono ?_); rintro e w2 ⟨rfl, p2, hS2⟩; have hS2 := Lib.hid hS2; have eb2 := hS2.out.b; have k2 := Lib.hid (h2.out w2 p2 hS2.out.is); rw [eb2] at k2)
    | (go_at_call 108; refine k2.out.mono ?_; rintro e w3 ⟨rfl, p3, hS3⟩; have hS3 := Lib.hid hS3; have eb3 := hS3.out.b; have k3 := Lib.hid (h3.out w3 p3 hS3.out.is); rw [eb3, eb2] at k3)
    | (go_at_call 125; refine k3.out.mono ?_; rintro e w4 ⟨rfl, p4, hS4⟩))
  go_ret2
  exact ⟨rfl, p4, (hS2.out.trans hS3.out).trans hS4⟩

theorem xor_any {w : World} {p : Pl} {G : Gr} (hG : Is w p G) (hW : Wf G) (hm : G.nodes.length ≤ 199000) {a b : Int} (ha : There G a) (hb : There G b) :
    Calls Tryz.prog 109 #[.pointer (some ⟨p.b, 0, none⟩), .int .u32 a, .int .u32 b] w fun e w' => e = .returned (.tuple #[.int .u32 (xorG G a b).2, .int .i64 0]) ∧ ∃ p', Step p w p' w' (xorG G a b).1 := by
  have hna := Lib.hid (fun w => not_any a ha.1 w)
  have hnb := Lib.hid (fun w => not_any b hb.1 w)
  have he := Lib.hid (either_any hG hW hm ha hb.not ha.not hb)
  unfold xorG
  generalize eitherG G a (notV b) (notV a) b = r at *
  clear hG hW ha hb
  go_enter Tryz.func109, Tryz.ntmps109
  go_wp2_with (first
    | (go_at_call 29; (with_reducible refine (hna.out _).mono ?_); rintro e w2 ⟨rfl, rfl⟩)
    | (go_at_call 29; (with_reducible refine (hnb.out _).mono ?_); rintro e w2 ⟨rfl, rfl⟩)
    | (go_at_call 119; refine he.out.mono ?_; rintro e w2 ⟨rfl, p', hS⟩))
  go_ret2
  exact ⟨rfl, p', hS⟩
end Go.Proofs.YtlkainmkhofpaaaGreat
end

section
namespace Go.Proofs.YtlkainmkhofpaaaGreat
open Go.RowKit Go.Maps
set_option maxRecDepth 100000

/-- Literals that are all there. -/
def AllThere (G : Gr) (l : List Int) : Prop := ∀ x ∈ l, There G x
theorem AllThere.at {G : Gr} {l : List Int} (h : AllThere G l) {i : Nat} (hi : i < l.length) : There G (l.getD i 0) := h _ (by simp [List.getD, hi])
theorem AllThere.mono {G G' : Gr} {l : List Int} (h : AllThere G l) (k : Le G G') : AllThere G' l := fun x hx => k.there (h x hx)

theorem check_any {w : World} {p : Pl} {G : Gr} (hG : Is w p G) (hW : Wf G) (hm : G.nodes.length ≤ 200000) {a : Option Addr} {n cap : Nat} {l : List Int} (hs : Row .u32 w a n l) (hl : AllThere G l) :
    Calls Tryz.prog 115 #[.pointer (some ⟨p.b, 0, none⟩), .slice a n cap] w fun e w' => e = .returned (.int .i64 0) ∧ Below w.heap.size w w' := by
  have hst := Lib.hid (stands_any hG.lay hW.pos)
  obtain ⟨-, -, c2, -, -, -⟩ := hG.lay.cells
  have hlt := hG.lay.lt
  have HS := Lib.hid hs
  have hn := hs.le
  have HT := Lib.hid (fun i (hi : i < n) => hl.at (i := i) (by rw [hs.len]; exact hi))
  have h0 := hW.pos
  unfold There at HT
  generalize G.nodes.length = k at *
  clear hG hW hs hl
  go_enter Tryz.func115, Tryz.ntmps115
  go_wp2_with (go_at_call 64; refine hst.out.mono ?_; rintro e w2 ⟨rfl, rfl⟩)
  go_loopw [12] (fun i wr => ∃ j : Nat, j ≤ n ∧ i = .int .i64 j ∧ Below w.heap.size w wr) (fun i _ => n - (intOf i).toNat)
  case atStart => exact ⟨0, Nat.zero_le _, rfl, Below.refl _ _⟩
  case round =>
    obtain ⟨j, hj, rfl, hB⟩ := hrel
    by_cases hjn : j < n
    · obtain ⟨b, off, rfl, hb, hc⟩ := HS.out.at (by omega)
      have hcj := (hB.cell (p := ⟨b, off + j, none⟩) hb).trans (hc j hjn)
      obtain ⟨⟨t0, t1⟩, t2⟩ := HT.out j hjn
      have d2 := stepc hB hlt c2
      generalize l.getD j 0 = x at *
      have hnode := Lib.hid (fun w => node_any x ⟨t0, t1⟩ w)
      have g0 : decide ((k : Int) ≤ x / 2) = false := by simp; omega
      clear hc
      go_wp2
      go_quiet (first | (go_at_call 63; exact Calls.quiet_of_same ((hnode.out _).mono (fun _ _ h => ⟨h.1, h.2.symm⟩))))
      go_wp2
      go_roundw
      case rel => exact ⟨j + 1, by omega, by go_num, nextw hB (below_draws wr nq)⟩
      case measure => simp [intOf]; omega
    · obtain rfl : j = n := by omega
      go_wp2
      go_ret
      exact ⟨rfl, hB⟩
end Go.Proofs.YtlkainmkhofpaaaGreat
end
