/-
  The And of two literals.
  Or, the Or of two Ands, Xor.
  Are all literals there; a row of them put together.
  A row of literals put together, from the left.
  And, Or, Xor of many; Mux; Raw.
  A new graph; a new input.
-/
import Derived.Test.YtnhpjacodhdpeaaDoorFEKH
import Derived.Deep.Heap
section
namespace Go.Proofs.YtnhpjacodhdpeaaDoor
open Go.RowKit Go.Maps
set_option maxRecDepth 100000

theorem andG_fold {G : Gr} {a b : Int} (h : (G.fold && foldB a b) = true) : andG G a b = (G, foldV a b) := by unfold andG; rw [if_pos h]
theorem andG_seen {G : Gr} {a b : Int} {i : Nat} (h : (G.fold && foldB a b) = false) (hH : G.hash = true) (hs : findG G.nodes (hiV a b) (loV a b) = some i) : andG G a b = (G, 2 * (i : Int)) := by
  unfold andG seenG; rw [if_neg (by simp [h]), if_pos hH, hs]
theorem andG_none {G : Gr} {a b : Int} (h : (G.fold && foldB a b) = false) (hs : G.hash = true → findG G.nodes (hiV a b) (loV a b) = none) : andG G a b = (addN G (hiV a b) (loV a b), 2 * (G.nodes.length : Int)) := by
  unfold andG seenG; rw [if_neg (by simp [h])]
  by_cases hH : G.hash = true
  · rw [if_pos hH, hs hH]; rfl
  · rw [if_neg hH]; rfl

theorem pair_box (w : World) (x y : Value) (T : Nat) : (w.alloc (.cells #[x, y] T)).cell? ⟨w.heap.size, 0, none⟩ = some x ∧ (w.alloc (.cells #[x, y] T)).cell? ⟨w.heap.size, 1, none⟩ = some y := ⟨by simp [go_sem], by simp [go_sem]⟩

theorem and_any {w : World} {p : Pl} {G : Gr} (hG : Is w p G) (hW : Wf G) (hm : G.nodes.length ≤ 200000) {a b : Int} (ha : IsLit a) (hb : IsLit b) :
    Calls Tryd.prog 127 #[.pointer (some ⟨p.b, 0, none⟩), .int .u32 a, .int .u32 b] w fun e w' => e = .returned (.tuple #[.int .u32 (andG G a b).2, .int .i64 0]) ∧ ∃ p', Step p w p' w' (andG G a b).1 := by
  obtain ⟨c0, c1, -, -, c4, -⟩ := hG.lay.cells
  have hlt := hG.lay.lt
  have HG := Lib.hid hG
  have HW := Lib.hid hW
  have hfo := Lib.hid (fun w => fold_any a b ha hb w)
  have hor := Lib.hid (fun w => ordered_any (a := a) (b := b) w)
  by_cases hf : (G.fold && foldB a b) = true
  · rw [andG_fold hf]
    obtain ⟨hF, hB⟩ : G.fold = true ∧ foldB a b = true := by simpa using hf
    rw [hF] at c0
    rw [hB] at hfo
    clear hf hG hW hF hB hor
    go_enter Tryd.func127, Tryd.ntmps127
    go_wp2_with (go_at_call 157; refine (hfo.out _).mono ?_; rintro e w1 ⟨rfl, rfl⟩)
    go_ret2
    exact ⟨rfl, p, Step.refl HG.out⟩
  · have hf : (G.fold && foldB a b) = false := by simpa using hf
    have hX : Hid (IsLit (hiV a b) ∧ IsLit (loV a b)) := by
      rcases hiV_or a b with ⟨h1, h2⟩ | ⟨h1, h2⟩ <;> rw [h1, h2]
      · exact ⟨ha, hb⟩
      · exact ⟨hb, ha⟩
    have e1 := Lib.hid (fun i hH hs => andG_seen (i := i) hf hH hs)
    have e2 := Lib.hid (andG_none hf)
    generalize hiV a b = x at *
    generalize loV a b = y at *
    cases hH : G.hash with
    | false =>
      have HE := Lib.hid (e2.out (fun h => by rw [hH] at h; cases h))
      have HM : p.m = none := by have := hG.map; unfold MapIn at this; rw [hH] at this; simpa using this
      have hlook : ∀ w', (Instr.lookup 142 (.map p.m) (.agg #[.int .u32 x, .int .u32 y]) true).run Tryd.prog w' = .ok (.tuple #[.int .u32 0, .bool false]) w' := fun w' => by rw [HM]; exact look_none hX.out.1 hX.out.2
      rw [HE.out]
      clear hG hW e1 e2 c1 HM
      cases hF : G.fold with
      | false =>
        rw [hF] at c0
        clear hf hF
        go_enter Tryd.func127, Tryd.ntmps127
        go_wp2_with (first | (go_at_call 157; refine (hfo.out _).mono ?_; rintro e w1 ⟨rfl, rfl⟩) | (go_at_call 158; refine (hor.out _).mono ?_; rintro e w2 ⟨rfl, hB⟩; have d4 := stepc hB hlt c4; have hs2 := hB.size))
        obtain ⟨w3, hw3, x4, x0, x1, hB3⟩ : ∃ w3, w3 = w2.alloc (.cells #[.int .u32 x, .int .u32 y] 147) ∧ w3.cell? ⟨p.b, 4, none⟩ = some (.map p.m) ∧ w3.cell? ⟨w2.heap.size, 0, none⟩ = some (.int .u32 x) ∧ w3.cell? ⟨w2.heap.size, 1, none⟩ = some (.int .u32 y) ∧ Hid (Below w.heap.size w w3) := ⟨_, rfl, stepc ((Below.refl _ w2).alloc (Nat.le_refl _) _) (by omega) d4, (pair_box _ _ _ _).1, (pair_box _ _ _ _).2, Lib.hid (hB.alloc hs2 _)⟩
        rw [← hw3]
        clear hw3 hB d4
        go_quiet (fail)
        have hn := below_draws w3 nq
        obtain ⟨w4, hw4, y0, y1, hB4⟩ : ∃ w4, w4 = w3.drewN nq ∧ w4.cell? ⟨w2.heap.size, 0, none⟩ = some (.int .u32 x) ∧ w4.cell? ⟨w2.heap.size, 1, none⟩ = some (.int .u32 y) ∧ Hid (Below w.heap.size w w4) := ⟨_, rfl, x0, x1, Lib.hid (nextw hB3.out hn)⟩
        rw [← hw4]
        clear hn hlook hw4 x0 x1 x4 hB3
        go_wp2_with (go_at_call 159; refine (gate_any (HG.out.below hB4.out) HW.out hm hX.out.1 hX.out.2).mono ?_; rintro e w5 ⟨rfl, p', hS⟩)
        go_ret2
        exact ⟨rfl, p', Step.front HG.out hB4.out hS⟩
      | true =>
        rw [hF] at c0
        have hB : foldB a b = false := by rw [hF] at hf; simpa using hf
        rw [hB] at hfo
        clear hf hF hB
        go_enter Tryd.func127, Tryd.ntmps127
        go_wp2_with (first | (go_at_call 157; refine (hfo.out _).mono ?_; rintro e w1 ⟨rfl, rfl⟩) | (go_at_call 158; refine (hor.out _).mono ?_; rintro e w2 ⟨rfl, hB⟩; have d4 := stepc hB hlt c4; have hs2 := hB.size))
        obtain ⟨w3, hw3, x4, x0, x1, hB3⟩ : ∃ w3, w3 = w2.alloc (.cells #[.int .u32 x, .int .u32 y] 147) ∧ w3.cell? ⟨p.b, 4, none⟩ = some (.map p.m) ∧ w3.cell? ⟨w2.heap.size, 0, none⟩ = some (.int .u32 x) ∧ w3.cell? ⟨w2.heap.size, 1, none⟩ = some (.int .u32 y) ∧ Hid (Below w.heap.size w w3) := ⟨_, rfl, stepc ((Below.refl _ w2).alloc (Nat.le_refl _) _) (by omega) d4, (pair_box _ _ _ _).1, (pair_box _ _ _ _).2, Lib.hid (hB.alloc hs2 _)⟩
        rw [← hw3]
        clear hw3 hB d4
        go_quiet (fail)
        have hn := below_draws w3 nq
        obtain ⟨w4, hw4, y0, y1, hB4⟩ : ∃ w4, w4 = w3.drewN nq ∧ w4.cell? ⟨w2.heap.size, 0, none⟩ = some (.int .u32 x) ∧ w4.cell? ⟨w2.heap.size, 1, none⟩ = some (.int .u32 y) ∧ Hid (Below w.heap.size w w4) := ⟨_, rfl, x0, x1, Lib.hid (nextw hB3.out hn)⟩
        rw [← hw4]
        clear hn hlook hw4 x0 x1 x4 hB3
        go_wp2_with (go_at_call 159; refine (gate_any (HG.out.below hB4.out) HW.out hm hX.out.1 hX.out.2).mono ?_; rintro e w5 ⟨rfl, p', hS⟩)
        go_ret2
        exact ⟨rfl, p', Step.front HG.out hB4.out hS⟩
    | true =>
      have hmap := hG.map
      unfold MapIn at hmap
      rw [if_pos hH] at hmap
      obtain ⟨mb, D, hmb, hown, hD⟩ := hmap
      obtain ⟨cv, hcv, hlk⟩ := look_map hown hD hX.out.1 hX.out.2
      have hmlt := hown.lt
      rw [hmb] at c4
      have HMB := Lib.hid hmb
      cases hfi : findG G.nodes x y with
      | some i =>
        have HE := Lib.hid (e1.out i hH hfi)
        have hci := hcv i hfi
        subst hci
        rw [hfi] at hlk
        have hlk := Lib.hid hlk
        rw [HE.out]
        clear hG hW e1 e2 c1 hmb hown hD hcv hfi
        cases hF : G.fold with
        | false =>
          rw [hF] at c0
          clear hf hF
          go_enter Tryd.func127, Tryd.ntmps127
          go_wp2_with (first | (go_at_call 157; refine (hfo.out _).mono ?_; rintro e w1 ⟨rfl, rfl⟩) | (go_at_call 158; refine (hor.out _).mono ?_; rintro e w2 ⟨rfl, hB⟩; have d4 := stepc hB hlt c4; have hs2 := hB.size))
          rw [← HMB.out] at d4
          obtain ⟨w3, hw3, x4, x0, x1, hB3⟩ : ∃ w3, w3 = w2.alloc (.cells #[.int .u32 x, .int .u32 y] 147) ∧ w3.cell? ⟨p.b, 4, none⟩ = some (.map p.m) ∧ w3.cell? ⟨w2.heap.size, 0, none⟩ = some (.int .u32 x) ∧ w3.cell? ⟨w2.heap.size, 1, none⟩ = some (.int .u32 y) ∧ Hid (Below w.heap.size w w3) := ⟨_, rfl, stepc ((Below.refl _ w2).alloc (Nat.le_refl _) _) (by omega) d4, (pair_box _ _ _ _).1, (pair_box _ _ _ _).2, Lib.hid (hB.alloc hs2 _)⟩
          rw [← hw3]
          rw [HMB.out] at x4
          have hlook : ∀ j, (Instr.lookup 142 (.map (some mb)) (.agg #[.int .u32 x, .int .u32 y]) true).run Tryd.prog (w3.drewN j) = .ok (.tuple #[.int .u32 (2 * (i : Int)), .bool true]) (w3.drewN j) := fun j => hlk.out _ (hB3.out.block mb hmlt)
          clear hw3 hB d4
          go_quiet (fail)
          go_wp2
          go_ret2
          exact ⟨rfl, p, Step.of_below HG.out (nextw hB3.out (below_draws w3 nq))⟩
        | true =>
          rw [hF] at c0
          have hB : foldB a b = false := by rw [hF] at hf; simpa using hf
          rw [hB] at hfo
          clear hf hF hB
          go_enter Tryd.func127, Tryd.ntmps127
          go_wp2_with (first | (go_at_call 157; refine (hfo.out _).mono ?_; rintro e w1 ⟨rfl, rfl⟩) | (go_at_call 158; refine (hor.out _).mono ?_; rintro e w2 ⟨rfl, hB⟩; have d4 := stepc hB hlt c4; have hs2 := hB.size))
          rw [← HMB.out] at d4
          obtain ⟨w3, hw3, x4, x0, x1, hB3⟩ : ∃ w3, w3 = w2.alloc (.cells #[.int .u32 x, .int .u32 y] 147) ∧ w3.cell? ⟨p.b, 4, none⟩ = some (.map p.m) ∧ w3.cell? ⟨w2.heap.size, 0, none⟩ = some (.int .u32 x) ∧ w3.cell? ⟨w2.heap.size, 1, none⟩ = some (.int .u32 y) ∧ Hid (Below w.heap.size w w3) := ⟨_, rfl, stepc ((Below.refl _ w2).alloc (Nat.le_refl _) _) (by omega) d4, (pair_box _ _ _ _).1, (pair_box _ _ _ _).2, Lib.hid (hB.alloc hs2 _)⟩
          rw [← hw3]
          rw [HMB.out] at x4
          have hlook : ∀ j, (Instr.lookup 142 (.map (some mb)) (.agg #[.int .u32 x, .int .u32 y]) true).run Tryd.prog (w3.drewN j) = .ok (.tuple #[.int .u32 (2 * (i : Int)), .bool true]) (w3.drewN j) := fun j => hlk.out _ (hB3.out.block mb hmlt)
          clear hw3 hB d4
          go_quiet (fail)
          go_wp2
          go_ret2
          exact ⟨rfl, p, Step.of_below HG.out (nextw hB3.out (below_draws w3 nq))⟩
      | none =>
        have HE := Lib.hid (e2.out (fun _ => hfi))
        rw [hfi] at hlk
        have hlk := Lib.hid hlk
        rw [HE.out]
        clear hG hW e1 e2 c1 hmb hown hD hcv hfi
        cases hF : G.fold with
        | false =>
          rw [hF] at c0
          clear hf hF
          go_enter Tryd.func127, Tryd.ntmps127
          go_wp2_with (first | (go_at_call 157; refine (hfo.out _).mono ?_; rintro e w1 ⟨rfl, rfl⟩) | (go_at_call 158; refine (hor.out _).mono ?_; rintro e w2 ⟨rfl, hB⟩; have d4 := stepc hB hlt c4; have hs2 := hB.size))
          rw [← HMB.out] at d4
          obtain ⟨w3, hw3, x4, x0, x1, hB3⟩ : ∃ w3, w3 = w2.alloc (.cells #[.int .u32 x, .int .u32 y] 147) ∧ w3.cell? ⟨p.b, 4, none⟩ = some (.map p.m) ∧ w3.cell? ⟨w2.heap.size, 0, none⟩ = some (.int .u32 x) ∧ w3.cell? ⟨w2.heap.size, 1, none⟩ = some (.int .u32 y) ∧ Hid (Below w.heap.size w w3) := ⟨_, rfl, stepc ((Below.refl _ w2).alloc (Nat.le_refl _) _) (by omega) d4, (pair_box _ _ _ _).1, (pair_box _ _ _ _).2, Lib.hid (hB.alloc hs2 _)⟩
          rw [← hw3]
          rw [HMB.out] at x4
          have hlook : ∀ j, (Instr.lookup 142 (.map (some mb)) (.agg #[.int .u32 x, .int .u32 y]) true).run Tryd.prog (w3.drewN j) = .ok (.tuple #[.int .u32 cv, .bool false]) (w3.drewN j) := fun j => hlk.out _ (hB3.out.block mb hmlt)
          clear hw3 hB d4
          go_quiet (fail)
          have hn := below_draws w3 nq
          obtain ⟨w4, hw4, y0, y1, hB4⟩ : ∃ w4, w4 = w3.drewN nq ∧ w4.cell? ⟨w2.heap.size, 0, none⟩ = some (.int .u32 x) ∧ w4.cell? ⟨w2.heap.size, 1, none⟩ = some (.int .u32 y) ∧ Hid (Below w.heap.size w w4) := ⟨_, rfl, x0, x1, Lib.hid (nextw hB3.out hn)⟩
          rw [← hw4]
          clear hn hlook hw4 x0 x1 x4 hB3
          go_wp2_with (go_at_call 159; refine (gate_any (HG.out.below hB4.out) HW.out hm hX.out.1 hX.out.2).mono ?_; rintro e w5 ⟨rfl, p', hS⟩)
          go_ret2
          exact ⟨rfl, p', Step.front HG.out hB4.out hS⟩
        | true =>
          rw [hF] at c0
          have hB : foldB a b = false := by rw [hF] at hf; simpa using hf
          rw [hB] at hfo
          clear hf hF hB
          go_enter Tryd.func127, Tryd.ntmps127
          go_wp2_with (first | (go_at_call 157; refine (hfo.out _).mono ?_; rintro e w1 ⟨rfl, rfl⟩) | (go_at_call 158; refine (hor.out _).mono ?_; rintro e w2 ⟨rfl, hB⟩; have d4 := stepc hB hlt c4; have hs2 := hB.size))
          rw [← HMB.out] at d4
          obtain ⟨w3, hw3, x4, x0, x1, hB3⟩ : ∃ w3, w3 = w2.alloc (.cells #[.int .u32 x, .int .u32 y] 147) ∧ w3.cell? ⟨p.b, 4, none⟩ = some (.map p.m) ∧ w3.cell? ⟨w2.heap.size, 0, none⟩ = some (.int .u32 x) ∧ w3.cell? ⟨w2.heap.size, 1, none⟩ = some (.int .u32 y) ∧ Hid (Below w.heap.size w w3) := ⟨_, rfl, stepc ((Below.refl _ w2).alloc (Nat.le_refl _) _) (by omega) d4, (pair_box _ _ _ _).1, (pair_box _ _ _ _).2, Lib.hid (hB.alloc hs2 _)⟩
          rw [← hw3]
          rw [HMB.out] at x4
          have hlook : ∀ j, (Instr.lookup 142 (.map (some mb)) (.agg #[.int .u32 x, .int .u32 y]) true).run Tryd.prog (w3.drewN j) = .ok (.tuple #[.int .u32 cv, .bool false]) (w3.drewN j) := fun j => hlk.out _ (hB3.out.block mb hmlt)
          clear hw3 hB d4
          go_quiet (fail)
          have hn := below_draws w3 nq
          obtain ⟨w4, hw4, y0, y1, hB4⟩ : ∃ w4, w4 = w3.drewN nq ∧ w4.cell? ⟨w2.heap.size, 0, none⟩ = some (.int .u32 x) ∧ w4.cell? ⟨w2.heap.size, 1, none⟩ = some (.int .u32 y) ∧ Hid (Below w.heap.size w w4) := ⟨_, rfl, x0, x1, Lib.hid (nextw hB3.out hn)⟩
          rw [← hw4]
          clear hn hlook hw4 x0 x1 x4 hB3
          go_wp2_with (go_at_call 159; refine (gate_any (HG.out.below hB4.out) HW.out hm hX.out.1 hX.out.2).mono ?_; rintro e w5 ⟨rfl, p', hS⟩)
          go_ret2
          exact ⟨rfl, p', Step.front HG.out hB4.out hS⟩
end Go.Proofs.YtnhpjacodhdpeaaDoor
end

section
namespace Go.Proofs.YtnhpjacodhdpeaaDoor
open Go.RowKit Go.Maps
set_option maxRecDepth 100000

theorem orG_good {G : Gr} (h : Wf G) {a b : Int} (ha : There G a) (hb : There G b) (hl : G.nodes.length ≤ 10000000) : Grows G (orG G a b).1 (orG G a b).2 1 := by
  have g := andG_good h ha.not hb.not hl
  exact ⟨g.wf, g.le, g.there.not, g.len, g.ins⟩
theorem Grows.trans {A B C : Gr} {l m : Int} {j k : Nat} (h : Grows A B l j) (g : Grows B C m k) : Grows A C m (j + k) :=
  ⟨g.wf, h.le.trans g.le, g.there, by have := h.len; have := g.len; omega, g.ins.trans h.ins⟩
theorem eitherG_good {G : Gr} (h : Wf G) {a b c d : Int} (ha : There G a) (hb : There G b) (hc : There G c) (hd : There G d) (hl : G.nodes.length ≤ 9000000) : Grows G (eitherG G a b c d).1 (eitherG G a b c d).2 3 := by
  have g1 := andG_good h ha hb (by omega)
  have l1 := g1.len
  have g2 := andG_good g1.wf (g1.le.there hc) (g1.le.there hd) (by omega)
  have l2 := g2.len
  have g3 := orG_good g2.wf (g2.le.there g1.there) g2.there (by omega)
  exact (g1.trans g2).trans g3
theorem xorG_good {G : Gr} (h : Wf G) {a b : Int} (ha : There G a) (hb : There G b) (hl : G.nodes.length ≤ 9000000) : Grows G (xorG G a b).1 (xorG G a b).2 3 := eitherG_good h ha hb.not ha.not hb hl
theorem muxG_good {G : Gr} (h : Wf G) {c a b : Int} (hc : There G c) (ha : There G a) (hb : There G b) (hl : G.nodes.length ≤ 9000000) : Grows G (muxG G c a b).1 (muxG G c a b).2 3 := eitherG_good h hc ha hc.not hb hl

end Go.Proofs.YtnhpjacodhdpeaaDoor
end

section
namespace Go.Proofs.YtnhpjacodhdpeaaDoor
open Go.RowKit Go.Maps
set_option maxRecDepth 100000

/-- Literals that are all there. -/
def AllThere (G : Gr) (l : List Int) : Prop := ∀ x ∈ l, There G x
theorem AllThere.at {G : Gr} {l : List Int} (h : AllThere G l) {i : Nat} (hi : i < l.length) : There G (l.getD i 0) := h _ (by simp [List.getD, hi])
theorem AllThere.mono {G G' : Gr} {l : List Int} (h : AllThere G l) (k : Le G G') : AllThere G' l := fun x hx => k.there (h x hx)

theorem check_any {w : World} {p : Pl} {G : Gr} (hG : Is w p G) (hW : Wf G) (hm : G.nodes.length ≤ 200000) {a : Option Addr} {n cap : Nat} {l : List Int} (hs : Row .u32 w a n l) (hl : AllThere G l) :
    Calls Tryd.prog 156 #[.pointer (some ⟨p.b, 0, none⟩), .slice a n cap] w fun e w' => e = .returned (.int .i64 0) ∧ Below w.heap.size w w' := by
  have hst := Lib.hid (stands_any hG.lay hW.pos)
  obtain ⟨-, -, c2, -, -, -⟩ := hG.lay.cells
  have hlt := hG.lay.lt
  have HS := Lib.hid hs
  have hn := hs.le
  have HT := Lib.hid (fun i (hi : i < n) => hl.at (i := i) (by rw [hs.len]; exact hi))
  have h0 := hW.pos
  unfold There at HT
  generalize G.nodes.length = k at *
  clear hG hW hs hl
  go_enter Tryd.func156, Tryd.ntmps156
  go_wp2_with (go_at_call 77; refine hst.out.mono ?_; rintro e w2 ⟨rfl, rfl⟩)
  go_loopw [12] (fun i wr => ∃ j : Nat, j ≤ n ∧ i = .int .i64 j ∧ Below w.heap.size w wr) (fun i _ => n - (intOf i).toNat)
  case atStart => exact ⟨0, Nat.zero_le _, rfl, Below.refl _ _⟩
  case round =>
    obtain ⟨j, hj, rfl, hB⟩ := hrel
    by_cases hjn : j < n
    · obtain ⟨b, off, rfl, hb, hc⟩ := HS.out.at (by omega)
      have hcj := (hB.cell (p := ⟨b, off + j, none⟩) hb).trans (hc j hjn)
      obtain ⟨⟨t0, t1⟩, t2⟩ := HT.out j hjn
      have d2 := stepc hB hlt c2
      generalize l.getD j 0 = x at *
      have hnode := Lib.hid (fun w => node_any x ⟨t0, t1⟩ w)
      have g0 : decide ((k : Int) ≤ x / 2) = false := by simp; omega
      clear hc
      go_wp2
      go_quiet (first | (go_at_call 79; exact Calls.quiet_of_same ((hnode.out _).mono (fun _ _ h => ⟨h.1, h.2.symm⟩))))
      go_wp2
      go_roundw
      case rel => exact ⟨j + 1, by omega, by go_num, nextw hB (below_draws wr nq)⟩
      case measure => simp [intOf]; omega
    · obtain rfl : j = n := by omega
      go_wp2
      go_ret
      exact ⟨rfl, hB⟩
end Go.Proofs.YtnhpjacodhdpeaaDoor
end

section
namespace Go.Proofs.YtnhpjacodhdpeaaDoor
open Go.RowKit Go.Maps

/-- The first j of r put to x, from the left. -/
def manyN (T : Gr → Int → Int → Gr × Int) (G : Gr) (x : Int) (r : List Int) (j : Nat) : Gr × Int := (r.take j).foldl (fun p y => T p.1 p.2 y) (G, x)
theorem manyN_zero (T : Gr → Int → Int → Gr × Int) (G : Gr) (x : Int) (r : List Int) : manyN T G x r 0 = (G, x) := rfl
theorem manyN_succ (T : Gr → Int → Int → Gr × Int) (G : Gr) (x : Int) (r : List Int) (j : Nat) (h : j < r.length) : manyN T G x r (j + 1) = T (manyN T G x r j).1 (manyN T G x r j).2 (r.getD j 0) := by
  unfold manyN
  rw [List.take_add_one, List.foldl_append]
  simp [List.getD, h]
theorem manyN_all (T : Gr → Int → Int → Gr × Int) (z : Int) (G : Gr) (x : Int) (r : List Int) : manyN T G x r r.length = manyG T z G (x :: r) := by
  unfold manyN manyG; rw [List.take_length]

/-- What a way to put two literals together is. -/
def OpOk (T : Gr → Int → Int → Gr × Int) (k : Nat) : Prop := ∀ G a b, Wf G → There G a → There G b → G.nodes.length ≤ 9000000 → Grows G (T G a b).1 (T G a b).2 k
theorem and_ok : OpOk andG 1 := fun _ _ _ h ha hb hl => andG_good h ha hb (by omega)
theorem or_ok : OpOk orG 1 := fun _ _ _ h ha hb hl => orG_good h ha hb (by omega)
theorem xor_ok : OpOk xorG 3 := fun _ _ _ h ha hb hl => xorG_good h ha hb hl
theorem many_good {T : Gr → Int → Int → Gr × Int} {k : Nat} (hT : OpOk T k) {G : Gr} {x : Int} {r : List Int} (hW : Wf G) (hx : There G x) (hr : AllThere G r) (hl : G.nodes.length + k * r.length ≤ 9000000) :
    ∀ j, j ≤ r.length → Grows G (manyN T G x r j).1 (manyN T G x r j).2 (k * j) := by
  intro j
  induction j with
  | zero => intro _; exact ⟨hW, Le.refl _, hx, by simp [manyN_zero], rfl⟩
  | succ j ih =>
    intro hj
    have g := ih (by omega)
    have hlen := g.len
    have hm : k * j ≤ k * r.length := Nat.mul_le_mul_left _ (by omega)
    have g2 := hT _ _ _ g.wf g.there (g.le.there (hr.at (i := j) (by omega))) (by omega)
    rw [manyN_succ _ _ _ _ _ (by omega)]
    exact g.trans g2

/-- A call's contract, as the walk of 'together' takes it. -/
def OpCall (f : FuncId) (T : Gr → Int → Int → Gr × Int) : Prop := ∀ (w : World) (p : Pl) (G : Gr) (a b : Int), Is w p G → Wf G → G.nodes.length ≤ 199000 → There G a → There G b →
    Calls Tryd.prog f #[.pointer (some ⟨p.b, 0, none⟩), .int .u32 a, .int .u32 b] w fun e w' => e = .returned (.tuple #[.int .u32 (T G a b).2, .int .i64 0]) ∧ ∃ p', Step p w p' w' (T G a b).1
theorem and_call : OpCall 127 andG := fun _ _ _ _ _ hI hW hm ha hb => and_any hI hW (by omega) ha.1 hb.1
set_option maxRecDepth 100000 in
set_option maxHeartbeats 1000000 in
theorem together_and {T : Gr → Int → Int → Gr × Int} {k : Nat} (hT : OpOk T k) (hc : OpCall 127 T) {w : World} {p : Pl} {G : Gr} (hG : Is w p G) (hW : Wf G) {a : Option Addr} {n cap : Nat} {l : List Int} (hs : Row .u32 w a n l) (hcap : n ≤ cap) (hap : ∀ x, a = some x → ¬ p.has x.block) (hl : AllThere G l) (hm : G.nodes.length + k * n ≤ 199000) (z : Int) :
    Calls Tryd.prog 126 #[.pointer (some ⟨p.b, 0, none⟩), .int .u32 z, .func (.func 127) #[.pointer (some ⟨p.b, 0, none⟩)] #[], .slice a n cap] w fun e w' => e = .returned (.tuple #[.int .u32 (manyG T z G l).2, .int .i64 0]) ∧ ∃ p', Step p w p' w' (manyG T z G l).1 := by
  have hck := Lib.hid (check_any hG hW (by omega) hs hl (cap := cap))
  have hlen := hs.len
  have HS := Lib.hid hs
  have hlt := hG.lay.lt
  cases l with
  | nil =>
    obtain rfl : n = 0 := by simpa using hlen.symm
    have hdone : Hid (manyG T z G [] = (G, z)) := Lib.hid rfl
    rw [hdone.out]
    have HG := Lib.hid hG
    clear hG hW hs hl HS
    go_enter Tryd.func126, Tryd.ntmps126
    go_wp2_with (go_at_call 156; refine hck.out.mono ?_; rintro e w2 ⟨rfl, hB⟩)
    go_ret2
    exact ⟨rfl, p, Step.of_below HG.out hB⟩
  | cons x r =>
    obtain ⟨m, rfl⟩ : ∃ m, n = m + 1 := ⟨r.length, by simpa using hlen.symm⟩
    obtain ⟨c, rfl⟩ : ∃ c, cap = c + 1 := ⟨cap - 1, by omega⟩
    have hmc : m ≤ c := by omega
    have hrl : r.length = m := by simpa using hlen
    have hx : There G x := hl x (by simp)
    have hr : AllThere G r := fun y hy => hl y (by simp [hy])
    have hgr := Lib.hid (many_good hT hW hx hr (by rw [hrl]; have : k * m ≤ k * (m + 1) := Nat.mul_le_mul_left _ (by omega); omega))
    have hkm := Lib.hid hm
    obtain ⟨b, off, rfl, hb, hcell⟩ := hs.at (by omega)
    have hc0 := hcell 0 (by omega)
    have hle := hs.le
    rw [show (x :: r).getD 0 0 = x from rfl, Nat.add_zero] at hc0
    have hcr : Hid (∀ i, i < m → w.cell? ⟨b, off + 1 + i, none⟩ = some (.int .u32 (r.getD i 0))) := Lib.hid (fun i hi => by have := hcell (i + 1) (by omega); rw [show off + (i + 1) = off + 1 + i by omega] at this; exact this)
    have hall : Hid (manyN T G x r m = manyG T z G (x :: r)) := Lib.hid (by rw [← hrl]; exact manyN_all T z G x r)
    rw [← hall.out]
    have hsucc := Lib.hid (fun j (hj : j < m) => manyN_succ T G x r j (by omega))
    have HG := Lib.hid hG
    have HC := Lib.hid hc
    have HR := Lib.hid hr
    have hm2 : Hid (∀ j, j ≤ m → G.nodes.length + k * j ≤ 199000) := Lib.hid (fun j hj => by have : k * j ≤ k * (m + 1) := Nat.mul_le_mul_left _ (by omega); omega)
    have hnp : Hid (¬ p.has b) := Lib.hid (hap _ rfl)
    have hm0 : Hid ((manyN T G x r 0).1 = G ∧ (manyN T G x r 0).2 = x) := Lib.hid ⟨rfl, rfl⟩
    clear hG hW hs hl HS hcell hc hT hx hr hlen hm hkm hap hall
    generalize hM : manyN T G x r = M at *
    have hM := Lib.hid hM
    by_cases g0 : c = 0
    · subst g0
      obtain rfl : m = 0 := by omega
      go_enter Tryd.func126, Tryd.ntmps126
      go_wp2_with (go_at_call 156; (with_reducible refine hck.out.mono ?_); rintro e w2 ⟨rfl, hB⟩; have d0 := stepc hB hb hc0)
      go_loopw [11, 32] (fun so i wr => ∃ j : Nat, j ≤ 0 ∧ i = .int .i64 j ∧ so = .int .u32 (M j).2 ∧ ∃ p', Hid (Step p w p' wr (M j).1)) (fun _ i _ => 0 - (intOf i).toNat)
      case atStart => exact ⟨0, Nat.zero_le _, rfl, by rw [hm0.out.2], p, by rw [hm0.out.1]; exact Lib.hid (Step.of_below HG.out hB)⟩
      case round =>
        clear hB d0 hc0
        obtain ⟨j, hj, rfl, rfl, p2, hS⟩ := hrel
        by_cases hjm : j < 0
        · exact absurd hjm (by omega)
        · obtain rfl : j = 0 := by omega
          go_wp2
          go_ret2
          exact ⟨rfl, p2, hS.out⟩
    · go_enter Tryd.func126, Tryd.ntmps126
      go_wp2_with (go_at_call 156; (with_reducible refine hck.out.mono ?_); rintro e w2 ⟨rfl, hB⟩; have d0 := stepc hB hb hc0)
      go_loopw [11, 32] (fun so i wr => ∃ j : Nat, j ≤ m ∧ i = .int .i64 j ∧ so = .int .u32 (M j).2 ∧ ∃ p', Hid (Step p w p' wr (M j).1)) (fun _ i _ => m - (intOf i).toNat)
      case atStart => exact ⟨0, Nat.zero_le _, rfl, by rw [hm0.out.2], p, by rw [hm0.out.1]; exact Lib.hid (Step.of_below HG.out hB)⟩
      case round =>
        clear hB d0 hc0
        obtain ⟨j, hj, rfl, rfl, p2, hS⟩ := hrel
        by_cases hjm : j < m
        · have hcj := (kept_cell hS.out.kept hb hnp.out (o := off + 1 + j)).1.trans (hcr.out j hjm)
          have hgj := hgr.out j (by omega)
          have hlen := hgj.len
          have hmj := hm2.out j (by omega)
          have hyT := Lib.hid (hgj.le.there (HR.out.at (i := j) (by omega)))
          have hsj := hsucc.out j hjm
          have hcall := Lib.hid (HC.out wr p2 _ _ _ hS.out.is hgj.wf (by omega) hgj.there hyT.out)
          rw [← hsj, hS.out.b] at hcall
          generalize r.getD j 0 = y at *
          have HSJ := Lib.hid hsj
          clear hsj
          have hgj := Lib.hid hgj
          clear hlen hmj hgr hm2 hsucc
          go_wp2_with (go_at_call 127; refine hcall.out.mono ?_; rintro e w3 ⟨rfl, p3, hS3⟩)
          go_roundw
          case rel => exact ⟨_, _, _, _, _, _, _, _, _, _, _, _, _, _, _, _, _, _, _, _, _, _, ⟨j + 1, by omega, by go_num, rfl, p3, Lib.hid (hS.out.trans hS3)⟩, rfl⟩
          case measure => simp [intOf]; omega
        · obtain rfl : j = m := by omega
          go_wp2
          go_ret2
          exact ⟨rfl, p2, hS.out⟩
end Go.Proofs.YtnhpjacodhdpeaaDoor
end

section
namespace Go.Proofs.YtnhpjacodhdpeaaDoor
open Go.RowKit Go.Maps

/-- What a call of many literals comes to. -/
def ManyCall (f : FuncId) (T : Gr → Int → Int → Gr × Int) (z : Int) : Prop := ∀ (w : World) (p : Pl) (G : Gr) (a : Option Addr) (n cap : Nat) (l : List Int), Is w p G → Wf G → Row .u32 w a n l → n ≤ cap → (∀ x, a = some x → ¬ p.has x.block) → AllThere G l → G.nodes.length + 3 * n ≤ 199000 →
    Calls Tryd.prog f #[.pointer (some ⟨p.b, 0, none⟩), .slice a n cap] w fun e w' => e = .returned (.tuple #[.int .u32 (manyG T z G l).2, .int .i64 0]) ∧ ∃ p', Step p w p' w' (manyG T z G l).1

theorem And_any : ManyCall 82 andG 1 := by
  intro w p G a n cap l hG hW hs hcap hap hl hm
  have ht := Lib.hid (together_and and_ok and_call hG hW hs hcap hap hl (by omega) 1)
  clear hG hW hs hcap hap hl hm
  generalize manyG andG 1 G l = r at *
  go_enter Tryd.func82, Tryd.ntmps82
  go_wp2_with (go_at_call 126; (with_reducible refine ht.out.mono ?_); rintro e w2 ⟨rfl, p', hS⟩)
  go_ret2
  exact ⟨rfl, p', hS⟩
theorem row3 (w : World) (x y z : Int) (T : Nat) : Row .u32 (w.alloc (.cells #[.int .u32 x, .int .u32 y, .int .u32 z] T)) (some ⟨w.heap.size, 0, none⟩) 3 [x, y, z] := by
  refine ⟨rfl, by omega, .inr ⟨w.heap.size, 0, rfl, by simp, fun i hi => ?_⟩⟩
  match i, hi with
  | 0, _ => simp [go_sem]
  | 1, _ => simp [go_sem]
  | 2, _ => simp [go_sem]
  | i + 3, h => omega
theorem row2 (w : World) (x y : Int) (T : Nat) : Row .u32 (w.alloc (.cells #[.int .u32 x, .int .u32 y] T)) (some ⟨w.heap.size, 0, none⟩) 2 [x, y] := by
  refine ⟨rfl, by omega, .inr ⟨w.heap.size, 0, rfl, by simp, fun i hi => ?_⟩⟩
  match i, hi with
  | 0, _ => simp [go_sem]
  | 1, _ => simp [go_sem]
  | i + 2, h => omega


end Go.Proofs.YtnhpjacodhdpeaaDoor
end

section
namespace Go.Proofs.YtnhpjacodhdpeaaDoor
open Go.RowKit Go.Maps
set_option maxRecDepth 100000

theorem lay_new {w : World} {N : Nat} {F H : Bool} {m : Option Nat} (h1 : w.heap[N + 1]? = some (.cells #[.bool false, .int .u32 0, .int .u32 0] 149 (0, 0)))
    (h2 : w.heap[N + 1 + 1]? = some (.cells #[.bool F, .bool H, .slice (some ⟨N + 1, 0, none⟩) 1 1, .slice none 0 0, .map m] 144 (0, 0))) :
    Lay w ⟨N + 1 + 1, N + 1, 1, .slice none 0 0, m⟩ F H [⟨false, 0, 0⟩] [] :=
  ⟨h2, ⟨rfl, .inr ⟨N + 1, 1, _, rfl, Nat.zero_le _, h1, Nat.le_refl _, by decide, rfl, rfl⟩⟩, ⟨rfl, .inl ⟨rfl, rfl⟩⟩⟩
theorem mapOf_nil : MapOf [⟨false, 0, 0⟩] (.map []) := by
  refine ⟨isMap_empty, fun a b _ _ => ⟨?_, fun i hi => ?_⟩⟩
  · rfl
  · cases hi
theorem alloc_get (w : World) (o : Obj) {N : Nat} (h : N = w.heap.size) : (w.alloc o).heap[N]? = some o := by subst h; exact Deep.blk_alloc_new w o
theorem alloc_old (w : World) (o : Obj) {N : Nat} {x : Option Obj} (hx : w.heap[N]? = x) (h : N < w.heap.size) : (w.alloc o).heap[N]? = x := (Deep.blk_alloc_lt w o N h).trans hx

theorem new_false (F : Bool) (w : World) :
    Calls Tryd.prog 76 #[.agg #[.bool F, .bool false]] w fun e w' => ∃ p : Pl, e = .returned (.pointer (some ⟨p.b, 0, none⟩)) ∧ Is w' p (newG F false) ∧ Below w.heap.size w w' ∧ ∀ k, p.has k → w.heap.size ≤ k := by
  go_enter Tryd.func76, Tryd.ntmps76
  go_wp2
  go_ret
  refine ⟨⟨w.heap.size + 1 + 1, w.heap.size + 1, 1, .slice none 0 0, none⟩, rfl, ⟨lay_new (alloc_old _ _ (alloc_get _ _ (by simp)) (by simp)) (alloc_get _ _ (by simp)), by unfold MapIn; rfl⟩, (((Below.refl _ _).alloc (Nat.le_refl _) _).alloc (by simp) _).alloc (by simp; omega) _, ?_⟩
  rintro k (h | h | h | h) <;> simp [Value.ownBlock] at h <;> omega
theorem new_true (F : Bool) (w : World) :
    Calls Tryd.prog 76 #[.agg #[.bool F, .bool true]] w fun e w' => ∃ p : Pl, e = .returned (.pointer (some ⟨p.b, 0, none⟩)) ∧ Is w' p (newG F true) ∧ Below w.heap.size w w' ∧ ∀ k, p.has k → w.heap.size ≤ k := by
  have hmm := @run_makeMap Tryd.prog
  go_enter Tryd.func76, Tryd.ntmps76
  go_wp2
  go_ret
  refine ⟨⟨w.heap.size + 1 + 1, w.heap.size + 1, 1, .slice none 0 0, some (w.heap.size + 1 + 1 + 1)⟩, rfl, ⟨lay_new (alloc_old _ _ (alloc_old _ _ (alloc_get _ _ (by simp)) (by simp)) (by simp)) (alloc_old _ _ (alloc_get _ _ (by simp)) (by simp)), ?_⟩, ((((Below.refl _ _).alloc (Nat.le_refl _) _).alloc (by simp) _).alloc (by simp; omega) _).alloc (by simp; omega) _, ?_⟩
  · unfold MapIn
    rw [if_pos (show (newG F true).hash = true from rfl)]
    refine ⟨w.heap.size + 1 + 1 + 1, .map [], rfl, ?_, mapOf_nil⟩
    have := (World.ownsMap_made (H := Unit) (((w.alloc (Obj.cells #[Value.bool F, Value.bool true] 87)).alloc (Obj.cells #[Value.bool false, Value.int IntKind.u32 0, Value.int IntKind.u32 0] 149)).alloc (Obj.cells #[Value.bool F, Value.bool true, Value.slice (some { block := w.heap.size + 1, off := 0 }) 1 1, Value.slice none 0 0, Value.map (some (w.heap.size + 1 + 1 + 1))] 144)) Tryd.prog 147 (plainElem Tryd.prog 94)).mono (Nat.zero_le 1)
    simpa [newG] using this
  · rintro k (h | h | h | h) <;> simp [Value.ownBlock] at h <;> omega
theorem new_any (F H : Bool) (w : World) :
    Calls Tryd.prog 76 #[.agg #[.bool F, .bool H]] w fun e w' => ∃ p : Pl, e = .returned (.pointer (some ⟨p.b, 0, none⟩)) ∧ Is w' p (newG F H) ∧ Below w.heap.size w w' ∧ ∀ k, p.has k → w.heap.size ≤ k := by
  cases H
  · exact new_false F w
  · exact new_true F w

/-- Behind the append and the store of the inputs. -/
theorem in_next {w wa w1 : World} {p : Pl} {F H : Bool} {ns : List Nd} {ins : List Int} (hL : Lay w p F H ns ins) (hb : Below w.heap.size w wa) (x : Int) {g cap : Nat}
    (hown : w1.ownsRow 0 3 1 (.slice (some ⟨g, 0, none⟩) (ins.length + 1) cap) (ins.length + 1) (ins.map (Value.int .i64) ++ [.int .i64 x]))
    (hg : wa.grownBy w1 p.iv.ownBlock) (hat : p.iv.ownBlock = some g ∨ g = wa.heap.size) :
    Lay (w1.setCell ⟨p.b, 3, none⟩ (.slice (some ⟨g, 0, none⟩) (ins.length + 1) cap)) { p with iv := .slice (some ⟨g, 0, none⟩) (ins.length + 1) cap } F H ns (ins ++ [x])
      ∧ Kept p.has w (w1.setCell ⟨p.b, 3, none⟩ (.slice (some ⟨g, 0, none⟩) (ins.length + 1) cap)) ∧ (p.iv.ownBlock = some g ∨ w.heap.size ≤ g) ∧ ∀ (m : Nat) (es : Array MapEntry) (cl : Nat), w.heap[m]? = some (.map es cl) → (w1.setCell ⟨p.b, 3, none⟩ (.slice (some ⟨g, 0, none⟩) (ins.length + 1) cap)).heap[m]? = w.heap[m]? := by
  have hlt := hL.lt
  have hnlt := hL.nlt
  have hsz := hb.size
  obtain ⟨cur, hcur⟩ := hL.nlen
  have hib : ∀ k, p.iv.ownBlock = some k → ∃ c, w.heap[k]? = some (.cells c 3 (0, 0)) := fun k hk => own_type hL.inputs hk
  have nb : some p.b ≠ p.iv.ownBlock := fun e => by
    obtain ⟨c, hc⟩ := hib p.b e.symm
    rw [hL.box] at hc; simp [boxOf] at hc
  have nn : some p.nb ≠ p.iv.ownBlock := fun e => by
    obtain ⟨c, hc⟩ := hib p.nb e.symm
    rw [hcur] at hc; simp at hc
  have hne : p.nb ≠ p.b := by
    intro e
    have := hL.box
    rw [← e, hcur] at this; simp [boxOf] at this
  have hgb : g ≠ p.b := by
    rcases hat with h | h
    · exact fun e => nb (by rw [h, e])
    · omega
  have hbox1 : w1.heap[p.b]? = some (boxOf p F H ns.length) := by
    rw [hg.block p.b (by omega) nb, hb.block _ hlt]; exact hL.box
  refine ⟨⟨?_, ?_, ?_⟩, ?_, ?_, ?_⟩
  · have := box_set (o := 3) hbox1 (.slice (some ⟨g, 0, none⟩) (ins.length + 1) cap)
    simpa [boxOf, Pl.nv] using this
  · refine ⟨hL.nodes.1, ?_⟩
    rcases hL.nodes.2 with h0 | ⟨g', cap', cur', hv, hg', hh, r⟩
    · exact .inl h0
    · have e : g' = p.nb := by simp [Pl.nv] at hv; exact hv.1.symm
      subst e
      exact .inr ⟨_, cap', cur', hv, hg', by rw [Below.heap_setCell _ _ _ _ hne, hg.block _ (by omega) nn, hb.block _ hnlt]; exact hh, r⟩
  · have : (w1.setCell ⟨p.b, 3, none⟩ (.slice (some ⟨g, 0, none⟩) (ins.length + 1) cap)).ownsRow 0 3 1 (.slice (some ⟨g, 0, none⟩) (ins.length + 1) cap) (ins.length + 1) (ins.map (Value.int .i64) ++ [.int .i64 x]) := by
      refine ⟨hown.1, ?_⟩
      rcases hown.2 with h0 | ⟨g', cap', cur', hv, hg', hh, r⟩
      · exact .inl h0
      · simp at hv
        obtain ⟨rfl, rfl⟩ := hv
        exact .inr ⟨_, _, cur', rfl, hg', by rw [Below.heap_setCell _ _ _ _ hgb]; exact hh, r⟩
    simpa using this
  · refine ⟨hg.os.trans hb.os, hg.tape.trans hb.tape, hg.output.trans hb.output, by have := hg.size; simp [World.setCell]; omega, fun k hk hn => ?_⟩
    have n1 : k ≠ p.b := fun e => hn (.inl e)
    have n2 : some k ≠ p.iv.ownBlock := fun e => hn (.inr (.inr (.inl e.symm)))
    rw [Below.heap_setCell _ _ _ _ n1, hg.block k (by omega) n2, hb.block k hk]
  · rcases hat with h | h
    · exact .inl h
    · exact .inr (by omega)
  · intro m es cl hm
    have hml := (Array.getElem?_eq_some_iff.1 hm).1
    have n1 : m ≠ p.b := fun e => by subst e; rw [hL.box] at hm; simp [boxOf] at hm
    have n2 : some m ≠ p.iv.ownBlock := fun e => by
      obtain ⟨c, hc⟩ := hib m e.symm
      rw [hm] at hc; cases hc
    rw [Below.heap_setCell _ _ _ _ n1, hg.block m (by omega) n2, hb.block m hml]
theorem info_int : (Tryd.prog.info? 3).map (fun i => (i.zero, i.size, i.bytes)) = some (some (.int .i64 0), 1, 8) := by kernel_rfl
/-- An input more: what the graph is then. -/
theorem step_in {w w2 w3 : World} {p p1 p2 : Pl} {G : Gr} (hG : Is w p G) (k1 : Kept p.own w w2) (eb1 : p1.b = p.b) (ei1 : p1.iv = p.iv) (em1 : p1.m = p.m) (nb1 : p1.nb = p.nb ∨ w.heap.size ≤ p1.nb)
    (l3 : Lay w3 p2 G.fold G.hash (G.nodes ++ [⟨false, 0, 0⟩]) (G.inputs ++ [(G.nodes.length : Int)])) (k2 : Kept p1.has w2 w3) (eb2 : p2.b = p1.b) (en2 : p2.nb = p1.nb) (em2 : p2.m = p1.m) (iv2 : ∀ k, p2.iv.ownBlock = some k → p1.iv.ownBlock = some k ∨ w2.heap.size ≤ k)
    (hmp : ∀ (m : Nat) (es : Array MapEntry) (cl : Nat), w2.heap[m]? = some (.map es cl) → w3.heap[m]? = w2.heap[m]?) : Step p w p2 w3 (inputG G) := by
  have hs := k1.size
  have new1 : ∀ k, p1.has k → p.has k ∨ w.heap.size ≤ k := by
    intro k hp
    rcases hp with hp | hp | hp | hp
    · exact .inl (.inl (hp.trans eb1))
    · rcases nb1 with h | h
      · exact .inl (.inr (.inl (hp.trans h)))
      · exact .inr (by omega)
    · rw [ei1] at hp; exact .inl (.inr (.inr (.inl hp)))
    · rw [em1] at hp; exact .inl (.inr (.inr (.inr hp)))
  have kh : Kept p.has w w2 := ⟨k1.os, k1.tape, k1.output, k1.size, fun k hk hn => k1.block k hk (fun h => hn (by rcases h with h | h; exact .inl h; exact .inr (.inl h)))⟩
  refine ⟨⟨l3, ?_⟩, kh.trans k2 new1, eb2.trans eb1, fun k hp => ?_⟩
  · have hm := hG.map
    unfold MapIn at hm ⊢
    show if G.hash = true then _ else _
    split
    · rename_i hH
      rw [if_pos hH] at hm
      obtain ⟨mb, D, e, ho, hD⟩ := hm
      obtain ⟨es, cl, hbk, -⟩ := id ho
      have hb2 : w2.heap[mb]? = w.heap[mb]? := k1.block mb ho.lt (map_apart hG.lay hbk)
      exact ⟨mb, D, (em2.trans em1).trans e, (map_block ho ((hmp mb es cl (hb2.trans hbk)).trans hb2)).mono (by rw [inputG_len]; omega), mapOf_input hD⟩
    · rename_i hH
      rw [if_neg hH] at hm
      exact (em2.trans em1).trans hm
  · have : p1.has k ∨ w2.heap.size ≤ k := by
      rcases hp with hp | hp | hp | hp
      · exact .inl (.inl (hp.trans eb2))
      · exact .inl (.inr (.inl (hp.trans en2)))
      · rcases iv2 k hp with h | h
        · exact .inl (.inr (.inr (.inl h)))
        · exact .inr h
      · rw [em2] at hp; exact .inl (.inr (.inr (.inr hp)))
    rcases this with h | h
    · exact new1 k h
    · exact .inr (by omega)

theorem news_one {w : World} {b : Nat} {x : Value} (h0 : w.cell? ⟨b, 0, none⟩ = some x) : ∀ (j : Nat) (u : Value), [x][j]? = some u → w.cell? ((⟨b, 0, none⟩ : Addr).add j) = some u := by
  intro j u h
  match j with
  | 0 => simp at h; subst h; simpa [Addr.add] using h0
  | j + 1 => simp at h

theorem Input_any {w : World} {p : Pl} {G : Gr} (hG : Is w p G) (hW : Wf G) (hm : G.nodes.length ≤ 200000) :
    Calls Tryd.prog 38 #[.pointer (some ⟨p.b, 0, none⟩)] w fun e w' => e = .returned (.tuple #[.int .u32 (2 * (G.nodes.length : Int)), .int .i64 0]) ∧ ∃ p', Step p w p' w' (inputG G) := by
  have h0 := hW.pos
  have hst := Lib.hid (stands_any hG.lay h0)
  have hcn := hW.cnt
  obtain ⟨-, -, c2, -, -, -⟩ := hG.lay.cells
  have hlt := hG.lay.lt
  have hadd := Lib.hid (add_any hG.lay h0 (by omega) ⟨false, 0, 0⟩)
  have hl : IsLit (2 * (G.nodes.length : Int)) := ⟨by omega, by omega⟩
  have hnode : Hid (∀ w, Calls Tryd.prog 79 #[.int .u32 (2 * (G.nodes.length : Int))] w fun e w' => e = .returned (.int .i64 G.nodes.length) ∧ w = w') := Lib.hid (fun w => by have := node_any _ hl w; rw [show 2 * (G.nodes.length : Int) / 2 = G.nodes.length by omega] at this; exact this)
  have HG := Lib.hid hG
  have hil : G.inputs.length ≤ 200000 := by omega
  obtain ⟨i0, hi, hz0, hz1, hz2⟩ := info_parts info_int
  have hkk := Lib.hid (rfl : G.nodes.length = G.nodes.length)
  clear hG hW hcn hl
  go_enter Tryd.func38, Tryd.ntmps38
  go_wp2_with (first
    | (go_at_call 77; refine hst.out.mono ?_; rintro e w2 ⟨rfl, rfl⟩)
    | (go_at_call 78; refine hadd.out.mono ?_; rintro e w2 ⟨rfl, p1, hl1, hk1, eb, ei, em, hnb⟩; obtain ⟨-, -, -, d3, -, fz⟩ := hl1.cells; have f3 := fz 3; rw [eb] at d3 f3; have hio := Lib.hid hl1.inputs; have hltb := hl1.lt; rw [eb] at hltb; have nbv : Hid (some p.b ≠ p1.iv.ownBlock) := Lib.hid (fun e => by obtain ⟨c, hc⟩ := own_type hl1.inputs e.symm; have hbx := hl1.box; rw [eb, hc] at hbx; simp [boxOf] at hbx); have HL1 := Lib.hid hl1; have HK := Lib.hid hk1; have HE := Lib.hid (show p1.b = p.b ∧ p1.iv = p.iv ∧ p1.m = p.m from ⟨eb, ei, em⟩); have HN := Lib.hid hnb; clear hl1 hk1 eb ei em hnb fz))
  go_region_law
    (first
      | (go_simp; go_at_call 79; refine (hnode.out _).mono ?_; rintro e w5 ⟨rfl, rfl⟩)
      | ((refine step_append_lies _ (by rfl) (.tmp 28) (.tmp 31) _ (by rfl) 0 3 i0 (.int .i64 0) 1 8 Tryd.underlying141 hi hz0 hz1 hz2 rfl (by decide) p1.iv G.inputs.length _ (by rfl) (by first | exact hio.out.drew | exact (hio.out.alloc _).drew | exact ((hio.out.alloc _).alloc _).drew) _ 1 1 [.int .i64 G.nodes.length] (by rfl) rfl (by exact news_one (by go_simp)) (by simp [Value.oneCell']) (by decide) (by unfold maxLen; omega) (by omega) (by omega) _ rfl ?_; intro g1 cap1 w1 hown1 hgrow1 hat1 hlt1; obtain ⟨x0, x1⟩ := grow_box hgrow1 (b := p.b) (o := 3) (v := p1.iv) (by go_simp) (by go_simp) nbv.out)))
  all_goals go_wp2
  all_goals go_ret2
  all_goals
    obtain ⟨r1, r2, r3, r4⟩ := in_next HL1.out (by first | exact ((Below.refl _ _).alloc (Nat.le_refl _) _).drew | exact ((Below.refl _ _).drew).alloc (Nat.le_refl _) _) G.nodes.length hown1 hgrow1 hat1
    rw [HE.out.1] at r1 r2 r4
    exact ⟨rfl, _, step_in HG.out HK.out HE.out.1 HE.out.2.1 HE.out.2.2 HN.out r1 r2 HE.out.1.symm rfl rfl (fun k hk => by
      have e : k = g1 := by simp [Value.ownBlock] at hk; exact hk.symm
      subst e; exact r3) r4⟩
end Go.Proofs.YtnhpjacodhdpeaaDoor
end
