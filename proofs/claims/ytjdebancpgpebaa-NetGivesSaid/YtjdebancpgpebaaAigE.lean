/-
  The And of two literals.
-/
import Derived.Test.YtjdebancpgpebaaAigD
namespace Go.Proofs.Ytjdebancpgpebaa
open Go.RowKit Go.Maps
set_option maxRecDepth 100000

theorem andG_fold {G : Gr} {a b : Int} (h : (G.fold && foldB a b) = true) : andG G a b = (G, foldV a b) := by unfold andG; rw [if_pos h]
theorem andG_seen {G : Gr} {a b : Int} {i : Nat} (h : (G.fold && foldB a b) = false) (hH : G.hash = true) (hs : findG G.nodes (hiV a b) (loV a b) = some i) : andG G a b = (G, 2 * (i : Int)) := by
  unfold andG seenG; rw [if_neg (by simp [h]), if_pos hH, hs]
theorem andG_none {G : Gr} {a b : Int} (h : (G.fold && foldB a b) = false) (hs : G.hash = true → findG G.nodes (hiV a b) (loV a b) = none) : andG G a b = (addN G (hiV a b) (loV a b), 2 * (G.nodes.length : Int)) := by
  unfold andG seenG; rw [if_neg (by simp [h])]
  by_cases hH : G.hash = true
  · rw [if_pos hH, hs hH]; rfl
  · rw [if_neg hH]; rfl

theorem pair_box (w : World) (x y : Value) (T : Nat) : (w.alloc (.cells #[x, y] T)).cell? ⟨w.heap.size, 0, none⟩ = some x ∧ (w.alloc (.cells #[x, y] T)).cell? ⟨w.heap.size, 1, none⟩ = some y := ⟨by simp [go_sem], by simp [go_sem]⟩

theorem and_any {w : World} {p : Pl} {G : Gr} (hG : Is w p G) (hW : Wf G) (hm : G.nodes.length ≤ 200000) {a b : Int} (ha : IsLit a) (hb : IsLit b) :
    Calls Try.prog 55 #[.pointer (some ⟨p.b, 0, none⟩), .int .u32 a, .int .u32 b] w fun e w' => e = .returned (.tuple #[.int .u32 (andG G a b).2, .int .i64 0]) ∧ ∃ p', Step p w p' w' (andG G a b).1 := by
  obtain ⟨c0, c1, -, -, c4, -⟩ := hG.lay.cells
  have hlt := hG.lay.lt
  have HG := Lib.hid hG
  have HW := Lib.hid hW
  have hfo := Lib.hid (fun w => fold_any a b ha hb w)
  have hor := Lib.hid (fun w => ordered_any (a := a) (b := b) w)
  by_cases hf : (G.fold && foldB a b) = true
  · rw [andG_fold hf]
    obtain ⟨hF, hB⟩ : G.fold = true ∧ foldB a b = true := by simpa using hf
    rw [hF] at c0
    rw [hB] at hfo
    clear hf hG hW hF hB hor
    go_enter Try.func55, Try.ntmps55
    go_wp2_with (go_at_call 66; refine (hfo.out _).mono ?_; rintro e w1 ⟨rfl, rfl⟩)
    go_ret2
    exact ⟨rfl, p, Step.refl HG.out⟩
  · have hf : (G.fold && foldB a b) = false := by simpa using hf
    have hX : Hid (IsLit (hiV a b) ∧ IsLit (loV a b)) := by
      rcases hiV_or a b with ⟨h1, h2⟩ | ⟨h1, h2⟩ <;> rw [h1, h2]
      · exact ⟨ha, hb⟩
      · exact ⟨hb, ha⟩
    have e1 := Lib.hid (fun i hH hs => andG_seen (i := i) hf hH hs)
    have e2 := Lib.hid (andG_none hf)
    generalize hiV a b = x at *
    generalize loV a b = y at *
    cases hH : G.hash with
    | false =>
      have HE := Lib.hid (e2.out (fun h => by rw [hH] at h; cases h))
      have HM : p.m = none := by have := hG.map; unfold MapIn at this; rw [hH] at this; simpa using this
      have hlook : ∀ w', (Instr.lookup 90 (.map p.m) (.agg #[.int .u32 x, .int .u32 y]) true).run Try.prog w' = .ok (.tuple #[.int .u32 0, .bool false]) w' := fun w' => by rw [HM]; exact look_none hX.out.1 hX.out.2
      rw [HE.out]
      clear hG hW e1 e2 c1 HM
      cases hF : G.fold with
      | false =>
        rw [hF] at c0
        clear hf hF
        go_enter Try.func55, Try.ntmps55
        go_wp2_with (first | (go_at_call 66; refine (hfo.out _).mono ?_; rintro e w1 ⟨rfl, rfl⟩) | (go_at_call 67; refine (hor.out _).mono ?_; rintro e w2 ⟨rfl, hB⟩; have d4 := stepc hB hlt c4; have hs2 := hB.size))
        obtain ⟨w3, hw3, x4, x0, x1, hB3⟩ : ∃ w3, w3 = w2.alloc (.cells #[.int .u32 x, .int .u32 y] 96) ∧ w3.cell? ⟨p.b, 4, none⟩ = some (.map p.m) ∧ w3.cell? ⟨w2.heap.size, 0, none⟩ = some (.int .u32 x) ∧ w3.cell? ⟨w2.heap.size, 1, none⟩ = some (.int .u32 y) ∧ Hid (Below w.heap.size w w3) := ⟨_, rfl, stepc ((Below.refl _ w2).alloc (Nat.le_refl _) _) (by omega) d4, (pair_box _ _ _ _).1, (pair_box _ _ _ _).2, Lib.hid (hB.alloc hs2 _)⟩
        rw [← hw3]
        clear hw3 hB d4
        go_quiet (fail)
        have hn := below_draws w3 nq
        obtain ⟨w4, hw4, y0, y1, hB4⟩ : ∃ w4, w4 = w3.drewN nq ∧ w4.cell? ⟨w2.heap.size, 0, none⟩ = some (.int .u32 x) ∧ w4.cell? ⟨w2.heap.size, 1, none⟩ = some (.int .u32 y) ∧ Hid (Below w.heap.size w w4) := ⟨_, rfl, x0, x1, Lib.hid (nextw hB3.out hn)⟩
        rw [← hw4]
        clear hn hlook hw4 x0 x1 x4 hB3
        go_wp2_with (go_at_call 68; refine (gate_any (HG.out.below hB4.out) HW.out hm hX.out.1 hX.out.2).mono ?_; rintro e w5 ⟨rfl, p', hS⟩)
        go_ret2
        exact ⟨rfl, p', Step.front HG.out hB4.out hS⟩
      | true =>
        rw [hF] at c0
        have hB : foldB a b = false := by rw [hF] at hf; simpa using hf
        rw [hB] at hfo
        clear hf hF hB
        go_enter Try.func55, Try.ntmps55
        go_wp2_with (first | (go_at_call 66; refine (hfo.out _).mono ?_; rintro e w1 ⟨rfl, rfl⟩) | (go_at_call 67; refine (hor.out _).mono ?_; rintro e w2 ⟨rfl, hB⟩; have d4 := stepc hB hlt c4; have hs2 := hB.size))
        obtain ⟨w3, hw3, x4, x0, x1, hB3⟩ : ∃ w3, w3 = w2.alloc (.cells #[.int .u32 x, .int .u32 y] 96) ∧ w3.cell? ⟨p.b, 4, none⟩ = some (.map p.m) ∧ w3.cell? ⟨w2.heap.size, 0, none⟩ = some (.int .u32 x) ∧ w3.cell? ⟨w2.heap.size, 1, none⟩ = some (.int .u32 y) ∧ Hid (Below w.heap.size w w3) := ⟨_, rfl, stepc ((Below.refl _ w2).alloc (Nat.le_refl _) _) (by omega) d4, (pair_box _ _ _ _).1, (pair_box _ _ _ _).2, Lib.hid (hB.alloc hs2 _)⟩
        rw [← hw3]
        clear hw3 hB d4
        go_quiet (fail)
        have hn := below_draws w3 nq
        obtain ⟨w4, hw4, y0, y1, hB4⟩ : ∃ w4, w4 = w3.drewN nq ∧ w4.cell? ⟨w2.heap.size, 0, none⟩ = some (.int .u32 x) ∧ w4.cell? ⟨w2.heap.size, 1, none⟩ = some (.int .u32 y) ∧ Hid (Below w.heap.size w w4) := ⟨_, rfl, x0, x1, Lib.hid (nextw hB3.out hn)⟩
        rw [← hw4]
        clear hn hlook hw4 x0 x1 x4 hB3
        go_wp2_with (go_at_call 68; refine (gate_any (HG.out.below hB4.out) HW.out hm hX.out.1 hX.out.2).mono ?_; rintro e w5 ⟨rfl, p', hS⟩)
        go_ret2
        exact ⟨rfl, p', Step.front HG.out hB4.out hS⟩
    | true =>
      have hmap := hG.map
      unfold MapIn at hmap
      rw [if_pos hH] at hmap
      obtain ⟨mb, D, hmb, hown, hD⟩ := hmap
      obtain ⟨cv, hcv, hlk⟩ := look_map hown hD hX.out.1 hX.out.2
      have hmlt := hown.lt
      rw [hmb] at c4
      have HMB := Lib.hid hmb
      cases hfi : findG G.nodes x y with
      | some i =>
        have HE := Lib.hid (e1.out i hH hfi)
        have hci := hcv i hfi
        subst hci
        rw [hfi] at hlk
        have hlk := Lib.hid hlk
        rw [HE.out]
        clear hG hW e1 e2 c1 hmb hown hD hcv hfi
        cases hF : G.fold with
        | false =>
          rw [hF] at c0
          clear hf hF
          go_enter Try.func55, Try.ntmps55
          go_wp2_with (first | (go_at_call 66; refine (hfo.out _).mono ?_; rintro e w1 ⟨rfl, rfl⟩) | (go_at_call 67; refine (hor.out _).mono ?_; rintro e w2 ⟨rfl, hB⟩; have d4 := stepc hB hlt c4; have hs2 := hB.size))
          rw [← HMB.out] at d4
          obtain ⟨w3, hw3, x4, x0, x1, hB3⟩ : ∃ w3, w3 = w2.alloc (.cells #[.int .u32 x, .int .u32 y] 96) ∧ w3.cell? ⟨p.b, 4, none⟩ = some (.map p.m) ∧ w3.cell? ⟨w2.heap.size, 0, none⟩ = some (.int .u32 x) ∧ w3.cell? ⟨w2.heap.size, 1, none⟩ = some (.int .u32 y) ∧ Hid (Below w.heap.size w w3) := ⟨_, rfl, stepc ((Below.refl _ w2).alloc (Nat.le_refl _) _) (by omega) d4, (pair_box _ _ _ _).1, (pair_box _ _ _ _).2, Lib.hid (hB.alloc hs2 _)⟩
          rw [← hw3]
          rw [HMB.out] at x4
          have hlook : ∀ j, (Instr.lookup 90 (.map (some mb)) (.agg #[.int .u32 x, .int .u32 y]) true).run Try.prog (w3.drewN j) = .ok (.tuple #[.int .u32 (2 * (i : Int)), .bool true]) (w3.drewN j) := fun j => hlk.out _ (hB3.out.block mb hmlt)
          clear hw3 hB d4
          go_quiet (fail)
          go_wp2
          go_ret2
          exact ⟨rfl, p, Step.of_below HG.out (nextw hB3.out (below_draws w3 nq))⟩
        | true =>
          rw [hF] at c0
          have hB : foldB a b = false := by rw [hF] at hf; simpa using hf
          rw [hB] at hfo
          clear hf hF hB
          go_enter Try.func55, Try.ntmps55
          go_wp2_with (first | (go_at_call 66; refine (hfo.out _).mono ?_; rintro e w1 ⟨rfl, rfl⟩) | (go_at_call 67; refine (hor.out _).mono ?_; rintro e w2 ⟨rfl, hB⟩; have d4 := stepc hB hlt c4; have hs2 := hB.size))
          rw [← HMB.out] at d4
          obtain ⟨w3, hw3, x4, x0, x1, hB3⟩ : ∃ w3, w3 = w2.alloc (.cells #[.int .u32 x, .int .u32 y] 96) ∧ w3.cell? ⟨p.b, 4, none⟩ = some (.map p.m) ∧ w3.cell? ⟨w2.heap.size, 0, none⟩ = some (.int .u32 x) ∧ w3.cell? ⟨w2.heap.size, 1, none⟩ = some (.int .u32 y) ∧ Hid (Below w.heap.size w w3) := ⟨_, rfl, stepc ((Below.refl _ w2).alloc (Nat.le_refl _) _) (by omega) d4, (pair_box _ _ _ _).1, (pair_box _ _ _ _).2, Lib.hid (hB.alloc hs2 _)⟩
          rw [← hw3]
          rw [HMB.out] at x4
          have hlook : ∀ j, (Instr.lookup 90 (.map (some mb)) (.agg #[.int .u32 x, .int .u32 y]) true).run Try.prog (w3.drewN j) = .ok (.tuple #[.int .u32 (2 * (i : Int)), .bool true]) (w3.drewN j) := fun j => hlk.out _ (hB3.out.block mb hmlt)
          clear hw3 hB d4
          go_quiet (fail)
          go_wp2
          go_ret2
          exact ⟨rfl, p, Step.of_below HG.out (nextw hB3.out (below_draws w3 nq))⟩
      | none =>
        have HE := Lib.hid (e2.out (fun _ => hfi))
        rw [hfi] at hlk
        have hlk := Lib.hid hlk
        rw [HE.out]
        clear hG hW e1 e2 c1 hmb hown hD hcv hfi
        cases hF : G.fold with
        | false =>
          rw [hF] at c0
          clear hf hF
          go_enter Try.func55, Try.ntmps55
          go_wp2_with (first | (go_at_call 66; refine (hfo.out _).mono ?_; rintro e w1 ⟨rfl, rfl⟩) | (go_at_call 67; refine (hor.out _).mono ?_; rintro e w2 ⟨rfl, hB⟩; have d4 := stepc hB hlt c4; have hs2 := hB.size))
          rw [← HMB.out] at d4
          obtain ⟨w3, hw3, x4, x0, x1, hB3⟩ : ∃ w3, w3 = w2.alloc (.cells #[.int .u32 x, .int .u32 y] 96) ∧ w3.cell? ⟨p.b, 4, none⟩ = some (.map p.m) ∧ w3.cell? ⟨w2.heap.size, 0, none⟩ = some (.int .u32 x) ∧ w3.cell? ⟨w2.heap.size, 1, none⟩ = some (.int .u32 y) ∧ Hid (Below w.heap.size w w3) := ⟨_, rfl, stepc ((Below.refl _ w2).alloc (Nat.le_refl _) _) (by omega) d4, (pair_box _ _ _ _).1, (pair_box _ _ _ _).2, Lib.hid (hB.alloc hs2 _)⟩
          rw [← hw3]
          rw [HMB.out] at x4
          have hlook : ∀ j, (Instr.lookup 90 (.map (some mb)) (.agg #[.int .u32 x, .int .u32 y]) true).run Try.prog (w3.drewN j) = .ok (.tuple #[.int .u32 cv, .bool false]) (w3.drewN j) := fun j => hlk.out _ (hB3.out.block mb hmlt)
          clear hw3 hB d4
          go_quiet (fail)
          have hn := below_draws w3 nq
          obtain ⟨w4, hw4, y0, y1, hB4⟩ : ∃ w4, w4 = w3.drewN nq ∧ w4.cell? ⟨w2.heap.size, 0, none⟩ = some (.int .u32 x) ∧ w4.cell? ⟨w2.heap.size, 1, none⟩ = some (.int .u32 y) ∧ Hid (Below w.heap.size w w4) := ⟨_, rfl, x0, x1, Lib.hid (nextw hB3.out hn)⟩
          rw [← hw4]
          clear hn hlook hw4 x0 x1 x4 hB3
          go_wp2_with (go_at_call 68; refine (gate_any (HG.out.below hB4.out) HW.out hm hX.out.1 hX.out.2).mono ?_; rintro e w5 ⟨rfl, p', hS⟩)
          go_ret2
          exact ⟨rfl, p', Step.front HG.out hB4.out hS⟩
        | true =>
          rw [hF] at c0
          have hB : foldB a b = false := by rw [hF] at hf; simpa using hf
          rw [hB] at hfo
          clear hf hF hB
          go_enter Try.func55, Try.ntmps55
          go_wp2_with (first | (go_at_call 66; refine (hfo.out _).mono ?_; rintro e w1 ⟨rfl, rfl⟩) | (go_at_call 67; refine (hor.out _).mono ?_; rintro e w2 ⟨rfl, hB⟩; have d4 := stepc hB hlt c4; have hs2 := hB.size))
          rw [← HMB.out] at d4
          obtain ⟨w3, hw3, x4, x0, x1, hB3⟩ : ∃ w3, w3 = w2.alloc (.cells #[.int .u32 x, .int .u32 y] 96) ∧ w3.cell? ⟨p.b, 4, none⟩ = some (.map p.m) ∧ w3.cell? ⟨w2.heap.size, 0, none⟩ = some (.int .u32 x) ∧ w3.cell? ⟨w2.heap.size, 1, none⟩ = some (.int .u32 y) ∧ Hid (Below w.heap.size w w3) := ⟨_, rfl, stepc ((Below.refl _ w2).alloc (Nat.le_refl _) _) (by omega) d4, (pair_box _ _ _ _).1, (pair_box _ _ _ _).2, Lib.hid (hB.alloc hs2 _)⟩
          rw [← hw3]
          rw [HMB.out] at x4
          have hlook : ∀ j, (Instr.lookup 90 (.map (some mb)) (.agg #[.int .u32 x, .int .u32 y]) true).run Try.prog (w3.drewN j) = .ok (.tuple #[.int .u32 cv, .bool false]) (w3.drewN j) := fun j => hlk.out _ (hB3.out.block mb hmlt)
          clear hw3 hB d4
          go_quiet (fail)
          have hn := below_draws w3 nq
          obtain ⟨w4, hw4, y0, y1, hB4⟩ : ∃ w4, w4 = w3.drewN nq ∧ w4.cell? ⟨w2.heap.size, 0, none⟩ = some (.int .u32 x) ∧ w4.cell? ⟨w2.heap.size, 1, none⟩ = some (.int .u32 y) ∧ Hid (Below w.heap.size w w4) := ⟨_, rfl, x0, x1, Lib.hid (nextw hB3.out hn)⟩
          rw [← hw4]
          clear hn hlook hw4 x0 x1 x4 hB3
          go_wp2_with (go_at_call 68; refine (gate_any (HG.out.below hB4.out) HW.out hm hX.out.1 hX.out.2).mono ?_; rintro e w5 ⟨rfl, p', hS⟩)
          go_ret2
          exact ⟨rfl, p', Step.front HG.out hB4.out hS⟩
end Go.Proofs.Ytjdebancpgpebaa
