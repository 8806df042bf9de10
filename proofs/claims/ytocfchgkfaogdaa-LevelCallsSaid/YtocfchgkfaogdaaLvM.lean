/-
  The queue: how its methods are reached, and what they do: length, less, swap; a number more at its end, one less.
-/
import Derived.Test.YtocfchgkfaogdaaOwn
import Derived.Test.YtocfchgkfaogdaaLvP
import Derived.StillTailTactics
import Derived.Deep.SlicePairs
import Derived.Deep.AppendLies
import Derived.Deep.RegionHeld3
import Derived.Laws.OwnMore
import Derived.BigRegion
namespace Go.Proofs.Ytocfchgkfaogdaa
open Go.RowKit
set_option maxRecDepth 100000

theorem below_draws (w : World) (k : Nat) : Below w.heap.size w (w.drewN k) := by
  induction k with
  | zero => exact Below.refl _ _
  | succ k ih => exact ih.drew

/-- All but the blocks F is as it was. -/
structure Kept (F : Nat → Prop) (w w' : World) : Prop where
  os : w'.os = w.os
  tape : w'.tape = w.tape
  output : w'.output = w.output
  size : w.heap.size ≤ w'.heap.size
  block : ∀ k, k < w.heap.size → ¬ F k → w'.heap[k]? = w.heap[k]?
theorem Kept.refl (F : Nat → Prop) (w : World) : Kept F w w := ⟨rfl, rfl, rfl, Nat.le_refl _, fun _ _ _ => rfl⟩
theorem Kept.of_below {F : Nat → Prop} {w w' : World} (h : Below w.heap.size w w') : Kept F w w' := ⟨h.os, h.tape, h.output, h.size, fun k hk _ => h.block k hk⟩
theorem Kept.of_grown {w w' : World} {r : Option Nat} (h : w.grownBy w' r) : Kept (fun k => r = some k) w w' := ⟨h.os, h.tape, h.output, h.size, fun k hk hn => h.block k hk (fun e => hn e.symm)⟩
theorem Kept.trans {F F' : Nat → Prop} {a b c : World} (h : Kept F a b) (k : Kept F' b c) (hF : ∀ x, F' x → F x ∨ a.heap.size ≤ x) : Kept F a c :=
  ⟨k.os.trans h.os, k.tape.trans h.tape, k.output.trans h.output, Nat.le_trans h.size k.size, fun i hi hn => (k.block i (Nat.lt_of_lt_of_le hi h.size) (fun hf => by rcases hF i hf with h1 | h1; exact hn h1; omega)).trans (h.block i hi hn)⟩
theorem Kept.below {F : Nat → Prop} {N : Nat} {w w' : World} (h : Kept F w w') (hF : ∀ k, F k → N ≤ k) (hN : N ≤ w.heap.size) : Below N w w' :=
  ⟨h.os, h.tape, h.output, h.size, fun k hk => h.block k (by omega) (fun hf => by have := hF k hf; omega)⟩
theorem Kept.wide {F G : Nat → Prop} {w w' : World} (h : Kept F w w') (hF : ∀ k, F k → G k) : Kept G w w' := ⟨h.os, h.tape, h.output, h.size, fun k hk hn => h.block k hk (fun hf => hn (hF k hf))⟩
theorem own_keptF {F : Nat → Prop} {w w' : World} {base e size n : Nat} {v : Value} {xs : List Value} (h : w.ownsRow base e size v n xs) (hk : Kept F w w') (hn : ∀ k, v.ownBlock = some k → ¬ F k) : w'.ownsRow base e size v n xs := by
  refine ⟨h.1, ?_⟩
  rcases h.2 with h0 | ⟨g, cap, cur, rfl, hg, hh, r⟩
  · exact .inl h0
  · exact .inr ⟨g, cap, cur, rfl, hg, by rw [hk.block g (Array.getElem?_eq_some_iff.1 hh).1 (hn g rfl)]; exact hh, r⟩
theorem own_type {w : World} {base e size n k : Nat} {v : Value} {xs : List Value} (h : w.ownsRow base e size v n xs) (hk : v.ownBlock = some k) : ∃ cur, w.heap[k]? = some (.cells cur e (0, 0)) := by
  rcases h.2 with ⟨rfl, _⟩ | ⟨g, cap, cur, rfl, _, hh, _⟩
  · simp [Value.ownBlock] at hk
  · simp [Value.ownBlock] at hk; subst hk; exact ⟨cur, hh⟩

def ints (l : List Int) : List Value := l.map (Value.int .i64)
theorem ints_len (l : List Int) : (ints l).length = l.length := by simp [ints]
theorem ints_get (l : List Int) {i : Nat} (hi : i < l.length) : (ints l)[i]? = some (.int .i64 (l.getD i 0)) := by simp [ints, List.getD, hi]

/-- A queue, in block q: its row v holds l. -/
structure QIs (w : World) (q : Nat) (v : Value) (l : List Int) : Prop where
  box : w.heap[q]? = some (.cells #[v] 71 (0, 0))
  row : w.ownsRow 0 3 1 v l.length (ints l)
def qhas (q : Nat) (v : Value) (k : Nat) : Prop := k = q ∨ v.ownBlock = some k
theorem QIs.below {w w' : World} {q : Nat} {v : Value} {l : List Int} (h : QIs w q v l) (hb : Below w.heap.size w w') : QIs w' q v l :=
  ⟨(hb.block _ (Array.getElem?_eq_some_iff.1 h.box).1).trans h.box, own_below h.row hb⟩
theorem QIs.row' {w : World} {q n : Nat} {v : Value} {l : List Int} (h : QIs w q v l) (hl : l.length = n) : w.ownsRow 0 3 1 v n (ints l) := by rw [← hl]; exact h.row
theorem QIs.lt {w : World} {q : Nat} {v : Value} {l : List Int} (h : QIs w q v l) : q < w.heap.size := (Array.getElem?_eq_some_iff.1 h.box).1
theorem QIs.cell {w : World} {q : Nat} {v : Value} {l : List Int} (h : QIs w q v l) : w.cell? ⟨q, 0, none⟩ = some v := by simp [World.cell?, h.box]
theorem QIs.frozen {w : World} {q : Nat} {v : Value} {l : List Int} (h : QIs w q v l) : w.frozen? ⟨q, 0, none⟩ = false := by
  simp [World.frozen?, h.box]
theorem QIs.form {w : World} {q : Nat} {v : Value} {l : List Int} (h : QIs w q v l) : ∃ a c, v = .slice a l.length c := own_slice h.row
theorem QIs.ne {w : World} {q : Nat} {v : Value} {l : List Int} (h : QIs w q v l) {g : Nat} (hg : v.ownBlock = some g) : q ≠ g := by
  rintro rfl
  obtain ⟨cur, hc⟩ := own_type h.row hg
  rw [h.box] at hc
  exact absurd hc (by simp)
theorem QIs.has_lt {w : World} {q : Nat} {v : Value} {l : List Int} (h : QIs w q v l) {k : Nat} (hk : qhas q v k) : k < w.heap.size := by
  rcases hk with rfl | hk
  · exact h.lt
  · obtain ⟨cur, hc⟩ := own_type h.row hk
    exact (Array.getElem?_eq_some_iff.1 hc).1
/-- One step on. -/
structure QStep (q : Nat) (v : Value) (w : World) (v' : Value) (w' : World) (l' : List Int) : Prop where
  is : QIs w' q v' l'
  kept : Kept (qhas q v) w w'
  new : ∀ k, qhas q v' k → qhas q v k ∨ w.heap.size ≤ k
theorem QStep.refl {q : Nat} {v : Value} {w : World} {l : List Int} (h : QIs w q v l) : QStep q v w v w l := ⟨h, Kept.refl _ _, fun _ h => .inl h⟩
theorem QStep.of_below {q : Nat} {v : Value} {w w' : World} {l : List Int} (h : QIs w q v l) (hb : Below w.heap.size w w') : QStep q v w v w' l := ⟨h.below hb, Kept.of_below hb, fun _ h => .inl h⟩
theorem QStep.then {q : Nat} {v v1 v2 : Value} {w w1 w2 : World} {l1 l2 : List Int} (h : QStep q v w v1 w1 l1) (k : QStep q v1 w1 v2 w2 l2) : QStep q v w v2 w2 l2 :=
  ⟨k.is, h.kept.trans k.kept h.new, fun x hx => by
    rcases k.new x hx with h1 | h1
    · exact h.new x h1
    · exact .inr (Nat.le_trans h.kept.size h1)⟩

theorem method_Len (q : Nat) (v : Value) (w : World) (h : w.cell? ⟨q, 0, none⟩ = some v) : (method 223 68 (.pointer (some ⟨q, 0, none⟩)) "Len").run Try.prog w = .ok (42, v) w := by
  have e : (method 223 68 (.pointer (some ⟨q, 0, none⟩)) "Len").run Try.prog w = (do let x ← load ⟨q, 0, none⟩; pure (42, x) : Sem (FuncId × Value)).run Try.prog w := by kernel_rfl
  rw [e]; simp [go_sem, h]
theorem method_Less (q : Nat) (v : Value) (w : World) (h : w.cell? ⟨q, 0, none⟩ = some v) : (method 223 68 (.pointer (some ⟨q, 0, none⟩)) "Less").run Try.prog w = .ok (86, v) w := by
  have e : (method 223 68 (.pointer (some ⟨q, 0, none⟩)) "Less").run Try.prog w = (do let x ← load ⟨q, 0, none⟩; pure (86, x) : Sem (FuncId × Value)).run Try.prog w := by kernel_rfl
  rw [e]; simp [go_sem, h]
theorem method_Swap (q : Nat) (v : Value) (w : World) (h : w.cell? ⟨q, 0, none⟩ = some v) : (method 223 68 (.pointer (some ⟨q, 0, none⟩)) "Swap").run Try.prog w = .ok (90, v) w := by
  have e : (method 223 68 (.pointer (some ⟨q, 0, none⟩)) "Swap").run Try.prog w = (do let x ← load ⟨q, 0, none⟩; pure (90, x) : Sem (FuncId × Value)).run Try.prog w := by kernel_rfl
  rw [e]; simp [go_sem, h]
theorem method_Push (q : Nat) (w : World) : (method 223 68 (.pointer (some ⟨q, 0, none⟩)) "Push").run Try.prog w = .ok (88, .pointer (some ⟨q, 0, none⟩)) w := by kernel_rfl
theorem method_Pop (q : Nat) (w : World) : (method 223 68 (.pointer (some ⟨q, 0, none⟩)) "Pop").run Try.prog w = .ok (87, .pointer (some ⟨q, 0, none⟩)) w := by kernel_rfl

theorem len_any (a : Option Addr) (n c : Nat) (w : World) : Calls Try.prog 42 #[.slice a n c] w fun e w' => e = .returned (.int .i64 n) ∧ w' = w := by
  go_enter Try.func42, Try.ntmps42
  go_wp2
  go_ret
  exact ⟨rfl, rfl⟩
set_option maxHeartbeats 1000000 in
theorem less_any {g n c : Nat} {l : List Int} {w : World} (h : w.ownsRow 0 3 1 (.slice (some ⟨g, 0, none⟩) n c) n (ints l)) (hl : l.length = n) {i j : Nat} (hi : i < n) (hj : j < n) :
    Calls Try.prog 86 #[.slice (some ⟨g, 0, none⟩) n c, .int .i64 i, .int .i64 j] w fun e w' => e = .returned (.bool (decide (l.getD i 0 < l.getD j 0))) ∧ Below w.heap.size w w' := by
  have ci : w.cell? ⟨g, i, none⟩ = some (.int .i64 (l.getD i 0)) := by rw [h.cellAt i (by omega), ints_get l (by omega)]
  have cj : w.cell? ⟨g, j, none⟩ = some (.int .i64 (l.getD j 0)) := by rw [h.cellAt j (by omega), ints_get l (by omega)]
  have hi' : (i : Int) < n := by omega
  have hj' : (j : Int) < n := by omega
  generalize l.getD i 0 = x at *
  generalize l.getD j 0 = y at *
  clear h
  go_enter Try.func86, Try.ntmps86
  go_wp2
  go_quiet (fail)
  go_wp2
  go_ret
  exact ⟨rfl, below_draws w _⟩
set_option maxHeartbeats 4000000 in
theorem swap_any {g n c : Nat} {l : List Int} {w : World} (h : w.ownsRow 0 3 1 (.slice (some ⟨g, 0, none⟩) n c) n (ints l)) (hl : l.length = n) {i j : Nat} (hi : i < n) (hj : j < n) :
    Calls Try.prog 90 #[.slice (some ⟨g, 0, none⟩) n c, .int .i64 i, .int .i64 j] w fun e w' => e = .returned (.tuple #[]) ∧ w'.ownsRow 0 3 1 (.slice (some ⟨g, 0, none⟩) n c) n (ints (swp l i j)) ∧ Kept (fun k => k = g) w w' := by
  have ci : w.cell? ⟨g, i, none⟩ = some (.int .i64 (l.getD i 0)) := by rw [h.cellAt i (by omega), ints_get l (by omega)]
  have cj : w.cell? ⟨g, j, none⟩ = some (.int .i64 (l.getD j 0)) := by rw [h.cellAt j (by omega), ints_get l (by omega)]
  have fi := h.frozenAt i
  have fj := h.frozenAt j
  have hi' : (i : Int) < n := by omega
  have hj' : (j : Int) < n := by omega
  have hK := Lib.hid (fun w' (hw : w' = ((w.setCell ⟨g, i, none⟩ (.int .i64 (l.getD j 0))).setCell ⟨g, j, none⟩ (.int .i64 (l.getD i 0))).drew) => (show w'.ownsRow 0 3 1 (.slice (some ⟨g, 0, none⟩) n c) n (ints (swp l i j)) ∧ Kept (fun k => k = g) w w' by
    subst hw
    refine ⟨?_, ⟨rfl, rfl, rfl, by simp [World.setCell], fun k hk hn => ?_⟩⟩
    · have h1 := ((h.stored i (.int .i64 (l.getD j 0))).1.stored j (.int .i64 (l.getD i 0))).1
      have e2 : ints (swp l i j) = ((ints l).set i (.int .i64 (l.getD j 0))).set j (.int .i64 (l.getD i 0)) := by simp [ints, swp, List.map_set]
      rw [e2]; exact h1
    · exact (Below.heap_setCell _ _ _ _ hn).trans (Below.heap_setCell _ _ _ _ hn)))
  generalize l.getD i 0 = x at *
  generalize l.getD j 0 = y at *
  clear h
  go_enter Try.func90, Try.ntmps90
  obtain ⟨z1, hz1⟩ : ∃ z, (w.setCell ⟨g, i, none⟩ (.int .i64 y)).cell? ⟨g, j, none⟩ = some z := by
    by_cases e : i = j
    · subst e; exact ⟨_, World.cell?_setCell_same _ _ _ ci⟩
    · exact ⟨_, by rw [World.cell?_setCell_other _ _ _ _ (by first | (simp; done) | (simp; omega))]; exact cj⟩
  obtain ⟨z2, hz2⟩ : ∃ z, (w.setCell ⟨g, j, none⟩ (.int .i64 x)).cell? ⟨g, i, none⟩ = some z := by
    by_cases e : i = j
    · subst e; exact ⟨_, World.cell?_setCell_same _ _ _ ci⟩
    · exact ⟨_, by rw [World.cell?_setCell_other _ _ _ _ (by first | (simp; done) | (simp; omega))]; exact ci⟩
  go_region
  all_goals go_wp2
  all_goals go_end0
  all_goals exact ⟨rfl, hK.out _ rfl⟩

theorem QIs.at {w : World} {q : Nat} {v : Value} {l : List Int} (h : QIs w q v l) (hl : 0 < l.length) : ∃ g c, v = .slice (some ⟨g, 0, none⟩) l.length c := own_form h.row hl
theorem QIs.swapped {w w' : World} {q g c n : Nat} {l l' : List Int} (h : QIs w q (.slice (some ⟨g, 0, none⟩) n c) l) (hl : l'.length = n) (hr : w'.ownsRow 0 3 1 (.slice (some ⟨g, 0, none⟩) n c) n (ints l')) (hk : Kept (fun k => k = g) w w') :
    QStep q (.slice (some ⟨g, 0, none⟩) n c) w (.slice (some ⟨g, 0, none⟩) n c) w' l' :=
  ⟨⟨(hk.block _ h.lt (h.ne rfl)).trans h.box, by rw [hl]; exact hr⟩, hk.wide (fun k e => .inr (by rw [e]; rfl)), fun _ h => .inl h⟩
theorem half0 : (-1 : Int).tdiv 2 = 0 := by decide
theorem half {j : Nat} (h : 0 < j) : ((j : Int) - 1).tdiv 2 = (((j - 1) / 2 : Nat) : Int) := by
  rw [Int.tdiv_eq_ediv_of_nonneg (by omega)]; omega

set_option maxHeartbeats 4000000 in
theorem up_any {q n : Nat} {v : Value} {l : List Int} {w : World} (h : QIs w q v l) {j : Nat} (hu : UpAt l j) (hl : l.length = n) (hj : j < n) (hn : n ≤ 1000000) :
    Calls Try.prog 48 #[.iface 68 (.pointer (some ⟨q, 0, none⟩)), .int .i64 j] w fun e w' => e = .returned (.tuple #[]) ∧ ∃ l', l'.Perm l ∧ IsHeap l' ∧ QStep q v w v w' l' := by
  obtain ⟨g, c, rfl⟩ := h.at (by omega)
  rw [hl] at h ⊢
  go_enter Try.func48, Try.ntmps48
  go_wp2
  go_loopw [1] (fun s wr => ∃ (k : Nat) (l1 : List Int), s = .int .i64 k ∧ k < n ∧ l1.length = n ∧ Hid (UpAt l1 k) ∧ Hid (l1.Perm l) ∧ Hid (QStep q (.slice (some ⟨g, 0, none⟩) n c) w (.slice (some ⟨g, 0, none⟩) n c) wr l1)) (fun s _ => (intOf s).toNat)
  case atStart => exact ⟨j, l, rfl, hj, hl, Lib.hid hu, Lib.hid (List.Perm.refl _), Lib.hid (QStep.refl h)⟩
  case round =>
    clear hu hj hl
    obtain ⟨k, l1, rfl, hk, hl1, hU, hP, hQ⟩ := hrel
    have hI := hQ.out.is
    have hml := method_Less q _ wr hI.cell
    have hms := Lib.hid (fun W hW => method_Swap q (.slice (some ⟨g, 0, none⟩) n c) W hW)
    have hcell := Lib.hid hI.cell
    by_cases h0 : k = 0
    · subst h0
      have hh := half0
      go_wp2
      go_end0
      exact ⟨rfl, l1, hP.out, hU.out.done0, hQ.out⟩
    · have hhalf := half (j := k) (by omega)
      have hne : ((((k - 1) / 2 : Nat) : Int) == (k : Int)) = false := beq_eq_false_iff_ne.2 (by omega)
      have hls := Lib.hid (less_any (hI.row' hl1) hl1 (i := k) (j := (k - 1) / 2) hk (by omega))
      have hsw := Lib.hid (fun W (hW : Below wr.heap.size wr W) => swap_any ((hI.below hW).row' hl1) hl1 (i := (k - 1) / 2) (j := k) (by omega) hk)
      have hU1 := Lib.hid (fun h => hU.out.step (by omega) (by omega) h)
      have hU2 := Lib.hid (fun h => hU.out.done (j := k) h)
      have hP1 := Lib.hid ((swp_perm l1 (i := (k - 1) / 2) (j := k) (by omega) (by omega)).trans hP.out)
      have hsl : (swp l1 ((k - 1) / 2) k).length = n := by rw [swp_len]; exact hl1
      have hQ1 := Lib.hid (fun W (hW : Below wr.heap.size wr W) W2 (hr : W2.ownsRow 0 3 1 (.slice (some ⟨g, 0, none⟩) n c) n (ints (swp l1 ((k - 1) / 2) k))) (hk : Kept (fun k => k = g) W W2) =>
        (show QStep q (.slice (some ⟨g, 0, none⟩) n c) w (.slice (some ⟨g, 0, none⟩) n c) W2 (swp l1 ((k - 1) / 2) k) from
          (hQ.out.then (QStep.of_below hI hW)).then ((hI.below hW).swapped hsl hr hk)))
      have hQ2 := Lib.hid (fun W (hW : Below wr.heap.size wr W) => (show QStep q (.slice (some ⟨g, 0, none⟩) n c) w (.slice (some ⟨g, 0, none⟩) n c) W l1 from hQ.out.then (QStep.of_below hI hW)))
      generalize hp : (k - 1) / 2 = p at *
      have hpk : p < k := by omega
      clear hI hU hQ
      by_cases hlt : l1.getD k 0 < l1.getD p 0
      · have hd : decide (l1.getD k 0 < l1.getD p 0) = true := by simpa using hlt
        rw [hd] at hls
        have hU3 := Lib.hid (hU1.out hlt)
        clear hlt hd hU1 hU2
        go_wp2_with (first
          | (go_at_call 86; (with_reducible refine hls.out.mono ?_); rintro e w5 ⟨rfl, hb5⟩; have hm5 := hms.out w5 (stepc hb5 (World.block_lt_of_cell? wr _ hcell.out) hcell.out); have hb5 := Lib.hid hb5)
          | (go_at_call 90; (with_reducible refine (hsw.out _ hb5.out).mono ?_); rintro e w6 ⟨rfl, hr6, hk6⟩; have hQ6 := Lib.hid (hQ1.out _ hb5.out _ hr6 hk6); clear hr6 hk6))
        exact ⟨⟨p, _, rfl, by omega, hsl, hU3, hP1, hQ6⟩, by simp [intOf]; omega⟩
      · have hd : decide (l1.getD k 0 < l1.getD p 0) = false := by simpa using hlt
        rw [hd] at hls
        have hU3 := Lib.hid (hU2.out (by omega))
        clear hlt hd hU1 hU2
        go_wp2_with (go_at_call 86; (with_reducible refine hls.out.mono ?_); rintro e w5 ⟨rfl, hb5⟩; have hQ5 := Lib.hid (hQ2.out _ hb5); clear hb5)
        go_end0
        exact ⟨rfl, l1, hP.out, hU3.out, hQ5.out⟩
end Go.Proofs.Ytocfchgkfaogdaa
