/-
  The walks of package lit's small functions alone (no answer of the document's own): for the stages above it.
  The walks of package aig's small functions.
  A node more: add.
  A new gate: its place in the map.
  A new gate: the walk.
  The And of two literals.
-/
import Derived.Test.YtafoohdndlhbnaaGreatDoorFENA
import Derived.Outline
import Derived.Test.YtafoohdndlhbnaaGreatDoorFENB
import Derived.Deep.RegionHeld3
import Derived.Deep.AppendLies
import Derived.Deep.QuietTactic
import Derived.BigQuiet
import Derived.Deep.RegionLaw
import Derived.StillTailTactics
section
namespace Go.Proofs.YtafoohdndlhbnaaGreatDoor
open Go.RowKit

theorem not_any (l : Int) (h : IsLit l) (w : World) :
    Calls Tryz.prog 24 #[.int .u32 l] w fun e w' => e = .returned (.int .u32 (notV l)) ∧ w = w' := by
  have hx := Lib.hid (xor_not h)
  obtain ⟨h0, h1⟩ := h
  go_enter Tryz.func24, Tryz.ntmps24
  go_wp2
  go_ret
  exact ⟨ret_int hx.out, rfl⟩
theorem node_any (l : Int) (h : IsLit l) (w : World) :
    Calls Tryz.prog 128 #[.int .u32 l] w fun e w' => e = .returned (.int .i64 (l / 2)) ∧ w = w' := by
  obtain ⟨h0, h1⟩ := h
  go_enter Tryz.func128, Tryz.ntmps128
  go_wp2
  go_ret
  exact ⟨rfl, rfl⟩
theorem turned_any (l : Int) (h : IsLit l) (w : World) :
    Calls Tryz.prog 127 #[.int .u32 l] w fun e w' => e = .returned (.bool (turnV l)) ∧ w = w' := by
  have hx := Lib.hid (and_turn h)
  obtain ⟨h0, h1⟩ := h
  go_enter Tryz.func127, Tryz.ntmps127
  go_wp2
  go_ret
  exact ⟨ret_bool hx.out, rfl⟩
theorem if_any (l : Int) (t : Bool) (h : IsLit l) (w : World) :
    Calls Tryz.prog 218 #[.int .u32 l, .bool t] w fun e w' => e = .returned (.int .u32 (ifV l t)) ∧ w = w' := by
  cases t with
  | true =>
    go_enter Tryz.func218, Tryz.ntmps218
    go_wp2_with (go_at_call 24; refine (not_any _ h _).mono ?_; rintro e w2 ⟨rfl, rfl⟩)
    go_ret
    exact ⟨rfl, rfl⟩
  | false =>
    go_enter Tryz.func218, Tryz.ntmps218
    go_wp2
    go_ret
    exact ⟨rfl, rfl⟩
theorem of_lit {n : Int} (h : 0 ≤ n) (h2 : n ≤ 16777216) : IsLit (2 * n) := by unfold IsLit; omega
theorem of_val {n : Int} (t : Bool) (h : 0 ≤ n) (h2 : n ≤ 16777216) : ifV (2 * n) t = ofV n t ∧ ofE n = 0 := by
  have e : ofBad n = false := by unfold ofBad; simp; omega
  unfold ofV ofE ifV notV
  rw [e]
  cases t <;> simp
theorem of_any (n : Int) (t : Bool) (hn : -9223372036854775808 ≤ n ∧ n ≤ 9223372036854775807) (w : World) :
    Calls Tryz.prog 188 #[.int .i64 n, .bool t] w fun e w' => e = .returned (.tuple #[.int .u32 (ofV n t), .int .i64 (ofE n)]) ∧ w = w' := by
  obtain ⟨hn0, hn1⟩ := hn
  by_cases hb : ofBad n = true
  · have hv : Hid (ofV n t = 0 ∧ ofE n = 1) := by show _ ∧ _; unfold ofV ofE; rw [if_pos hb, if_pos hb]; exact ⟨rfl, rfl⟩
    unfold ofBad at hb
    by_cases h0 : n < 0
    · clear hb
      go_enter Tryz.func188, Tryz.ntmps188
      go_wp2
      go_ret2
      exact ⟨ret_int2 hv.out.1.symm hv.out.2.symm, rfl⟩
    · have h1 : 16777216 < n := by simpa [h0] using hb
      have h00 : decide (n < 0) = false := by simpa using h0
      have h11 : decide (16777216 < n) = true := by simpa using h1
      clear hb h0
      go_enter Tryz.func188, Tryz.ntmps188
      go_wp2
      go_ret2
      exact ⟨ret_int2 hv.out.1.symm hv.out.2.symm, rfl⟩
  · have h0 : 0 ≤ n ∧ n ≤ 16777216 := by unfold ofBad at hb; simp at hb; omega
    obtain ⟨h0, h1⟩ := h0
    have hv := Lib.hid (of_val t h0 h1)
    have h00 : decide (n < 0) = false := by simp; omega
    have h11 : decide (16777216 < n) = false := by simp; omega
    have hl := of_lit h0 h1
    clear hb
    go_enter Tryz.func188, Tryz.ntmps188
    go_wp2_with (go_at_call 218; refine (if_any _ t hl _).mono ?_; rintro e w2 ⟨rfl, rfl⟩)
    go_ret2
    exact ⟨ret_int2 hv.out.1 hv.out.2.symm, rfl⟩

theorem beqf {a b : Int} (h : ¬ a = b) : (a == b) = false := by simpa using h
theorem beqt {a b : Int} (h : a = b) : (a == b) = true := by simpa using h
theorem bnef {a b : Int} (h : a = b) : (a != b) = false := by simpa using h
theorem bnet {a b : Int} (h : ¬ a = b) : (a != b) = true := by simpa using h

/-- Fold's ways: what it comes to on each. -/
theorem fold_0 {a b : Int} (h : a = 0 ∨ b = 0 ∨ a = notV b) : foldV a b = 0 ∧ foldB a b = true := by
  unfold foldV foldB
  rcases h with h | h | h <;> rw [h] <;> simp
theorem fold_1 {b : Int} (h1 : ¬ b = 0) (h2 : ¬ (1 : Int) = notV b) : foldV 1 b = b ∧ foldB 1 b = true := by
  unfold foldV foldB; simp [h1, h2]
theorem fold_2 {a : Int} (h0 : ¬ a = 0) (h2 : ¬ a = notV 1) (h3 : ¬ a = 1) : foldV a 1 = a ∧ foldB a 1 = true := by
  unfold foldV foldB; simp [h0, h2, h3]
theorem fold_3 {a : Int} (h0 : ¬ a = 0) (h3 : ¬ a = 1) : foldV a a = a ∧ foldB a a = true := by
  have h2 : ¬ a = notV a := fun h => notV_ne a h.symm
  unfold foldV foldB; simp [h0, h2, h3]
theorem fold_4 {a b : Int} (h0 : ¬ a = 0) (h1 : ¬ b = 0) (h2 : ¬ a = notV b) (h3 : ¬ a = 1) (h4 : ¬ b = 1) (h5 : ¬ a = b) : foldV a b = 0 ∧ foldB a b = false := by
  unfold foldV foldB; simp [h0, h1, h2, h3, h4, h5]

theorem fold_any (a b : Int) (ha : IsLit a) (hb : IsLit b) (w : World) :
    Calls Tryz.prog 202 #[.int .u32 a, .int .u32 b] w fun e w' => e = .returned (.tuple #[.int .u32 (foldV a b), .bool (foldB a b)]) ∧ w = w' := by
  by_cases h0 : a = 0
  · subst h0
    have hv := Lib.hid (fold_0 (a := 0) (b := b) (.inl rfl))
    go_enter Tryz.func202, Tryz.ntmps202
    go_wp2_with (go_at_call 24; refine (not_any _ hb _).mono ?_; rintro e w2 ⟨rfl, rfl⟩)
    go_ret2
    exact ⟨ret_intb hv.out.1.symm hv.out.2.symm, rfl⟩
  by_cases h1 : b = 0
  · subst h1
    have hv := Lib.hid (fold_0 (a := a) (b := 0) (.inr (.inl rfl)))
    have g0 := beqf h0
    clear h0
    go_enter Tryz.func202, Tryz.ntmps202
    go_wp2_with (go_at_call 24; refine (not_any _ hb _).mono ?_; rintro e w2 ⟨rfl, rfl⟩)
    go_ret2
    exact ⟨ret_intb hv.out.1.symm hv.out.2.symm, rfl⟩
  by_cases h2 : a = notV b
  · have hv := Lib.hid (fold_0 (a := a) (b := b) (.inr (.inr h2)))
    have g0 := beqf h0
    have g1 := beqf h1
    have g2 := beqt h2
    clear h0 h1 h2
    go_enter Tryz.func202, Tryz.ntmps202
    go_wp2_with (go_at_call 24; refine (not_any _ hb _).mono ?_; rintro e w2 ⟨rfl, rfl⟩)
    go_ret2
    exact ⟨ret_intb hv.out.1.symm hv.out.2.symm, rfl⟩
  by_cases h3 : a = 1
  · subst h3
    have hv := Lib.hid (fold_1 h1 h2)
    have g1 := beqf h1
    have g2 := beqf h2
    clear h0 h1 h2
    go_enter Tryz.func202, Tryz.ntmps202
    go_wp2_with (go_at_call 24; refine (not_any _ hb _).mono ?_; rintro e w2 ⟨rfl, rfl⟩)
    go_ret2
    exact ⟨ret_intb hv.out.1.symm hv.out.2.symm, rfl⟩
  by_cases h4 : b = 1
  · subst h4
    have hv := Lib.hid (fold_2 h0 h2 h3)
    have g0 := beqf h0
    have g2 := beqf h2
    have g3 := beqf h3
    clear h0 h1 h2 h3
    go_enter Tryz.func202, Tryz.ntmps202
    go_wp2_with (go_at_call 24; refine (not_any _ hb _).mono ?_; rintro e w2 ⟨rfl, rfl⟩)
    go_ret2
    exact ⟨ret_intb hv.out.1.symm hv.out.2.symm, rfl⟩
  by_cases h5 : a = b
  · subst h5
    have hv := Lib.hid (fold_3 h0 h3)
    have g0 := beqf h0
    have g2 := beqf h2
    have g3 := beqf h3
    clear h0 h1 h2 h3 h4
    go_enter Tryz.func202, Tryz.ntmps202
    go_wp2_with (go_at_call 24; refine (not_any _ hb _).mono ?_; rintro e w2 ⟨rfl, rfl⟩)
    go_ret2
    exact ⟨ret_intb hv.out.1.symm hv.out.2.symm, rfl⟩
  · have hv := Lib.hid (fold_4 h0 h1 h2 h3 h4 h5)
    have g0 := beqf h0
    have g1 := beqf h1
    have g2 := beqf h2
    have g3 := beqf h3
    have g4 := beqf h4
    have g5 := beqf h5
    clear h0 h1 h2 h3 h4 h5
    go_enter Tryz.func202, Tryz.ntmps202
    go_wp2_with (go_at_call 24; refine (not_any _ hb _).mono ?_; rintro e w2 ⟨rfl, rfl⟩)
    go_ret2
    exact ⟨ret_intb hv.out.1.symm hv.out.2.symm, rfl⟩
theorem pair_lt (a b : Int) (h : a < b) (w : World) :
    Calls Tryz.prog 204 #[.int .u32 a, .int .u32 b] w fun e w' => e = .returned (.tuple #[.int .u32 b, .int .u32 a]) ∧ w = w' := by
  have h0 : decide (a < b) = true := by simpa using h
  go_enter Tryz.func204, Tryz.ntmps204
  go_wp2
  go_ret2
  exact ⟨rfl, rfl⟩
theorem pair_ge (a b : Int) (h : b ≤ a) (w : World) :
    Calls Tryz.prog 204 #[.int .u32 a, .int .u32 b] w fun e w' => e = .returned (.tuple #[.int .u32 a, .int .u32 b]) ∧ w = w' := by
  have h0 : decide (a < b) = false := by simpa using h
  go_enter Tryz.func204, Tryz.ntmps204
  go_wp2
  go_ret2
  exact ⟨rfl, rfl⟩

theorem nodeW_in {l : Int} {zs : List Int} {n : Nat} (hl : zs.length = n) (h0 : 0 < l / 2) (h1 : l / 2 < n) : nodeW (l / 2) zs = zs.getD (l / 2).toNat 0 := by
  unfold nodeW; rw [if_pos (by simp; omega)]
theorem nodeW_out {l : Int} {zs : List Int} {n : Nat} (hl : zs.length = n) (h : ¬ (0 < l / 2 ∧ l / 2 < n)) : nodeW (l / 2) zs = 0 := by
  unfold nodeW; rw [if_neg (by simp; omega)]
theorem word_t {l : Int} {zs : List Int} (h : turnV l = true) : wordV l zs = 18446744073709551615 - nodeW (l / 2) zs := by unfold wordV; rw [if_pos h]
theorem word_f {l : Int} {zs : List Int} (h : turnV l = false) : wordV l zs = nodeW (l / 2) zs := by unfold wordV; rw [if_neg (by simp [h])]
theorem mod_turn {l : Int} : (l % 2 == 1) = turnV l := rfl

end Go.Proofs.YtafoohdndlhbnaaGreatDoor
end

section
namespace Go.Proofs.YtafoohdndlhbnaaGreatDoor
open Go.RowKit

theorem below_draws (w : World) (n : Nat) : Below w.heap.size w (w.drewN n) := ⟨rfl, rfl, rfl, Nat.le_refl _, fun _ _ => rfl⟩

theorem stands_any {w : World} {p : Pl} {F H : Bool} {ns : List Nd} {ins : List Int} (h : Lay w p F H ns ins) (h0 : 0 < ns.length) :
    Calls Tryz.prog 58 #[.pointer (some ⟨p.b, 0, none⟩)] w fun e w' => e = .returned (.bool true) ∧ w = w' := by
  obtain ⟨-, -, c2, -, -, -⟩ := h.cells
  generalize ns.length = n at *
  clear h
  have g0 : decide (0 < (n : Int)) = true := by simp; omega
  go_enter Tryz.func58, Tryz.ntmps58
  go_wp2
  go_ret
  exact ⟨rfl, rfl⟩

theorem nodes_any {w : World} {p : Pl} {F H : Bool} {ns : List Nd} {ins : List Int} (h : Lay w p F H ns ins) (h0 : 0 < ns.length) :
    Calls Tryz.prog 21 #[.pointer (some ⟨p.b, 0, none⟩)] w fun e w' => e = .returned (.int .i64 ns.length) ∧ w = w' := by
  have hst := Lib.hid (stands_any h h0)
  obtain ⟨-, -, c2, -, -, -⟩ := h.cells
  generalize ns.length = n at *
  clear h
  go_enter Tryz.func21, Tryz.ntmps21
  go_wp2_with (go_at_call 58; refine hst.out.mono ?_; rintro e w2 ⟨rfl, rfl⟩)
  go_ret
  exact ⟨rfl, rfl⟩

theorem gates_any {w : World} {p : Pl} {F H : Bool} {ns : List Nd} {ins : List Int} (h : Lay w p F H ns ins) (h0 : 0 < ns.length) (hi : ins.length < ns.length) (hm : ns.length ≤ 10000000) :
    Calls Tryz.prog 22 #[.pointer (some ⟨p.b, 0, none⟩)] w fun e w' => e = .returned (.int .i64 ((ns.length : Int) - 1 - ins.length)) ∧ Below w.heap.size w w' := by
  have hst := Lib.hid (stands_any h h0)
  obtain ⟨-, -, c2, c3, -, -⟩ := h.cells
  obtain ⟨ia, ic, hiv⟩ := own_slice h.inputs
  rw [hiv] at c3
  generalize ns.length = n at *
  generalize ins.length = m at *
  clear h hiv
  go_enter Tryz.func22, Tryz.ntmps22
  go_wp2_with (go_at_call 58; refine hst.out.mono ?_; rintro e w2 ⟨rfl, rfl⟩)
  go_quiet (fail)
  go_wp2
  go_ret
  exact ⟨rfl, below_draws _ _⟩

theorem ordered_any {a b : Int} (w : World) :
    Calls Tryz.prog 150 #[.int .u32 a, .int .u32 b] w fun e w' => e = .returned (.agg #[.int .u32 (hiV a b), .int .u32 (loV a b)]) ∧ Below w.heap.size w w' := by
  by_cases h : a < b
  · have e1 : hiV a b = b := if_pos h
    have e2 : loV a b = a := if_pos h
    rw [e1, e2]
    have hp := Lib.hid (fun w => pair_lt a b h w)
    clear h e1 e2
    go_enter Tryz.func150, Tryz.ntmps150
    go_wp2_with (go_at_call 204; refine (hp.out _).mono ?_; rintro e w2 ⟨rfl, rfl⟩)
    refine bodyPost_ret (v := .agg #[.int .u32 b, .int .u32 a]) (by simp [results, Tryz.results150, go_sem]) rfl ⟨rfl, ?_⟩
    exact (Below.refl _ _).alloc (Nat.le_refl _) _
  · have e1 : hiV a b = a := if_neg h
    have e2 : loV a b = b := if_neg h
    rw [e1, e2]
    have hp := Lib.hid (fun w => pair_ge a b (by omega) w)
    clear h e1 e2
    go_enter Tryz.func150, Tryz.ntmps150
    go_wp2_with (go_at_call 204; refine (hp.out _).mono ?_; rintro e w2 ⟨rfl, rfl⟩)
    refine bodyPost_ret (v := .agg #[.int .u32 a, .int .u32 b]) (by simp [results, Tryz.results150, go_sem]) rfl ⟨rfl, ?_⟩
    exact (Below.refl _ _).alloc (Nat.le_refl _) _

theorem opposite_any {l : Int} (hl : IsLit l) (w : World) :
    Calls Tryz.prog 203 #[.int .u32 l, .int .i64 0] w fun e w' => e = .returned (.tuple #[.int .u32 (notV l), .int .i64 0]) ∧ w = w' := by
  have hn := Lib.hid (fun w => not_any l hl w)
  go_enter Tryz.func203, Tryz.ntmps203
  go_wp2_with (go_at_call 24; refine (hn.out _).mono ?_; rintro e w2 ⟨rfl, rfl⟩)
  go_ret2
  exact ⟨rfl, rfl⟩
end Go.Proofs.YtafoohdndlhbnaaGreatDoor
end

section
namespace Go.Proofs.YtafoohdndlhbnaaGreatDoor
open Go.RowKit

def Pl.own (p : Pl) (k : Nat) : Prop := k = p.b ∨ k = p.nb

theorem box_set {w : World} {b o : Nat} {cs : Array Value} {T : Nat} {fz : Nat × Nat} (h : w.heap[b]? = some (.cells cs T fz)) (v : Value) : (w.setCell ⟨b, o, none⟩ v).heap[b]? = some (.cells (cs.setIfInBounds o v) T fz) := by
  simp [World.setCell, Array.getElem?_modify, h]

/-- Behind the append and the store of the nodes. -/
theorem add_next {w wa w1 : World} {p : Pl} {F H : Bool} {ns : List Nd} {ins : List Int} (hL : Lay w p F H ns ins) (hb : Below w.heap.size w wa) (n : Nd) {g cap : Nat}
    (hown : w1.ownsRow 0 165 3 (.slice (some ⟨g, 0, none⟩) (ns.length + 1) cap) (ns.length + 1) (nodeCells ns ++ [.bool n.gate, .int .u32 n.a, .int .u32 n.b]))
    (hg : wa.grownBy w1 (some p.nb)) (hat : some p.nb = some g ∨ g = wa.heap.size) :
    Lay (w1.setCell ⟨p.b, 2, none⟩ (.slice (some ⟨g, 0, none⟩) (ns.length + 1) cap)) { p with nb := g, nc := cap } F H (ns ++ [n]) ins
      ∧ Kept p.own w (w1.setCell ⟨p.b, 2, none⟩ (.slice (some ⟨g, 0, none⟩) (ns.length + 1) cap)) ∧ (g = p.nb ∨ w.heap.size ≤ g) := by
  have hlt := hL.lt
  have hsz := hb.size
  obtain ⟨cur, hcur⟩ := hL.nlen
  have hne : p.b ≠ p.nb := by
    intro e
    have := hL.box
    rw [e, hcur] at this; simp [boxOf] at this
  have hbox1 : w1.heap[p.b]? = some (boxOf p F H ns.length) := by
    rw [hg.block p.b (by omega) (by simpa using hne), hb.block _ hlt]; exact hL.box
  have hgb : g ≠ p.b := by
    rcases hat with h | h
    · simp at h; omega
    · omega
  refine ⟨⟨?_, ?_, ?_⟩, ?_, ?_⟩
  · have := box_set (o := 2) hbox1 (.slice (some ⟨g, 0, none⟩) (ns.length + 1) cap)
    simpa [boxOf, Pl.nv] using this
  · have : (w1.setCell ⟨p.b, 2, none⟩ (.slice (some ⟨g, 0, none⟩) (ns.length + 1) cap)).ownsRow 0 165 3 (.slice (some ⟨g, 0, none⟩) (ns.length + 1) cap) (ns.length + 1) (nodeCells ns ++ [.bool n.gate, .int .u32 n.a, .int .u32 n.b]) := by
      refine ⟨hown.1, ?_⟩
      rcases hown.2 with h0 | ⟨g', cap', cur', hv, hg', hh, r⟩
      · exact .inl h0
      · simp at hv
        obtain ⟨rfl, rfl⟩ := hv
        exact .inr ⟨_, _, cur', rfl, hg', by rw [Below.heap_setCell _ _ _ _ hgb]; exact hh, r⟩
    rw [nodeCells_push]
    simpa [Pl.nv, ndCells] using this
  · have hi := own_below hL.inputs hb
    have h1 : ∀ k, p.iv.ownBlock = some k → k ≠ p.b ∧ k ≠ p.nb ∧ k < w.heap.size := by
      intro k hk
      obtain ⟨c, hc⟩ := own_type hL.inputs hk
      refine ⟨fun e => ?_, fun e => ?_, (Array.getElem?_eq_some_iff.1 hc).1⟩
      · subst e; rw [hL.box] at hc; simp [boxOf] at hc
      · subst e; rw [hcur] at hc; simp at hc
    refine ⟨hi.1, ?_⟩
    rcases hi.2 with h0 | ⟨g', cap', cur', hv, hg', hh, r⟩
    · exact .inl h0
    · obtain ⟨e1, e2, e3⟩ := h1 g' (by simp only [hv]; rfl)
      exact .inr ⟨g', cap', cur', hv, hg', by rw [Below.heap_setCell _ _ _ _ e1, hg.block g' (by omega) (by simpa using e2)]; exact hh, r⟩
  · refine ⟨hg.os.trans hb.os, hg.tape.trans hb.tape, hg.output.trans hb.output, by have := hg.size; simp [World.setCell]; omega, fun k hk hn => ?_⟩
    have n1 : k ≠ p.b := fun e => hn (.inl e)
    have n2 : k ≠ p.nb := fun e => hn (.inr e)
    rw [Below.heap_setCell _ _ _ _ n1, hg.block k (by omega) (by simpa using n2), hb.block k hk]
  · rcases hat with h | h
    · simp at h; exact .inl h.symm
    · exact .inr (by omega)

theorem info_node : (Tryz.prog.info? 165).map (fun i => (i.zero, i.size, i.bytes)) = some (some (.agg #[.bool false, .int .u32 0, .int .u32 0]), 3, 12) := by kernel_rfl
theorem news3 {w : World} {b : Nat} {x y z : Value} (h0 : w.cell? ⟨b, 0, none⟩ = some x) (h1 : w.cell? ⟨b, 1, none⟩ = some y) (h2 : w.cell? ⟨b, 2, none⟩ = some z) : ∀ (j : Nat) (u : Value), [x, y, z][j]? = some u → w.cell? ((⟨b, 0, none⟩ : Addr).add j) = some u := by
  intro j u h
  match j with
  | 0 => simp at h; subst h; simpa [Addr.add] using h0
  | 1 => simp at h; subst h; simpa [Addr.add] using h1
  | 2 => simp at h; subst h; simpa [Addr.add] using h2
  | j + 3 => simp at h

theorem grow_box {wa w1 : World} {row : Option Nat} (hg : wa.grownBy w1 row) {b o : Nat} {v : Value} (hc : wa.cell? ⟨b, o, none⟩ = some v) (hf : wa.frozen? ⟨b, o, none⟩ = false) (hne : some b ≠ row) :
    w1.cell? ⟨b, o, none⟩ = some v ∧ w1.frozen? ⟨b, o, none⟩ = false :=
  ⟨hg.cell hc hne, (World.frozen?_of_block (hg.block b (World.block_lt_of_cell? wa _ hc) hne)).trans hf⟩

theorem add_any {w : World} {p : Pl} {F H : Bool} {ns : List Nd} {ins : List Int} (h : Lay w p F H ns ins) (h0 : 0 < ns.length) (hm : ns.length ≤ 10000000) (n : Nd) :
    Calls Tryz.prog 183 #[.pointer (some ⟨p.b, 0, none⟩), .agg #[.bool n.gate, .int .u32 n.a, .int .u32 n.b]] w fun e w' => e = .returned (.tuple #[.int .u32 (2 * (ns.length : Int)), .int .i64 0])
      ∧ ∃ p', Lay w' p' F H (ns ++ [n]) ins ∧ Kept p.own w w' ∧ p'.b = p.b ∧ p'.iv = p.iv ∧ p'.m = p.m ∧ (p'.nb = p.nb ∨ w.heap.size ≤ p'.nb) := by
  obtain ⟨-, -, c2, -, -, fz⟩ := h.cells
  have f2 := fz 2
  have hlt := h.lt
  have hnlt := h.nlt
  have hno := Lib.hid h.nodes
  have HL := Lib.hid h
  have hne : p.b ≠ p.nb := by
    obtain ⟨cur, hcur⟩ := h.nlen
    intro e
    have := h.box
    rw [e, hcur] at this; simp [boxOf] at this
  have hof := Lib.hid (fun w => of_any ns.length false (by omega) w)
  have hov : Hid (ofV ns.length false = 2 * (ns.length : Int) ∧ ofE ns.length = 0) := by
    obtain ⟨e1, e2⟩ := of_val (n := ns.length) false (by omega) (by omega)
    exact ⟨by rw [← e1]; rfl, e2⟩
  have hne2 : some p.b ≠ Value.ownBlock (.slice (some ⟨p.nb, 0, none⟩) ns.length p.nc) := by simpa [Value.ownBlock] using hne
  have hne3 : some w.heap.size ≠ Value.ownBlock (.slice (some ⟨p.nb, 0, none⟩) ns.length p.nc) := by simp [Value.ownBlock]; omega
  obtain ⟨i0, hi, hz0, hz1, hz2⟩ := info_parts info_node
  have hof2 := Lib.hid (fun w => by have := hof.out w; rw [hov.out.1, hov.out.2] at this; exact this)
  obtain ⟨ng, na, nb⟩ := n
  generalize hk : ns.length = k at *
  have hk := Lib.hid hk
  clear h fz hof hov
  go_enter Tryz.func183, Tryz.ntmps183
  go_wp2_with (go_at_call 188; refine (hof2.out _).mono ?_; rintro e w2 ⟨rfl, rfl⟩)
  go_region_law
    (first | ((refine step_append_lies _ (by rfl) (.tmp 23) (.tmp 25) _ (by rfl) 0 165 i0 (.agg #[.bool false, .int .u32 0, .int .u32 0]) 3 12 Tryz.underlying129 hi hz0 hz1 hz2 rfl (by decide) (.slice (some ⟨p.nb, 0, none⟩) k p.nc) k _ (by rfl) (by first | exact hno.out.drew | exact (hno.out.alloc _).drew | exact ((hno.out.alloc _).alloc _).drew) _ 1 1 [.bool ng, .int .u32 na, .int .u32 nb] (by rfl) rfl (by exact news3 (by go_simp) (by go_simp) (by go_simp)) (by simp [Value.oneCell']) (by decide) (by unfold maxLen; omega) (by omega) (by omega) _ rfl ?_; intro g1 cap1 w1 hown1 hgrow1 hat1 hlt1; obtain ⟨x0, x1⟩ := grow_box hgrow1 (b := p.b) (o := 2) (v := .slice (some ⟨p.nb, 0, none⟩) k p.nc) (by go_simp) (by go_simp) hne2; obtain ⟨x2, -⟩ := grow_box hgrow1 (b := w.heap.size) (o := 0) (v := .bool ng) (by go_simp) (by go_simp) hne3; obtain ⟨x3, -⟩ := grow_box hgrow1 (b := w.heap.size) (o := 1) (v := .int .u32 na) (by go_simp) (by go_simp) hne3; obtain ⟨x4, -⟩ := grow_box hgrow1 (b := w.heap.size) (o := 2) (v := .int .u32 nb) (by go_simp) (by go_simp) hne3)))
  all_goals go_wp2
  all_goals go_ret2
  all_goals
    have e := hk.out
    subst e
    obtain ⟨r1, r2, r3⟩ := add_next HL.out (by first | exact (((Below.refl _ _).alloc (Nat.le_refl _) _).alloc (by simp) _).drew | exact ((Below.refl _ _).alloc (Nat.le_refl _) _).drew) ⟨ng, na, nb⟩ hown1 hgrow1 hat1
    exact ⟨rfl, _, r1, r2, rfl, rfl, rfl, r3⟩
end Go.Proofs.YtafoohdndlhbnaaGreatDoor
end

section
namespace Go.Proofs.YtafoohdndlhbnaaGreatDoor
open Go.RowKit Go.Maps

theorem mapOf_keep {ns : List Nd} {D : DataW Unit} (h : MapOf ns D) {n : Nd} (hn : ∀ a b, IsLit a → IsLit b → findG ns a b = none → isPair a b n = false) : MapOf (ns ++ [n]) D := by
  refine ⟨h.1, fun a b ha hb => ?_⟩
  obtain ⟨h1, h2⟩ := h.2 a b ha hb
  have e : findG (ns ++ [n]) a b = findG ns a b := by
    rw [findG_push]
    cases hf : findG ns a b with
    | some i => rfl
    | none => rw [if_neg (by rw [hn a b ha hb hf]; simp)]; rfl
  rw [e]; exact ⟨h1, h2⟩
theorem mapOf_input {ns : List Nd} {D : DataW Unit} (h : MapOf ns D) : MapOf (ns ++ [⟨false, 0, 0⟩]) D := mapOf_keep h (fun _ _ _ _ _ => rfl)
theorem mapOf_found {ns : List Nd} {D : DataW Unit} (h : MapOf ns D) {a b : Int} {i : Nat} (hf : findG ns a b = some i) : MapOf (ns ++ [⟨true, a, b⟩]) D :=
  mapOf_keep h (fun c d _ _ hn => by
    unfold isPair
    by_cases e : a = c ∧ b = d
    · obtain ⟨rfl, rfl⟩ := e; rw [hf] at hn; cases hn
    · simp; omega)
theorem mapOf_put {ns : List Nd} {D : DataW Unit} (h : MapOf ns D) {a b : Int} (ha : IsLit a) (hb : IsLit b) (hf : findG ns a b = none) : MapOf (ns ++ [⟨true, a, b⟩]) (D.put (pkey a b) (.lit (.int .u32 (2 * (ns.length : Int))))) := by
  refine ⟨h.1.put _ _, fun c d hc hd => ?_⟩
  obtain ⟨h1, h2⟩ := h.2 c d hc hd
  rw [findG_push]
  by_cases e : a = c ∧ b = d
  · obtain ⟨rfl, rfl⟩ := e
    rw [hf, has_put_same h.1 (pkey_key ha hb), show isPair a b ⟨true, a, b⟩ = true by simp [isPair]]
    refine ⟨rfl, fun i hi => ?_⟩
    simp at hi
    rw [atKey_put_same h.1 (pkey_key ha hb), hi]
  · have hne : pkey c d ≠ pkey a b := fun he => e (by obtain ⟨x, y⟩ := pkey_inj hc hd ha hb he; exact ⟨x.symm, y.symm⟩)
    have hp : isPair c d ⟨true, a, b⟩ = false := by unfold isPair; simp; omega
    rw [hp, has_put_other hne, atKey_put_other hne]
    simp only [Bool.false_eq_true, if_false, Option.or_none]
    exact ⟨h1, h2⟩

theorem kept_cell {F : Nat → Prop} {w w' : World} (h : Kept F w w') {b o : Nat} (hb : b < w.heap.size) (hn : ¬ F b) : w'.cell? ⟨b, o, none⟩ = w.cell? ⟨b, o, none⟩ ∧ w'.frozen? ⟨b, o, none⟩ = w.frozen? ⟨b, o, none⟩ :=
  ⟨World.cell?_of_block (h.block b hb hn), World.frozen?_of_block (h.block b hb hn)⟩
theorem box2 {w w1 : World} {x y : Value} {T : Nat} (hb : Below (w.alloc (.cells #[x, y] T)).heap.size (w.alloc (.cells #[x, y] T)) w1) :
    Below w.heap.size w w1 ∧ w.heap.size + 1 ≤ w1.heap.size ∧ w1.cell? ⟨w.heap.size, 0, none⟩ = some x ∧ w1.cell? ⟨w.heap.size, 1, none⟩ = some y :=
  ⟨nextb ((Below.refl _ _).alloc (Nat.le_refl _) _) (by simp) hb, by have := hb.size; simpa using this, stepc hb (by simp) (by simp), stepc hb (by simp) (by simp)⟩
theorem Lay.grown {w w' : World} {p : Pl} {F H : Bool} {ns : List Nd} {ins : List Int} {mb : Nat} {es : Array MapEntry} {cl : Nat} (h : Lay w p F H ns ins) (hg : w.grownBy w' (some mb)) (hm : w.heap[mb]? = some (.map es cl)) : Lay w' p F H ns ins := by
  have hne : ∀ k cs T fz, w.heap[k]? = some (.cells cs T fz) → k < w.heap.size ∧ some k ≠ some mb := fun k cs T fz e =>
    ⟨(Array.getElem?_eq_some_iff.1 e).1, fun e2 => by simp at e2; subst e2; rw [hm] at e; cases e⟩
  have own : ∀ {e size n : Nat} {v : Value} {xs : List Value}, w.ownsRow 0 e size v n xs → w'.ownsRow 0 e size v n xs := by
    intro e size n v xs h
    refine ⟨h.1, ?_⟩
    rcases h.2 with h0 | ⟨g, cap, cur, hv, hg', hh, r⟩
    · exact .inl h0
    · exact .inr ⟨g, cap, cur, hv, hg', by rw [hg.block g (hne g _ _ _ hh).1 (hne g _ _ _ hh).2]; exact hh, r⟩
  exact ⟨by have hb := h.box; rw [hg.block p.b (hne p.b _ _ _ hb).1 (hne p.b _ _ _ hb).2]; exact hb, own h.nodes, own h.inputs⟩

/-- The map's block is none of the graph's own. -/
theorem map_apart {w : World} {p : Pl} {F H : Bool} {ns : List Nd} {ins : List Int} (h : Lay w p F H ns ins) {mb : Nat} {es : Array MapEntry} {cl : Nat} (hm : w.heap[mb]? = some (.map es cl)) : ¬ p.own mb := by
  rintro (rfl | rfl)
  · rw [h.box] at hm; simp [boxOf] at hm
  · obtain ⟨c, hc⟩ := h.nlen; rw [hc] at hm; cases hm

/-- A node more: what the graph is then. -/
theorem step_node {w w2 w3 w4 : World} {p p' : Pl} {G G' : Gr} {n : Nd} (hG : Is w p G) (hB : Below w.heap.size w w2) (hk : Kept p.own w2 w3) (eb : p'.b = p.b) (ei : p'.iv = p.iv) (em : p'.m = p.m) (hnb : p'.nb = p.nb ∨ w2.heap.size ≤ p'.nb)
    (hk4 : Kept (fun k => p.m = some k) w3 w4) (hl4 : Lay w4 p' G'.fold G'.hash G'.nodes G'.inputs) (hmap : MapIn w4 p'.m G'.hash G'.nodes) : Step p w p' w4 G' := by
  have hs := hB.size
  refine ⟨⟨hl4, hmap⟩, ?_, eb, fun k hp => ?_⟩
  · have h1 : Kept p.has w w2 := Kept.of_below hB
    have h2 : Kept p.has w w3 := h1.trans hk (fun x hx => .inl (by rcases hx with hx | hx; exact .inl hx; exact .inr (.inl hx)))
    exact h2.trans hk4 (fun x hx => .inl (.inr (.inr (.inr hx))))
  · rcases hp with hp | hp | hp | hp
    · exact .inl (.inl (hp.trans eb))
    · rcases hnb with h | h
      · exact .inl (.inr (.inl (hp.trans h)))
      · exact .inr (by omega)
    · rw [ei] at hp; exact .inl (.inr (.inr (.inl hp)))
    · rw [em] at hp; exact .inl (.inr (.inr (.inr hp)))

theorem zero_lit (w : World) : (zeroValue 66).run Tryz.prog w = .ok (.int .u32 0) w := by kernel_rfl
/-- The look-up. -/
theorem look_map {w : World} {mb n : Nat} {D : DataW Unit} {ns : List Nd} (ho : w.ownsMap Tryz.prog 163 (plainElem Tryz.prog 66) mb n D) (hD : MapOf ns D) {a b : Int} (ha : IsLit a) (hb : IsLit b) :
    ∃ c : Int, (∀ i, findG ns a b = some i → c = 2 * (i : Int)) ∧ ∀ w', w'.heap[mb]? = w.heap[mb]? → (Instr.lookup 131 (.map (some mb)) (.agg #[.int .u32 a, .int .u32 b]) true).run Tryz.prog w' = .ok (.tuple #[.int .u32 c, .bool (findG ns a b).isSome]) w' := by
  have main : ∀ w', w'.heap[mb]? = w.heap[mb]? → ∃ c : Int, D.atKey (pkey a b) (.lit (.int .u32 0)) = .lit (.int .u32 c) ∧ (Instr.lookup 131 (.map (some mb)) (.agg #[.int .u32 a, .int .u32 b]) true).run Tryz.prog w' = .ok (.tuple #[.int .u32 c, .bool (findG ns a b).isSome]) w' := by
    intro w' hb'
    obtain ⟨v, ps, hrun, hv⟩ := (map_block ho hb').look_ok alaw Tryz.underlying131 (zero_lit w') (plainElem_int Tryz.underlying66 (by decide)) (key_pair ha hb)
    obtain ⟨c, rfl, hc, _⟩ := plainElem_int_inv Tryz.underlying66 hv
    exact ⟨c, congrArg Prod.fst hc, by rw [hrun, (hD.2 a b ha hb).1]⟩
  obtain ⟨c, hc, -⟩ := main w rfl
  refine ⟨c, fun i hi => ?_, fun w' hw' => ?_⟩
  · rw [(hD.2 a b ha hb).2 i hi] at hc
    simp at hc; exact hc.symm
  · obtain ⟨c', hc', hr⟩ := main w' hw'
    rw [hc] at hc'
    simp at hc'
    rw [hr, hc']
theorem look_none {w : World} {a b : Int} (ha : IsLit a) (hb : IsLit b) :
    (Instr.lookup 131 (.map none) (.agg #[.int .u32 a, .int .u32 b]) true).run Tryz.prog w = .ok (.tuple #[.int .u32 0, .bool false]) w :=
  Maps.look_nil true alaw Tryz.underlying131 (zero_lit w) (key_pair ha hb)
end Go.Proofs.YtafoohdndlhbnaaGreatDoor
end

section
namespace Go.Proofs.YtafoohdndlhbnaaGreatDoor
open Go.RowKit Go.Maps
set_option maxRecDepth 100000

theorem gate_any {w : World} {p : Pl} {G : Gr} (hG : Is w p G) (hW : Wf G) (hm : G.nodes.length ≤ 200000) {a b : Int} (ha : IsLit a) (hb : IsLit b) :
    Calls Tryz.prog 149 #[.pointer (some ⟨p.b, 0, none⟩), .agg #[.int .u32 a, .int .u32 b]] w fun e w' => e = .returned (.tuple #[.int .u32 (2 * (G.nodes.length : Int)), .int .i64 0]) ∧ ∃ p', Step p w p' w' (addN G a b) := by
  have h0 := hW.pos
  have hc := hW.cnt
  have hi : G.inputs.length < G.nodes.length := by omega
  have HG := Lib.hid hG
  have HL := Lib.hid hG.lay
  have hlt := hG.lay.lt
  have hnl := hG.lay.nlt
  cases hH : G.hash with
  | false =>
    have HH := Lib.hid hH
    have HM : Hid (p.m = none) := by have := hG.map; unfold MapIn at this; rw [hH] at this; exact Lib.hid (by simpa using this)
    clear hG hW hc hH
    go_enter Tryz.func149, Tryz.ntmps149
    go_wp2_with (first
      | (go_at_call 22; refine (gates_any (HL.out.below ((Below.refl _ _).alloc (Nat.le_refl _) _)) h0 hi (by omega)).mono ?_; rintro e w2 ⟨rfl, hb2⟩; obtain ⟨hB, hz, d0, d1⟩ := box2 hb2; clear hb2)
      | (go_at_call 183; refine (add_any (HL.out.below hB) h0 (by omega) ⟨true, a, b⟩).mono ?_; rintro e w3 ⟨rfl, p', hl3, hk3, eb, ei, em, hnb⟩; have hL3 := Lib.hid hl3; obtain ⟨-, e1, -, -, -, -⟩ := hl3.cells; rw [eb, HH.out] at e1; have hK := Lib.hid hk3; have hN := Lib.hid hnb; have hE := Lib.hid (show p'.b = p.b ∧ p'.iv = p.iv ∧ p'.m = p.m from ⟨eb, ei, em⟩); clear eb ei em hl3 hk3 hnb))
    go_ret2
    refine ⟨rfl, p', ?_⟩
    exact step_node HG.out hB hK.out hE.out.1 hE.out.2.1 hE.out.2.2 hN.out (Kept.refl _ _) (n := ⟨true, a, b⟩) hL3.out (by unfold MapIn; rw [show (addN G a b).hash = false from HH.out]; exact hE.out.2.2.trans HM.out)
  | true =>
    have HH := Lib.hid hH
    have hmap := hG.map
    unfold MapIn at hmap
    rw [if_pos hH] at hmap
    obtain ⟨mb, D, hmb, hown, hD⟩ := hmap
    have HM := Lib.hid hmb
    have HO := Lib.hid hown
    have HD := Lib.hid hD
    cases hf : findG G.nodes a b with
    | some i =>
      have HF := Lib.hid hf
      clear hG hW hc hH hmb hown hD hf
      go_enter Tryz.func149, Tryz.ntmps149
      go_wp2_with (first
        | (go_at_call 22; refine (gates_any (HL.out.below ((Below.refl _ _).alloc (Nat.le_refl _) _)) h0 hi (by omega)).mono ?_; rintro e w2 ⟨rfl, hb2⟩; obtain ⟨hB, hz, d0, d1⟩ := box2 hb2; clear hb2)
        | (go_at_call 183; refine (add_any (HL.out.below hB) h0 (by omega) ⟨true, a, b⟩).mono ?_; rintro e w3 ⟨rfl, p', hl3, hk3, eb, ei, em, hnb⟩; have hL3 := Lib.hid hl3; obtain ⟨-, e1, -, -, e4, -⟩ := hl3.cells; rw [eb, HH.out] at e1; rw [eb, em, HM.out] at e4; obtain ⟨es0, cl0, hbk0, -⟩ := HO.out; have hmbl := HO.out.lt; have hO3 := Lib.hid (map_block HO.out ((hk3.block mb (Nat.lt_of_lt_of_le hmbl hB.size) (map_apart HL.out hbk0)).trans (hB.block mb hmbl))); clear hbk0; have hbx := fun o => (kept_cell hk3 (b := w.heap.size) (o := o) (by omega) (by rintro (h | h) <;> omega)).1; have d2 := (hbx 0).trans d0; have d3 := (hbx 1).trans d1; clear hbx d0 d1; obtain ⟨cv, -, hlk⟩ := look_map hO3.out HD.out ha hb; have hlook := fun j => hlk (w3.drewN j) rfl; rw [HF.out] at hlook; clear hlk; have hK := Lib.hid hk3; have hN := Lib.hid hnb; have hE := Lib.hid (show p'.b = p.b ∧ p'.iv = p.iv ∧ p'.m = p.m from ⟨eb, ei, em⟩); clear eb ei em hl3 hk3 hnb))
      go_quiet (fail)
      go_wp2
      go_ret2
      refine ⟨rfl, p', ?_⟩
      exact step_node HG.out hB hK.out hE.out.1 hE.out.2.1 hE.out.2.2 hN.out (Kept.of_below (below_draws _ _)) (n := ⟨true, a, b⟩) (hL3.out.below (below_draws _ _)) (by unfold MapIn; rw [if_pos (show (addN G a b).hash = true from HH.out)]; exact ⟨mb, D, hE.out.2.2.trans HM.out, hO3.out.mono (by rw [addN_len]; omega), mapOf_found HD.out HF.out⟩)
    | none =>
      have HF := Lib.hid hf
      clear hG hW hc hH hmb hown hD hf
      go_enter Tryz.func149, Tryz.ntmps149
      go_wp2_with (first
        | (go_at_call 22; refine (gates_any (HL.out.below ((Below.refl _ _).alloc (Nat.le_refl _) _)) h0 hi (by omega)).mono ?_; rintro e w2 ⟨rfl, hb2⟩; obtain ⟨hB, hz, d0, d1⟩ := box2 hb2; clear hb2)
        | (go_at_call 183; refine (add_any (HL.out.below hB) h0 (by omega) ⟨true, a, b⟩).mono ?_; rintro e w3 ⟨rfl, p', hl3, hk3, eb, ei, em, hnb⟩; have hL3 := Lib.hid hl3; obtain ⟨-, e1, -, -, e4, -⟩ := hl3.cells; rw [eb, HH.out] at e1; rw [eb, em, HM.out] at e4; obtain ⟨es0, cl0, hbk0, -⟩ := HO.out; have hmbl := HO.out.lt; have hO3 := Lib.hid (map_block HO.out ((hk3.block mb (Nat.lt_of_lt_of_le hmbl hB.size) (map_apart HL.out hbk0)).trans (hB.block mb hmbl))); clear hbk0; have hbx := fun o => (kept_cell hk3 (b := w.heap.size) (o := o) (by omega) (by rintro (h | h) <;> omega)).1; have d2 := (hbx 0).trans d0; have d3 := (hbx 1).trans d1; clear hbx d0 d1; obtain ⟨cv, -, hlk⟩ := look_map hO3.out HD.out ha hb; have hlook := fun j => hlk (w3.drewN j) rfl; rw [HF.out] at hlook; clear hlk; have hK := Lib.hid hk3; have hN := Lib.hid hnb; have hE := Lib.hid (show p'.b = p.b ∧ p'.iv = p.iv ∧ p'.m = p.m from ⟨eb, ei, em⟩); clear eb ei em hl3 hk3 hnb))
      go_quiet (fail)
      obtain ⟨w5, hw5, c54, c50, c51, hO5, hL5⟩ : ∃ w5, w5 = w3.drewN nq ∧ w5.cell? ⟨p.b, 4, none⟩ = some (.map (some mb)) ∧ w5.cell? ⟨w.heap.size, 0, none⟩ = some (.int .u32 a) ∧ w5.cell? ⟨w.heap.size, 1, none⟩ = some (.int .u32 b) ∧ Hid (w5.ownsMap Tryz.prog 163 (plainElem Tryz.prog 66) mb G.nodes.length D) ∧ Hid (Lay w5 p' G.fold G.hash (G.nodes ++ [{ gate := true, a := a, b := b }]) G.inputs) := ⟨_, rfl, e4, d2, d3, hO3, Lib.hid (hL3.out.below (below_draws w3 nq))⟩
      have hk5 : Hid (Kept (fun k => p.m = some k) w3 w5) := by rw [hw5]; exact Kept.of_below (below_draws _ _)
      rw [← hw5]
      clear hw5 e4 d2 d3 hlook e1 hO3 hL3
      go_wp2
      go_still_tail 6, (by kernel_rfl)
      change wpList _ _ _ _ _ w5.drew
      go_wp2_with (at_mapUpdate; refine wpList_mapUpdate_own _ rfl _ _ _ 131 rfl 163 66 alaw Tryz.underlying131 _ mb G.nodes.length D rfl hO5.out (by unfold maxLen; omega) _ _ (pkey a b) rfl rfl (key_pair ha hb) (.lit (.int .u32 (2 * (G.nodes.length : Int)))) [] (plainElem_int Tryz.underlying66 (WalkArith.wf_u32 ⟨by omega, by omega⟩)) ?_; intro w4 hown4 hgrow4)
      go_ret2
      refine ⟨rfl, p', ?_⟩
      have hmm := HM.out
      obtain ⟨es, cl, hbk, -⟩ := hO5.out
      have hg4 : w5.grownBy w4 (some mb) := ⟨hgrow4.os, hgrow4.tape, hgrow4.output, hgrow4.size, hgrow4.block⟩
      exact step_node HG.out hB hK.out hE.out.1 hE.out.2.1 hE.out.2.2 hN.out (hk5.out.trans (F' := fun k => p.m = some k) ⟨hg4.os, hg4.tape, hg4.output, hg4.size, fun k hk hn => hg4.block k hk (fun e => hn (by rw [hmm]; exact e.symm))⟩ (fun x hx => .inl hx)) (n := ⟨true, a, b⟩) (hL5.out.grown hg4 hbk) (by unfold MapIn; rw [if_pos (show (addN G a b).hash = true from HH.out)]; exact ⟨mb, _, hE.out.2.2.trans HM.out, hown4.mono (by rw [addN_len]; exact Nat.le_refl _), mapOf_put HD.out ha hb HF.out⟩)
end Go.Proofs.YtafoohdndlhbnaaGreatDoor
end

section
namespace Go.Proofs.YtafoohdndlhbnaaGreatDoor
open Go.RowKit Go.Maps
set_option maxRecDepth 100000

theorem andG_fold {G : Gr} {a b : Int} (h : (G.fold && foldB a b) = true) : andG G a b = (G, foldV a b) := by unfold andG; rw [if_pos h]
theorem andG_seen {G : Gr} {a b : Int} {i : Nat} (h : (G.fold && foldB a b) = false) (hH : G.hash = true) (hs : findG G.nodes (hiV a b) (loV a b) = some i) : andG G a b = (G, 2 * (i : Int)) := by
  unfold andG seenG; rw [if_neg (by simp [h]), if_pos hH, hs]
theorem andG_none {G : Gr} {a b : Int} (h : (G.fold && foldB a b) = false) (hs : G.hash = true → findG G.nodes (hiV a b) (loV a b) = none) : andG G a b = (addN G (hiV a b) (loV a b), 2 * (G.nodes.length : Int)) := by
  unfold andG seenG; rw [if_neg (by simp [h])]
  by_cases hH : G.hash = true
  · rw [if_pos hH, hs hH]; rfl
  · rw [if_neg hH]; rfl

theorem pair_box (w : World) (x y : Value) (T : Nat) : (w.alloc (.cells #[x, y] T)).cell? ⟨w.heap.size, 0, none⟩ = some x ∧ (w.alloc (.cells #[x, y] T)).cell? ⟨w.heap.size, 1, none⟩ = some y := ⟨by simp [go_sem], by simp [go_sem]⟩

theorem and_any {w : World} {p : Pl} {G : Gr} (hG : Is w p G) (hW : Wf G) (hm : G.nodes.length ≤ 200000) {a b : Int} (ha : IsLit a) (hb : IsLit b) :
    Calls Tryz.prog 144 #[.pointer (some ⟨p.b, 0, none⟩), .int .u32 a, .int .u32 b] w fun e w' => e = .returned (.tuple #[.int .u32 (andG G a b).2, .int .i64 0]) ∧ ∃ p', Step p w p' w' (andG G a b).1 := by
  obtain ⟨c0, c1, -, -, c4, -⟩ := hG.lay.cells
  have hlt := hG.lay.lt
  have HG := Lib.hid hG
  have HW := Lib.hid hW
  have hfo := Lib.hid (fun w => fold_any a b ha hb w)
  have hor := Lib.hid (fun w => ordered_any (a := a) (b := b) w)
  by_cases hf : (G.fold && foldB a b) = true
  · rw [andG_fold hf]
    obtain ⟨hF, hB⟩ : G.fold = true ∧ foldB a b = true := by simpa using hf
    rw [hF] at c0
    rw [hB] at hfo
    clear hf hG hW hF hB hor
    go_enter Tryz.func144, Tryz.ntmps144
    go_wp2_with (go_at_call 202; refine (hfo.out _).mono ?_; rintro e w1 ⟨rfl, rfl⟩)
    go_ret2
    exact ⟨rfl, p, Step.refl HG.out⟩
  · have hf : (G.fold && foldB a b) = false := by simpa using hf
    have hX : Hid (IsLit (hiV a b) ∧ IsLit (loV a b)) := by
      rcases hiV_or a b with ⟨h1, h2⟩ | ⟨h1, h2⟩ <;> rw [h1, h2]
      · exact ⟨ha, hb⟩
      · exact ⟨hb, ha⟩
    have e1 := Lib.hid (fun i hH hs => andG_seen (i := i) hf hH hs)
    have e2 := Lib.hid (andG_none hf)
    generalize hiV a b = x at *
    generalize loV a b = y at *
    cases hH : G.hash with
    | false =>
      have HE := Lib.hid (e2.out (fun h => by rw [hH] at h; cases h))
      have HM : p.m = none := by have := hG.map; unfold MapIn at this; rw [hH] at this; simpa using this
      have hlook : ∀ w', (Instr.lookup 131 (.map p.m) (.agg #[.int .u32 x, .int .u32 y]) true).run Tryz.prog w' = .ok (.tuple #[.int .u32 0, .bool false]) w' := fun w' => by rw [HM]; exact look_none hX.out.1 hX.out.2
      rw [HE.out]
      clear hG hW e1 e2 c1 HM
      cases hF : G.fold with
      | false =>
        rw [hF] at c0
        clear hf hF
        go_enter Tryz.func144, Tryz.ntmps144
        go_wp2_with (first | (go_at_call 202; refine (hfo.out _).mono ?_; rintro e w1 ⟨rfl, rfl⟩) | (go_at_call 150; refine (hor.out _).mono ?_; rintro e w2 ⟨rfl, hB⟩; have d4 := stepc hB hlt c4; have hs2 := hB.size))
        obtain ⟨w3, hw3, x4, x0, x1, hB3⟩ : ∃ w3, w3 = w2.alloc (.cells #[.int .u32 x, .int .u32 y] 163) ∧ w3.cell? ⟨p.b, 4, none⟩ = some (.map p.m) ∧ w3.cell? ⟨w2.heap.size, 0, none⟩ = some (.int .u32 x) ∧ w3.cell? ⟨w2.heap.size, 1, none⟩ = some (.int .u32 y) ∧ Hid (Below w.heap.size w w3) := ⟨_, rfl, stepc ((Below.refl _ w2).alloc (Nat.le_refl _) _) (by omega) d4, (pair_box _ _ _ _).1, (pair_box _ _ _ _).2, Lib.hid (hB.alloc hs2 _)⟩
        rw [← hw3]
        clear hw3 hB d4
        go_quiet (fail)
        have hn := below_draws w3 nq
        obtain ⟨w4, hw4, y0, y1, hB4⟩ : ∃ w4, w4 = w3.drewN nq ∧ w4.cell? ⟨w2.heap.size, 0, none⟩ = some (.int .u32 x) ∧ w4.cell? ⟨w2.heap.size, 1, none⟩ = some (.int .u32 y) ∧ Hid (Below w.heap.size w w4) := ⟨_, rfl, x0, x1, Lib.hid (nextw hB3.out hn)⟩
        rw [← hw4]
        clear hn hlook hw4 x0 x1 x4 hB3
        go_wp2_with (go_at_call 149; refine (gate_any (HG.out.below hB4.out) HW.out hm hX.out.1 hX.out.2).mono ?_; rintro e w5 ⟨rfl, p', hS⟩)
        go_ret2
        exact ⟨rfl, p', Step.front HG.out hB4.out hS⟩
      | true =>
        rw [hF] at c0
        have hB : foldB a b = false := by rw [hF] at hf; simpa using hf
        rw [hB] at hfo
        clear hf hF hB
        go_enter Tryz.func144, Tryz.ntmps144
        go_wp2_with (first | (go_at_call 202; refine (hfo.out _).mono ?_; rintro e w1 ⟨rfl, rfl⟩) | (go_at_call 150; refine (hor.out _).mono ?_; rintro e w2 ⟨rfl, hB⟩; have d4 := stepc hB hlt c4; have hs2 := hB.size))
        obtain ⟨w3, hw3, x4, x0, x1, hB3⟩ : ∃ w3, w3 = w2.alloc (.cells #[.int .u32 x, .int .u32 y] 163) ∧ w3.cell? ⟨p.b, 4, none⟩ = some (.map p.m) ∧ w3.cell? ⟨w2.heap.size, 0, none⟩ = some (.int .u32 x) ∧ w3.cell? ⟨w2.heap.size, 1, none⟩ = some (.int .u32 y) ∧ Hid (Below w.heap.size w w3) := ⟨_, rfl, stepc ((Below.refl _ w2).alloc (Nat.le_refl _) _) (by omega) d4, (pair_box _ _ _ _).1, (pair_box _ _ _ _).2, Lib.hid (hB.alloc hs2 _)⟩
        rw [← hw3]
        clear hw3 hB d4
        go_quiet (fail)
        have hn := below_draws w3 nq
        obtain ⟨w4, hw4, y0, y1, hB4⟩ : ∃ w4, w4 = w3.drewN nq ∧ w4.cell? ⟨w2.heap.size, 0, none⟩ = some (.int .u32 x) ∧ w4.cell? ⟨w2.heap.size, 1, none⟩ = some (.int .u32 y) ∧ Hid (Below w.heap.size w w4) := ⟨_, rfl, x0, x1, Lib.hid (nextw hB3.out hn)⟩
        rw [← hw4]
        clear hn hlook hw4 x0 x1 x4 hB3
        go_wp2_with (go_at_call 149; refine (gate_any (HG.out.below hB4.out) HW.out hm hX.out.1 hX.out.2).mono ?_; rintro e w5 ⟨rfl, p', hS⟩)
        go_ret2
        exact ⟨rfl, p', Step.front HG.out hB4.out hS⟩
    | true =>
      have hmap := hG.map
      unfold MapIn at hmap
      rw [if_pos hH] at hmap
      obtain ⟨mb, D, hmb, hown, hD⟩ := hmap
      obtain ⟨cv, hcv, hlk⟩ := look_map hown hD hX.out.1 hX.out.2
      have hmlt := hown.lt
      rw [hmb] at c4
      have HMB := Lib.hid hmb
      cases hfi : findG G.nodes x y with
      | some i =>
        have HE := Lib.hid (e1.out i hH hfi)
        have hci := hcv i hfi
        subst hci
        rw [hfi] at hlk
        have hlk := Lib.hid hlk
        rw [HE.out]
        clear hG hW e1 e2 c1 hmb hown hD hcv hfi
        cases hF : G.fold with
        | false =>
          rw [hF] at c0
          clear hf hF
          go_enter Tryz.func144, Tryz.ntmps144
          go_wp2_with (first | (go_at_call 202; refine (hfo.out _).mono ?_; rintro e w1 ⟨rfl, rfl⟩) | (go_at_call 150; refine (hor.out _).mono ?_; rintro e w2 ⟨rfl, hB⟩; have d4 := stepc hB hlt c4; have hs2 := hB.size))
          rw [← HMB.out] at d4
          obtain ⟨w3, hw3, x4, x0, x1, hB3⟩ : ∃ w3, w3 = w2.alloc (.cells #[.int .u32 x, .int .u32 y] 163) ∧ w3.cell? ⟨p.b, 4, none⟩ = some (.map p.m) ∧ w3.cell? ⟨w2.heap.size, 0, none⟩ = some (.int .u32 x) ∧ w3.cell? ⟨w2.heap.size, 1, none⟩ = some (.int .u32 y) ∧ Hid (Below w.heap.size w w3) := ⟨_, rfl, stepc ((Below.refl _ w2).alloc (Nat.le_refl _) _) (by omega) d4, (pair_box _ _ _ _).1, (pair_box _ _ _ _).2, Lib.hid (hB.alloc hs2 _)⟩
          rw [← hw3]
          rw [HMB.out] at x4
          have hlook : ∀ j, (Instr.lookup 131 (.map (some mb)) (.agg #[.int .u32 x, .int .u32 y]) true).run Tryz.prog (w3.drewN j) = .ok (.tuple #[.int .u32 (2 * (i : Int)), .bool true]) (w3.drewN j) := fun j => hlk.out _ (hB3.out.block mb hmlt)
          clear hw3 hB d4
          go_quiet (fail)
          go_wp2
          go_ret2
          exact ⟨rfl, p, Step.of_below HG.out (nextw hB3.out (below_draws w3 nq))⟩
        | true =>
          rw [hF] at c0
          have hB : foldB a b = false := by rw [hF] at hf; simpa using hf
          rw [hB] at hfo
          clear hf hF hB
          go_enter Tryz.func144, Tryz.ntmps144
          go_wp2_with (first | (go_at_call 202; refine (hfo.out _).mono ?_; rintro e w1 ⟨rfl, rfl⟩) | (go_at_call 150; refine (hor.out _).mono ?_; rintro e w2 ⟨rfl, hB⟩; have d4 := stepc hB hlt c4; have hs2 := hB.size))
          rw [← HMB.out] at d4
          obtain ⟨w3, hw3, x4, x0, x1, hB3⟩ : ∃ w3, w3 = w2.alloc (.cells #[.int .u32 x, .int .u32 y] 163) ∧ w3.cell? ⟨p.b, 4, none⟩ = some (.map p.m) ∧ w3.cell? ⟨w2.heap.size, 0, none⟩ = some (.int .u32 x) ∧ w3.cell? ⟨w2.heap.size, 1, none⟩ = some (.int .u32 y) ∧ Hid (Below w.heap.size w w3) := ⟨_, rfl, stepc ((Below.refl _ w2).alloc (Nat.le_refl _) _) (by omega) d4, (pair_box _ _ _ _).1, (pair_box _ _ _ _).2, Lib.hid (hB.alloc hs2 _)⟩
          rw [← hw3]
          rw [HMB.out] at x4
          have hlook : ∀ j, (Instr.lookup 131 (.map (some mb)) (.agg #[.int .u32 x, .int .u32 y]) true).run Tryz.prog (w3.drewN j) = .ok (.tuple #[.int .u32 (2 * (i : Int)), .bool true]) (w3.drewN j) := fun j => hlk.out _ (hB3.out.block mb hmlt)
          clear hw3 hB d4
          go_quiet (fail)
          go_wp2
          go_ret2
          exact ⟨rfl, p, Step.of_below HG.out (nextw hB3.out (below_draws w3 nq))⟩
      | none =>
        have HE := Lib.hid (e2.out (fun _ => hfi))
        rw [hfi] at hlk
        have hlk := Lib.hid hlk
        rw [HE.out]
        clear hG hW e1 e2 c1 hmb hown hD hcv hfi
        cases hF : G.fold with
        | false =>
          rw [hF] at c0
          clear hf hF
          go_enter Tryz.func144, Tryz.ntmps144
          go_wp2_with (first | (go_at_call 202; refine (hfo.out _).mono ?_; rintro e w1 ⟨rfl, rfl⟩) | (go_at_call 150; refine (hor.out _).mono ?_; rintro e w2 ⟨rfl, hB⟩; have d4 := stepc hB hlt c4; have hs2 := hB.size))
          rw [← HMB.out] at d4
          obtain ⟨w3, hw3, x4, x0, x1, hB3⟩ : ∃ w3, w3 = w2.alloc (.cells #[.int .u32 x, .int .u32 y] 163) ∧ w3.cell? ⟨p.b, 4, none⟩ = some (.map p.m) ∧ w3.cell? ⟨w2.heap.size, 0, none⟩ = some (.int .u32 x) ∧ w3.cell? ⟨w2.heap.size, 1, none⟩ = some (.int .u32 y) ∧ Hid (Below w.heap.size w w3) := ⟨_, rfl, stepc ((Below.refl _ w2).alloc (Nat.le_refl _) _) (by omega) d4, (pair_box _ _ _ _).1, (pair_box _ _ _ _).2, Lib.hid (hB.alloc hs2 _)⟩
          rw [← hw3]
          rw [HMB.out] at x4
          have hlook : ∀ j, (Instr.lookup 131 (.map (some mb)) (.agg #[.int .u32 x, .int .u32 y]) true).run Tryz.prog (w3.drewN j) = .ok (.tuple #[.int .u32 cv, .bool false]) (w3.drewN j) := fun j => hlk.out _ (hB3.out.block mb hmlt)
          clear hw3 hB d4
          go_quiet (fail)
          have hn := below_draws w3 nq
          obtain ⟨w4, hw4, y0, y1, hB4⟩ : ∃ w4, w4 = w3.drewN nq ∧ w4.cell? ⟨w2.heap.size, 0, none⟩ = some (.int .u32 x) ∧ w4.cell? ⟨w2.heap.size, 1, none⟩ = some (.int .u32 y) ∧ Hid (Below w.heap.size w w4) := ⟨_, rfl, x0, x1, Lib.hid (nextw hB3.out hn)⟩
          rw [← hw4]
          clear hn hlook hw4 x0 x1 x4 hB3
          go_wp2_with (go_at_call 149; refine (gate_any (HG.out.below hB4.out) HW.out hm hX.out.1 hX.out.2).mono ?_; rintro e w5 ⟨rfl, p', hS⟩)
          go_ret2
          exact ⟨rfl, p', Step.front HG.out hB4.out hS⟩
        | true =>
          rw [hF] at c0
          have hB : foldB a b = false := by rw [hF] at hf; simpa using hf
          rw [hB] at hfo
          clear hf hF hB
          go_enter Tryz.func144, Tryz.ntmps144
          go_wp2_with (first | (go_at_call 202; refine (hfo.out _).mono ?_; rintro e w1 ⟨rfl, rfl⟩) | (go_at_call 150; refine (hor.out _).mono ?_; rintro e w2 ⟨rfl, hB⟩; have d4 := stepc hB hlt c4; have hs2 := hB.size))
          rw [← HMB.out] at d4
          obtain ⟨w3, hw3, x4, x0, x1, hB3⟩ : ∃ w3, w3 = w2.alloc (.cells #[.int .u32 x, .int .u32 y] 163) ∧ w3.cell? ⟨p.b, 4, none⟩ = some (.map p.m) ∧ w3.cell? ⟨w2.heap.size, 0, none⟩ = some (.int .u32 x) ∧ w3.cell? ⟨w2.heap.size, 1, none⟩ = some (.int .u32 y) ∧ Hid (Below w.heap.size w w3) := ⟨_, rfl, stepc ((Below.refl _ w2).alloc (Nat.le_refl _) _) (by omega) d4, (pair_box _ _ _ _).1, (pair_box _ _ _ _).2, Lib.hid (hB.alloc hs2 _)⟩
          rw [← hw3]
          rw [HMB.out] at x4
          have hlook : ∀ j, (Instr.lookup 131 (.map (some mb)) (.agg #[.int .u32 x, .int .u32 y]) true).run Tryz.prog (w3.drewN j) = .ok (.tuple #[.int .u32 cv, .bool false]) (w3.drewN j) := fun j => hlk.out _ (hB3.out.block mb hmlt)
          clear hw3 hB d4
          go_quiet (fail)
          have hn := below_draws w3 nq
          obtain ⟨w4, hw4, y0, y1, hB4⟩ : ∃ w4, w4 = w3.drewN nq ∧ w4.cell? ⟨w2.heap.size, 0, none⟩ = some (.int .u32 x) ∧ w4.cell? ⟨w2.heap.size, 1, none⟩ = some (.int .u32 y) ∧ Hid (Below w.heap.size w w4) := ⟨_, rfl, x0, x1, Lib.hid (nextw hB3.out hn)⟩
          rw [← hw4]
          clear hn hlook hw4 x0 x1 x4 hB3
          go_wp2_with (go_at_call 149; refine (gate_any (HG.out.below hB4.out) HW.out hm hX.out.1 hX.out.2).mono ?_; rintro e w5 ⟨rfl, p', hS⟩)
          go_ret2
          exact ⟨rfl, p', Step.front HG.out hB4.out hS⟩
end Go.Proofs.YtafoohdndlhbnaaGreatDoor
end
