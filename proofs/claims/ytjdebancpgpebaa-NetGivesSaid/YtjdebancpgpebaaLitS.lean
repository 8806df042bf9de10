/-
  The walks of package lit's small functions alone (no answer of the document's own): for the stages above it.
-/
import Derived.Test.YtjdebancpgpebaaSl
import Derived.Test.YtjdebancpgpebaaLitM
import Derived.Outline
namespace Go.Proofs.Ytjdebancpgpebaa
open Go.RowKit

theorem not_any (l : Int) (h : IsLit l) (w : World) :
    Calls Try.prog 63 #[.int .u32 l] w fun e w' => e = .returned (.int .u32 (notV l)) ∧ w = w' := by
  have hx := Lib.hid (xor_not h)
  obtain ⟨h0, h1⟩ := h
  go_enter Try.func63, Try.ntmps63
  go_wp2
  go_ret
  exact ⟨ret_int hx.out, rfl⟩
theorem node_any (l : Int) (h : IsLit l) (w : World) :
    Calls Try.prog 12 #[.int .u32 l] w fun e w' => e = .returned (.int .i64 (l / 2)) ∧ w = w' := by
  obtain ⟨h0, h1⟩ := h
  go_enter Try.func12, Try.ntmps12
  go_wp2
  go_ret
  exact ⟨rfl, rfl⟩
theorem turned_any (l : Int) (h : IsLit l) (w : World) :
    Calls Try.prog 17 #[.int .u32 l] w fun e w' => e = .returned (.bool (turnV l)) ∧ w = w' := by
  have hx := Lib.hid (and_turn h)
  obtain ⟨h0, h1⟩ := h
  go_enter Try.func17, Try.ntmps17
  go_wp2
  go_ret
  exact ⟨ret_bool hx.out, rfl⟩
theorem if_any (l : Int) (t : Bool) (h : IsLit l) (w : World) :
    Calls Try.prog 46 #[.int .u32 l, .bool t] w fun e w' => e = .returned (.int .u32 (ifV l t)) ∧ w = w' := by
  cases t with
  | true =>
    go_enter Try.func46, Try.ntmps46
    go_wp2_with (go_at_call 63; refine (not_any _ h _).mono ?_; rintro e w2 ⟨rfl, rfl⟩)
    go_ret
    exact ⟨rfl, rfl⟩
  | false =>
    go_enter Try.func46, Try.ntmps46
    go_wp2
    go_ret
    exact ⟨rfl, rfl⟩
theorem of_lit {n : Int} (h : 0 ≤ n) (h2 : n ≤ 16777216) : IsLit (2 * n) := by unfold IsLit; omega
theorem of_val {n : Int} (t : Bool) (h : 0 ≤ n) (h2 : n ≤ 16777216) : ifV (2 * n) t = ofV n t ∧ ofE n = 0 := by
  have e : ofBad n = false := by unfold ofBad; simp; omega
  unfold ofV ofE ifV notV
  rw [e]
  cases t <;> simp
theorem of_any (n : Int) (t : Bool) (hn : -9223372036854775808 ≤ n ∧ n ≤ 9223372036854775807) (w : World) :
    Calls Try.prog 15 #[.int .i64 n, .bool t] w fun e w' => e = .returned (.tuple #[.int .u32 (ofV n t), .int .i64 (ofE n)]) ∧ w = w' := by
  obtain ⟨hn0, hn1⟩ := hn
  by_cases hb : ofBad n = true
  · have hv : Hid (ofV n t = 0 ∧ ofE n = 1) := by show _ ∧ _; unfold ofV ofE; rw [if_pos hb, if_pos hb]; exact ⟨rfl, rfl⟩
    unfold ofBad at hb
    by_cases h0 : n < 0
    · clear hb
      go_enter Try.func15, Try.ntmps15
      go_wp2
      go_ret2
      exact ⟨ret_int2 hv.out.1.symm hv.out.2.symm, rfl⟩
    · have h1 : 16777216 < n := by simpa [h0] using hb
      have h00 : decide (n < 0) = false := by simpa using h0
      have h11 : decide (16777216 < n) = true := by simpa using h1
      clear hb h0
      go_enter Try.func15, Try.ntmps15
      go_wp2
      go_ret2
      exact ⟨ret_int2 hv.out.1.symm hv.out.2.symm, rfl⟩
  · have h0 : 0 ≤ n ∧ n ≤ 16777216 := by unfold ofBad at hb; simp at hb; omega
    obtain ⟨h0, h1⟩ := h0
    have hv := Lib.hid (of_val t h0 h1)
    have h00 : decide (n < 0) = false := by simp; omega
    have h11 : decide (16777216 < n) = false := by simp; omega
    have hl := of_lit h0 h1
    clear hb
    go_enter Try.func15, Try.ntmps15
    go_wp2_with (go_at_call 46; refine (if_any _ t hl _).mono ?_; rintro e w2 ⟨rfl, rfl⟩)
    go_ret2
    exact ⟨ret_int2 hv.out.1 hv.out.2.symm, rfl⟩

theorem beqf {a b : Int} (h : ¬ a = b) : (a == b) = false := by simpa using h
theorem beqt {a b : Int} (h : a = b) : (a == b) = true := by simpa using h
theorem bnef {a b : Int} (h : a = b) : (a != b) = false := by simpa using h
theorem bnet {a b : Int} (h : ¬ a = b) : (a != b) = true := by simpa using h

/-- Fold's ways: what it comes to on each. -/
theorem fold_0 {a b : Int} (h : a = 0 ∨ b = 0 ∨ a = notV b) : foldV a b = 0 ∧ foldB a b = true := by
  unfold foldV foldB
  rcases h with h | h | h <;> rw [h] <;> simp
theorem fold_1 {b : Int} (h1 : ¬ b = 0) (h2 : ¬ (1 : Int) = notV b) : foldV 1 b = b ∧ foldB 1 b = true := by
  unfold foldV foldB; simp [h1, h2]
theorem fold_2 {a : Int} (h0 : ¬ a = 0) (h2 : ¬ a = notV 1) (h3 : ¬ a = 1) : foldV a 1 = a ∧ foldB a 1 = true := by
  unfold foldV foldB; simp [h0, h2, h3]
theorem fold_3 {a : Int} (h0 : ¬ a = 0) (h3 : ¬ a = 1) : foldV a a = a ∧ foldB a a = true := by
  have h2 : ¬ a = notV a := fun h => notV_ne a h.symm
  unfold foldV foldB; simp [h0, h2, h3]
theorem fold_4 {a b : Int} (h0 : ¬ a = 0) (h1 : ¬ b = 0) (h2 : ¬ a = notV b) (h3 : ¬ a = 1) (h4 : ¬ b = 1) (h5 : ¬ a = b) : foldV a b = 0 ∧ foldB a b = false := by
  unfold foldV foldB; simp [h0, h1, h2, h3, h4, h5]

theorem fold_any (a b : Int) (ha : IsLit a) (hb : IsLit b) (w : World) :
    Calls Try.prog 66 #[.int .u32 a, .int .u32 b] w fun e w' => e = .returned (.tuple #[.int .u32 (foldV a b), .bool (foldB a b)]) ∧ w = w' := by
  by_cases h0 : a = 0
  · subst h0
    have hv := Lib.hid (fold_0 (a := 0) (b := b) (.inl rfl))
    go_enter Try.func66, Try.ntmps66
    go_wp2_with (go_at_call 63; refine (not_any _ hb _).mono ?_; rintro e w2 ⟨rfl, rfl⟩)
    go_ret2
    exact ⟨ret_intb hv.out.1.symm hv.out.2.symm, rfl⟩
  by_cases h1 : b = 0
  · subst h1
    have hv := Lib.hid (fold_0 (a := a) (b := 0) (.inr (.inl rfl)))
    have g0 := beqf h0
    clear h0
    go_enter Try.func66, Try.ntmps66
    go_wp2_with (go_at_call 63; refine (not_any _ hb _).mono ?_; rintro e w2 ⟨rfl, rfl⟩)
    go_ret2
    exact ⟨ret_intb hv.out.1.symm hv.out.2.symm, rfl⟩
  by_cases h2 : a = notV b
  · have hv := Lib.hid (fold_0 (a := a) (b := b) (.inr (.inr h2)))
    have g0 := beqf h0
    have g1 := beqf h1
    have g2 := beqt h2
    clear h0 h1 h2
    go_enter Try.func66, Try.ntmps66
    go_wp2_with (go_at_call 63; refine (not_any _ hb _).mono ?_; rintro e w2 ⟨rfl, rfl⟩)
    go_ret2
    exact ⟨ret_intb hv.out.1.symm hv.out.2.symm, rfl⟩
  by_cases h3 : a = 1
  · subst h3
    have hv := Lib.hid (fold_1 h1 h2)
    have g1 := beqf h1
    have g2 := beqf h2
    clear h0 h1 h2
    go_enter Try.func66, Try.ntmps66
    go_wp2_with (go_at_call 63; refine (not_any _ hb _).mono ?_; rintro e w2 ⟨rfl, rfl⟩)
    go_ret2
    exact ⟨ret_intb hv.out.1.symm hv.out.2.symm, rfl⟩
  by_cases h4 : b = 1
  · subst h4
    have hv := Lib.hid (fold_2 h0 h2 h3)
    have g0 := beqf h0
    have g2 := beqf h2
    have g3 := beqf h3
    clear h0 h1 h2 h3
    go_enter Try.func66, Try.ntmps66
    go_wp2_with (go_at_call 63; refine (not_any _ hb _).mono ?_; rintro e w2 ⟨rfl, rfl⟩)
    go_ret2
    exact ⟨ret_intb hv.out.1.symm hv.out.2.symm, rfl⟩
  by_cases h5 : a = b
  · subst h5
    have hv := Lib.hid (fold_3 h0 h3)
    have g0 := beqf h0
    have g2 := beqf h2
    have g3 := beqf h3
    clear h0 h1 h2 h3 h4
    go_enter Try.func66, Try.ntmps66
    go_wp2_with (go_at_call 63; refine (not_any _ hb _).mono ?_; rintro e w2 ⟨rfl, rfl⟩)
    go_ret2
    exact ⟨ret_intb hv.out.1.symm hv.out.2.symm, rfl⟩
  · have hv := Lib.hid (fold_4 h0 h1 h2 h3 h4 h5)
    have g0 := beqf h0
    have g1 := beqf h1
    have g2 := beqf h2
    have g3 := beqf h3
    have g4 := beqf h4
    have g5 := beqf h5
    clear h0 h1 h2 h3 h4 h5
    go_enter Try.func66, Try.ntmps66
    go_wp2_with (go_at_call 63; refine (not_any _ hb _).mono ?_; rintro e w2 ⟨rfl, rfl⟩)
    go_ret2
    exact ⟨ret_intb hv.out.1.symm hv.out.2.symm, rfl⟩
theorem pair_lt (a b : Int) (h : a < b) (w : World) :
    Calls Try.prog 70 #[.int .u32 a, .int .u32 b] w fun e w' => e = .returned (.tuple #[.int .u32 b, .int .u32 a]) ∧ w = w' := by
  have h0 : decide (a < b) = true := by simpa using h
  go_enter Try.func70, Try.ntmps70
  go_wp2
  go_ret2
  exact ⟨rfl, rfl⟩
theorem pair_ge (a b : Int) (h : b ≤ a) (w : World) :
    Calls Try.prog 70 #[.int .u32 a, .int .u32 b] w fun e w' => e = .returned (.tuple #[.int .u32 a, .int .u32 b]) ∧ w = w' := by
  have h0 : decide (a < b) = false := by simpa using h
  go_enter Try.func70, Try.ntmps70
  go_wp2
  go_ret2
  exact ⟨rfl, rfl⟩

theorem nodeW_in {l : Int} {zs : List Int} {n : Nat} (hl : zs.length = n) (h0 : 0 < l / 2) (h1 : l / 2 < n) : nodeW (l / 2) zs = zs.getD (l / 2).toNat 0 := by
  unfold nodeW; rw [if_pos (by simp; omega)]
theorem nodeW_out {l : Int} {zs : List Int} {n : Nat} (hl : zs.length = n) (h : ¬ (0 < l / 2 ∧ l / 2 < n)) : nodeW (l / 2) zs = 0 := by
  unfold nodeW; rw [if_neg (by simp; omega)]
theorem word_t {l : Int} {zs : List Int} (h : turnV l = true) : wordV l zs = 18446744073709551615 - nodeW (l / 2) zs := by unfold wordV; rw [if_pos h]
theorem word_f {l : Int} {zs : List Int} (h : turnV l = false) : wordV l zs = nodeW (l / 2) zs := by unfold wordV; rw [if_neg (by simp [h])]
theorem mod_turn {l : Int} : (l % 2 == 1) = turnV l := rfl

end Go.Proofs.Ytjdebancpgpebaa
