/-
  The walks of package lit's small functions, and of the document's own answers for them.
-/
import Derived.Test.YtbpiccbjnagodaaSl
import Derived.Test.YtbpiccbjnagodaaLitM
import Derived.Outline
namespace Go.Proofs.Ytbpiccbjnagodaa
open Go.RowKit

theorem not_any (l : Int) (h : IsLit l) (w : World) :
    Calls Try.prog 15 #[.int .u32 l] w fun e w' => e = .returned (.int .u32 (notV l)) ∧ w = w' := by
  have hx := Lib.hid (xor_not h)
  obtain ⟨h0, h1⟩ := h
  go_enter Try.func15, Try.ntmps15
  go_wp2
  go_ret
  exact ⟨ret_int hx.out, rfl⟩
theorem node_any (l : Int) (h : IsLit l) (w : World) :
    Calls Try.prog 13 #[.int .u32 l] w fun e w' => e = .returned (.int .i64 (l / 2)) ∧ w = w' := by
  obtain ⟨h0, h1⟩ := h
  go_enter Try.func13, Try.ntmps13
  go_wp2
  go_ret
  exact ⟨rfl, rfl⟩
theorem turned_any (l : Int) (h : IsLit l) (w : World) :
    Calls Try.prog 14 #[.int .u32 l] w fun e w' => e = .returned (.bool (turnV l)) ∧ w = w' := by
  have hx := Lib.hid (and_turn h)
  obtain ⟨h0, h1⟩ := h
  go_enter Try.func14, Try.ntmps14
  go_wp2
  go_ret
  exact ⟨ret_bool hx.out, rfl⟩
theorem rnot_any (l : Int) (h : IsLit l) (w : World) :
    Calls Try.prog 12 #[.int .u32 l] w fun e w' => e = .returned (.int .u32 (notV l)) ∧ w = w' := by
  obtain ⟨h0, h1⟩ := h
  by_cases e : l % 2 = 0
  · have e0 : (l % 2 == 0) = true := by simpa using e
    have hx := Lib.hid (show (l + 1) % 4294967296 = notV l by unfold notV; rw [if_pos e0]; omega)
    clear e
    go_enter Try.func12, Try.ntmps12
    go_wp2
    go_ret
    exact ⟨ret_int hx.out, rfl⟩
  · have e0 : (l % 2 == 0) = false := by simpa using e
    have hx := Lib.hid (show (l - 1) % 4294967296 = notV l by unfold notV; rw [if_neg (by simpa using e)]; omega)
    clear e
    go_enter Try.func12, Try.ntmps12
    go_wp2
    go_ret
    exact ⟨ret_int hx.out, rfl⟩
theorem if_any (l : Int) (t : Bool) (h : IsLit l) (w : World) :
    Calls Try.prog 16 #[.int .u32 l, .bool t] w fun e w' => e = .returned (.int .u32 (ifV l t)) ∧ w = w' := by
  cases t with
  | true =>
    go_enter Try.func16, Try.ntmps16
    go_wp2_with (go_at_call 15; refine (not_any _ h _).mono ?_; rintro e w2 ⟨rfl, rfl⟩)
    go_ret
    exact ⟨rfl, rfl⟩
  | false =>
    go_enter Try.func16, Try.ntmps16
    go_wp2
    go_ret
    exact ⟨rfl, rfl⟩
theorem of_lit {n : Int} (h : 0 ≤ n) (h2 : n ≤ 16777216) : IsLit (2 * n) := by unfold IsLit; omega
theorem of_val {n : Int} (t : Bool) (h : 0 ≤ n) (h2 : n ≤ 16777216) : ifV (2 * n) t = ofV n t ∧ ofE n = 0 := by
  have e : ofBad n = false := by unfold ofBad; simp; omega
  unfold ofV ofE ifV notV
  rw [e]
  cases t <;> simp
theorem of_any (n : Int) (t : Bool) (hn : -9223372036854775808 ≤ n ∧ n ≤ 9223372036854775807) (w : World) :
    Calls Try.prog 7 #[.int .i64 n, .bool t] w fun e w' => e = .returned (.tuple #[.int .u32 (ofV n t), .int .i64 (ofE n)]) ∧ w = w' := by
  obtain ⟨hn0, hn1⟩ := hn
  by_cases hb : ofBad n = true
  · have hv : Hid (ofV n t = 0 ∧ ofE n = 1) := by show _ ∧ _; unfold ofV ofE; rw [if_pos hb, if_pos hb]; exact ⟨rfl, rfl⟩
    unfold ofBad at hb
    by_cases h0 : n < 0
    · clear hb
      go_enter Try.func7, Try.ntmps7
      go_wp2
      go_ret2
      exact ⟨ret_int2 hv.out.1.symm hv.out.2.symm, rfl⟩
    · have h1 : 16777216 < n := by simpa [h0] using hb
      have h00 : decide (n < 0) = false := by simpa using h0
      have h11 : decide (16777216 < n) = true := by simpa using h1
      clear hb h0
      go_enter Try.func7, Try.ntmps7
      go_wp2
      go_ret2
      exact ⟨ret_int2 hv.out.1.symm hv.out.2.symm, rfl⟩
  · have h0 : 0 ≤ n ∧ n ≤ 16777216 := by unfold ofBad at hb; simp at hb; omega
    obtain ⟨h0, h1⟩ := h0
    have hv := Lib.hid (of_val t h0 h1)
    have h00 : decide (n < 0) = false := by simp; omega
    have h11 : decide (16777216 < n) = false := by simp; omega
    have hl := of_lit h0 h1
    clear hb
    go_enter Try.func7, Try.ntmps7
    go_wp2_with (go_at_call 16; refine (if_any _ t hl _).mono ?_; rintro e w2 ⟨rfl, rfl⟩)
    go_ret2
    exact ⟨ret_int2 hv.out.1 hv.out.2.symm, rfl⟩
theorem rof_any (n : Int) (t : Bool) (hn : -9223372036854775808 ≤ n ∧ n ≤ 9223372036854775807) (w : World) :
    Calls Try.prog 8 #[.int .i64 n, .bool t] w fun e w' => e = .returned (.tuple #[.int .u32 (ofV n t), .int .i64 (ofE n)]) ∧ w = w' := by
  obtain ⟨hn0, hn1⟩ := hn
  by_cases hb : ofBad n = true
  · have hv : Hid (ofV n t = 0 ∧ ofE n = 1) := by show _ ∧ _; unfold ofV ofE; rw [if_pos hb, if_pos hb]; exact ⟨rfl, rfl⟩
    unfold ofBad at hb
    by_cases h0 : n < 0
    · clear hb
      go_enter Try.func8, Try.ntmps8
      go_wp2
      go_ret2
      exact ⟨ret_int2 hv.out.1.symm hv.out.2.symm, rfl⟩
    · have h1 : 16777216 < n := by simpa [h0] using hb
      have h00 : decide (n < 0) = false := by simpa using h0
      have h11 : decide (16777216 < n) = true := by simpa using h1
      clear hb h0
      go_enter Try.func8, Try.ntmps8
      go_wp2
      go_ret2
      exact ⟨ret_int2 hv.out.1.symm hv.out.2.symm, rfl⟩
  · have h0 : 0 ≤ n ∧ n ≤ 16777216 := by unfold ofBad at hb; simp at hb; omega
    obtain ⟨h0, h1⟩ := h0
    have hv := Lib.hid (of_val t h0 h1)
    have h00 : decide (n < 0) = false := by simp; omega
    have h11 : decide (16777216 < n) = false := by simp; omega
    have hn1 : Hid (2 * n + 1 = ifV (2 * n) true ∧ 2 * n = ifV (2 * n) false) := by
      show _ ∧ _; unfold ifV notV; refine ⟨?_, rfl⟩; simp
    clear hb
    cases t
    · go_enter Try.func8, Try.ntmps8
      go_wp2
      go_ret2
      exact ⟨ret_int2 (hn1.out.2.trans hv.out.1) hv.out.2.symm, rfl⟩
    · go_enter Try.func8, Try.ntmps8
      go_wp2
      go_ret2
      exact ⟨ret_int2 (hn1.out.1.trans hv.out.1) hv.out.2.symm, rfl⟩
end Go.Proofs.Ytbpiccbjnagodaa
