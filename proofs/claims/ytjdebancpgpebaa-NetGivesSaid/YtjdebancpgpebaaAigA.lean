/-
  The walks of package aig's small functions.
-/
import Derived.Test.YtjdebancpgpebaaAigW
import Derived.Test.YtjdebancpgpebaaLitS
import Derived.Deep.RegionHeld3
import Derived.Deep.AppendLies
import Derived.Deep.QuietTactic
import Derived.BigQuiet
namespace Go.Proofs.Ytjdebancpgpebaa
open Go.RowKit

theorem below_draws (w : World) (n : Nat) : Below w.heap.size w (w.drewN n) := ⟨rfl, rfl, rfl, Nat.le_refl _, fun _ _ => rfl⟩

theorem stands_any {w : World} {p : Pl} {F H : Bool} {ns : List Nd} {ins : List Int} (h : Lay w p F H ns ins) (h0 : 0 < ns.length) :
    Calls Try.prog 44 #[.pointer (some ⟨p.b, 0, none⟩)] w fun e w' => e = .returned (.bool true) ∧ w = w' := by
  obtain ⟨-, -, c2, -, -, -⟩ := h.cells
  generalize ns.length = n at *
  clear h
  have g0 : decide (0 < (n : Int)) = true := by simp; omega
  go_enter Try.func44, Try.ntmps44
  go_wp2
  go_ret
  exact ⟨rfl, rfl⟩

theorem nodes_any {w : World} {p : Pl} {F H : Bool} {ns : List Nd} {ins : List Int} (h : Lay w p F H ns ins) (h0 : 0 < ns.length) :
    Calls Try.prog 13 #[.pointer (some ⟨p.b, 0, none⟩)] w fun e w' => e = .returned (.int .i64 ns.length) ∧ w = w' := by
  have hst := Lib.hid (stands_any h h0)
  obtain ⟨-, -, c2, -, -, -⟩ := h.cells
  generalize ns.length = n at *
  clear h
  go_enter Try.func13, Try.ntmps13
  go_wp2_with (go_at_call 44; refine hst.out.mono ?_; rintro e w2 ⟨rfl, rfl⟩)
  go_ret
  exact ⟨rfl, rfl⟩

theorem gates_any {w : World} {p : Pl} {F H : Bool} {ns : List Nd} {ins : List Int} (h : Lay w p F H ns ins) (h0 : 0 < ns.length) (hi : ins.length < ns.length) (hm : ns.length ≤ 10000000) :
    Calls Try.prog 71 #[.pointer (some ⟨p.b, 0, none⟩)] w fun e w' => e = .returned (.int .i64 ((ns.length : Int) - 1 - ins.length)) ∧ Below w.heap.size w w' := by
  have hst := Lib.hid (stands_any h h0)
  obtain ⟨-, -, c2, c3, -, -⟩ := h.cells
  obtain ⟨ia, ic, hiv⟩ := own_slice h.inputs
  rw [hiv] at c3
  generalize ns.length = n at *
  generalize ins.length = m at *
  clear h hiv
  go_enter Try.func71, Try.ntmps71
  go_wp2_with (go_at_call 44; refine hst.out.mono ?_; rintro e w2 ⟨rfl, rfl⟩)
  go_quiet (fail)
  go_wp2
  go_ret
  exact ⟨rfl, below_draws _ _⟩

theorem ordered_any {a b : Int} (w : World) :
    Calls Try.prog 67 #[.int .u32 a, .int .u32 b] w fun e w' => e = .returned (.agg #[.int .u32 (hiV a b), .int .u32 (loV a b)]) ∧ Below w.heap.size w w' := by
  by_cases h : a < b
  · have e1 : hiV a b = b := if_pos h
    have e2 : loV a b = a := if_pos h
    rw [e1, e2]
    have hp := Lib.hid (fun w => pair_lt a b h w)
    clear h e1 e2
    go_enter Try.func67, Try.ntmps67
    go_wp2_with (go_at_call 70; refine (hp.out _).mono ?_; rintro e w2 ⟨rfl, rfl⟩)
    refine bodyPost_ret (v := .agg #[.int .u32 b, .int .u32 a]) (by simp [results, Try.results67, go_sem]) rfl ⟨rfl, ?_⟩
    exact (Below.refl _ _).alloc (Nat.le_refl _) _
  · have e1 : hiV a b = a := if_neg h
    have e2 : loV a b = b := if_neg h
    rw [e1, e2]
    have hp := Lib.hid (fun w => pair_ge a b (by omega) w)
    clear h e1 e2
    go_enter Try.func67, Try.ntmps67
    go_wp2_with (go_at_call 70; refine (hp.out _).mono ?_; rintro e w2 ⟨rfl, rfl⟩)
    refine bodyPost_ret (v := .agg #[.int .u32 a, .int .u32 b]) (by simp [results, Try.results67, go_sem]) rfl ⟨rfl, ?_⟩
    exact (Below.refl _ _).alloc (Nat.le_refl _) _

theorem opposite_any {l : Int} (hl : IsLit l) (w : World) :
    Calls Try.prog 73 #[.int .u32 l, .int .i64 0] w fun e w' => e = .returned (.tuple #[.int .u32 (notV l), .int .i64 0]) ∧ w = w' := by
  have hn := Lib.hid (fun w => not_any l hl w)
  go_enter Try.func73, Try.ntmps73
  go_wp2_with (go_at_call 63; refine (hn.out _).mono ?_; rintro e w2 ⟨rfl, rfl⟩)
  go_ret2
  exact ⟨rfl, rfl⟩
end Go.Proofs.Ytjdebancpgpebaa
