/-
  The chapter's rows; the law LitOnes.
-/
import Derived.Test.YtbpiccbjnagodaaLitF
namespace Go.Proofs.Ytbpiccbjnagodaa
open Go.RowKit Bits

set_option maxHeartbeats 1000000 in
theorem tells_any (w : World) : Calls Try.prog 19 #[] w fun e w' => e = .returned (.bool true) ∧ Below w.heap.size w w' := by
  have h1 : Hid (∀ w, Calls Try.prog 7 #[.int .i64 3, .bool true] w fun e w' => e = .returned (.tuple #[.int .u32 7, .int .i64 0]) ∧ w = w') := fun w => of_any 3 true (by omega) w
  have h2 : Hid (∀ w, Calls Try.prog 9 #[.int .u32 6, .int .u32 7] w fun e w' => e = .returned (.tuple #[.int .u32 0, .bool true]) ∧ w = w') := fun w => fold_any 6 7 (by unfold IsLit; omega) (by unfold IsLit; omega) w
  have h3 : Hid (∀ w, Calls Try.prog 9 #[.int .u32 6, .int .u32 1] w fun e w' => e = .returned (.tuple #[.int .u32 6, .bool true]) ∧ w = w') := fun w => fold_any 6 1 (by unfold IsLit; omega) (by unfold IsLit; omega) w
  have h4 : Hid (∀ w, Calls Try.prog 9 #[.int .u32 6, .int .u32 8] w fun e w' => e = .returned (.tuple #[.int .u32 0, .bool false]) ∧ w = w') := fun w => fold_any 6 8 (by unfold IsLit; omega) (by unfold IsLit; omega) w
  have h5 : Hid (∀ w, Calls Try.prog 13 #[.int .u32 7] w fun e w' => e = .returned (.int .i64 3) ∧ w = w') := fun w => node_any 7 (by unfold IsLit; omega) w
  have h6 : Hid (∀ w, Calls Try.prog 14 #[.int .u32 7] w fun e w' => e = .returned (.bool true) ∧ w = w') := fun w => turned_any 7 (by unfold IsLit; omega) w
  have h7 : Hid (∀ w, Calls Try.prog 15 #[.int .u32 7] w fun e w' => e = .returned (.int .u32 6) ∧ w = w') := fun w => not_any 7 (by unfold IsLit; omega) w
  have h8 := Lib.hid (fun w => const_any 6 4 (by omega) (by omega) w)
  have h9 : Hid (∀ (w : World) (b : Nat) (h : w.ownsRow b 24 1 (.slice (some ⟨b, 0, none⟩) 4 4) 4 ((row 4 (bt 6)).map (Value.int .u32))), Calls Try.prog 23 #[.slice (some ⟨b, 0, none⟩) 4 4] w fun e w' => e = .returned (.tuple #[.int .u64 6, .bool true]) ∧ w = w') := by
    show ∀ _, _
    intro w b h
    have e : num (row 4 (bt 6)) = 6 := num_bt 6 4
    have := number_yes (some ⟨b, 0, none⟩) 4 4 (row 4 (bt 6)) (row_01 (fun i _ => bt_01 6 i)) (by omega) w (Row.of_own h (row_length _ _) (by omega))
    rw [e] at this; exact this
  go_enter Try.func19, Try.ntmps19
  go_wp2_with (first
    | (go_at_call 7; refine (h1.out _).mono ?_; rintro e w2 ⟨rfl, rfl⟩)
    | (go_at_call 9; (with_reducible refine (h2.out _).mono ?_); rintro e w2 ⟨rfl, rfl⟩)
    | (go_at_call 9; (with_reducible refine (h3.out _).mono ?_); rintro e w2 ⟨rfl, rfl⟩)
    | (go_at_call 9; (with_reducible refine (h4.out _).mono ?_); rintro e w2 ⟨rfl, rfl⟩)
    | (go_at_call 22; refine (h8.out _).mono ?_; rintro e w2 ⟨rfl, ho, hb2⟩; have ho := Lib.hid ho)
    | (go_at_call 23; refine (h9.out _ _ ho.out).mono ?_; rintro e w2 ⟨rfl, rfl⟩)
    | (go_at_call 13; refine (h5.out _).mono ?_; rintro e w2 ⟨rfl, rfl⟩)
    | (go_at_call 14; refine (h6.out _).mono ?_; rintro e w2 ⟨rfl, rfl⟩)
    | (go_at_call 15; refine (h7.out _).mono ?_; rintro e w2 ⟨rfl, rfl⟩))
  go_ret
  exact ⟨rfl, hb2⟩
end Go.Proofs.Ytbpiccbjnagodaa
