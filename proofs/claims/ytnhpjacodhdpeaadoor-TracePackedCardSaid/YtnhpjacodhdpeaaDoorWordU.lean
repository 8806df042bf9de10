/-
  Walks over package word: May, Cut and Is alone.
-/
import Derived.Test.YtnhpjacodhdpeaaDoorExt
import Derived.Test.YtnhpjacodhdpeaaDoorWordM
namespace Go.Proofs.YtnhpjacodhdpeaaDoor
open Go.RowKit

set_option maxHeartbeats 400000 in
theorem may_any (B S : Bool) (W : Int) (w : World) :
    Calls Tryd.prog 102 #[.agg #[.bool B, .bool S, .int .i64 W]] w fun e w' => e = .returned (.bool (may B S W)) ∧ Below w.heap.size w w' := by
  go_enter Tryd.func102, Tryd.ntmps102
  go_wp2
  all_goals (go_ret; refine ⟨?_, (Below.refl _ _).alloc (Nat.le_refl _) _⟩; simp [may, *]; try omega)

set_option maxHeartbeats 400000 in
theorem cut_any (B S : Bool) (W n : Int) (w : World) :
    Calls Tryd.prog 90 #[.agg #[.bool B, .bool S, .int .i64 W], .int .u64 n] w fun e w' => e = .returned (.int .u64 (cut B S W n)) ∧ Below w.heap.size w w' := by
  by_cases hm : may B S W = true
  · have hbd := may_bounds hm
    have hfin : Hid (cut B S W n = IntKind.u64.wrap (n * 2 ^ (64 - W).toNat) / 2 ^ (64 - W).toNat) := by show _ = _; rw [shl_shr n W hbd]; unfold cut; rw [if_pos hm]
    go_enter Tryd.func90, Tryd.ntmps90
    go_wp2_with (go_at_call 102; refine (may_any _ _ _ _).mono ?_; rintro e w1 ⟨rfl, hb⟩; obtain ⟨hc, hf⟩ := bcell hb)
    go_ret
    exact ⟨ret_int hfin.out.symm, ((Below.refl _ _).alloc (Nat.le_refl _) _).trans (hb.mono (by simp))⟩
  · simp at hm
    have hfin : Hid (cut B S W n = 0) := by show _ = _; unfold cut; rw [if_neg (by simp [hm])]
    go_enter Tryd.func90, Tryd.ntmps90
    go_wp2_with (go_at_call 102; refine (may_any _ _ _ _).mono ?_; rintro e w1 ⟨rfl, hb⟩; obtain ⟨hc, hf⟩ := bcell hb)
    go_ret
    exact ⟨ret_int hfin.out.symm, ((Below.refl _ _).alloc (Nat.le_refl _) _).trans (hb.mono (by simp))⟩

set_option maxHeartbeats 400000 in
theorem isw_any (B S : Bool) (W n : Int) (w : World) :
    Calls Tryd.prog 101 #[.agg #[.bool B, .bool S, .int .i64 W], .int .u64 n] w fun e w' => e = .returned (.bool (isw B S W n)) ∧ Below w.heap.size w w' := by
  by_cases hm : may B S W = true
  · have hfin : Hid (isw B S W n = (cut B S W n == n)) := by show _ = _; unfold isw; rw [hm]; rfl
    go_enter Tryd.func101, Tryd.ntmps101
    go_wp2_with (first | (go_at_call 102; refine (may_any _ _ _ _).mono ?_; rintro e w1 ⟨rfl, hb⟩; obtain ⟨hc, hf⟩ := bcell hb) | (go_at_call 90; refine (cut_any _ _ _ _ _).mono ?_; rintro e w2 ⟨rfl, hb2⟩))
    go_ret
    exact ⟨ret_bool hfin.out.symm, (((Below.refl _ _).alloc (Nat.le_refl _) _).trans (hb.mono (by simp))).trans (hb2.mono (by have := hb.size; simp at this; omega))⟩
  · simp at hm
    have hfin : Hid (isw B S W n = false) := by show _ = _; unfold isw; rw [hm]; rfl
    go_enter Tryd.func101, Tryd.ntmps101
    go_wp2_with (first | (go_at_call 102; refine (may_any _ _ _ _).mono ?_; rintro e w1 ⟨rfl, hb⟩; obtain ⟨hc, hf⟩ := bcell hb))
    go_ret
    exact ⟨ret_bool hfin.out.symm, ((Below.refl _ _).alloc (Nat.le_refl _) _).trans (hb.mono (by simp))⟩

end Go.Proofs.YtnhpjacodhdpeaaDoor
