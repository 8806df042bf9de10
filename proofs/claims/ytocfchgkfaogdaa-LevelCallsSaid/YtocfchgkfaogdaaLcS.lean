/-
  LevelCalls: same.
-/
import Derived.Test.YtocfchgkfaogdaaLcF
namespace Go.Proofs.Ytocfchgkfaogdaa
open Go.RowKit Go.Maps
set_option maxRecDepth 100000

theorem same1_any {w : World} {a b : Option Addr} {n : Nat} {l : List Int} (ha : Row .i64 w a n l) (hb : Row .i64 w b n l) (c d : Nat) :
    Calls Try.prog 39 #[.slice a n c, .slice b n d] w fun e w' => e = .returned (.bool true) ∧ Below w.heap.size w w' := by
  have hE0 := equal_any ha hb c d
  rw [show decide (l = l) = true by simp] at hE0
  have hE := Lib.hid hE0
  clear ha hb hE0
  go_enter Try.func39, Try.ntmps39
  go_wp2_with (go_at_call 18; (with_reducible refine hE.out.mono ?_); rintro e w2 ⟨rfl, hb2⟩)
  go_ret
  exact ⟨rfl, hb2⟩
set_option maxHeartbeats 2000000 in
theorem equalFunc_any {w : World} {a b : Option Addr} {n : Nat} {N : List (List Int)} (ha : RR w a n N) (hb : RR w b n N) (c d : Nat) :
    Calls Try.prog 38 #[.slice a n c, .slice b n d, .func (.func 39) #[] #[]] w fun e w' => e = .returned (.bool true) ∧ Below w.heap.size w w' := by
  have hle := ha.le
  have HA := Lib.hid ha
  have HB := Lib.hid hb
  have hne : ((n : Int) != (n : Int)) = false := by simp
  clear ha hb
  go_enter Try.func38, Try.ntmps38
  go_wp2
  go_loopw [17] (fun s wr => ∃ j : Nat, s = .int .i64 j ∧ j ≤ n ∧ Hid (Below w.heap.size w wr)) (fun s _ => n - (RowKit.intOf s).toNat)
  case atStart => exact ⟨0, rfl, by omega, Lib.hid (Below.refl _ _)⟩
  case round =>
    obtain ⟨j, rfl, hj, hB⟩ := hrel
    by_cases hlt : j < n
    · obtain ⟨b1, o1, rfl, hb1, hc1⟩ := HA.out.at (by omega)
      obtain ⟨b2, o2, rfl, hb2, hc2⟩ := HB.out.at (by omega)
      obtain ⟨a1, k1, d1, x1, x2, r1⟩ := hc1 j hlt
      obtain ⟨a2, k2, d2, y1, y2, r2⟩ := hc2 j hlt
      have e1 := stepc hB.out hb1 d1
      have e2 := stepc hB.out hb2 d2
      have hjn : (j : Int) < n := by omega
      have hs := Lib.hid (same1_any (r1.step hB.out) (r2.step hB.out) k1 k2)
      generalize (N.getD j []).length = q at *
      clear hc1 hc2 d1 d2 r1 r2
      go_wp2_with (go_at_call 39; (with_reducible refine hs.out.mono ?_); rintro e w2 ⟨rfl, hb2⟩)
      exact ⟨⟨j + 1, by go_num, by omega, Lib.hid (nextw hB.out hb2)⟩, by simp [RowKit.intOf]; omega⟩
    · obtain rfl : j = n := by omega
      go_wp2
      go_ret
      exact ⟨rfl, hB.out⟩
theorem same_any {w : World} {a b : Option Addr} {n : Nat} {N : List (List Int)} (ha : RR w a n N) (hb : RR w b n N) (c d : Nat) :
    Calls Try.prog 20 #[.slice a n c, .slice b n d] w fun e w' => e = .returned (.bool true) ∧ Below w.heap.size w w' := by
  have hE := Lib.hid (equalFunc_any ha hb c d)
  clear ha hb
  go_enter Try.func20, Try.ntmps20
  go_wp2_with (go_at_call 38; (with_reducible refine hE.out.mono ?_); rintro e w2 ⟨rfl, hb2⟩)
  go_ret
  exact ⟨rfl, hb2⟩
end Go.Proofs.Ytocfchgkfaogdaa
