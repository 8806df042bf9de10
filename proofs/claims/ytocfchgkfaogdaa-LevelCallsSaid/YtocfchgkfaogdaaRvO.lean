/-
  The document's own answers (orreryref07): Order, Depth.
-/
import Derived.Test.YtocfchgkfaogdaaRvT
namespace Go.Proofs.Ytocfchgkfaogdaa
open Go.RowKit Go.Maps
set_option maxRecDepth 100000

set_option maxHeartbeats 4000000 in
theorem rOrder_any {w : World} {a : Option Addr} {n : Nat} {N : List (List Int)} (h : RR w a n N) (hn : n ≤ 1000) (hr : ∀ i, (N.getD i []).length ≤ 1000) (c : Nat) :
    Calls Try.prog 11 #[.slice a n c] w fun e w' => ∃ (va : Option Addr) (ca : Nat), e = .returned (.tuple #[.slice va (ordL N).length ca, .int .i64 (ordE N)]) ∧
      w'.ownsRow w.heap.size 3 1 (.slice va (ordL N).length ca) (ordL N).length (ints (ordL N)) ∧ Below w.heap.size w w' := by
  have hmay := Lib.hid (rMay_any h c)
  have hl := h.len
  by_cases hm : mayN N = true
  · have ht := Lib.hid (rtold_any h hn hr hm c)
    rw [hm] at hmay
    have hle := (told_tld N).len
    by_cases hq : (told N).length = N.length
    · have hE : ordE N = 0 := by simp [ordE, hm, hq]
      have hL : ordL N = iz (told N) := by simp [ordL, hE]
      have hql : (told N).length = n := hq.trans hl
      rw [hE, hL, iz_len, hql]
      rw [hql] at ht
      have hnn : ¬ (n : Int) < n := by omega
      clear h hm hr hE hL hq
      go_enter Try.func11, Try.ntmps11
      go_wp2_with (first
        | (go_at_call 24; (with_reducible refine hmay.out.mono ?_); rintro e w5 ⟨rfl, hw5⟩; obtain rfl : w = w5 := hw5.symm)
        | (go_at_call 32; (with_reducible refine ht.out.mono ?_); rintro e w6 ⟨va, ca, R, rfl, hRM, -⟩; have hRM := Lib.hid hRM))
      go_ret2
      exact ⟨va, ca, rfl, by have := hRM.out.stk; rw [iz_len, hql] at this; exact this, hRM.out.low⟩
    · have hE : ordE N = 35 := by simp [ordE, hm, hq]
      have hL : ordL N = [] := by simp [ordL, hE]
      rw [hE, hL]
      generalize (told N).length = m at *
      have hnn : (m : Int) < n := by omega
      clear h hm hr hE hL hq
      go_enter Try.func11, Try.ntmps11
      go_wp2_with (first
        | (go_at_call 24; (with_reducible refine hmay.out.mono ?_); rintro e w5 ⟨rfl, hw5⟩; obtain rfl : w = w5 := hw5.symm)
        | (go_at_call 32; (with_reducible refine ht.out.mono ?_); rintro e w6 ⟨va, ca, R, rfl, hRM, -⟩; have hRM := Lib.hid hRM))
      go_ret2
      exact ⟨none, 0, rfl, own_nil _ _ _, hRM.out.low⟩
  · have hm' : mayN N = false := by simpa using hm
    have hE : ordE N = 1 := by simp [ordE, hm']
    have hL : ordL N = [] := by simp [ordL, hE]
    rw [hE, hL]
    rw [hm'] at hmay
    clear h hm hr hE hL hm'
    go_enter Try.func11, Try.ntmps11
    go_wp2_with (go_at_call 24; (with_reducible refine hmay.out.mono ?_); rintro e w5 ⟨rfl, hw5⟩; obtain rfl : w = w5 := hw5.symm)
    go_ret2
    exact ⟨none, 0, rfl, own_nil _ _ _, Below.refl _ _⟩
end Go.Proofs.Ytocfchgkfaogdaa
