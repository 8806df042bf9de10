/-
  The document's own answers (orreryref07): May.
-/
import Derived.Test.YtocfchgkfaogdaaLdA
namespace Go.Proofs.Ytocfchgkfaogdaa
open Go.RowKit Go.Maps
set_option maxRecDepth 100000

set_option maxHeartbeats 4000000 in
theorem rMay_any {w : World} {a : Option Addr} {n : Nat} {N : List (List Int)} (h : RR w a n N) (c : Nat) :
    Calls Try.prog 24 #[.slice a n c] w fun e w' => e = .returned (.bool (mayN N)) ∧ w' = w := by
  have hle := h.le
  have H := Lib.hid h
  have hl := h.len
  clear h
  go_enter Try.func24, Try.ntmps24
  go_wp2
  go_loopw [3, 4] (fun s _ wr => wr = w ∧ ∃ j : Nat, s = .int .i64 j ∧ j ≤ n ∧ Hid (∀ i, i < j → allT n (N.getD i []) = true)) (fun s _ _ => n - (intOf s).toNat)
  case atStart => exact ⟨rfl, 0, rfl, by omega, Lib.hid (fun i hi => by omega)⟩
  case round =>
    obtain ⟨rfl, j, rfl, hj, hK⟩ := hrel
    by_cases hlt : j < n
    · obtain ⟨b, off, rfl, hb, hcell⟩ := H.out.at (by omega)
      obtain ⟨ai, ci, c1, q1, q2, hrow⟩ := hcell j hlt
      have hjn : (j : Int) < n := by omega
      have hrow2 := Lib.hid hrow
      have hq := hrow.le
      have hK2 := Lib.hid (fun (h : allT n (N.getD j []) = true) => (show ∀ i, i < j + 1 → allT n (N.getD i []) = true from fun i hi => by
        by_cases e : i = j
        · rw [e]; exact h
        · exact hK.out i (by omega)))
      have hK3 := Lib.hid (fun (h : allT n (N.getD j []) = false) => (show mayN N = false from all_not (d := []) (i := j) (by omega) (by rw [hl]; exact h)))
      clear hcell hK hrow
      generalize N.getD j [] = l at *
      generalize hk : l.length = k at *
      go_wp2
      go_loopw [4] (fun s wq => wq = wr ∧ ∃ p : Nat, s = .int .i64 p ∧ p ≤ k ∧ Hid (∀ i, i < p → isT n (l.getD i 0) = true)) (fun s _ => k - (intOf s).toNat)
      case atStart => exact ⟨rfl, 0, rfl, by omega, Lib.hid (fun i hi => by omega)⟩
      case round =>
        obtain ⟨rfl, p, rfl, hp, hP⟩ := hrel
        by_cases hpk : p < k
        · obtain ⟨rb, ro, rfl, hrb, hrc⟩ := hrow2.out.at (by omega)
          have c2 := hrc p hpk
          have hpi : (p : Int) < k := by omega
          have hP2 := Lib.hid (fun (h : isT n (l.getD p 0) = true) => (show ∀ i, i < p + 1 → isT n (l.getD i 0) = true from fun i hi => by
            by_cases e : i = p
            · rw [e]; exact h
            · exact hP.out i (by omega)))
          have hP3 := Lib.hid (fun (h : isT n (l.getD p 0) = false) => hK3.out (show allT n l = false from all_not (by omega) h))
          unfold isT at hP2 hP3
          clear hrc hP
          generalize l.getD p 0 = x at *
          by_cases h1 : x < 0
          · have g1 : decide (x < 0) = true := by simpa using h1
            have r := Lib.hid (hP3.out (by simp [g1]))
            clear hP2 hP3 h1
            go_wp2
            go_ret
            exact ⟨ret_bool r.out.symm, rfl⟩
          · have g1 : decide (x < 0) = false := by simpa using h1
            by_cases h2 : (n : Int) ≤ x
            · have g2 : decide ((n : Int) ≤ x) = true := by simpa using h2
              have r := Lib.hid (hP3.out (by simp [g2]))
              clear hP2 hP3 h1 h2
              go_wp2
              go_ret
              exact ⟨ret_bool r.out.symm, rfl⟩
            · have g2 : decide ((n : Int) ≤ x) = false := by simpa using h2
              have r := Lib.hid (hP2.out (by simp [g1, g2]))
              clear hP2 hP3 h1 h2
              go_wp2
              exact ⟨⟨trivial, p + 1, by go_num, by omega, r⟩, by simp [intOf]; omega⟩
        · obtain rfl : p = k := by omega
          have r := Lib.hid (hK2.out (show allT n l = true from all_upto (fun i hi => hP.out i (by omega))))
          clear hK2 hK3 hP
          go_wp2
          exact ⟨⟨trivial, j + 1, by go_num, by omega, r⟩, by simp [intOf]; omega⟩
    · obtain rfl : j = n := by omega
      have r := Lib.hid (show mayN N = true from all_upto (d := []) (fun i hi => by rw [hl]; exact hK.out i (by omega)))
      go_wp2
      go_ret
      exact ⟨ret_bool r.out.symm, rfl⟩
end Go.Proofs.Ytocfchgkfaogdaa
