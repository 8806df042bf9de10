/-
  Things and needs: rows of rows of numbers; what may be.
-/
import Derived.Test.YtocfchgkfaogdaaLvR
namespace Go.Proofs.Ytocfchgkfaogdaa
open Go.RowKit
set_option maxRecDepth 100000

/-- A row of rows of numbers, as a contract names it. -/
def RR (w : World) (a : Option Addr) (n : Nat) (N : List (List Int)) : Prop :=
  N.length = n ∧ n ≤ 9223372036854775807 ∧ (n = 0 ∨ ∃ b off, a = some ⟨b, off, none⟩ ∧ b < w.heap.size ∧ ∀ i, i < n → ∃ ai ci, w.cell? ⟨b, off + i, none⟩ = some (.slice ai (N.getD i []).length ci) ∧ (N.getD i []).length ≤ ci ∧ ci ≤ 9223372036854775807 ∧ Row .i64 w ai (N.getD i []).length (N.getD i []))
theorem RR.len {w : World} {a : Option Addr} {n : Nat} {N : List (List Int)} (h : RR w a n N) : N.length = n := h.1
theorem RR.le {w : World} {a : Option Addr} {n : Nat} {N : List (List Int)} (h : RR w a n N) : n ≤ 9223372036854775807 := h.2.1
theorem RR.step {W w1 : World} {a : Option Addr} {n : Nat} {N : List (List Int)} (h : RR W a n N) (hb : Below W.heap.size W w1) : RR w1 a n N := by
  refine ⟨h.1, h.2.1, ?_⟩
  rcases h.2.2 with h0 | ⟨b, off, rfl, hlt, hc⟩
  · exact .inl h0
  · exact .inr ⟨b, off, rfl, Nat.lt_of_lt_of_le hlt hb.size, fun i hi => by obtain ⟨ai, ci, h1, h2, h3, h4⟩ := hc i hi; exact ⟨ai, ci, stepc hb hlt h1, h2, h3, h4.step hb⟩⟩
theorem RR.at {w : World} {a : Option Addr} {n : Nat} {N : List (List Int)} (h : RR w a n N) (hn : 0 < n) : ∃ b off, a = some ⟨b, off, none⟩ ∧ b < w.heap.size ∧ ∀ i, i < n → ∃ ai ci, w.cell? ⟨b, off + i, none⟩ = some (.slice ai (N.getD i []).length ci) ∧ (N.getD i []).length ≤ ci ∧ ci ≤ 9223372036854775807 ∧ Row .i64 w ai (N.getD i []).length (N.getD i []) := by
  rcases h.2.2 with h0 | h1
  · omega
  · exact h1
theorem RR.nil (w : World) (a : Option Addr) : RR w a 0 [] := ⟨rfl, by omega, .inl rfl⟩

def isT (m : Nat) (x : Int) : Bool := !(decide (x < 0)) && !(decide ((m : Int) ≤ x))
def allT (m : Nat) (l : List Int) : Bool := l.all (isT m)
def mayN (N : List (List Int)) : Bool := N.all (allT N.length)
theorem all_upto {α : Type} {p : α → Bool} {l : List α} {d : α} (h : ∀ i, i < l.length → p (l.getD i d) = true) : l.all p = true := by
  rw [List.all_eq_true]
  intro x hx
  obtain ⟨i, hi, rfl⟩ := List.getElem_of_mem hx
  have := h i hi
  simpa [List.getD, hi] using this
theorem all_not {α : Type} {p : α → Bool} {l : List α} {d : α} {i : Nat} (hi : i < l.length) (h : p (l.getD i d) = false) : l.all p = false := by
  rw [List.all_eq_false]
  exact ⟨l.getD i d, by simp [List.getD, hi], by simpa using h⟩

set_option maxHeartbeats 2000000 in
theorem areThings_any {w : World} {a : Option Addr} {n : Nat} {l : List Int} (h : Row .i64 w a n l) (c m : Nat) :
    Calls Try.prog 37 #[.int .i64 m, .slice a n c] w fun e w' => e = .returned (.bool (allT m l)) ∧ w' = w := by
  have hle := h.le
  have H := Lib.hid h
  have hl := h.len
  clear h
  go_enter Try.func37, Try.ntmps37
  go_wp2
  go_loopw [9] (fun s wr => wr = w ∧ ∃ j : Nat, s = .int .i64 j ∧ j ≤ n ∧ Hid (∀ i, i < j → isT m (l.getD i 0) = true)) (fun s _ => n - (intOf s).toNat)
  case atStart => exact ⟨rfl, 0, rfl, by omega, Lib.hid (fun i hi => by omega)⟩
  case round =>
    obtain ⟨rfl, j, rfl, hj, hK⟩ := hrel
    by_cases hlt : j < n
    · obtain ⟨b, off, rfl, hb, hcell⟩ := H.out.at (by omega)
      have c1 := hcell j hlt
      have hjn : (j : Int) < n := by omega
      have hK2 := Lib.hid (fun (h : isT m (l.getD j 0) = true) => (show ∀ i, i < j + 1 → isT m (l.getD i 0) = true from fun i hi => by
        by_cases e : i = j
        · rw [e]; exact h
        · exact hK.out i (by omega)))
      have hK3 := Lib.hid (fun (h : isT m (l.getD j 0) = false) => (show allT m l = false from all_not (by omega) h))
      unfold isT at hK2 hK3
      clear hcell hK
      generalize l.getD j 0 = x at *
      by_cases h1 : x < 0
      · have g1 : decide (x < 0) = true := by simpa using h1
        have r := Lib.hid (hK3.out (by simp [g1]))
        clear hK2 hK3 h1
        go_wp2
        go_ret
        exact ⟨ret_bool r.out.symm, rfl⟩
      · have g1 : decide (x < 0) = false := by simpa using h1
        by_cases h2 : (m : Int) ≤ x
        · have g2 : decide ((m : Int) ≤ x) = true := by simpa using h2
          have r := Lib.hid (hK3.out (by simp [g2]))
          clear hK2 hK3 h1 h2
          go_wp2
          go_ret
          exact ⟨ret_bool r.out.symm, rfl⟩
        · have g2 : decide ((m : Int) ≤ x) = false := by simpa using h2
          have r := Lib.hid (hK2.out (by simp [g1, g2]))
          clear hK2 hK3 h1 h2
          go_wp2
          exact ⟨⟨trivial, j + 1, by go_num, by omega, r⟩, by simp [intOf]; omega⟩
    · obtain rfl : j = n := by omega
      have r := Lib.hid (show allT m l = true from all_upto (fun i hi => hK.out i (by omega)))
      go_wp2
      go_ret
      exact ⟨ret_bool r.out.symm, rfl⟩

set_option maxHeartbeats 2000000 in
theorem May_any {w : World} {a : Option Addr} {n : Nat} {N : List (List Int)} (h : RR w a n N) (c : Nat) :
    Calls Try.prog 23 #[.slice a n c] w fun e w' => e = .returned (.bool (mayN N)) ∧ w' = w := by
  have hle := h.le
  have H := Lib.hid h
  have hl := h.len
  clear h
  go_enter Try.func23, Try.ntmps23
  go_wp2
  go_loopw [7] (fun s wr => wr = w ∧ ∃ j : Nat, s = .int .i64 j ∧ j ≤ n ∧ Hid (∀ i, i < j → allT n (N.getD i []) = true)) (fun s _ => n - (intOf s).toNat)
  case atStart => exact ⟨rfl, 0, rfl, by omega, Lib.hid (fun i hi => by omega)⟩
  case round =>
    obtain ⟨rfl, j, rfl, hj, hK⟩ := hrel
    by_cases hlt : j < n
    · obtain ⟨b, off, rfl, hb, hcell⟩ := H.out.at (by omega)
      obtain ⟨ai, ci, c1, q1, q2, hrow⟩ := hcell j hlt
      have hjn : (j : Int) < n := by omega
      have hA := Lib.hid (areThings_any hrow ci n)
      have hK2 := Lib.hid (fun (h : allT n (N.getD j []) = true) => (show ∀ i, i < j + 1 → allT n (N.getD i []) = true from fun i hi => by
        by_cases e : i = j
        · rw [e]; exact h
        · exact hK.out i (by omega)))
      have hK3 := Lib.hid (fun (h : allT n (N.getD j []) = false) => (show mayN N = false from all_not (d := []) (i := j) (by omega) (by rw [hl]; exact h)))
      clear hcell hK hrow
      generalize (N.getD j []).length = k at *
      rcases (show allT n (N.getD j []) = true ∨ allT n (N.getD j []) = false by cases allT n (N.getD j []) <;> simp) with e | e
      · rw [e] at hA
        have r := Lib.hid (hK2.out e)
        clear hK2 hK3 e
        go_wp2_with (go_at_call 37; (with_reducible refine hA.out.mono ?_); rintro e w5 ⟨rfl, rfl⟩)
        exact ⟨⟨trivial, j + 1, by go_num, by omega, r⟩, by simp [intOf]; omega⟩
      · rw [e] at hA
        have r := Lib.hid (hK3.out e)
        clear hK2 hK3 e
        go_wp2_with (go_at_call 37; (with_reducible refine hA.out.mono ?_); rintro e w5 ⟨rfl, rfl⟩)
        go_ret
        exact ⟨ret_bool r.out.symm, rfl⟩
    · obtain rfl : j = n := by omega
      have r := Lib.hid (show mayN N = true from all_upto (d := []) (fun i hi => by rw [hl]; exact hK.out i (by omega)))
      go_wp2
      go_ret
      exact ⟨ret_bool r.out.symm, rfl⟩
end Go.Proofs.Ytocfchgkfaogdaa
