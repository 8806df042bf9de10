/-
  Package lanes: mayHave, isLane.
-/
import Derived.Test.YtgbhhmmllbanlaaLanM
import Derived.Test.YtgbhhmmllbanlaaWordU
import Derived.Test.YtgbhhmmllbanlaaSqV
namespace Go.Proofs.Ytgbhhmmllbanlaa
open Go.RowKit
set_option maxRecDepth 100000

theorem isLane_any (x : Int) (w : World) :
    Calls Try.prog 31 #[.int .i64 x] w fun e w' => e = .returned (.bool (decide (0 ≤ x) && decide (x < 64))) ∧ w = w' := by
  go_enter Try.func31, Try.ntmps31
  go_wp2
  all_goals go_ret
  all_goals (refine ⟨?_, rfl⟩; simp [*]; try omega)

set_option maxHeartbeats 1000000 in
theorem mayHave_any {w : World} {a : Option Addr} {n c : Nat} {f : Nat → Nat} (W : Int) (hs : WRow w a n f) :
    Calls Try.prog 29 #[.int .i64 W, .slice a n c] w fun e w' => e = .returned (.bool (mayH W n f)) ∧ Below w.heap.size w w' := by
  have HS := Lib.hid hs
  have hle := hs.1
  have hno := Lib.hid (fun j (hj : j < n) => mayH_no (W := W) (f := f) hj)
  have hyes := Lib.hid (mayH_yes (W := W) (n := n) (f := f))
  clear hs
  go_enter Try.func29, Try.ntmps29
  go_wp2
  go_loopw [12] (fun s wr => ∃ j : Nat, j ≤ n ∧ s = .int .i64 j ∧ Hid (∀ i, i < j → isw false false W (f i : Nat) = true) ∧ Below w.heap.size w wr ∧ w.heap.size + 1 ≤ wr.heap.size ∧ wr.cell? ⟨w.heap.size, 0, none⟩ = some (.bool false) ∧ wr.cell? ⟨w.heap.size, 1, none⟩ = some (.bool false) ∧ wr.cell? ⟨w.heap.size, 2, none⟩ = some (.int .i64 W)) (fun s _ => n - (intOf s).toNat)
  case atStart =>
    obtain ⟨hB, hz, c0, c1, c2⟩ := box3 (w := w) (x := .bool false) (y := .bool false) (z := .int .i64 W) (T := 63) (Below.refl _ _)
    exact ⟨0, by omega, rfl, Lib.hid (fun i hi => by omega), hB, hz, c0, c1, c2⟩
  case round =>
    obtain ⟨j, hj, rfl, hall, hB, hz, c0, c1, c2⟩ := hrel
    by_cases hlt : j < n
    · obtain ⟨b, off, rfl, hb, hcell⟩ := HS.out.at (by omega)
      have cj := stepc hB hb (hcell j hlt)
      have hjn : (j : Int) < n := by omega
      have his := Lib.hid (isw_any false false W (f j : Nat))
      have hno' := Lib.hid (hno.out j hlt)
      have hnext : Hid (isw false false W (f j : Nat) = true → ∀ i, i < j + 1 → isw false false W (f i : Nat) = true) := Lib.hid (fun h i hi => by
        by_cases e : i = j
        · rw [e]; exact h
        · exact hall.out i (by omega))
      clear hno hyes hcell HS hall
      generalize isw false false W (f j : Nat) = B at *
      cases B
      · go_wp2_with (go_at_call 33; (with_reducible refine (his.out _).mono ?_); rintro e w2 ⟨rfl, hb2⟩; have hn := step3 hB hz (by omega) c0 c1 c2 hb2; clear hB hz c0 c1 c2 hb2; obtain ⟨hB, hz, c0, c1, c2⟩ := hn)
        go_ret
        exact ⟨ret_bool (hno'.out (by trivial)).symm, hB⟩
      · go_wp2_with (go_at_call 33; (with_reducible refine (his.out _).mono ?_); rintro e w2 ⟨rfl, hb2⟩; have hn := step3 hB hz (by omega) c0 c1 c2 hb2; clear hB hz c0 c1 c2 hb2; obtain ⟨hB, hz, c0, c1, c2⟩ := hn)
        exact ⟨⟨j + 1, by omega, by go_num, Lib.hid (hnext.out (by trivial)), hB, hz, c0, c1, c2⟩, by simp [intOf]; omega⟩
    · obtain rfl : j = n := by omega
      have hm := Lib.hid (may_any false false W)
      have hfin := Lib.hid (hyes.out hall.out)
      clear hno hyes HS hall
      go_wp2_with (go_at_call 34; (with_reducible refine (hm.out _).mono ?_); rintro e w2 ⟨rfl, hb2⟩; have hn := step3 hB hz (by omega) c0 c1 c2 hb2; clear hB hz c0 c1 c2 hb2; obtain ⟨hB, hz, c0, c1, c2⟩ := hn)
      go_ret
      exact ⟨ret_bool hfin.out.symm, hB⟩
end Go.Proofs.Ytgbhhmmllbanlaa
