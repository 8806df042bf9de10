/-
  LevelKnown: the walk.
-/
import Derived.Test.YtocfchgkfaogdaaLkV
namespace Go.Proofs.Ytocfchgkfaogdaa
open Go.RowKit Go.Maps
set_option maxRecDepth 100000

set_option maxHeartbeats 8000000 in
theorem known_any (w : World) : Calls Try.prog 7 #[] w fun e w' => e = .returned (.bool true) ∧ Below w.heap.size w w' := by
  have hB := Lib.hid (Below.refl w.heap.size w)
  have k1 := Lib.hid kn1
  have k2 := Lib.hid kn2
  have k3 := Lib.hid kn3
  have k4 := Lib.hid kn4
  have k5 := Lib.hid kn5
  have k6 := Lib.hid kn6
  have k7 := Lib.hid kn7
  have k8 := Lib.hid kn8
  have k9 := Lib.hid kn9
  have k10 := Lib.hid kn10
  have k11 := Lib.hid kn11
  have k12 := Lib.hid kn12
  go_enter Try.func7, Try.ntmps7
  go_wp2_with (first
    | (go_at_call 10; (with_reducible refine (k1.out _).mono ?_); rintro e w1 ⟨a1, q1, rfl, h1, hb⟩; have hB1 := Lib.hid (nextw hB.out hb); clear hb h1 k1)
    | (go_at_call 12; (with_reducible refine (k2.out _).mono ?_); rintro e w2 ⟨a2, q2, rfl, h2, hb⟩; have hB2 := Lib.hid (nextw hB1.out hb); clear hb h2 k2)
    | (go_at_call 14; (with_reducible refine (k3.out _).mono ?_); rintro e w3 ⟨a3, q3, rfl, h3, hb⟩; have hB3 := Lib.hid (nextw hB2.out hb); clear hb h3 k3)
    | (go_at_call 16; (with_reducible refine (k4.out _).mono ?_); rintro e w4 ⟨a4, q4, rfl, h4, hb⟩; have hB4 := Lib.hid (nextw hB3.out hb); clear hb h4 k4)
    | (go_at_call 16; (with_reducible refine (k5.out _).mono ?_); rintro e w5 ⟨a5, q5, rfl, h5, hb⟩; have hB5 := Lib.hid (nextw hB4.out hb); clear hb h5 k5)
    | (go_at_call 10; (with_reducible refine (k6.out _).mono ?_); rintro e w6 ⟨a6, q6, rfl, hb⟩; have hB6 := Lib.hid (nextw hB5.out hb); clear hb k6)
    | (go_at_call 10; (with_reducible refine (k7.out _).mono ?_); rintro e w7 ⟨a7, q7, rfl, h7, hb⟩; have H7 := Lib.hid h7; have hB7 := Lib.hid (nextw hB6.out hb); clear hb h7 k7)
    | (go_at_call 14; (with_reducible refine (k8.out _).mono ?_); rintro e w8 ⟨a8, q8, rfl, h8, hb⟩; have H8 := Lib.hid h8; have H7b := Lib.hid (H7.out.step (Below.mono hb (Nat.le_refl _))); have hB8 := Lib.hid (nextw hB7.out hb); clear hb h8 k8)
    | (go_at_call 16; (with_reducible refine (k9.out _).mono ?_); rintro e w9 ⟨a9, q9, rfl, h9, hb⟩; have H9 := Lib.hid h9; have H7c := Lib.hid (H7b.out.step hb); have H8c := Lib.hid (H8.out.step hb); have hB9 := Lib.hid (nextw hB8.out hb); clear hb h9 k9)
    | (go_at_call 18; (with_reducible refine (wkE H7c.out 1 0 2 (b := true) (by decide)).mono ?_); rintro e w10 ⟨rfl, hb⟩; have H8d := Lib.hid (H8c.out.step hb); have H9d := Lib.hid (H9.out.step hb); have hB10 := Lib.hid (nextw hB9.out hb); clear hb)
    | (go_at_call 18; (with_reducible refine (wkF H8d.out 1 3 (b := true) (by decide)).mono ?_); rintro e w11 ⟨rfl, hb⟩; have H9e := Lib.hid (H9d.out.step hb); have hB11 := Lib.hid (nextw hB10.out hb); clear hb)
    | (go_at_call 19; (with_reducible refine (kn13 H9e.out false true true true false (b := true) (by decide)).mono ?_); rintro e w12 ⟨rfl, hb⟩; have hB12 := Lib.hid (nextw hB11.out hb); clear hb)
    | (go_at_call 23; (with_reducible refine (k10.out _).mono ?_); rintro e w13 ⟨rfl, hb⟩; have hB13 := Lib.hid (nextw hB12.out hb); clear hb k10)
    | (go_at_call 23; (with_reducible refine (k11.out _).mono ?_); rintro e w14 ⟨rfl, hb⟩; have hB14 := Lib.hid (nextw hB13.out hb); clear hb k11)
    | (go_at_call 21; (with_reducible refine (k12.out _).mono ?_); rintro e w15 ⟨a15, q15, rfl, hb⟩; have hB15 := Lib.hid (nextw hB14.out hb); clear hb k12)
    | (go_at_call 25; (with_reducible refine (wakes_any _).mono ?_); rintro e w16 ⟨rfl, hb⟩; have hB16 := Lib.hid (nextw hB15.out hb); clear hb))
  go_ret
  exact ⟨rfl, hB16.out⟩
end Go.Proofs.Ytocfchgkfaogdaa
