/-
  wakes: what the document's examples say.
-/
import Derived.Test.YtocfchgkfaogdaaLvV
namespace Go.Proofs.Ytocfchgkfaogdaa
open Go.RowKit Go.Maps
set_option maxRecDepth 100000

theorem wk1 (w : World) : Calls Try.prog 10 #[.slice (some ⟨w.heap.size + 1 + 1, 0, none⟩) 3 3] (((w.alloc (.cells #[.int .i64 2] 3)).alloc (.cells #[.int .i64 1] 3)).alloc (.cells #[.slice (some ⟨w.heap.size, 0, none⟩) 1 1, .slice none 0 0, .slice (some ⟨w.heap.size + 1, 0, none⟩) 1 1] 23)) fun e w' => ∃ (va : Option Addr) (ca : Nat), e = .returned (.tuple #[.slice va 3 ca, .int .i64 0]) ∧ Row .i64 w' va 3 [1, 2, 0] ∧ Below w.heap.size w w' :=
  order_lit w [[2], [], [1]] (E := 0) (L := [1, 2, 0]) (by decide) (by decide) (by decide)
theorem wk2 (w : World) : Calls Try.prog 12 #[.slice (some ⟨w.heap.size + 1 + 1, 0, none⟩) 3 3] (((w.alloc (.cells #[.int .i64 2] 3)).alloc (.cells #[.int .i64 1] 3)).alloc (.cells #[.slice (some ⟨w.heap.size, 0, none⟩) 1 1, .slice none 0 0, .slice (some ⟨w.heap.size + 1, 0, none⟩) 1 1] 23)) fun e w' => ∃ (va : Option Addr) (ca : Nat), e = .returned (.tuple #[.slice va 3 ca, .int .i64 0]) ∧ Row .i64 w' va 3 [2, 0, 1] ∧ Below w.heap.size w w' :=
  depth_lit w [[2], [], [1]] (E := 0) (L := [2, 0, 1]) (by decide) (by decide) (by decide)
theorem wk3 (w : World) : Calls Try.prog 10 #[.slice (some ⟨w.heap.size + 1 + 1, 0, none⟩) 3 3] (((w.alloc (.cells #[.int .i64 1] 3)).alloc (.cells #[.int .i64 2, .int .i64 0] 3)).alloc (.cells #[.slice (some ⟨w.heap.size, 0, none⟩) 1 1, .slice (some ⟨w.heap.size + 1, 0, none⟩) 2 2, .slice none 0 0] 23)) fun e w' => ∃ (va : Option Addr) (ca : Nat), e = .returned (.tuple #[.slice va 0 ca, .int .i64 35]) ∧ Row .i64 w' va 0 [] ∧ Below w.heap.size w w' :=
  order_lit w [[1], [2, 0], []] (E := 35) (L := []) (by decide) (by decide) (by decide)
theorem wk4 (w : World) : Calls Try.prog 14 #[.slice (some ⟨w.heap.size + 1 + 1, 0, none⟩) 3 3] (((w.alloc (.cells #[.int .i64 1] 3)).alloc (.cells #[.int .i64 2, .int .i64 0] 3)).alloc (.cells #[.slice (some ⟨w.heap.size, 0, none⟩) 1 1, .slice (some ⟨w.heap.size + 1, 0, none⟩) 2 2, .slice none 0 0] 23)) fun e w' => ∃ (va : Option Addr) (ca : Nat), e = .returned (.tuple #[.slice va 2 ca, .bool true]) ∧ Row .i64 w' va 2 [0, 1] ∧ Below w.heap.size w w' :=
  round_lit w [[1], [2, 0], []] (L := [0, 1]) (b := true) (by decide) (by decide) (by decide)
theorem wk5 (w : World) : Calls Try.prog 14 #[.slice (some ⟨w.heap.size + 1, 0, none⟩) 1 1] ((w.alloc (.cells #[.int .i64 0] 3)).alloc (.cells #[.slice (some ⟨w.heap.size, 0, none⟩) 1 1] 23)) fun e w' => ∃ (va : Option Addr) (ca : Nat), e = .returned (.tuple #[.slice va 1 ca, .bool true]) ∧ Row .i64 w' va 1 [0] ∧ Below w.heap.size w w' :=
  round_lit w [[0]] (L := [0]) (b := true) (by decide) (by decide) (by decide)

theorem wkE {w : World} {a : Option Addr} {n c : Nat} {l : List Int} (ha : Row .i64 w a n l) (x y z : Int) {b : Bool} (hb : decide (l = [x, y, z]) = b) : Calls Try.prog 18 #[.slice a n c, .slice (some ⟨w.heap.size, 0, none⟩) 3 3] (w.alloc (.cells #[.int .i64 x, .int .i64 y, .int .i64 z] 3)) fun e w' => e = .returned (.bool b) ∧ Below w.heap.size w w' :=
  equal_lit ha c [x, y, z] rfl hb
theorem wkF {w : World} {a : Option Addr} {n c : Nat} {l : List Int} (ha : Row .i64 w a n l) (x y : Int) {b : Bool} (hb : decide (l = [x, y]) = b) : Calls Try.prog 18 #[.slice a n c, .slice (some ⟨w.heap.size, 0, none⟩) 2 2] (w.alloc (.cells #[.int .i64 x, .int .i64 y] 3)) fun e w' => e = .returned (.bool b) ∧ Below w.heap.size w w' :=
  equal_lit ha c [x, y] rfl hb
theorem wkG {w : World} {a : Option Addr} {n c : Nat} {l : List Int} (ha : Row .i64 w a n l) (x : Int) {b : Bool} (hb : decide (l = [x]) = b) : Calls Try.prog 18 #[.slice a n c, .slice (some ⟨w.heap.size, 0, none⟩) 1 1] (w.alloc (.cells #[.int .i64 x] 3)) fun e w' => e = .returned (.bool b) ∧ Below w.heap.size w w' :=
  equal_lit ha c [x] rfl hb
theorem wkL {w : World} {a : Option Addr} (ha : Row .i64 w a 3 [2, 0, 1]) (c : Nat) : Calls Try.prog 21 #[.slice a 3 c] w fun e w' => ∃ (va : Option Addr) (ca : Nat), e = .returned (.slice va 3 ca) ∧ Below w.heap.size w w' :=
  (Layers_any ha (by omega) (by decide) c).mono (fun e w' ⟨va, ca, he, _, _, _, hb⟩ => ⟨va, ca, by rw [he, show (layL [2, 0, 1]).length = 3 by decide], hb⟩)

set_option maxHeartbeats 4000000 in
theorem wakes_any (w : World) : Calls Try.prog 25 #[] w fun e w' => e = .returned (.bool true) ∧ Below w.heap.size w w' := by
  have hB := Lib.hid (Below.refl w.heap.size w)
  have k1 := Lib.hid wk1
  have k2 := Lib.hid wk2
  have k3 := Lib.hid wk3
  have k4 := Lib.hid wk4
  have k5 := Lib.hid wk5
  go_enter Try.func25, Try.ntmps25
  go_wp2_with (first
    | (go_at_call 10; (with_reducible refine (k1.out _).mono ?_); rintro e w1 ⟨a1, q1, rfl, h1, hb⟩; have H1 := Lib.hid h1; have hB1 := Lib.hid (nextw hB.out hb); clear hb h1 k1)
    | (go_at_call 12; (with_reducible refine (k2.out _).mono ?_); rintro e w2 ⟨a2, q2, rfl, h2, hb⟩; have H1b := Lib.hid (H1.out.step hb); have H2 := Lib.hid h2; have hB2 := Lib.hid (nextw hB1.out hb); clear hb h2 k2)
    | (go_at_call 10; (with_reducible refine (k3.out _).mono ?_); rintro e w3 ⟨a3, q3, rfl, h3, hb⟩; have H1c := Lib.hid (H1b.out.step hb); have H2c := Lib.hid (H2.out.step hb); have hB3 := Lib.hid (nextw hB2.out hb); clear hb h3 k3)
    | (go_at_call 14; (with_reducible refine (k4.out _).mono ?_); rintro e w4 ⟨a4, q4, rfl, h4, hb⟩; have H1d := Lib.hid (H1c.out.step hb); have H2d := Lib.hid (H2c.out.step hb); have H4 := Lib.hid h4; have hB4 := Lib.hid (nextw hB3.out hb); clear hb h4 k4)
    | (go_at_call 14; (with_reducible refine (k5.out _).mono ?_); rintro e w5 ⟨a5, q5, rfl, h5, hb⟩; have H1e := Lib.hid (H1d.out.step hb); have H2e := Lib.hid (H2d.out.step hb); have H4e := Lib.hid (H4.out.step hb); have H5 := Lib.hid h5; have hB5 := Lib.hid (nextw hB4.out hb); clear hb h5 k5)
    | (go_at_call 18; (with_reducible refine (wkE H1e.out 1 2 0 (b := true) (by decide)).mono ?_); rintro e w6 ⟨rfl, hb⟩; have H2f := Lib.hid (H2e.out.step hb); have H4f := Lib.hid (H4e.out.step hb); have H5f := Lib.hid (H5.out.step hb); have hB6 := Lib.hid (nextw hB5.out hb); clear hb)
    | (go_at_call 18; (with_reducible refine (wkE H2f.out 2 0 1 (b := true) (by decide)).mono ?_); rintro e w7 ⟨rfl, hb⟩; have H2g := Lib.hid (H2f.out.step hb); have H4g := Lib.hid (H4f.out.step hb); have H5g := Lib.hid (H5f.out.step hb); have hB7 := Lib.hid (nextw hB6.out hb); clear hb)
    | (go_at_call 18; (with_reducible refine (wkF H4g.out 0 1 (b := true) (by decide)).mono ?_); rintro e w8 ⟨rfl, hb⟩; have H2h := Lib.hid (H2g.out.step hb); have H5h := Lib.hid (H5g.out.step hb); have hB8 := Lib.hid (nextw hB7.out hb); clear hb)
    | (go_at_call 18; (with_reducible refine (wkG H5h.out 0 (b := true) (by decide)).mono ?_); rintro e w9 ⟨rfl, hb⟩; have H2i := Lib.hid (H2h.out.step hb); have hB9 := Lib.hid (nextw hB8.out hb); clear hb)
    | (go_at_call 21; (with_reducible refine (wkL H2i.out _).mono ?_); rintro e w10 ⟨a10, q10, rfl, hb⟩; have hB10 := Lib.hid (nextw hB9.out hb); clear hb))
  go_ret
  exact ⟨rfl, hB10.out⟩
end Go.Proofs.Ytocfchgkfaogdaa
