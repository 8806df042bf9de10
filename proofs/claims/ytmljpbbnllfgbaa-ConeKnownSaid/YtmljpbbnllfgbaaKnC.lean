/-
  ConeKnown: the walk, put together.
-/
import Derived.Test.YtmljpbbnllfgbaaKnB
namespace Go.Proofs.Ytmljpbbnllfgbaa
open Go.RowKit Go.Maps Num
set_option maxRecDepth 100000

set_option maxHeartbeats 4000000 in
theorem ConeKnown_any (w : World) :
    Calls Try.prog 6 #[] w fun e w' => e = .returned (.bool true) ∧ Below w.heap.size w w' := by
  have hpl := Lib.hid (plain_any w)
  obtain ⟨i0, hi, hz0, hz1, hz2⟩ := info_parts info_u64
  go_enter Try.func6, Try.ntmps6
  go_wp2_with (first
    | (go_at_call 28; (with_reducible refine hpl.out.mono ?_); rintro e w1 ⟨B, p, rfl, hA⟩; have hA1 := Lib.hid hA; clear hA hpl)
    | (go_at_call 18; (with_reducible refine (Reach_nil _ _).mono ?_); rintro e w2 ⟨⟨x2, rfl⟩, hB⟩; have hA2 := Lib.hid ((hA1.out.step (bal _ _)).step hB); have hd := Lib.hid (kn_depth hA2.out); clear hB)
    | (go_at_call 24; (with_reducible refine hd.out.mono ?_); rintro e w3 ⟨⟨x3, rfl⟩, hA⟩; have hA3 := Lib.hid hA; clear hA hd)
    | (go_at_call 13; (with_reducible refine (Copy_nil _ _ _ _).mono ?_); rintro e w4 ⟨rfl, hB⟩; have hA4 := Lib.hid ((hA3.out.step (bal _ _)).step hB); have hy4 := Lib.hid hA4.out.copy; clear hB)
    | (go_at_call 12; (with_reducible refine hy4.out.mono ?_); rintro e w5 ⟨B5, p5, rfl, hC, hA, -, -⟩; have hc5 := Lib.hid (kn_copy2 hA hC); clear hC hA hy4)
    | (go_at_call 13; (with_reducible refine hc5.out.mono ?_); rintro e w6 ⟨rfl, hA⟩; have hy6 := Lib.hid hA.copy; clear hA hc5)
    | (go_at_call 12; (with_reducible refine hy6.out.mono ?_); rintro e w7 ⟨B7, p7, rfl, hC, hA, -, -⟩; have hc7 := Lib.hid (kn_copy3 hA hC); clear hC hA hy6)
    | (go_at_call 13; (with_reducible refine hc7.out.mono ?_); rintro e w8 ⟨rfl, hA⟩; have hA8 := Lib.hid hA; clear hA hc7)
    | (at_make; refine wpList_make_full _ rfl _ _ 26 rfl w8.heap.size 56 i0 (.int .u64 0) 1 Try.underlying26 hi hz0 hz1 .i64 .i64 2 2 2 rfl rfl rfl rfl (by rw [hz2]; omega) (by unfold maxLen; omega) (Nat.le_refl _) ?_; intro w9 hown hg; have hB9 : Below w8.heap.size w8 w9 := (Below.refl w8.heap.size w8).grown hg (Nat.le_refl _) (fun _ h => (by cases h)); have hA9 := hA8.out.step hB9; have hw9 := Lib.hid (fun a c => kn_words2 (a := a) (c := c) hA9); clear hown hg hB9 hA9)
    | (go_at_call 15; (with_reducible refine (hw9.out _ _).mono ?_); rintro e w10 ⟨rfl, hA⟩; have hr10 := Lib.hid (kn_reach hA); clear hA hw9)
    | (go_at_call 18; (with_reducible refine hr10.out.mono ?_); rintro e w11 ⟨⟨a11, c11, rfl⟩, hA⟩; have hs11 := Lib.hid (kn_sup hA); clear hA hr10)
    | (go_at_call 19; (with_reducible refine hs11.out.mono ?_); rintro e w12 ⟨⟨a12, c12, rfl⟩, hA⟩; have hw12 := Lib.hid (kn_words3 hA); clear hA hs11)
    | (go_at_call 15; (with_reducible refine hw12.out.mono ?_); rintro e w13 ⟨g13, rfl, hA, ho⟩; have ho13 := Lib.hid ho; have hy13 := Lib.hid hA.copy; clear hA ho hw12)
    | (go_at_call 12; (with_reducible refine hy13.out.mono ?_); rintro e w14 ⟨B14, p14, rfl, hC, hA, hap, hB⟩; have hc14 := Lib.hid (kn_copy4 hA hC hap (own_below ho13.out hB)); clear hC hA hap hB hy13 ho13)
    | (go_at_call 13; (with_reducible refine hc14.out.mono ?_); rintro e w15 ⟨g15, rfl, hB, ho, ho2⟩; have hB15 := Lib.hid hB; have ho15 := Lib.hid ho; have hq15 := Lib.hid ho2; clear hB ho ho2 hc14)
    | (go_at_call 19; (with_reducible refine (Support_nil _ _).mono ?_); rintro e w16 ⟨⟨x16, rfl⟩, hB⟩; have hB16 := Lib.hid (nextw hB15.out hB); have ho16 := own_below ho15.out hB; have hq16 := own_below hq15.out hB; have k0 := ho16.cellAt (g := g13) (j := 0) (by decide); have k1 := ho16.cellAt (g := g13) (j := 1) (by decide); have k2 := ho16.cellAt (g := g13) (j := 2) (by decide); have m0 := hq16.cellAt (g := g15) (j := 0) (by decide); have m1 := hq16.cellAt (g := g15) (j := 1) (by decide); have m2 := hq16.cellAt (g := g15) (j := 2) (by decide); have hte := Lib.hid (tells_any w16); clear hB ho16 hq16)
    | (go_at_call 21; (with_reducible refine hte.out.mono ?_); rintro e w17 ⟨rfl, hB⟩; have hB17 := Lib.hid (nextw hB16.out hB); clear hB hte))
  go_ret
  exact ⟨rfl, hB17.out⟩
end Go.Proofs.Ytmljpbbnllfgbaa
