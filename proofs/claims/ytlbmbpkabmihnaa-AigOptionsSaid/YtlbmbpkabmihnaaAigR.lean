/-
  'wakes': the examples.
-/
import Derived.Test.YtlbmbpkabmihnaaAigO
namespace Go.Proofs.Ytlbmbpkabmihnaa
open Go.RowKit Go.Maps

/-- A graph that a call has made for itself. -/
structure AtG (w0 : World) (B : Nat) (w : World) (p : Pl) (G : Gr) : Prop where
  is : Is w p G
  wf : Wf G
  b : p.b = B
  out : ∀ k, p.has k → w0.heap.size ≤ k
  below : Below w0.heap.size w0 w
  len : G.nodes.length ≤ 100000

theorem AtG.step {w0 w w2 : World} {B : Nat} {p : Pl} {G : Gr} (h : AtG w0 B w p G) (hb : Below w.heap.size w w2) : AtG w0 B w2 p G :=
  ⟨h.is.below hb, h.wf, h.b, h.out, nextw h.below hb, h.len⟩
theorem AtG.next {w0 w w2 : World} {B : Nat} {p p' : Pl} {G G' : Gr} (h : AtG w0 B w p G) (hS : Step p w p' w2 G') (hW : Wf G') (hl : G'.nodes.length ≤ 100000) : AtG w0 B w2 p' G' :=
  ⟨hS.is, hW, hS.b.trans h.b, fun k hk => by
    rcases hS.new k hk with h1 | h1
    · exact h.out k h1
    · exact Nat.le_trans h.below.size h1, h.below.trans (hS.kept.below h.out h.below.size), hl⟩
theorem AtG.new {F H : Bool} (w0 : World) {w : World} (h0 : Below w0.heap.size w0 w) :
    Calls Try.prog 21 #[.agg #[.bool F, .bool H]] w fun e w' => ∃ p, e = .returned (.pointer (some ⟨p.b, 0, none⟩)) ∧ AtG w0 p.b w' p (newG F H) :=
  (new_any F H w).mono fun e w' ⟨p, he, hI, hB, hout⟩ => ⟨p, he, hI, Wf_new F H, rfl, fun k hk => Nat.le_trans h0.size (hout k hk), nextw h0 hB, by simp [newG]⟩
theorem AtG.input {w0 w : World} {B : Nat} {p : Pl} {G G' : Gr} (h : AtG w0 B w p G) (hG : inputG G = G') {v : Int} (hv : 2 * (G.nodes.length : Int) = v) (hl : G.nodes.length ≤ 90000) :
    Calls Try.prog 23 #[.pointer (some ⟨B, 0, none⟩)] w fun e w' => e = .returned (.tuple #[.int .u32 v, .int .i64 0]) ∧ ∃ p', AtG w0 B w' p' G' := by
  subst hG
  have := Input_any h.is h.wf (by omega)
  rw [h.b] at this
  exact this.mono fun e w' ⟨he, p', hS⟩ => ⟨by rw [he, hv], p', h.next hS (Wf_inputG h.wf) (by rw [inputG_len]; omega)⟩
theorem AtG.many {f : FuncId} {T : Gr → Int → Int → Gr × Int} {z : Int} {k : Nat} (hF : ManyCall f T z) (hT : OpOk T k) (hk : k ≤ 3) (hz : z = 0 ∨ z = 1) {w0 w : World} {B : Nat} {p : Pl} {G : Gr} (h : AtG w0 B w p G) {a : Option Addr} {n cap : Nat} {l : List Int} (hs : Row .u32 w a n l) (hcap : n ≤ cap) (hap : ∀ x, a = some x → ¬ p.has x.block) (hl : AllThere G l) (hn : n ≤ 20) (h9 : G.nodes.length ≤ 90000) :
    Calls Try.prog f #[.pointer (some ⟨B, 0, none⟩), .slice a n cap] w fun e w' => e = .returned (.tuple #[.int .u32 (manyG T z G l).2, .int .i64 0]) ∧ ∃ p', AtG w0 B w' p' (manyG T z G l).1 := by
  have hlen := hs.len
  have hkk : k * l.length ≤ 3 * 20 := Nat.mul_le_mul hk (by omega)
  have g := manyG_good hT h.wf (there_lit h.wf hz) hl (by omega)
  have := hF w p G a n cap l h.is h.wf hs hcap hap hl (by omega)
  rw [h.b] at this
  exact this.mono fun e w' ⟨he, p', hS⟩ => ⟨he, p', h.next hS g.wf (by have := g.len; omega)⟩
/-- A call of two. -/
theorem AtG.two {f : FuncId} {T : Gr → Int → Int → Gr × Int} {z : Int} {k : Nat} (hF : ManyCall f T z) (hT : OpOk T k) (hk : k ≤ 3) (hz : z = 0 ∨ z = 1) {w0 w : World} {B : Nat} {p : Pl} {G : Gr} (h : AtG w0 B w p G) {x y : Int} {G' : Gr} {v : Int} (hr : manyG T z G [x, y] = (G', v)) (hx : There G x) (hy : There G y) (h9 : G.nodes.length ≤ 90000) :
    Calls Try.prog f #[.pointer (some ⟨B, 0, none⟩), .slice (some ⟨w.heap.size, 0, none⟩) 2 2] (w.alloc (.cells #[.int .u32 x, .int .u32 y] 42)) fun e w' => e = .returned (.tuple #[.int .u32 v, .int .i64 0]) ∧ ∃ p', AtG w0 B w' p' G' := by
  have hlt := fun k (hk : p.has k) => h.is.has_lt hk
  have := (h.step ((Below.refl _ _).alloc (Nat.le_refl _) (.cells #[.int .u32 x, .int .u32 y] 42))).many hF hT hk hz (row2 w x y _) (Nat.le_refl _) (by
    intro b hb hp
    have := hlt _ hp
    cases hb
    simp at this) (l := [x, y]) (by intro u hu; simp at hu; rcases hu with rfl | rfl <;> assumption) (by omega) h9
  rw [hr] at this
  exact this
theorem AtG.empty {f : FuncId} {T : Gr → Int → Int → Gr × Int} {z : Int} {k : Nat} (hF : ManyCall f T z) (hT : OpOk T k) (hk : k ≤ 3) (hz : z = 0 ∨ z = 1) {w0 w : World} {B : Nat} {p : Pl} {G : Gr} (h : AtG w0 B w p G) (h9 : G.nodes.length ≤ 90000) :
    Calls Try.prog f #[.pointer (some ⟨B, 0, none⟩), .slice none 0 0] w fun e w' => e = .returned (.tuple #[.int .u32 z, .int .i64 0]) ∧ ∃ p', AtG w0 B w' p' G :=
  h.many hF hT hk hz (a := none) (n := 0) (cap := 0) (l := []) ⟨rfl, by omega, .inl rfl⟩ (Nat.le_refl _) (by intro x hx; cases hx) (by intro x hx; cases hx) (by omega) h9
theorem AtG.gateOf {w0 w : World} {B : Nat} {p : Pl} {G : Gr} (h : AtG w0 B w p G) {j : Nat} (hj : j < G.nodes.length) {jj : Int} (hjj : (j : Int) = jj) {x y : Int} {gt : Bool} (hr : nodeAt G j = ⟨gt, x, y⟩) :
    Calls Try.prog 18 #[.pointer (some ⟨B, 0, none⟩), .int .i64 jj] w fun e w' => e = .returned (.tuple #[.int .u32 x, .int .u32 y, .bool gt]) ∧ AtG w0 B w' p G := by
  subst hjj
  have := Gate_any h.is h.wf (by have := h.len; omega) hj
  rw [h.b, hr] at this
  exact this.mono fun e w' ⟨he, hB⟩ => ⟨he, h.step hB⟩

def wg1 : Gr := inputG (newG true true)
def wg2 : Gr := inputG wg1
def wg3 : Gr := addN wg2 4 2
def wg4 : Gr := addN wg3 5 3
def vg1 : Gr := inputG (newG false false)
def vg2 : Gr := addN vg1 2 2
def vg3 : Gr := addN vg2 2 2

set_option maxHeartbeats 1000000 in
set_option maxRecDepth 100000 in
theorem wakes_any (w : World) :
    Calls Try.prog 7 #[] w fun e w' => e = .returned (.bool true) ∧ Below w.heap.size w w' := by
  have hno : Hid (∀ w, Calls Try.prog 24 #[.int .u32 2] w fun e w' => e = .returned (.int .u32 3) ∧ w = w') := Lib.hid (fun w => (not_any 2 (by unfold IsLit; omega) w).mono fun e w' h => ⟨h.1, h.2⟩)
  have hN1 := Lib.hid (AtG.new (F := true) (H := true) w (Below.refl w.heap.size w))
  have hN2 := Lib.hid (fun w1 (h : Below w.heap.size w w1) => AtG.new (F := false) (H := false) w h)
  have c1 := Lib.hid (fun B w1 p (h : AtG w B w1 p (newG true true)) => h.input (G' := wg1) rfl (v := 2) (by kernel_rfl) (by decide))
  have c2 := Lib.hid (fun B w1 p (h : AtG w B w1 p wg1) => h.input (G' := wg2) rfl (v := 4) (by kernel_rfl) (by decide))
  have c3 := Lib.hid (fun B w1 p (h : AtG w B w1 p wg2) => h.two And_any and_ok (by omega) (.inr rfl) (x := 2) (y := 4) (G' := wg3) (v := 6) (by kernel_rfl) (by unfold There IsLit; decide) (by unfold There IsLit; decide) (by decide))
  have c4 := Lib.hid (fun B w1 p (h : AtG w B w1 p wg3) => h.two And_any and_ok (by omega) (.inr rfl) (x := 4) (y := 2) (G' := wg3) (v := 6) (by kernel_rfl) (by unfold There IsLit; decide) (by unfold There IsLit; decide) (by decide))
  have c5 := Lib.hid (fun B w1 p (h : AtG w B w1 p wg3) => h.two And_any and_ok (by omega) (.inr rfl) (x := 2) (y := 3) (G' := wg3) (v := 0) (by kernel_rfl) (by unfold There IsLit; decide) (by unfold There IsLit; decide) (by decide))
  have c6 := Lib.hid (fun B w1 p (h : AtG w B w1 p wg3) => h.two And_any and_ok (by omega) (.inr rfl) (x := 2) (y := 1) (G' := wg3) (v := 2) (by kernel_rfl) (by unfold There IsLit; decide) (by unfold There IsLit; decide) (by decide))
  have c7 := Lib.hid (fun B w1 p (h : AtG w B w1 p wg3) => h.empty And_any and_ok (by omega) (.inr rfl) (by decide))
  have c8 := Lib.hid (fun B w1 p (h : AtG w B w1 p wg3) => h.two Or_any or_ok (by omega) (.inl rfl) (x := 2) (y := 4) (G' := wg4) (v := 9) (by kernel_rfl) (by unfold There IsLit; decide) (by unfold There IsLit; decide) (by decide))
  have c9 := Lib.hid (fun B w1 p (h : AtG w B w1 p wg4) => h.gateOf (j := 4) (x := 5) (y := 3) (gt := true) (by decide) (jj := 4) rfl (by kernel_rfl))
  have d1 := Lib.hid (fun B w1 p (h : AtG w B w1 p (newG false false)) => h.input (G' := vg1) rfl (v := 2) (by kernel_rfl) (by decide))
  have d2 := Lib.hid (fun B w1 p (h : AtG w B w1 p vg1) => h.two And_any and_ok (by omega) (.inr rfl) (x := 2) (y := 2) (G' := vg2) (v := 4) (by kernel_rfl) (by unfold There IsLit; decide) (by unfold There IsLit; decide) (by decide))
  have d3 := Lib.hid (fun B w1 p (h : AtG w B w1 p vg2) => h.two And_any and_ok (by omega) (.inr rfl) (x := 2) (y := 2) (G' := vg3) (v := 6) (by kernel_rfl) (by unfold There IsLit; decide) (by unfold There IsLit; decide) (by decide))
  go_enter Try.func7, Try.ntmps7
  go_wp2_with (first
    | (go_at_call 21; (with_reducible refine hN1.out.mono ?_); rintro e w1 ⟨p1, rfl, hA⟩)
    | (go_at_call 24; refine (hno.out _).mono ?_; rintro e w2 ⟨rfl, rfl⟩)
    | (go_at_call 23; (with_reducible refine (c1.out _ _ _ hA).mono ?_); rintro e w2 ⟨rfl, p2, hA2⟩; clear hA; have hA := hA2; clear hA2)
    | (go_at_call 23; (with_reducible refine (c2.out _ _ _ hA).mono ?_); rintro e w2 ⟨rfl, p2, hA2⟩; clear hA; have hA := hA2; clear hA2)
    | (go_at_call 11; (with_reducible refine (c3.out _ _ _ hA).mono ?_); rintro e w2 ⟨rfl, p2, hA2⟩; clear hA; have hA := hA2; clear hA2)
    | (go_at_call 11; (with_reducible refine (c4.out _ _ _ hA).mono ?_); rintro e w2 ⟨rfl, p2, hA2⟩; clear hA; have hA := hA2; clear hA2)
    | (go_at_call 11; (with_reducible refine (c5.out _ _ _ hA).mono ?_); rintro e w2 ⟨rfl, p2, hA2⟩; clear hA; have hA := hA2; clear hA2)
    | (go_at_call 11; (with_reducible refine (c6.out _ _ _ hA).mono ?_); rintro e w2 ⟨rfl, p2, hA2⟩; clear hA; have hA := hA2; clear hA2)
    | (go_at_call 11; (with_reducible refine (c7.out _ _ _ hA).mono ?_); rintro e w2 ⟨rfl, p2, hA2⟩; clear hA; have hA := hA2; clear hA2)
    | (go_at_call 12; (with_reducible refine (c8.out _ _ _ hA).mono ?_); rintro e w2 ⟨rfl, p2, hA2⟩; clear hA; have hA := hA2; clear hA2)
    | (go_at_call 18; (with_reducible refine (c9.out _ _ _ hA).mono ?_); rintro e w2 ⟨rfl, hA2⟩; clear hA; have hb := Lib.hid (hN2.out _ hA2.below); clear hA2)
    | (go_at_call 21; (with_reducible refine hb.out.mono ?_); rintro e w1 ⟨p1, rfl, hA⟩)
    | (go_at_call 23; (with_reducible refine (d1.out _ _ _ hA).mono ?_); rintro e w2 ⟨rfl, p2, hA2⟩; clear hA; have hA := hA2; clear hA2)
    | (go_at_call 11; (with_reducible refine (d2.out _ _ _ hA).mono ?_); rintro e w2 ⟨rfl, p2, hA2⟩; clear hA; have hA := hA2; clear hA2)
    | (go_at_call 11; (with_reducible refine (d3.out _ _ _ hA).mono ?_); rintro e w2 ⟨rfl, p2, hA2⟩; clear hA; have hA := hA2; clear hA2))
  go_ret
  exact ⟨rfl, hA.below⟩
end Go.Proofs.Ytlbmbpkabmihnaa
