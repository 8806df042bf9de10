/-
  LevelCalls: what both sides tell, in plain variables; the depths brought.
-/
import Derived.Test.YtocfchgkfaogdaaLcS
namespace Go.Proofs.Ytocfchgkfaogdaa
open Go.RowKit Go.Maps
set_option maxRecDepth 100000

theorem own_row {w : World} {base n c : Nat} {a : Option Addr} {l : List Int} (h : w.ownsRow base 3 1 (.slice a n c) n (ints l)) (hl : l.length = n) : Row .i64 w a n l := Row.of_own h hl (by have := own_cap h; omega)
theorem own_brow {w : World} {base n c : Nat} {a : Option Addr} {l : List Bool} (h : w.ownsRow base 4 1 (.slice a n c) n (bools l)) (hl : l.length = n) : BRow w a n l := BRow.of_own h hl (by have := own_cap h; omega)
theorem equal_same {w : World} {a b : Option Addr} {n : Nat} {l : List Int} (ha : Row .i64 w a n l) (hb : Row .i64 w b n l) (c d : Nat) :
    Calls Try.prog 18 #[.slice a n c, .slice b n d] w fun e w' => e = .returned (.bool true) ∧ Below w.heap.size w w' :=
  (equal_any ha hb c d).mono (fun e w' ⟨h1, h2⟩ => ⟨by rw [h1]; simp, h2⟩)
theorem bequal_same {w : World} {a b : Option Addr} {n : Nat} {l : List Bool} (ha : BRow w a n l) (hb : BRow w b n l) (c d : Nat) :
    Calls Try.prog 19 #[.slice a n c, .slice b n d] w fun e w' => e = .returned (.bool true) ∧ Below w.heap.size w w' :=
  (bequal_any ha hb c d).mono (fun e w' ⟨h1, h2⟩ => ⟨by rw [h1]; simp, h2⟩)
def OneK (g : Nat) (m : Nat) (M : List (List Int)) (E : Int) (n : Nat) (L : List Int) : Prop :=
  ∀ (W : World) (a : Option Addr) (c : Nat), RR W a m M → Calls Try.prog g #[.slice a m c] W fun e w' => ∃ (va : Option Addr) (ca : Nat), e = .returned (.tuple #[.slice va n ca, .int .i64 E]) ∧ Row .i64 w' va n L ∧ Below W.heap.size W w'
def OneB (g : Nat) (m : Nat) (M : List (List Int)) (B : Bool) (n : Nat) (L : List Int) : Prop :=
  ∀ (W : World) (a : Option Addr) (c : Nat), RR W a m M → Calls Try.prog g #[.slice a m c] W fun e w' => ∃ (va : Option Addr) (ca : Nat), e = .returned (.tuple #[.slice va n ca, .bool B]) ∧ Row .i64 w' va n L ∧ Below W.heap.size W w'
def OneR (g : Nat) (m f : Nat) (M : List (List Int)) (F : List Int) (E : Int) (n : Nat) (L : List Bool) : Prop :=
  ∀ (W : World) (a fa : Option Addr) (c fc : Nat), RR W a m M → Row .i64 W fa f F → Calls Try.prog g #[.slice a m c, .slice fa f fc] W fun e w' => ∃ (va : Option Addr) (ca : Nat), e = .returned (.tuple #[.slice va n ca, .int .i64 E]) ∧ BRow w' va n L ∧ Below W.heap.size W w'
def OneM (g : Nat) (m : Nat) (M : List (List Int)) (B : Bool) : Prop :=
  ∀ (W : World) (a : Option Addr) (c : Nat), RR W a m M → Calls Try.prog g #[.slice a m c] W fun e w' => e = .returned (.bool B) ∧ Below W.heap.size W w'
theorem lc_k {m f : Nat} {M : List (List Int)} {F : List Int} (hm : m ≤ 60) (hr : ∀ i, (M.getD i []).length ≤ 20) (hf : f ≤ 10) :
    ∃ (E : Int) (lo : Nat) (Lo : List Int) (dl : Nat) (Dl : List Int) (B : Bool) (rl : Nat) (Rl : List Int) (CE : Int) (cl : Nat) (Cl : List Bool) (mb : Bool),
      OneK 10 m M E lo Lo ∧ OneK 11 m M E lo Lo ∧ OneK 12 m M E dl Dl ∧ OneK 13 m M E dl Dl ∧
      OneB 14 m M B rl Rl ∧ OneB 15 m M B rl Rl ∧ OneR 16 m f M F CE cl Cl ∧ OneR 17 m f M F CE cl Cl ∧
      OneM 23 m M mb ∧ OneM 24 m M mb := by
  have hr' : ∀ i, (M.getD i []).length ≤ 1000 := fun i => by have := hr i; omega
  refine ⟨ordE M, (ordL M).length, ordL M, (depL M).length, depL M, decide (0 < (rndN M).length), (rndN M).length, iz (rndN M), rchE M F, (rchL M F).length, rchL M F, mayN M, ?_, ?_, ?_, ?_, ?_, ?_, ?_, ?_, ?_, ?_⟩
  · exact fun W a c h => (Order_any h (by omega) hr' c).mono (fun e w' ⟨va, ca, h1, h2, h3⟩ => ⟨va, ca, h1, own_row h2 rfl, h3⟩)
  · exact fun W a c h => (rOrder_any h (by omega) hr' c).mono (fun e w' ⟨va, ca, h1, h2, h3⟩ => ⟨va, ca, h1, own_row h2 rfl, h3⟩)
  · exact fun W a c h => (Depth_any h (by omega) hr' c).mono (fun e w' ⟨va, ca, h1, h2, h3⟩ => ⟨va, ca, h1, own_row h2 rfl, h3⟩)
  · exact fun W a c h => (rDepth_any h (by omega) hr' c).mono (fun e w' ⟨va, ca, h1, h2, h3⟩ => ⟨va, ca, h1, own_row h2 rfl, h3⟩)
  · exact fun W a c h => (Round_any h (by omega) hr' c).mono (fun e w' ⟨va, ca, h1, h2, _, _, h3⟩ => ⟨va, ca, h1, h2, h3⟩)
  · exact fun W a c h => (rRound_any h (by omega) hr' c).mono (fun e w' ⟨va, ca, h1, h2, h3⟩ => ⟨va, ca, h1, h2, h3⟩)
  · exact fun W a fa c fc h h2 => (Reach_any h h2 (by omega) (by omega) hr' c fc).mono (fun e w' ⟨va, ca, h1, h2, h3⟩ => ⟨va, ca, h1, own_brow h2 rfl, h3⟩)
  · exact fun W a fa c fc h h2 => (rReach_any h h2 (by omega) hr' c fc).mono (fun e w' ⟨va, ca, h1, h2, h3⟩ => ⟨va, ca, h1, own_brow h2 rfl, h3⟩)
  · exact fun W a c h => (May_any h c).mono (fun e w' ⟨h1, h2⟩ => ⟨h1, by rw [h2]; exact Below.refl _ _⟩)
  · exact fun W a c h => (rMay_any h c).mono (fun e w' ⟨h1, h2⟩ => ⟨h1, by rw [h2]; exact Below.refl _ _⟩)
theorem lay_k {d : Nat} {D : List Int} (hd : d ≤ 60) (hD : ∀ x ∈ D, x ≤ 50) :
    ∃ (n : Nat) (L : List (List Int)),
      (∀ (W : World) (a : Option Addr) (c : Nat), Row .i64 W a d D → Calls Try.prog 21 #[.slice a d c] W fun e w' => ∃ (va : Option Addr) (ca : Nat), e = .returned (.slice va n ca) ∧ RR w' va n L ∧ Below W.heap.size W w') ∧
      (∀ (W : World) (a : Option Addr) (c : Nat), Row .i64 W a d D → Calls Try.prog 22 #[.slice a d c] W fun e w' => ∃ (va : Option Addr) (ca : Nat), e = .returned (.slice va n ca) ∧ RR w' va n L ∧ Below W.heap.size W w') := by
  refine ⟨(layL D).length, layL D, ?_, ?_⟩
  · exact fun W a c h => (Layers_any h (by omega) (fun x hx => by have := hD x hx; omega) c).mono (fun e w' ⟨va, ca, h1, h2, _, _, h3⟩ => ⟨va, ca, h1, h2, h3⟩)
  · exact fun W a c h => (rLayers_any h (by omega) (fun x hx => by have := hD x hx; omega) c).mono (fun e w' ⟨va, ca, h1, h2, h3⟩ => ⟨va, ca, h1, h2, h3⟩)
theorem RowAt.set {lo hi : Nat} {w : World} {g n c : Nat} {l : List Int} (h : RowAt lo hi w (.slice (some ⟨g, 0, none⟩) n c) n l) (k : Nat) (x : Int) : RowAt lo hi (w.setCell ⟨g, k, none⟩ (.int .i64 x)) (.slice (some ⟨g, 0, none⟩) n c) n (l.set k x) ∧ Kept (fun b => lo ≤ b ∧ b < hi) w (w.setCell ⟨g, k, none⟩ (.int .i64 x)) := by
  have h1 := own_ge h.own g rfl
  have h2 := h.top g rfl
  refine ⟨⟨by rw [ints_set]; exact (h.own.stored k (.int .i64 x)).1, h.top, by simp [h.len]⟩, rfl, rfl, rfl, by simp [World.setCell], fun b _ hn => Below.heap_setCell _ _ _ _ (fun e => hn ?_)⟩
  subst e
  exact ⟨h1, h2⟩
end Go.Proofs.Ytocfchgkfaogdaa
