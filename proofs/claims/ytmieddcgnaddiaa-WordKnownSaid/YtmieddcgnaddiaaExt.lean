/-
  A region that draws its order, whose operations read old memory and whose calls make new memory alone: one walk in the order of the text.
  The class of worlds: 'ext W x': x where x is W below its size, else W.
-/
import Derived.Test.YtmieddcgnaddiaaProg
import Derived.WalkKit
import Derived.WalkSpells
import Derived.WalkLawsBesides
import Derived.BigQuiet
import Derived.Lib.Hide
namespace Go.Proofs.Ytmieddcgnaddiaa
open Go.RowKit

theorem bcell {W w1 : World} (hb : Below W.heap.size W w1) : (∀ b o, b < W.heap.size → w1.cell? ⟨b, o, none⟩ = W.cell? ⟨b, o, none⟩) ∧ (∀ b o, b < W.heap.size → w1.frozen? ⟨b, o, none⟩ = W.frozen? ⟨b, o, none⟩) :=
  ⟨fun b o h => hb.cell (p := ⟨b, o, none⟩) h, fun b o h => hb.frozen (p := ⟨b, o, none⟩) h⟩

open Classical in
noncomputable def ext (W x : World) : World := if Below W.heap.size W x then x else W

theorem ext_below (W x : World) : Below W.heap.size W (ext W x) := by
  unfold ext; split
  · assumption
  · exact Below.refl _ _

theorem ext_cell (W x : World) (b o : Nat) (h : b < W.heap.size) : (ext W x).cell? ⟨b, o, none⟩ = W.cell? ⟨b, o, none⟩ := (bcell (ext_below W x)).1 b o h

theorem ext_of {W x : World} (h : Below W.heap.size W x) : x = ext W x := by unfold ext; rw [if_pos h]

theorem below_of_ext {W w' : World} (h : ∃ x, w' = ext W x) : Below W.heap.size W w' := by
  obtain ⟨x, rfl⟩ := h; exact ext_below W x

/-- A callee's contract, met in one of the worlds. -/
theorem Calls.ext_of {P : Program} {f : FuncId} {args : Array Value} {W x : World} {v : Value}
    (h : Calls P f args (ext W x) fun e w' => e = .returned v ∧ Below (ext W x).heap.size (ext W x) w') : Calls P f args (ext W x) fun e w'' => e = .returned v ∧ ∃ y, w'' = ext W y :=
  h.mono fun _ w' ⟨he, hm⟩ => ⟨he, w', Ytmieddcgnaddiaa.ext_of ((ext_below W x).trans (hm.mono (ext_below W x).size))⟩

theorem wp_region_ext {P : Program} {id : Nat} {Q : Exit → Act → World → Prop} {a : Act} {w : World} {l : List Oper} (hm : P.follows .mixedOrders = true) (hB : Region.lexB .any l.toArray = true)
    (h : wpQuiet P l.toArray (fun w' => ∃ x, w' = ext w x) (fun a' => ∀ w', (∃ x, w' = ext w x) → Q .normal a' w') l a) : (Code.region id l.toArray true).wp P Q a w :=
  wp_region_quiet (C := fun w' => ∃ x, w' = ext w x) hm hB ⟨w.drew, Ytmieddcgnaddiaa.ext_of (Below.refl _ _).drew⟩ (by simpa using h)

theorem ret_int {k : IntKind} {a b : Int} (h : a = b) : Ending.returned (.int k a) = .returned (.int k b) := by rw [h]
theorem ret_bool {a b : Bool} (h : a = b) : Ending.returned (.bool a) = .returned (.bool b) := by rw [h]
theorem ret_int2 {k k' : IntKind} {a b : Int} {c d : Int} (h : a = b) (h' : c = d) : Ending.returned (.tuple #[.int k a, .int k' c]) = .returned (.tuple #[.int k b, .int k' d]) := by rw [h, h']
theorem ret_intb {k : IntKind} {a b : Int} {c d : Bool} (h : a = b) (h' : c = d) : Ending.returned (.tuple #[.int k a, .bool c]) = .returned (.tuple #[.int k b, .bool d]) := by rw [h, h']
theorem stepc {W w1 : World} (hb : Below W.heap.size W w1) {b o : Nat} {v : Value} (h : b < W.heap.size) (c : W.cell? ⟨b, o, none⟩ = some v) : w1.cell? ⟨b, o, none⟩ = some v := by
  rw [hb.cell (p := ⟨b, o, none⟩) h]; exact c
/-- One call further. -/
theorem nextb {B : Nat} {w w0 w1 : World} (h0 : Below B w w0) (hB : B ≤ w0.heap.size) (hb : Below w0.heap.size w0 w1) : Below B w w1 := h0.trans (hb.mono hB)

theorem nextw {w wk w1 : World} (hB : Below w.heap.size w wk) (hb : Below wk.heap.size wk w1) : Below w.heap.size w w1 := hB.trans (hb.mono hB.size)

/-- The state at a function's own box of three cells: one call further. -/
theorem step3 {w wk w1 : World} {b n : Nat} {x y z : Value} (hB : Below w.heap.size w wk) (hz : w.heap.size + n ≤ wk.heap.size) (hlt : b < wk.heap.size)
    (c0 : wk.cell? ⟨b, 0, none⟩ = some x) (c1 : wk.cell? ⟨b, 1, none⟩ = some y) (c2 : wk.cell? ⟨b, 2, none⟩ = some z) (hb : Below wk.heap.size wk w1) :
    Below w.heap.size w w1 ∧ w.heap.size + n ≤ w1.heap.size ∧ w1.cell? ⟨b, 0, none⟩ = some x ∧ w1.cell? ⟨b, 1, none⟩ = some y ∧ w1.cell? ⟨b, 2, none⟩ = some z :=
  ⟨nextb hB (by omega) hb, Nat.le_trans hz hb.size, stepc hb hlt c0, stepc hb hlt c1, stepc hb hlt c2⟩
/-- The first call behind the box. -/
theorem box3 {w w1 : World} {x y z : Value} {T : Nat} (hb : Below (w.alloc (.cells #[x, y, z] T)).heap.size (w.alloc (.cells #[x, y, z] T)) w1) :
    Below w.heap.size w w1 ∧ w.heap.size + 1 ≤ w1.heap.size ∧ w1.cell? ⟨w.heap.size, 0, none⟩ = some x ∧ w1.cell? ⟨w.heap.size, 1, none⟩ = some y ∧ w1.cell? ⟨w.heap.size, 2, none⟩ = some z :=
  ⟨nextb ((Below.refl _ _).alloc (Nat.le_refl _) _) (by simp) hb, by have := hb.size; simpa using this, stepc hb (by simp) (by simp), stepc hb (by simp) (by simp), stepc hb (by simp) (by simp)⟩
/-- The first call behind two boxes. -/
theorem box33 {w w1 : World} {x y z x' y' z' : Value} {T : Nat} (hb : Below ((w.alloc (.cells #[x, y, z] T)).alloc (.cells #[x', y', z'] T)).heap.size ((w.alloc (.cells #[x, y, z] T)).alloc (.cells #[x', y', z'] T)) w1) :
    Below w.heap.size w w1 ∧ w.heap.size + 2 ≤ w1.heap.size ∧ w1.cell? ⟨w.heap.size, 0, none⟩ = some x ∧ w1.cell? ⟨w.heap.size, 1, none⟩ = some y ∧ w1.cell? ⟨w.heap.size, 2, none⟩ = some z
      ∧ w1.cell? ⟨w.heap.size + 1, 0, none⟩ = some x' ∧ w1.cell? ⟨w.heap.size + 1, 1, none⟩ = some y' ∧ w1.cell? ⟨w.heap.size + 1, 2, none⟩ = some z' :=
  ⟨nextb (((Below.refl _ _).alloc (Nat.le_refl _) _).alloc (by simp) _) (by simp; omega) hb, by have := hb.size; simpa using this, stepc hb (by simp; omega) (by simp), stepc hb (by simp; omega) (by simp), stepc hb (by simp; omega) (by simp),
    stepc hb (by simp) (by simp), stepc hb (by simp) (by simp), stepc hb (by simp) (by simp)⟩
/-- What loads come to in the worlds of a region. -/
theorem ext3 {wk : World} {b : Nat} {x y z : Value} (hlt : b < wk.heap.size)
    (c0 : wk.cell? ⟨b, 0, none⟩ = some x) (c1 : wk.cell? ⟨b, 1, none⟩ = some y) (c2 : wk.cell? ⟨b, 2, none⟩ = some z) :
    (∀ q, (ext wk q).cell? ⟨b, 0, none⟩ = some x) ∧ (∀ q, (ext wk q).cell? ⟨b, 1, none⟩ = some y) ∧ (∀ q, (ext wk q).cell? ⟨b, 2, none⟩ = some z) :=
  ⟨fun q => stepc (ext_below wk q) hlt c0, fun q => stepc (ext_below wk q) hlt c1, fun q => stepc (ext_below wk q) hlt c2⟩
end Go.Proofs.Ytmieddcgnaddiaa
