/-
  A region that draws its order, whose operations read old memory and whose calls make new memory alone: one walk in the order of the text.
  The class of worlds: 'ext W x': x where x is W below its size, else W.
-/
import Derived.Test.YtnhpjacodhdpeaaDoorProg
import Derived.WalkKit
import Derived.WalkSpells
import Derived.WalkLawsBesides
import Derived.BigQuiet
import Derived.Lib.Hide
namespace Go.Proofs.YtnhpjacodhdpeaaDoor
open Go.RowKit

theorem bcell {W w1 : World} (hb : Below W.heap.size W w1) : (∀ b o, b < W.heap.size → w1.cell? ⟨b, o, none⟩ = W.cell? ⟨b, o, none⟩) ∧ (∀ b o, b < W.heap.size → w1.frozen? ⟨b, o, none⟩ = W.frozen? ⟨b, o, none⟩) :=
  ⟨fun b o h => hb.cell (p := ⟨b, o, none⟩) h, fun b o h => hb.frozen (p := ⟨b, o, none⟩) h⟩

open Classical in
noncomputable def ext (W x : World) : World := if Below W.heap.size W x then x else W

theorem ext_below (W x : World) : Below W.heap.size W (ext W x) := by
  unfold ext; split
  · assumption
  · exact Below.refl _ _

theorem ext_cell (W x : World) (b o : Nat) (h : b < W.heap.size) : (ext W x).cell? ⟨b, o, none⟩ = W.cell? ⟨b, o, none⟩ := (bcell (ext_below W x)).1 b o h

theorem ext_of {W x : World} (h : Below W.heap.size W x) : x = ext W x := by unfold ext; rw [if_pos h]

theorem below_of_ext {W w' : World} (h : ∃ x, w' = ext W x) : Below W.heap.size W w' := by
  obtain ⟨x, rfl⟩ := h; exact ext_below W x

/-- A callee's contract, met in one of the worlds. -/
theorem Calls.ext_of {P : Program} {f : FuncId} {args : Array Value} {W x : World} {v : Value}
    (h : Calls P f args (ext W x) fun e w' => e = .returned v ∧ Below (ext W x).heap.size (ext W x) w') : Calls P f args (ext W x) fun e w'' => e = .returned v ∧ ∃ y, w'' = ext W y :=
  h.mono fun _ w' ⟨he, hm⟩ => ⟨he, w', YtnhpjacodhdpeaaDoor.ext_of ((ext_below W x).trans (hm.mono (ext_below W x).size))⟩

theorem wp_region_ext {P : Program} {id : Nat} {Q : Exit → Act → World → Prop} {a : Act} {w : World} {l : List Oper} (hm : P.follows .mixedOrders = true) (hB : Region.lexB .any l.toArray = true)
    (h : wpQuiet P l.toArray (fun w' => ∃ x, w' = ext w x) (fun a' => ∀ w', (∃ x, w' = ext w x) → Q .normal a' w') l a) : (Code.region id l.toArray true).wp P Q a w :=
  wp_region_quiet (C := fun w' => ∃ x, w' = ext w x) hm hB ⟨w.drew, YtnhpjacodhdpeaaDoor.ext_of (Below.refl _ _).drew⟩ (by simpa using h)

theorem ret_int {k : IntKind} {a b : Int} (h : a = b) : Ending.returned (.int k a) = .returned (.int k b) := by rw [h]
theorem ret_bool {a b : Bool} (h : a = b) : Ending.returned (.bool a) = .returned (.bool b) := by rw [h]
theorem ret_int2 {k k' : IntKind} {a b : Int} {c d : Int} (h : a = b) (h' : c = d) : Ending.returned (.tuple #[.int k a, .int k' c]) = .returned (.tuple #[.int k b, .int k' d]) := by rw [h, h']
theorem ret_intb {k : IntKind} {a b : Int} {c d : Bool} (h : a = b) (h' : c = d) : Ending.returned (.tuple #[.int k a, .bool c]) = .returned (.tuple #[.int k b, .bool d]) := by rw [h, h']
theorem stepc {W w1 : World} (hb : Below W.heap.size W w1) {b o : Nat} {v : Value} (h : b < W.heap.size) (c : W.cell? ⟨b, o, none⟩ = some v) : w1.cell? ⟨b, o, none⟩ = some v := by
  rw [hb.cell (p := ⟨b, o, none⟩) h]; exact c
/-- One call further. -/
theorem nextb {B : Nat} {w w0 w1 : World} (h0 : Below B w w0) (hB : B ≤ w0.heap.size) (hb : Below w0.heap.size w0 w1) : Below B w w1 := h0.trans (hb.mono hB)

theorem nextw {w wk w1 : World} (hB : Below w.heap.size w wk) (hb : Below wk.heap.size wk w1) : Below w.heap.size w w1 := hB.trans (hb.mono hB.size)

/-- The state at a function's own box of three cells: one call further. -/
theorem step3 {w wk w1 : World} {b n : Nat} {x y z : Value} (hB : Below w.heap.size w wk) (hz : w.heap.size + n ≤ wk.heap.size) (hlt : b < wk.heap.size)
    (c0 : wk.cell? ⟨b, 0, none⟩ = some x) (c1 : wk.cell? ⟨b, 1, none⟩ = some y) (c2 : wk.cell? ⟨b, 2, none⟩ = some z) (hb : Below wk.heap.size wk w1) :
    Below w.heap.size w w1 ∧ w.heap.size + n ≤ w1.heap.size ∧ w1.cell? ⟨b, 0, none⟩ = some x ∧ w1.cell? ⟨b, 1, none⟩ = some y ∧ w1.cell? ⟨b, 2, none⟩ = some z :=
  ⟨nextb hB (by omega) hb, Nat.le_trans hz hb.size, stepc hb hlt c0, stepc hb hlt c1, stepc hb hlt c2⟩
/-- The first call behind the box. -/
theorem box3 {w w1 : World} {x y z : Value} {T : Nat} (hb : Below (w.alloc (.cells #[x, y, z] T)).heap.size (w.alloc (.cells #[x, y, z] T)) w1) :
    Below w.heap.size w w1 ∧ w.heap.size + 1 ≤ w1.heap.size ∧ w1.cell? ⟨w.heap.size, 0, none⟩ = some x ∧ w1.cell? ⟨w.heap.size, 1, none⟩ = some y ∧ w1.cell? ⟨w.heap.size, 2, none⟩ = some z :=
  ⟨nextb ((Below.refl _ _).alloc (Nat.le_refl _) _) (by simp) hb, by have := hb.size; simpa using this, stepc hb (by simp) (by simp), stepc hb (by simp) (by simp), stepc hb (by simp) (by simp)⟩
/-- The first call behind two boxes. -/
theorem box33 {w w1 : World} {x y z x' y' z' : Value} {T : Nat} (hb : Below ((w.alloc (.cells #[x, y, z] T)).alloc (.cells #[x', y', z'] T)).heap.size ((w.alloc (.cells #[x, y, z] T)).alloc (.cells #[x', y', z'] T)) w1) :
    Below w.heap.size w w1 ∧ w.heap.size + 2 ≤ w1.heap.size ∧ w1.cell? ⟨w.heap.size, 0, none⟩ = some x ∧ w1.cell? ⟨w.heap.size, 1, none⟩ = some y ∧ w1.cell? ⟨w.heap.size, 2, none⟩ = some z
      ∧ w1.cell? ⟨w.heap.size + 1, 0, none⟩ = some x' ∧ w1.cell? ⟨w.heap.size + 1, 1, none⟩ = some y' ∧ w1.cell? ⟨w.heap.size + 1, 2, none⟩ = some z' :=
  ⟨nextb (((Below.refl _ _).alloc (Nat.le_refl _) _).alloc (by simp) _) (by simp; omega) hb, by have := hb.size; simpa using this, stepc hb (by simp; omega) (by simp), stepc hb (by simp; omega) (by simp), stepc hb (by simp; omega) (by simp),
    stepc hb (by simp) (by simp), stepc hb (by simp) (by simp), stepc hb (by simp) (by simp)⟩
/-- The first call behind two boxes of three cells, the first of which is written behind it. -/
theorem box33f {w w1 : World} {x y z x' y' z' : Value} {T T' : Nat} (hb : Below ((w.alloc (.cells #[x, y, z] T)).alloc (.cells #[x', y', z'] T')).heap.size ((w.alloc (.cells #[x, y, z] T)).alloc (.cells #[x', y', z'] T')) w1) :
    Below w.heap.size w w1 ∧ w.heap.size + 2 ≤ w1.heap.size ∧ w1.cell? ⟨w.heap.size, 0, none⟩ = some x ∧ w1.cell? ⟨w.heap.size, 1, none⟩ = some y ∧ w1.cell? ⟨w.heap.size, 2, none⟩ = some z
      ∧ w1.cell? ⟨w.heap.size + 1, 0, none⟩ = some x' ∧ w1.cell? ⟨w.heap.size + 1, 1, none⟩ = some y' ∧ w1.cell? ⟨w.heap.size + 1, 2, none⟩ = some z'
      ∧ w1.frozen? ⟨w.heap.size, 0, none⟩ = false ∧ w1.frozen? ⟨w.heap.size, 1, none⟩ = false ∧ w1.frozen? ⟨w.heap.size, 2, none⟩ = false :=
  ⟨nextb (((Below.refl _ _).alloc (Nat.le_refl _) _).alloc (by simp) _) (by simp; omega) hb, by have := hb.size; simpa using this, stepc hb (by simp; omega) (by simp), stepc hb (by simp; omega) (by simp), stepc hb (by simp; omega) (by simp),
    stepc hb (by simp) (by simp), stepc hb (by simp) (by simp), stepc hb (by simp) (by simp),
    ((bcell hb).2 _ _ (by simp; omega)).trans (by simp), ((bcell hb).2 _ _ (by simp; omega)).trans (by simp), ((bcell hb).2 _ _ (by simp; omega)).trans (by simp)⟩

/-- The first box written anew. -/
theorem boxset {w w2 : World} {x y z p q r : Value} (x' y' z' : Value) (hB : Below w.heap.size w w2) (hz : w.heap.size + 2 ≤ w2.heap.size)
    (c0 : w2.cell? ⟨w.heap.size, 0, none⟩ = some x) (c1 : w2.cell? ⟨w.heap.size, 1, none⟩ = some y) (c2 : w2.cell? ⟨w.heap.size, 2, none⟩ = some z)
    (d0 : w2.cell? ⟨w.heap.size + 1, 0, none⟩ = some p) (d1 : w2.cell? ⟨w.heap.size + 1, 1, none⟩ = some q) (d2 : w2.cell? ⟨w.heap.size + 1, 2, none⟩ = some r) :
    ∀ w3, w3 = ((w2.setCell ⟨w.heap.size, 0, none⟩ x').setCell ⟨w.heap.size, 1, none⟩ y').setCell ⟨w.heap.size, 2, none⟩ z' →
    Below w.heap.size w w3 ∧ w.heap.size + 2 ≤ w3.heap.size ∧ w3.cell? ⟨w.heap.size, 0, none⟩ = some x' ∧ w3.cell? ⟨w.heap.size, 1, none⟩ = some y' ∧ w3.cell? ⟨w.heap.size, 2, none⟩ = some z'
      ∧ w3.cell? ⟨w.heap.size + 1, 0, none⟩ = some p ∧ w3.cell? ⟨w.heap.size + 1, 1, none⟩ = some q ∧ w3.cell? ⟨w.heap.size + 1, 2, none⟩ = some r := by
  rintro w3 rfl
  have h := ((Below.refl (w.heap.size) w2).setCell (p := ⟨w.heap.size, 0, none⟩) (Nat.le_refl _) x').setCell (p := ⟨w.heap.size, 1, none⟩) (Nat.le_refl _) y' |>.setCell (p := ⟨w.heap.size, 2, none⟩) (Nat.le_refl _) z'
  refine ⟨hB.trans h, Nat.le_trans hz h.size, ?_, ?_, ?_, ?_, ?_, ?_⟩ <;> simp [go_sem, *]
/-- The same, the second box of two cells. -/
theorem box32f {w w1 : World} {x y z x' y' : Value} {T T' : Nat} (hb : Below ((w.alloc (.cells #[x, y, z] T)).alloc (.cells #[x', y'] T')).heap.size ((w.alloc (.cells #[x, y, z] T)).alloc (.cells #[x', y'] T')) w1) :
    Below w.heap.size w w1 ∧ w.heap.size + 2 ≤ w1.heap.size ∧ w1.cell? ⟨w.heap.size, 0, none⟩ = some x ∧ w1.cell? ⟨w.heap.size, 1, none⟩ = some y ∧ w1.cell? ⟨w.heap.size, 2, none⟩ = some z
      ∧ w1.cell? ⟨w.heap.size + 1, 0, none⟩ = some x' ∧ w1.cell? ⟨w.heap.size + 1, 1, none⟩ = some y'
      ∧ w1.frozen? ⟨w.heap.size, 0, none⟩ = false ∧ w1.frozen? ⟨w.heap.size, 1, none⟩ = false ∧ w1.frozen? ⟨w.heap.size, 2, none⟩ = false :=
  ⟨nextb (((Below.refl _ _).alloc (Nat.le_refl _) _).alloc (by simp) _) (by simp; omega) hb, by have := hb.size; simpa using this, stepc hb (by simp; omega) (by simp), stepc hb (by simp; omega) (by simp), stepc hb (by simp; omega) (by simp),
    stepc hb (by simp) (by simp), stepc hb (by simp) (by simp),
    ((bcell hb).2 _ _ (by simp; omega)).trans (by simp), ((bcell hb).2 _ _ (by simp; omega)).trans (by simp), ((bcell hb).2 _ _ (by simp; omega)).trans (by simp)⟩

theorem boxset2 {w w2 : World} {x y z p q : Value} (x' y' z' : Value) (hB : Below w.heap.size w w2) (hz : w.heap.size + 2 ≤ w2.heap.size)
    (c0 : w2.cell? ⟨w.heap.size, 0, none⟩ = some x) (c1 : w2.cell? ⟨w.heap.size, 1, none⟩ = some y) (c2 : w2.cell? ⟨w.heap.size, 2, none⟩ = some z)
    (d0 : w2.cell? ⟨w.heap.size + 1, 0, none⟩ = some p) (d1 : w2.cell? ⟨w.heap.size + 1, 1, none⟩ = some q) :
    ∀ w3, w3 = ((w2.setCell ⟨w.heap.size, 0, none⟩ x').setCell ⟨w.heap.size, 1, none⟩ y').setCell ⟨w.heap.size, 2, none⟩ z' →
    Below w.heap.size w w3 ∧ w.heap.size + 2 ≤ w3.heap.size ∧ w3.cell? ⟨w.heap.size, 0, none⟩ = some x' ∧ w3.cell? ⟨w.heap.size, 1, none⟩ = some y' ∧ w3.cell? ⟨w.heap.size, 2, none⟩ = some z'
      ∧ w3.cell? ⟨w.heap.size + 1, 0, none⟩ = some p ∧ w3.cell? ⟨w.heap.size + 1, 1, none⟩ = some q := by
  rintro w3 rfl
  have h := ((Below.refl (w.heap.size) w2).setCell (p := ⟨w.heap.size, 0, none⟩) (Nat.le_refl _) x').setCell (p := ⟨w.heap.size, 1, none⟩) (Nat.le_refl _) y' |>.setCell (p := ⟨w.heap.size, 2, none⟩) (Nat.le_refl _) z'
  refine ⟨hB.trans h, Nat.le_trans hz h.size, ?_, ?_, ?_, ?_, ?_⟩ <;> simp [go_sem, *]

/-- Two boxes of three cells, neither frozen. -/
structure St33 (w : World) (x y z x' y' z' : Value) (wx : World) : Prop where
  hB : Below w.heap.size w wx
  hz : w.heap.size + 2 ≤ wx.heap.size
  c0 : wx.cell? ⟨w.heap.size, 0, none⟩ = some x
  c1 : wx.cell? ⟨w.heap.size, 1, none⟩ = some y
  c2 : wx.cell? ⟨w.heap.size, 2, none⟩ = some z
  d0 : wx.cell? ⟨w.heap.size + 1, 0, none⟩ = some x'
  d1 : wx.cell? ⟨w.heap.size + 1, 1, none⟩ = some y'
  d2 : wx.cell? ⟨w.heap.size + 1, 2, none⟩ = some z'
  f0 : wx.frozen? ⟨w.heap.size, 0, none⟩ = false
  f1 : wx.frozen? ⟨w.heap.size, 1, none⟩ = false
  f2 : wx.frozen? ⟨w.heap.size, 2, none⟩ = false
  g0 : wx.frozen? ⟨w.heap.size + 1, 0, none⟩ = false
  g1 : wx.frozen? ⟨w.heap.size + 1, 1, none⟩ = false
  g2 : wx.frozen? ⟨w.heap.size + 1, 2, none⟩ = false

theorem stepf {W w1 : World} (hb : Below W.heap.size W w1) {b o : Nat} (h : b < W.heap.size) (c : W.frozen? ⟨b, o, none⟩ = false) : w1.frozen? ⟨b, o, none⟩ = false := by
  rw [hb.frozen (p := ⟨b, o, none⟩) h]; exact c

theorem st33_box (w : World) (x y z x' y' z' : Value) (T T' : Nat) : St33 w x y z x' y' z' ((w.alloc (.cells #[x, y, z] T)).alloc (.cells #[x', y', z'] T')).drew where
  hB := (((Below.refl _ _).alloc (Nat.le_refl _) _).alloc (by simp) _).drew
  hz := by simp
  c0 := by simp [go_sem]
  c1 := by simp [go_sem]
  c2 := by simp [go_sem]
  d0 := by simp [go_sem]
  d1 := by simp [go_sem]
  d2 := by simp [go_sem]
  f0 := by simp [go_sem]
  f1 := by simp [go_sem]
  f2 := by simp [go_sem]
  g0 := by simp [go_sem]
  g1 := by simp [go_sem]
  g2 := by simp [go_sem]

theorem st33_step {w wx w1 : World} {x y z x' y' z' : Value} (h : St33 w x y z x' y' z' wx) (hb : Below wx.heap.size wx w1) : St33 w x y z x' y' z' w1 := by
  obtain ⟨hB, hz, c0, c1, c2, d0, d1, d2, f0, f1, f2, g0, g1, g2⟩ := h
  exact ⟨nextw hB hb, Nat.le_trans hz hb.size, stepc hb (by omega) c0, stepc hb (by omega) c1, stepc hb (by omega) c2, stepc hb (by omega) d0, stepc hb (by omega) d1, stepc hb (by omega) d2,
    stepf hb (by omega) f0, stepf hb (by omega) f1, stepf hb (by omega) f2, stepf hb (by omega) g0, stepf hb (by omega) g1, stepf hb (by omega) g2⟩

theorem st33_set {w w2 : World} {x y z x' y' z' : Value} (h : St33 w x y z x' y' z' w2) (p q r p' q' r' : Value) :
    ∀ w3, w3 = (((((w2.setCell ⟨w.heap.size, 0, none⟩ p).setCell ⟨w.heap.size, 1, none⟩ q).setCell ⟨w.heap.size, 2, none⟩ r).setCell ⟨w.heap.size + 1, 0, none⟩ p').setCell ⟨w.heap.size + 1, 1, none⟩ q').setCell ⟨w.heap.size + 1, 2, none⟩ r' →
    Below w.heap.size w w3 ∧ w.heap.size + 2 ≤ w3.heap.size ∧ w3.cell? ⟨w.heap.size, 0, none⟩ = some p ∧ w3.cell? ⟨w.heap.size, 1, none⟩ = some q ∧ w3.cell? ⟨w.heap.size, 2, none⟩ = some r
      ∧ w3.cell? ⟨w.heap.size + 1, 0, none⟩ = some p' ∧ w3.cell? ⟨w.heap.size + 1, 1, none⟩ = some q' ∧ w3.cell? ⟨w.heap.size + 1, 2, none⟩ = some r' := by
  rintro w3 rfl
  obtain ⟨hB, hz, c0, c1, c2, d0, d1, d2, -, -, -, -, -, -⟩ := h
  have h := (((((Below.refl (w.heap.size) w2).setCell (p := ⟨w.heap.size, 0, none⟩) (Nat.le_refl _) p).setCell (p := ⟨w.heap.size, 1, none⟩) (Nat.le_refl _) q).setCell (p := ⟨w.heap.size, 2, none⟩) (Nat.le_refl _) r).setCell (p := ⟨w.heap.size + 1, 0, none⟩) (Nat.le_succ _) p').setCell (p := ⟨w.heap.size + 1, 1, none⟩) (Nat.le_succ _) q' |>.setCell (p := ⟨w.heap.size + 1, 2, none⟩) (Nat.le_succ _) r'
  refine ⟨hB.trans h, Nat.le_trans hz h.size, ?_, ?_, ?_, ?_, ?_, ?_⟩ <;> simp [go_sem, *]

/-- One call further, behind a new block. -/
theorem step3a {w wk w1 : World} {b n : Nat} {x y z : Value} {o : Obj} (hB : Below w.heap.size w wk) (hz : w.heap.size + n ≤ wk.heap.size) (hlt : b < wk.heap.size)
    (c0 : wk.cell? ⟨b, 0, none⟩ = some x) (c1 : wk.cell? ⟨b, 1, none⟩ = some y) (c2 : wk.cell? ⟨b, 2, none⟩ = some z) (hb : Below (wk.alloc o).heap.size (wk.alloc o) w1) :
    Below w.heap.size w w1 ∧ w.heap.size + n ≤ w1.heap.size ∧ w1.cell? ⟨b, 0, none⟩ = some x ∧ w1.cell? ⟨b, 1, none⟩ = some y ∧ w1.cell? ⟨b, 2, none⟩ = some z := by
  have h : Below wk.heap.size wk w1 := ((Below.refl wk.heap.size wk).alloc (Nat.le_refl _) o).trans (hb.mono (by simp))
  exact step3 hB hz hlt c0 c1 c2 h
/-- What loads come to in the worlds of a region. -/
theorem ext3 {wk : World} {b : Nat} {x y z : Value} (hlt : b < wk.heap.size)
    (c0 : wk.cell? ⟨b, 0, none⟩ = some x) (c1 : wk.cell? ⟨b, 1, none⟩ = some y) (c2 : wk.cell? ⟨b, 2, none⟩ = some z) :
    (∀ q, (ext wk q).cell? ⟨b, 0, none⟩ = some x) ∧ (∀ q, (ext wk q).cell? ⟨b, 1, none⟩ = some y) ∧ (∀ q, (ext wk q).cell? ⟨b, 2, none⟩ = some z) :=
  ⟨fun q => stepc (ext_below wk q) hlt c0, fun q => stepc (ext_below wk q) hlt c1, fun q => stepc (ext_below wk q) hlt c2⟩
end Go.Proofs.YtnhpjacodhdpeaaDoor
