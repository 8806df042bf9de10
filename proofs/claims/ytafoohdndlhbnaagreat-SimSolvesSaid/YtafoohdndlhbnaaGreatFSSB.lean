/-
  A region that draws its order, whose operations read old memory and whose calls make new memory alone: one walk in the order of the text.
  The class of worlds: 'ext W x': x where x is W below its size, else W.
  A slice of integers, as a contract names it: nil or not, cut or whole.
  Numbers as rows of bits, the lowest first; sums by hand; products row by row.
  Rows that a call has made itself: what is kept of them.
  Where a graph lies: its own struct, its nodes, its inputs, its map; what is left as it was while it grows.
-/
import Derived.Test.YtafoohdndlhbnaaGreatProg
import Derived.WalkKit
import Derived.WalkSpells
import Derived.WalkLawsBesides
import Derived.BigQuiet
import Derived.Lib.Hide
import Derived.Test.YtafoohdndlhbnaaGreatFSSA
import Derived.Maps.OwnSet
import Derived.WideKeyPair
section
namespace Go.Proofs.YtafoohdndlhbnaaGreat
open Go.RowKit

theorem bcell {W w1 : World} (hb : Below W.heap.size W w1) : (∀ b o, b < W.heap.size → w1.cell? ⟨b, o, none⟩ = W.cell? ⟨b, o, none⟩) ∧ (∀ b o, b < W.heap.size → w1.frozen? ⟨b, o, none⟩ = W.frozen? ⟨b, o, none⟩) :=
  ⟨fun b o h => hb.cell (p := ⟨b, o, none⟩) h, fun b o h => hb.frozen (p := ⟨b, o, none⟩) h⟩

open Classical in
noncomputable def ext (W x : World) : World := if Below W.heap.size W x then x else W

theorem ext_below (W x : World) : Below W.heap.size W (ext W x) := by
  unfold ext; split
  · assumption
  · exact Below.refl _ _

theorem ext_cell (W x : World) (b o : Nat) (h : b < W.heap.size) : (ext W x).cell? ⟨b, o, none⟩ = W.cell? ⟨b, o, none⟩ := (bcell (ext_below W x)).1 b o h

theorem ext_of {W x : World} (h : Below W.heap.size W x) : x = ext W x := by unfold ext; rw [if_pos h]

theorem below_of_ext {W w' : World} (h : ∃ x, w' = ext W x) : Below W.heap.size W w' := by
  obtain ⟨x, rfl⟩ := h; exact ext_below W x

/-- A callee's contract, met in one of the worlds. -/
theorem Calls.ext_of {P : Program} {f : FuncId} {args : Array Value} {W x : World} {v : Value}
    (h : Calls P f args (ext W x) fun e w' => e = .returned v ∧ Below (ext W x).heap.size (ext W x) w') : Calls P f args (ext W x) fun e w'' => e = .returned v ∧ ∃ y, w'' = ext W y :=
  h.mono fun _ w' ⟨he, hm⟩ => ⟨he, w', YtafoohdndlhbnaaGreat.ext_of ((ext_below W x).trans (hm.mono (ext_below W x).size))⟩

theorem wp_region_ext {P : Program} {id : Nat} {Q : Exit → Act → World → Prop} {a : Act} {w : World} {l : List Oper} (hm : P.follows .mixedOrders = true) (hB : Region.lexB .any l.toArray = true)
    (h : wpQuiet P l.toArray (fun w' => ∃ x, w' = ext w x) (fun a' => ∀ w', (∃ x, w' = ext w x) → Q .normal a' w') l a) : (Code.region id l.toArray true).wp P Q a w :=
  wp_region_quiet (C := fun w' => ∃ x, w' = ext w x) hm hB ⟨w.drew, YtafoohdndlhbnaaGreat.ext_of (Below.refl _ _).drew⟩ (by simpa using h)

theorem ret_int {k : IntKind} {a b : Int} (h : a = b) : Ending.returned (.int k a) = .returned (.int k b) := by rw [h]
theorem ret_bool {a b : Bool} (h : a = b) : Ending.returned (.bool a) = .returned (.bool b) := by rw [h]
theorem ret_int2 {k k' : IntKind} {a b : Int} {c d : Int} (h : a = b) (h' : c = d) : Ending.returned (.tuple #[.int k a, .int k' c]) = .returned (.tuple #[.int k b, .int k' d]) := by rw [h, h']
theorem ret_intb {k : IntKind} {a b : Int} {c d : Bool} (h : a = b) (h' : c = d) : Ending.returned (.tuple #[.int k a, .bool c]) = .returned (.tuple #[.int k b, .bool d]) := by rw [h, h']
theorem stepc {W w1 : World} (hb : Below W.heap.size W w1) {b o : Nat} {v : Value} (h : b < W.heap.size) (c : W.cell? ⟨b, o, none⟩ = some v) : w1.cell? ⟨b, o, none⟩ = some v := by
  rw [hb.cell (p := ⟨b, o, none⟩) h]; exact c
/-- One call further. -/
theorem nextb {B : Nat} {w w0 w1 : World} (h0 : Below B w w0) (hB : B ≤ w0.heap.size) (hb : Below w0.heap.size w0 w1) : Below B w w1 := h0.trans (hb.mono hB)

theorem nextw {w wk w1 : World} (hB : Below w.heap.size w wk) (hb : Below wk.heap.size wk w1) : Below w.heap.size w w1 := hB.trans (hb.mono hB.size)

/-- The state at a function's own box of three cells: one call further. -/
theorem step3 {w wk w1 : World} {b n : Nat} {x y z : Value} (hB : Below w.heap.size w wk) (hz : w.heap.size + n ≤ wk.heap.size) (hlt : b < wk.heap.size)
    (c0 : wk.cell? ⟨b, 0, none⟩ = some x) (c1 : wk.cell? ⟨b, 1, none⟩ = some y) (c2 : wk.cell? ⟨b, 2, none⟩ = some z) (hb : Below wk.heap.size wk w1) :
    Below w.heap.size w w1 ∧ w.heap.size + n ≤ w1.heap.size ∧ w1.cell? ⟨b, 0, none⟩ = some x ∧ w1.cell? ⟨b, 1, none⟩ = some y ∧ w1.cell? ⟨b, 2, none⟩ = some z :=
  ⟨nextb hB (by omega) hb, Nat.le_trans hz hb.size, stepc hb hlt c0, stepc hb hlt c1, stepc hb hlt c2⟩
/-- The first call behind the box. -/
theorem box3 {w w1 : World} {x y z : Value} {T : Nat} (hb : Below (w.alloc (.cells #[x, y, z] T)).heap.size (w.alloc (.cells #[x, y, z] T)) w1) :
    Below w.heap.size w w1 ∧ w.heap.size + 1 ≤ w1.heap.size ∧ w1.cell? ⟨w.heap.size, 0, none⟩ = some x ∧ w1.cell? ⟨w.heap.size, 1, none⟩ = some y ∧ w1.cell? ⟨w.heap.size, 2, none⟩ = some z :=
  ⟨nextb ((Below.refl _ _).alloc (Nat.le_refl _) _) (by simp) hb, by have := hb.size; simpa using this, stepc hb (by simp) (by simp), stepc hb (by simp) (by simp), stepc hb (by simp) (by simp)⟩
/-- The first call behind two boxes. -/
theorem box33 {w w1 : World} {x y z x' y' z' : Value} {T : Nat} (hb : Below ((w.alloc (.cells #[x, y, z] T)).alloc (.cells #[x', y', z'] T)).heap.size ((w.alloc (.cells #[x, y, z] T)).alloc (.cells #[x', y', z'] T)) w1) :
    Below w.heap.size w w1 ∧ w.heap.size + 2 ≤ w1.heap.size ∧ w1.cell? ⟨w.heap.size, 0, none⟩ = some x ∧ w1.cell? ⟨w.heap.size, 1, none⟩ = some y ∧ w1.cell? ⟨w.heap.size, 2, none⟩ = some z
      ∧ w1.cell? ⟨w.heap.size + 1, 0, none⟩ = some x' ∧ w1.cell? ⟨w.heap.size + 1, 1, none⟩ = some y' ∧ w1.cell? ⟨w.heap.size + 1, 2, none⟩ = some z' :=
  ⟨nextb (((Below.refl _ _).alloc (Nat.le_refl _) _).alloc (by simp) _) (by simp; omega) hb, by have := hb.size; simpa using this, stepc hb (by simp; omega) (by simp), stepc hb (by simp; omega) (by simp), stepc hb (by simp; omega) (by simp),
    stepc hb (by simp) (by simp), stepc hb (by simp) (by simp), stepc hb (by simp) (by simp)⟩
/-- The first call behind two boxes of three cells, the first of which is written behind it. -/
theorem box33f {w w1 : World} {x y z x' y' z' : Value} {T T' : Nat} (hb : Below ((w.alloc (.cells #[x, y, z] T)).alloc (.cells #[x', y', z'] T')).heap.size ((w.alloc (.cells #[x, y, z] T)).alloc (.cells #[x', y', z'] T')) w1) :
    Below w.heap.size w w1 ∧ w.heap.size + 2 ≤ w1.heap.size ∧ w1.cell? ⟨w.heap.size, 0, none⟩ = some x ∧ w1.cell? ⟨w.heap.size, 1, none⟩ = some y ∧ w1.cell? ⟨w.heap.size, 2, none⟩ = some z
      ∧ w1.cell? ⟨w.heap.size + 1, 0, none⟩ = some x' ∧ w1.cell? ⟨w.heap.size + 1, 1, none⟩ = some y' ∧ w1.cell? ⟨w.heap.size + 1, 2, none⟩ = some z'
      ∧ w1.frozen? ⟨w.heap.size, 0, none⟩ = false ∧ w1.frozen? ⟨w.heap.size, 1, none⟩ = false ∧ w1.frozen? ⟨w.heap.size, 2, none⟩ = false :=
  ⟨nextb (((Below.refl _ _).alloc (Nat.le_refl _) _).alloc (by simp) _) (by simp; omega) hb, by have := hb.size; simpa using this, stepc hb (by simp; omega) (by simp), stepc hb (by simp; omega) (by simp), stepc hb (by simp; omega) (by simp),
    stepc hb (by simp) (by simp), stepc hb (by simp) (by simp), stepc hb (by simp) (by simp),
    ((bcell hb).2 _ _ (by simp; omega)).trans (by simp), ((bcell hb).2 _ _ (by simp; omega)).trans (by simp), ((bcell hb).2 _ _ (by simp; omega)).trans (by simp)⟩

/-- The first box written anew. -/
theorem boxset {w w2 : World} {x y z p q r : Value} (x' y' z' : Value) (hB : Below w.heap.size w w2) (hz : w.heap.size + 2 ≤ w2.heap.size)
    (c0 : w2.cell? ⟨w.heap.size, 0, none⟩ = some x) (c1 : w2.cell? ⟨w.heap.size, 1, none⟩ = some y) (c2 : w2.cell? ⟨w.heap.size, 2, none⟩ = some z)
    (d0 : w2.cell? ⟨w.heap.size + 1, 0, none⟩ = some p) (d1 : w2.cell? ⟨w.heap.size + 1, 1, none⟩ = some q) (d2 : w2.cell? ⟨w.heap.size + 1, 2, none⟩ = some r) :
    ∀ w3, w3 = ((w2.setCell ⟨w.heap.size, 0, none⟩ x').setCell ⟨w.heap.size, 1, none⟩ y').setCell ⟨w.heap.size, 2, none⟩ z' →
    Below w.heap.size w w3 ∧ w.heap.size + 2 ≤ w3.heap.size ∧ w3.cell? ⟨w.heap.size, 0, none⟩ = some x' ∧ w3.cell? ⟨w.heap.size, 1, none⟩ = some y' ∧ w3.cell? ⟨w.heap.size, 2, none⟩ = some z'
      ∧ w3.cell? ⟨w.heap.size + 1, 0, none⟩ = some p ∧ w3.cell? ⟨w.heap.size + 1, 1, none⟩ = some q ∧ w3.cell? ⟨w.heap.size + 1, 2, none⟩ = some r := by
  rintro w3 rfl
  have h := ((Below.refl (w.heap.size) w2).setCell (p := ⟨w.heap.size, 0, none⟩) (Nat.le_refl _) x').setCell (p := ⟨w.heap.size, 1, none⟩) (Nat.le_refl _) y' |>.setCell (p := ⟨w.heap.size, 2, none⟩) (Nat.le_refl _) z'
  refine ⟨hB.trans h, Nat.le_trans hz h.size, ?_, ?_, ?_, ?_, ?_, ?_⟩ <;> simp [go_sem, *]
/-- The same, the second box of two cells. -/
theorem box32f {w w1 : World} {x y z x' y' : Value} {T T' : Nat} (hb : Below ((w.alloc (.cells #[x, y, z] T)).alloc (.cells #[x', y'] T')).heap.size ((w.alloc (.cells #[x, y, z] T)).alloc (.cells #[x', y'] T')) w1) :
    Below w.heap.size w w1 ∧ w.heap.size + 2 ≤ w1.heap.size ∧ w1.cell? ⟨w.heap.size, 0, none⟩ = some x ∧ w1.cell? ⟨w.heap.size, 1, none⟩ = some y ∧ w1.cell? ⟨w.heap.size, 2, none⟩ = some z
      ∧ w1.cell? ⟨w.heap.size + 1, 0, none⟩ = some x' ∧ w1.cell? ⟨w.heap.size + 1, 1, none⟩ = some y'
      ∧ w1.frozen? ⟨w.heap.size, 0, none⟩ = false ∧ w1.frozen? ⟨w.heap.size, 1, none⟩ = false ∧ w1.frozen? ⟨w.heap.size, 2, none⟩ = false :=
  ⟨nextb (((Below.refl _ _).alloc (Nat.le_refl _) _).alloc (by simp) _) (by simp; omega) hb, by have := hb.size; simpa using this, stepc hb (by simp; omega) (by simp), stepc hb (by simp; omega) (by simp), stepc hb (by simp; omega) (by simp),
    stepc hb (by simp) (by simp), stepc hb (by simp) (by simp),
    ((bcell hb).2 _ _ (by simp; omega)).trans (by simp), ((bcell hb).2 _ _ (by simp; omega)).trans (by simp), ((bcell hb).2 _ _ (by simp; omega)).trans (by simp)⟩

theorem boxset2 {w w2 : World} {x y z p q : Value} (x' y' z' : Value) (hB : Below w.heap.size w w2) (hz : w.heap.size + 2 ≤ w2.heap.size)
    (c0 : w2.cell? ⟨w.heap.size, 0, none⟩ = some x) (c1 : w2.cell? ⟨w.heap.size, 1, none⟩ = some y) (c2 : w2.cell? ⟨w.heap.size, 2, none⟩ = some z)
    (d0 : w2.cell? ⟨w.heap.size + 1, 0, none⟩ = some p) (d1 : w2.cell? ⟨w.heap.size + 1, 1, none⟩ = some q) :
    ∀ w3, w3 = ((w2.setCell ⟨w.heap.size, 0, none⟩ x').setCell ⟨w.heap.size, 1, none⟩ y').setCell ⟨w.heap.size, 2, none⟩ z' →
    Below w.heap.size w w3 ∧ w.heap.size + 2 ≤ w3.heap.size ∧ w3.cell? ⟨w.heap.size, 0, none⟩ = some x' ∧ w3.cell? ⟨w.heap.size, 1, none⟩ = some y' ∧ w3.cell? ⟨w.heap.size, 2, none⟩ = some z'
      ∧ w3.cell? ⟨w.heap.size + 1, 0, none⟩ = some p ∧ w3.cell? ⟨w.heap.size + 1, 1, none⟩ = some q := by
  rintro w3 rfl
  have h := ((Below.refl (w.heap.size) w2).setCell (p := ⟨w.heap.size, 0, none⟩) (Nat.le_refl _) x').setCell (p := ⟨w.heap.size, 1, none⟩) (Nat.le_refl _) y' |>.setCell (p := ⟨w.heap.size, 2, none⟩) (Nat.le_refl _) z'
  refine ⟨hB.trans h, Nat.le_trans hz h.size, ?_, ?_, ?_, ?_, ?_⟩ <;> simp [go_sem, *]

/-- Two boxes of three cells, neither frozen. -/
structure St33 (w : World) (x y z x' y' z' : Value) (wx : World) : Prop where
  hB : Below w.heap.size w wx
  hz : w.heap.size + 2 ≤ wx.heap.size
  c0 : wx.cell? ⟨w.heap.size, 0, none⟩ = some x
  c1 : wx.cell? ⟨w.heap.size, 1, none⟩ = some y
  c2 : wx.cell? ⟨w.heap.size, 2, none⟩ = some z
  d0 : wx.cell? ⟨w.heap.size + 1, 0, none⟩ = some x'
  d1 : wx.cell? ⟨w.heap.size + 1, 1, none⟩ = some y'
  d2 : wx.cell? ⟨w.heap.size + 1, 2, none⟩ = some z'
  f0 : wx.frozen? ⟨w.heap.size, 0, none⟩ = false
  f1 : wx.frozen? ⟨w.heap.size, 1, none⟩ = false
  f2 : wx.frozen? ⟨w.heap.size, 2, none⟩ = false
  g0 : wx.frozen? ⟨w.heap.size + 1, 0, none⟩ = false
  g1 : wx.frozen? ⟨w.heap.size + 1, 1, none⟩ = false
  g2 : wx.frozen? ⟨w.heap.size + 1, 2, none⟩ = false

theorem stepf {W w1 : World} (hb : Below W.heap.size W w1) {b o : Nat} (h : b < W.heap.size) (c : W.frozen? ⟨b, o, none⟩ = false) : w1.frozen? ⟨b, o, none⟩ = false := by
  rw [hb.frozen (p := ⟨b, o, none⟩) h]; exact c

theorem st33_box (w : World) (x y z x' y' z' : Value) (T T' : Nat) : St33 w x y z x' y' z' ((w.alloc (.cells #[x, y, z] T)).alloc (.cells #[x', y', z'] T')).drew where
  hB := (((Below.refl _ _).alloc (Nat.le_refl _) _).alloc (by simp) _).drew
  hz := by simp
  c0 := by simp [go_sem]
  c1 := by simp [go_sem]
  c2 := by simp [go_sem]
  d0 := by simp [go_sem]
  d1 := by simp [go_sem]
  d2 := by simp [go_sem]
  f0 := by simp [go_sem]
  f1 := by simp [go_sem]
  f2 := by simp [go_sem]
  g0 := by simp [go_sem]
  g1 := by simp [go_sem]
  g2 := by simp [go_sem]

theorem st33_step {w wx w1 : World} {x y z x' y' z' : Value} (h : St33 w x y z x' y' z' wx) (hb : Below wx.heap.size wx w1) : St33 w x y z x' y' z' w1 := by
  obtain ⟨hB, hz, c0, c1, c2, d0, d1, d2, f0, f1, f2, g0, g1, g2⟩ := h
  exact ⟨nextw hB hb, Nat.le_trans hz hb.size, stepc hb (by omega) c0, stepc hb (by omega) c1, stepc hb (by omega) c2, stepc hb (by omega) d0, stepc hb (by omega) d1, stepc hb (by omega) d2,
    stepf hb (by omega) f0, stepf hb (by omega) f1, stepf hb (by omega) f2, stepf hb (by omega) g0, stepf hb (by omega) g1, stepf hb (by omega) g2⟩

theorem st33_set {w w2 : World} {x y z x' y' z' : Value} (h : St33 w x y z x' y' z' w2) (p q r p' q' r' : Value) :
    ∀ w3, w3 = (((((w2.setCell ⟨w.heap.size, 0, none⟩ p).setCell ⟨w.heap.size, 1, none⟩ q).setCell ⟨w.heap.size, 2, none⟩ r).setCell ⟨w.heap.size + 1, 0, none⟩ p').setCell ⟨w.heap.size + 1, 1, none⟩ q').setCell ⟨w.heap.size + 1, 2, none⟩ r' →
    Below w.heap.size w w3 ∧ w.heap.size + 2 ≤ w3.heap.size ∧ w3.cell? ⟨w.heap.size, 0, none⟩ = some p ∧ w3.cell? ⟨w.heap.size, 1, none⟩ = some q ∧ w3.cell? ⟨w.heap.size, 2, none⟩ = some r
      ∧ w3.cell? ⟨w.heap.size + 1, 0, none⟩ = some p' ∧ w3.cell? ⟨w.heap.size + 1, 1, none⟩ = some q' ∧ w3.cell? ⟨w.heap.size + 1, 2, none⟩ = some r' := by
  rintro w3 rfl
  obtain ⟨hB, hz, c0, c1, c2, d0, d1, d2, -, -, -, -, -, -⟩ := h
  have h := (((((Below.refl (w.heap.size) w2).setCell (p := ⟨w.heap.size, 0, none⟩) (Nat.le_refl _) p).setCell (p := ⟨w.heap.size, 1, none⟩) (Nat.le_refl _) q).setCell (p := ⟨w.heap.size, 2, none⟩) (Nat.le_refl _) r).setCell (p := ⟨w.heap.size + 1, 0, none⟩) (Nat.le_succ _) p').setCell (p := ⟨w.heap.size + 1, 1, none⟩) (Nat.le_succ _) q' |>.setCell (p := ⟨w.heap.size + 1, 2, none⟩) (Nat.le_succ _) r'
  refine ⟨hB.trans h, Nat.le_trans hz h.size, ?_, ?_, ?_, ?_, ?_, ?_⟩ <;> simp [go_sem, *]

/-- One call further, behind a new block. -/
theorem step3a {w wk w1 : World} {b n : Nat} {x y z : Value} {o : Obj} (hB : Below w.heap.size w wk) (hz : w.heap.size + n ≤ wk.heap.size) (hlt : b < wk.heap.size)
    (c0 : wk.cell? ⟨b, 0, none⟩ = some x) (c1 : wk.cell? ⟨b, 1, none⟩ = some y) (c2 : wk.cell? ⟨b, 2, none⟩ = some z) (hb : Below (wk.alloc o).heap.size (wk.alloc o) w1) :
    Below w.heap.size w w1 ∧ w.heap.size + n ≤ w1.heap.size ∧ w1.cell? ⟨b, 0, none⟩ = some x ∧ w1.cell? ⟨b, 1, none⟩ = some y ∧ w1.cell? ⟨b, 2, none⟩ = some z := by
  have h : Below wk.heap.size wk w1 := ((Below.refl wk.heap.size wk).alloc (Nat.le_refl _) o).trans (hb.mono (by simp))
  exact step3 hB hz hlt c0 c1 c2 h
/-- What loads come to in the worlds of a region. -/
theorem ext3 {wk : World} {b : Nat} {x y z : Value} (hlt : b < wk.heap.size)
    (c0 : wk.cell? ⟨b, 0, none⟩ = some x) (c1 : wk.cell? ⟨b, 1, none⟩ = some y) (c2 : wk.cell? ⟨b, 2, none⟩ = some z) :
    (∀ q, (ext wk q).cell? ⟨b, 0, none⟩ = some x) ∧ (∀ q, (ext wk q).cell? ⟨b, 1, none⟩ = some y) ∧ (∀ q, (ext wk q).cell? ⟨b, 2, none⟩ = some z) :=
  ⟨fun q => stepc (ext_below wk q) hlt c0, fun q => stepc (ext_below wk q) hlt c1, fun q => stepc (ext_below wk q) hlt c2⟩
end Go.Proofs.YtafoohdndlhbnaaGreat
end

section
namespace Go.Proofs.YtafoohdndlhbnaaGreat
open Go.RowKit

/-- What a slice of integers holds. -/
def Row (k : IntKind) (w : World) (a : Option Addr) (n : Nat) (l : List Int) : Prop :=
  l.length = n ∧ n ≤ 9223372036854775807 ∧ (n = 0 ∨ ∃ b off, a = some ⟨b, off, none⟩ ∧ b < w.heap.size ∧ ∀ i, i < n → w.cell? ⟨b, off + i, none⟩ = some (.int k (l.getD i 0)))

theorem Row.step {k : IntKind} {W w1 : World} {a : Option Addr} {n : Nat} {l : List Int} (h : Row k W a n l) (hb : Below W.heap.size W w1) : Row k w1 a n l := by
  obtain ⟨h1, h2, h3⟩ := h
  refine ⟨h1, h2, ?_⟩
  rcases h3 with h3 | ⟨b, off, rfl, hlt, hc⟩
  · exact .inl h3
  · exact .inr ⟨b, off, rfl, Nat.lt_of_lt_of_le hlt hb.size, fun i hi => stepc hb hlt (hc i hi)⟩
theorem Row.len {k : IntKind} {W : World} {a : Option Addr} {n : Nat} {l : List Int} (h : Row k W a n l) : l.length = n := h.1
theorem Row.le {k : IntKind} {W : World} {a : Option Addr} {n : Nat} {l : List Int} (h : Row k W a n l) : n ≤ 9223372036854775807 := h.2.1
theorem Row.at {k : IntKind} {W : World} {a : Option Addr} {n : Nat} {l : List Int} (h : Row k W a n l) (hn : 0 < n) : ∃ b off, a = some ⟨b, off, none⟩ ∧ b < W.heap.size ∧ ∀ i, i < n → W.cell? ⟨b, off + i, none⟩ = some (.int k (l.getD i 0)) := by
  rcases h.2.2 with h0 | h
  · omega
  · exact h
theorem Row.nil (k : IntKind) (W : World) (a : Option Addr) : Row k W a 0 [] := ⟨rfl, by omega, .inl rfl⟩
theorem Row.take {k : IntKind} {W : World} {a : Option Addr} {n : Nat} {l : List Int} (h : Row k W a n l) (m : Nat) (hm : m ≤ n) : Row k W a m (l.take m) := by
  obtain ⟨h1, h2, h3⟩ := h
  refine ⟨by simp; omega, by omega, ?_⟩
  rcases h3 with h3 | ⟨b, off, rfl, hlt, hc⟩
  · exact .inl (by omega)
  · refine .inr ⟨b, off, rfl, hlt, fun i hi => ?_⟩
    rw [hc i (by omega)]
    have : (l.take m).getD i 0 = l.getD i 0 := by
      simp [List.getD, List.getElem?_take, hi]
    rw [this]
end Go.Proofs.YtafoohdndlhbnaaGreat
end

section
namespace Go.Proofs.YtafoohdndlhbnaaGreat.Bits

/-- A row's number. -/
def num : List Int → Int
  | [] => 0
  | b :: l => b + 2 * num l
def All01 (l : List Int) : Prop := ∀ x ∈ l, x = 0 ∨ x = 1

theorem num_snoc (l : List Int) (x : Int) : num (l ++ [x]) = num l + 2 ^ l.length * x := by
  induction l with
  | nil => simp [num]
  | cons b l ih => simp only [List.cons_append, num, ih, List.length_cons, Int.pow_succ]; rw [Int.mul_add, ← Int.mul_assoc, Int.mul_comm 2 (2 ^ l.length)]; omega
theorem num_bd {l : List Int} (h : All01 l) : 0 ≤ num l ∧ num l < 2 ^ l.length := by
  induction l with
  | nil => simp [num]
  | cons b l ih =>
    have h1 := ih (fun x hx => h x (List.mem_cons_of_mem _ hx))
    have h2 := h b (List.mem_cons_self ..)
    simp only [num, List.length_cons, Int.pow_succ]
    omega
theorem getD_01 {l : List Int} (h : All01 l) (i : Nat) : l.getD i 0 = 0 ∨ l.getD i 0 = 1 := by
  by_cases hi : i < l.length
  · have : l.getD i 0 = l[i] := by simp [List.getD, hi]
    rw [this]; exact h _ (List.getElem_mem hi)
  · left; simp [List.getD, hi]
theorem num_take_succ (l : List Int) (i : Nat) (h : i < l.length) : num (l.take (i + 1)) = num (l.take i) + 2 ^ i * l.getD i 0 := by
  rw [List.take_succ_eq_append_getElem h, num_snoc]
  simp [List.getD, h, Nat.min_eq_left (Nat.le_of_lt h)]
theorem num_drop (l : List Int) (i : Nat) (h : i < l.length) : num (l.drop i) = l.getD i 0 + 2 * num (l.drop (i + 1)) := by
  rw [List.drop_eq_getElem_cons h]; simp [num, List.getD, h]
theorem num_split (l : List Int) (i : Nat) (h : i ≤ l.length) : num l = num (l.take i) + 2 ^ i * num (l.drop i) := by
  induction i with
  | zero => simp [num]
  | succ i ih =>
    rw [ih (by omega), num_take_succ l i (by omega), num_drop l i (by omega), Int.mul_add, Int.pow_succ]
    rw [← Int.mul_assoc]; omega

/-- A row by its places. -/
def row (n : Nat) (f : Nat → Int) : List Int := (List.range n).map f
theorem row_length (n : Nat) (f : Nat → Int) : (row n f).length = n := by simp [row]
theorem row_succ (n : Nat) (f : Nat → Int) : row (n + 1) f = row n f ++ [f n] := by simp [row, List.range_succ]
theorem row_getD (n : Nat) (f : Nat → Int) (i : Nat) (h : i < n) : (row n f).getD i 0 = f i := by simp [row, List.getD, h]
theorem row_num_succ (n : Nat) (f : Nat → Int) : num (row (n + 1) f) = num (row n f) + 2 ^ n * f n := by rw [row_succ, num_snoc, row_length]
theorem row_01 {n : Nat} {f : Nat → Int} (h : ∀ i, i < n → f i = 0 ∨ f i = 1) : All01 (row n f) := by
  intro x hx
  simp [row] at hx
  obtain ⟨i, hi, rfl⟩ := hx
  exact h i hi
theorem row_take (n : Nat) (f : Nat → Int) (i : Nat) (h : i ≤ n) : (row n f).take i = row i f := by
  simp [row, ← List.map_take, List.take_range, Nat.min_eq_left h]
theorem row_of (l : List Int) : l = row l.length (fun i => l.getD i 0) := by
  apply List.ext_getElem
  · simp [row]
  · intro i h1 h2; simp [row, List.getD, h1]
theorem row_congr {n : Nat} {f g : Nat → Int} (h : ∀ i, i < n → f i = g i) : row n f = row n g := by
  unfold row; exact List.map_congr_left (fun i hi => h i (by simpa using hi))

/-- A number's bit. -/
def bt (a i : Nat) : Int := ((a / 2 ^ i % 2 : Nat) : Int)
theorem bt_01 (a i : Nat) : bt a i = 0 ∨ bt a i = 1 := by unfold bt; omega
theorem num_bt (a k : Nat) : num (row k (bt a)) = ((a % 2 ^ k : Nat) : Int) := by
  induction k with
  | zero => simp [row, num, Nat.mod_one]
  | succ k ih =>
    rw [row_num_succ, ih, Nat.pow_succ, Nat.mod_mul]
    unfold bt; push_cast; rfl
theorem bt_test (a i : Nat) : bt a i = if a.testBit i then 1 else 0 := by
  unfold bt
  rw [Nat.testBit_eq_decide_div_mod_eq]
  by_cases h : a / 2 ^ i % 2 = 1
  · simp [h]
  · have : a / 2 ^ i % 2 = 0 := by omega
    simp [this]
theorem bt_and (a b i : Nat) : bt (a &&& b) i = bt a i * bt b i := by
  rw [bt_test, bt_test, bt_test, Nat.testBit_and]; cases a.testBit i <;> cases b.testBit i <;> rfl
theorem bt_or (a b i : Nat) : bt (a ||| b) i = (bt a i + bt b i + 1) / 2 := by
  rw [bt_test, bt_test, bt_test, Nat.testBit_or]; cases a.testBit i <;> cases b.testBit i <;> rfl
theorem bt_xor (a b i : Nat) : bt (a ^^^ b) i = (bt a i + bt b i) % 2 := by
  rw [bt_test, bt_test, bt_test, Nat.testBit_xor]; cases a.testBit i <;> cases b.testBit i <;> rfl

/-- Sums by hand. -/
def carry (f g : Nat → Int) (c : Int) : Nat → Int
  | 0 => c
  | i + 1 => (f i + g i + carry f g c i) / 2
def sumAt (f g : Nat → Int) (c : Int) (i : Nat) : Int := (f i + g i + carry f g c i) % 2
theorem carry_01 {f g : Nat → Int} {c : Int} {n : Nat} (hf : ∀ i, i < n → f i = 0 ∨ f i = 1) (hg : ∀ i, i < n → g i = 0 ∨ g i = 1) (hc : c = 0 ∨ c = 1) : ∀ i, i ≤ n → carry f g c i = 0 ∨ carry f g c i = 1 := by
  intro i
  induction i with
  | zero => intro _; exact hc
  | succ i ih =>
    intro h
    have h1 := ih (by omega)
    have h2 := hf i (by omega)
    have h3 := hg i (by omega)
    show (f i + g i + carry f g c i) / 2 = 0 ∨ (f i + g i + carry f g c i) / 2 = 1
    omega
theorem sum_full (f g : Nat → Int) (c : Int) (n : Nat) : num (row n (sumAt f g c)) + 2 ^ n * carry f g c n = num (row n f) + num (row n g) + c := by
  induction n with
  | zero => simp [row, num, carry]
  | succ n ih =>
    rw [row_num_succ, row_num_succ, row_num_succ]
    have e : f n + g n + carry f g c n = 2 * carry f g c (n + 1) + sumAt f g c n := by
      unfold sumAt
      show _ = 2 * ((f n + g n + carry f g c n) / 2) + _
      omega
    have e2 : 2 ^ n * (f n + g n + carry f g c n) = 2 ^ n * (2 * carry f g c (n + 1) + sumAt f g c n) := by rw [e]
    rw [Int.mul_add, Int.mul_add, Int.mul_add] at e2
    rw [Int.pow_succ, Int.mul_assoc]
    omega
theorem sum_01 (f g : Nat → Int) (c : Int) (i : Nat) : sumAt f g c i = 0 ∨ sumAt f g c i = 1 := by unfold sumAt; omega
theorem sum_mod (f g : Nat → Int) (c : Int) (n : Nat) : num (row n (sumAt f g c)) = (num (row n f) + num (row n g) + c) % 2 ^ n := by
  have h1 := sum_full f g c n
  have h2 := num_bd (row_01 (n := n) (fun i _ => sum_01 f g c i))
  rw [row_length] at h2
  rw [← h1, Int.add_mul_emod_self_left]
  exact (Int.emod_eq_of_lt h2.1 h2.2).symm
theorem num_turn (f : Nat → Int) (n : Nat) : num (row n (fun i => 1 - f i)) = 2 ^ n - 1 - num (row n f) := by
  induction n with
  | zero => simp [row, num]
  | succ n ih => rw [row_num_succ, row_num_succ, ih, Int.pow_succ, Int.mul_sub]; omega

/-- A product's row: shifted up by i. -/
def upRow (f : Nat → Int) (i k : Nat) : Int := if k < i then 0 else f (k - i)
theorem num_upRow (f : Nat → Int) (i n : Nat) : num (row (i + n) (upRow f i)) = 2 ^ i * num (row n f) := by
  induction n with
  | zero =>
    have : ∀ j, j ≤ i → num (row j (upRow f i)) = 0 := by
      intro j
      induction j with
      | zero => intro _; simp [row, num]
      | succ j ih => intro h; rw [row_num_succ, ih (by omega)]; unfold upRow; rw [if_pos (by omega)]; simp
    rw [Nat.add_zero, this i (Nat.le_refl _)]; simp [row, num]
  | succ n ih =>
    rw [← Nat.add_assoc, row_num_succ, ih, row_num_succ]
    unfold upRow
    rw [if_neg (by omega), show i + n - i = n by omega, Int.mul_add, Int.pow_add, Int.mul_assoc]
theorem num_row_mod {f : Nat → Int} {n m : Nat} (h : n ≤ m) (hf : ∀ i, i < m → f i = 0 ∨ f i = 1) : num (row n f) = num (row m f) % 2 ^ n := by
  have h1 := num_split (row m f) n (by rw [row_length]; exact h)
  rw [row_take m f n h] at h1
  have h2 := num_bd (row_01 (n := n) (fun i hi => hf i (by omega)))
  rw [row_length] at h2
  rw [h1, Int.add_mul_emod_self_left]
  exact (Int.emod_eq_of_lt h2.1 h2.2).symm
/-- The product after i rows. -/
theorem mul_step {f y : Nat → Int} {out : List Int} {W i : Nat} (hf : ∀ i, i < W → f i = 0 ∨ f i = 1) (hy : y i = 1)
    (ho : num out = (num (row W f) * num (row i y)) % 2 ^ W) (hl : out.length = W) :
    num (row W (sumAt (fun k => out.getD k 0) (upRow f i) 0)) = (num (row W f) * num (row (i + 1) y)) % 2 ^ W := by
  have e1 : num (row W (upRow f i)) = (2 ^ i * num (row W f)) % 2 ^ W := by
    have hu : ∀ k, k < i + W → upRow f i k = 0 ∨ upRow f i k = 1 := by
      intro k hk; unfold upRow; split
      · exact .inl rfl
      · exact hf _ (by omega)
    rw [num_row_mod (m := i + W) (by omega) hu, num_upRow]
  have e2 : row W (fun k => out.getD k 0) = out := by rw [← hl]; exact (row_of out).symm
  rw [sum_mod, e2, e1, ho, row_num_succ, hy, Int.mul_one, Int.add_zero, ← Int.add_emod, Int.mul_add]
  rw [Int.mul_comm (2 ^ i)]

/-- The highest place that differs decides. -/
theorem less_at {x y : List Int} {i : Nat} (hx : All01 x) (hy : All01 y) (hl : x.length = y.length) (hi : i < x.length) (hd : x.drop (i + 1) = y.drop (i + 1)) (h0 : x.getD i 0 = 0) (h1 : y.getD i 0 = 1) : num x < num y := by
  have ex := num_split x i (by omega)
  have ey := num_split y i (by omega)
  rw [num_drop x i hi, h0] at ex
  rw [num_drop y i (by omega), h1, ← hd] at ey
  have bx := num_bd (l := x.take i) (fun z hz => hx z (List.mem_of_mem_take hz))
  have byy := num_bd (l := y.take i) (fun z hz => hy z (List.mem_of_mem_take hz))
  rw [List.length_take, Nat.min_eq_left (by omega)] at bx byy
  rw [Int.mul_add] at ex ey
  omega
theorem drop_eq {x y : List Int} {i : Nat} (hl : x.length = y.length) (hi : i < x.length) (hd : x.drop (i + 1) = y.drop (i + 1)) (h : x.getD i 0 = y.getD i 0) : x.drop i = y.drop i := by
  have hi2 : i < y.length := by omega
  rw [List.drop_eq_getElem_cons hi, List.drop_eq_getElem_cons hi2, hd]
  simp [List.getD, hi, hi2] at h
  rw [h]

end Go.Proofs.YtafoohdndlhbnaaGreat.Bits
end

section
namespace Go.Proofs.YtafoohdndlhbnaaGreat
open Go.RowKit Bits

theorem Row.of_own {w : World} {base k cap : Nat} {kd : IntKind} {a : Option Addr} {l : List Int} {T : Nat} (h : w.ownsRow base T 1 (.slice a k cap) k (l.map (Value.int kd))) (hl : l.length = k) (hk : k ≤ 9223372036854775807) : Row kd w a k l := by
  refine ⟨hl, hk, ?_⟩
  by_cases h0 : k = 0
  · exact .inl h0
  · right
    rcases h.2 with ⟨_, h1⟩ | ⟨g, cap', cur, hv, hb, hh, r⟩
    · exact absurd h1 h0
    · simp at hv
      obtain ⟨rfl, rfl⟩ := hv
      have hc := fun i hi => h.cellAt (j := i) hi
      refine ⟨g, 0, rfl, (Array.getElem?_eq_some_iff.1 hh).1, fun i hi => ?_⟩
      rw [Nat.zero_add, hc i (by omega)]; simp [List.getD, hl, hi]

theorem own_ge {w : World} {base e size n : Nat} {v : Value} {xs : List Value} (h : w.ownsRow base e size v n xs) : ∀ k, v.ownBlock = some k → base ≤ k := by
  intro k hk
  rcases h.2 with ⟨rfl, _⟩ | ⟨g, cap, cur, rfl, hb, _⟩
  · simp [Value.ownBlock] at hk
  · simp [Value.ownBlock] at hk; omega
theorem own_below {w w2 : World} {base e size n : Nat} {v : Value} {xs : List Value} (h : w.ownsRow base e size v n xs) (hb : Below w.heap.size w w2) : w2.ownsRow base e size v n xs := by
  refine ⟨h.1, ?_⟩
  rcases h.2 with h0 | ⟨g, cap, cur, rfl, hg, hh, r⟩
  · exact .inl h0
  · exact .inr ⟨g, cap, cur, rfl, hg, by rw [hb.block g (Array.getElem?_eq_some_iff.1 hh).1]; exact hh, r⟩
theorem own_form {w : World} {base e size n : Nat} {v : Value} {xs : List Value} (h : w.ownsRow base e size v n xs) (hn : 0 < n) : ∃ g cap, v = .slice (some ⟨g, 0, none⟩) n cap := by
  rcases h.2 with ⟨_, h0⟩ | ⟨g, cap, _, hv, _⟩
  · omega
  · exact ⟨g, cap, hv⟩
theorem own_slice {w : World} {base e size n : Nat} {v : Value} {xs : List Value} (h : w.ownsRow base e size v n xs) : ∃ a cap, v = .slice a n cap := by
  rcases h.2 with ⟨rfl, h0⟩ | ⟨g, cap, _, hv, _⟩
  · exact ⟨none, 0, by rw [h0]⟩
  · exact ⟨_, cap, hv⟩
theorem own_lt {w : World} {base e size n g cap : Nat} {xs : List Value} (h : w.ownsRow base e size (.slice (some ⟨g, 0, none⟩) n cap) n xs) : g < w.heap.size := by
  rcases h.2 with ⟨h0, _⟩ | ⟨g', cap', cur, hv, _, hh, _⟩
  · simp at h0
  · simp at hv; obtain ⟨rfl, _⟩ := hv
    exact (Array.getElem?_eq_some_iff.1 hh).1
theorem own_nil (w : World) (base e : Nat) : w.ownsRow base e 1 (.slice none 0 0) 0 [] := ⟨rfl, .inl ⟨rfl, rfl⟩⟩
theorem own_some {w : World} {base e k g cap : Nat} {xs : List Value} (h : w.ownsRow base e 1 (.slice (some ⟨g, 0, none⟩) k cap) k xs) {j : Nat} (hj : j < k) : ∃ u, w.cell? ⟨g, j, none⟩ = some u := by
  have hl : xs.length = k := by have := h.1; omega
  have hc := h.cellAt (j := j) (by omega)
  exact ⟨xs[j]'(by omega), by rw [hc]; simp [hl, hj]⟩
theorem own_base {w : World} {base b2 e size n : Nat} {v : Value} {xs : List Value} (h : w.ownsRow base e size v n xs) (hb : b2 ≤ base) : w.ownsRow b2 e size v n xs := by
  refine ⟨h.1, ?_⟩
  rcases h.2 with h0 | ⟨g, cap, cur, rfl, hg, r⟩
  · exact .inl h0
  · exact .inr ⟨g, cap, cur, rfl, Nat.le_trans hb hg, r⟩
theorem news1 (w : World) (x : Value) (T : Nat) : ∀ (j : Nat) (u : Value), [x][j]? = some u → (w.alloc (.cells #[x] T)).cell? ((⟨w.heap.size, 0, none⟩ : Addr).add j) = some u := by
  intro j u h
  match j with
  | 0 => simp at h; subst h; simp [Addr.add]
  | j + 1 => simp at h

/-- A row that is being filled, the rest of it zeros. -/
def fillF (f : Nat → Int) (k j : Nat) : List Int := row k (fun i => if i < j then f i else 0)
theorem fillK_set (kd : IntKind) (f : Nat → Int) (k j : Nat) : ((fillF f k j).map (Value.int kd)).set j (.int kd (f j)) = (fillF f k (j + 1)).map (Value.int kd) := by
  apply List.ext_getElem
  · simp [fillF, row]
  · intro i h1 h2
    simp [fillF, row, List.getElem_set] at *
    by_cases e : j = i
    · subst e; simp
    · by_cases hi : i < j
      · simp [e, hi, show i < j + 1 by omega]
      · simp [e, hi, show ¬ i < j + 1 by omega]
theorem fillK_zero (kd : IntKind) (f : Nat → Int) (k : Nat) : (madeCells (Value.int kd 0).cells (k * 1)).toList = (fillF f k 0).map (Value.int kd) := by
  apply List.ext_getElem
  · simp [madeCells, fillF, row, Value.cells]
  · intro i h1 h2; simp [madeCells, fillF, row, Value.cells, Nat.mod_one]
theorem fillK_len (kd : IntKind) (f : Nat → Int) (k j : Nat) : ((fillF f k j).map (Value.int kd)).length = k := by simp [fillF, row]
theorem fillF_full (f : Nat → Int) (k : Nat) : fillF f k k = row k f := row_congr (fun i hi => by rw [if_pos hi])
theorem getD_row (n : Nat) (f : Nat → Int) (i : Nat) (h : i < n) : (row n f).getD i 0 = f i := row_getD n f i h
end Go.Proofs.YtafoohdndlhbnaaGreat
end

section
namespace Go.Proofs.YtafoohdndlhbnaaGreat
open Go.RowKit Go.Maps

theorem akey : WideMaps.ArrKey Tryz.prog 141 40 2 := ⟨by kernel_rfl, by kernel_rfl, by kernel_rfl, by kernel_rfl⟩
theorem alaw : Keyed Tryz.prog 141 := Keyed.of_law akey.law
theorem tsize : ∃ m, Tryz.prog.types.size = m + 1 := ⟨Tryz.prog.types.size - 1, by kernel_rfl⟩
theorem lit_wf {l : Int} (h : IsLit l) : (Lit.int .u32 l).wf = true := WalkArith.wf_u32 ⟨h.1, by have := h.2; omega⟩
/-- What a pair reads as. -/
def pkey (a b : Int) : Lit := .string (keyBytes [.int .u32 a, .int .u32 b])
theorem key_pair {a b : Int} (ha : IsLit a) (hb : IsLit b) : keyOf Tryz.prog 141 (.agg #[.int .u32 a, .int .u32 b]) = some (pkey a b) :=
  WideMaps.keyOf_pair akey Tryz.underlying40 tsize (lit_wf ha) (lit_wf hb)
theorem pkey_inj {a b c d : Int} (ha : IsLit a) (hb : IsLit b) (hc : IsLit c) (hd : IsLit d) (h : pkey a b = pkey c d) : a = c ∧ b = d := by
  have := alaw.inj (key_pair ha hb) (by rw [h]; exact key_pair hc hd)
  simpa using this
theorem pkey_key {a b : Int} (ha : IsLit a) (hb : IsLit b) : WideAt.IsKeyLit (pkey a b) := alaw.key (key_pair ha hb)

/-- What the map says, plainly. -/
def MapOf (ns : List Nd) (D : DataW Unit) : Prop :=
  IsMap D ∧ ∀ a b, IsLit a → IsLit b → has D (pkey a b) = (findG ns a b).isSome ∧ ∀ i, findG ns a b = some i → D.atKey (pkey a b) (.lit (.int .u32 0)) = .lit (.int .u32 (2 * (i : Int)))

def ndCells (n : Nd) : List Value := [.bool n.gate, .int .u32 n.a, .int .u32 n.b]
def nodeCells (ns : List Nd) : List Value := ns.flatMap ndCells
theorem nodeCells_push (ns : List Nd) (n : Nd) : nodeCells (ns ++ [n]) = nodeCells ns ++ ndCells n := by simp [nodeCells]
theorem nodeCells_len (ns : List Nd) : (nodeCells ns).length = ns.length * 3 := by
  induction ns with
  | nil => rfl
  | cons n ns ih => rw [show nodeCells (n :: ns) = ndCells n ++ nodeCells ns from rfl, List.length_append, ih]; simp [ndCells]; omega
theorem nodeCells_at (ns : List Nd) (i : Nat) (n : Nd) (h : ns[i]? = some n) : (nodeCells ns)[3 * i]? = some (.bool n.gate) ∧ (nodeCells ns)[3 * i + 1]? = some (.int .u32 n.a) ∧ (nodeCells ns)[3 * i + 2]? = some (.int .u32 n.b) := by
  induction ns generalizing i with
  | nil => simp at h
  | cons m ns ih =>
    rw [show nodeCells (m :: ns) = ndCells m ++ nodeCells ns from rfl]
    match i with
    | 0 => simp at h; subst h; exact ⟨rfl, rfl, rfl⟩
    | i + 1 =>
      have := ih i (by simpa using h)
      rw [List.getElem?_append_right (by simp [ndCells]; omega), List.getElem?_append_right (by simp [ndCells]; omega), List.getElem?_append_right (by simp [ndCells]; omega)]
      rw [show 3 * (i + 1) - (ndCells m).length = 3 * i by simp [ndCells]; omega, show 3 * (i + 1) + 1 - (ndCells m).length = 3 * i + 1 by simp [ndCells]; omega, show 3 * (i + 1) + 2 - (ndCells m).length = 3 * i + 2 by simp [ndCells]; omega]
      exact this

/-- A graph's place. -/
structure Pl where
  b : Nat
  nb : Nat
  nc : Nat
  iv : Value
  m : Option Nat
def Pl.nv (p : Pl) (n : Nat) : Value := .slice (some ⟨p.nb, 0, none⟩) n p.nc
def Pl.has (p : Pl) (k : Nat) : Prop := k = p.b ∨ k = p.nb ∨ p.iv.ownBlock = some k ∨ p.m = some k
def boxOf (p : Pl) (F H : Bool) (n : Nat) : Obj := .cells #[.bool F, .bool H, p.nv n, p.iv, .map p.m] 138 (0, 0)

structure Lay (w : World) (p : Pl) (F H : Bool) (ns : List Nd) (ins : List Int) : Prop where
  box : w.heap[p.b]? = some (boxOf p F H ns.length)
  nodes : w.ownsRow 0 143 3 (p.nv ns.length) ns.length (nodeCells ns)
  inputs : w.ownsRow 0 3 1 p.iv ins.length (ins.map (Value.int .i64))

def MapIn (w : World) (m : Option Nat) (H : Bool) (ns : List Nd) : Prop :=
  if H = true then ∃ mb D, m = some mb ∧ w.ownsMap Tryz.prog 141 (plainElem Tryz.prog 40) mb ns.length D ∧ MapOf ns D else m = none

structure Is (w : World) (p : Pl) (G : Gr) : Prop where
  lay : Lay w p G.fold G.hash G.nodes G.inputs
  map : MapIn w p.m G.hash G.nodes

/-- All but the blocks F is as it was. -/
structure Kept (F : Nat → Prop) (w w' : World) : Prop where
  os : w'.os = w.os
  tape : w'.tape = w.tape
  output : w'.output = w.output
  size : w.heap.size ≤ w'.heap.size
  block : ∀ k, k < w.heap.size → ¬ F k → w'.heap[k]? = w.heap[k]?

theorem Kept.refl (F : Nat → Prop) (w : World) : Kept F w w := ⟨rfl, rfl, rfl, Nat.le_refl _, fun _ _ _ => rfl⟩
theorem Kept.of_below {F : Nat → Prop} {w w' : World} (h : Below w.heap.size w w') : Kept F w w' := ⟨h.os, h.tape, h.output, h.size, fun k hk _ => h.block k hk⟩
theorem Kept.trans {F F' : Nat → Prop} {a b c : World} (h : Kept F a b) (k : Kept F' b c) (hF : ∀ x, F' x → F x ∨ a.heap.size ≤ x) : Kept F a c :=
  ⟨k.os.trans h.os, k.tape.trans h.tape, k.output.trans h.output, Nat.le_trans h.size k.size, fun i hi hn => (k.block i (Nat.lt_of_lt_of_le hi h.size) (fun hf => by rcases hF i hf with h1 | h1; exact hn h1; omega)).trans (h.block i hi hn)⟩
theorem Kept.below {F : Nat → Prop} {N : Nat} {w w' : World} (h : Kept F w w') (hF : ∀ k, F k → N ≤ k) (hN : N ≤ w.heap.size) : Below N w w' :=
  ⟨h.os, h.tape, h.output, h.size, fun k hk => h.block k (by omega) (fun hf => by have := hF k hf; omega)⟩

theorem Lay.lt {w : World} {p : Pl} {F H : Bool} {ns : List Nd} {ins : List Int} (h : Lay w p F H ns ins) : p.b < w.heap.size := (Array.getElem?_eq_some_iff.1 h.box).1
theorem Lay.nlt {w : World} {p : Pl} {F H : Bool} {ns : List Nd} {ins : List Int} (h : Lay w p F H ns ins) : p.nb < w.heap.size := own_lt h.nodes
theorem Lay.nlen {w : World} {p : Pl} {F H : Bool} {ns : List Nd} {ins : List Int} (h : Lay w p F H ns ins) : ∃ cur, w.heap[p.nb]? = some (.cells cur 143 (0, 0)) := by
  rcases h.nodes.2 with ⟨h0, _⟩ | ⟨g, cap, cur, hv, _, hh, _⟩
  · simp [Pl.nv] at h0
  · simp [Pl.nv] at hv; obtain ⟨rfl, -⟩ := hv; exact ⟨cur, hh⟩
theorem own_type {w : World} {base e size n k : Nat} {v : Value} {xs : List Value} (h : w.ownsRow base e size v n xs) (hk : v.ownBlock = some k) : ∃ cur, w.heap[k]? = some (.cells cur e (0, 0)) := by
  rcases h.2 with ⟨rfl, _⟩ | ⟨g, cap, cur, rfl, _, hh, _⟩
  · simp [Value.ownBlock] at hk
  · simp [Value.ownBlock] at hk; subst hk; exact ⟨cur, hh⟩
/-- A graph's blocks are there. -/
theorem Is.has_lt {w : World} {p : Pl} {G : Gr} (h : Is w p G) {k : Nat} (hk : p.has k) : k < w.heap.size := by
  rcases hk with rfl | rfl | hk | hk
  · exact h.lay.lt
  · exact h.lay.nlt
  · obtain ⟨cur, hh⟩ := own_type h.lay.inputs hk
    exact (Array.getElem?_eq_some_iff.1 hh).1
  · have hm := h.map
    unfold MapIn at hm
    split at hm
    · obtain ⟨mb, D, e, ho, _⟩ := hm
      rw [e] at hk; obtain rfl : mb = k := by simpa using hk
      exact ho.lt
    · rw [hm] at hk; cases hk
/-- A row of another type lies elsewhere. -/
theorem Is.other {w : World} {p : Pl} {G : Gr} (h : Is w p G) {k T : Nat} {cur : Array Value} {fz : Nat × Nat} (hk : w.heap[k]? = some (.cells cur T fz)) (h1 : T ≠ 138) (h2 : T ≠ 143) (h3 : T ≠ 3) : ¬ p.has k := by
  intro hp
  rcases hp with rfl | rfl | hp | hp
  · rw [h.lay.box] at hk; simp [boxOf] at hk; exact h1 hk.2.1.symm
  · obtain ⟨c, hc⟩ := h.lay.nlen; rw [hc] at hk; simp at hk; exact h2 hk.2.1.symm
  · obtain ⟨c, hc⟩ := own_type h.lay.inputs hp; rw [hc] at hk; simp at hk; exact h3 hk.2.1.symm
  · have hm := h.map
    unfold MapIn at hm
    split at hm
    · obtain ⟨mb, D, e, ho, _⟩ := hm
      rw [e] at hp; obtain rfl : mb = k := by simpa using hp
      obtain ⟨es, cl, hb, _⟩ := ho
      rw [hb] at hk; simp at hk
    · rw [hm] at hp; cases hp
theorem own_keptF {F : Nat → Prop} {w w' : World} {base e size n : Nat} {v : Value} {xs : List Value} (h : w.ownsRow base e size v n xs) (hk : Kept F w w') (hn : ∀ k, v.ownBlock = some k → ¬ F k) : w'.ownsRow base e size v n xs := by
  refine ⟨h.1, ?_⟩
  rcases h.2 with h0 | ⟨g, cap, cur, rfl, hg, hh, r⟩
  · exact .inl h0
  · exact .inr ⟨g, cap, cur, rfl, hg, by rw [hk.block g (Array.getElem?_eq_some_iff.1 hh).1 (hn g rfl)]; exact hh, r⟩
/-- A row of another type is kept while the graph grows. -/
theorem own_beside {w w' : World} {p : Pl} {G : Gr} (hI : Is w p G) {base T size n : Nat} {v : Value} {xs : List Value} (h : w.ownsRow base T size v n xs) (hk : Kept p.has w w') (h1 : T ≠ 138) (h2 : T ≠ 143) (h3 : T ≠ 3) : w'.ownsRow base T size v n xs :=
  own_keptF h hk (fun k e => by obtain ⟨cur, hh⟩ := own_type h e; exact hI.other hh h1 h2 h3)
theorem map_block {w w' : World} {b n : Nat} {D : DataW Unit} (h : w.ownsMap Tryz.prog 141 (plainElem Tryz.prog 40) b n D) (hb : w'.heap[b]? = w.heap[b]?) : w'.ownsMap Tryz.prog 141 (plainElem Tryz.prog 40) b n D := by
  obtain ⟨es, cl, h1, r⟩ := h
  exact ⟨es, cl, hb.trans h1, r⟩
/-- What is below stays. -/
theorem Lay.below {w w' : World} {p : Pl} {F H : Bool} {ns : List Nd} {ins : List Int} (h : Lay w p F H ns ins) (hb : Below w.heap.size w w') : Lay w' p F H ns ins :=
  ⟨(hb.block _ h.lt).trans h.box, own_below h.nodes hb, own_below h.inputs hb⟩
theorem MapIn.below {w w' : World} {m : Option Nat} {H : Bool} {ns : List Nd} (h : MapIn w m H ns) (hb : Below w.heap.size w w') : MapIn w' m H ns := by
  unfold MapIn at h ⊢
  split
  · rename_i hH
    rw [if_pos hH] at h
    obtain ⟨mb, D, e, ho, hm⟩ := h
    exact ⟨mb, D, e, map_block ho (hb.block _ ho.lt), hm⟩
  · rename_i hH
    rw [if_neg hH] at h; exact h
theorem Is.below {w w' : World} {p : Pl} {G : Gr} (h : Is w p G) (hb : Below w.heap.size w w') : Is w' p G := ⟨h.lay.below hb, h.map.below hb⟩

/-- One step on: the graph is G' now; the rest is as it was. -/
structure Step (p : Pl) (w : World) (p' : Pl) (w' : World) (G' : Gr) : Prop where
  is : Is w' p' G'
  kept : Kept p.has w w'
  b : p'.b = p.b
  new : ∀ k, p'.has k → p.has k ∨ w.heap.size ≤ k

theorem Step.refl {p : Pl} {w : World} {G : Gr} (h : Is w p G) : Step p w p w G := ⟨h, Kept.refl _ _, rfl, fun _ h => .inl h⟩
theorem Step.of_below {p : Pl} {w w' : World} {G : Gr} (h : Is w p G) (hb : Below w.heap.size w w') : Step p w p w' G := ⟨h.below hb, Kept.of_below hb, rfl, fun _ h => .inl h⟩
theorem Step.trans {p p1 p2 : Pl} {w w1 w2 : World} {G1 G2 : Gr} (h : Step p w p1 w1 G1) (k : Step p1 w1 p2 w2 G2) : Step p w p2 w2 G2 :=
  ⟨k.is, h.kept.trans k.kept h.new, k.b.trans h.b, fun x hx => by
    rcases k.new x hx with h1 | h1
    · exact h.new x h1
    · exact .inr (Nat.le_trans h.kept.size h1)⟩
theorem Step.then {p p1 : Pl} {w w1 w2 : World} {G1 : Gr} (h : Step p w p1 w1 G1) (hb : Below w1.heap.size w1 w2) : Step p w p1 w2 G1 := h.trans (Step.of_below h.is hb)
theorem Step.front {p p1 : Pl} {w w1 w2 : World} {G G1 : Gr} (hG : Is w p G) (hb : Below w.heap.size w w1) (h : Step p w1 p1 w2 G1) : Step p w p1 w2 G1 := (Step.of_below hG hb).trans h

/-- The cells of the graph's own struct. -/
theorem Lay.cells {w : World} {p : Pl} {F H : Bool} {ns : List Nd} {ins : List Int} (h : Lay w p F H ns ins) :
    w.cell? ⟨p.b, 0, none⟩ = some (.bool F) ∧ w.cell? ⟨p.b, 1, none⟩ = some (.bool H) ∧ w.cell? ⟨p.b, 2, none⟩ = some (.slice (some ⟨p.nb, 0, none⟩) ns.length p.nc) ∧ w.cell? ⟨p.b, 3, none⟩ = some p.iv ∧ w.cell? ⟨p.b, 4, none⟩ = some (.map p.m)
      ∧ ∀ o, w.frozen? ⟨p.b, o, none⟩ = false := by
  have hb := h.box
  refine ⟨?_, ?_, ?_, ?_, ?_, fun o => ?_⟩ <;> simp [World.cell?, World.frozen?, hb, boxOf, Pl.nv]
end Go.Proofs.YtafoohdndlhbnaaGreat
end
