/-
  How the arguments that come in are opened: a type of the project's by value; an array of integers by value.
  The laid tables and sentinels of a row that reads numbers.
  A region that draws its order, whose operations read old memory and whose calls make new memory alone: one walk in the order of the text.
  The class of worlds: 'ext W x': x where x is W below its size, else W.
  A slice of integers, as a contract names it: nil or not, cut or whole.
  Plain facts on the bits of unsigned numbers, as the walk spells them.
  Plain functions for package lit, and what they come to.
  What came in, as the walks name it: slices of integers.
-/
import Derived.Test.YtafoohdndlhbnaaGreatDoorRows
import Derived.WalkKit
import Derived.ProofKit
import Derived.OpenShut
import Derived.ShutString
import Derived.ChangeOld
import Derived.Below
import Derived.Lib.SmallJoins
import Derived.LaidSub
import Derived.LaidMore
import Derived.LaidLaws
import Derived.LaidHandle
import Derived.Lay
import Derived.Lib.LaidTab
import Derived.Stop.Joined
import Derived.Test.YtafoohdndlhbnaaGreatDoorProg
import Derived.WalkSpells
import Derived.WalkLawsBesides
import Derived.BigQuiet
import Derived.Lib.Hide
section
namespace Go.Proofs.YtafoohdndlhbnaaGreatDoor
open Go.ChangeShapes Go.WideShapes Go.ChangeAt Go.RowKit Go.Joins
set_option maxRecDepth 100000

theorem own : ownKnob Tryz.prog.godebug = none := by kernel_rfl
theorem laidOut : laidOutB Tryz.prog = true := by kernel_rfl

section
variable {H : Type} {enc : TypeId × Value → H} {w : World} {base : Nat} {spare : Nat → Bool} {held : Bool}

theorem ints_of {P : Program} {e : Nat} {k : IntKind} (he : P.underlying e = some (.int k)) : ∀ (cs : List Value), (∀ i, i < cs.length → ∃ m x, DataW.trod enc P w base spare held m e ((cs.drop i).take 1) = some x) →
    ∃ zs : List Int, zs.length = cs.length ∧ cs = zs.map (Value.int k) ∧ ∀ z ∈ zs, (Lit.int k z).wf = true := by
  intro cs
  induction cs with
  | nil => intro _; exact ⟨[], rfl, rfl, by simp⟩
  | cons c cs ih =>
    intro h
    obtain ⟨m, x, h0⟩ := h 0 (by simp)
    obtain ⟨z, e0, -, hz⟩ := DataW.trod_int he h0
    obtain ⟨zs, e1, e2, e3⟩ := ih (fun i hi => by have := h (i + 1) (by simpa using hi); simpa using this)
    refine ⟨z :: zs, by simp [e1], ?_, ?_⟩
    · simp at e0; simp [e0, ← e2]
    · intro y hy
      rcases List.mem_cons.1 hy with rfl | hy
      · exact hz
      · exact e3 y hy

theorem open_arr {P : Program} {r : Reach} {b0 : Nat} {t e n : Nat} {k : IntKind} {v : Value} {d : DataW H} {p : List MemPlace} (hs : P.underlying t = some (.array n e)) (he : P.underlying e = some (.int k)) (hce : P.cellsOf e = 1) (hC : P.cellsOf t = n)
    (hv : Value.okWide P w r b0 t v) (h : DataW.Trod enc P w base spare held t v d p) :
    ∃ zs : List Int, zs.length = n ∧ v = .agg (zs.map (Value.int k)).toArray ∧ ∀ z ∈ zs, (Lit.int k z).wf = true := by
  have hv' : ∃ cs, v = .agg cs := by
    simp only [Value.okWide, hs] at hv
    obtain ⟨cs, h1, _⟩ := hv
    exact ⟨cs, h1⟩
  obtain ⟨cs, rfl⟩ := hv'
  obtain ⟨fuel, hf⟩ := h
  obtain ⟨xs, m, -, -, hl, hxl, hx⟩ := DataW.trod_array hs hf
  have hlen : cs.toList.length = n := by
    have : cs.toList.length = P.cellsOf t := by simpa [Value.cells] using hl
    rw [hC] at this; exact this
  obtain ⟨zs, e1, e2, e3⟩ := ints_of (enc := enc) (w := w) (base := base) (spare := spare) (held := held) he cs.toList (fun i hi => by
    have := hx i (by omega)
    rw [hce] at this
    simp only [Nat.mul_one, Value.cells] at this
    exact ⟨m, xs[i]'(by omega), by rw [this]; simp⟩)
  exact ⟨zs, by omega, by rw [← e2], e3⟩

/-- What a walk is told of a slice of integers that came in: nil; or a row of 'cap' cells, the numbers 'zs'. -/
def IsRow (k : IntKind) (w : World) (a : Option Addr) (len cap : Nat) (zs : List Int) : Prop :=
  (a = Option.none ∧ len = 0 ∧ cap = 0 ∧ zs = []) ∨
  ∃ x, a = some x ∧ len ≤ cap ∧ cap ≤ maxLen ∧ zs.length = cap ∧ (∀ i, i < zs.length → w.cell? (x.add i) = some (.int k (zs.getD i 0))) ∧ ∀ n ∈ zs, (Lit.int k n).wf = true

theorem is_row {P : Program} {t e : Nat} {k : IntKind} {a : Option Addr} {len cap : Nat} {d : DataW H} {p : List MemPlace} (hs : P.underlying t = some (.slice e)) (he : P.underlying e = some (.int k)) (hce : P.cellsOf e = 1)
    (h : DataW.Trod enc P w base (fun _ => true) held t (.slice a len cap) d p) : ∃ zs, IsRow k w a len cap zs := by
  obtain ⟨fuel, hf⟩ := h
  rcases open_ints hs he hce hf with ⟨hcs, _⟩ | ⟨x, l, c, zs, hcs, _, hl, hm, hz, _, hcell, hwz⟩
  · simp [Value.cells] at hcs
    obtain ⟨rfl, rfl, rfl⟩ := hcs
    exact ⟨[], .inl ⟨rfl, rfl, rfl, rfl⟩⟩
  · simp [Value.cells] at hcs
    obtain ⟨rfl, rfl, rfl⟩ := hcs
    exact ⟨zs, .inr ⟨_, rfl, hl, hm, by simpa using hz, hcell, hwz⟩⟩

theorem list2 {l : List Int} (h : l.length = 2) : ∃ a b, l = [a, b] := by
  match l, h with
  | [a, b], _ => exact ⟨a, b, rfl⟩
theorem list3 {l : List Int} (h : l.length = 3) : ∃ a b c, l = [a, b, c] := by
  match l, h with
  | [a, b, c], _ => exact ⟨a, b, c, rfl⟩
end
end Go.Proofs.YtafoohdndlhbnaaGreatDoor
end

section
namespace Go.Proofs.YtafoohdndlhbnaaGreatDoor
open Go.ChangeShapes Go.WideShapes Go.ChangeAt Go.RowKit
set_option maxRecDepth 100000

abbrev laid7 : List (String × DataW Unit) := Rows.emitOnceRow.laid
end Go.Proofs.YtafoohdndlhbnaaGreatDoor
end

section
namespace Go.Proofs.YtafoohdndlhbnaaGreatDoor
open Go.RowKit

theorem bcell {W w1 : World} (hb : Below W.heap.size W w1) : (∀ b o, b < W.heap.size → w1.cell? ⟨b, o, none⟩ = W.cell? ⟨b, o, none⟩) ∧ (∀ b o, b < W.heap.size → w1.frozen? ⟨b, o, none⟩ = W.frozen? ⟨b, o, none⟩) :=
  ⟨fun b o h => hb.cell (p := ⟨b, o, none⟩) h, fun b o h => hb.frozen (p := ⟨b, o, none⟩) h⟩

open Classical in
noncomputable def ext (W x : World) : World := if Below W.heap.size W x then x else W

theorem ext_below (W x : World) : Below W.heap.size W (ext W x) := by
  unfold ext; split
  · assumption
  · exact Below.refl _ _

theorem ext_cell (W x : World) (b o : Nat) (h : b < W.heap.size) : (ext W x).cell? ⟨b, o, none⟩ = W.cell? ⟨b, o, none⟩ := (bcell (ext_below W x)).1 b o h

theorem ext_of {W x : World} (h : Below W.heap.size W x) : x = ext W x := by unfold ext; rw [if_pos h]

theorem below_of_ext {W w' : World} (h : ∃ x, w' = ext W x) : Below W.heap.size W w' := by
  obtain ⟨x, rfl⟩ := h; exact ext_below W x

/-- A callee's contract, met in one of the worlds. -/
theorem Calls.ext_of {P : Program} {f : FuncId} {args : Array Value} {W x : World} {v : Value}
    (h : Calls P f args (ext W x) fun e w' => e = .returned v ∧ Below (ext W x).heap.size (ext W x) w') : Calls P f args (ext W x) fun e w'' => e = .returned v ∧ ∃ y, w'' = ext W y :=
  h.mono fun _ w' ⟨he, hm⟩ => ⟨he, w', YtafoohdndlhbnaaGreatDoor.ext_of ((ext_below W x).trans (hm.mono (ext_below W x).size))⟩

theorem wp_region_ext {P : Program} {id : Nat} {Q : Exit → Act → World → Prop} {a : Act} {w : World} {l : List Oper} (hm : P.follows .mixedOrders = true) (hB : Region.lexB .any l.toArray = true)
    (h : wpQuiet P l.toArray (fun w' => ∃ x, w' = ext w x) (fun a' => ∀ w', (∃ x, w' = ext w x) → Q .normal a' w') l a) : (Code.region id l.toArray true).wp P Q a w :=
  wp_region_quiet (C := fun w' => ∃ x, w' = ext w x) hm hB ⟨w.drew, YtafoohdndlhbnaaGreatDoor.ext_of (Below.refl _ _).drew⟩ (by simpa using h)

theorem ret_int {k : IntKind} {a b : Int} (h : a = b) : Ending.returned (.int k a) = .returned (.int k b) := by rw [h]
theorem ret_bool {a b : Bool} (h : a = b) : Ending.returned (.bool a) = .returned (.bool b) := by rw [h]
theorem ret_int2 {k k' : IntKind} {a b : Int} {c d : Int} (h : a = b) (h' : c = d) : Ending.returned (.tuple #[.int k a, .int k' c]) = .returned (.tuple #[.int k b, .int k' d]) := by rw [h, h']
theorem ret_intb {k : IntKind} {a b : Int} {c d : Bool} (h : a = b) (h' : c = d) : Ending.returned (.tuple #[.int k a, .bool c]) = .returned (.tuple #[.int k b, .bool d]) := by rw [h, h']
theorem stepc {W w1 : World} (hb : Below W.heap.size W w1) {b o : Nat} {v : Value} (h : b < W.heap.size) (c : W.cell? ⟨b, o, none⟩ = some v) : w1.cell? ⟨b, o, none⟩ = some v := by
  rw [hb.cell (p := ⟨b, o, none⟩) h]; exact c
/-- One call further. -/
theorem nextb {B : Nat} {w w0 w1 : World} (h0 : Below B w w0) (hB : B ≤ w0.heap.size) (hb : Below w0.heap.size w0 w1) : Below B w w1 := h0.trans (hb.mono hB)

theorem nextw {w wk w1 : World} (hB : Below w.heap.size w wk) (hb : Below wk.heap.size wk w1) : Below w.heap.size w w1 := hB.trans (hb.mono hB.size)

/-- The state at a function's own box of three cells: one call further. -/
theorem step3 {w wk w1 : World} {b n : Nat} {x y z : Value} (hB : Below w.heap.size w wk) (hz : w.heap.size + n ≤ wk.heap.size) (hlt : b < wk.heap.size)
    (c0 : wk.cell? ⟨b, 0, none⟩ = some x) (c1 : wk.cell? ⟨b, 1, none⟩ = some y) (c2 : wk.cell? ⟨b, 2, none⟩ = some z) (hb : Below wk.heap.size wk w1) :
    Below w.heap.size w w1 ∧ w.heap.size + n ≤ w1.heap.size ∧ w1.cell? ⟨b, 0, none⟩ = some x ∧ w1.cell? ⟨b, 1, none⟩ = some y ∧ w1.cell? ⟨b, 2, none⟩ = some z :=
  ⟨nextb hB (by omega) hb, Nat.le_trans hz hb.size, stepc hb hlt c0, stepc hb hlt c1, stepc hb hlt c2⟩
/-- The first call behind the box. -/
theorem box3 {w w1 : World} {x y z : Value} {T : Nat} (hb : Below (w.alloc (.cells #[x, y, z] T)).heap.size (w.alloc (.cells #[x, y, z] T)) w1) :
    Below w.heap.size w w1 ∧ w.heap.size + 1 ≤ w1.heap.size ∧ w1.cell? ⟨w.heap.size, 0, none⟩ = some x ∧ w1.cell? ⟨w.heap.size, 1, none⟩ = some y ∧ w1.cell? ⟨w.heap.size, 2, none⟩ = some z :=
  ⟨nextb ((Below.refl _ _).alloc (Nat.le_refl _) _) (by simp) hb, by have := hb.size; simpa using this, stepc hb (by simp) (by simp), stepc hb (by simp) (by simp), stepc hb (by simp) (by simp)⟩
/-- The first call behind two boxes. -/
theorem box33 {w w1 : World} {x y z x' y' z' : Value} {T : Nat} (hb : Below ((w.alloc (.cells #[x, y, z] T)).alloc (.cells #[x', y', z'] T)).heap.size ((w.alloc (.cells #[x, y, z] T)).alloc (.cells #[x', y', z'] T)) w1) :
    Below w.heap.size w w1 ∧ w.heap.size + 2 ≤ w1.heap.size ∧ w1.cell? ⟨w.heap.size, 0, none⟩ = some x ∧ w1.cell? ⟨w.heap.size, 1, none⟩ = some y ∧ w1.cell? ⟨w.heap.size, 2, none⟩ = some z
      ∧ w1.cell? ⟨w.heap.size + 1, 0, none⟩ = some x' ∧ w1.cell? ⟨w.heap.size + 1, 1, none⟩ = some y' ∧ w1.cell? ⟨w.heap.size + 1, 2, none⟩ = some z' :=
  ⟨nextb (((Below.refl _ _).alloc (Nat.le_refl _) _).alloc (by simp) _) (by simp; omega) hb, by have := hb.size; simpa using this, stepc hb (by simp; omega) (by simp), stepc hb (by simp; omega) (by simp), stepc hb (by simp; omega) (by simp),
    stepc hb (by simp) (by simp), stepc hb (by simp) (by simp), stepc hb (by simp) (by simp)⟩
/-- The first call behind two boxes of three cells, the first of which is written behind it. -/
theorem box33f {w w1 : World} {x y z x' y' z' : Value} {T T' : Nat} (hb : Below ((w.alloc (.cells #[x, y, z] T)).alloc (.cells #[x', y', z'] T')).heap.size ((w.alloc (.cells #[x, y, z] T)).alloc (.cells #[x', y', z'] T')) w1) :
    Below w.heap.size w w1 ∧ w.heap.size + 2 ≤ w1.heap.size ∧ w1.cell? ⟨w.heap.size, 0, none⟩ = some x ∧ w1.cell? ⟨w.heap.size, 1, none⟩ = some y ∧ w1.cell? ⟨w.heap.size, 2, none⟩ = some z
      ∧ w1.cell? ⟨w.heap.size + 1, 0, none⟩ = some x' ∧ w1.cell? ⟨w.heap.size + 1, 1, none⟩ = some y' ∧ w1.cell? ⟨w.heap.size + 1, 2, none⟩ = some z'
      ∧ w1.frozen? ⟨w.heap.size, 0, none⟩ = false ∧ w1.frozen? ⟨w.heap.size, 1, none⟩ = false ∧ w1.frozen? ⟨w.heap.size, 2, none⟩ = false :=
  ⟨nextb (((Below.refl _ _).alloc (Nat.le_refl _) _).alloc (by simp) _) (by simp; omega) hb, by have := hb.size; simpa using this, stepc hb (by simp; omega) (by simp), stepc hb (by simp; omega) (by simp), stepc hb (by simp; omega) (by simp),
    stepc hb (by simp) (by simp), stepc hb (by simp) (by simp), stepc hb (by simp) (by simp),
    ((bcell hb).2 _ _ (by simp; omega)).trans (by simp), ((bcell hb).2 _ _ (by simp; omega)).trans (by simp), ((bcell hb).2 _ _ (by simp; omega)).trans (by simp)⟩

/-- The first box written anew. -/
theorem boxset {w w2 : World} {x y z p q r : Value} (x' y' z' : Value) (hB : Below w.heap.size w w2) (hz : w.heap.size + 2 ≤ w2.heap.size)
    (c0 : w2.cell? ⟨w.heap.size, 0, none⟩ = some x) (c1 : w2.cell? ⟨w.heap.size, 1, none⟩ = some y) (c2 : w2.cell? ⟨w.heap.size, 2, none⟩ = some z)
    (d0 : w2.cell? ⟨w.heap.size + 1, 0, none⟩ = some p) (d1 : w2.cell? ⟨w.heap.size + 1, 1, none⟩ = some q) (d2 : w2.cell? ⟨w.heap.size + 1, 2, none⟩ = some r) :
    ∀ w3, w3 = ((w2.setCell ⟨w.heap.size, 0, none⟩ x').setCell ⟨w.heap.size, 1, none⟩ y').setCell ⟨w.heap.size, 2, none⟩ z' →
    Below w.heap.size w w3 ∧ w.heap.size + 2 ≤ w3.heap.size ∧ w3.cell? ⟨w.heap.size, 0, none⟩ = some x' ∧ w3.cell? ⟨w.heap.size, 1, none⟩ = some y' ∧ w3.cell? ⟨w.heap.size, 2, none⟩ = some z'
      ∧ w3.cell? ⟨w.heap.size + 1, 0, none⟩ = some p ∧ w3.cell? ⟨w.heap.size + 1, 1, none⟩ = some q ∧ w3.cell? ⟨w.heap.size + 1, 2, none⟩ = some r := by
  rintro w3 rfl
  have h := ((Below.refl (w.heap.size) w2).setCell (p := ⟨w.heap.size, 0, none⟩) (Nat.le_refl _) x').setCell (p := ⟨w.heap.size, 1, none⟩) (Nat.le_refl _) y' |>.setCell (p := ⟨w.heap.size, 2, none⟩) (Nat.le_refl _) z'
  refine ⟨hB.trans h, Nat.le_trans hz h.size, ?_, ?_, ?_, ?_, ?_, ?_⟩ <;> simp [go_sem, *]
/-- The same, the second box of two cells. -/
theorem box32f {w w1 : World} {x y z x' y' : Value} {T T' : Nat} (hb : Below ((w.alloc (.cells #[x, y, z] T)).alloc (.cells #[x', y'] T')).heap.size ((w.alloc (.cells #[x, y, z] T)).alloc (.cells #[x', y'] T')) w1) :
    Below w.heap.size w w1 ∧ w.heap.size + 2 ≤ w1.heap.size ∧ w1.cell? ⟨w.heap.size, 0, none⟩ = some x ∧ w1.cell? ⟨w.heap.size, 1, none⟩ = some y ∧ w1.cell? ⟨w.heap.size, 2, none⟩ = some z
      ∧ w1.cell? ⟨w.heap.size + 1, 0, none⟩ = some x' ∧ w1.cell? ⟨w.heap.size + 1, 1, none⟩ = some y'
      ∧ w1.frozen? ⟨w.heap.size, 0, none⟩ = false ∧ w1.frozen? ⟨w.heap.size, 1, none⟩ = false ∧ w1.frozen? ⟨w.heap.size, 2, none⟩ = false :=
  ⟨nextb (((Below.refl _ _).alloc (Nat.le_refl _) _).alloc (by simp) _) (by simp; omega) hb, by have := hb.size; simpa using this, stepc hb (by simp; omega) (by simp), stepc hb (by simp; omega) (by simp), stepc hb (by simp; omega) (by simp),
    stepc hb (by simp) (by simp), stepc hb (by simp) (by simp),
    ((bcell hb).2 _ _ (by simp; omega)).trans (by simp), ((bcell hb).2 _ _ (by simp; omega)).trans (by simp), ((bcell hb).2 _ _ (by simp; omega)).trans (by simp)⟩

theorem boxset2 {w w2 : World} {x y z p q : Value} (x' y' z' : Value) (hB : Below w.heap.size w w2) (hz : w.heap.size + 2 ≤ w2.heap.size)
    (c0 : w2.cell? ⟨w.heap.size, 0, none⟩ = some x) (c1 : w2.cell? ⟨w.heap.size, 1, none⟩ = some y) (c2 : w2.cell? ⟨w.heap.size, 2, none⟩ = some z)
    (d0 : w2.cell? ⟨w.heap.size + 1, 0, none⟩ = some p) (d1 : w2.cell? ⟨w.heap.size + 1, 1, none⟩ = some q) :
    ∀ w3, w3 = ((w2.setCell ⟨w.heap.size, 0, none⟩ x').setCell ⟨w.heap.size, 1, none⟩ y').setCell ⟨w.heap.size, 2, none⟩ z' →
    Below w.heap.size w w3 ∧ w.heap.size + 2 ≤ w3.heap.size ∧ w3.cell? ⟨w.heap.size, 0, none⟩ = some x' ∧ w3.cell? ⟨w.heap.size, 1, none⟩ = some y' ∧ w3.cell? ⟨w.heap.size, 2, none⟩ = some z'
      ∧ w3.cell? ⟨w.heap.size + 1, 0, none⟩ = some p ∧ w3.cell? ⟨w.heap.size + 1, 1, none⟩ = some q := by
  rintro w3 rfl
  have h := ((Below.refl (w.heap.size) w2).setCell (p := ⟨w.heap.size, 0, none⟩) (Nat.le_refl _) x').setCell (p := ⟨w.heap.size, 1, none⟩) (Nat.le_refl _) y' |>.setCell (p := ⟨w.heap.size, 2, none⟩) (Nat.le_refl _) z'
  refine ⟨hB.trans h, Nat.le_trans hz h.size, ?_, ?_, ?_, ?_, ?_⟩ <;> simp [go_sem, *]

/-- Two boxes of three cells, neither frozen. -/
structure St33 (w : World) (x y z x' y' z' : Value) (wx : World) : Prop where
  hB : Below w.heap.size w wx
  hz : w.heap.size + 2 ≤ wx.heap.size
  c0 : wx.cell? ⟨w.heap.size, 0, none⟩ = some x
  c1 : wx.cell? ⟨w.heap.size, 1, none⟩ = some y
  c2 : wx.cell? ⟨w.heap.size, 2, none⟩ = some z
  d0 : wx.cell? ⟨w.heap.size + 1, 0, none⟩ = some x'
  d1 : wx.cell? ⟨w.heap.size + 1, 1, none⟩ = some y'
  d2 : wx.cell? ⟨w.heap.size + 1, 2, none⟩ = some z'
  f0 : wx.frozen? ⟨w.heap.size, 0, none⟩ = false
  f1 : wx.frozen? ⟨w.heap.size, 1, none⟩ = false
  f2 : wx.frozen? ⟨w.heap.size, 2, none⟩ = false
  g0 : wx.frozen? ⟨w.heap.size + 1, 0, none⟩ = false
  g1 : wx.frozen? ⟨w.heap.size + 1, 1, none⟩ = false
  g2 : wx.frozen? ⟨w.heap.size + 1, 2, none⟩ = false

theorem stepf {W w1 : World} (hb : Below W.heap.size W w1) {b o : Nat} (h : b < W.heap.size) (c : W.frozen? ⟨b, o, none⟩ = false) : w1.frozen? ⟨b, o, none⟩ = false := by
  rw [hb.frozen (p := ⟨b, o, none⟩) h]; exact c

theorem st33_box (w : World) (x y z x' y' z' : Value) (T T' : Nat) : St33 w x y z x' y' z' ((w.alloc (.cells #[x, y, z] T)).alloc (.cells #[x', y', z'] T')).drew where
  hB := (((Below.refl _ _).alloc (Nat.le_refl _) _).alloc (by simp) _).drew
  hz := by simp
  c0 := by simp [go_sem]
  c1 := by simp [go_sem]
  c2 := by simp [go_sem]
  d0 := by simp [go_sem]
  d1 := by simp [go_sem]
  d2 := by simp [go_sem]
  f0 := by simp [go_sem]
  f1 := by simp [go_sem]
  f2 := by simp [go_sem]
  g0 := by simp [go_sem]
  g1 := by simp [go_sem]
  g2 := by simp [go_sem]

theorem st33_step {w wx w1 : World} {x y z x' y' z' : Value} (h : St33 w x y z x' y' z' wx) (hb : Below wx.heap.size wx w1) : St33 w x y z x' y' z' w1 := by
  obtain ⟨hB, hz, c0, c1, c2, d0, d1, d2, f0, f1, f2, g0, g1, g2⟩ := h
  exact ⟨nextw hB hb, Nat.le_trans hz hb.size, stepc hb (by omega) c0, stepc hb (by omega) c1, stepc hb (by omega) c2, stepc hb (by omega) d0, stepc hb (by omega) d1, stepc hb (by omega) d2,
    stepf hb (by omega) f0, stepf hb (by omega) f1, stepf hb (by omega) f2, stepf hb (by omega) g0, stepf hb (by omega) g1, stepf hb (by omega) g2⟩

theorem st33_set {w w2 : World} {x y z x' y' z' : Value} (h : St33 w x y z x' y' z' w2) (p q r p' q' r' : Value) :
    ∀ w3, w3 = (((((w2.setCell ⟨w.heap.size, 0, none⟩ p).setCell ⟨w.heap.size, 1, none⟩ q).setCell ⟨w.heap.size, 2, none⟩ r).setCell ⟨w.heap.size + 1, 0, none⟩ p').setCell ⟨w.heap.size + 1, 1, none⟩ q').setCell ⟨w.heap.size + 1, 2, none⟩ r' →
    Below w.heap.size w w3 ∧ w.heap.size + 2 ≤ w3.heap.size ∧ w3.cell? ⟨w.heap.size, 0, none⟩ = some p ∧ w3.cell? ⟨w.heap.size, 1, none⟩ = some q ∧ w3.cell? ⟨w.heap.size, 2, none⟩ = some r
      ∧ w3.cell? ⟨w.heap.size + 1, 0, none⟩ = some p' ∧ w3.cell? ⟨w.heap.size + 1, 1, none⟩ = some q' ∧ w3.cell? ⟨w.heap.size + 1, 2, none⟩ = some r' := by
  rintro w3 rfl
  obtain ⟨hB, hz, c0, c1, c2, d0, d1, d2, -, -, -, -, -, -⟩ := h
  have h := (((((Below.refl (w.heap.size) w2).setCell (p := ⟨w.heap.size, 0, none⟩) (Nat.le_refl _) p).setCell (p := ⟨w.heap.size, 1, none⟩) (Nat.le_refl _) q).setCell (p := ⟨w.heap.size, 2, none⟩) (Nat.le_refl _) r).setCell (p := ⟨w.heap.size + 1, 0, none⟩) (Nat.le_succ _) p').setCell (p := ⟨w.heap.size + 1, 1, none⟩) (Nat.le_succ _) q' |>.setCell (p := ⟨w.heap.size + 1, 2, none⟩) (Nat.le_succ _) r'
  refine ⟨hB.trans h, Nat.le_trans hz h.size, ?_, ?_, ?_, ?_, ?_, ?_⟩ <;> simp [go_sem, *]

/-- One call further, behind a new block. -/
theorem step3a {w wk w1 : World} {b n : Nat} {x y z : Value} {o : Obj} (hB : Below w.heap.size w wk) (hz : w.heap.size + n ≤ wk.heap.size) (hlt : b < wk.heap.size)
    (c0 : wk.cell? ⟨b, 0, none⟩ = some x) (c1 : wk.cell? ⟨b, 1, none⟩ = some y) (c2 : wk.cell? ⟨b, 2, none⟩ = some z) (hb : Below (wk.alloc o).heap.size (wk.alloc o) w1) :
    Below w.heap.size w w1 ∧ w.heap.size + n ≤ w1.heap.size ∧ w1.cell? ⟨b, 0, none⟩ = some x ∧ w1.cell? ⟨b, 1, none⟩ = some y ∧ w1.cell? ⟨b, 2, none⟩ = some z := by
  have h : Below wk.heap.size wk w1 := ((Below.refl wk.heap.size wk).alloc (Nat.le_refl _) o).trans (hb.mono (by simp))
  exact step3 hB hz hlt c0 c1 c2 h
/-- What loads come to in the worlds of a region. -/
theorem ext3 {wk : World} {b : Nat} {x y z : Value} (hlt : b < wk.heap.size)
    (c0 : wk.cell? ⟨b, 0, none⟩ = some x) (c1 : wk.cell? ⟨b, 1, none⟩ = some y) (c2 : wk.cell? ⟨b, 2, none⟩ = some z) :
    (∀ q, (ext wk q).cell? ⟨b, 0, none⟩ = some x) ∧ (∀ q, (ext wk q).cell? ⟨b, 1, none⟩ = some y) ∧ (∀ q, (ext wk q).cell? ⟨b, 2, none⟩ = some z) :=
  ⟨fun q => stepc (ext_below wk q) hlt c0, fun q => stepc (ext_below wk q) hlt c1, fun q => stepc (ext_below wk q) hlt c2⟩
end Go.Proofs.YtafoohdndlhbnaaGreatDoor
end

section
namespace Go.Proofs.YtafoohdndlhbnaaGreatDoor
open Go.RowKit

/-- What a slice of integers holds. -/
def Row (k : IntKind) (w : World) (a : Option Addr) (n : Nat) (l : List Int) : Prop :=
  l.length = n ∧ n ≤ 9223372036854775807 ∧ (n = 0 ∨ ∃ b off, a = some ⟨b, off, none⟩ ∧ b < w.heap.size ∧ ∀ i, i < n → w.cell? ⟨b, off + i, none⟩ = some (.int k (l.getD i 0)))

theorem Row.step {k : IntKind} {W w1 : World} {a : Option Addr} {n : Nat} {l : List Int} (h : Row k W a n l) (hb : Below W.heap.size W w1) : Row k w1 a n l := by
  obtain ⟨h1, h2, h3⟩ := h
  refine ⟨h1, h2, ?_⟩
  rcases h3 with h3 | ⟨b, off, rfl, hlt, hc⟩
  · exact .inl h3
  · exact .inr ⟨b, off, rfl, Nat.lt_of_lt_of_le hlt hb.size, fun i hi => stepc hb hlt (hc i hi)⟩
theorem Row.len {k : IntKind} {W : World} {a : Option Addr} {n : Nat} {l : List Int} (h : Row k W a n l) : l.length = n := h.1
theorem Row.le {k : IntKind} {W : World} {a : Option Addr} {n : Nat} {l : List Int} (h : Row k W a n l) : n ≤ 9223372036854775807 := h.2.1
theorem Row.at {k : IntKind} {W : World} {a : Option Addr} {n : Nat} {l : List Int} (h : Row k W a n l) (hn : 0 < n) : ∃ b off, a = some ⟨b, off, none⟩ ∧ b < W.heap.size ∧ ∀ i, i < n → W.cell? ⟨b, off + i, none⟩ = some (.int k (l.getD i 0)) := by
  rcases h.2.2 with h0 | h
  · omega
  · exact h
theorem Row.nil (k : IntKind) (W : World) (a : Option Addr) : Row k W a 0 [] := ⟨rfl, by omega, .inl rfl⟩
theorem Row.take {k : IntKind} {W : World} {a : Option Addr} {n : Nat} {l : List Int} (h : Row k W a n l) (m : Nat) (hm : m ≤ n) : Row k W a m (l.take m) := by
  obtain ⟨h1, h2, h3⟩ := h
  refine ⟨by simp; omega, by omega, ?_⟩
  rcases h3 with h3 | ⟨b, off, rfl, hlt, hc⟩
  · exact .inl (by omega)
  · refine .inr ⟨b, off, rfl, hlt, fun i hi => ?_⟩
    rw [hc i (by omega)]
    have : (l.take m).getD i 0 = l.getD i 0 := by
      simp [List.getD, List.getElem?_take, hi]
    rw [this]
end Go.Proofs.YtafoohdndlhbnaaGreatDoor
end

section
namespace Go.Proofs.YtafoohdndlhbnaaGreatDoor
open Go.RowKit

namespace Num
theorem w64 (x : Int) : IntKind.u64.wrap x = x % 18446744073709551616 := by
  simp [IntKind.wrap, IntKind.bits, IntKind.signed]
theorem w32 (x : Int) : IntKind.u32.wrap x = x % 4294967296 := by
  simp [IntKind.wrap, IntKind.bits, IntKind.signed]
theorem nat64 {n : Nat} (h : n < 18446744073709551616) : IntKind.u64.wrap (n : Int) = n := by rw [w64]; omega
theorem nat32 {n : Nat} (h : n < 4294967296) : IntKind.u32.wrap (n : Int) = n := by rw [w32]; omega
theorem lt64 {a : Int} (h : a < 18446744073709551616) : a.toNat < 2 ^ 64 := by omega
theorem lt32 {a : Int} (h : a < 4294967296) : a.toNat < 2 ^ 32 := by omega
theorem of64 {a : Int} (ha : 0 ≤ a) (ha' : a < 18446744073709551616) : (BitVec.ofInt 64 a).toNat = a.toNat := by rw [BitVec.toNat_ofInt]; omega
theorem of32 {a : Int} (ha : 0 ≤ a) (ha' : a < 4294967296) : (BitVec.ofInt 32 a).toNat = a.toNat := by rw [BitVec.toNat_ofInt]; omega

theorem and64 {a b : Int} (ha : 0 ≤ a) (ha' : a < 18446744073709551616) (hb : 0 ≤ b) (hb' : b < 18446744073709551616) : bits .and .u64 a b = ((a.toNat &&& b.toNat : Nat) : Int) := by
  show IntKind.u64.wrap ((BitVec.ofInt 64 a &&& BitVec.ofInt 64 b).toNat : Int) = _
  rw [BitVec.toNat_and, of64 ha ha', of64 hb hb']
  exact nat64 (Nat.and_lt_two_pow _ (lt64 hb'))
theorem or64 {a b : Int} (ha : 0 ≤ a) (ha' : a < 18446744073709551616) (hb : 0 ≤ b) (hb' : b < 18446744073709551616) : bits .or .u64 a b = ((a.toNat ||| b.toNat : Nat) : Int) := by
  show IntKind.u64.wrap ((BitVec.ofInt 64 a ||| BitVec.ofInt 64 b).toNat : Int) = _
  rw [BitVec.toNat_or, of64 ha ha', of64 hb hb']
  exact nat64 (Nat.or_lt_two_pow (lt64 ha') (lt64 hb'))
theorem xor64 {a b : Int} (ha : 0 ≤ a) (ha' : a < 18446744073709551616) (hb : 0 ≤ b) (hb' : b < 18446744073709551616) : bits .xor .u64 a b = ((a.toNat ^^^ b.toNat : Nat) : Int) := by
  show IntKind.u64.wrap ((BitVec.ofInt 64 a ^^^ BitVec.ofInt 64 b).toNat : Int) = _
  rw [BitVec.toNat_xor, of64 ha ha', of64 hb hb']
  exact nat64 (Nat.xor_lt_two_pow (lt64 ha') (lt64 hb'))
theorem not64 {a : Int} (ha : 0 ≤ a) (ha' : a < 18446744073709551616) : bits .xor .u64 IntKind.u64.max a = 18446744073709551615 - a := by
  show IntKind.u64.wrap ((BitVec.ofInt 64 IntKind.u64.max ^^^ BitVec.ofInt 64 a).toNat : Int) = _
  rw [show BitVec.ofInt 64 IntKind.u64.max = BitVec.allOnes 64 by decide +kernel, BitVec.allOnes_xor, BitVec.toNat_not, of64 ha ha', w64]
  omega
theorem xor32 {a b : Int} (ha : 0 ≤ a) (ha' : a < 4294967296) (hb : 0 ≤ b) (hb' : b < 4294967296) : bits .xor .u32 a b = ((a.toNat ^^^ b.toNat : Nat) : Int) := by
  show IntKind.u32.wrap ((BitVec.ofInt 32 a ^^^ BitVec.ofInt 32 b).toNat : Int) = _
  rw [BitVec.toNat_xor, of32 ha ha', of32 hb hb']
  exact nat32 (Nat.xor_lt_two_pow (lt32 ha') (lt32 hb'))
theorem and32 {a b : Int} (ha : 0 ≤ a) (ha' : a < 4294967296) (hb : 0 ≤ b) (hb' : b < 4294967296) : bits .and .u32 a b = ((a.toNat &&& b.toNat : Nat) : Int) := by
  show IntKind.u32.wrap ((BitVec.ofInt 32 a &&& BitVec.ofInt 32 b).toNat : Int) = _
  rw [BitVec.toNat_and, of32 ha ha', of32 hb hb']
  exact nat32 (Nat.and_lt_two_pow _ (lt32 hb'))
theorem and_bd {a b : Int} (ha : 0 ≤ a) (ha' : a < 18446744073709551616) (hb : 0 ≤ b) (hb' : b < 18446744073709551616) : 0 ≤ bits .and .u64 a b ∧ bits .and .u64 a b < 18446744073709551616 := by
  rw [and64 ha ha' hb hb']
  have := Nat.and_lt_two_pow a.toNat (lt64 hb')
  omega
/-- The lowest bit. -/
theorem one64 {a : Int} (ha : 0 ≤ a) (ha' : a < 18446744073709551616) : bits .and .u64 a 1 = a % 2 := by
  rw [and64 ha ha' (by decide) (by decide), show (1 : Int).toNat = 1 from rfl, Nat.and_one_is_mod]; omega
theorem one32 {a : Int} (ha : 0 ≤ a) (ha' : a < 4294967296) : bits .and .u32 a 1 = a % 2 := by
  rw [and32 ha ha' (by decide) (by decide), show (1 : Int).toNat = 1 from rfl, Nat.and_one_is_mod]; omega
theorem nat_xor_one (n : Nat) : n ^^^ 1 = if n % 2 = 0 then n + 1 else n - 1 := by
  have h1 : (n ^^^ 1) / 2 = n / 2 := by
    have := Nat.xor_div_two (a := n) (b := 1); simpa using this
  have h2 : (n ^^^ 1) % 2 = (n + 1) % 2 := by
    have e : (n ^^^ 1) % 2 ^ 1 = (n % 2 ^ 1) ^^^ (1 % 2 ^ 1) := Nat.xor_mod_two_pow
    rw [show (2 : Nat) ^ 1 = 2 from rfl] at e
    rw [e]
    rcases Nat.mod_two_eq_zero_or_one n with h | h <;> rw [h] <;> simp <;> omega
  split <;> omega
theorem and_self64 {a : Int} (ha : 0 ≤ a) (ha' : a < 18446744073709551616) : bits .and .u64 a a = a := by
  rw [and64 ha ha' ha ha', Nat.and_self]; omega
theorem and_zero64 {a : Int} (ha : 0 ≤ a) (ha' : a < 18446744073709551616) : bits .and .u64 a 0 = 0 := by
  rw [and64 ha ha' (by decide) (by decide)]; simp
theorem zero_and64 {a : Int} (ha : 0 ≤ a) (ha' : a < 18446744073709551616) : bits .and .u64 0 a = 0 := by
  rw [and64 (by decide) (by decide) ha ha']; simp
theorem and_comm64 {a b : Int} (ha : 0 ≤ a) (ha' : a < 18446744073709551616) (hb : 0 ≤ b) (hb' : b < 18446744073709551616) : bits .and .u64 a b = bits .and .u64 b a := by
  rw [and64 ha ha' hb hb', and64 hb hb' ha ha', Nat.and_comm]
theorem and_not64 {a : Int} (ha : 0 ≤ a) (ha' : a < 18446744073709551616) : bits .and .u64 a (18446744073709551615 - a) = 0 := by
  rw [and64 ha ha' (by omega) (by omega)]
  have e : (18446744073709551615 - a).toNat = 2 ^ 64 - 1 - a.toNat := by omega
  rw [e]
  have : a.toNat &&& (2 ^ 64 - 1 - a.toNat) = 0 := by
    apply Nat.eq_of_testBit_eq
    intro i
    rw [Nat.testBit_and, Nat.zero_testBit, show 2 ^ 64 - 1 - a.toNat = 2 ^ 64 - (a.toNat + 1) by omega, Nat.testBit_two_pow_sub_succ (lt64 ha')]
    cases a.toNat.testBit i <;> simp
  rw [this]; rfl
theorem and_ones64 {a : Int} (ha : 0 ≤ a) (ha' : a < 18446744073709551616) : bits .and .u64 a 18446744073709551615 = a := by
  rw [and64 ha ha' (by decide) (by decide), show (18446744073709551615 : Int).toNat = 2 ^ 64 - 1 from rfl, Nat.and_two_pow_sub_one_eq_mod, Nat.mod_eq_of_lt (lt64 ha')]; omega
end Num
end Go.Proofs.YtafoohdndlhbnaaGreatDoor
end

section
namespace Go.Proofs.YtafoohdndlhbnaaGreatDoor
open Go.RowKit Num

def notV (l : Int) : Int := if l % 2 == 0 then l + 1 else l - 1
def turnV (l : Int) : Bool := l % 2 == 1
def ifV (l : Int) (t : Bool) : Int := if t then notV l else l
def ofBad (n : Int) : Bool := decide (n < 0) || decide (16777216 < n)
def ofV (n : Int) (t : Bool) : Int := if ofBad n then 0 else 2 * n + (if t then 1 else 0)
def ofE (n : Int) : Int := if ofBad n then 1 else 0
/-- A node's word. -/
def nodeW (n : Int) (zs : List Int) : Int := if decide (0 < n) && decide (n < zs.length) then zs.getD n.toNat 0 else 0
def wordV (l : Int) (zs : List Int) : Int := if turnV l then 18446744073709551615 - nodeW (l / 2) zs else nodeW (l / 2) zs
def foldB (a b : Int) : Bool := (a == 0) || (b == 0) || (a == notV b) || (a == 1) || (b == 1) || (a == b)
def foldV (a b : Int) : Int := if (a == 0) || (b == 0) || (a == notV b) then 0 else if a == 1 then b else if (b == 1) || (a == b) then a else 0

/-- A literal as a machine holds it. -/
def IsLit (l : Int) : Prop := 0 ≤ l ∧ l < 4294967296
/-- Words of a valuation. -/
def Words (zs : List Int) : Prop := ∀ i, 0 ≤ zs.getD i 0 ∧ zs.getD i 0 < 18446744073709551616

theorem notV_lit {l : Int} (h : IsLit l) : IsLit (notV l) := by
  unfold IsLit notV at *; split <;> simp_all <;> omega
theorem notV_not (l : Int) : notV (notV l) = l := by
  by_cases e : l % 2 = 0
  · have h : (l + 1) % 2 = 1 := by omega
    unfold notV; simp [e, h]
  · have h : (l - 1) % 2 = 0 := by omega
    unfold notV; simp [e, h]
theorem notV_half (l : Int) : notV l / 2 = l / 2 := by
  unfold notV; split <;> simp_all <;> omega
theorem notV_turn (l : Int) : turnV (notV l) = !turnV l := by
  by_cases e : l % 2 = 0
  · have h : (l + 1) % 2 = 1 := by omega
    unfold notV turnV; simp [e, h]
  · have h : (l - 1) % 2 = 0 := by omega
    have h2 : l % 2 = 1 := by omega
    unfold notV turnV; simp [h, h2]
theorem notV_ne (l : Int) : notV l ≠ l := by unfold notV; split <;> omega
theorem xor_not {l : Int} (h : IsLit l) : bits .xor .u32 l 1 = notV l := by
  obtain ⟨h0, h1⟩ := h
  rw [xor32 h0 h1 (by decide) (by decide), show (1 : Int).toNat = 1 from rfl, nat_xor_one]
  unfold notV
  by_cases e : l % 2 = 0
  · rw [if_pos (by omega), if_pos (by simpa using e)]; omega
  · rw [if_neg (by omega), if_neg (by simpa using e)]; omega
theorem and_turn {l : Int} (h : IsLit l) : (bits .and .u32 l 1 == 1) = turnV l := by
  rw [one32 h.1 h.2]; rfl

theorem nodeW_bd {zs : List Int} (h : Words zs) (n : Int) : 0 ≤ nodeW n zs ∧ nodeW n zs < 18446744073709551616 := by
  unfold nodeW; split
  · exact h _
  · omega
theorem wordV_bd {zs : List Int} (h : Words zs) (l : Int) : 0 ≤ wordV l zs ∧ wordV l zs < 18446744073709551616 := by
  have := nodeW_bd h (l / 2)
  unfold wordV; split <;> omega
theorem wordV_not (l : Int) (zs : List Int) : wordV (notV l) zs = 18446744073709551615 - wordV l zs := by
  unfold wordV
  rw [notV_half, notV_turn]
  cases turnV l <;> simp
  omega
theorem wordV_0 (zs : List Int) : wordV 0 zs = 0 := by unfold wordV turnV nodeW; simp
theorem wordV_1 (zs : List Int) : wordV 1 zs = 18446744073709551615 := by unfold wordV turnV nodeW; simp

theorem foldV_word {a b : Int} {zs : List Int} (h : Words zs) (hf : foldB a b = true) : wordV (foldV a b) zs = bits .and .u64 (wordV a zs) (wordV b zs) := by
  have ba := wordV_bd h a
  have bb := wordV_bd h b
  unfold foldV
  by_cases h0 : a = 0
  · subst h0; simp [wordV_0, zero_and64 bb.1 bb.2]
  by_cases h1 : b = 0
  · subst h1; simp [wordV_0, and_zero64 ba.1 ba.2]
  by_cases h2 : a = notV b
  · subst h2; simp [wordV_0]; rw [wordV_not, and_comm64 (by omega) (by omega) bb.1 bb.2, and_not64 bb.1 bb.2]
  by_cases h3 : a = 1
  · subst h3; simp [h1, h2, wordV_1]; rw [and_comm64 (by decide) (by decide) bb.1 bb.2, and_ones64 bb.1 bb.2]
  by_cases h4 : b = 1
  · subst h4; simp [h0, h2, h3, wordV_1]; rw [and_ones64 ba.1 ba.2]
  by_cases h5 : a = b
  · subst h5; simp [h0, h2, h3]; rw [and_self64 ba.1 ba.2]
  · unfold foldB at hf; simp [h0, h1, h2, h3, h4, h5] at hf
theorem notV_inj {a b : Int} (h : notV a = notV b) : a = b := by rw [← notV_not a, h, notV_not]
theorem notV_eq {a b : Int} : a = notV b ↔ b = notV a := ⟨fun h => by rw [h, notV_not], fun h => by rw [h, notV_not]⟩
theorem foldB_comm (a b : Int) : foldB a b = foldB b a := by
  unfold foldB
  have e : (a == notV b) = (b == notV a) := by
    rw [Bool.eq_iff_iff]; simp only [beq_iff_eq]; exact notV_eq
  have e2 : (a == b) = (b == a) := by rw [Bool.eq_iff_iff]; simp only [beq_iff_eq]; exact ⟨Eq.symm, Eq.symm⟩
  rw [e, e2]
  cases (a == 0) <;> cases (b == 0) <;> cases (b == notV a) <;> cases (a == 1) <;> cases (b == 1) <;> rfl
theorem foldV_comm (a b : Int) : foldV a b = foldV b a := by
  unfold foldV
  have e : (a == notV b) = (b == notV a) := by
    rw [Bool.eq_iff_iff]; simp only [beq_iff_eq]; exact notV_eq
  rw [e]
  have o : ((a == 0) || (b == 0) || (b == notV a)) = ((b == 0) || (a == 0) || (b == notV a)) := by cases (a == 0) <;> cases (b == 0) <;> rfl
  rw [o]
  cases ((b == 0) || (a == 0) || (b == notV a))
  · by_cases h3 : a = 1
    · by_cases h4 : b = 1
      · rw [h3, h4]
      · simp [h3, h4]
    · by_cases h4 : b = 1
      · simp [h3, h4]
      · by_cases h5 : a = b
        · rw [h5]
        · have h6 : ¬ b = a := fun h => h5 h.symm
          simp [h3, h4, h5, h6]
  · rfl
theorem foldV_lit {a b : Int} (ha : IsLit a) (hb : IsLit b) : IsLit (foldV a b) := by
  have hz : IsLit 0 := by unfold IsLit; omega
  unfold foldV; split
  · exact hz
  · split
    · exact hb
    · split
      · exact ha
      · exact hz
/-- Where no gate is needed. -/
theorem foldB_no {a b : Int} (ha : 0 ≤ a) (hb : 0 ≤ b) (h : foldB a b = false) : (a / 2 == b / 2) = false ∧ 1 < a ∧ 1 < b := by
  unfold foldB at h
  simp at h
  obtain ⟨⟨⟨⟨⟨h0, h1⟩, h2⟩, h3⟩, h4⟩, h5⟩ := h
  refine ⟨?_, by omega, by omega⟩
  simp
  intro e
  unfold notV at h2
  split at h2 <;> simp_all <;> omega
end Go.Proofs.YtafoohdndlhbnaaGreatDoor
end

section
namespace Go.Proofs.YtafoohdndlhbnaaGreatDoor
open Go.RowKit Go.ChangeShapes Go.WideShapes

theorem words_of {zs : List Int} (h : ∀ n ∈ zs, (Lit.int .u64 n).wf = true) : Words zs := by
  intro i
  by_cases hi : i < zs.length
  · have e : zs.getD i 0 = zs[i] := by simp [List.getD, hi]
    have := bounds_u64 (h _ (List.getElem_mem hi))
    rw [e]; omega
  · have e : zs.getD i 0 = 0 := by rw [List.getD_eq_getElem?_getD, List.getElem?_eq_none (by omega)]; rfl
    rw [e]; omega
theorem isLit_of {l : Int} (h : (Go.Lit.int .u32 l).wf = true) : IsLit l := by
  have := bounds_u32 h
  unfold IsLit; omega
theorem lits_of {zs : List Int} (h : ∀ n ∈ zs, (Go.Lit.int .u32 n).wf = true) : ∀ i, IsLit (zs.getD i 0) := by
  intro i
  by_cases hi : i < zs.length
  · have e : zs.getD i 0 = zs[i] := by simp [List.getD, hi]
    rw [e]; exact isLit_of (h _ (List.getElem_mem hi))
  · have e : zs.getD i 0 = 0 := by rw [List.getD_eq_getElem?_getD, List.getElem?_eq_none (by omega)]; rfl
    rw [e]; unfold IsLit; omega
/-- A slice that came in: as much of it as its length says. -/
theorem row_of_in {k : IntKind} {w : World} {a : Option Addr} {len cap : Nat} {zs : List Int} (h : IsRow k w a len cap zs) : len ≤ cap ∧ cap ≤ 9223372036854775807 ∧ Row k w a len (zs.take len) := by
  rcases h with ⟨rfl, rfl, rfl, rfl⟩ | ⟨x, rfl, hlc, hcap, hzl, hcell, hwf⟩
  · exact ⟨by omega, by omega, rfl, by omega, .inl rfl⟩
  · unfold maxLen at hcap
    refine ⟨hlc, by omega, by rw [List.length_take]; omega, by omega, ?_⟩
    by_cases h0 : len = 0
    · exact .inl h0
    · right
      obtain ⟨b, off, rfl, hc⟩ := ints_at hcell (by omega)
      refine ⟨b, off, rfl, World.block_lt_of_cell? w ⟨b, off + 0, none⟩ (hc 0 (by omega)), fun i hi => ?_⟩
      rw [hc i (by omega)]
      have : (zs.take len).getD i 0 = zs.getD i 0 := by simp [List.getD, hi]
      rw [this]
theorem words_in {w : World} {a : Option Addr} {len cap : Nat} {zs : List Int} (h : IsRow .u64 w a len cap zs) (m : Nat) : Words (zs.take m) := by
  rcases h with ⟨rfl, rfl, rfl, rfl⟩ | ⟨x, rfl, hlc, hcap, hzl, hcell, hwf⟩
  · intro i; simp
  · exact words_of fun n hn => hwf n (List.mem_of_mem_take hn)
theorem lits_in {w : World} {a : Option Addr} {len cap : Nat} {zs : List Int} (h : IsRow .u32 w a len cap zs) (m : Nat) : ∀ i, IsLit ((zs.take m).getD i 0) := by
  rcases h with ⟨rfl, rfl, rfl, rfl⟩ | ⟨x, rfl, hlc, hcap, hzl, hcell, hwf⟩
  · intro i; unfold IsLit; simp
  · exact lits_of fun n hn => hwf n (List.mem_of_mem_take hn)
end Go.Proofs.YtafoohdndlhbnaaGreatDoor
end
