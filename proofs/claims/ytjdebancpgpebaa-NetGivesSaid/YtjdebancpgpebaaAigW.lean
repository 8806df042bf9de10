/-
  Where a graph lies: its own struct, its nodes, its inputs, its map; what is left as it was while it grows.
-/
import Derived.Test.YtjdebancpgpebaaOwn
import Derived.Test.YtjdebancpgpebaaAigM
import Derived.Maps.OwnSet
import Derived.WideKeyPair
namespace Go.Proofs.Ytjdebancpgpebaa
open Go.RowKit Go.Maps

theorem akey : WideMaps.ArrKey Try.prog 96 50 2 := ⟨by kernel_rfl, by kernel_rfl, by kernel_rfl, by kernel_rfl⟩
theorem alaw : Keyed Try.prog 96 := Keyed.of_law akey.law
theorem tsize : ∃ m, Try.prog.types.size = m + 1 := ⟨Try.prog.types.size - 1, by kernel_rfl⟩
theorem lit_wf {l : Int} (h : IsLit l) : (Lit.int .u32 l).wf = true := WalkArith.wf_u32 ⟨h.1, by have := h.2; omega⟩
/-- What a pair reads as. -/
def pkey (a b : Int) : Lit := .string (keyBytes [.int .u32 a, .int .u32 b])
theorem key_pair {a b : Int} (ha : IsLit a) (hb : IsLit b) : keyOf Try.prog 96 (.agg #[.int .u32 a, .int .u32 b]) = some (pkey a b) :=
  WideMaps.keyOf_pair akey Try.underlying50 tsize (lit_wf ha) (lit_wf hb)
theorem pkey_inj {a b c d : Int} (ha : IsLit a) (hb : IsLit b) (hc : IsLit c) (hd : IsLit d) (h : pkey a b = pkey c d) : a = c ∧ b = d := by
  have := alaw.inj (key_pair ha hb) (by rw [h]; exact key_pair hc hd)
  simpa using this
theorem pkey_key {a b : Int} (ha : IsLit a) (hb : IsLit b) : WideAt.IsKeyLit (pkey a b) := alaw.key (key_pair ha hb)

/-- What the map says, plainly. -/
def MapOf (ns : List Nd) (D : DataW Unit) : Prop :=
  IsMap D ∧ ∀ a b, IsLit a → IsLit b → has D (pkey a b) = (findG ns a b).isSome ∧ ∀ i, findG ns a b = some i → D.atKey (pkey a b) (.lit (.int .u32 0)) = .lit (.int .u32 (2 * (i : Int)))

def ndCells (n : Nd) : List Value := [.bool n.gate, .int .u32 n.a, .int .u32 n.b]
def nodeCells (ns : List Nd) : List Value := ns.flatMap ndCells
theorem nodeCells_push (ns : List Nd) (n : Nd) : nodeCells (ns ++ [n]) = nodeCells ns ++ ndCells n := by simp [nodeCells]
theorem nodeCells_len (ns : List Nd) : (nodeCells ns).length = ns.length * 3 := by
  induction ns with
  | nil => rfl
  | cons n ns ih => rw [show nodeCells (n :: ns) = ndCells n ++ nodeCells ns from rfl, List.length_append, ih]; simp [ndCells]; omega
theorem nodeCells_at (ns : List Nd) (i : Nat) (n : Nd) (h : ns[i]? = some n) : (nodeCells ns)[3 * i]? = some (.bool n.gate) ∧ (nodeCells ns)[3 * i + 1]? = some (.int .u32 n.a) ∧ (nodeCells ns)[3 * i + 2]? = some (.int .u32 n.b) := by
  induction ns generalizing i with
  | nil => simp at h
  | cons m ns ih =>
    rw [show nodeCells (m :: ns) = ndCells m ++ nodeCells ns from rfl]
    match i with
    | 0 => simp at h; subst h; exact ⟨rfl, rfl, rfl⟩
    | i + 1 =>
      have := ih i (by simpa using h)
      rw [List.getElem?_append_right (by simp [ndCells]; omega), List.getElem?_append_right (by simp [ndCells]; omega), List.getElem?_append_right (by simp [ndCells]; omega)]
      rw [show 3 * (i + 1) - (ndCells m).length = 3 * i by simp [ndCells]; omega, show 3 * (i + 1) + 1 - (ndCells m).length = 3 * i + 1 by simp [ndCells]; omega, show 3 * (i + 1) + 2 - (ndCells m).length = 3 * i + 2 by simp [ndCells]; omega]
      exact this

/-- A graph's place. -/
structure Pl where
  b : Nat
  nb : Nat
  nc : Nat
  iv : Value
  m : Option Nat
def Pl.nv (p : Pl) (n : Nat) : Value := .slice (some ⟨p.nb, 0, none⟩) n p.nc
def Pl.has (p : Pl) (k : Nat) : Prop := k = p.b ∨ k = p.nb ∨ p.iv.ownBlock = some k ∨ p.m = some k
def boxOf (p : Pl) (F H : Bool) (n : Nat) : Obj := .cells #[.bool F, .bool H, p.nv n, p.iv, .map p.m] 92 (0, 0)

structure Lay (w : World) (p : Pl) (F H : Bool) (ns : List Nd) (ins : List Int) : Prop where
  box : w.heap[p.b]? = some (boxOf p F H ns.length)
  nodes : w.ownsRow 0 98 3 (p.nv ns.length) ns.length (nodeCells ns)
  inputs : w.ownsRow 0 3 1 p.iv ins.length (ins.map (Value.int .i64))

def MapIn (w : World) (m : Option Nat) (H : Bool) (ns : List Nd) : Prop :=
  if H = true then ∃ mb D, m = some mb ∧ w.ownsMap Try.prog 96 (plainElem Try.prog 50) mb ns.length D ∧ MapOf ns D else m = none

structure Is (w : World) (p : Pl) (G : Gr) : Prop where
  lay : Lay w p G.fold G.hash G.nodes G.inputs
  map : MapIn w p.m G.hash G.nodes

/-- All but the blocks F is as it was. -/
structure Kept (F : Nat → Prop) (w w' : World) : Prop where
  os : w'.os = w.os
  tape : w'.tape = w.tape
  output : w'.output = w.output
  size : w.heap.size ≤ w'.heap.size
  block : ∀ k, k < w.heap.size → ¬ F k → w'.heap[k]? = w.heap[k]?

theorem Kept.refl (F : Nat → Prop) (w : World) : Kept F w w := ⟨rfl, rfl, rfl, Nat.le_refl _, fun _ _ _ => rfl⟩
theorem Kept.of_below {F : Nat → Prop} {w w' : World} (h : Below w.heap.size w w') : Kept F w w' := ⟨h.os, h.tape, h.output, h.size, fun k hk _ => h.block k hk⟩
theorem Kept.trans {F F' : Nat → Prop} {a b c : World} (h : Kept F a b) (k : Kept F' b c) (hF : ∀ x, F' x → F x ∨ a.heap.size ≤ x) : Kept F a c :=
  ⟨k.os.trans h.os, k.tape.trans h.tape, k.output.trans h.output, Nat.le_trans h.size k.size, fun i hi hn => (k.block i (Nat.lt_of_lt_of_le hi h.size) (fun hf => by rcases hF i hf with h1 | h1; exact hn h1; omega)).trans (h.block i hi hn)⟩
theorem Kept.below {F : Nat → Prop} {N : Nat} {w w' : World} (h : Kept F w w') (hF : ∀ k, F k → N ≤ k) (hN : N ≤ w.heap.size) : Below N w w' :=
  ⟨h.os, h.tape, h.output, h.size, fun k hk => h.block k (by omega) (fun hf => by have := hF k hf; omega)⟩

theorem Lay.lt {w : World} {p : Pl} {F H : Bool} {ns : List Nd} {ins : List Int} (h : Lay w p F H ns ins) : p.b < w.heap.size := (Array.getElem?_eq_some_iff.1 h.box).1
theorem Lay.nlt {w : World} {p : Pl} {F H : Bool} {ns : List Nd} {ins : List Int} (h : Lay w p F H ns ins) : p.nb < w.heap.size := own_lt h.nodes
theorem Lay.nlen {w : World} {p : Pl} {F H : Bool} {ns : List Nd} {ins : List Int} (h : Lay w p F H ns ins) : ∃ cur, w.heap[p.nb]? = some (.cells cur 98 (0, 0)) := by
  rcases h.nodes.2 with ⟨h0, _⟩ | ⟨g, cap, cur, hv, _, hh, _⟩
  · simp [Pl.nv] at h0
  · simp [Pl.nv] at hv; obtain ⟨rfl, -⟩ := hv; exact ⟨cur, hh⟩
theorem own_type {w : World} {base e size n k : Nat} {v : Value} {xs : List Value} (h : w.ownsRow base e size v n xs) (hk : v.ownBlock = some k) : ∃ cur, w.heap[k]? = some (.cells cur e (0, 0)) := by
  rcases h.2 with ⟨rfl, _⟩ | ⟨g, cap, cur, rfl, _, hh, _⟩
  · simp [Value.ownBlock] at hk
  · simp [Value.ownBlock] at hk; subst hk; exact ⟨cur, hh⟩
/-- A graph's blocks are there. -/
theorem Is.has_lt {w : World} {p : Pl} {G : Gr} (h : Is w p G) {k : Nat} (hk : p.has k) : k < w.heap.size := by
  rcases hk with rfl | rfl | hk | hk
  · exact h.lay.lt
  · exact h.lay.nlt
  · obtain ⟨cur, hh⟩ := own_type h.lay.inputs hk
    exact (Array.getElem?_eq_some_iff.1 hh).1
  · have hm := h.map
    unfold MapIn at hm
    split at hm
    · obtain ⟨mb, D, e, ho, _⟩ := hm
      rw [e] at hk; obtain rfl : mb = k := by simpa using hk
      exact ho.lt
    · rw [hm] at hk; cases hk
/-- A row of another type lies elsewhere. -/
theorem Is.other {w : World} {p : Pl} {G : Gr} (h : Is w p G) {k T : Nat} {cur : Array Value} {fz : Nat × Nat} (hk : w.heap[k]? = some (.cells cur T fz)) (h1 : T ≠ 92) (h2 : T ≠ 98) (h3 : T ≠ 3) : ¬ p.has k := by
  intro hp
  rcases hp with rfl | rfl | hp | hp
  · rw [h.lay.box] at hk; simp [boxOf] at hk; exact h1 hk.2.1.symm
  · obtain ⟨c, hc⟩ := h.lay.nlen; rw [hc] at hk; simp at hk; exact h2 hk.2.1.symm
  · obtain ⟨c, hc⟩ := own_type h.lay.inputs hp; rw [hc] at hk; simp at hk; exact h3 hk.2.1.symm
  · have hm := h.map
    unfold MapIn at hm
    split at hm
    · obtain ⟨mb, D, e, ho, _⟩ := hm
      rw [e] at hp; obtain rfl : mb = k := by simpa using hp
      obtain ⟨es, cl, hb, _⟩ := ho
      rw [hb] at hk; simp at hk
    · rw [hm] at hp; cases hp
theorem own_keptF {F : Nat → Prop} {w w' : World} {base e size n : Nat} {v : Value} {xs : List Value} (h : w.ownsRow base e size v n xs) (hk : Kept F w w') (hn : ∀ k, v.ownBlock = some k → ¬ F k) : w'.ownsRow base e size v n xs := by
  refine ⟨h.1, ?_⟩
  rcases h.2 with h0 | ⟨g, cap, cur, rfl, hg, hh, r⟩
  · exact .inl h0
  · exact .inr ⟨g, cap, cur, rfl, hg, by rw [hk.block g (Array.getElem?_eq_some_iff.1 hh).1 (hn g rfl)]; exact hh, r⟩
/-- A row of another type is kept while the graph grows. -/
theorem own_beside {w w' : World} {p : Pl} {G : Gr} (hI : Is w p G) {base T size n : Nat} {v : Value} {xs : List Value} (h : w.ownsRow base T size v n xs) (hk : Kept p.has w w') (h1 : T ≠ 92) (h2 : T ≠ 98) (h3 : T ≠ 3) : w'.ownsRow base T size v n xs :=
  own_keptF h hk (fun k e => by obtain ⟨cur, hh⟩ := own_type h e; exact hI.other hh h1 h2 h3)
theorem map_block {w w' : World} {b n : Nat} {D : DataW Unit} (h : w.ownsMap Try.prog 96 (plainElem Try.prog 50) b n D) (hb : w'.heap[b]? = w.heap[b]?) : w'.ownsMap Try.prog 96 (plainElem Try.prog 50) b n D := by
  obtain ⟨es, cl, h1, r⟩ := h
  exact ⟨es, cl, hb.trans h1, r⟩
/-- What is below stays. -/
theorem Lay.below {w w' : World} {p : Pl} {F H : Bool} {ns : List Nd} {ins : List Int} (h : Lay w p F H ns ins) (hb : Below w.heap.size w w') : Lay w' p F H ns ins :=
  ⟨(hb.block _ h.lt).trans h.box, own_below h.nodes hb, own_below h.inputs hb⟩
theorem MapIn.below {w w' : World} {m : Option Nat} {H : Bool} {ns : List Nd} (h : MapIn w m H ns) (hb : Below w.heap.size w w') : MapIn w' m H ns := by
  unfold MapIn at h ⊢
  split
  · rename_i hH
    rw [if_pos hH] at h
    obtain ⟨mb, D, e, ho, hm⟩ := h
    exact ⟨mb, D, e, map_block ho (hb.block _ ho.lt), hm⟩
  · rename_i hH
    rw [if_neg hH] at h; exact h
theorem Is.below {w w' : World} {p : Pl} {G : Gr} (h : Is w p G) (hb : Below w.heap.size w w') : Is w' p G := ⟨h.lay.below hb, h.map.below hb⟩

/-- One step on: the graph is G' now; the rest is as it was. -/
structure Step (p : Pl) (w : World) (p' : Pl) (w' : World) (G' : Gr) : Prop where
  is : Is w' p' G'
  kept : Kept p.has w w'
  b : p'.b = p.b
  new : ∀ k, p'.has k → p.has k ∨ w.heap.size ≤ k

theorem Step.refl {p : Pl} {w : World} {G : Gr} (h : Is w p G) : Step p w p w G := ⟨h, Kept.refl _ _, rfl, fun _ h => .inl h⟩
theorem Step.of_below {p : Pl} {w w' : World} {G : Gr} (h : Is w p G) (hb : Below w.heap.size w w') : Step p w p w' G := ⟨h.below hb, Kept.of_below hb, rfl, fun _ h => .inl h⟩
theorem Step.trans {p p1 p2 : Pl} {w w1 w2 : World} {G1 G2 : Gr} (h : Step p w p1 w1 G1) (k : Step p1 w1 p2 w2 G2) : Step p w p2 w2 G2 :=
  ⟨k.is, h.kept.trans k.kept h.new, k.b.trans h.b, fun x hx => by
    rcases k.new x hx with h1 | h1
    · exact h.new x h1
    · exact .inr (Nat.le_trans h.kept.size h1)⟩
theorem Step.then {p p1 : Pl} {w w1 w2 : World} {G1 : Gr} (h : Step p w p1 w1 G1) (hb : Below w1.heap.size w1 w2) : Step p w p1 w2 G1 := h.trans (Step.of_below h.is hb)
theorem Step.front {p p1 : Pl} {w w1 w2 : World} {G G1 : Gr} (hG : Is w p G) (hb : Below w.heap.size w w1) (h : Step p w1 p1 w2 G1) : Step p w p1 w2 G1 := (Step.of_below hG hb).trans h

/-- The cells of the graph's own struct. -/
theorem Lay.cells {w : World} {p : Pl} {F H : Bool} {ns : List Nd} {ins : List Int} (h : Lay w p F H ns ins) :
    w.cell? ⟨p.b, 0, none⟩ = some (.bool F) ∧ w.cell? ⟨p.b, 1, none⟩ = some (.bool H) ∧ w.cell? ⟨p.b, 2, none⟩ = some (.slice (some ⟨p.nb, 0, none⟩) ns.length p.nc) ∧ w.cell? ⟨p.b, 3, none⟩ = some p.iv ∧ w.cell? ⟨p.b, 4, none⟩ = some (.map p.m)
      ∧ ∀ o, w.frozen? ⟨p.b, o, none⟩ = false := by
  have hb := h.box
  refine ⟨?_, ?_, ?_, ?_, ?_, fun o => ?_⟩ <;> simp [World.cell?, World.frozen?, hb, boxOf, Pl.nv]
end Go.Proofs.Ytjdebancpgpebaa
