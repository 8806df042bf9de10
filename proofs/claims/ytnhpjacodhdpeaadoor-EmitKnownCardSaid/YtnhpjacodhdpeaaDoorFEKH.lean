/-
  Where a graph lies: its own struct, its nodes, its inputs, its map; what is left as it was while it grows.
  The walks of package aig's small functions.
  A node more: add.
  A new gate: its place in the map.
  A new gate: the walk.
-/
import Derived.Test.YtnhpjacodhdpeaaDoorFEKA
import Derived.Test.YtnhpjacodhdpeaaDoorFEKG
import Derived.Maps.OwnSet
import Derived.WideKeyPair
import Derived.Deep.RegionHeld3
import Derived.Deep.AppendLies
import Derived.Deep.QuietTactic
import Derived.BigQuiet
import Derived.Deep.RegionLaw
import Derived.StillTailTactics
section
namespace Go.Proofs.YtnhpjacodhdpeaaDoor
open Go.RowKit Go.Maps

theorem akey : WideMaps.ArrKey Tryd.prog 147 94 2 := ⟨by kernel_rfl, by kernel_rfl, by kernel_rfl, by kernel_rfl⟩
theorem alaw : Keyed Tryd.prog 147 := Keyed.of_law akey.law
theorem tsize : ∃ m, Tryd.prog.types.size = m + 1 := ⟨Tryd.prog.types.size - 1, by kernel_rfl⟩
theorem lit_wf {l : Int} (h : IsLit l) : (Lit.int .u32 l).wf = true := WalkArith.wf_u32 ⟨h.1, by have := h.2; omega⟩
/-- What a pair reads as. -/
def pkey (a b : Int) : Lit := .string (keyBytes [.int .u32 a, .int .u32 b])
theorem key_pair {a b : Int} (ha : IsLit a) (hb : IsLit b) : keyOf Tryd.prog 147 (.agg #[.int .u32 a, .int .u32 b]) = some (pkey a b) :=
  WideMaps.keyOf_pair akey Tryd.underlying94 tsize (lit_wf ha) (lit_wf hb)
theorem pkey_inj {a b c d : Int} (ha : IsLit a) (hb : IsLit b) (hc : IsLit c) (hd : IsLit d) (h : pkey a b = pkey c d) : a = c ∧ b = d := by
  have := alaw.inj (key_pair ha hb) (by rw [h]; exact key_pair hc hd)
  simpa using this
theorem pkey_key {a b : Int} (ha : IsLit a) (hb : IsLit b) : WideAt.IsKeyLit (pkey a b) := alaw.key (key_pair ha hb)

/-- What the map says, plainly. -/
def MapOf (ns : List Nd) (D : DataW Unit) : Prop :=
  IsMap D ∧ ∀ a b, IsLit a → IsLit b → has D (pkey a b) = (findG ns a b).isSome ∧ ∀ i, findG ns a b = some i → D.atKey (pkey a b) (.lit (.int .u32 0)) = .lit (.int .u32 (2 * (i : Int)))

def ndCells (n : Nd) : List Value := [.bool n.gate, .int .u32 n.a, .int .u32 n.b]
def nodeCells (ns : List Nd) : List Value := ns.flatMap ndCells
theorem nodeCells_push (ns : List Nd) (n : Nd) : nodeCells (ns ++ [n]) = nodeCells ns ++ ndCells n := by simp [nodeCells]
theorem nodeCells_len (ns : List Nd) : (nodeCells ns).length = ns.length * 3 := by
  induction ns with
  | nil => rfl
  | cons n ns ih => rw [show nodeCells (n :: ns) = ndCells n ++ nodeCells ns from rfl, List.length_append, ih]; simp [ndCells]; omega
theorem nodeCells_at (ns : List Nd) (i : Nat) (n : Nd) (h : ns[i]? = some n) : (nodeCells ns)[3 * i]? = some (.bool n.gate) ∧ (nodeCells ns)[3 * i + 1]? = some (.int .u32 n.a) ∧ (nodeCells ns)[3 * i + 2]? = some (.int .u32 n.b) := by
  induction ns generalizing i with
  | nil => simp at h
  | cons m ns ih =>
    rw [show nodeCells (m :: ns) = ndCells m ++ nodeCells ns from rfl]
    match i with
    | 0 => simp at h; subst h; exact ⟨rfl, rfl, rfl⟩
    | i + 1 =>
      have := ih i (by simpa using h)
      rw [List.getElem?_append_right (by simp [ndCells]; omega), List.getElem?_append_right (by simp [ndCells]; omega), List.getElem?_append_right (by simp [ndCells]; omega)]
      rw [show 3 * (i + 1) - (ndCells m).length = 3 * i by simp [ndCells]; omega, show 3 * (i + 1) + 1 - (ndCells m).length = 3 * i + 1 by simp [ndCells]; omega, show 3 * (i + 1) + 2 - (ndCells m).length = 3 * i + 2 by simp [ndCells]; omega]
      exact this

/-- A graph's place. -/
structure Pl where
  b : Nat
  nb : Nat
  nc : Nat
  iv : Value
  m : Option Nat
def Pl.nv (p : Pl) (n : Nat) : Value := .slice (some ⟨p.nb, 0, none⟩) n p.nc
def Pl.has (p : Pl) (k : Nat) : Prop := k = p.b ∨ k = p.nb ∨ p.iv.ownBlock = some k ∨ p.m = some k
def boxOf (p : Pl) (F H : Bool) (n : Nat) : Obj := .cells #[.bool F, .bool H, p.nv n, p.iv, .map p.m] 144 (0, 0)

structure Lay (w : World) (p : Pl) (F H : Bool) (ns : List Nd) (ins : List Int) : Prop where
  box : w.heap[p.b]? = some (boxOf p F H ns.length)
  nodes : w.ownsRow 0 149 3 (p.nv ns.length) ns.length (nodeCells ns)
  inputs : w.ownsRow 0 3 1 p.iv ins.length (ins.map (Value.int .i64))

def MapIn (w : World) (m : Option Nat) (H : Bool) (ns : List Nd) : Prop :=
  if H = true then ∃ mb D, m = some mb ∧ w.ownsMap Tryd.prog 147 (plainElem Tryd.prog 94) mb ns.length D ∧ MapOf ns D else m = none

structure Is (w : World) (p : Pl) (G : Gr) : Prop where
  lay : Lay w p G.fold G.hash G.nodes G.inputs
  map : MapIn w p.m G.hash G.nodes

/-- All but the blocks F is as it was. -/
structure Kept (F : Nat → Prop) (w w' : World) : Prop where
  os : w'.os = w.os
  tape : w'.tape = w.tape
  output : w'.output = w.output
  size : w.heap.size ≤ w'.heap.size
  block : ∀ k, k < w.heap.size → ¬ F k → w'.heap[k]? = w.heap[k]?

theorem Kept.refl (F : Nat → Prop) (w : World) : Kept F w w := ⟨rfl, rfl, rfl, Nat.le_refl _, fun _ _ _ => rfl⟩
theorem Kept.of_below {F : Nat → Prop} {w w' : World} (h : Below w.heap.size w w') : Kept F w w' := ⟨h.os, h.tape, h.output, h.size, fun k hk _ => h.block k hk⟩
theorem Kept.trans {F F' : Nat → Prop} {a b c : World} (h : Kept F a b) (k : Kept F' b c) (hF : ∀ x, F' x → F x ∨ a.heap.size ≤ x) : Kept F a c :=
  ⟨k.os.trans h.os, k.tape.trans h.tape, k.output.trans h.output, Nat.le_trans h.size k.size, fun i hi hn => (k.block i (Nat.lt_of_lt_of_le hi h.size) (fun hf => by rcases hF i hf with h1 | h1; exact hn h1; omega)).trans (h.block i hi hn)⟩
theorem Kept.below {F : Nat → Prop} {N : Nat} {w w' : World} (h : Kept F w w') (hF : ∀ k, F k → N ≤ k) (hN : N ≤ w.heap.size) : Below N w w' :=
  ⟨h.os, h.tape, h.output, h.size, fun k hk => h.block k (by omega) (fun hf => by have := hF k hf; omega)⟩

theorem Lay.lt {w : World} {p : Pl} {F H : Bool} {ns : List Nd} {ins : List Int} (h : Lay w p F H ns ins) : p.b < w.heap.size := (Array.getElem?_eq_some_iff.1 h.box).1
theorem Lay.nlt {w : World} {p : Pl} {F H : Bool} {ns : List Nd} {ins : List Int} (h : Lay w p F H ns ins) : p.nb < w.heap.size := own_lt h.nodes
theorem Lay.nlen {w : World} {p : Pl} {F H : Bool} {ns : List Nd} {ins : List Int} (h : Lay w p F H ns ins) : ∃ cur, w.heap[p.nb]? = some (.cells cur 149 (0, 0)) := by
  rcases h.nodes.2 with ⟨h0, _⟩ | ⟨g, cap, cur, hv, _, hh, _⟩
  · simp [Pl.nv] at h0
  · simp [Pl.nv] at hv; obtain ⟨rfl, -⟩ := hv; exact ⟨cur, hh⟩
theorem own_type {w : World} {base e size n k : Nat} {v : Value} {xs : List Value} (h : w.ownsRow base e size v n xs) (hk : v.ownBlock = some k) : ∃ cur, w.heap[k]? = some (.cells cur e (0, 0)) := by
  rcases h.2 with ⟨rfl, _⟩ | ⟨g, cap, cur, rfl, _, hh, _⟩
  · simp [Value.ownBlock] at hk
  · simp [Value.ownBlock] at hk; subst hk; exact ⟨cur, hh⟩
/-- A graph's blocks are there. -/
theorem Is.has_lt {w : World} {p : Pl} {G : Gr} (h : Is w p G) {k : Nat} (hk : p.has k) : k < w.heap.size := by
  rcases hk with rfl | rfl | hk | hk
  · exact h.lay.lt
  · exact h.lay.nlt
  · obtain ⟨cur, hh⟩ := own_type h.lay.inputs hk
    exact (Array.getElem?_eq_some_iff.1 hh).1
  · have hm := h.map
    unfold MapIn at hm
    split at hm
    · obtain ⟨mb, D, e, ho, _⟩ := hm
      rw [e] at hk; obtain rfl : mb = k := by simpa using hk
      exact ho.lt
    · rw [hm] at hk; cases hk
/-- A row of another type lies elsewhere. -/
theorem Is.other {w : World} {p : Pl} {G : Gr} (h : Is w p G) {k T : Nat} {cur : Array Value} {fz : Nat × Nat} (hk : w.heap[k]? = some (.cells cur T fz)) (h1 : T ≠ 144) (h2 : T ≠ 149) (h3 : T ≠ 3) : ¬ p.has k := by
  intro hp
  rcases hp with rfl | rfl | hp | hp
  · rw [h.lay.box] at hk; simp [boxOf] at hk; exact h1 hk.2.1.symm
  · obtain ⟨c, hc⟩ := h.lay.nlen; rw [hc] at hk; simp at hk; exact h2 hk.2.1.symm
  · obtain ⟨c, hc⟩ := own_type h.lay.inputs hp; rw [hc] at hk; simp at hk; exact h3 hk.2.1.symm
  · have hm := h.map
    unfold MapIn at hm
    split at hm
    · obtain ⟨mb, D, e, ho, _⟩ := hm
      rw [e] at hp; obtain rfl : mb = k := by simpa using hp
      obtain ⟨es, cl, hb, _⟩ := ho
      rw [hb] at hk; simp at hk
    · rw [hm] at hp; cases hp
theorem own_keptF {F : Nat → Prop} {w w' : World} {base e size n : Nat} {v : Value} {xs : List Value} (h : w.ownsRow base e size v n xs) (hk : Kept F w w') (hn : ∀ k, v.ownBlock = some k → ¬ F k) : w'.ownsRow base e size v n xs := by
  refine ⟨h.1, ?_⟩
  rcases h.2 with h0 | ⟨g, cap, cur, rfl, hg, hh, r⟩
  · exact .inl h0
  · exact .inr ⟨g, cap, cur, rfl, hg, by rw [hk.block g (Array.getElem?_eq_some_iff.1 hh).1 (hn g rfl)]; exact hh, r⟩
/-- A row of another type is kept while the graph grows. -/
theorem own_beside {w w' : World} {p : Pl} {G : Gr} (hI : Is w p G) {base T size n : Nat} {v : Value} {xs : List Value} (h : w.ownsRow base T size v n xs) (hk : Kept p.has w w') (h1 : T ≠ 144) (h2 : T ≠ 149) (h3 : T ≠ 3) : w'.ownsRow base T size v n xs :=
  own_keptF h hk (fun k e => by obtain ⟨cur, hh⟩ := own_type h e; exact hI.other hh h1 h2 h3)
theorem map_block {w w' : World} {b n : Nat} {D : DataW Unit} (h : w.ownsMap Tryd.prog 147 (plainElem Tryd.prog 94) b n D) (hb : w'.heap[b]? = w.heap[b]?) : w'.ownsMap Tryd.prog 147 (plainElem Tryd.prog 94) b n D := by
  obtain ⟨es, cl, h1, r⟩ := h
  exact ⟨es, cl, hb.trans h1, r⟩
/-- What is below stays. -/
theorem Lay.below {w w' : World} {p : Pl} {F H : Bool} {ns : List Nd} {ins : List Int} (h : Lay w p F H ns ins) (hb : Below w.heap.size w w') : Lay w' p F H ns ins :=
  ⟨(hb.block _ h.lt).trans h.box, own_below h.nodes hb, own_below h.inputs hb⟩
theorem MapIn.below {w w' : World} {m : Option Nat} {H : Bool} {ns : List Nd} (h : MapIn w m H ns) (hb : Below w.heap.size w w') : MapIn w' m H ns := by
  unfold MapIn at h ⊢
  split
  · rename_i hH
    rw [if_pos hH] at h
    obtain ⟨mb, D, e, ho, hm⟩ := h
    exact ⟨mb, D, e, map_block ho (hb.block _ ho.lt), hm⟩
  · rename_i hH
    rw [if_neg hH] at h; exact h
theorem Is.below {w w' : World} {p : Pl} {G : Gr} (h : Is w p G) (hb : Below w.heap.size w w') : Is w' p G := ⟨h.lay.below hb, h.map.below hb⟩

/-- One step on: the graph is G' now; the rest is as it was. -/
structure Step (p : Pl) (w : World) (p' : Pl) (w' : World) (G' : Gr) : Prop where
  is : Is w' p' G'
  kept : Kept p.has w w'
  b : p'.b = p.b
  new : ∀ k, p'.has k → p.has k ∨ w.heap.size ≤ k

theorem Step.refl {p : Pl} {w : World} {G : Gr} (h : Is w p G) : Step p w p w G := ⟨h, Kept.refl _ _, rfl, fun _ h => .inl h⟩
theorem Step.of_below {p : Pl} {w w' : World} {G : Gr} (h : Is w p G) (hb : Below w.heap.size w w') : Step p w p w' G := ⟨h.below hb, Kept.of_below hb, rfl, fun _ h => .inl h⟩
theorem Step.trans {p p1 p2 : Pl} {w w1 w2 : World} {G1 G2 : Gr} (h : Step p w p1 w1 G1) (k : Step p1 w1 p2 w2 G2) : Step p w p2 w2 G2 :=
  ⟨k.is, h.kept.trans k.kept h.new, k.b.trans h.b, fun x hx => by
    rcases k.new x hx with h1 | h1
    · exact h.new x h1
    · exact .inr (Nat.le_trans h.kept.size h1)⟩
theorem Step.then {p p1 : Pl} {w w1 w2 : World} {G1 : Gr} (h : Step p w p1 w1 G1) (hb : Below w1.heap.size w1 w2) : Step p w p1 w2 G1 := h.trans (Step.of_below h.is hb)
theorem Step.front {p p1 : Pl} {w w1 w2 : World} {G G1 : Gr} (hG : Is w p G) (hb : Below w.heap.size w w1) (h : Step p w1 p1 w2 G1) : Step p w p1 w2 G1 := (Step.of_below hG hb).trans h

/-- The cells of the graph's own struct. -/
theorem Lay.cells {w : World} {p : Pl} {F H : Bool} {ns : List Nd} {ins : List Int} (h : Lay w p F H ns ins) :
    w.cell? ⟨p.b, 0, none⟩ = some (.bool F) ∧ w.cell? ⟨p.b, 1, none⟩ = some (.bool H) ∧ w.cell? ⟨p.b, 2, none⟩ = some (.slice (some ⟨p.nb, 0, none⟩) ns.length p.nc) ∧ w.cell? ⟨p.b, 3, none⟩ = some p.iv ∧ w.cell? ⟨p.b, 4, none⟩ = some (.map p.m)
      ∧ ∀ o, w.frozen? ⟨p.b, o, none⟩ = false := by
  have hb := h.box
  refine ⟨?_, ?_, ?_, ?_, ?_, fun o => ?_⟩ <;> simp [World.cell?, World.frozen?, hb, boxOf, Pl.nv]
end Go.Proofs.YtnhpjacodhdpeaaDoor
end

section
namespace Go.Proofs.YtnhpjacodhdpeaaDoor
open Go.RowKit

theorem below_draws (w : World) (n : Nat) : Below w.heap.size w (w.drewN n) := ⟨rfl, rfl, rfl, Nat.le_refl _, fun _ _ => rfl⟩

theorem stands_any {w : World} {p : Pl} {F H : Bool} {ns : List Nd} {ins : List Int} (h : Lay w p F H ns ins) (h0 : 0 < ns.length) :
    Calls Tryd.prog 77 #[.pointer (some ⟨p.b, 0, none⟩)] w fun e w' => e = .returned (.bool true) ∧ w = w' := by
  obtain ⟨-, -, c2, -, -, -⟩ := h.cells
  generalize ns.length = n at *
  clear h
  have g0 : decide (0 < (n : Int)) = true := by simp; omega
  go_enter Tryd.func77, Tryd.ntmps77
  go_wp2
  go_ret
  exact ⟨rfl, rfl⟩

theorem nodes_any {w : World} {p : Pl} {F H : Bool} {ns : List Nd} {ins : List Int} (h : Lay w p F H ns ins) (h0 : 0 < ns.length) :
    Calls Tryd.prog 116 #[.pointer (some ⟨p.b, 0, none⟩)] w fun e w' => e = .returned (.int .i64 ns.length) ∧ w = w' := by
  have hst := Lib.hid (stands_any h h0)
  obtain ⟨-, -, c2, -, -, -⟩ := h.cells
  generalize ns.length = n at *
  clear h
  go_enter Tryd.func116, Tryd.ntmps116
  go_wp2_with (go_at_call 77; refine hst.out.mono ?_; rintro e w2 ⟨rfl, rfl⟩)
  go_ret
  exact ⟨rfl, rfl⟩

theorem gates_any {w : World} {p : Pl} {F H : Bool} {ns : List Nd} {ins : List Int} (h : Lay w p F H ns ins) (h0 : 0 < ns.length) (hi : ins.length < ns.length) (hm : ns.length ≤ 10000000) :
    Calls Tryd.prog 171 #[.pointer (some ⟨p.b, 0, none⟩)] w fun e w' => e = .returned (.int .i64 ((ns.length : Int) - 1 - ins.length)) ∧ Below w.heap.size w w' := by
  have hst := Lib.hid (stands_any h h0)
  obtain ⟨-, -, c2, c3, -, -⟩ := h.cells
  obtain ⟨ia, ic, hiv⟩ := own_slice h.inputs
  rw [hiv] at c3
  generalize ns.length = n at *
  generalize ins.length = m at *
  clear h hiv
  go_enter Tryd.func171, Tryd.ntmps171
  go_wp2_with (go_at_call 77; refine hst.out.mono ?_; rintro e w2 ⟨rfl, rfl⟩)
  go_quiet (fail)
  go_wp2
  go_ret
  exact ⟨rfl, below_draws _ _⟩

theorem ordered_any {a b : Int} (w : World) :
    Calls Tryd.prog 158 #[.int .u32 a, .int .u32 b] w fun e w' => e = .returned (.agg #[.int .u32 (hiV a b), .int .u32 (loV a b)]) ∧ Below w.heap.size w w' := by
  by_cases h : a < b
  · have e1 : hiV a b = b := if_pos h
    have e2 : loV a b = a := if_pos h
    rw [e1, e2]
    have hp := Lib.hid (fun w => pair_lt a b h w)
    clear h e1 e2
    go_enter Tryd.func158, Tryd.ntmps158
    go_wp2_with (go_at_call 170; refine (hp.out _).mono ?_; rintro e w2 ⟨rfl, rfl⟩)
    refine bodyPost_ret (v := .agg #[.int .u32 b, .int .u32 a]) (by simp [results, Tryd.results158, go_sem]) rfl ⟨rfl, ?_⟩
    exact (Below.refl _ _).alloc (Nat.le_refl _) _
  · have e1 : hiV a b = a := if_neg h
    have e2 : loV a b = b := if_neg h
    rw [e1, e2]
    have hp := Lib.hid (fun w => pair_ge a b (by omega) w)
    clear h e1 e2
    go_enter Tryd.func158, Tryd.ntmps158
    go_wp2_with (go_at_call 170; refine (hp.out _).mono ?_; rintro e w2 ⟨rfl, rfl⟩)
    refine bodyPost_ret (v := .agg #[.int .u32 a, .int .u32 b]) (by simp [results, Tryd.results158, go_sem]) rfl ⟨rfl, ?_⟩
    exact (Below.refl _ _).alloc (Nat.le_refl _) _

end Go.Proofs.YtnhpjacodhdpeaaDoor
end

section
namespace Go.Proofs.YtnhpjacodhdpeaaDoor
open Go.RowKit

def Pl.own (p : Pl) (k : Nat) : Prop := k = p.b ∨ k = p.nb

theorem box_set {w : World} {b o : Nat} {cs : Array Value} {T : Nat} {fz : Nat × Nat} (h : w.heap[b]? = some (.cells cs T fz)) (v : Value) : (w.setCell ⟨b, o, none⟩ v).heap[b]? = some (.cells (cs.setIfInBounds o v) T fz) := by
  simp [World.setCell, Array.getElem?_modify, h]

/-- Behind the append and the store of the nodes. -/
theorem add_next {w wa w1 : World} {p : Pl} {F H : Bool} {ns : List Nd} {ins : List Int} (hL : Lay w p F H ns ins) (hb : Below w.heap.size w wa) (n : Nd) {g cap : Nat}
    (hown : w1.ownsRow 0 149 3 (.slice (some ⟨g, 0, none⟩) (ns.length + 1) cap) (ns.length + 1) (nodeCells ns ++ [.bool n.gate, .int .u32 n.a, .int .u32 n.b]))
    (hg : wa.grownBy w1 (some p.nb)) (hat : some p.nb = some g ∨ g = wa.heap.size) :
    Lay (w1.setCell ⟨p.b, 2, none⟩ (.slice (some ⟨g, 0, none⟩) (ns.length + 1) cap)) { p with nb := g, nc := cap } F H (ns ++ [n]) ins
      ∧ Kept p.own w (w1.setCell ⟨p.b, 2, none⟩ (.slice (some ⟨g, 0, none⟩) (ns.length + 1) cap)) ∧ (g = p.nb ∨ w.heap.size ≤ g) := by
  have hlt := hL.lt
  have hsz := hb.size
  obtain ⟨cur, hcur⟩ := hL.nlen
  have hne : p.b ≠ p.nb := by
    intro e
    have := hL.box
    rw [e, hcur] at this; simp [boxOf] at this
  have hbox1 : w1.heap[p.b]? = some (boxOf p F H ns.length) := by
    rw [hg.block p.b (by omega) (by simpa using hne), hb.block _ hlt]; exact hL.box
  have hgb : g ≠ p.b := by
    rcases hat with h | h
    · simp at h; omega
    · omega
  refine ⟨⟨?_, ?_, ?_⟩, ?_, ?_⟩
  · have := box_set (o := 2) hbox1 (.slice (some ⟨g, 0, none⟩) (ns.length + 1) cap)
    simpa [boxOf, Pl.nv] using this
  · have : (w1.setCell ⟨p.b, 2, none⟩ (.slice (some ⟨g, 0, none⟩) (ns.length + 1) cap)).ownsRow 0 149 3 (.slice (some ⟨g, 0, none⟩) (ns.length + 1) cap) (ns.length + 1) (nodeCells ns ++ [.bool n.gate, .int .u32 n.a, .int .u32 n.b]) := by
      refine ⟨hown.1, ?_⟩
      rcases hown.2 with h0 | ⟨g', cap', cur', hv, hg', hh, r⟩
      · exact .inl h0
      · simp at hv
        obtain ⟨rfl, rfl⟩ := hv
        exact .inr ⟨_, _, cur', rfl, hg', by rw [Below.heap_setCell _ _ _ _ hgb]; exact hh, r⟩
    rw [nodeCells_push]
    simpa [Pl.nv, ndCells] using this
  · have hi := own_below hL.inputs hb
    have h1 : ∀ k, p.iv.ownBlock = some k → k ≠ p.b ∧ k ≠ p.nb ∧ k < w.heap.size := by
      intro k hk
      obtain ⟨c, hc⟩ := own_type hL.inputs hk
      refine ⟨fun e => ?_, fun e => ?_, (Array.getElem?_eq_some_iff.1 hc).1⟩
      · subst e; rw [hL.box] at hc; simp [boxOf] at hc
      · subst e; rw [hcur] at hc; simp at hc
    refine ⟨hi.1, ?_⟩
    rcases hi.2 with h0 | ⟨g', cap', cur', hv, hg', hh, r⟩
    · exact .inl h0
    · obtain ⟨e1, e2, e3⟩ := h1 g' (by simp only [hv]; rfl)
      exact .inr ⟨g', cap', cur', hv, hg', by rw [Below.heap_setCell _ _ _ _ e1, hg.block g' (by omega) (by simpa using e2)]; exact hh, r⟩
  · refine ⟨hg.os.trans hb.os, hg.tape.trans hb.tape, hg.output.trans hb.output, by have := hg.size; simp [World.setCell]; omega, fun k hk hn => ?_⟩
    have n1 : k ≠ p.b := fun e => hn (.inl e)
    have n2 : k ≠ p.nb := fun e => hn (.inr e)
    rw [Below.heap_setCell _ _ _ _ n1, hg.block k (by omega) (by simpa using n2), hb.block k hk]
  · rcases hat with h | h
    · simp at h; exact .inl h.symm
    · exact .inr (by omega)

theorem info_node : (Tryd.prog.info? 149).map (fun i => (i.zero, i.size, i.bytes)) = some (some (.agg #[.bool false, .int .u32 0, .int .u32 0]), 3, 12) := by kernel_rfl
theorem news3 {w : World} {b : Nat} {x y z : Value} (h0 : w.cell? ⟨b, 0, none⟩ = some x) (h1 : w.cell? ⟨b, 1, none⟩ = some y) (h2 : w.cell? ⟨b, 2, none⟩ = some z) : ∀ (j : Nat) (u : Value), [x, y, z][j]? = some u → w.cell? ((⟨b, 0, none⟩ : Addr).add j) = some u := by
  intro j u h
  match j with
  | 0 => simp at h; subst h; simpa [Addr.add] using h0
  | 1 => simp at h; subst h; simpa [Addr.add] using h1
  | 2 => simp at h; subst h; simpa [Addr.add] using h2
  | j + 3 => simp at h

theorem grow_box {wa w1 : World} {row : Option Nat} (hg : wa.grownBy w1 row) {b o : Nat} {v : Value} (hc : wa.cell? ⟨b, o, none⟩ = some v) (hf : wa.frozen? ⟨b, o, none⟩ = false) (hne : some b ≠ row) :
    w1.cell? ⟨b, o, none⟩ = some v ∧ w1.frozen? ⟨b, o, none⟩ = false :=
  ⟨hg.cell hc hne, (World.frozen?_of_block (hg.block b (World.block_lt_of_cell? wa _ hc) hne)).trans hf⟩

theorem add_any {w : World} {p : Pl} {F H : Bool} {ns : List Nd} {ins : List Int} (h : Lay w p F H ns ins) (h0 : 0 < ns.length) (hm : ns.length ≤ 10000000) (n : Nd) :
    Calls Tryd.prog 78 #[.pointer (some ⟨p.b, 0, none⟩), .agg #[.bool n.gate, .int .u32 n.a, .int .u32 n.b]] w fun e w' => e = .returned (.tuple #[.int .u32 (2 * (ns.length : Int)), .int .i64 0])
      ∧ ∃ p', Lay w' p' F H (ns ++ [n]) ins ∧ Kept p.own w w' ∧ p'.b = p.b ∧ p'.iv = p.iv ∧ p'.m = p.m ∧ (p'.nb = p.nb ∨ w.heap.size ≤ p'.nb) := by
  obtain ⟨-, -, c2, -, -, fz⟩ := h.cells
  have f2 := fz 2
  have hlt := h.lt
  have hnlt := h.nlt
  have hno := Lib.hid h.nodes
  have HL := Lib.hid h
  have hne : p.b ≠ p.nb := by
    obtain ⟨cur, hcur⟩ := h.nlen
    intro e
    have := h.box
    rw [e, hcur] at this; simp [boxOf] at this
  have hof := Lib.hid (fun w => of_any ns.length false (by omega) w)
  have hov : Hid (ofV ns.length false = 2 * (ns.length : Int) ∧ ofE ns.length = 0) := by
    obtain ⟨e1, e2⟩ := of_val (n := ns.length) false (by omega) (by omega)
    exact ⟨by rw [← e1]; rfl, e2⟩
  have hne2 : some p.b ≠ Value.ownBlock (.slice (some ⟨p.nb, 0, none⟩) ns.length p.nc) := by simpa [Value.ownBlock] using hne
  have hne3 : some w.heap.size ≠ Value.ownBlock (.slice (some ⟨p.nb, 0, none⟩) ns.length p.nc) := by simp [Value.ownBlock]; omega
  obtain ⟨i0, hi, hz0, hz1, hz2⟩ := info_parts info_node
  have hof2 := Lib.hid (fun w => by have := hof.out w; rw [hov.out.1, hov.out.2] at this; exact this)
  obtain ⟨ng, na, nb⟩ := n
  generalize hk : ns.length = k at *
  have hk := Lib.hid hk
  clear h fz hof hov
  go_enter Tryd.func78, Tryd.ntmps78
  go_wp2_with (go_at_call 122; refine (hof2.out _).mono ?_; rintro e w2 ⟨rfl, rfl⟩)
  go_region_law
    (first | ((refine step_append_lies _ (by rfl) (.tmp 23) (.tmp 25) _ (by rfl) 0 149 i0 (.agg #[.bool false, .int .u32 0, .int .u32 0]) 3 12 Tryd.underlying140 hi hz0 hz1 hz2 rfl (by decide) (.slice (some ⟨p.nb, 0, none⟩) k p.nc) k _ (by rfl) (by first | exact hno.out.drew | exact (hno.out.alloc _).drew | exact ((hno.out.alloc _).alloc _).drew) _ 1 1 [.bool ng, .int .u32 na, .int .u32 nb] (by rfl) rfl (by exact news3 (by go_simp) (by go_simp) (by go_simp)) (by simp [Value.oneCell']) (by decide) (by unfold maxLen; omega) (by omega) (by omega) _ rfl ?_; intro g1 cap1 w1 hown1 hgrow1 hat1 hlt1; obtain ⟨x0, x1⟩ := grow_box hgrow1 (b := p.b) (o := 2) (v := .slice (some ⟨p.nb, 0, none⟩) k p.nc) (by go_simp) (by go_simp) hne2; obtain ⟨x2, -⟩ := grow_box hgrow1 (b := w.heap.size) (o := 0) (v := .bool ng) (by go_simp) (by go_simp) hne3; obtain ⟨x3, -⟩ := grow_box hgrow1 (b := w.heap.size) (o := 1) (v := .int .u32 na) (by go_simp) (by go_simp) hne3; obtain ⟨x4, -⟩ := grow_box hgrow1 (b := w.heap.size) (o := 2) (v := .int .u32 nb) (by go_simp) (by go_simp) hne3)))
  all_goals go_wp2
  all_goals go_ret2
  all_goals
    have e := hk.out
    subst e
    obtain ⟨r1, r2, r3⟩ := add_next HL.out (by first | exact (((Below.refl _ _).alloc (Nat.le_refl _) _).alloc (by simp) _).drew | exact ((Below.refl _ _).alloc (Nat.le_refl _) _).drew) ⟨ng, na, nb⟩ hown1 hgrow1 hat1
    exact ⟨rfl, _, r1, r2, rfl, rfl, rfl, r3⟩
end Go.Proofs.YtnhpjacodhdpeaaDoor
end

section
namespace Go.Proofs.YtnhpjacodhdpeaaDoor
open Go.RowKit Go.Maps

theorem mapOf_keep {ns : List Nd} {D : DataW Unit} (h : MapOf ns D) {n : Nd} (hn : ∀ a b, IsLit a → IsLit b → findG ns a b = none → isPair a b n = false) : MapOf (ns ++ [n]) D := by
  refine ⟨h.1, fun a b ha hb => ?_⟩
  obtain ⟨h1, h2⟩ := h.2 a b ha hb
  have e : findG (ns ++ [n]) a b = findG ns a b := by
    rw [findG_push]
    cases hf : findG ns a b with
    | some i => rfl
    | none => rw [if_neg (by rw [hn a b ha hb hf]; simp)]; rfl
  rw [e]; exact ⟨h1, h2⟩
theorem mapOf_input {ns : List Nd} {D : DataW Unit} (h : MapOf ns D) : MapOf (ns ++ [⟨false, 0, 0⟩]) D := mapOf_keep h (fun _ _ _ _ _ => rfl)
theorem mapOf_found {ns : List Nd} {D : DataW Unit} (h : MapOf ns D) {a b : Int} {i : Nat} (hf : findG ns a b = some i) : MapOf (ns ++ [⟨true, a, b⟩]) D :=
  mapOf_keep h (fun c d _ _ hn => by
    unfold isPair
    by_cases e : a = c ∧ b = d
    · obtain ⟨rfl, rfl⟩ := e; rw [hf] at hn; cases hn
    · simp; omega)
theorem mapOf_put {ns : List Nd} {D : DataW Unit} (h : MapOf ns D) {a b : Int} (ha : IsLit a) (hb : IsLit b) (hf : findG ns a b = none) : MapOf (ns ++ [⟨true, a, b⟩]) (D.put (pkey a b) (.lit (.int .u32 (2 * (ns.length : Int))))) := by
  refine ⟨h.1.put _ _, fun c d hc hd => ?_⟩
  obtain ⟨h1, h2⟩ := h.2 c d hc hd
  rw [findG_push]
  by_cases e : a = c ∧ b = d
  · obtain ⟨rfl, rfl⟩ := e
    rw [hf, has_put_same h.1 (pkey_key ha hb), show isPair a b ⟨true, a, b⟩ = true by simp [isPair]]
    refine ⟨rfl, fun i hi => ?_⟩
    simp at hi
    rw [atKey_put_same h.1 (pkey_key ha hb), hi]
  · have hne : pkey c d ≠ pkey a b := fun he => e (by obtain ⟨x, y⟩ := pkey_inj hc hd ha hb he; exact ⟨x.symm, y.symm⟩)
    have hp : isPair c d ⟨true, a, b⟩ = false := by unfold isPair; simp; omega
    rw [hp, has_put_other hne, atKey_put_other hne]
    simp only [Bool.false_eq_true, if_false, Option.or_none]
    exact ⟨h1, h2⟩

theorem kept_cell {F : Nat → Prop} {w w' : World} (h : Kept F w w') {b o : Nat} (hb : b < w.heap.size) (hn : ¬ F b) : w'.cell? ⟨b, o, none⟩ = w.cell? ⟨b, o, none⟩ ∧ w'.frozen? ⟨b, o, none⟩ = w.frozen? ⟨b, o, none⟩ :=
  ⟨World.cell?_of_block (h.block b hb hn), World.frozen?_of_block (h.block b hb hn)⟩
theorem box2 {w w1 : World} {x y : Value} {T : Nat} (hb : Below (w.alloc (.cells #[x, y] T)).heap.size (w.alloc (.cells #[x, y] T)) w1) :
    Below w.heap.size w w1 ∧ w.heap.size + 1 ≤ w1.heap.size ∧ w1.cell? ⟨w.heap.size, 0, none⟩ = some x ∧ w1.cell? ⟨w.heap.size, 1, none⟩ = some y :=
  ⟨nextb ((Below.refl _ _).alloc (Nat.le_refl _) _) (by simp) hb, by have := hb.size; simpa using this, stepc hb (by simp) (by simp), stepc hb (by simp) (by simp)⟩
theorem Lay.grown {w w' : World} {p : Pl} {F H : Bool} {ns : List Nd} {ins : List Int} {mb : Nat} {es : Array MapEntry} {cl : Nat} (h : Lay w p F H ns ins) (hg : w.grownBy w' (some mb)) (hm : w.heap[mb]? = some (.map es cl)) : Lay w' p F H ns ins := by
  have hne : ∀ k cs T fz, w.heap[k]? = some (.cells cs T fz) → k < w.heap.size ∧ some k ≠ some mb := fun k cs T fz e =>
    ⟨(Array.getElem?_eq_some_iff.1 e).1, fun e2 => by simp at e2; subst e2; rw [hm] at e; cases e⟩
  have own : ∀ {e size n : Nat} {v : Value} {xs : List Value}, w.ownsRow 0 e size v n xs → w'.ownsRow 0 e size v n xs := by
    intro e size n v xs h
    refine ⟨h.1, ?_⟩
    rcases h.2 with h0 | ⟨g, cap, cur, hv, hg', hh, r⟩
    · exact .inl h0
    · exact .inr ⟨g, cap, cur, hv, hg', by rw [hg.block g (hne g _ _ _ hh).1 (hne g _ _ _ hh).2]; exact hh, r⟩
  exact ⟨by have hb := h.box; rw [hg.block p.b (hne p.b _ _ _ hb).1 (hne p.b _ _ _ hb).2]; exact hb, own h.nodes, own h.inputs⟩

/-- The map's block is none of the graph's own. -/
theorem map_apart {w : World} {p : Pl} {F H : Bool} {ns : List Nd} {ins : List Int} (h : Lay w p F H ns ins) {mb : Nat} {es : Array MapEntry} {cl : Nat} (hm : w.heap[mb]? = some (.map es cl)) : ¬ p.own mb := by
  rintro (rfl | rfl)
  · rw [h.box] at hm; simp [boxOf] at hm
  · obtain ⟨c, hc⟩ := h.nlen; rw [hc] at hm; cases hm

/-- A node more: what the graph is then. -/
theorem step_node {w w2 w3 w4 : World} {p p' : Pl} {G G' : Gr} {n : Nd} (hG : Is w p G) (hB : Below w.heap.size w w2) (hk : Kept p.own w2 w3) (eb : p'.b = p.b) (ei : p'.iv = p.iv) (em : p'.m = p.m) (hnb : p'.nb = p.nb ∨ w2.heap.size ≤ p'.nb)
    (hk4 : Kept (fun k => p.m = some k) w3 w4) (hl4 : Lay w4 p' G'.fold G'.hash G'.nodes G'.inputs) (hmap : MapIn w4 p'.m G'.hash G'.nodes) : Step p w p' w4 G' := by
  have hs := hB.size
  refine ⟨⟨hl4, hmap⟩, ?_, eb, fun k hp => ?_⟩
  · have h1 : Kept p.has w w2 := Kept.of_below hB
    have h2 : Kept p.has w w3 := h1.trans hk (fun x hx => .inl (by rcases hx with hx | hx; exact .inl hx; exact .inr (.inl hx)))
    exact h2.trans hk4 (fun x hx => .inl (.inr (.inr (.inr hx))))
  · rcases hp with hp | hp | hp | hp
    · exact .inl (.inl (hp.trans eb))
    · rcases hnb with h | h
      · exact .inl (.inr (.inl (hp.trans h)))
      · exact .inr (by omega)
    · rw [ei] at hp; exact .inl (.inr (.inr (.inl hp)))
    · rw [em] at hp; exact .inl (.inr (.inr (.inr hp)))

theorem zero_lit (w : World) : (zeroValue 94).run Tryd.prog w = .ok (.int .u32 0) w := by kernel_rfl
/-- The look-up. -/
theorem look_map {w : World} {mb n : Nat} {D : DataW Unit} {ns : List Nd} (ho : w.ownsMap Tryd.prog 147 (plainElem Tryd.prog 94) mb n D) (hD : MapOf ns D) {a b : Int} (ha : IsLit a) (hb : IsLit b) :
    ∃ c : Int, (∀ i, findG ns a b = some i → c = 2 * (i : Int)) ∧ ∀ w', w'.heap[mb]? = w.heap[mb]? → (Instr.lookup 142 (.map (some mb)) (.agg #[.int .u32 a, .int .u32 b]) true).run Tryd.prog w' = .ok (.tuple #[.int .u32 c, .bool (findG ns a b).isSome]) w' := by
  have main : ∀ w', w'.heap[mb]? = w.heap[mb]? → ∃ c : Int, D.atKey (pkey a b) (.lit (.int .u32 0)) = .lit (.int .u32 c) ∧ (Instr.lookup 142 (.map (some mb)) (.agg #[.int .u32 a, .int .u32 b]) true).run Tryd.prog w' = .ok (.tuple #[.int .u32 c, .bool (findG ns a b).isSome]) w' := by
    intro w' hb'
    obtain ⟨v, ps, hrun, hv⟩ := (map_block ho hb').look_ok alaw Tryd.underlying142 (zero_lit w') (plainElem_int Tryd.underlying94 (by decide)) (key_pair ha hb)
    obtain ⟨c, rfl, hc, _⟩ := plainElem_int_inv Tryd.underlying94 hv
    exact ⟨c, congrArg Prod.fst hc, by rw [hrun, (hD.2 a b ha hb).1]⟩
  obtain ⟨c, hc, -⟩ := main w rfl
  refine ⟨c, fun i hi => ?_, fun w' hw' => ?_⟩
  · rw [(hD.2 a b ha hb).2 i hi] at hc
    simp at hc; exact hc.symm
  · obtain ⟨c', hc', hr⟩ := main w' hw'
    rw [hc] at hc'
    simp at hc'
    rw [hr, hc']
theorem look_none {w : World} {a b : Int} (ha : IsLit a) (hb : IsLit b) :
    (Instr.lookup 142 (.map none) (.agg #[.int .u32 a, .int .u32 b]) true).run Tryd.prog w = .ok (.tuple #[.int .u32 0, .bool false]) w :=
  Maps.look_nil true alaw Tryd.underlying142 (zero_lit w) (key_pair ha hb)
end Go.Proofs.YtnhpjacodhdpeaaDoor
end

section
namespace Go.Proofs.YtnhpjacodhdpeaaDoor
open Go.RowKit Go.Maps
set_option maxRecDepth 100000

theorem gate_any {w : World} {p : Pl} {G : Gr} (hG : Is w p G) (hW : Wf G) (hm : G.nodes.length ≤ 200000) {a b : Int} (ha : IsLit a) (hb : IsLit b) :
    Calls Tryd.prog 159 #[.pointer (some ⟨p.b, 0, none⟩), .agg #[.int .u32 a, .int .u32 b]] w fun e w' => e = .returned (.tuple #[.int .u32 (2 * (G.nodes.length : Int)), .int .i64 0]) ∧ ∃ p', Step p w p' w' (addN G a b) := by
  have h0 := hW.pos
  have hc := hW.cnt
  have hi : G.inputs.length < G.nodes.length := by omega
  have HG := Lib.hid hG
  have HL := Lib.hid hG.lay
  have hlt := hG.lay.lt
  have hnl := hG.lay.nlt
  cases hH : G.hash with
  | false =>
    have HH := Lib.hid hH
    have HM : Hid (p.m = none) := by have := hG.map; unfold MapIn at this; rw [hH] at this; exact Lib.hid (by simpa using this)
    clear hG hW hc hH
    go_enter Tryd.func159, Tryd.ntmps159
    go_wp2_with (first
      | (go_at_call 171; refine (gates_any (HL.out.below ((Below.refl _ _).alloc (Nat.le_refl _) _)) h0 hi (by omega)).mono ?_; rintro e w2 ⟨rfl, hb2⟩; obtain ⟨hB, hz, d0, d1⟩ := box2 hb2; clear hb2)
      | (go_at_call 78; refine (add_any (HL.out.below hB) h0 (by omega) ⟨true, a, b⟩).mono ?_; rintro e w3 ⟨rfl, p', hl3, hk3, eb, ei, em, hnb⟩; have hL3 := Lib.hid hl3; obtain ⟨-, e1, -, -, -, -⟩ := hl3.cells; rw [eb, HH.out] at e1; have hK := Lib.hid hk3; have hN := Lib.hid hnb; have hE := Lib.hid (show p'.b = p.b ∧ p'.iv = p.iv ∧ p'.m = p.m from ⟨eb, ei, em⟩); clear eb ei em hl3 hk3 hnb))
    go_ret2
    refine ⟨rfl, p', ?_⟩
    exact step_node HG.out hB hK.out hE.out.1 hE.out.2.1 hE.out.2.2 hN.out (Kept.refl _ _) (n := ⟨true, a, b⟩) hL3.out (by unfold MapIn; rw [show (addN G a b).hash = false from HH.out]; exact hE.out.2.2.trans HM.out)
  | true =>
    have HH := Lib.hid hH
    have hmap := hG.map
    unfold MapIn at hmap
    rw [if_pos hH] at hmap
    obtain ⟨mb, D, hmb, hown, hD⟩ := hmap
    have HM := Lib.hid hmb
    have HO := Lib.hid hown
    have HD := Lib.hid hD
    cases hf : findG G.nodes a b with
    | some i =>
      have HF := Lib.hid hf
      clear hG hW hc hH hmb hown hD hf
      go_enter Tryd.func159, Tryd.ntmps159
      go_wp2_with (first
        | (go_at_call 171; refine (gates_any (HL.out.below ((Below.refl _ _).alloc (Nat.le_refl _) _)) h0 hi (by omega)).mono ?_; rintro e w2 ⟨rfl, hb2⟩; obtain ⟨hB, hz, d0, d1⟩ := box2 hb2; clear hb2)
        | (go_at_call 78; refine (add_any (HL.out.below hB) h0 (by omega) ⟨true, a, b⟩).mono ?_; rintro e w3 ⟨rfl, p', hl3, hk3, eb, ei, em, hnb⟩; have hL3 := Lib.hid hl3; obtain ⟨-, e1, -, -, e4, -⟩ := hl3.cells; rw [eb, HH.out] at e1; rw [eb, em, HM.out] at e4; obtain ⟨es0, cl0, hbk0, -⟩ := HO.out; have hmbl := HO.out.lt; have hO3 := Lib.hid (map_block HO.out ((hk3.block mb (Nat.lt_of_lt_of_le hmbl hB.size) (map_apart HL.out hbk0)).trans (hB.block mb hmbl))); clear hbk0; have hbx := fun o => (kept_cell hk3 (b := w.heap.size) (o := o) (by omega) (by rintro (h | h) <;> omega)).1; have d2 := (hbx 0).trans d0; have d3 := (hbx 1).trans d1; clear hbx d0 d1; obtain ⟨cv, -, hlk⟩ := look_map hO3.out HD.out ha hb; have hlook := fun j => hlk (w3.drewN j) rfl; rw [HF.out] at hlook; clear hlk; have hK := Lib.hid hk3; have hN := Lib.hid hnb; have hE := Lib.hid (show p'.b = p.b ∧ p'.iv = p.iv ∧ p'.m = p.m from ⟨eb, ei, em⟩); clear eb ei em hl3 hk3 hnb))
      go_quiet (fail)
      go_wp2
      go_ret2
      refine ⟨rfl, p', ?_⟩
      exact step_node HG.out hB hK.out hE.out.1 hE.out.2.1 hE.out.2.2 hN.out (Kept.of_below (below_draws _ _)) (n := ⟨true, a, b⟩) (hL3.out.below (below_draws _ _)) (by unfold MapIn; rw [if_pos (show (addN G a b).hash = true from HH.out)]; exact ⟨mb, D, hE.out.2.2.trans HM.out, hO3.out.mono (by rw [addN_len]; omega), mapOf_found HD.out HF.out⟩)
    | none =>
      have HF := Lib.hid hf
      clear hG hW hc hH hmb hown hD hf
      go_enter Tryd.func159, Tryd.ntmps159
      go_wp2_with (first
        | (go_at_call 171; refine (gates_any (HL.out.below ((Below.refl _ _).alloc (Nat.le_refl _) _)) h0 hi (by omega)).mono ?_; rintro e w2 ⟨rfl, hb2⟩; obtain ⟨hB, hz, d0, d1⟩ := box2 hb2; clear hb2)
        | (go_at_call 78; refine (add_any (HL.out.below hB) h0 (by omega) ⟨true, a, b⟩).mono ?_; rintro e w3 ⟨rfl, p', hl3, hk3, eb, ei, em, hnb⟩; have hL3 := Lib.hid hl3; obtain ⟨-, e1, -, -, e4, -⟩ := hl3.cells; rw [eb, HH.out] at e1; rw [eb, em, HM.out] at e4; obtain ⟨es0, cl0, hbk0, -⟩ := HO.out; have hmbl := HO.out.lt; have hO3 := Lib.hid (map_block HO.out ((hk3.block mb (Nat.lt_of_lt_of_le hmbl hB.size) (map_apart HL.out hbk0)).trans (hB.block mb hmbl))); clear hbk0; have hbx := fun o => (kept_cell hk3 (b := w.heap.size) (o := o) (by omega) (by rintro (h | h) <;> omega)).1; have d2 := (hbx 0).trans d0; have d3 := (hbx 1).trans d1; clear hbx d0 d1; obtain ⟨cv, -, hlk⟩ := look_map hO3.out HD.out ha hb; have hlook := fun j => hlk (w3.drewN j) rfl; rw [HF.out] at hlook; clear hlk; have hK := Lib.hid hk3; have hN := Lib.hid hnb; have hE := Lib.hid (show p'.b = p.b ∧ p'.iv = p.iv ∧ p'.m = p.m from ⟨eb, ei, em⟩); clear eb ei em hl3 hk3 hnb))
      go_quiet (fail)
      obtain ⟨w5, hw5, c54, c50, c51, hO5, hL5⟩ : ∃ w5, w5 = w3.drewN nq ∧ w5.cell? ⟨p.b, 4, none⟩ = some (.map (some mb)) ∧ w5.cell? ⟨w.heap.size, 0, none⟩ = some (.int .u32 a) ∧ w5.cell? ⟨w.heap.size, 1, none⟩ = some (.int .u32 b) ∧ Hid (w5.ownsMap Tryd.prog 147 (plainElem Tryd.prog 94) mb G.nodes.length D) ∧ Hid (Lay w5 p' G.fold G.hash (G.nodes ++ [{ gate := true, a := a, b := b }]) G.inputs) := ⟨_, rfl, e4, d2, d3, hO3, Lib.hid (hL3.out.below (below_draws w3 nq))⟩
      have hk5 : Hid (Kept (fun k => p.m = some k) w3 w5) := by rw [hw5]; exact Kept.of_below (below_draws _ _)
      rw [← hw5]
      clear hw5 e4 d2 d3 hlook e1 hO3 hL3
      go_wp2
      go_still_tail 6, (by kernel_rfl)
      change wpList _ _ _ _ _ w5.drew
      go_wp2_with (at_mapUpdate; refine wpList_mapUpdate_own _ rfl _ _ _ 142 rfl 147 94 alaw Tryd.underlying142 _ mb G.nodes.length D rfl hO5.out (by unfold maxLen; omega) _ _ (pkey a b) rfl rfl (key_pair ha hb) (.lit (.int .u32 (2 * (G.nodes.length : Int)))) [] (plainElem_int Tryd.underlying94 (WalkArith.wf_u32 ⟨by omega, by omega⟩)) ?_; intro w4 hown4 hgrow4)
      go_ret2
      refine ⟨rfl, p', ?_⟩
      have hmm := HM.out
      obtain ⟨es, cl, hbk, -⟩ := hO5.out
      have hg4 : w5.grownBy w4 (some mb) := ⟨hgrow4.os, hgrow4.tape, hgrow4.output, hgrow4.size, hgrow4.block⟩
      exact step_node HG.out hB hK.out hE.out.1 hE.out.2.1 hE.out.2.2 hN.out (hk5.out.trans (F' := fun k => p.m = some k) ⟨hg4.os, hg4.tape, hg4.output, hg4.size, fun k hk hn => hg4.block k hk (fun e => hn (by rw [hmm]; exact e.symm))⟩ (fun x hx => .inl hx)) (n := ⟨true, a, b⟩) (hL5.out.grown hg4 hbk) (by unfold MapIn; rw [if_pos (show (addN G a b).hash = true from HH.out)]; exact ⟨mb, _, hE.out.2.2.trans HM.out, hown4.mono (by rw [addN_len]; exact Nat.le_refl _), mapOf_put HD.out ha hb HF.out⟩)
end Go.Proofs.YtnhpjacodhdpeaaDoor
end
