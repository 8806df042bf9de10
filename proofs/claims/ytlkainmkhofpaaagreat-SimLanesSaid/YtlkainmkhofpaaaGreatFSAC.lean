/-
  Where a graph lies: its own struct, its nodes, its inputs, its map; what is left as it was while it grows.
  The walks of package lit's small functions alone (no answer of the document's own): for the stages above it.
  The walks of package aig's small functions.
  A node more: add.
-/
import Derived.Test.YtlkainmkhofpaaaGreatFSAB
import Derived.Test.YtlkainmkhofpaaaGreatFSAA
import Derived.Maps.OwnSet
import Derived.WideKeyPair
import Derived.Outline
import Derived.Deep.RegionHeld3
import Derived.Deep.AppendLies
import Derived.Deep.QuietTactic
import Derived.BigQuiet
import Derived.Deep.RegionLaw
section
namespace Go.Proofs.YtlkainmkhofpaaaGreat
open Go.RowKit Go.Maps

theorem akey : WideMaps.ArrKey Tryz.prog 146 40 2 := ⟨by kernel_rfl, by kernel_rfl, by kernel_rfl, by kernel_rfl⟩
theorem alaw : Keyed Tryz.prog 146 := Keyed.of_law akey.law
theorem tsize : ∃ m, Tryz.prog.types.size = m + 1 := ⟨Tryz.prog.types.size - 1, by kernel_rfl⟩
theorem lit_wf {l : Int} (h : IsLit l) : (Lit.int .u32 l).wf = true := WalkArith.wf_u32 ⟨h.1, by have := h.2; omega⟩
/-- What a pair reads as. -/
def pkey (a b : Int) : Lit := .string (keyBytes [.int .u32 a, .int .u32 b])
theorem key_pair {a b : Int} (ha : IsLit a) (hb : IsLit b) : keyOf Tryz.prog 146 (.agg #[.int .u32 a, .int .u32 b]) = some (pkey a b) :=
  WideMaps.keyOf_pair akey Tryz.underlying40 tsize (lit_wf ha) (lit_wf hb)
theorem pkey_inj {a b c d : Int} (ha : IsLit a) (hb : IsLit b) (hc : IsLit c) (hd : IsLit d) (h : pkey a b = pkey c d) : a = c ∧ b = d := by
  have := alaw.inj (key_pair ha hb) (by rw [h]; exact key_pair hc hd)
  simpa using this
theorem pkey_key {a b : Int} (ha : IsLit a) (hb : IsLit b) : WideAt.IsKeyLit (pkey a b) := alaw.key (key_pair ha hb)

/-- What the map says, plainly. -/
def MapOf (ns : List Nd) (D : DataW Unit) : Prop :=
  IsMap D ∧ ∀ a b, IsLit a → IsLit b → has D (pkey a b) = (findG ns a b).isSome ∧ ∀ i, findG ns a b = some i → D.atKey (pkey a b) (.lit (.int .u32 0)) = .lit (.int .u32 (2 * (i : Int)))

def ndCells (n : Nd) : List Value := [.bool n.gate, .int .u32 n.a, .int .u32 n.b]
def nodeCells (ns : List Nd) : List Value := ns.flatMap ndCells
theorem nodeCells_push (ns : List Nd) (n : Nd) : nodeCells (ns ++ [n]) = nodeCells ns ++ ndCells n := by simp [nodeCells]
theorem nodeCells_len (ns : List Nd) : (nodeCells ns).length = ns.length * 3 := by
  induction ns with
  | nil => rfl
  | cons n ns ih => rw [show nodeCells (n :: ns) = ndCells n ++ nodeCells ns from rfl, List.length_append, ih]; simp [ndCells]; omega
theorem nodeCells_at (ns : List Nd) (i : Nat) (n : Nd) (h : ns[i]? = some n) : (nodeCells ns)[3 * i]? = some (.bool n.gate) ∧ (nodeCells ns)[3 * i + 1]? = some (.int .u32 n.a) ∧ (nodeCells ns)[3 * i + 2]? = some (.int .u32 n.b) := by
  induction ns generalizing i with
  | nil => simp at h
  | cons m ns ih =>
    rw [show nodeCells (m :: ns) = ndCells m ++ nodeCells ns from rfl]
    match i with
    | 0 => simp at h; subst h; exact ⟨rfl, rfl, rfl⟩
    | i + 1 =>
      have := ih i (by simpa using h)
      rw [List.getElem?_append_right (by simp [ndCells]; omega), List.getElem?_append_right (by simp [ndCells]; omega), List.getElem?_append_right (by simp [ndCells]; omega)]
      rw [show 3 * (i + 1) - (ndCells m).length = 3 * i by simp [ndCells]; omega, show 3 * (i + 1) + 1 - (ndCells m).length = 3 * i + 1 by simp [ndCells]; omega, show 3 * (i + 1) + 2 - (ndCells m).length = 3 * i + 2 by simp [ndCells]; omega]
      exact this

/-- A graph's place. -/
structure Pl where
  b : Nat
  nb : Nat
  nc : Nat
  iv : Value
  m : Option Nat
def Pl.nv (p : Pl) (n : Nat) : Value := .slice (some ⟨p.nb, 0, none⟩) n p.nc
def Pl.has (p : Pl) (k : Nat) : Prop := k = p.b ∨ k = p.nb ∨ p.iv.ownBlock = some k ∨ p.m = some k
def boxOf (p : Pl) (F H : Bool) (n : Nat) : Obj := .cells #[.bool F, .bool H, p.nv n, p.iv, .map p.m] 143 (0, 0)

structure Lay (w : World) (p : Pl) (F H : Bool) (ns : List Nd) (ins : List Int) : Prop where
  box : w.heap[p.b]? = some (boxOf p F H ns.length)
  nodes : w.ownsRow 0 148 3 (p.nv ns.length) ns.length (nodeCells ns)
  inputs : w.ownsRow 0 3 1 p.iv ins.length (ins.map (Value.int .i64))

def MapIn (w : World) (m : Option Nat) (H : Bool) (ns : List Nd) : Prop :=
  if H = true then ∃ mb D, m = some mb ∧ w.ownsMap Tryz.prog 146 (plainElem Tryz.prog 40) mb ns.length D ∧ MapOf ns D else m = none

structure Is (w : World) (p : Pl) (G : Gr) : Prop where
  lay : Lay w p G.fold G.hash G.nodes G.inputs
  map : MapIn w p.m G.hash G.nodes

/-- All but the blocks F is as it was. -/
structure Kept (F : Nat → Prop) (w w' : World) : Prop where
  os : w'.os = w.os
  tape : w'.tape = w.tape
  output : w'.output = w.output
  size : w.heap.size ≤ w'.heap.size
  block : ∀ k, k < w.heap.size → ¬ F k → w'.heap[k]? = w.heap[k]?

theorem Kept.refl (F : Nat → Prop) (w : World) : Kept F w w := ⟨rfl, rfl, rfl, Nat.le_refl _, fun _ _ _ => rfl⟩
theorem Kept.of_below {F : Nat → Prop} {w w' : World} (h : Below w.heap.size w w') : Kept F w w' := ⟨h.os, h.tape, h.output, h.size, fun k hk _ => h.block k hk⟩
theorem Kept.trans {F F' : Nat → Prop} {a b c : World} (h : Kept F a b) (k : Kept F' b c) (hF : ∀ x, F' x → F x ∨ a.heap.size ≤ x) : Kept F a c :=
  ⟨k.os.trans h.os, k.tape.trans h.tape, k.output.trans h.output, Nat.le_trans h.size k.size, fun i hi hn => (k.block i (Nat.lt_of_lt_of_le hi h.size) (fun hf => by rcases hF i hf with h1 | h1; exact hn h1; omega)).trans (h.block i hi hn)⟩
theorem Kept.below {F : Nat → Prop} {N : Nat} {w w' : World} (h : Kept F w w') (hF : ∀ k, F k → N ≤ k) (hN : N ≤ w.heap.size) : Below N w w' :=
  ⟨h.os, h.tape, h.output, h.size, fun k hk => h.block k (by omega) (fun hf => by have := hF k hf; omega)⟩

theorem Lay.lt {w : World} {p : Pl} {F H : Bool} {ns : List Nd} {ins : List Int} (h : Lay w p F H ns ins) : p.b < w.heap.size := (Array.getElem?_eq_some_iff.1 h.box).1
theorem Lay.nlt {w : World} {p : Pl} {F H : Bool} {ns : List Nd} {ins : List Int} (h : Lay w p F H ns ins) : p.nb < w.heap.size := own_lt h.nodes
theorem Lay.nlen {w : World} {p : Pl} {F H : Bool} {ns : List Nd} {ins : List Int} (h : Lay w p F H ns ins) : ∃ cur, w.heap[p.nb]? = some (.cells cur 148 (0, 0)) := by
  rcases h.nodes.2 with ⟨h0, _⟩ | ⟨g, cap, cur, hv, _, hh, _⟩
  · simp [Pl.nv] at h0
  · simp [Pl.nv] at hv; obtain ⟨rfl, -⟩ := hv; exact ⟨cur, hh⟩
theorem own_type {w : World} {base e size n k : Nat} {v : Value} {xs : List Value} (h : w.ownsRow base e size v n xs) (hk : v.ownBlock = some k) : ∃ cur, w.heap[k]? = some (.cells cur e (0, 0)) := by
  rcases h.2 with ⟨rfl, _⟩ | ⟨g, cap, cur, rfl, _, hh, _⟩
  · simp [Value.ownBlock] at hk
  · simp [Value.ownBlock] at hk; subst hk; exact ⟨cur, hh⟩
/-- A graph's blocks are there. -/
theorem Is.has_lt {w : World} {p : Pl} {G : Gr} (h : Is w p G) {k : Nat} (hk : p.has k) : k < w.heap.size := by
  rcases hk with rfl | rfl | hk | hk
  · exact h.lay.lt
  · exact h.lay.nlt
  · obtain ⟨cur, hh⟩ := own_type h.lay.inputs hk
    exact (Array.getElem?_eq_some_iff.1 hh).1
  · have hm := h.map
    unfold MapIn at hm
    split at hm
    · obtain ⟨mb, D, e, ho, _⟩ := hm
      rw [e] at hk; obtain rfl : mb = k := by simpa using hk
      exact ho.lt
    · rw [hm] at hk; cases hk
/-- A row of another type lies elsewhere. -/
theorem Is.other {w : World} {p : Pl} {G : Gr} (h : Is w p G) {k T : Nat} {cur : Array Value} {fz : Nat × Nat} (hk : w.heap[k]? = some (.cells cur T fz)) (h1 : T ≠ 143) (h2 : T ≠ 148) (h3 : T ≠ 3) : ¬ p.has k := by
  intro hp
  rcases hp with rfl | rfl | hp | hp
  · rw [h.lay.box] at hk; simp [boxOf] at hk; exact h1 hk.2.1.symm
  · obtain ⟨c, hc⟩ := h.lay.nlen; rw [hc] at hk; simp at hk; exact h2 hk.2.1.symm
  · obtain ⟨c, hc⟩ := own_type h.lay.inputs hp; rw [hc] at hk; simp at hk; exact h3 hk.2.1.symm
  · have hm := h.map
    unfold MapIn at hm
    split at hm
    · obtain ⟨mb, D, e, ho, _⟩ := hm
      rw [e] at hp; obtain rfl : mb = k := by simpa using hp
      obtain ⟨es, cl, hb, _⟩ := ho
      rw [hb] at hk; simp at hk
    · rw [hm] at hp; cases hp
theorem own_keptF {F : Nat → Prop} {w w' : World} {base e size n : Nat} {v : Value} {xs : List Value} (h : w.ownsRow base e size v n xs) (hk : Kept F w w') (hn : ∀ k, v.ownBlock = some k → ¬ F k) : w'.ownsRow base e size v n xs := by
  refine ⟨h.1, ?_⟩
  rcases h.2 with h0 | ⟨g, cap, cur, rfl, hg, hh, r⟩
  · exact .inl h0
  · exact .inr ⟨g, cap, cur, rfl, hg, by rw [hk.block g (Array.getElem?_eq_some_iff.1 hh).1 (hn g rfl)]; exact hh, r⟩
/-- A row of another type is kept while the graph grows. -/
theorem own_beside {w w' : World} {p : Pl} {G : Gr} (hI : Is w p G) {base T size n : Nat} {v : Value} {xs : List Value} (h : w.ownsRow base T size v n xs) (hk : Kept p.has w w') (h1 : T ≠ 143) (h2 : T ≠ 148) (h3 : T ≠ 3) : w'.ownsRow base T size v n xs :=
  own_keptF h hk (fun k e => by obtain ⟨cur, hh⟩ := own_type h e; exact hI.other hh h1 h2 h3)
theorem map_block {w w' : World} {b n : Nat} {D : DataW Unit} (h : w.ownsMap Tryz.prog 146 (plainElem Tryz.prog 40) b n D) (hb : w'.heap[b]? = w.heap[b]?) : w'.ownsMap Tryz.prog 146 (plainElem Tryz.prog 40) b n D := by
  obtain ⟨es, cl, h1, r⟩ := h
  exact ⟨es, cl, hb.trans h1, r⟩
/-- What is below stays. -/
theorem Lay.below {w w' : World} {p : Pl} {F H : Bool} {ns : List Nd} {ins : List Int} (h : Lay w p F H ns ins) (hb : Below w.heap.size w w') : Lay w' p F H ns ins :=
  ⟨(hb.block _ h.lt).trans h.box, own_below h.nodes hb, own_below h.inputs hb⟩
theorem MapIn.below {w w' : World} {m : Option Nat} {H : Bool} {ns : List Nd} (h : MapIn w m H ns) (hb : Below w.heap.size w w') : MapIn w' m H ns := by
  unfold MapIn at h ⊢
  split
  · rename_i hH
    rw [if_pos hH] at h
    obtain ⟨mb, D, e, ho, hm⟩ := h
    exact ⟨mb, D, e, map_block ho (hb.block _ ho.lt), hm⟩
  · rename_i hH
    rw [if_neg hH] at h; exact h
theorem Is.below {w w' : World} {p : Pl} {G : Gr} (h : Is w p G) (hb : Below w.heap.size w w') : Is w' p G := ⟨h.lay.below hb, h.map.below hb⟩

/-- One step on: the graph is G' now; the rest is as it was. -/
structure Step (p : Pl) (w : World) (p' : Pl) (w' : World) (G' : Gr) : Prop where
  is : Is w' p' G'
  kept : Kept p.has w w'
  b : p'.b = p.b
  new : ∀ k, p'.has k → p.has k ∨ w.heap.size ≤ k

theorem Step.refl {p : Pl} {w : World} {G : Gr} (h : Is w p G) : Step p w p w G := ⟨h, Kept.refl _ _, rfl, fun _ h => .inl h⟩
theorem Step.of_below {p : Pl} {w w' : World} {G : Gr} (h : Is w p G) (hb : Below w.heap.size w w') : Step p w p w' G := ⟨h.below hb, Kept.of_below hb, rfl, fun _ h => .inl h⟩
theorem Step.trans {p p1 p2 : Pl} {w w1 w2 : World} {G1 G2 : Gr} (h : Step p w p1 w1 G1) (k : Step p1 w1 p2 w2 G2) : Step p w p2 w2 G2 :=
  ⟨k.is, h.kept.trans k.kept h.new, k.b.trans h.b, fun x hx => by
    rcases k.new x hx with h1 | h1
    · exact h.new x h1
    · exact .inr (Nat.le_trans h.kept.size h1)⟩
theorem Step.then {p p1 : Pl} {w w1 w2 : World} {G1 : Gr} (h : Step p w p1 w1 G1) (hb : Below w1.heap.size w1 w2) : Step p w p1 w2 G1 := h.trans (Step.of_below h.is hb)
theorem Step.front {p p1 : Pl} {w w1 w2 : World} {G G1 : Gr} (hG : Is w p G) (hb : Below w.heap.size w w1) (h : Step p w1 p1 w2 G1) : Step p w p1 w2 G1 := (Step.of_below hG hb).trans h

/-- The cells of the graph's own struct. -/
theorem Lay.cells {w : World} {p : Pl} {F H : Bool} {ns : List Nd} {ins : List Int} (h : Lay w p F H ns ins) :
    w.cell? ⟨p.b, 0, none⟩ = some (.bool F) ∧ w.cell? ⟨p.b, 1, none⟩ = some (.bool H) ∧ w.cell? ⟨p.b, 2, none⟩ = some (.slice (some ⟨p.nb, 0, none⟩) ns.length p.nc) ∧ w.cell? ⟨p.b, 3, none⟩ = some p.iv ∧ w.cell? ⟨p.b, 4, none⟩ = some (.map p.m)
      ∧ ∀ o, w.frozen? ⟨p.b, o, none⟩ = false := by
  have hb := h.box
  refine ⟨?_, ?_, ?_, ?_, ?_, fun o => ?_⟩ <;> simp [World.cell?, World.frozen?, hb, boxOf, Pl.nv]
end Go.Proofs.YtlkainmkhofpaaaGreat
end

section
namespace Go.Proofs.YtlkainmkhofpaaaGreat
open Go.RowKit

theorem not_any (l : Int) (h : IsLit l) (w : World) :
    Calls Tryz.prog 29 #[.int .u32 l] w fun e w' => e = .returned (.int .u32 (notV l)) ∧ w = w' := by
  have hx := Lib.hid (xor_not h)
  obtain ⟨h0, h1⟩ := h
  go_enter Tryz.func29, Tryz.ntmps29
  go_wp2
  go_ret
  exact ⟨ret_int hx.out, rfl⟩
theorem node_any (l : Int) (h : IsLit l) (w : World) :
    Calls Tryz.prog 63 #[.int .u32 l] w fun e w' => e = .returned (.int .i64 (l / 2)) ∧ w = w' := by
  obtain ⟨h0, h1⟩ := h
  go_enter Tryz.func63, Tryz.ntmps63
  go_wp2
  go_ret
  exact ⟨rfl, rfl⟩
theorem turned_any (l : Int) (h : IsLit l) (w : World) :
    Calls Tryz.prog 113 #[.int .u32 l] w fun e w' => e = .returned (.bool (turnV l)) ∧ w = w' := by
  have hx := Lib.hid (and_turn h)
  obtain ⟨h0, h1⟩ := h
  go_enter Tryz.func113, Tryz.ntmps113
  go_wp2
  go_ret
  exact ⟨ret_bool hx.out, rfl⟩
theorem if_any (l : Int) (t : Bool) (h : IsLit l) (w : World) :
    Calls Tryz.prog 65 #[.int .u32 l, .bool t] w fun e w' => e = .returned (.int .u32 (ifV l t)) ∧ w = w' := by
  cases t with
  | true =>
    go_enter Tryz.func65, Tryz.ntmps65
    go_wp2_with (go_at_call 29; refine (not_any _ h _).mono ?_; rintro e w2 ⟨rfl, rfl⟩)
    go_ret
    exact ⟨rfl, rfl⟩
  | false =>
    go_enter Tryz.func65, Tryz.ntmps65
    go_wp2
    go_ret
    exact ⟨rfl, rfl⟩
theorem of_lit {n : Int} (h : 0 ≤ n) (h2 : n ≤ 16777216) : IsLit (2 * n) := by unfold IsLit; omega
theorem of_val {n : Int} (t : Bool) (h : 0 ≤ n) (h2 : n ≤ 16777216) : ifV (2 * n) t = ofV n t ∧ ofE n = 0 := by
  have e : ofBad n = false := by unfold ofBad; simp; omega
  unfold ofV ofE ifV notV
  rw [e]
  cases t <;> simp
theorem of_any (n : Int) (t : Bool) (hn : -9223372036854775808 ≤ n ∧ n ≤ 9223372036854775807) (w : World) :
    Calls Tryz.prog 27 #[.int .i64 n, .bool t] w fun e w' => e = .returned (.tuple #[.int .u32 (ofV n t), .int .i64 (ofE n)]) ∧ w = w' := by
  obtain ⟨hn0, hn1⟩ := hn
  by_cases hb : ofBad n = true
  · have hv : Hid (ofV n t = 0 ∧ ofE n = 1) := by show _ ∧ _; unfold ofV ofE; rw [if_pos hb, if_pos hb]; exact ⟨rfl, rfl⟩
    unfold ofBad at hb
    by_cases h0 : n < 0
    · clear hb
      go_enter Tryz.func27, Tryz.ntmps27
      go_wp2
      go_ret2
      exact ⟨ret_int2 hv.out.1.symm hv.out.2.symm, rfl⟩
    · have h1 : 16777216 < n := by simpa [h0] using hb
      have h00 : decide (n < 0) = false := by simpa using h0
      have h11 : decide (16777216 < n) = true := by simpa using h1
      clear hb h0
      go_enter Tryz.func27, Tryz.ntmps27
      go_wp2
      go_ret2
      exact ⟨ret_int2 hv.out.1.symm hv.out.2.symm, rfl⟩
  · have h0 : 0 ≤ n ∧ n ≤ 16777216 := by unfold ofBad at hb; simp at hb; omega
    obtain ⟨h0, h1⟩ := h0
    have hv := Lib.hid (of_val t h0 h1)
    have h00 : decide (n < 0) = false := by simp; omega
    have h11 : decide (16777216 < n) = false := by simp; omega
    have hl := of_lit h0 h1
    clear hb
    go_enter Tryz.func27, Tryz.ntmps27
    go_wp2_with (go_at_call 65; refine (if_any _ t hl _).mono ?_; rintro e w2 ⟨rfl, rfl⟩)
    go_ret2
    exact ⟨ret_int2 hv.out.1 hv.out.2.symm, rfl⟩

theorem beqf {a b : Int} (h : ¬ a = b) : (a == b) = false := by simpa using h
theorem beqt {a b : Int} (h : a = b) : (a == b) = true := by simpa using h
theorem bnef {a b : Int} (h : a = b) : (a != b) = false := by simpa using h
theorem bnet {a b : Int} (h : ¬ a = b) : (a != b) = true := by simpa using h

/-- Fold's ways: what it comes to on each. -/
theorem fold_0 {a b : Int} (h : a = 0 ∨ b = 0 ∨ a = notV b) : foldV a b = 0 ∧ foldB a b = true := by
  unfold foldV foldB
  rcases h with h | h | h <;> rw [h] <;> simp
theorem fold_1 {b : Int} (h1 : ¬ b = 0) (h2 : ¬ (1 : Int) = notV b) : foldV 1 b = b ∧ foldB 1 b = true := by
  unfold foldV foldB; simp [h1, h2]
theorem fold_2 {a : Int} (h0 : ¬ a = 0) (h2 : ¬ a = notV 1) (h3 : ¬ a = 1) : foldV a 1 = a ∧ foldB a 1 = true := by
  unfold foldV foldB; simp [h0, h2, h3]
theorem fold_3 {a : Int} (h0 : ¬ a = 0) (h3 : ¬ a = 1) : foldV a a = a ∧ foldB a a = true := by
  have h2 : ¬ a = notV a := fun h => notV_ne a h.symm
  unfold foldV foldB; simp [h0, h2, h3]
theorem fold_4 {a b : Int} (h0 : ¬ a = 0) (h1 : ¬ b = 0) (h2 : ¬ a = notV b) (h3 : ¬ a = 1) (h4 : ¬ b = 1) (h5 : ¬ a = b) : foldV a b = 0 ∧ foldB a b = false := by
  unfold foldV foldB; simp [h0, h1, h2, h3, h4, h5]

theorem fold_any (a b : Int) (ha : IsLit a) (hb : IsLit b) (w : World) :
    Calls Tryz.prog 116 #[.int .u32 a, .int .u32 b] w fun e w' => e = .returned (.tuple #[.int .u32 (foldV a b), .bool (foldB a b)]) ∧ w = w' := by
  by_cases h0 : a = 0
  · subst h0
    have hv := Lib.hid (fold_0 (a := 0) (b := b) (.inl rfl))
    go_enter Tryz.func116, Tryz.ntmps116
    go_wp2_with (go_at_call 29; refine (not_any _ hb _).mono ?_; rintro e w2 ⟨rfl, rfl⟩)
    go_ret2
    exact ⟨ret_intb hv.out.1.symm hv.out.2.symm, rfl⟩
  by_cases h1 : b = 0
  · subst h1
    have hv := Lib.hid (fold_0 (a := a) (b := 0) (.inr (.inl rfl)))
    have g0 := beqf h0
    clear h0
    go_enter Tryz.func116, Tryz.ntmps116
    go_wp2_with (go_at_call 29; refine (not_any _ hb _).mono ?_; rintro e w2 ⟨rfl, rfl⟩)
    go_ret2
    exact ⟨ret_intb hv.out.1.symm hv.out.2.symm, rfl⟩
  by_cases h2 : a = notV b
  · have hv := Lib.hid (fold_0 (a := a) (b := b) (.inr (.inr h2)))
    have g0 := beqf h0
    have g1 := beqf h1
    have g2 := beqt h2
    clear h0 h1 h2
    go_enter Tryz.func116, Tryz.ntmps116
    go_wp2_with (go_at_call 29; refine (not_any _ hb _).mono ?_; rintro e w2 ⟨rfl, rfl⟩)
    go_ret2
    exact ⟨ret_intb hv.out.1.symm hv.out.2.symm, rfl⟩
  by_cases h3 : a = 1
  · subst h3
    have hv := Lib.hid (fold_1 h1 h2)
    have g1 := beqf h1
    have g2 := beqf h2
    clear h0 h1 h2
    go_enter Tryz.func116, Tryz.ntmps116
    go_wp2_with (go_at_call 29; refine (not_any _ hb _).mono ?_; rintro e w2 ⟨rfl, rfl⟩)
    go_ret2
    exact ⟨ret_intb hv.out.1.symm hv.out.2.symm, rfl⟩
  by_cases h4 : b = 1
  · subst h4
    have hv := Lib.hid (fold_2 h0 h2 h3)
    have g0 := beqf h0
    have g2 := beqf h2
    have g3 := beqf h3
    clear h0 h1 h2 h3
    go_enter Tryz.func116, Tryz.ntmps116
    go_wp2_with (go_at_call 29; refine (not_any _ hb _).mono ?_; rintro e w2 ⟨rfl, rfl⟩)
    go_ret2
    exact ⟨ret_intb hv.out.1.symm hv.out.2.symm, rfl⟩
  by_cases h5 : a = b
  · subst h5
    have hv := Lib.hid (fold_3 h0 h3)
    have g0 := beqf h0
    have g2 := beqf h2
    have g3 := beqf h3
    clear h0 h1 h2 h3 h4
    go_enter Tryz.func116, Tryz.ntmps116
    go_wp2_with (go_at_call 29; refine (not_any _ hb _).mono ?_; rintro e w2 ⟨rfl, rfl⟩)
    go_ret2
    exact ⟨ret_intb hv.out.1.symm hv.out.2.symm, rfl⟩
  · have hv := Lib.hid (fold_4 h0 h1 h2 h3 h4 h5)
    have g0 := beqf h0
    have g1 := beqf h1
    have g2 := beqf h2
    have g3 := beqf h3
    have g4 := beqf h4
    have g5 := beqf h5
    clear h0 h1 h2 h3 h4 h5
    go_enter Tryz.func116, Tryz.ntmps116
    go_wp2_with (go_at_call 29; refine (not_any _ hb _).mono ?_; rintro e w2 ⟨rfl, rfl⟩)
    go_ret2
    exact ⟨ret_intb hv.out.1.symm hv.out.2.symm, rfl⟩
theorem pair_lt (a b : Int) (h : a < b) (w : World) :
    Calls Tryz.prog 123 #[.int .u32 a, .int .u32 b] w fun e w' => e = .returned (.tuple #[.int .u32 b, .int .u32 a]) ∧ w = w' := by
  have h0 : decide (a < b) = true := by simpa using h
  go_enter Tryz.func123, Tryz.ntmps123
  go_wp2
  go_ret2
  exact ⟨rfl, rfl⟩
theorem pair_ge (a b : Int) (h : b ≤ a) (w : World) :
    Calls Tryz.prog 123 #[.int .u32 a, .int .u32 b] w fun e w' => e = .returned (.tuple #[.int .u32 a, .int .u32 b]) ∧ w = w' := by
  have h0 : decide (a < b) = false := by simpa using h
  go_enter Tryz.func123, Tryz.ntmps123
  go_wp2
  go_ret2
  exact ⟨rfl, rfl⟩

theorem nodeW_in {l : Int} {zs : List Int} {n : Nat} (hl : zs.length = n) (h0 : 0 < l / 2) (h1 : l / 2 < n) : nodeW (l / 2) zs = zs.getD (l / 2).toNat 0 := by
  unfold nodeW; rw [if_pos (by simp; omega)]
theorem nodeW_out {l : Int} {zs : List Int} {n : Nat} (hl : zs.length = n) (h : ¬ (0 < l / 2 ∧ l / 2 < n)) : nodeW (l / 2) zs = 0 := by
  unfold nodeW; rw [if_neg (by simp; omega)]
theorem word_t {l : Int} {zs : List Int} (h : turnV l = true) : wordV l zs = 18446744073709551615 - nodeW (l / 2) zs := by unfold wordV; rw [if_pos h]
theorem word_f {l : Int} {zs : List Int} (h : turnV l = false) : wordV l zs = nodeW (l / 2) zs := by unfold wordV; rw [if_neg (by simp [h])]
theorem mod_turn {l : Int} : (l % 2 == 1) = turnV l := rfl

set_option maxHeartbeats 1000000 in
theorem word_any (l : Int) (a : Option Addr) (n cap : Nat) (zs : List Int) (h : IsLit l) (w : World) (hs : Row .u64 w a n zs) (hz : Words zs) :
    Calls Tryz.prog 97 #[.int .u32 l, .slice a n cap] w fun e w' => e = .returned (.int .u64 (wordV l zs)) ∧ w = w' := by
  have hx : ∀ x : Int, 0 ≤ x → x < 18446744073709551616 → bits .xor .u64 IntKind.u64.max x = 18446744073709551615 - x := fun x h1 h2 => Num.not64 h1 h2
  have hx := Lib.hid hx
  have hm := hs.le
  have hd0 : 0 ≤ l / 2 ∧ l / 2 ≤ 2147483647 := by unfold IsLit at h; omega
  obtain ⟨hd0, hd1⟩ := hd0
  have hw := nodeW_bd hz (l / 2)
  have hnode := Lib.hid (fun w => node_any l h w)
  have hturn := Lib.hid (fun w => turned_any l h w)
  by_cases hc : 0 < l / 2 ∧ l / 2 < n
  · obtain ⟨k, hk⟩ := Int.eq_ofNat_of_zero_le hd0
    obtain ⟨b, off, rfl, hlt, hcell⟩ := hs.at (by omega)
    have hv := nodeW_in hs.len hc.1 hc.2
    have cy := hcell k (by omega)
    rw [hk, Int.toNat_natCast] at hv
    rw [hk] at hw hnode
    rw [← hv] at cy
    have ht : Hid (∀ W, (turnV l = true → W = nodeW k zs → 18446744073709551615 - W = wordV l zs) ∧ (turnV l = false → W = nodeW k zs → W = wordV l zs)) := by
      show ∀ _, _ ∧ _
      intro W
      exact ⟨fun a b => by rw [word_t a, b, hk], fun a b => by rw [word_f a, b, hk]⟩
    have g0 : decide ((k : Int) > 0) = true := by simp; omega
    have g1 : 0 < k := by omega
    have g2 : k < n := by omega
    clear hc hcell hv hk hd0 hd1 hs h
    generalize hW : nodeW k zs = W at *
    have hW := Lib.hid hW
    generalize hT : turnV l = T at *
    have hT := Lib.hid hT
    cases T
    · go_enter Tryz.func97, Tryz.ntmps97
      go_wp2_with (first
        | (go_at_call 63; refine (hnode.out _).mono ?_; rintro e w2 ⟨rfl, rfl⟩)
        | (go_at_call 113; refine (hturn.out _).mono ?_; rintro e w2 ⟨rfl, rfl⟩))
      go_ret
      exact ⟨ret_int ((ht.out W).2 trivial rfl), rfl⟩
    · go_enter Tryz.func97, Tryz.ntmps97
      go_wp2_with (first
        | (go_at_call 63; refine (hnode.out _).mono ?_; rintro e w2 ⟨rfl, rfl⟩)
        | (go_at_call 113; refine (hturn.out _).mono ?_; rintro e w2 ⟨rfl, rfl⟩))
      go_ret
      exact ⟨ret_int ((ht.out W).1 trivial rfl), rfl⟩
  · have hv := nodeW_out hs.len hc
    rw [hv] at hw
    have ht : Hid ((turnV l = true → 18446744073709551615 = wordV l zs) ∧ (turnV l = false → 0 = wordV l zs)) := by
      show _ ∧ _
      exact ⟨fun a => by rw [word_t a, hv]; rfl, fun a => by rw [word_f a, hv]⟩
    obtain ⟨k, hk⟩ := Int.eq_ofNat_of_zero_le hd0
    rw [hk] at hnode
    have hx := Lib.hid (hx.out 0 (by decide) (by decide))
    by_cases h0 : k = 0
    · subst h0
      clear hc hs h hd0 hd1 hv hw hk
      generalize hT : turnV l = T at *
      have hT := Lib.hid hT
      cases T
      · go_enter Tryz.func97, Tryz.ntmps97
        go_wp2_with (first
          | (go_at_call 63; refine (hnode.out _).mono ?_; rintro e w2 ⟨rfl, rfl⟩)
          | (go_at_call 113; refine (hturn.out _).mono ?_; rintro e w2 ⟨rfl, rfl⟩))
        go_ret
        exact ⟨ret_int (ht.out.2 trivial), rfl⟩
      · go_enter Tryz.func97, Tryz.ntmps97
        go_wp2_with (first
          | (go_at_call 63; refine (hnode.out _).mono ?_; rintro e w2 ⟨rfl, rfl⟩)
          | (go_at_call 113; refine (hturn.out _).mono ?_; rintro e w2 ⟨rfl, rfl⟩))
        go_ret
        exact ⟨ret_int (hx.out.trans (ht.out.1 trivial)), rfl⟩
    · have g1 : 0 < k := by omega
      have g2 : decide (k < n) = false := by simp; omega
      clear hc hs h hd0 hd1 hv hw hk
      generalize hT : turnV l = T at *
      have hT := Lib.hid hT
      cases T
      · go_enter Tryz.func97, Tryz.ntmps97
        go_wp2_with (first
          | (go_at_call 63; refine (hnode.out _).mono ?_; rintro e w2 ⟨rfl, rfl⟩)
          | (go_at_call 113; refine (hturn.out _).mono ?_; rintro e w2 ⟨rfl, rfl⟩))
        go_ret
        exact ⟨ret_int (ht.out.2 trivial), rfl⟩
      · go_enter Tryz.func97, Tryz.ntmps97
        go_wp2_with (first
          | (go_at_call 63; refine (hnode.out _).mono ?_; rintro e w2 ⟨rfl, rfl⟩)
          | (go_at_call 113; refine (hturn.out _).mono ?_; rintro e w2 ⟨rfl, rfl⟩))
        go_ret
        exact ⟨ret_int (hx.out.trans (ht.out.1 trivial)), rfl⟩
end Go.Proofs.YtlkainmkhofpaaaGreat
end

section
namespace Go.Proofs.YtlkainmkhofpaaaGreat
open Go.RowKit

theorem below_draws (w : World) (n : Nat) : Below w.heap.size w (w.drewN n) := ⟨rfl, rfl, rfl, Nat.le_refl _, fun _ _ => rfl⟩

theorem stands_any {w : World} {p : Pl} {F H : Bool} {ns : List Nd} {ins : List Int} (h : Lay w p F H ns ins) (h0 : 0 < ns.length) :
    Calls Tryz.prog 64 #[.pointer (some ⟨p.b, 0, none⟩)] w fun e w' => e = .returned (.bool true) ∧ w = w' := by
  obtain ⟨-, -, c2, -, -, -⟩ := h.cells
  generalize ns.length = n at *
  clear h
  have g0 : decide (0 < (n : Int)) = true := by simp; omega
  go_enter Tryz.func64, Tryz.ntmps64
  go_wp2
  go_ret
  exact ⟨rfl, rfl⟩

theorem nodes_any {w : World} {p : Pl} {F H : Bool} {ns : List Nd} {ins : List Int} (h : Lay w p F H ns ins) (h0 : 0 < ns.length) :
    Calls Tryz.prog 26 #[.pointer (some ⟨p.b, 0, none⟩)] w fun e w' => e = .returned (.int .i64 ns.length) ∧ w = w' := by
  have hst := Lib.hid (stands_any h h0)
  obtain ⟨-, -, c2, -, -, -⟩ := h.cells
  generalize ns.length = n at *
  clear h
  go_enter Tryz.func26, Tryz.ntmps26
  go_wp2_with (go_at_call 64; refine hst.out.mono ?_; rintro e w2 ⟨rfl, rfl⟩)
  go_ret
  exact ⟨rfl, rfl⟩

theorem gates_any {w : World} {p : Pl} {F H : Bool} {ns : List Nd} {ins : List Int} (h : Lay w p F H ns ins) (h0 : 0 < ns.length) (hi : ins.length < ns.length) (hm : ns.length ≤ 10000000) :
    Calls Tryz.prog 124 #[.pointer (some ⟨p.b, 0, none⟩)] w fun e w' => e = .returned (.int .i64 ((ns.length : Int) - 1 - ins.length)) ∧ Below w.heap.size w w' := by
  have hst := Lib.hid (stands_any h h0)
  obtain ⟨-, -, c2, c3, -, -⟩ := h.cells
  obtain ⟨ia, ic, hiv⟩ := own_slice h.inputs
  rw [hiv] at c3
  generalize ns.length = n at *
  generalize ins.length = m at *
  clear h hiv
  go_enter Tryz.func124, Tryz.ntmps124
  go_wp2_with (go_at_call 64; refine hst.out.mono ?_; rintro e w2 ⟨rfl, rfl⟩)
  go_quiet (fail)
  go_wp2
  go_ret
  exact ⟨rfl, below_draws _ _⟩

theorem ordered_any {a b : Int} (w : World) :
    Calls Tryz.prog 117 #[.int .u32 a, .int .u32 b] w fun e w' => e = .returned (.agg #[.int .u32 (hiV a b), .int .u32 (loV a b)]) ∧ Below w.heap.size w w' := by
  by_cases h : a < b
  · have e1 : hiV a b = b := if_pos h
    have e2 : loV a b = a := if_pos h
    rw [e1, e2]
    have hp := Lib.hid (fun w => pair_lt a b h w)
    clear h e1 e2
    go_enter Tryz.func117, Tryz.ntmps117
    go_wp2_with (go_at_call 123; refine (hp.out _).mono ?_; rintro e w2 ⟨rfl, rfl⟩)
    refine bodyPost_ret (v := .agg #[.int .u32 b, .int .u32 a]) (by simp [results, Tryz.results117, go_sem]) rfl ⟨rfl, ?_⟩
    exact (Below.refl _ _).alloc (Nat.le_refl _) _
  · have e1 : hiV a b = a := if_neg h
    have e2 : loV a b = b := if_neg h
    rw [e1, e2]
    have hp := Lib.hid (fun w => pair_ge a b (by omega) w)
    clear h e1 e2
    go_enter Tryz.func117, Tryz.ntmps117
    go_wp2_with (go_at_call 123; refine (hp.out _).mono ?_; rintro e w2 ⟨rfl, rfl⟩)
    refine bodyPost_ret (v := .agg #[.int .u32 a, .int .u32 b]) (by simp [results, Tryz.results117, go_sem]) rfl ⟨rfl, ?_⟩
    exact (Below.refl _ _).alloc (Nat.le_refl _) _

theorem opposite_any {l : Int} (hl : IsLit l) (w : World) :
    Calls Tryz.prog 128 #[.int .u32 l, .int .i64 0] w fun e w' => e = .returned (.tuple #[.int .u32 (notV l), .int .i64 0]) ∧ w = w' := by
  have hn := Lib.hid (fun w => not_any l hl w)
  go_enter Tryz.func128, Tryz.ntmps128
  go_wp2_with (go_at_call 29; refine (hn.out _).mono ?_; rintro e w2 ⟨rfl, rfl⟩)
  go_ret2
  exact ⟨rfl, rfl⟩
end Go.Proofs.YtlkainmkhofpaaaGreat
end

section
namespace Go.Proofs.YtlkainmkhofpaaaGreat
open Go.RowKit

def Pl.own (p : Pl) (k : Nat) : Prop := k = p.b ∨ k = p.nb

theorem box_set {w : World} {b o : Nat} {cs : Array Value} {T : Nat} {fz : Nat × Nat} (h : w.heap[b]? = some (.cells cs T fz)) (v : Value) : (w.setCell ⟨b, o, none⟩ v).heap[b]? = some (.cells (cs.setIfInBounds o v) T fz) := by
  simp [World.setCell, Array.getElem?_modify, h]

/-- Behind the append and the store of the nodes. -/
theorem add_next {w wa w1 : World} {p : Pl} {F H : Bool} {ns : List Nd} {ins : List Int} (hL : Lay w p F H ns ins) (hb : Below w.heap.size w wa) (n : Nd) {g cap : Nat}
    (hown : w1.ownsRow 0 148 3 (.slice (some ⟨g, 0, none⟩) (ns.length + 1) cap) (ns.length + 1) (nodeCells ns ++ [.bool n.gate, .int .u32 n.a, .int .u32 n.b]))
    (hg : wa.grownBy w1 (some p.nb)) (hat : some p.nb = some g ∨ g = wa.heap.size) :
    Lay (w1.setCell ⟨p.b, 2, none⟩ (.slice (some ⟨g, 0, none⟩) (ns.length + 1) cap)) { p with nb := g, nc := cap } F H (ns ++ [n]) ins
      ∧ Kept p.own w (w1.setCell ⟨p.b, 2, none⟩ (.slice (some ⟨g, 0, none⟩) (ns.length + 1) cap)) ∧ (g = p.nb ∨ w.heap.size ≤ g) := by
  have hlt := hL.lt
  have hsz := hb.size
  obtain ⟨cur, hcur⟩ := hL.nlen
  have hne : p.b ≠ p.nb := by
    intro e
    have := hL.box
    rw [e, hcur] at this; simp [boxOf] at this
  have hbox1 : w1.heap[p.b]? = some (boxOf p F H ns.length) := by
    rw [hg.block p.b (by omega) (by simpa using hne), hb.block _ hlt]; exact hL.box
  have hgb : g ≠ p.b := by
    rcases hat with h | h
    · simp at h; omega
    · omega
  refine ⟨⟨?_, ?_, ?_⟩, ?_, ?_⟩
  · have := box_set (o := 2) hbox1 (.slice (some ⟨g, 0, none⟩) (ns.length + 1) cap)
    simpa [boxOf, Pl.nv] using this
  · have : (w1.setCell ⟨p.b, 2, none⟩ (.slice (some ⟨g, 0, none⟩) (ns.length + 1) cap)).ownsRow 0 148 3 (.slice (some ⟨g, 0, none⟩) (ns.length + 1) cap) (ns.length + 1) (nodeCells ns ++ [.bool n.gate, .int .u32 n.a, .int .u32 n.b]) := by
      refine ⟨hown.1, ?_⟩
      rcases hown.2 with h0 | ⟨g', cap', cur', hv, hg', hh, r⟩
      · exact .inl h0
      · simp at hv
        obtain ⟨rfl, rfl⟩ := hv
        exact .inr ⟨_, _, cur', rfl, hg', by rw [Below.heap_setCell _ _ _ _ hgb]; exact hh, r⟩
    rw [nodeCells_push]
    simpa [Pl.nv, ndCells] using this
  · have hi := own_below hL.inputs hb
    have h1 : ∀ k, p.iv.ownBlock = some k → k ≠ p.b ∧ k ≠ p.nb ∧ k < w.heap.size := by
      intro k hk
      obtain ⟨c, hc⟩ := own_type hL.inputs hk
      refine ⟨fun e => ?_, fun e => ?_, (Array.getElem?_eq_some_iff.1 hc).1⟩
      · subst e; rw [hL.box] at hc; simp [boxOf] at hc
      · subst e; rw [hcur] at hc; simp at hc
    refine ⟨hi.1, ?_⟩
    rcases hi.2 with h0 | ⟨g', cap', cur', hv, hg', hh, r⟩
    · exact .inl h0
    · obtain ⟨e1, e2, e3⟩ := h1 g' (by simp only [hv]; rfl)
      exact .inr ⟨g', cap', cur', hv, hg', by rw [Below.heap_setCell _ _ _ _ e1, hg.block g' (by omega) (by simpa using e2)]; exact hh, r⟩
  · refine ⟨hg.os.trans hb.os, hg.tape.trans hb.tape, hg.output.trans hb.output, by have := hg.size; simp [World.setCell]; omega, fun k hk hn => ?_⟩
    have n1 : k ≠ p.b := fun e => hn (.inl e)
    have n2 : k ≠ p.nb := fun e => hn (.inr e)
    rw [Below.heap_setCell _ _ _ _ n1, hg.block k (by omega) (by simpa using n2), hb.block k hk]
  · rcases hat with h | h
    · simp at h; exact .inl h.symm
    · exact .inr (by omega)

theorem info_node : (Tryz.prog.info? 148).map (fun i => (i.zero, i.size, i.bytes)) = some (some (.agg #[.bool false, .int .u32 0, .int .u32 0]), 3, 12) := by kernel_rfl
theorem news3 {w : World} {b : Nat} {x y z : Value} (h0 : w.cell? ⟨b, 0, none⟩ = some x) (h1 : w.cell? ⟨b, 1, none⟩ = some y) (h2 : w.cell? ⟨b, 2, none⟩ = some z) : ∀ (j : Nat) (u : Value), [x, y, z][j]? = some u → w.cell? ((⟨b, 0, none⟩ : Addr).add j) = some u := by
  intro j u h
  match j with
  | 0 => simp at h; subst h; simpa [Addr.add] using h0
  | 1 => simp at h; subst h; simpa [Addr.add] using h1
  | 2 => simp at h; subst h; simpa [Addr.add] using h2
  | j + 3 => simp at h

theorem grow_box {wa w1 : World} {row : Option Nat} (hg : wa.grownBy w1 row) {b o : Nat} {v : Value} (hc : wa.cell? ⟨b, o, none⟩ = some v) (hf : wa.frozen? ⟨b, o, none⟩ = false) (hne : some b ≠ row) :
    w1.cell? ⟨b, o, none⟩ = some v ∧ w1.frozen? ⟨b, o, none⟩ = false :=
  ⟨hg.cell hc hne, (World.frozen?_of_block (hg.block b (World.block_lt_of_cell? wa _ hc) hne)).trans hf⟩

theorem add_any {w : World} {p : Pl} {F H : Bool} {ns : List Nd} {ins : List Int} (h : Lay w p F H ns ins) (h0 : 0 < ns.length) (hm : ns.length ≤ 10000000) (n : Nd) :
    Calls Tryz.prog 94 #[.pointer (some ⟨p.b, 0, none⟩), .agg #[.bool n.gate, .int .u32 n.a, .int .u32 n.b]] w fun e w' => e = .returned (.tuple #[.int .u32 (2 * (ns.length : Int)), .int .i64 0])
      ∧ ∃ p', Lay w' p' F H (ns ++ [n]) ins ∧ Kept p.own w w' ∧ p'.b = p.b ∧ p'.iv = p.iv ∧ p'.m = p.m ∧ (p'.nb = p.nb ∨ w.heap.size ≤ p'.nb) := by
  obtain ⟨-, -, c2, -, -, fz⟩ := h.cells
  have f2 := fz 2
  have hlt := h.lt
  have hnlt := h.nlt
  have hno := Lib.hid h.nodes
  have HL := Lib.hid h
  have hne : p.b ≠ p.nb := by
    obtain ⟨cur, hcur⟩ := h.nlen
    intro e
    have := h.box
    rw [e, hcur] at this; simp [boxOf] at this
  have hof := Lib.hid (fun w => of_any ns.length false (by omega) w)
  have hov : Hid (ofV ns.length false = 2 * (ns.length : Int) ∧ ofE ns.length = 0) := by
    obtain ⟨e1, e2⟩ := of_val (n := ns.length) false (by omega) (by omega)
    exact ⟨by rw [← e1]; rfl, e2⟩
  have hne2 : some p.b ≠ Value.ownBlock (.slice (some ⟨p.nb, 0, none⟩) ns.length p.nc) := by simpa [Value.ownBlock] using hne
  have hne3 : some w.heap.size ≠ Value.ownBlock (.slice (some ⟨p.nb, 0, none⟩) ns.length p.nc) := by simp [Value.ownBlock]; omega
  obtain ⟨i0, hi, hz0, hz1, hz2⟩ := info_parts info_node
  have hof2 := Lib.hid (fun w => by have := hof.out w; rw [hov.out.1, hov.out.2] at this; exact this)
  obtain ⟨ng, na, nb⟩ := n
  generalize hk : ns.length = k at *
  have hk := Lib.hid hk
  clear h fz hof hov
  go_enter Tryz.func94, Tryz.ntmps94
  go_wp2_with (go_at_call 27; refine (hof2.out _).mono ?_; rintro e w2 ⟨rfl, rfl⟩)
  go_region_law
    (first | ((refine step_append_lies _ (by rfl) (.tmp 23) (.tmp 25) _ (by rfl) 0 148 i0 (.agg #[.bool false, .int .u32 0, .int .u32 0]) 3 12 Tryz.underlying139 hi hz0 hz1 hz2 rfl (by decide) (.slice (some ⟨p.nb, 0, none⟩) k p.nc) k _ (by rfl) (by first | exact hno.out.drew | exact (hno.out.alloc _).drew | exact ((hno.out.alloc _).alloc _).drew) _ 1 1 [.bool ng, .int .u32 na, .int .u32 nb] (by rfl) rfl (by exact news3 (by go_simp) (by go_simp) (by go_simp)) (by simp [Value.oneCell']) (by decide) (by unfold maxLen; omega) (by omega) (by omega) _ rfl ?_; intro g1 cap1 w1 hown1 hgrow1 hat1 hlt1; obtain ⟨x0, x1⟩ := grow_box hgrow1 (b := p.b) (o := 2) (v := .slice (some ⟨p.nb, 0, none⟩) k p.nc) (by go_simp) (by go_simp) hne2; obtain ⟨x2, -⟩ := grow_box hgrow1 (b := w.heap.size) (o := 0) (v := .bool ng) (by go_simp) (by go_simp) hne3; obtain ⟨x3, -⟩ := grow_box hgrow1 (b := w.heap.size) (o := 1) (v := .int .u32 na) (by go_simp) (by go_simp) hne3; obtain ⟨x4, -⟩ := grow_box hgrow1 (b := w.heap.size) (o := 2) (v := .int .u32 nb) (by go_simp) (by go_simp) hne3)))
  all_goals go_wp2
  all_goals go_ret2
  all_goals
    have e := hk.out
    subst e
    obtain ⟨r1, r2, r3⟩ := add_next HL.out (by first | exact (((Below.refl _ _).alloc (Nat.le_refl _) _).alloc (by simp) _).drew | exact ((Below.refl _ _).alloc (Nat.le_refl _) _).drew) ⟨ng, na, nb⟩ hown1 hgrow1 hat1
    exact ⟨rfl, _, r1, r2, rfl, rfl, rfl, r3⟩
end Go.Proofs.YtlkainmkhofpaaaGreat
end
