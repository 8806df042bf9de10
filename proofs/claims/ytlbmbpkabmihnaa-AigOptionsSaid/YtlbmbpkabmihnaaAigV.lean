/-
  AigMeans: the calls behind the growth, plainly and in memory.
-/
import Derived.Test.YtlbmbpkabmihnaaAigT
namespace Go.Proofs.Ytlbmbpkabmihnaa
open Go.RowKit Go.Maps

/-- What the five calls come to, plainly. -/
structure Five (G : Gr) (BL : List Int) (c0 c1 c2 : Int) (G1 G2 G3 G4 G5 : Gr) (l1 l2 l3 l4 l5 : Int) : Prop where
  h1 : manyG andG 1 G BL = (G1, l1)
  h2 : manyG orG 0 G1 BL = (G2, l2)
  h3 : manyG xorG 0 G2 BL = (G3, l3)
  h4 : muxG G3 c0 c1 c2 = (G4, l4)
  h5 : gateG G4 c0 c1 = (G5, l5)
  b0 : AllThere G BL
  b1 : AllThere G1 BL
  b2 : AllThere G2 BL
  c30 : There G3 c0
  c31 : There G3 c1
  c32 : There G3 c2
  c40 : There G4 c0
  c41 : There G4 c1
  n1 : G1.nodes.length ≤ 2000
  n2 : G2.nodes.length ≤ 2000
  n3 : G3.nodes.length ≤ 2000
  n4 : G4.nodes.length ≤ 2000
  n5 : G5.nodes.length ≤ 2000
  le : G.nodes.length ≤ G5.nodes.length
  ins : G5.inputs = G.inputs
  lits : IsLit c0 ∧ IsLit c1 ∧ IsLit c2 ∧ IsLit l1 ∧ IsLit l2 ∧ IsLit l3 ∧ IsLit l4 ∧ IsLit l5
  val : ∀ {is ws : List Int}, Val G5 is ws → Val G is ws ∧ wordV l1 ws = foldW .and 18446744073709551615 ws BL ∧ wordV l2 ws = foldW .or 0 ws BL ∧ wordV l3 ws = foldW .xor 0 ws BL
    ∧ wordV l4 ws = bits .or .u64 (bits .and .u64 (wordV c0 ws) (wordV c1 ws)) (bits .andNot .u64 (wordV c2 ws) (wordV c0 ws)) ∧ wordV l5 ws = bits .and .u64 (wordV c0 ws) (wordV c1 ws)

theorem five {G : Gr} (hW : Wf G) (hn : G.nodes.length ≤ 1000) {BL : List Int} (hB : AllThere G BL) (hb : BL.length ≤ 8) {c0 c1 c2 : Int} (h0 : There G c0) (h1 : There G c1) (h2 : There G c2) :
    ∃ G1 G2 G3 G4 G5 l1 l2 l3 l4 l5, Five G BL c0 c1 c2 G1 G2 G3 G4 G5 l1 l2 l3 l4 l5 := by
  have g1 := manyG_good and_ok hW (there_lit hW (.inr rfl)) hB (by omega)
  have s1 := g1.len
  have B1 := hB.mono g1.le
  obtain ⟨⟨G1, l1⟩, e1⟩ : ∃ r, manyG andG 1 G BL = r := ⟨_, rfl⟩
  rw [e1] at g1 s1 B1
  simp only at g1 s1 B1
  have g2 := manyG_good or_ok g1.wf (there_lit g1.wf (.inl rfl)) B1 (by omega)
  have s2 := g2.len
  have B2 := B1.mono g2.le
  obtain ⟨⟨G2, l2⟩, e2⟩ : ∃ r, manyG orG 0 G1 BL = r := ⟨_, rfl⟩
  rw [e2] at g2 s2 B2
  simp only at g2 s2 B2
  have g3 := manyG_good xor_ok g2.wf (there_lit g2.wf (.inl rfl)) B2 (by omega)
  have s3 := g3.len
  obtain ⟨⟨G3, l3⟩, e3⟩ : ∃ r, manyG xorG 0 G2 BL = r := ⟨_, rfl⟩
  rw [e3] at g3 s3
  simp only at g3 s3
  have L3 := (g1.le.trans g2.le).trans g3.le
  have g4 := muxG_good g3.wf (L3.there h0) (L3.there h1) (L3.there h2) (by omega)
  have s4 := g4.len
  obtain ⟨⟨G4, l4⟩, e4⟩ : ∃ r, muxG G3 c0 c1 c2 = r := ⟨_, rfl⟩
  rw [e4] at g4 s4
  simp only at g4 s4
  have g5 := gateG_good g4.wf ((L3.trans g4.le).there h0) ((L3.trans g4.le).there h1) (by omega)
  have s5 := g5.len
  obtain ⟨⟨G5, l5⟩, e5⟩ : ∃ r, gateG G4 c0 c1 = r := ⟨_, rfl⟩
  rw [e5] at g5 s5
  simp only at g5 s5
  have L5 := (L3.trans g4.le).trans g5.le
  refine ⟨G1, G2, G3, G4, G5, l1, l2, l3, l4, l5, e1, e2, e3, e4, e5, hB, B1, B2, L3.there h0, L3.there h1, L3.there h2, (L3.trans g4.le).there h0, (L3.trans g4.le).there h1, by omega, by omega, by omega, by omega, by omega, L5.len, g5.ins.trans (g4.ins.trans (g3.ins.trans (g2.ins.trans g1.ins))), ⟨h0.1, h1.1, h2.1, g1.there.1, g2.there.1, g3.there.1, g4.there.1, g5.there.1⟩, fun {is ws} v => ?_⟩
  have w1 := manyG_word (G' := G5) and_ok and_word (W := 18446744073709551615) wordV_1 (fun x hx => ones_and hx) hW hB (by omega) (by rw [e1]; exact ((g2.le.trans g3.le).trans g4.le).trans g5.le) v
  have w2 := manyG_word (G' := G5) or_ok or_word (W := 0) wordV_0 (fun x hx => zero_or hx) g1.wf B1 (by omega) (by rw [e2]; exact (g3.le.trans g4.le).trans g5.le) v
  have w3 := manyG_word (G' := G5) xor_ok xor_word (W := 0) wordV_0 (fun x hx => zero_xor hx) g2.wf B2 (by omega) (by rw [e3]; exact g4.le.trans g5.le) v
  have w4 := muxG_word (G' := G5) g3.wf (L3.there h0) (L3.there h1) (L3.there h2) (by omega) (by rw [e4]; exact g5.le) v
  have w5 := gateG_word (G' := G5) g4.wf c0 c1 (by rw [e5]; exact Le.refl _) v
  rw [e1] at w1
  rw [e2] at w2
  rw [e3] at w3
  rw [e4] at w4
  rw [e5] at w5
  exact ⟨v.mono L5, w1, w2, w3, w4, w5⟩

section
variable {w0 : World} {B : Nat} {a1 a2 a3 : Option Addr} {g4 n1 c1 n2 n3 c3 n4 c4 : Nat} {IN E BL CL : List Int}
/-- The state behind the growth: the graph, and four rows. -/
structure St (w0 : World) (B : Nat) (a1 : Option Addr) (n1 c1 : Nat) (IN : List Int) (a2 : Option Addr) (n2 : Nat) (E : List Int) (a3 : Option Addr) (n3 c3 : Nat) (BL : List Int) (g4 n4 c4 : Nat) (CL : List Int) (w : World) (p : Pl) (G : Gr) : Prop where
  at' : AtG w0 B w p G
  ins : Mine w0 w 36 (.slice a1 n1 c1) n1 (IN.map (Value.int .u64))
  bef : Mine w0 w 36 (.slice a2 n2 n2) n2 (E.map (Value.int .u64))
  b : Mine w0 w 42 (.slice a3 n3 c3) n3 (BL.map (Value.int .u32))
  c : Mine w0 w 42 (.slice (some ⟨g4, 0, none⟩) n4 c4) n4 (CL.map (Value.int .u32))
theorem St.step {w w2 : World} {p : Pl} {G : Gr} (h : St w0 B a1 n1 c1 IN a2 n2 E a3 n3 c3 BL g4 n4 c4 CL w p G) (hb : Below w.heap.size w w2) : St w0 B a1 n1 c1 IN a2 n2 E a3 n3 c3 BL g4 n4 c4 CL w2 p G :=
  ⟨h.at'.step hb, h.ins.step hb, h.bef.step hb, h.b.step hb, h.c.step hb⟩
theorem St.next {w w2 : World} {p p' : Pl} {G G' : Gr} (h : St w0 B a1 n1 c1 IN a2 n2 E a3 n3 c3 BL g4 n4 c4 CL w p G) (hA : AtG w0 B w2 p' G') (hS : Step p w p' w2 G') : St w0 B a1 n1 c1 IN a2 n2 E a3 n3 c3 BL g4 n4 c4 CL w2 p' G' :=
  ⟨hA, h.ins.next h.at'.is hS.kept, h.bef.next h.at'.is hS.kept, h.b.next h.at'.is hS.kept, h.c.next h.at'.is hS.kept⟩
theorem St.many {f : FuncId} {T : Gr → Int → Int → Gr × Int} {z : Int} {k : Nat} (hF : ManyCall f T z) (hT : OpOk T k) (hk : k ≤ 3) (hz : z = 0 ∨ z = 1) {w : World} {p : Pl} {G : Gr} (h : St w0 B a1 n1 c1 IN a2 n2 E a3 n3 c3 BL g4 n4 c4 CL w p G) (hl : AllThere G BL) (hn : n3 ≤ 20) (h9 : G.nodes.length ≤ 90000) {G' : Gr} {v : Int} (hr : manyG T z G BL = (G', v)) :
    Calls Try.prog f #[.pointer (some ⟨B, 0, none⟩), .slice a3 n3 c3] w fun e w' => e = .returned (.tuple #[.int .u32 v, .int .i64 0]) ∧ ∃ p', St w0 B a1 n1 c1 IN a2 n2 E a3 n3 c3 BL g4 n4 c4 CL w' p' G' := by
  have := h.at'.manyS hF hT hk hz h.b hl hn h9
  rw [hr] at this
  exact this.mono fun e w' ⟨he, p', hA, hS⟩ => ⟨he, p', h.next hA hS⟩
theorem St.cells {w : World} {p : Pl} {G : Gr} (h : St w0 B a1 n1 c1 IN a2 n2 E a3 n3 c3 BL g4 n4 c4 CL w p G) {i : Nat} (hi : i < n4) : w.cell? ⟨g4, i, none⟩ = some (.int .u32 (CL.getD i 0)) := by
  have e := h.c.own.cellAt i (by omega)
  have hl := h.c.own.1
  simp at hl
  rw [e, List.getElem?_map]
  simp [List.getD, show i < CL.length by omega]
theorem St.mux {w : World} {p : Pl} {G : Gr} (h : St w0 B a1 n1 c1 IN a2 n2 E a3 n3 c3 BL g4 n4 c4 CL w p G) (h9 : G.nodes.length ≤ 90000) {c a b : Int} (hc : There G c) (ha : There G a) (hb : There G b) {G' : Gr} {v : Int} (hr : muxG G c a b = (G', v)) :
    Calls Try.prog 14 #[.pointer (some ⟨B, 0, none⟩), .int .u32 c, .int .u32 a, .int .u32 b] w.drew fun e w' => e = .returned (.tuple #[.int .u32 v, .int .i64 0]) ∧ ∃ p', St w0 B a1 n1 c1 IN a2 n2 E a3 n3 c3 BL g4 n4 c4 CL w' p' G' := by
  have h := h.step (below_draws w 1)
  have := h.at'.mux h9 hc ha hb
  rw [hr] at this
  exact this.mono fun e w' ⟨he, p', hA, hS⟩ => ⟨he, p', h.next hA hS⟩
theorem St.raw {w : World} {p : Pl} {G : Gr} (h : St w0 B a1 n1 c1 IN a2 n2 E a3 n3 c3 BL g4 n4 c4 CL w p G) (h9 : G.nodes.length ≤ 90000) {a b : Int} (ha : There G a) (hb : There G b) {G' : Gr} {v : Int} (hr : gateG G a b = (G', v)) :
    Calls Try.prog 15 #[.pointer (some ⟨B, 0, none⟩), .int .u32 a, .int .u32 b] w.drew fun e w' => e = .returned (.tuple #[.int .u32 v, .int .i64 0]) ∧ ∃ p', St w0 B a1 n1 c1 IN a2 n2 E a3 n3 c3 BL g4 n4 c4 CL w' p' G' := by
  have h := h.step (below_draws w 1)
  have := h.at'.raw h9 ha hb
  rw [hr] at this
  exact this.mono fun e w' ⟨he, p', hA, hS⟩ => ⟨he, p', h.next hA hS⟩
theorem St.eval {w : World} {p : Pl} {G : Gr} (h : St w0 B a1 n1 c1 IN a2 n2 E a3 n3 c3 BL g4 n4 c4 CL w p G) (hn : G.inputs.length = n1) (h9 : n1 ≤ 100000) (hI : Words IN) :
    Calls Try.prog 9 #[.pointer (some ⟨B, 0, none⟩), .slice a1 n1 c1] w fun e w' => ∃ ws a5, e = .returned (.tuple #[.slice a5 G.nodes.length G.nodes.length, .int .i64 0])
      ∧ Mine w0 w' 36 (.slice a5 G.nodes.length G.nodes.length) G.nodes.length (ws.map (Value.int .u64)) ∧ ws.length = G.nodes.length ∧ Val G IN ws ∧ St w0 B a1 n1 c1 IN a2 n2 E a3 n3 c3 BL g4 n4 c4 CL w' p G := by
  subst hn
  exact (h.at'.eval (h.ins.row (by omega)).1 hI).mono fun e w' ⟨ws, a5, he, hM, hl, hv, hB⟩ => ⟨ws, a5, he, hM, hl, hv, h.step hB⟩
end
end Go.Proofs.Ytlbmbpkabmihnaa
