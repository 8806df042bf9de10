/-
  A node more: add.
-/
import Derived.Test.YtjdebancpgpebaaAigA
import Derived.Deep.RegionLaw
namespace Go.Proofs.Ytjdebancpgpebaa
open Go.RowKit

def Pl.own (p : Pl) (k : Nat) : Prop := k = p.b ∨ k = p.nb

theorem box_set {w : World} {b o : Nat} {cs : Array Value} {T : Nat} {fz : Nat × Nat} (h : w.heap[b]? = some (.cells cs T fz)) (v : Value) : (w.setCell ⟨b, o, none⟩ v).heap[b]? = some (.cells (cs.setIfInBounds o v) T fz) := by
  simp [World.setCell, Array.getElem?_modify, h]

/-- Behind the append and the store of the nodes. -/
theorem add_next {w wa w1 : World} {p : Pl} {F H : Bool} {ns : List Nd} {ins : List Int} (hL : Lay w p F H ns ins) (hb : Below w.heap.size w wa) (n : Nd) {g cap : Nat}
    (hown : w1.ownsRow 0 98 3 (.slice (some ⟨g, 0, none⟩) (ns.length + 1) cap) (ns.length + 1) (nodeCells ns ++ [.bool n.gate, .int .u32 n.a, .int .u32 n.b]))
    (hg : wa.grownBy w1 (some p.nb)) (hat : some p.nb = some g ∨ g = wa.heap.size) :
    Lay (w1.setCell ⟨p.b, 2, none⟩ (.slice (some ⟨g, 0, none⟩) (ns.length + 1) cap)) { p with nb := g, nc := cap } F H (ns ++ [n]) ins
      ∧ Kept p.own w (w1.setCell ⟨p.b, 2, none⟩ (.slice (some ⟨g, 0, none⟩) (ns.length + 1) cap)) ∧ (g = p.nb ∨ w.heap.size ≤ g) := by
  have hlt := hL.lt
  have hsz := hb.size
  obtain ⟨cur, hcur⟩ := hL.nlen
  have hne : p.b ≠ p.nb := by
    intro e
    have := hL.box
    rw [e, hcur] at this; simp [boxOf] at this
  have hbox1 : w1.heap[p.b]? = some (boxOf p F H ns.length) := by
    rw [hg.block p.b (by omega) (by simpa using hne), hb.block _ hlt]; exact hL.box
  have hgb : g ≠ p.b := by
    rcases hat with h | h
    · simp at h; omega
    · omega
  refine ⟨⟨?_, ?_, ?_⟩, ?_, ?_⟩
  · have := box_set (o := 2) hbox1 (.slice (some ⟨g, 0, none⟩) (ns.length + 1) cap)
    simpa [boxOf, Pl.nv] using this
  · have : (w1.setCell ⟨p.b, 2, none⟩ (.slice (some ⟨g, 0, none⟩) (ns.length + 1) cap)).ownsRow 0 98 3 (.slice (some ⟨g, 0, none⟩) (ns.length + 1) cap) (ns.length + 1) (nodeCells ns ++ [.bool n.gate, .int .u32 n.a, .int .u32 n.b]) := by
      refine ⟨hown.1, ?_⟩
      rcases hown.2 with h0 | ⟨g', cap', cur', hv, hg', hh, r⟩
      · exact .inl h0
      · simp at hv
        obtain ⟨rfl, rfl⟩ := hv
        exact .inr ⟨_, _, cur', rfl, hg', by rw [Below.heap_setCell _ _ _ _ hgb]; exact hh, r⟩
    rw [nodeCells_push]
    simpa [Pl.nv, ndCells] using this
  · have hi := own_below hL.inputs hb
    have h1 : ∀ k, p.iv.ownBlock = some k → k ≠ p.b ∧ k ≠ p.nb ∧ k < w.heap.size := by
      intro k hk
      obtain ⟨c, hc⟩ := own_type hL.inputs hk
      refine ⟨fun e => ?_, fun e => ?_, (Array.getElem?_eq_some_iff.1 hc).1⟩
      · subst e; rw [hL.box] at hc; simp [boxOf] at hc
      · subst e; rw [hcur] at hc; simp at hc
    refine ⟨hi.1, ?_⟩
    rcases hi.2 with h0 | ⟨g', cap', cur', hv, hg', hh, r⟩
    · exact .inl h0
    · obtain ⟨e1, e2, e3⟩ := h1 g' (by simp only [hv]; rfl)
      exact .inr ⟨g', cap', cur', hv, hg', by rw [Below.heap_setCell _ _ _ _ e1, hg.block g' (by omega) (by simpa using e2)]; exact hh, r⟩
  · refine ⟨hg.os.trans hb.os, hg.tape.trans hb.tape, hg.output.trans hb.output, by have := hg.size; simp [World.setCell]; omega, fun k hk hn => ?_⟩
    have n1 : k ≠ p.b := fun e => hn (.inl e)
    have n2 : k ≠ p.nb := fun e => hn (.inr e)
    rw [Below.heap_setCell _ _ _ _ n1, hg.block k (by omega) (by simpa using n2), hb.block k hk]
  · rcases hat with h | h
    · simp at h; exact .inl h.symm
    · exact .inr (by omega)

theorem info_node : (Try.prog.info? 98).map (fun i => (i.zero, i.size, i.bytes)) = some (some (.agg #[.bool false, .int .u32 0, .int .u32 0]), 3, 12) := by kernel_rfl
theorem news3 {w : World} {b : Nat} {x y z : Value} (h0 : w.cell? ⟨b, 0, none⟩ = some x) (h1 : w.cell? ⟨b, 1, none⟩ = some y) (h2 : w.cell? ⟨b, 2, none⟩ = some z) : ∀ (j : Nat) (u : Value), [x, y, z][j]? = some u → w.cell? ((⟨b, 0, none⟩ : Addr).add j) = some u := by
  intro j u h
  match j with
  | 0 => simp at h; subst h; simpa [Addr.add] using h0
  | 1 => simp at h; subst h; simpa [Addr.add] using h1
  | 2 => simp at h; subst h; simpa [Addr.add] using h2
  | j + 3 => simp at h

theorem grow_box {wa w1 : World} {row : Option Nat} (hg : wa.grownBy w1 row) {b o : Nat} {v : Value} (hc : wa.cell? ⟨b, o, none⟩ = some v) (hf : wa.frozen? ⟨b, o, none⟩ = false) (hne : some b ≠ row) :
    w1.cell? ⟨b, o, none⟩ = some v ∧ w1.frozen? ⟨b, o, none⟩ = false :=
  ⟨hg.cell hc hne, (World.frozen?_of_block (hg.block b (World.block_lt_of_cell? wa _ hc) hne)).trans hf⟩

theorem add_any {w : World} {p : Pl} {F H : Bool} {ns : List Nd} {ins : List Int} (h : Lay w p F H ns ins) (h0 : 0 < ns.length) (hm : ns.length ≤ 10000000) (n : Nd) :
    Calls Try.prog 57 #[.pointer (some ⟨p.b, 0, none⟩), .agg #[.bool n.gate, .int .u32 n.a, .int .u32 n.b]] w fun e w' => e = .returned (.tuple #[.int .u32 (2 * (ns.length : Int)), .int .i64 0])
      ∧ ∃ p', Lay w' p' F H (ns ++ [n]) ins ∧ Kept p.own w w' ∧ p'.b = p.b ∧ p'.iv = p.iv ∧ p'.m = p.m ∧ (p'.nb = p.nb ∨ w.heap.size ≤ p'.nb) := by
  obtain ⟨-, -, c2, -, -, fz⟩ := h.cells
  have f2 := fz 2
  have hlt := h.lt
  have hnlt := h.nlt
  have hno := Lib.hid h.nodes
  have HL := Lib.hid h
  have hne : p.b ≠ p.nb := by
    obtain ⟨cur, hcur⟩ := h.nlen
    intro e
    have := h.box
    rw [e, hcur] at this; simp [boxOf] at this
  have hof := Lib.hid (fun w => of_any ns.length false (by omega) w)
  have hov : Hid (ofV ns.length false = 2 * (ns.length : Int) ∧ ofE ns.length = 0) := by
    obtain ⟨e1, e2⟩ := of_val (n := ns.length) false (by omega) (by omega)
    exact ⟨by rw [← e1]; rfl, e2⟩
  have hne2 : some p.b ≠ Value.ownBlock (.slice (some ⟨p.nb, 0, none⟩) ns.length p.nc) := by simpa [Value.ownBlock] using hne
  have hne3 : some w.heap.size ≠ Value.ownBlock (.slice (some ⟨p.nb, 0, none⟩) ns.length p.nc) := by simp [Value.ownBlock]; omega
  obtain ⟨i0, hi, hz0, hz1, hz2⟩ := info_parts info_node
  have hof2 := Lib.hid (fun w => by have := hof.out w; rw [hov.out.1, hov.out.2] at this; exact this)
  obtain ⟨ng, na, nb⟩ := n
  generalize hk : ns.length = k at *
  have hk := Lib.hid hk
  clear h fz hof hov
  go_enter Try.func57, Try.ntmps57
  go_wp2_with (go_at_call 15; refine (hof2.out _).mono ?_; rintro e w2 ⟨rfl, rfl⟩)
  go_region_law
    (first | ((refine step_append_lies _ (by rfl) (.tmp 23) (.tmp 25) _ (by rfl) 0 98 i0 (.agg #[.bool false, .int .u32 0, .int .u32 0]) 3 12 Try.underlying89 hi hz0 hz1 hz2 rfl (by decide) (.slice (some ⟨p.nb, 0, none⟩) k p.nc) k _ (by rfl) (by first | exact hno.out.drew | exact (hno.out.alloc _).drew | exact ((hno.out.alloc _).alloc _).drew) _ 1 1 [.bool ng, .int .u32 na, .int .u32 nb] (by rfl) rfl (by exact news3 (by go_simp) (by go_simp) (by go_simp)) (by simp [Value.oneCell']) (by decide) (by unfold maxLen; omega) (by omega) (by omega) _ rfl ?_; intro g1 cap1 w1 hown1 hgrow1 hat1 hlt1; obtain ⟨x0, x1⟩ := grow_box hgrow1 (b := p.b) (o := 2) (v := .slice (some ⟨p.nb, 0, none⟩) k p.nc) (by go_simp) (by go_simp) hne2; obtain ⟨x2, -⟩ := grow_box hgrow1 (b := w.heap.size) (o := 0) (v := .bool ng) (by go_simp) (by go_simp) hne3; obtain ⟨x3, -⟩ := grow_box hgrow1 (b := w.heap.size) (o := 1) (v := .int .u32 na) (by go_simp) (by go_simp) hne3; obtain ⟨x4, -⟩ := grow_box hgrow1 (b := w.heap.size) (o := 2) (v := .int .u32 nb) (by go_simp) (by go_simp) hne3)))
  all_goals go_wp2
  all_goals go_ret2
  all_goals
    have e := hk.out
    subst e
    obtain ⟨r1, r2, r3⟩ := add_next HL.out (by first | exact (((Below.refl _ _).alloc (Nat.le_refl _) _).alloc (by simp) _).drew | exact ((Below.refl _ _).alloc (Nat.le_refl _) _).drew) ⟨ng, na, nb⟩ hown1 hgrow1 hat1
    exact ⟨rfl, _, r1, r2, rfl, rfl, rfl, r3⟩
end Go.Proofs.Ytjdebancpgpebaa
