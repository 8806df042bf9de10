/-
  LevelCalls: what is handed in, copied: where it lies, apart from the depths.
-/
import Derived.Test.YtocfchgkfaogdaaRvE
namespace Go.Proofs.Ytocfchgkfaogdaa
open Go.RowKit Go.Maps
set_option maxRecDepth 100000

/-- Rows of rows that lie between two marks of the heap. -/
structure FewAt (lo hi : Nat) (w : World) (ov : Value) (m : Nat) (L : List (List Int)) : Prop where
  is : ∃ (V : Nat → Value) (U : Nat → List Int), w.ownsRow lo 23 1 ov m ((List.range m).map V) ∧ (∀ b, ov.ownBlock = some b → b < hi) ∧ (∀ k, k < m → w.ownsRow lo 3 1 (V k) (U k).length (ints (U k)) ∧ (U k).length ≤ 1000000 ∧ ∀ b, (V k).ownBlock = some b → b < hi) ∧ L = (List.range m).map U
  small : m ≤ 1000000
theorem FewAt.kept {lo hi : Nat} {w w2 : World} {ov : Value} {m : Nat} {L : List (List Int)} (h : FewAt lo hi w ov m L) {F : Nat → Prop} (hk : Kept F w w2) (hF : ∀ b, F b → b < lo ∨ hi ≤ b) : FewAt lo hi w2 ov m L := by
  obtain ⟨V, U, h1, h2, h3, h4⟩ := h.is
  refine ⟨⟨V, U, own_keptF h1 hk (fun b e hf => ?_), h2, fun k hk2 => ⟨own_keptF (h3 k hk2).1 hk (fun b e hf => ?_), (h3 k hk2).2⟩, h4⟩, h.small⟩
  · have a := own_ge h1 b e
    have c := h2 b e
    have := hF b hf
    omega
  · have a := own_ge (h3 k hk2).1 b e
    have c := (h3 k hk2).2.2 b e
    have := hF b hf
    omega
theorem FewAt.below {lo hi : Nat} {w w2 : World} {ov : Value} {m : Nat} {L : List (List Int)} (h : FewAt lo hi w ov m L) (hb : Below w.heap.size w w2) : FewAt lo hi w2 ov m L := h.kept (F := fun _ => False) (Kept.of_below hb) (fun _ h => h.elim)
theorem FewAt.rr {lo hi : Nat} {w : World} {a : Option Addr} {c m : Nat} {L : List (List Int)} (h : FewAt lo hi w (.slice a m c) m L) : RR w a m L := by
  obtain ⟨V, U, h1, -, h3, rfl⟩ := h.is
  have hsm := h.small
  refine ⟨by simp, by omega, ?_⟩
  by_cases h0 : m = 0
  · exact .inl h0
  · right
    obtain ⟨g, cap, e⟩ := own_form h1 (by omega)
    simp only [Value.slice.injEq, true_and] at e
    obtain ⟨rfl, rfl⟩ := e
    refine ⟨g, 0, rfl, own_lt h1, fun i hi => ?_⟩
    obtain ⟨hr, hU, -⟩ := h3 i hi
    obtain ⟨ai, ci, ev⟩ := own_slice hr
    rw [ev] at hr
    have hg : ((List.range m).map U).getD i [] = U i := by simp [List.getD, hi]
    obtain ⟨h1', h2'⟩ := own_cap hr
    rw [hg, Nat.zero_add, h1.cellAt i (by omega)]
    exact ⟨ai, ci, by simp [hi, ev], h1', h2', Row.of_own hr rfl (by omega)⟩
theorem FewAt.of_rc {w0 w : World} {ov : Value} {m : Nat} {V : Nat → Value} {U : Nat → List Int} (h : RC w0 w ov m V U) (hm : m ≤ 1000000) (hU : ∀ k, k < m → (U k).length ≤ 1000000) : FewAt w0.heap.size w.heap.size w ov m ((List.range m).map U) :=
  ⟨⟨V, U, h.ub, fun b e => own_blt h.ub e, fun k hk => ⟨h.ur k hk, hU k hk, fun b e => own_blt (h.ur k hk) e⟩, rfl⟩, hm⟩
/-- A row that lies between two marks of the heap. -/
structure RowAt (lo hi : Nat) (w : World) (v : Value) (n : Nat) (l : List Int) : Prop where
  own : w.ownsRow lo 3 1 v n (ints l)
  top : ∀ b, v.ownBlock = some b → b < hi
  len : l.length = n
theorem RowAt.kept {lo hi : Nat} {w w2 : World} {v : Value} {n : Nat} {l : List Int} (h : RowAt lo hi w v n l) {F : Nat → Prop} (hk : Kept F w w2) (hF : ∀ b, F b → b < lo ∨ hi ≤ b) : RowAt lo hi w2 v n l :=
  ⟨own_keptF h.own hk (fun b e hf => by
    have a := own_ge h.own b e
    have c := h.top b e
    have := hF b hf
    omega), h.top, h.len⟩
theorem RowAt.below {lo hi : Nat} {w w2 : World} {v : Value} {n : Nat} {l : List Int} (h : RowAt lo hi w v n l) (hb : Below w.heap.size w w2) : RowAt lo hi w2 v n l := ⟨own_below h.own hb, h.top, h.len⟩
theorem RowAt.row {lo hi : Nat} {w : World} {a : Option Addr} {c n : Nat} {l : List Int} (h : RowAt lo hi w (.slice a n c) n l) (hn : n ≤ 1000000) : Row .i64 w a n l := Row.of_own h.own h.len (by omega)
theorem RowAt.new {w w1 : World} {v : Value} {n : Nat} {l : List Int} (h : w1.ownsRow w.heap.size 3 1 v n (ints l)) (hl : l.length = n) : RowAt w.heap.size w1.heap.size w1 v n l := ⟨h, fun _ e => own_blt h e, hl⟩
/-- The three copies: the depths lie apart from the others. -/
structure Cop (w wr : World) (s t u : Value) (f d : Nat) (L : List (List Int)) (F D : List Int) : Prop where
  low : Below w.heap.size w wr
  is : ∃ a1 b1 a2 b2 a3 b3, FewAt a1 b1 wr s L.length L ∧ RowAt a2 b2 wr t f F ∧ RowAt a3 b3 wr u d D ∧ w.heap.size ≤ a3 ∧ (b1 ≤ a3 ∨ b3 ≤ a1) ∧ (b2 ≤ a3 ∨ b3 ≤ a2)
end Go.Proofs.Ytocfchgkfaogdaa
