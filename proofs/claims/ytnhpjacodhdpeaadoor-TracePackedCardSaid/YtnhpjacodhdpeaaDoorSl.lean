/-
  A slice of integers, as a contract names it: nil or not, cut or whole.
-/
import Derived.Test.YtnhpjacodhdpeaaDoorExt
namespace Go.Proofs.YtnhpjacodhdpeaaDoor
open Go.RowKit

/-- What a slice of integers holds. -/
def Row (k : IntKind) (w : World) (a : Option Addr) (n : Nat) (l : List Int) : Prop :=
  l.length = n ∧ n ≤ 9223372036854775807 ∧ (n = 0 ∨ ∃ b off, a = some ⟨b, off, none⟩ ∧ b < w.heap.size ∧ ∀ i, i < n → w.cell? ⟨b, off + i, none⟩ = some (.int k (l.getD i 0)))

theorem Row.step {k : IntKind} {W w1 : World} {a : Option Addr} {n : Nat} {l : List Int} (h : Row k W a n l) (hb : Below W.heap.size W w1) : Row k w1 a n l := by
  obtain ⟨h1, h2, h3⟩ := h
  refine ⟨h1, h2, ?_⟩
  rcases h3 with h3 | ⟨b, off, rfl, hlt, hc⟩
  · exact .inl h3
  · exact .inr ⟨b, off, rfl, Nat.lt_of_lt_of_le hlt hb.size, fun i hi => stepc hb hlt (hc i hi)⟩
theorem Row.len {k : IntKind} {W : World} {a : Option Addr} {n : Nat} {l : List Int} (h : Row k W a n l) : l.length = n := h.1
theorem Row.le {k : IntKind} {W : World} {a : Option Addr} {n : Nat} {l : List Int} (h : Row k W a n l) : n ≤ 9223372036854775807 := h.2.1
theorem Row.at {k : IntKind} {W : World} {a : Option Addr} {n : Nat} {l : List Int} (h : Row k W a n l) (hn : 0 < n) : ∃ b off, a = some ⟨b, off, none⟩ ∧ b < W.heap.size ∧ ∀ i, i < n → W.cell? ⟨b, off + i, none⟩ = some (.int k (l.getD i 0)) := by
  rcases h.2.2 with h0 | h
  · omega
  · exact h
theorem Row.nil (k : IntKind) (W : World) (a : Option Addr) : Row k W a 0 [] := ⟨rfl, by omega, .inl rfl⟩
theorem Row.take {k : IntKind} {W : World} {a : Option Addr} {n : Nat} {l : List Int} (h : Row k W a n l) (m : Nat) (hm : m ≤ n) : Row k W a m (l.take m) := by
  obtain ⟨h1, h2, h3⟩ := h
  refine ⟨by simp; omega, by omega, ?_⟩
  rcases h3 with h3 | ⟨b, off, rfl, hlt, hc⟩
  · exact .inl (by omega)
  · refine .inr ⟨b, off, rfl, hlt, fun i hi => ?_⟩
    rw [hc i (by omega)]
    have : (l.take m).getD i 0 = l.getD i 0 := by
      simp [List.getD, List.getElem?_take, hi]
    rw [this]
end Go.Proofs.YtnhpjacodhdpeaaDoor
