/-
  Rows that a call has made itself: what is kept of them.
-/
import Derived.Test.YtnhpjacodhdpeaaDoorSl
import Derived.Test.YtnhpjacodhdpeaaDoorBits
namespace Go.Proofs.YtnhpjacodhdpeaaDoor
open Go.RowKit Bits

theorem Row.of_own {w : World} {base k cap : Nat} {kd : IntKind} {a : Option Addr} {l : List Int} {T : Nat} (h : w.ownsRow base T 1 (.slice a k cap) k (l.map (Value.int kd))) (hl : l.length = k) (hk : k ≤ 9223372036854775807) : Row kd w a k l := by
  refine ⟨hl, hk, ?_⟩
  by_cases h0 : k = 0
  · exact .inl h0
  · right
    rcases h.2 with ⟨_, h1⟩ | ⟨g, cap', cur, hv, hb, hh, r⟩
    · exact absurd h1 h0
    · simp at hv
      obtain ⟨rfl, rfl⟩ := hv
      have hc := fun i hi => h.cellAt (j := i) hi
      refine ⟨g, 0, rfl, (Array.getElem?_eq_some_iff.1 hh).1, fun i hi => ?_⟩
      rw [Nat.zero_add, hc i (by omega)]; simp [List.getD, hl, hi]

theorem own_ge {w : World} {base e size n : Nat} {v : Value} {xs : List Value} (h : w.ownsRow base e size v n xs) : ∀ k, v.ownBlock = some k → base ≤ k := by
  intro k hk
  rcases h.2 with ⟨rfl, _⟩ | ⟨g, cap, cur, rfl, hb, _⟩
  · simp [Value.ownBlock] at hk
  · simp [Value.ownBlock] at hk; omega
theorem own_below {w w2 : World} {base e size n : Nat} {v : Value} {xs : List Value} (h : w.ownsRow base e size v n xs) (hb : Below w.heap.size w w2) : w2.ownsRow base e size v n xs := by
  refine ⟨h.1, ?_⟩
  rcases h.2 with h0 | ⟨g, cap, cur, rfl, hg, hh, r⟩
  · exact .inl h0
  · exact .inr ⟨g, cap, cur, rfl, hg, by rw [hb.block g (Array.getElem?_eq_some_iff.1 hh).1]; exact hh, r⟩
theorem own_form {w : World} {base e size n : Nat} {v : Value} {xs : List Value} (h : w.ownsRow base e size v n xs) (hn : 0 < n) : ∃ g cap, v = .slice (some ⟨g, 0, none⟩) n cap := by
  rcases h.2 with ⟨_, h0⟩ | ⟨g, cap, _, hv, _⟩
  · omega
  · exact ⟨g, cap, hv⟩
theorem own_slice {w : World} {base e size n : Nat} {v : Value} {xs : List Value} (h : w.ownsRow base e size v n xs) : ∃ a cap, v = .slice a n cap := by
  rcases h.2 with ⟨rfl, h0⟩ | ⟨g, cap, _, hv, _⟩
  · exact ⟨none, 0, by rw [h0]⟩
  · exact ⟨_, cap, hv⟩
theorem own_lt {w : World} {base e size n g cap : Nat} {xs : List Value} (h : w.ownsRow base e size (.slice (some ⟨g, 0, none⟩) n cap) n xs) : g < w.heap.size := by
  rcases h.2 with ⟨h0, _⟩ | ⟨g', cap', cur, hv, _, hh, _⟩
  · simp at h0
  · simp at hv; obtain ⟨rfl, _⟩ := hv
    exact (Array.getElem?_eq_some_iff.1 hh).1
theorem own_nil (w : World) (base e : Nat) : w.ownsRow base e 1 (.slice none 0 0) 0 [] := ⟨rfl, .inl ⟨rfl, rfl⟩⟩
theorem own_some {w : World} {base e k g cap : Nat} {xs : List Value} (h : w.ownsRow base e 1 (.slice (some ⟨g, 0, none⟩) k cap) k xs) {j : Nat} (hj : j < k) : ∃ u, w.cell? ⟨g, j, none⟩ = some u := by
  have hl : xs.length = k := by have := h.1; omega
  have hc := h.cellAt (j := j) (by omega)
  exact ⟨xs[j]'(by omega), by rw [hc]; simp [hl, hj]⟩
theorem own_base {w : World} {base b2 e size n : Nat} {v : Value} {xs : List Value} (h : w.ownsRow base e size v n xs) (hb : b2 ≤ base) : w.ownsRow b2 e size v n xs := by
  refine ⟨h.1, ?_⟩
  rcases h.2 with h0 | ⟨g, cap, cur, rfl, hg, r⟩
  · exact .inl h0
  · exact .inr ⟨g, cap, cur, rfl, Nat.le_trans hb hg, r⟩
theorem news1 (w : World) (x : Value) (T : Nat) : ∀ (j : Nat) (u : Value), [x][j]? = some u → (w.alloc (.cells #[x] T)).cell? ((⟨w.heap.size, 0, none⟩ : Addr).add j) = some u := by
  intro j u h
  match j with
  | 0 => simp at h; subst h; simp [Addr.add]
  | j + 1 => simp at h

/-- A row that is being filled, the rest of it zeros. -/
def fillF (f : Nat → Int) (k j : Nat) : List Int := row k (fun i => if i < j then f i else 0)
theorem fillK_set (kd : IntKind) (f : Nat → Int) (k j : Nat) : ((fillF f k j).map (Value.int kd)).set j (.int kd (f j)) = (fillF f k (j + 1)).map (Value.int kd) := by
  apply List.ext_getElem
  · simp [fillF, row]
  · intro i h1 h2
    simp [fillF, row, List.getElem_set] at *
    by_cases e : j = i
    · subst e; simp
    · by_cases hi : i < j
      · simp [e, hi, show i < j + 1 by omega]
      · simp [e, hi, show ¬ i < j + 1 by omega]
theorem fillK_zero (kd : IntKind) (f : Nat → Int) (k : Nat) : (madeCells (Value.int kd 0).cells (k * 1)).toList = (fillF f k 0).map (Value.int kd) := by
  apply List.ext_getElem
  · simp [madeCells, fillF, row, Value.cells]
  · intro i h1 h2; simp [madeCells, fillF, row, Value.cells, Nat.mod_one]
theorem fillK_len (kd : IntKind) (f : Nat → Int) (k j : Nat) : ((fillF f k j).map (Value.int kd)).length = k := by simp [fillF, row]
theorem fillF_full (f : Nat → Int) (k : Nat) : fillF f k k = row k f := row_congr (fun i hi => by rw [if_pos hi])
theorem getD_row (n : Nat) (f : Nat → Int) (i : Nat) (h : i < n) : (row n f).getD i 0 = f i := row_getD n f i h
end Go.Proofs.YtnhpjacodhdpeaaDoor
