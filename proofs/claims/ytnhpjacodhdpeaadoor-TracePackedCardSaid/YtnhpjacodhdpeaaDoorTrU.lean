/-
  A table that a call has made, as one that comes in; one of its numbers written over.
-/
import Derived.Test.YtnhpjacodhdpeaaDoorTrT
namespace Go.Proofs.YtnhpjacodhdpeaaDoor
open Go.RowKit Go.Maps Bits
set_option maxRecDepth 100000

theorem own_cap {w : World} {base e size n cap : Nat} {a : Option Addr} {xs : List Value} (h : w.ownsRow base e size (.slice a n cap) n xs) : n ≤ cap ∧ cap ≤ maxLen := by
  rcases h.2 with ⟨h0, h1⟩ | ⟨g, c2, cur, hv, -, -, h1, h2, -⟩
  · simp at h0; omega
  · simp at hv; omega
section
variable {w : World} {base : Nat} {va v2 : Value} {L : List TB} {R : List (List Int)}
/-- Its two slices as a contract names them. -/
theorem TabV.ins (h : TabV w base va v2 L R) (hL : L.length ≤ 9223372036854775807) (hR : R.length ≤ 9223372036854775807) (hr : ∀ i, i < R.length → (R.getD i []).length ≤ 9223372036854775807) :
    ∃ a c a2 c2, va = .slice a L.length c ∧ v2 = .slice a2 R.length c2 ∧ L.length ≤ c ∧ BsR w a L.length L ∧ RRk .u64 w a2 R.length R := by
  obtain ⟨kv, h1, h2⟩ := h.rows
  obtain ⟨a, c, rfl⟩ := own_slice h.bus
  obtain ⟨a2, c2, rfl⟩ := own_slice h1
  refine ⟨a, c, a2, c2, rfl, rfl, (own_cap h.bus).1, BsR.of_own h.bus rfl hL, rfl, hR, ?_⟩
  by_cases h0 : R.length = 0
  · exact .inl h0
  · right
    obtain ⟨g, cap, hv⟩ := own_form h1 (by omega)
    simp at hv
    obtain ⟨rfl, rfl⟩ := hv
    refine ⟨g, 0, rfl, own_lt h1, fun i hi => ?_⟩
    obtain ⟨x, e1, e2⟩ := h2 i hi
    obtain ⟨ai, ci, rfl⟩ := own_slice e2
    have hc := own_cap e2
    refine ⟨ai, ci, ?_, hc.1, by have := hc.2; unfold maxLen at this; omega, Row.of_own e2 rfl (hr i hi)⟩
    have := h1.cellAt i (by omega)
    rw [Nat.zero_add, this, e1]
/-- One number written over. -/
theorem TabF.put (h : TabF w base va v2 L R) {i k : Nat} (x : Int) (hi : i < R.length) (hk : k < (R.getD i []).length) :
    ∃ b c2 g cg, v2 = .slice (some ⟨b, 0, none⟩) R.length c2 ∧ w.cell? ⟨b, i, none⟩ = some (.slice (some ⟨g, 0, none⟩) (R.getD i []).length cg) ∧ w.cell? ⟨g, k, none⟩ = some (.int .u64 (colF R k i)) ∧ w.frozen? ⟨g, k, none⟩ = false ∧ base ≤ g
      ∧ TabF (w.setCell ⟨g, k, none⟩ (.int .u64 x)) base va v2 L (setR R i k x) := by
  obtain ⟨kv, h1, hf, h2⟩ := h.rows
  obtain ⟨b, c2, rfl⟩ := own_form h1 (by omega)
  obtain ⟨y, e1, e2⟩ := h2 i hi
  obtain ⟨g, cg, rfl⟩ := own_form e2 (by omega)
  have hcell := h1.cellAt i (by omega)
  rw [e1] at hcell
  have hnum := e2.cellAt k (by omega)
  have hu : (u64s (R.getD i []))[k]? = some (.int .u64 (colF R k i)) := by
    unfold colF
    generalize R.getD i [] = l at *
    simp [u64s, List.getD, hk]
  rw [hu] at hnum
  obtain ⟨cur, hg⟩ := own_type e2 (k := g) rfl
  have hks : Kept (fun q => q = g) w (w.setCell ⟨g, k, none⟩ (.int .u64 x)) := ⟨rfl, rfl, rfl, by simp, fun q _ hn => Below.heap_setCell _ _ _ _ hn⟩
  have hoth : ∀ {T size n : Nat} {v : Value} {xs : List Value}, T ≠ 46 → w.ownsRow base T size v n xs → (w.setCell ⟨g, k, none⟩ (.int .u64 x)).ownsRow base T size v n xs := fun hT hr =>
    own_other hr hks (fun q e => by subst e; exact ⟨_, _, _, hg, fun e => hT e.symm⟩)
  refine ⟨b, c2, g, cg, rfl, hcell, hnum, e2.frozenAt k, own_ge e2 g rfl, hoth (by decide) h.bus, kv, by rw [setR_len]; exact hoth (by decide) h1, hf, fun j hj => ?_⟩
  rw [setR_len] at hj
  rw [setR_rowlen]
  rw [setR_row]
  by_cases hij : j = i
  · subst hij
    rw [if_pos ⟨rfl, hi⟩]
    refine ⟨_, e1, ?_⟩
    have := (e2.stored k (.int .u64 x)).1
    rw [show u64s ((R.getD j []).set k x) = (u64s (R.getD j [])).set k (.int .u64 x) by simp [u64s, List.map_set]]
    exact this
  · rw [if_neg (fun e => hij e.1)]
    obtain ⟨z, f1, f2⟩ := h2 j hj
    refine ⟨z, f1, own_keptF f2 hks (fun q hq e => ?_)⟩
    subst e
    rcases Nat.lt_or_ge j i with hlt | hge
    · exact hf j i z _ q hlt f1 e1 hq rfl
    · exact hf i j _ z q (by omega) e1 f1 rfl hq
end
/-- A table that a call has made, its blocks from lo on and below hi. -/
structure TabG (w : World) (lo hi : Nat) (va v2 : Value) (L : List TB) (G : List (List Int)) : Prop where
  bus : w.ownsRow lo 69 2 va L.length (busCs L)
  busHi : ∀ k, va.ownBlock = some k → k < hi
  rows : ∃ kv, w.ownsRow lo 37 1 v2 G.length kv ∧ (∀ k, v2.ownBlock = some k → k < hi) ∧ FarK kv ∧ ∀ i, i < G.length → ∃ x, kv[i]? = some x ∧ w.ownsRow lo 46 1 x (G.getD i []).length (u64s (G.getD i [])) ∧ ∀ k, x.ownBlock = some k → k < hi
section
variable {w w' : World} {lo hi : Nat} {va v2 : Value} {L : List TB} {G : List (List Int)}
theorem TabG.tabF (h : TabG w lo hi va v2 L G) : TabF w lo va v2 L G := by
  obtain ⟨kv, h1, -, h2, h3⟩ := h.rows
  exact ⟨h.bus, kv, h1, h2, fun i hi => by obtain ⟨x, e1, e2, -⟩ := h3 i hi; exact ⟨x, e1, e2⟩⟩
theorem TabF.up (h : TabF w lo va v2 L G) : TabG w lo w.heap.size va v2 L G := by
  obtain ⟨kv, h1, h2, h3⟩ := h.rows
  exact ⟨h.bus, fun k hk => (h.bus.lt k hk).2, kv, h1, fun k hk => (h1.lt k hk).2, h2, fun i hi => by obtain ⟨x, e1, e2⟩ := h3 i hi; exact ⟨x, e1, e2, fun k hk => (e2.lt k hk).2⟩⟩
/-- It is kept where what changes lies above it, or is a table's own box. -/
theorem TabG.keep {F : Nat → Prop} (h : TabG w lo hi va v2 L G) (hk : Kept F w w') (hF : ∀ k, F k → k < hi → ∃ c z, w.heap[k]? = some (.cells c 25 z)) : TabG w' lo hi va v2 L G := by
  have row : ∀ {T size n : Nat} {v : Value} {xs : List Value}, T ≠ 25 → w.ownsRow lo T size v n xs → (∀ k, v.ownBlock = some k → k < hi) → w'.ownsRow lo T size v n xs := fun hT hr hh =>
    own_keptF hr hk (fun k hv hf => by
      obtain ⟨c, z, e⟩ := hF k hf (hh k hv)
      obtain ⟨cur, e2⟩ := own_type hr hv
      rw [e2] at e
      simp at e
      exact hT e.2.1)
  obtain ⟨kv, h1, h2, h3, h4⟩ := h.rows
  exact ⟨row (by decide) h.bus h.busHi, h.busHi, kv, row (by decide) h1 h2, h2, h3, fun i hi => by obtain ⟨x, e1, e2, e3⟩ := h4 i hi; exact ⟨x, e1, row (by decide) e2 e3, e3⟩⟩
end
end Go.Proofs.YtnhpjacodhdpeaaDoor
