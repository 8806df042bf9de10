/-
  Rows of words that may be written: cell by cell.
-/
import Derived.Test.YtgbhhmmllbanlaaLanW
import Derived.Test.YtgbhhmmllbanlaaSqE
namespace Go.Proofs.Ytgbhhmmllbanlaa
open Go.RowKit

theorem cell_set_same {w : World} {b o : Nat} {u : Value} (v : Value) (h : w.cell? ⟨b, o, none⟩ = some u) : (w.setCell ⟨b, o, none⟩ v).cell? ⟨b, o, none⟩ = some v := by simp [go_sem, h]
theorem cell_set_at (w : World) (b : Nat) {o i : Nat} (v : Value) (h : o ≠ i) : (w.setCell ⟨b, i, none⟩ v).cell? ⟨b, o, none⟩ = w.cell? ⟨b, o, none⟩ := by simp [go_sem, h]
theorem frozen_set (w : World) (b o c i : Nat) (v : Value) : (w.setCell ⟨c, i, none⟩ v).frozen? ⟨b, o, none⟩ = w.frozen? ⟨b, o, none⟩ := by simp [go_sem]
theorem size_set (w : World) (a : Addr) (v : Value) : (w.setCell a v).heap.size = w.heap.size := by simp [World.setCell]

structure WOwn (w : World) (B : Nat) (a : Option Addr) (n : Nat) (f : Nat → Nat) : Prop where
  row : WRow w a n f
  own : ∀ b off, a = some ⟨b, off, none⟩ → 0 < n → B ≤ b ∧ ∀ i, i < n → w.frozen? ⟨b, off + i, none⟩ = false
theorem WOwn.nil (w : World) (B : Nat) (a : Option Addr) (f : Nat → Nat) : WOwn w B a 0 f := ⟨WRow.nil w a f, fun _ _ _ h => by omega⟩
theorem WOwn.of_own {w : World} {B n cap : Nat} {a : Option Addr} {f : Nat → Nat} (h : w.ownsRow B 22 1 (.slice a n cap) n (wl n f)) (hn : n ≤ 9223372036854775807) : WOwn w B a n f := by
  refine ⟨WRow.of_own h hn, fun b off ha hp => ?_⟩
  subst ha
  obtain ⟨g, c, hv⟩ := own_form h hp
  simp at hv
  obtain ⟨⟨rfl, rfl⟩, rfl⟩ := hv
  refine ⟨own_ge h b rfl, fun i _ => ?_⟩
  have := h.frozenAt i
  rw [Nat.zero_add]; exact this
theorem Made.wown {w w' : World} {a : Option Addr} {n c : Nat} {f : Nat → Nat} (h : Made w w' a n c f) (hn : n ≤ 9223372036854775807) : WOwn w' w.heap.size a n f := WOwn.of_own h.own hn
theorem WOwn.at {w : World} {B : Nat} {a : Option Addr} {n : Nat} {f : Nat → Nat} (h : WOwn w B a n f) (hn : 0 < n) : ∃ b off, a = some ⟨b, off, none⟩ ∧ B ≤ b ∧ b < w.heap.size ∧ (∀ i, i < n → w.cell? ⟨b, off + i, none⟩ = some (.int .u64 (f i : Nat))) ∧ ∀ i, i < n → w.frozen? ⟨b, off + i, none⟩ = false := by
  obtain ⟨b, off, rfl, hb, hc⟩ := h.row.at hn
  obtain ⟨h1, h2⟩ := h.own b off rfl hn
  exact ⟨b, off, rfl, h1, hb, hc, h2⟩
theorem WOwn.step {w w1 : World} {B : Nat} {a : Option Addr} {n : Nat} {f : Nat → Nat} (h : WOwn w B a n f) (hb : Below w.heap.size w w1) : WOwn w1 B a n f := by
  refine ⟨h.row.step hb, fun b off ha hn => ?_⟩
  obtain ⟨h1, h2⟩ := h.own b off ha hn
  obtain ⟨b', off', ha', hl, -⟩ := h.row.at hn
  rw [ha'] at ha
  cases ha
  exact ⟨h1, fun i hi => stepf hb hl (h2 i hi)⟩
theorem WOwn.congr {w : World} {B : Nat} {a : Option Addr} {n : Nat} {f g : Nat → Nat} (h : WOwn w B a n f) (hfg : ∀ i, i < n → f i = g i) : WOwn w B a n g := ⟨h.row.congr hfg, h.own⟩
theorem WOwn.low {w : World} {B B' : Nat} {a : Option Addr} {n : Nat} {f : Nat → Nat} (h : WOwn w B a n f) (hB : B' ≤ B) : WOwn w B' a n f := ⟨h.row, fun b off ha hn => ⟨Nat.le_trans hB (h.own b off ha hn).1, (h.own b off ha hn).2⟩⟩
/-- One word written. -/
theorem WOwn.set {w : World} {B b off : Nat} {n j : Nat} {f : Nat → Nat} (h : WOwn w B (some ⟨b, off, none⟩) n f) (hj : j < n) (v : Nat) : WOwn (w.setCell ⟨b, off + j, none⟩ (.int .u64 (v : Nat))) B (some ⟨b, off, none⟩) n (upd f j v) := by
  obtain ⟨b', off', ha, hB, hl, hc, hf⟩ := h.at (by omega)
  cases ha
  refine ⟨⟨h.row.1, .inr ⟨b, off, rfl, by rw [size_set]; exact hl, fun i hi => ?_⟩⟩, fun b2 off2 ha2 hn => ?_⟩
  · by_cases e : i = j
    · subst e
      rw [cell_set_same _ (hc i hi), show upd f i v i = v from if_pos rfl]
    · rw [cell_set_at w b _ (by omega), hc i hi, show upd f j v i = f i from if_neg e]
  · cases ha2
    exact ⟨hB, fun i hi => by rw [frozen_set]; exact hf i hi⟩
theorem WRow.other {w : World} {a : Option Addr} {n : Nat} {f : Nat → Nat} (h : WRow w a n f) {c o : Nat} (v : Value) (hne : ∀ b off, a = some ⟨b, off, none⟩ → b ≠ c) : WRow (w.setCell ⟨c, o, none⟩ v) a n f := by
  refine ⟨h.1, ?_⟩
  rcases h.2 with h0 | ⟨b, off, rfl, hl, hc⟩
  · exact .inl h0
  · exact .inr ⟨b, off, rfl, by rw [size_set]; exact hl, fun i hi => by rw [cell_set_blk w v (hne b off rfl)]; exact hc i hi⟩
theorem WOwn.other {w : World} {B : Nat} {a : Option Addr} {n : Nat} {f : Nat → Nat} (h : WOwn w B a n f) {c o : Nat} (v : Value) (hne : ∀ b off, a = some ⟨b, off, none⟩ → b ≠ c) : WOwn (w.setCell ⟨c, o, none⟩ v) B a n f :=
  ⟨h.row.other v hne, fun b off ha hn => ⟨(h.own b off ha hn).1, fun i hi => by rw [frozen_set]; exact (h.own b off ha hn).2 i hi⟩⟩
theorem WOwn.drew {w : World} {B : Nat} {a : Option Addr} {n : Nat} {f : Nat → Nat} (h : WOwn w B a n f) : WOwn w.drew B a n f := h.step (Below.refl _ _).drew
/-- Rows that lie apart. -/
def Apart2 (a b : Option Addr) : Prop := ∀ x xo y yo, a = some ⟨x, xo, none⟩ → b = some ⟨y, yo, none⟩ → x ≠ y
/-- A row that is written through, as far as word j. -/
def mixF (f g : Nat → Nat) (j i : Nat) : Nat := if i < j then g i else f i
theorem mixF_zero (f g : Nat → Nat) : mixF f g 0 = f := by funext i; unfold mixF; rw [if_neg (by omega)]
theorem mixF_here (f g : Nat → Nat) (j : Nat) : mixF f g j j = f j := by unfold mixF; rw [if_neg (by omega)]
theorem mixF_set (f g : Nat → Nat) (j : Nat) : upd (mixF f g j) j (g j) = mixF f g (j + 1) := by
  funext i
  unfold upd mixF
  by_cases e : i = j
  · subst e; rw [if_pos rfl, if_pos (by omega)]
  · rw [if_neg e]
    by_cases h : i < j
    · rw [if_pos h, if_pos (by omega)]
    · rw [if_neg h, if_neg (by omega)]
theorem WOwn.mixed {w : World} {B : Nat} {a : Option Addr} {n : Nat} {f g : Nat → Nat} (h : WOwn w B a n (mixF f g n)) : WOwn w B a n g := h.congr (fun i hi => by unfold mixF; rw [if_pos hi])
theorem WOwn.mix {w : World} {B b off : Nat} {n j : Nat} {f g : Nat → Nat} (h : WOwn w B (some ⟨b, off, none⟩) n (mixF f g j)) (hj : j < n) : WOwn (w.setCell ⟨b, off + j, none⟩ (.int .u64 (g j : Nat))) B (some ⟨b, off, none⟩) n (mixF f g (j + 1)) := by
  have := h.set hj (g j)
  rw [mixF_set] at this
  exact this
theorem le64' {k : Nat} (h : k ≤ 64) : 2 ^ k ≤ 18446744073709551616 := Nat.pow_le_pow_right (n := 2) (j := 64) (by decide) h
theorem sqA_part (F : Nat → Nat) {k : Nat} (_ : k < 64) : sqA (upd (part F k) k (F k)) = sqA (part F (k + 1)) := by
  apply sqA_congr
  intro i _
  unfold upd part
  by_cases e : i = k
  · subst e; rw [if_pos rfl, if_pos (by omega)]
  · rw [if_neg e]
    by_cases h : i < k
    · rw [if_pos h, if_pos (by omega)]
    · rw [if_neg h, if_neg (by omega)]
theorem part_none (F : Nat → Nat) : part F 0 = fun _ => 0 := by funext i; unfold part; rw [if_neg (by omega)]
theorem part_sq (F : Nat → Nat) : sqA (part F 64) = sqA F := sqA_congr (fun i h => by unfold part; rw [if_pos h])
theorem Blk.grow {w : World} {b : Nat} {F : Nat → Nat} {k : Nat} (h : Blk w b (part F k)) (hk : k < 64) : Blk (w.setCell ⟨b, k, none⟩ (.int .u64 (F k : Nat))) b (part F (k + 1)) := by
  have := h.set (i := k) (v := F k) hk
  unfold Blk at this ⊢
  rw [sqA_part F hk] at this
  exact this
theorem Blk.full {w : World} {b : Nat} {F : Nat → Nat} (h : Blk w b (part F 64)) : Blk w b F := by
  unfold Blk at h ⊢; rw [part_sq] at h; exact h

theorem cutAt_bit (n : Nat) (f : Nat → Nat) (i j : Nat) : (cutAt n f i).testBit j = (decide (i < n) && (f i).testBit j) := by
  unfold cutAt
  by_cases h : i < n
  · rw [if_pos h]; simp [h]
  · rw [if_neg h]; simp [h]
theorem bit_small {n x j : Nat} (h : x < 2 ^ n) (hj : n ≤ j) : x.testBit j = false := Nat.testBit_lt_two_pow (Nat.lt_of_lt_of_le h (Nat.pow_le_pow_right (by decide) hj))
theorem cut64 {n k : Nat} {F : Nat → Nat} (hn : n ≤ 64) (hF : ∀ i, i < k → F i < 2 ^ n) (i : Nat) : cutAt k F i < 18446744073709551616 := cutAt_lt (fun i h => Nat.lt_of_lt_of_le (hF i h) (le64' hn)) i
end Go.Proofs.Ytgbhhmmllbanlaa
