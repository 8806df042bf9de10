/-
  Rows of words, as a contract names them; what lanes may be.
-/
import Derived.Test.YtnhpjacodhdpeaaDoorSqT
import Derived.Test.YtnhpjacodhdpeaaDoorWordM
import Derived.Test.YtnhpjacodhdpeaaDoorOwn
namespace Go.Proofs.YtnhpjacodhdpeaaDoor
open Go.RowKit

/-- What a slice of words holds. -/
def WRow (w : World) (a : Option Addr) (n : Nat) (f : Nat → Nat) : Prop :=
  n ≤ 9223372036854775807 ∧ (n = 0 ∨ ∃ b off, a = some ⟨b, off, none⟩ ∧ b < w.heap.size ∧ ∀ i, i < n → w.cell? ⟨b, off + i, none⟩ = some (.int .u64 (f i : Nat)))
theorem WRow.step {W w1 : World} {a : Option Addr} {n : Nat} {f : Nat → Nat} (h : WRow W a n f) (hb : Below W.heap.size W w1) : WRow w1 a n f := by
  obtain ⟨h1, h3⟩ := h
  refine ⟨h1, ?_⟩
  rcases h3 with h3 | ⟨b, off, rfl, hlt, hc⟩
  · exact .inl h3
  · exact .inr ⟨b, off, rfl, Nat.lt_of_lt_of_le hlt hb.size, fun i hi => stepc hb hlt (hc i hi)⟩
theorem WRow.at {W : World} {a : Option Addr} {n : Nat} {f : Nat → Nat} (h : WRow W a n f) (hn : 0 < n) : ∃ b off, a = some ⟨b, off, none⟩ ∧ b < W.heap.size ∧ ∀ i, i < n → W.cell? ⟨b, off + i, none⟩ = some (.int .u64 (f i : Nat)) := by
  rcases h.2 with h0 | h
  · omega
  · exact h
theorem WRow.nil (W : World) (a : Option Addr) (f : Nat → Nat) : WRow W a 0 f := ⟨by omega, .inl rfl⟩
theorem WRow.congr {W : World} {a : Option Addr} {n : Nat} {f g : Nat → Nat} (h : WRow W a n f) (hfg : ∀ i, i < n → f i = g i) : WRow W a n g := by
  refine ⟨h.1, ?_⟩
  rcases h.2 with h0 | ⟨b, off, ha, hlt, hc⟩
  · exact .inl h0
  · exact .inr ⟨b, off, ha, hlt, fun i hi => by rw [hc i hi, hfg i hi]⟩
theorem WRow.take {W : World} {a : Option Addr} {n : Nat} {f : Nat → Nat} (h : WRow W a n f) {m : Nat} (hm : m ≤ n) : WRow W a m f := by
  refine ⟨by have := h.1; omega, ?_⟩
  rcases h.2 with h0 | ⟨b, off, ha, hlt, hc⟩
  · exact .inl (by omega)
  · exact .inr ⟨b, off, ha, hlt, fun i hi => hc i (by omega)⟩
/-- A square's rows. -/
theorem WRow.of_blk {w : World} {b : Nat} {f : Nat → Nat} (h : Blk w b f) {n : Nat} (hn : n ≤ 64) : WRow w (some ⟨b, 0, none⟩) n f :=
  ⟨by omega, .inr ⟨b, 0, rfl, h.lt, fun i hi => by rw [Nat.zero_add]; exact h.cell (by omega)⟩⟩

/-- The words of a row that a call has made. -/
def wl (n : Nat) (f : Nat → Nat) : List Value := (List.range n).map (fun i => Value.int .u64 (f i : Nat))
theorem wl_length (n : Nat) (f : Nat → Nat) : (wl n f).length = n := by simp [wl]
theorem wl_get (n : Nat) (f : Nat → Nat) (i : Nat) (h : i < n) : (wl n f)[i]? = some (.int .u64 (f i : Nat)) := by simp [wl, h]
theorem wl_snoc (n : Nat) (f : Nat → Nat) : wl (n + 1) f = wl n f ++ [.int .u64 (f n : Nat)] := by simp [wl, List.range_succ]
theorem wl_congr {n : Nat} {f g : Nat → Nat} (h : ∀ i, i < n → f i = g i) : wl n f = wl n g := by
  unfold wl
  apply List.map_congr_left
  intro i hi
  rw [h i (by simpa using hi)]
theorem wl_one (n : Nat) (f : Nat → Nat) : ∀ u ∈ wl n f, u.oneCell' = true := by
  intro u hu
  simp [wl] at hu
  obtain ⟨i, _, rfl⟩ := hu
  rfl
theorem wl_set (n : Nat) (f : Nat → Nat) (i v : Nat) : (wl n f).set i (.int .u64 (v : Nat)) = wl n (upd f i v) := by
  apply List.ext_getElem?
  intro j
  rw [List.getElem?_set]
  by_cases hj : j < n
  · rw [wl_get _ _ _ hj, wl_get _ _ _ hj]
    by_cases e : i = j
    · subst e; rw [if_pos rfl, if_pos (by rw [wl_length]; exact hj), show upd f i v i = v from if_pos rfl]
    · rw [if_neg e, show upd f i v j = f j from if_neg (fun x => e x.symm)]
  · have e2 : ∀ g, (wl n g)[j]? = none := fun g => List.getElem?_eq_none (by rw [wl_length]; omega)
    rw [e2, e2]
    by_cases e : i = j
    · rw [if_pos e, if_neg (by rw [wl_length]; omega)]
    · rw [if_neg e]
theorem wl_made (n : Nat) : (madeCells (Value.int .u64 0).cells (n * 1)).toList = wl n (fun _ => 0) := by
  apply List.ext_getElem
  · simp [madeCells, wl, Value.cells]
  · intro i h1 h2; simp [madeCells, wl, Value.cells, Nat.mod_one]
theorem WRow.of_own {w : World} {base k cap T : Nat} {a : Option Addr} {f : Nat → Nat} (h : w.ownsRow base T 1 (.slice a k cap) k (wl k f)) (hk : k ≤ 9223372036854775807) : WRow w a k f := by
  refine ⟨hk, ?_⟩
  by_cases h0 : k = 0
  · exact .inl h0
  · right
    rcases h.2 with ⟨_, h1⟩ | ⟨g, cap', cur, hv, hb, hh, r⟩
    · exact absurd h1 h0
    · simp at hv
      obtain ⟨rfl, rfl⟩ := hv
      have hc := fun i hi => h.cellAt (j := i) hi
      refine ⟨g, 0, rfl, (Array.getElem?_eq_some_iff.1 hh).1, fun i hi => ?_⟩
      rw [Nat.zero_add, hc i (by omega), wl_get _ _ _ hi]

/-- What lanes may be: of that width, and these words. -/
def mayH (W : Int) (n : Nat) (f : Nat → Nat) : Bool := may false false W && (List.range n).all (fun i => isw false false W (f i : Nat))
theorem mayH_zero (W : Int) (f : Nat → Nat) : mayH W 0 f = may false false W := by simp [mayH]
theorem mayH_no {W : Int} {n : Nat} {f : Nat → Nat} {j : Nat} (hj : j < n) (h : isw false false W (f j : Nat) = false) : mayH W n f = false := by
  unfold mayH
  rw [Bool.and_eq_false_iff]
  right
  rw [List.all_eq_false]
  exact ⟨j, by simpa using hj, by simp [h]⟩
theorem mayH_yes {W : Int} {n : Nat} {f : Nat → Nat} (h : ∀ j, j < n → isw false false W (f j : Nat) = true) : mayH W n f = may false false W := by
  unfold mayH
  rw [List.all_eq_true.2 (fun x hx => h x (by simpa using hx)), Bool.and_true]
theorem may_iff (W : Int) : may false false W = true ↔ 1 ≤ W ∧ W ≤ 64 := by simp [may]
theorem isw_iff {W : Nat} (hW : 1 ≤ W ∧ W ≤ 64) (x : Nat) : isw false false (W : Int) (x : Int) = true ↔ x < 2 ^ W := by
  constructor
  · intro h
    obtain ⟨-, -, -, h4⟩ := isw_bd h
    rw [Int.toNat_natCast] at h4
    exact_mod_cast h4
  · intro h
    exact isw_mk ((may_iff _).2 (by omega)) (by omega) (by rw [Int.toNat_natCast]; exact_mod_cast h)
theorem mayH_iff {W n : Nat} {f : Nat → Nat} : mayH (W : Int) n f = true ↔ (1 ≤ W ∧ W ≤ 64) ∧ ∀ i, i < n → f i < 2 ^ W := by
  unfold mayH
  rw [Bool.and_eq_true, may_iff, List.all_eq_true]
  constructor
  · rintro ⟨h1, h2⟩
    have h1' : 1 ≤ W ∧ W ≤ 64 := by omega
    exact ⟨h1', fun i hi => (isw_iff h1' _).1 (h2 i (by simpa using hi))⟩
  · rintro ⟨h1, h2⟩
    exact ⟨by omega, fun i hi => (isw_iff h1 _).2 (h2 i (by simpa using hi))⟩
end Go.Proofs.YtnhpjacodhdpeaaDoor
