/-
  Tables plainly: one number changed; cut short twice; what the law on differing asks.
-/
import Derived.Test.YtnhpjacodhdpeaaDoorTrS
import Derived.Test.YtnhpjacodhdpeaaDoorTrQ
namespace Go.Proofs.YtnhpjacodhdpeaaDoor
open Go.RowKit Go.Maps Bits
set_option maxRecDepth 100000

def setR (R : List (List Int)) (i k : Nat) (x : Int) : List (List Int) := R.set i ((R.getD i []).set k x)
theorem setR_len (R : List (List Int)) (i k : Nat) (x : Int) : (setR R i k x).length = R.length := by simp [setR]
theorem setR_row (R : List (List Int)) (i k : Nat) (x : Int) (j : Nat) : (setR R i k x).getD j [] = if j = i ∧ i < R.length then (R.getD i []).set k x else R.getD j [] := by
  unfold setR
  by_cases h : j = i
  · subst h
    by_cases hl : j < R.length
    · simp [List.getD, hl]
    · simp [List.getD, hl]
  · have h' : ¬ i = j := fun e => h e.symm
    simp [List.getD, h', h]
theorem setR_rowlen (R : List (List Int)) (i k : Nat) (x : Int) (j : Nat) : ((setR R i k x).getD j []).length = (R.getD j []).length := by
  rw [setR_row]
  by_cases h : j = i ∧ i < R.length
  · rw [if_pos h, List.length_set, h.1]
  · rw [if_neg h]
theorem setR_col (R : List (List Int)) (i k : Nat) (x : Int) (hi : i < R.length) (hk : k < (R.getD i []).length) (j q : Nat) : colF (setR R i k x) q j = if j = i ∧ q = k then x else colF R q j := by
  unfold colF
  rw [setR_row]
  by_cases h : j = i
  · subst h
    rw [if_pos ⟨rfl, hi⟩]
    generalize R.getD j [] = l at *
    by_cases hq : q = k
    · subst hq; simp [List.getD, hk]
    · have hq' : ¬ k = q := fun e => hq e.symm
      simp [List.getD, hq', hq]
  · rw [if_neg (fun e => h e.1), if_neg (fun e => h e.1)]

theorem fewL_two (L : List TB) : fewL (fewL L) = fewL L := by
  unfold fewL
  rw [List.take_of_length_le (by rw [List.length_map, List.length_take]; omega), List.map_map]
  apply List.map_congr_left
  intro b _
  show cutB (cutB b) = cutB b
  unfold cutB
  have : cutS (cutS b.name) = cutS b.name := by
    unfold cutS
    generalize hm : b.name.extract 0 (min b.name.size 40) = t
    have ht : t.size ≤ 40 := by rw [← hm]; simp; omega
    rw [Nat.min_eq_left ht]; simp
  rw [this]
theorem fewR_two (R : List (List Int)) : fewR (fewR R) = fewR R := by
  unfold fewR
  rw [List.take_of_length_le (by rw [List.length_map, List.length_take]; omega), List.map_map]
  apply List.map_congr_left
  intro r _
  show (r.take 25).take 25 = r.take 25
  rw [List.take_take, Nat.min_self]

section
variable {L K : List TB} {R S : List (List Int)} {r b : Int} {is : Bool} {i k : Nat}
theorem DifP.bad (h : DifP L R K S r b is) (hok : okD L K R S = false) : is = true := by
  rcases h with ⟨-, -, -, h⟩ | ⟨h, -⟩ | ⟨h, -⟩
  · exact h
  · rw [hok] at h; cases h
  · rw [hok] at h; cases h
theorem DifP.one (h : DifP L R L S r b is) (hok : okD L L R S = true) (hl : R.length = S.length) (hi : i < R.length) (hk : k < L.length)
    (hag : ∀ i' k', i' < R.length → k' < L.length → ¬ (i' = i ∧ k' = k) → AgR R S i' k') :
    (AgR R S i k → r = 0 ∧ b = 0 ∧ is = false) ∧ (¬ AgR R S i k → r = i ∧ b = k ∧ is = true) := by
  rcases h with ⟨h, -⟩ | ⟨-, i2, k2, h1, h2, h3, rfl, rfl, rfl, h4, h5, h6⟩ | ⟨-, h1, h2⟩
  · rw [hok] at h; cases h
  · have he : i2 = i ∧ k2 = k := by
      apply Classical.byContradiction
      intro hn
      exact h4 (hag i2 k2 h1 h3 hn)
    obtain ⟨rfl, rfl⟩ := he
    exact ⟨fun e => absurd e h4, fun _ => ⟨rfl, rfl, rfl⟩⟩
  · have e := h1 i hi (by omega) k hk
    rcases h2 with ⟨h2, -⟩ | ⟨-, rfl, rfl, rfl⟩
    · exact absurd hl h2
    · exact ⟨fun _ => ⟨rfl, rfl, rfl⟩, fun hn => absurd e hn⟩
theorem DifP.same (h : DifP L R L R r b is) (hok : okD L L R R = true) : r = 0 ∧ b = 0 ∧ is = false := by
  rcases h with ⟨h, -⟩ | ⟨-, i2, k2, h1, h2, h3, rfl, rfl, rfl, h4, h5, h6⟩ | ⟨-, h1, h2⟩
  · rw [hok] at h; cases h
  · exact absurd rfl h4
  · rcases h2 with ⟨h2, -⟩ | ⟨-, rfl, rfl, rfl⟩
    · exact absurd rfl h2
    · exact ⟨rfl, rfl, rfl⟩
theorem DifP.less (h : DifP L R L (R.take (R.length - 1)) r b is) (hok : okD L L R (R.take (R.length - 1)) = true) (hn : 0 < R.length) : r = ((R.length - 1 : Nat) : Int) ∧ b = 0 ∧ is = true := by
  have hlen : (R.take (R.length - 1)).length = R.length - 1 := by rw [List.length_take]; omega
  rcases h with ⟨h, -⟩ | ⟨-, i2, k2, h1, h2, h3, rfl, rfl, rfl, h4, h5, h6⟩ | ⟨-, h1, h2⟩
  · rw [hok] at h; cases h
  · refine absurd ?_ h4
    rw [hlen] at h2
    have e : (R.take (R.length - 1)).getD i2 [] = R.getD i2 [] := by rw [List.getD_eq_getElem?_getD, List.getElem?_take_of_lt h2, ← List.getD_eq_getElem?_getD]
    unfold AgR colF
    rw [e]
  · rcases h2 with ⟨-, rfl, rfl, rfl⟩ | ⟨h2, -⟩
    · refine ⟨by rw [hlen, Nat.min_eq_right (by omega)], rfl, rfl⟩
    · omega
end
theorem sameB_self (L : List TB) : sameB L L = true := by
  unfold sameB
  rw [Bool.and_eq_true]
  refine ⟨by simp, range_all (fun i hi => ?_)⟩
  rw [Bool.and_eq_true]
  exact ⟨sameS_iff.2 rfl, by simp⟩
theorem okD_of {L : List TB} {R S : List (List Int)} (h : mayT L R = true) (k : mayT L S = true) : okD L L R S = true := by
  unfold okD; rw [sameB_self, h, k]; rfl
theorem mayT_mk {L : List TB} {R : List (List Int)} (h1 : busesT L = true) (h2 : R.length ≤ 4096) (h3 : ∀ i, i < R.length → (R.getD i []).length = L.length ∧ ∀ k, k < L.length → (R.getD i []).getD k 0 ≤ topT (L.getD k tb0).width) : mayT L R = true := by
  unfold mayT
  rw [h1, Bool.true_and, Bool.and_eq_true]
  refine ⟨by simpa using h2, range_all (fun i hi => ?_)⟩
  obtain ⟨e1, e2⟩ := h3 i hi
  unfold fitsL
  rw [Bool.and_eq_true]
  refine ⟨by rw [tops_len]; simpa using e1, range_all (fun k hk => ?_)⟩
  rw [tops_at _ _ (by omega)]
  simpa using e2 k (by omega)
/-- A number that fits, written over one of them. -/
theorem mayT_set {L : List TB} {R : List (List Int)} {i k : Nat} {x : Int} (h : mayT L R = true) (hi : i < R.length) (hk : k < L.length) (hx : x ≤ topT (L.getD k tb0).width) : mayT L (setR R i k x) = true := by
  obtain ⟨h1, h2, h3⟩ := mayT_of h
  refine mayT_mk h1 (by rw [setR_len]; exact h2) (fun j hj => ?_)
  rw [setR_len] at hj
  obtain ⟨e1, e2⟩ := h3 j hj
  refine ⟨by rw [setR_rowlen]; exact e1, fun q hq => ?_⟩
  have := setR_col R i k x hi (by rw [(h3 i hi).1]; exact hk) j q
  unfold colF at this
  rw [this]
  by_cases e : j = i ∧ q = k
  · rw [if_pos e, e.2]; exact hx
  · rw [if_neg e]; exact e2 q hq
theorem mayT_take {L : List TB} {R : List (List Int)} (h : mayT L R = true) (m : Nat) : mayT L (R.take m) = true := by
  obtain ⟨h1, h2, h3⟩ := mayT_of h
  refine mayT_mk h1 (by rw [List.length_take]; omega) (fun j hj => ?_)
  rw [List.length_take] at hj
  have e : (R.take m).getD j [] = R.getD j [] := by rw [List.getD_eq_getElem?_getD, List.getElem?_take_of_lt (by omega), ← List.getD_eq_getElem?_getD]
  rw [e]
  exact h3 j (by omega)
theorem mask_nat : ∀ k, k < 65 → 18446744073709551615 % 2 ^ k = 2 ^ k - 1 ∧ 18446744073709551615 / 2 ^ (64 - k) = 2 ^ k - 1 := by decide +kernel
theorem topT_eq {k : Nat} (h1 : 1 ≤ k) (h2 : k ≤ 64) : topT (k : Int) = ((2 ^ k - 1 : Nat) : Int) := by
  have := (mask_nat k (by omega)).1
  unfold topT cut
  have hm : may false false (k : Int) = true := by unfold may; simp; omega
  rw [if_pos hm, ← this]
  simp
/-- A number changed under the mask fits as before. -/
theorem mask_fits {k o y : Nat} (h1 : 1 ≤ k) (h2 : k ≤ 64) (ho : (o : Int) ≤ topT (k : Int)) : ((o ^^^ (y &&& (2 ^ k - 1)) : Nat) : Int) ≤ topT (k : Int) := by
  rw [topT_eq h1 h2] at ho ⊢
  have hp : 0 < 2 ^ k := Nat.two_pow_pos k
  have ho' : o < 2 ^ k := by omega
  have hy : y &&& (2 ^ k - 1) < 2 ^ k := Nat.lt_of_le_of_lt Nat.and_le_right (by omega)
  have := Nat.xor_lt_two_pow ho' hy
  omega
theorem atT_self {L : List TB} {k : Nat} (h : busesT L = true) (hk : k < L.length) : atT L (L.getD k tb0).name = some k := by
  refine atT_hit hk (sameS_iff.2 rfl) (fun i hi => ?_)
  have hn := ((busesT_of h).2.2 k hk).2.2.2
  unfold atT at hn
  rw [Option.isNone_iff_eq_none, List.findIdx?_eq_none_iff] at hn
  have := hn (L.getD i tb0) (by
    rw [List.getD_eq_getElem?_getD, List.getElem?_eq_getElem (show i < L.length by omega)]
    exact List.mem_take_iff_getElem.2 ⟨i, by omega, rfl⟩)
  simpa using this
theorem colT_self {L : List TB} {R : List (List Int)} {k : Nat} (h : mayT L R = true) (hk : k < L.length) : colT L R (L.getD k tb0).name = some (row R.length (colF R k)) := by
  unfold colT; rw [atT_self (mayT_of h).1 hk, h]; rfl
theorem sameR_ag {L : List TB} {R S : List (List Int)} (h : mayT L R = true) (k : mayT L S = true) (hl : R.length = S.length) : sameR R S = true ↔ ∀ i k', i < R.length → k' < L.length → AgR R S i k' := by
  have hR := (mayT_of h).2.2
  have hS := (mayT_of k).2.2
  unfold sameR
  rw [Bool.and_eq_true]
  constructor
  · rintro ⟨-, h2⟩ i q hi hq
    have := range_of h2 i hi
    unfold sameL at this
    rw [Bool.and_eq_true] at this
    have := range_of this.2 q (by rw [(hR i hi).1]; exact hq)
    simpa [AgR, colF] using this
  · intro hag
    refine ⟨by simpa using hl, range_all (fun i hi => ?_)⟩
    unfold sameL
    rw [Bool.and_eq_true]
    refine ⟨by rw [(hR i hi).1, (hS i (by omega)).1]; simp, range_all (fun q hq => ?_)⟩
    have := hag i q hi (by rw [← (hR i hi).1]; exact hq)
    unfold AgR colF at this
    simpa using this
end Go.Proofs.YtnhpjacodhdpeaaDoor
