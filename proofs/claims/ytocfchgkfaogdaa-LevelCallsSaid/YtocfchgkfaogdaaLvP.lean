/-
  Heaps plainly: a row of numbers, each at least as great as its parent; up, down.
-/
import Derived.Test.YtocfchgkfaogdaaBits
namespace Go.Proofs.Ytocfchgkfaogdaa
open Go.RowKit

theorem getD_set (l : List Int) (i j : Nat) (x : Int) : (l.set i x).getD j 0 = if i = j ∧ i < l.length then x else l.getD j 0 := by
  simp only [List.getD_eq_getElem?_getD, List.getElem?_set]
  by_cases h : i = j
  · subst h
    by_cases h2 : i < l.length
    · simp [h2]
    · simp [h2]
  · simp [h]
def swp (l : List Int) (i j : Nat) : List Int := (l.set i (l.getD j 0)).set j (l.getD i 0)
theorem swp_len (l : List Int) (i j : Nat) : (swp l i j).length = l.length := by simp [swp]
theorem swp_get (l : List Int) {i j : Nat} (hi : i < l.length) (hj : j < l.length) (k : Nat) : (swp l i j).getD k 0 = if k = j then l.getD i 0 else if k = i then l.getD j 0 else l.getD k 0 := by
  unfold swp
  rw [getD_set, getD_set]
  simp only [List.length_set]
  by_cases h1 : k = j
  · subst h1; simp [hj]
  · rw [if_neg (by omega), if_neg h1]
    by_cases h2 : k = i
    · subst h2; simp [hi]
    · rw [if_neg (by omega), if_neg h2]
theorem swp_perm (l : List Int) {i j : Nat} (hi : i < l.length) (hj : j < l.length) : (swp l i j).Perm l := by
  unfold swp
  have e1 : l.getD j 0 = l[j] := by simp [List.getD, hj]
  have e2 : l.getD i 0 = l[i] := by simp [List.getD, hi]
  rw [e1, e2]
  exact List.set_set_perm hi hj

def IsHeap (l : List Int) : Prop := ∀ k, 0 < k → k < l.length → l.getD ((k - 1) / 2) 0 ≤ l.getD k 0
theorem IsHeap.least {l : List Int} (h : IsHeap l) : ∀ k, k < l.length → l.getD 0 0 ≤ l.getD k 0 := by
  intro k
  induction k using Nat.strongRecOn with
  | ind k ih =>
    intro hk
    by_cases h0 : k = 0
    · subst h0; exact Int.le_refl _
    · exact Int.le_trans (ih ((k - 1) / 2) (by omega) (by omega)) (h k (by omega) hk)
/-- A heap but for one place against its parent. -/
def UpAt (l : List Int) (j : Nat) : Prop := (∀ k, 0 < k → k < l.length → k ≠ j → l.getD ((k - 1) / 2) 0 ≤ l.getD k 0) ∧ (0 < j → ∀ k, 0 < k → k < l.length → (k - 1) / 2 = j → l.getD ((j - 1) / 2) 0 ≤ l.getD k 0)
theorem UpAt.push {l : List Int} (h : IsHeap l) (x : Int) : UpAt (l ++ [x]) l.length := by
  have e : ∀ k, k < l.length → (l ++ [x]).getD k 0 = l.getD k 0 := fun k hk => by simp [List.getD, List.getElem?_append, hk]
  refine ⟨fun k h0 hk hn => ?_, fun _ k h0 hk hp => ?_⟩
  · simp at hk
    rw [e _ (by omega), e _ (by omega)]
    exact h k h0 (by omega)
  · simp at hk; omega
theorem UpAt.done0 {l : List Int} (h : UpAt l 0) : IsHeap l := fun k h0 hk => h.1 k h0 hk (by omega)
theorem UpAt.done {l : List Int} {j : Nat} (h : UpAt l j) (hle : l.getD ((j - 1) / 2) 0 ≤ l.getD j 0) : IsHeap l := fun k h0 hk => by
  by_cases e : k = j
  · subst e; exact hle
  · exact h.1 k h0 hk e
theorem UpAt.step {l : List Int} {j : Nat} (h : UpAt l j) (h0 : 0 < j) (hj : j < l.length) (hlt : l.getD j 0 < l.getD ((j - 1) / 2) 0) : UpAt (swp l ((j - 1) / 2) j) ((j - 1) / 2) := by
  have hi : (j - 1) / 2 < l.length := by omega
  have G := swp_get l hi hj
  refine ⟨fun k hk0 hk hn => ?_, fun hi0 k hk0 hk hp => ?_⟩
  · rw [swp_len] at hk
    rw [G, G]
    by_cases e : k = j
    · subst e
      rw [if_neg (show ¬ (k - 1) / 2 = k by omega), if_pos rfl, if_pos rfl]
      omega
    · rw [if_neg e, if_neg hn]
      by_cases e2 : (k - 1) / 2 = j
      · rw [if_pos e2]; exact h.2 h0 k hk0 hk e2
      · rw [if_neg e2]
        by_cases e3 : (k - 1) / 2 = (j - 1) / 2
        · rw [if_pos e3]
          have := h.1 k hk0 hk e
          rw [e3] at this
          omega
        · rw [if_neg e3]; exact h.1 k hk0 hk e
  · rw [swp_len] at hk
    rw [G, G]
    rw [if_neg (by omega), if_neg (by omega)]
    have hpp := h.1 ((j - 1) / 2) hi0 hi (by omega)
    by_cases e : k = j
    · subst e; rw [if_pos rfl]; exact hpp
    · rw [if_neg e]
      by_cases e2 : k = (j - 1) / 2
      · omega
      · rw [if_neg e2]
        have := h.1 k hk0 hk e
        rw [hp] at this
        omega

/-- The first n are a heap but for one place against its children. -/
def DnAt (l : List Int) (n i : Nat) : Prop := (∀ k, 0 < k → k < n → (k - 1) / 2 ≠ i → l.getD ((k - 1) / 2) 0 ≤ l.getD k 0) ∧ (0 < i → ∀ k, 0 < k → k < n → (k - 1) / 2 = i → l.getD ((i - 1) / 2) 0 ≤ l.getD k 0)
theorem DnAt.start {l : List Int} {m : Nat} (h : IsHeap l) (hl : l.length = m + 1) : DnAt (swp l 0 m) m 0 := by
  have G := swp_get l (i := 0) (j := m) (by omega) (by omega)
  refine ⟨fun k h0 hk hn => ?_, fun h0 => by omega⟩
  rw [G, G, if_neg (by omega), if_neg (by omega), if_neg (by omega), if_neg (by omega)]
  exact h k h0 (by omega)
theorem DnAt.stop {l : List Int} {n i : Nat} (h : DnAt l n i) (h1 : 2 * i + 1 < n → l.getD i 0 ≤ l.getD (2 * i + 1) 0) (h2 : 2 * i + 2 < n → l.getD i 0 ≤ l.getD (2 * i + 2) 0) : ∀ k, 0 < k → k < n → l.getD ((k - 1) / 2) 0 ≤ l.getD k 0 := by
  intro k h0 hk
  by_cases e : (k - 1) / 2 = i
  · rcases (show k = 2 * i + 1 ∨ k = 2 * i + 2 by omega) with rfl | rfl
    · rw [e]; exact h1 hk
    · rw [e]; exact h2 hk
  · exact h.1 k h0 hk e
theorem DnAt.step {l : List Int} {n i j : Nat} (h : DnAt l n i) (hn : n ≤ l.length) (hj : j = 2 * i + 1 ∨ j = 2 * i + 2) (hjn : j < n) (hlt : l.getD j 0 < l.getD i 0) (hm : ∀ k, (k = 2 * i + 1 ∨ k = 2 * i + 2) → k < n → l.getD j 0 ≤ l.getD k 0) : DnAt (swp l i j) n j := by
  have G := swp_get l (i := i) (j := j) (by omega) (by omega)
  refine ⟨fun k h0 hk hn2 => ?_, fun _ k h0 hk hp => ?_⟩
  · rw [G, G, if_neg hn2]
    by_cases e : (k - 1) / 2 = i
    · rw [if_pos e]
      by_cases e2 : k = j
      · subst e2; rw [if_pos rfl]; omega
      · rw [if_neg e2, if_neg (by omega)]
        exact hm k (by omega) hk
    · rw [if_neg e]
      by_cases e2 : k = i
      · subst e2
        rw [if_neg (by omega), if_pos rfl]
        exact h.2 h0 j (by omega) hjn (by omega)
      · rw [if_neg (by rintro rfl; omega), if_neg e2]
        exact h.1 k h0 hk e
  · have e : (j - 1) / 2 = i := by omega
    rw [e, G, G, if_neg (by omega), if_pos rfl, if_neg (by omega), if_neg (by omega)]
    have := h.1 k h0 hk (by omega)
    rw [hp] at this
    exact this
/-- What is left behind the first is taken. -/
theorem pop_perm {l l' : List Int} {m : Nat} (hl : l.length = m + 1) (hp : l'.Perm l) (hm : l'.getD m 0 = l.getD 0 0) : l.Perm (l.getD 0 0 :: l'.take m) := by
  have hl' : l'.length = m + 1 := by rw [hp.length_eq, hl]
  have e : l' = l'.take m ++ [l'.getD m 0] := by
    have := List.take_append_drop m l'
    have hd : l'.drop m = [l'.getD m 0] := by
      rw [List.drop_eq_getElem_cons (by omega), List.drop_eq_nil_of_le (by omega)]
      simp [List.getD, hl']
    rw [hd] at this; exact this.symm
  rw [hm] at e
  refine hp.symm.trans ?_
  conv => lhs; rw [e]
  exact List.perm_append_comm
theorem isHeap_take {l : List Int} {m : Nat} (hm : m ≤ l.length) (h : ∀ k, 0 < k → k < m → l.getD ((k - 1) / 2) 0 ≤ l.getD k 0) : IsHeap (l.take m) := by
  intro k h0 hk
  have hk' : k < m := by simp at hk; omega
  have e : ∀ j, j < m → (l.take m).getD j 0 = l.getD j 0 := fun j hj => by simp [List.getD, List.getElem?_take, hj]
  rw [e _ (by omega), e _ hk']
  exact h k h0 hk'
end Go.Proofs.Ytocfchgkfaogdaa
