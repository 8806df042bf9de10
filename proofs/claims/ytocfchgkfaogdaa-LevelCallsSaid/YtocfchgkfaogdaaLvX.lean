/-
  The round, plainly.
-/
import Derived.Test.YtocfchgkfaogdaaShh
import Derived.WalkMore
namespace Go.Proofs.Ytocfchgkfaogdaa
open Go.RowKit Go.Maps Go.Sort

theorem getD_at {l : List Int} {p : Nat} (h : p < l.length) : l.getD p 0 = l[p] := by
  rw [List.getD_eq_getElem?_getD, List.getElem?_eq_getElem h]; rfl
def lf (N : List (List Int)) (i : Nat) : Bool := decide (i < N.length) && !((told N).contains i)
theorem lf_iff {N : List (List Int)} {i : Nat} : lf N i = true ↔ i < N.length ∧ i ∉ told N := by simp [lf]
/-- The least that is left, of some numbers. -/
def lst (N : List (List Int)) (l : List Int) : Option Nat := (List.range N.length).find? (fun i => lf N i && l.contains (i : Int))
theorem lst_some {N : List (List Int)} {l : List Int} {x : Nat} : lst N l = some x ↔ lf N x = true ∧ (x : Int) ∈ l ∧ ∀ j, j < x → lf N j = true → (j : Int) ∉ l := by
  unfold lst
  rw [List.find?_range_eq_some]
  constructor
  · rintro ⟨h1, h2, h3⟩
    have h1' : lf N x = true ∧ (x : Int) ∈ l := by simpa using h1
    refine ⟨h1'.1, h1'.2, fun j hj hl hm => ?_⟩
    have := h3 j hj
    simp [hl, hm] at this
  · rintro ⟨h1, h2, h3⟩
    refine ⟨by simp [h1, h2], by simpa using (lf_iff.1 h1).1, fun j hj => ?_⟩
    by_cases hl : lf N j = true
    · have := h3 j hj hl
      simp [hl, this]
    · simp [hl]
theorem lst_none {N : List (List Int)} {l : List Int} : lst N l = none ↔ ∀ j, lf N j = true → (j : Int) ∉ l := by
  unfold lst
  rw [List.find?_eq_none]
  constructor
  · intro h j hl hm
    have := h j (by simpa using (lf_iff.1 hl).1)
    simp [hl, hm] at this
  · intro h j hj
    by_cases hl : lf N j = true
    · have := h j hl; simp [hl, this]
    · simp [hl]
theorem sort_mem {l : List Int} (x : Int) : x ∈ l.mergeSort leI ↔ x ∈ l := (List.mergeSort_perm l leI).mem_iff
theorem sort_le {l : List Int} {i j : Nat} (hij : i < j) (hj : j < (l.mergeSort leI).length) : (l.mergeSort leI)[i] ≤ (l.mergeSort leI)[j] := by
  have tr : ∀ a b c : Int, leI a b = true → leI b c = true → leI a c = true := fun a b c h1 h2 => by simp only [leI, decide_eq_true_eq] at *; exact Int.le_trans h1 h2
  have tt : ∀ a b : Int, (leI a b || leI b a) = true := fun a b => by simp only [leI, Bool.or_eq_true, decide_eq_true_eq]; exact Int.le_total a b
  have := List.pairwise_iff_getElem.1 (List.pairwise_mergeSort tr tt l) i j (by omega) hj hij
  simpa [leI] using this
/-- The first in order that is left is the least. -/
theorem lst_scan {N : List (List Int)} {l : List Int} {t x : Nat} (ht : t < (l.mergeSort leI).length) (hx : (l.mergeSort leI)[t] = (x : Int)) (hl : lf N x = true) (hn : ∀ i, i < t → ∀ j : Nat, (l.mergeSort leI).getD i 0 = (j : Int) → lf N j = false) : lst N l = some x := by
  rw [lst_some]
  refine ⟨hl, (sort_mem _).1 (hx ▸ List.getElem_mem ht), fun j hj hlj hm => ?_⟩
  obtain ⟨p, hp, e⟩ := List.getElem_of_mem ((sort_mem (j : Int)).2 hm)
  rcases Nat.lt_trichotomy p t with h | h | h
  · have := hn p h j (by rw [getD_at hp, e])
    rw [hlj] at this; cases this
  · subst h; rw [hx] at e; omega
  · have := sort_le h hp
    rw [hx, e] at this; omega
theorem lst_scan_none {N : List (List Int)} {l : List Int} (hn : ∀ i, i < (l.mergeSort leI).length → ∀ j : Nat, (l.mergeSort leI).getD i 0 = (j : Int) → lf N j = false) : lst N l = none := by
  rw [lst_none]
  intro j hl hm
  obtain ⟨p, hp, e⟩ := List.getElem_of_mem ((sort_mem (j : Int)).2 hm)
  have := hn p hp j (by rw [getD_at hp, e])
  rw [hl] at this; cases this

def rg (N : List (List Int)) : Nat → List Nat → Option Nat → List Nat
  | 0, way, _ => way
  | _ + 1, way, none => way
  | k + 1, way, some x => if x ∈ way then way.drop (way.idxOf x) else rg N k (way ++ [x]) (lst N (N.getD x []))
def rndL (N : List (List Int)) : List Nat := rg N (N.length + 1) [] (lst N (iz (List.range N.length)))
def rndN (N : List (List Int)) : List Nat := if mayN N = true then rndL N else []
/-- One that is left needs one that is left. -/
theorem left_needs {N : List (List Int)} (hm : mayN N = true) {x : Nat} (hx : lf N x = true) : (lst N (N.getD x [])).isSome = true := by
  have h1 := lf_iff.1 hx
  have h2 := nxt_none.1 (told_end N) x h1.1
  cases h : lst N (N.getD x []) with
  | some _ => rfl
  | none =>
    rw [lst_none] at h
    have : free N (told N) x = true := by
      rw [free_iff]
      refine ⟨h1.2, fun k hk => ?_⟩
      by_cases hkt : k ∈ told N
      · exact hkt
      · obtain ⟨p, hp, e⟩ := List.getElem_of_mem hk
        have hp' : p < (N.getD x []).length := by rw [← nd_len]; exact hp
        have hg := may_get hm hp'
        have e2 : (nd N x).getD p 0 = k := by simp [List.getD, hp, e]
        rw [e2] at hg
        exact absurd (hg.1 ▸ getD_mem hp') (h k (lf_iff.2 ⟨hg.2, hkt⟩))
    rw [this] at h2; cases h2
/-- Where the way stands. -/
structure WI (N : List (List Int)) (way : List Nat) (l0 : List Int) : Prop where
  nodup : way.Nodup
  left : ∀ x ∈ way, lf N x = true
  rg : Ytocfchgkfaogdaa.rg N (N.length + 1 - way.length) way (lst N l0) = rndL N
  is : (lst N l0).isSome = true
  nat : ∀ z ∈ l0, ∃ k : Nat, z = (k : Int) ∧ k < N.length
theorem WI.len {N : List (List Int)} {way : List Nat} {l0 : List Int} (h : WI N way l0) : way.length ≤ N.length := nodup_le _ _ h.nodup (fun x hx => (lf_iff.1 (h.left x hx)).1)
theorem row_nat {N : List (List Int)} (hm : mayN N = true) {x : Nat} : ∀ z ∈ N.getD x [], ∃ k : Nat, z = (k : Int) ∧ k < N.length := by
  intro z hz
  obtain ⟨p, hp, e⟩ := List.getElem_of_mem hz
  have := may_get hm hp
  rw [getD_at hp, e] at this
  exact ⟨_, this.1, this.2⟩
theorem WI.next {N : List (List Int)} {way : List Nat} {l0 : List Int} (h : WI N way l0) (hm : mayN N = true) {x : Nat} (hx : lst N l0 = some x) (hn : x ∉ way) : WI N (way ++ [x]) (N.getD x []) := by
  have hl := (lst_some.1 hx).1
  have hlen := h.len
  refine ⟨?_, fun y hy => ?_, ?_, left_needs hm hl, row_nat hm⟩
  · rw [List.nodup_append]
    exact ⟨h.nodup, by simp, fun a ha b hb => by simp at hb; subst hb; rintro rfl; exact hn ha⟩
  · rcases List.mem_append.1 hy with hy | hy
    · exact h.left y hy
    · simp at hy; subst hy; exact hl
  · have h1 := h.rg
    rw [hx, show N.length + 1 - way.length = (N.length - way.length) + 1 by omega] at h1
    have h2 : Ytocfchgkfaogdaa.rg N (N.length - way.length + 1) way (some x) = Ytocfchgkfaogdaa.rg N (N.length - way.length) (way ++ [x]) (lst N (N.getD x [])) := by
      show (if x ∈ way then _ else _) = _
      rw [if_neg hn]
    rw [h2] at h1
    rw [List.length_append, List.length_singleton, show N.length + 1 - (way.length + 1) = N.length - way.length by omega]
    exact h1
theorem WI.back {N : List (List Int)} {way : List Nat} {l0 : List Int} (h : WI N way l0) {x : Nat} (hx : lst N l0 = some x) (hn : x ∈ way) : rndL N = way.drop (way.idxOf x) := by
  have hlen := h.len
  have h1 := h.rg
  rw [hx, show N.length + 1 - way.length = (N.length - way.length) + 1 by omega] at h1
  have h2 : Ytocfchgkfaogdaa.rg N (N.length - way.length + 1) way (some x) = way.drop (way.idxOf x) := by
    show (if x ∈ way then _ else _) = _
    rw [if_pos hn]
  rw [← h1, h2]
theorem WI.start {N : List (List Int)} {l0 : List Int} {ks : List Nat} (hk : ∀ i, i ∈ ks ↔ i < N.length ∧ i ∉ told N) (h0 : ∀ z, z ∈ l0 ↔ ∃ k ∈ ks, z = (k : Int)) (hne : 0 < ks.length) : WI N [] l0 := by
  have e : lst N l0 = lst N (iz (List.range N.length)) := by
    unfold lst
    congr 1
    funext i
    by_cases hl : lf N i = true
    · have h1 := lf_iff.1 hl
      have a : (i : Int) ∈ l0 := (h0 _).2 ⟨i, (hk i).2 h1, rfl⟩
      have b : (i : Int) ∈ iz (List.range N.length) := List.mem_map.2 ⟨i, by simpa using h1.1, rfl⟩
      simp [hl, a, b]
    · simp [hl]
  refine ⟨List.nodup_nil, fun x h => by simp at h, ?_, ?_, fun z hz => ?_⟩
  · show Ytocfchgkfaogdaa.rg N (N.length + 1 - 0) [] (lst N l0) = rndL N
    rw [e]; rfl
  · cases h : lst N l0 with
    | some _ => rfl
    | none =>
      rw [lst_none] at h
      obtain ⟨a, ha⟩ := List.exists_mem_of_length_pos hne
      exact absurd ((h0 _).2 ⟨a, ha, rfl⟩) (h a (lf_iff.2 ((hk a).1 ha)))
  · obtain ⟨k, hk1, e⟩ := (h0 z).1 hz
    exact ⟨k, e, ((hk k).1 hk1).1⟩
/-- None is left: no round. -/
theorem rnd_none {N : List (List Int)} {ks : List Nat} (hk : ∀ i, i ∈ ks ↔ i < N.length ∧ i ∉ told N) (h0 : ks.length = 0) : rndL N = [] := by
  have hks : ks = [] := List.eq_nil_of_length_eq_zero h0
  have e : lst N (iz (List.range N.length)) = none := by
    rw [lst_none]
    intro j hl
    have := (hk j).2 (lf_iff.1 hl)
    rw [hks] at this; simp at this
  unfold rndL
  rw [e]; rfl
end Go.Proofs.Ytocfchgkfaogdaa
