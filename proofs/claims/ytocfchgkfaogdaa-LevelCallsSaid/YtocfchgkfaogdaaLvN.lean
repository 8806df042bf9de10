/-
  What is told in order, plainly; the state of what is told, and what is left.
-/
import Derived.Test.YtocfchgkfaogdaaLvL
namespace Go.Proofs.Ytocfchgkfaogdaa
open Go.RowKit

def nd (N : List (List Int)) (i : Nat) : List Nat := (N.getD i []).map Int.toNat
def free (N : List (List Int)) (T : List Nat) (i : Nat) : Bool := !(T.contains i) && (nd N i).all (fun k => T.contains k)
def nxt (N : List (List Int)) (T : List Nat) : Option Nat := (List.range N.length).find? (free N T)
def stepT (N : List (List Int)) (T : List Nat) : List Nat := match nxt N T with | none => T | some i => T ++ [i]
def toldK (N : List (List Int)) : Nat → List Nat
  | 0 => []
  | k + 1 => stepT N (toldK N k)
/-- All that can be told, in order. -/
def told (N : List (List Int)) : List Nat := toldK N N.length

theorem getD_mem {l : List Int} {p : Nat} (h : p < l.length) : l.getD p 0 ∈ l := by
  rw [List.getD_eq_getElem?_getD, List.getElem?_eq_getElem h]; exact List.getElem_mem h
theorem getD_toNat {l : List Int} {p : Nat} (h : p < l.length) : (l.map Int.toNat).getD p 0 = (l.getD p 0).toNat := by
  rw [List.getD_eq_getElem?_getD, List.getD_eq_getElem?_getD, List.getElem?_map, List.getElem?_eq_getElem h]; rfl
theorem nodup_le : ∀ (n : Nat) (T : List Nat), T.Nodup → (∀ i ∈ T, i < n) → T.length ≤ n
  | 0, T, _, h => by
    cases T with
    | nil => simp
    | cons a T => have := h a (by simp); omega
  | n + 1, T, hn, h => by
    by_cases hm : n ∈ T
    · have h1 := nodup_le n (T.erase n) (hn.erase n) (fun i hi => by
        rw [hn.mem_erase_iff] at hi
        have := h i hi.2; omega)
      rw [List.length_erase_of_mem hm] at h1
      omega
    · have h1 := nodup_le n T hn (fun i hi => by
        have := h i hi
        have : i ≠ n := by rintro rfl; exact hm hi
        omega)
      omega
theorem nodup_full {n : Nat} {T : List Nat} (hn : T.Nodup) (h : ∀ i ∈ T, i < n) (hl : T.length = n) {i : Nat} (hi : i < n) : i ∈ T := by
  by_cases hm : i ∈ T
  · exact hm
  · have := nodup_le n (i :: T) (List.nodup_cons.2 ⟨hm, hn⟩) (fun j hj => by
      rcases List.mem_cons.1 hj with rfl | hj
      · exact hi
      · exact h j hj)
    simp at this; omega
theorem nd_len (N : List (List Int)) (i : Nat) : (nd N i).length = (N.getD i []).length := by simp [nd]
theorem may_get {N : List (List Int)} (h : mayN N = true) {i p : Nat} (hp : p < (N.getD i []).length) : (N.getD i []).getD p 0 = (((nd N i).getD p 0 : Nat) : Int) ∧ (nd N i).getD p 0 < N.length := by
  have hi : i < N.length := by
    by_cases hi : i < N.length
    · exact hi
    · rw [show N.getD i [] = [] by rw [List.getD_eq_getElem?_getD, List.getElem?_eq_none (by omega)]; rfl] at hp
      simp at hp
  have h1 := List.all_eq_true.1 h N[i] (List.getElem_mem hi)
  have e : N.getD i [] = N[i] := by simp [List.getD, hi]
  have h2 := List.all_eq_true.1 h1 ((N.getD i []).getD p 0) (by rw [← e]; exact getD_mem hp)
  unfold isT at h2
  have e2 : (nd N i).getD p 0 = ((N.getD i []).getD p 0).toNat := getD_toNat hp
  rw [e2]
  generalize (N.getD i []).getD p 0 = z at *
  have h3 : ¬ z < 0 ∧ ¬ (N.length : Int) ≤ z := by simpa using h2
  omega
theorem nd_lt {N : List (List Int)} (h : mayN N = true) {i k : Nat} (hk : k ∈ nd N i) : k < N.length := by
  obtain ⟨p, hp, rfl⟩ := List.getElem_of_mem hk
  have := (may_get h (i := i) (p := p) (by rw [← nd_len]; exact hp)).2
  simpa [List.getD, hp] using this
theorem free_iff {N : List (List Int)} {T : List Nat} {i : Nat} : free N T i = true ↔ i ∉ T ∧ ∀ k ∈ nd N i, k ∈ T := by
  simp [free]
theorem nxt_some {N : List (List Int)} {T : List Nat} {i : Nat} (h : nxt N T = some i) : i < N.length ∧ free N T i = true ∧ ∀ j, j < i → free N T j = false := by
  unfold nxt at h
  rw [List.find?_range_eq_some] at h
  obtain ⟨h1, h2, h3⟩ := h
  exact ⟨by simpa using h2, h1, fun j hj => by have := h3 j hj; simpa using this⟩
theorem nxt_of {N : List (List Int)} {T : List Nat} {i : Nat} (h1 : i < N.length) (h2 : free N T i = true) (h3 : ∀ j, j < i → free N T j = false) : nxt N T = some i := by
  unfold nxt
  rw [List.find?_range_eq_some]
  exact ⟨h2, by simpa using h1, fun j hj => by simp [h3 j hj]⟩
theorem nxt_none {N : List (List Int)} {T : List Nat} : nxt N T = none ↔ ∀ i, i < N.length → free N T i = false := by
  unfold nxt
  rw [List.find?_eq_none]
  constructor
  · intro h i hi; simpa using h i (by simpa using hi)
  · intro h i hi; simpa using h i (by simpa using hi)

/-- What can be told so far. -/
structure Tld (N : List (List Int)) (T : List Nat) : Prop where
  is : T = toldK N T.length
  nodup : T.Nodup
  lt : ∀ i ∈ T, i < N.length
  closed : ∀ i ∈ T, ∀ k ∈ nd N i, k ∈ T
theorem Tld.nil (N : List (List Int)) : Tld N [] := ⟨rfl, List.nodup_nil, fun i h => by simp at h, fun i h => by simp at h⟩
theorem Tld.next {N : List (List Int)} {T : List Nat} (h : Tld N T) {x : Nat} (hx : nxt N T = some x) : Tld N (T ++ [x]) := by
  obtain ⟨h1, h2, -⟩ := nxt_some hx
  rw [free_iff] at h2
  refine ⟨?_, ?_, fun i hi => ?_, fun i hi k hk => ?_⟩
  · rw [List.length_append, List.length_singleton, show toldK N (T.length + 1) = stepT N (toldK N T.length) from rfl, ← h.is]
    simp [stepT, hx]
  · rw [List.nodup_append]
    exact ⟨h.nodup, by simp, fun a ha b hb => by simp at hb; subst hb; rintro rfl; exact h2.1 ha⟩
  · rcases List.mem_append.1 hi with hi | hi
    · exact h.lt i hi
    · simp at hi; omega
  · rcases List.mem_append.1 hi with hi | hi
    · exact List.mem_append_left _ (h.closed i hi k hk)
    · simp at hi; subst hi; exact List.mem_append_left _ (h2.2 k hk)
theorem Tld.len {N : List (List Int)} {T : List Nat} (h : Tld N T) : T.length ≤ N.length := by
  exact nodup_le _ _ h.nodup h.lt
theorem toldK_stop {N : List (List Int)} {k : Nat} (h : nxt N (toldK N k) = none) (d : Nat) : toldK N (k + d) = toldK N k := by
  induction d with
  | zero => rfl
  | succ d ih =>
    rw [show k + (d + 1) = (k + d) + 1 by omega, show toldK N (k + d + 1) = stepT N (toldK N (k + d)) from rfl, ih]
    simp [stepT, h]
/-- Where nothing more can be told, it is all that can be. -/
theorem Tld.all {N : List (List Int)} {T : List Nat} (h : Tld N T) (hn : nxt N T = none) : told N = T := by
  have := toldK_stop (k := T.length) (by rw [← h.is]; exact hn) (N.length - T.length)
  rw [show T.length + (N.length - T.length) = N.length by have := h.len; omega] at this
  unfold told
  rw [this]; exact h.is.symm
theorem toldK_tld (N : List (List Int)) : ∀ k, Tld N (toldK N k)
  | 0 => Tld.nil N
  | k + 1 => by
    show Tld N (stepT N (toldK N k))
    unfold stepT
    have ih := toldK_tld N k
    cases hx : nxt N (toldK N k) with
    | none => exact ih
    | some i => exact ih.next hx
theorem told_tld (N : List (List Int)) : Tld N (told N) := toldK_tld N _
/-- Nothing more can be told. -/
theorem told_end (N : List (List Int)) : nxt N (told N) = none := by
  have key : ∀ k, nxt N (toldK N k) = none ∨ (toldK N k).length = k := by
    intro k
    induction k with
    | zero => exact .inr rfl
    | succ k ih =>
      show nxt N (stepT N (toldK N k)) = none ∨ (stepT N (toldK N k)).length = k + 1
      cases hx : nxt N (toldK N k) with
      | none => left; simp [stepT, hx]
      | some i =>
        rcases ih with ih | ih
        · rw [hx] at ih; cases ih
        · right; simp [stepT, hx, ih]
  rcases key N.length with h | h
  · exact h
  · rw [nxt_none]
    intro i hi
    have ht := told_tld N
    have : i ∈ told N := nodup_full ht.nodup ht.lt h hi
    simp [free, this]
theorem toldK_pre (N : List (List Int)) (k d : Nat) : toldK N k <+: toldK N (k + d) := by
  induction d with
  | zero => exact List.prefix_refl _
  | succ d ih =>
    refine ih.trans ?_
    show toldK N (k + d) <+: stepT N (toldK N (k + d))
    unfold stepT
    split
    · exact List.prefix_refl _
    · exact List.prefix_append _ _
/-- Each that is told was the least that could come. -/
theorem told_at (N : List (List Int)) {q : Nat} (hq : q < (told N).length) : nxt N ((told N).take q) = some ((told N)[q]) := by
  have hl : (told N).length ≤ N.length := (told_tld N).len
  have hlen : ∀ k, k ≤ (told N).length → (toldK N k).length = k := by
    intro k
    induction k with
    | zero => intro _; rfl
    | succ k ih =>
      intro hk
      have ih := ih (by omega)
      cases hx : nxt N (toldK N k) with
      | none =>
        have := toldK_stop hx (N.length - k)
        rw [show k + (N.length - k) = N.length by omega] at this
        have e : (told N).length = k := by unfold told; rw [this, ih]
        omega
      | some i => show (stepT N (toldK N k)).length = k + 1; simp [stepT, hx, ih]
  have e1 : toldK N q = (told N).take q := by
    have h := toldK_pre N q (N.length - q)
    rw [show q + (N.length - q) = N.length by omega] at h
    rw [List.prefix_iff_eq_take] at h
    rw [hlen q (by omega)] at h
    exact h
  have e2 : toldK N (q + 1) = (told N).take (q + 1) := by
    have h := toldK_pre N (q + 1) (N.length - (q + 1))
    rw [show q + 1 + (N.length - (q + 1)) = N.length by omega] at h
    rw [List.prefix_iff_eq_take] at h
    rw [hlen (q + 1) (by omega)] at h
    exact h
  rw [← e1]
  cases hx : nxt N (toldK N q) with
  | none =>
    have : toldK N (q + 1) = toldK N q := by show stepT N (toldK N q) = _; simp [stepT, hx]
    have h1 := hlen (q + 1) (by omega)
    have h2 := hlen q (by omega)
    rw [this] at h1; omega
  | some i =>
    have h3 : toldK N (q + 1) = toldK N q ++ [i] := by show stepT N (toldK N q) = _; simp [stepT, hx]
    rw [e2, e1, List.take_succ_eq_append_getElem hq] at h3
    have := List.append_cancel_left h3
    simp at this
    rw [this]

/-- How many needs are left. -/
def cnt (N : List (List Int)) (i : Nat) (T : List Nat) : Nat := (nd N i).countP (fun k => !T.contains k)
theorem cnt_nil (N : List (List Int)) (i : Nat) : cnt N i [] = (N.getD i []).length := by
  unfold cnt
  rw [← nd_len]
  simp
theorem cnt_zero {N : List (List Int)} {i : Nat} {T : List Nat} : cnt N i T = 0 ↔ ∀ k ∈ nd N i, k ∈ T := by
  unfold cnt
  rw [List.countP_eq_zero]
  simp
theorem cnt_next {N : List (List Int)} {i : Nat} {T : List Nat} {x : Nat} (hx : x ∉ T) : cnt N i T = cnt N i (T ++ [x]) + (nd N i).count x := by
  unfold cnt
  generalize nd N i = l
  induction l with
  | nil => rfl
  | cons a l ih =>
    rw [List.countP_cons, List.countP_cons, List.count_cons, ih]
    by_cases e : a = x
    · subst e; simp [hx]; omega
    · by_cases h : a ∈ T
      · simp [h, e]
      · simp [h, e]; omega
/-- Who needs k, among the first J things. -/
def us (N : List (List Int)) (J k : Nat) : List Nat := (List.range J).flatMap (fun i => List.replicate ((nd N i).count k) i)
theorem us_succ (N : List (List Int)) (J k : Nat) : us N (J + 1) k = us N J k ++ List.replicate ((nd N J).count k) J := by
  unfold us; rw [List.range_succ, List.flatMap_append]; simp
theorem us_count (N : List (List Int)) (J k i : Nat) : (us N J k).count i = if i < J then (nd N i).count k else 0 := by
  induction J with
  | zero => simp [us]
  | succ J ih =>
    rw [us_succ, List.count_append, ih, List.count_replicate]
    by_cases e : i = J
    · subst e; simp
    · have e2 : (J == i) = false := by simp; omega
      rw [e2]
      by_cases h : i < J
      · rw [if_pos h, if_pos (show i < J + 1 by omega)]; simp
      · rw [if_neg h, if_neg (show ¬ i < J + 1 by omega)]; simp
theorem us_mem {N : List (List Int)} {J k i : Nat} (h : i ∈ us N J k) : i < J ∧ k ∈ nd N i := by
  have := List.count_pos_iff.2 h
  rw [us_count] at this
  split at this
  · rename_i hi; exact ⟨hi, List.count_pos_iff.1 this⟩
  · omega

/-- What the queue holds: of the first J things those that can come; R: who needs the last one told, as far as it is still to be gone through. -/
structure Sq (N : List (List Int)) (J : Nat) (T R : List Nat) (l : List Int) : Prop where
  nodup : l.Nodup
  mem : ∀ z, z ∈ l ↔ ∃ i : Nat, z = i ∧ i < J ∧ i ∉ T ∧ cnt N i T + R.count i = 0
/-- What is left. -/
structure Lf (N : List (List Int)) (J : Nat) (T R : List Nat) (ks : List Nat) (f : Nat → Int) : Prop where
  nodup : ks.Nodup
  mem : ∀ i, i ∈ ks ↔ i < J ∧ i ∉ T
  val : ∀ i ∈ ks, f i = ((cnt N i T + R.count i : Nat) : Int)
theorem Sq.nil (N : List (List Int)) : Sq N 0 [] [] [] := ⟨List.nodup_nil, fun z => by simp⟩
theorem Lf.nil (N : List (List Int)) (f : Nat → Int) : Lf N 0 [] [] [] f := ⟨List.nodup_nil, fun i => by simp, fun i h => by simp at h⟩
theorem Lf.thing {N : List (List Int)} {J : Nat} {ks : List Nat} {f : Nat → Int} (h : Lf N J [] [] ks f) : J ∉ ks ∧ Lf N (J + 1) [] [] (ks ++ [J]) (upd f J ((N.getD J []).length)) := by
  have hn : J ∉ ks := fun hj => by have := (h.mem J).1 hj; omega
  refine ⟨hn, ⟨?_, fun i => ?_, fun i hi => ?_⟩⟩
  · rw [List.nodup_append]
    exact ⟨h.nodup, by simp, fun a ha b hb => by simp at hb; subst hb; rintro rfl; exact hn ha⟩
  · rw [List.mem_append, h.mem]; simp; omega
  · by_cases e : i = J
    · subst e; rw [upd_same, cnt_nil]; simp
    · rw [upd_other _ _ e]
      exact h.val i (by simpa [e] using hi)
theorem Sq.thing0 {N : List (List Int)} {J : Nat} {l l' : List Int} (h : Sq N J [] [] l) (hp : l'.Perm (l ++ [(J : Int)])) (h0 : (N.getD J []).length = 0) : Sq N (J + 1) [] [] l' := by
  refine ⟨(hp.nodup_iff).2 ?_, fun z => ?_⟩
  · rw [List.nodup_append]
    exact ⟨h.nodup, by simp, fun a ha b hb => by simp at hb; subst hb; rintro rfl; obtain ⟨i, e, hi, -⟩ := (h.mem _).1 ha; omega⟩
  · rw [hp.mem_iff, List.mem_append, h.mem]
    constructor
    · rintro (⟨i, e, hi, hr⟩ | hz)
      · exact ⟨i, e, by omega, hr⟩
      · simp at hz; exact ⟨J, hz, by omega, by simp, by rw [cnt_nil, h0]; simp⟩
    · rintro ⟨i, e, hi, hr⟩
      by_cases ei : i = J
      · subst ei; right; simp [e]
      · left; exact ⟨i, e, by omega, hr⟩
theorem Sq.thing {N : List (List Int)} {J : Nat} {l : List Int} (h : Sq N J [] [] l) (h0 : (N.getD J []).length ≠ 0) : Sq N (J + 1) [] [] l := by
  refine ⟨h.nodup, fun z => ?_⟩
  rw [h.mem]
  constructor
  · rintro ⟨i, e, hi, hr⟩; exact ⟨i, e, by omega, hr⟩
  · rintro ⟨i, e, hi, h1, h2⟩
    by_cases ei : i = J
    · subst ei; rw [cnt_nil] at h2; omega
    · exact ⟨i, e, by omega, h1, h2⟩
/-- The least one comes. -/
theorem Sq.pop {N : List (List Int)} {T : List Nat} {l : List Int} (h : Sq N N.length T [] l) (hT : Tld N T) (hh : IsHeap l) (h0 : 0 < l.length) : ∃ x : Nat, l.getD 0 0 = (x : Int) ∧ x < N.length ∧ x ∉ T ∧ nxt N T = some x ∧ Tld N (T ++ [x]) ∧
    (∀ l', l.Perm (l.getD 0 0 :: l') → Sq N N.length (T ++ [x]) (us N N.length x) l') ∧ (∀ u ∈ us N N.length x, u < N.length ∧ u ∉ T ++ [x]) := by
  have hm : l.getD 0 0 ∈ l := by simp [List.getD, h0]
  obtain ⟨x, ex, hx, hxT, hc⟩ := (h.mem _).1 hm
  have hfr : ∀ i, i ∉ T → cnt N i T + ([] : List Nat).count i = 0 → free N T i = true := fun i h1 h2 => by
    rw [free_iff]; exact ⟨h1, cnt_zero.1 (by simpa using h2)⟩
  have hle := hh.least
  have hnx : nxt N T = some x := nxt_of hx (hfr x hxT hc) (fun j hj => by
    by_cases hf : free N T j = true
    · rw [free_iff] at hf
      have : (j : Int) ∈ l := (h.mem _).2 ⟨j, rfl, by omega, hf.1, by simp [cnt_zero.2 hf.2]⟩
      obtain ⟨p, hp, e⟩ := List.getElem_of_mem this
      have := hle p hp
      rw [show l.getD p 0 = (j : Int) by simp [List.getD, hp, e], ex] at this
      omega
    · simpa using hf)
  have hfx := hfr x hxT hc
  rw [free_iff] at hfx
  refine ⟨x, ex, hx, hxT, hnx, hT.next hnx, fun l' hp => ?_, fun u hu => ?_⟩
  · have hnd := (hp.nodup_iff).1 h.nodup
    rw [List.nodup_cons] at hnd
    refine ⟨hnd.2, fun z => ?_⟩
    have hz : z ∈ l' ↔ z ∈ l ∧ z ≠ (x : Int) := by
      rw [hp.mem_iff, List.mem_cons, ← ex]
      constructor
      · intro hz; exact ⟨.inr hz, fun e => hnd.1 (e ▸ hz)⟩
      · rintro ⟨h1 | h1, h2⟩
        · exact absurd h1 h2
        · exact h1
    rw [hz, h.mem]
    have hcn : ∀ i, i < N.length → cnt N i T + ([] : List Nat).count i = cnt N i (T ++ [x]) + (us N N.length x).count i := fun i hi => by
      rw [us_count, if_pos hi, cnt_next hxT]; simp
    constructor
    · rintro ⟨⟨i, e, hi, h1, h2⟩, hne⟩
      refine ⟨i, e, hi, ?_, by rw [← hcn i hi]; exact h2⟩
      have : i ≠ x := fun e2 => hne (by rw [e, e2])
      simp [h1, this]
    · rintro ⟨i, e, hi, h1, h2⟩
      simp at h1
      refine ⟨⟨i, e, hi, h1.1, by rw [hcn i hi]; exact h2⟩, fun e2 => h1.2 (by omega)⟩
  · obtain ⟨h1, h2⟩ := us_mem hu
    refine ⟨h1, fun hm => ?_⟩
    rcases List.mem_append.1 hm with hm | hm
    · exact hxT (hT.closed u hm x h2)
    · simp at hm; subst hm; exact hxT (hfx.2 u h2)
theorem Lf.pop {N : List (List Int)} {T : List Nat} {ks : List Nat} {f : Nat → Int} (h : Lf N N.length T [] ks f) {x : Nat} (hx : x < N.length) (hxT : x ∉ T) : x ∈ ks ∧ Lf N N.length (T ++ [x]) (us N N.length x) (ks.erase x) f := by
  refine ⟨(h.mem x).2 ⟨hx, hxT⟩, ⟨h.nodup.erase x, fun i => ?_, fun i hi => ?_⟩⟩
  · rw [h.nodup.mem_erase_iff, h.mem]; simp
    constructor
    · rintro ⟨a, b, c⟩; exact ⟨b, c, a⟩
    · rintro ⟨b, c, a⟩; exact ⟨a, b, c⟩
  · rw [h.nodup.mem_erase_iff] at hi
    have hi2 := (h.mem i).1 hi.2
    rw [h.val i hi.2, us_count, if_pos hi2.1, cnt_next hxT]; simp
/-- Who needs it needs one less. -/
theorem Lf.user {N : List (List Int)} {T R : List Nat} {u : Nat} {ks : List Nat} {f : Nat → Int} (h : Lf N N.length T (u :: R) ks f) (hu : u < N.length ∧ u ∉ T) : u ∈ ks ∧ f u - 1 = ((cnt N u T + R.count u : Nat) : Int) ∧ Lf N N.length T R ks (upd f u (f u - 1)) := by
  have hm := (h.mem u).2 hu
  have hv := h.val u hm
  have e : f u - 1 = ((cnt N u T + R.count u : Nat) : Int) := by rw [hv]; simp; omega
  refine ⟨hm, e, ⟨h.nodup, h.mem, fun i hi => ?_⟩⟩
  by_cases ei : i = u
  · subst ei; rw [upd_same, e]
  · have e2 : (u == i) = false := by simp; omega
    rw [upd_other _ _ ei, h.val i hi, List.count_cons, e2]
    simp
theorem Sq.user {N : List (List Int)} {T R : List Nat} {u : Nat} {l : List Int} (h : Sq N N.length T (u :: R) l) (hu : u < N.length ∧ u ∉ T) :
    (cnt N u T + R.count u ≠ 0 → Sq N N.length T R l) ∧ (cnt N u T + R.count u = 0 → ∀ l', l'.Perm (l ++ [(u : Int)]) → Sq N N.length T R l') := by
  have hc : ∀ i, i ≠ u → (u :: R).count i = R.count i := fun i hi => by rw [List.count_cons]; simp; omega
  have hcu : (u :: R).count u = R.count u + 1 := by rw [List.count_cons]; simp
  have hnu : (u : Int) ∉ l := fun hm => by
    obtain ⟨i, e, -, -, h2⟩ := (h.mem _).1 hm
    obtain rfl : u = i := by omega
    rw [hcu] at h2; omega
  refine ⟨fun h0 => ⟨h.nodup, fun z => ?_⟩, fun h0 l' hp => ⟨(hp.nodup_iff).2 ?_, fun z => ?_⟩⟩
  · rw [h.mem]
    constructor
    · rintro ⟨i, e, hi, h1, h2⟩
      by_cases ei : i = u
      · subst ei; rw [hcu] at h2; omega
      · rw [hc i ei] at h2; exact ⟨i, e, hi, h1, h2⟩
    · rintro ⟨i, e, hi, h1, h2⟩
      by_cases ei : i = u
      · subst ei; exact absurd h2 h0
      · exact ⟨i, e, hi, h1, by rw [hc i ei]; exact h2⟩
  · rw [List.nodup_append]
    exact ⟨h.nodup, by simp, fun a ha b hb => by simp at hb; subst hb; rintro rfl; exact hnu ha⟩
  · rw [hp.mem_iff, List.mem_append, h.mem]
    constructor
    · rintro (⟨i, e, hi, h1, h2⟩ | hz)
      · by_cases ei : i = u
        · subst ei; rw [hcu] at h2; omega
        · rw [hc i ei] at h2; exact ⟨i, e, hi, h1, h2⟩
      · simp at hz; exact ⟨u, hz, hu.1, hu.2, h0⟩
    · rintro ⟨i, e, hi, h1, h2⟩
      by_cases ei : i = u
      · subst ei; right; simp [e]
      · left; exact ⟨i, e, hi, h1, by rw [hc i ei]; exact h2⟩
/-- None can come: all is told that can be. -/
theorem Sq.none {N : List (List Int)} {T : List Nat} (h : Sq N N.length T [] []) (hT : Tld N T) : told N = T := by
  refine hT.all (nxt_none.2 fun i hi => ?_)
  by_cases hf : free N T i = true
  · rw [free_iff] at hf
    have : (i : Int) ∈ ([] : List Int) := (h.mem _).2 ⟨i, rfl, hi, hf.1, by simp [cnt_zero.2 hf.2]⟩
    simp at this
  · simpa using hf
end Go.Proofs.Ytocfchgkfaogdaa
