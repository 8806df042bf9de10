/-
  slices.Index, Contains at rows of ints; the order and the round, plainly.
-/
import Derived.Test.YtocfchgkfaogdaaLvF
namespace Go.Proofs.Ytocfchgkfaogdaa
open Go.RowKit Go.Maps
set_option maxRecDepth 100000

def ix (l : List Int) (x : Int) : Int := if x ∈ l then (l.idxOf x : Nat) else -1
theorem ix_hit {l : List Int} {x : Int} {j : Nat} (hj : j < l.length) (h : l.getD j 0 = x) (hn : ∀ i, i < j → l.getD i 0 ≠ x) : ix l x = (j : Int) := by
  have hm : x ∈ l := by rw [← h]; exact getD_mem hj
  unfold ix
  rw [if_pos hm]
  have h1 : l.idxOf x < l.length := List.idxOf_lt_length_of_mem hm
  have h2 : l[l.idxOf x] = x := List.getElem_idxOf h1
  have e : l.idxOf x = j := by
    rcases Nat.lt_trichotomy (l.idxOf x) j with h3 | h3 | h3
    · exact absurd (by rw [getD_at h1]; exact h2) (hn _ h3)
    · exact h3
    · have h4 := List.not_of_lt_findIdx (p := fun y => y == x) (xs := l) (i := j) h3
      rw [getD_at hj] at h
      simp [h] at h4
  rw [e]
theorem ix_miss {l : List Int} {x : Int} (hn : ∀ i, i < l.length → l.getD i 0 ≠ x) : ix l x = -1 := by
  unfold ix
  rw [if_neg]
  intro hm
  obtain ⟨i, hi, e⟩ := List.getElem_of_mem hm
  exact hn i hi (by rw [getD_at hi]; exact e)
set_option maxHeartbeats 2000000 in
theorem index_any {w : World} {a : Option Addr} {n : Nat} {l : List Int} (h : Row .i64 w a n l) (c : Nat) (x : Int) :
    Calls Try.prog 28 #[.slice a n c, .int .i64 x] w fun e w' => e = .returned (.int .i64 (ix l x)) ∧ w' = w := by
  have hle := h.le
  have H := Lib.hid h
  have hl := h.len
  clear h
  go_enter Try.func28, Try.ntmps28
  go_wp2
  go_loopw [8] (fun s wr => wr = w ∧ ∃ j : Nat, s = .int .i64 j ∧ j ≤ n ∧ Hid (∀ i, i < j → l.getD i 0 ≠ x)) (fun s _ => n - (RowKit.intOf s).toNat)
  case atStart => exact ⟨rfl, 0, rfl, by omega, Lib.hid (fun i hi => by omega)⟩
  case round =>
    obtain ⟨rfl, j, rfl, hj, hK⟩ := hrel
    by_cases hlt : j < n
    · obtain ⟨b, off, rfl, hb, hcell⟩ := H.out.at (by omega)
      have c1 := hcell j hlt
      have hjn : (j : Int) < n := by omega
      have hK2 := Lib.hid (fun (h : l.getD j 0 ≠ x) => (show ∀ i, i < j + 1 → l.getD i 0 ≠ x from fun i hi => by
        by_cases e : i = j
        · rw [e]; exact h
        · exact hK.out i (by omega)))
      have hK3 := Lib.hid (fun (h : l.getD j 0 = x) => ix_hit (by omega) h hK.out)
      generalize l.getD j 0 = y at *
      clear hcell hK
      by_cases hxy : y = x
      · subst hxy
        have r := Lib.hid (hK3.out rfl)
        have hxx : ((y : Int) == y) = true := by simp
        clear hK2 hK3
        go_wp2
        go_ret
        exact ⟨ret_int r.out.symm, rfl⟩
      · have hxx : ((x : Int) == y) = false := beq_eq_false_iff_ne.2 (fun e => hxy e.symm)
        have r := Lib.hid (hK2.out hxy)
        clear hK2 hK3 hxy
        go_wp2
        exact ⟨⟨trivial, j + 1, by go_num, by omega, r⟩, by simp [RowKit.intOf]; omega⟩
    · obtain rfl : j = n := by omega
      have r := Lib.hid (show ix l x = -1 from ix_miss (fun i hi => hK.out i (by omega)))
      go_wp2
      go_ret
      exact ⟨ret_int r.out.symm, rfl⟩
theorem contains_any {w : World} {a : Option Addr} {n : Nat} {l : List Int} (h : Row .i64 w a n l) (_ : n ≤ 1000000) (c : Nat) (x : Int) :
    Calls Try.prog 27 #[.slice a n c, .int .i64 x] w fun e w' => e = .returned (.bool (decide (x ∈ l))) ∧ w' = w := by
  have hi := Lib.hid (index_any h c x)
  have hl := h.len
  by_cases hm : x ∈ l
  · have e : ix l x = (l.idxOf x : Nat) := by simp [ix, hm]
    have r := Lib.hid (show decide (x ∈ l) = true by simpa using hm)
    have hlt : l.idxOf x < l.length := List.idxOf_lt_length_of_mem hm
    rw [e] at hi
    generalize l.idxOf x = j at *
    have hg : decide ((0 : Int) ≤ (j : Int)) = true := by simp
    clear h hm e
    go_enter Try.func27, Try.ntmps27
    go_wp2_with (go_at_call 28; (with_reducible refine hi.out.mono ?_); rintro e w5 ⟨rfl, hw5⟩; obtain rfl : w = w5 := hw5.symm)
    go_ret
    exact ⟨ret_bool r.out.symm, rfl⟩
  · have e : ix l x = -1 := by simp [ix, hm]
    have r := Lib.hid (show decide (x ∈ l) = false by simpa using hm)
    rw [e] at hi
    clear h hm e
    go_enter Try.func27, Try.ntmps27
    go_wp2_with (go_at_call 28; (with_reducible refine hi.out.mono ?_); rintro e w5 ⟨rfl, hw5⟩; obtain rfl : w = w5 := hw5.symm)
    go_ret
    exact ⟨ret_bool r.out.symm, rfl⟩

/-- The round's things need each other in turn. -/
structure RndOk (N : List (List Int)) (r : List Nat) : Prop where
  pos : 0 < r.length
  nodup : r.Nodup
  left : ∀ x ∈ r, lf N x = true
  next : ∀ i, i < r.length → ((r.getD ((i + 1) % r.length) 0 : Nat) : Int) ∈ N.getD (r.getD i 0) []
theorem getN_at {l : List Nat} {p : Nat} (h : p < l.length) : l.getD p 0 = l[p] := by
  rw [List.getD_eq_getElem?_getD, List.getElem?_eq_getElem h]; rfl
theorem rg_ok {N : List (List Int)} (hm : mayN N = true) : ∀ (k : Nat) (way : List Nat) (cand : Option Nat), k + way.length = N.length + 1 → way.Nodup → (∀ x ∈ way, lf N x = true) →
    (∀ i, i + 1 < way.length → lst N (N.getD (way.getD i 0) []) = some (way.getD (i + 1) 0)) → (0 < way.length → cand = lst N (N.getD (way.getD (way.length - 1) 0) [])) → (∀ x, cand = some x → lf N x = true) → cand.isSome = true → RndOk N (rg N k way cand)
  | 0, way, cand, hk, hn, hl, _, _, _, _ => by
    have := nodup_le N.length way hn (fun x hx => (lf_iff.1 (hl x hx)).1)
    omega
  | k + 1, way, none, _, _, _, _, _, _, hs => by cases hs
  | k + 1, way, some x, hk, hn, hl, hc, hlast, hx, _ => by
    show RndOk N (if x ∈ way then way.drop (way.idxOf x) else rg N k (way ++ [x]) (lst N (N.getD x [])))
    by_cases hxw : x ∈ way
    · rw [if_pos hxw]
      have hB : way.idxOf x < way.length := List.idxOf_lt_length_of_mem hxw
      have hBx : way[way.idxOf x] = x := List.getElem_idxOf hB
      generalize way.idxOf x = B at *
      have hlen : (way.drop B).length = way.length - B := by simp
      have hg : ∀ i, i < (way.drop B).length → (way.drop B).getD i 0 = way.getD (B + i) 0 := fun i hi => by simp [List.getD, List.getElem?_drop]
      refine ⟨by rw [hlen]; omega, hn.sublist (List.drop_sublist _ _), fun y hy => hl y (List.mem_of_mem_drop hy), fun i hi => ?_⟩
      rw [hlen] at hi
      rw [hlen, hg i (by omega)]
      by_cases hi1 : i + 1 < way.length - B
      · rw [Nat.mod_eq_of_lt hi1, hg (i + 1) (by omega)]
        have := hc (B + i) (by omega)
        exact (lst_some.1 this).2.1
      · have e : i + 1 = way.length - B := by omega
        rw [e, Nat.mod_self, hg 0 (by omega), Nat.add_zero, getN_at hB, hBx]
        have := hlast (by omega)
        rw [show way.length - 1 = B + i by omega] at this
        exact (lst_some.1 this.symm).2.1
    · rw [if_neg hxw]
      have hlx := hx x rfl
      have hgl : ∀ i, i < way.length → (way ++ [x]).getD i 0 = way.getD i 0 := fun i hi => by
        rw [List.getD_eq_getElem?_getD, List.getD_eq_getElem?_getD, List.getElem?_append_left hi]
      have hgx : (way ++ [x]).getD way.length 0 = x := by
        rw [List.getD_eq_getElem?_getD, List.getElem?_append_right (Nat.le_refl _)]; simp
      refine rg_ok hm k (way ++ [x]) _ (by simp; omega) ?_ (fun y hy => ?_) (fun i hi => ?_) (fun _ => ?_) (fun y hy => (lst_some.1 hy).1) (left_needs hm hlx)
      · rw [List.nodup_append]
        exact ⟨hn, by simp, fun a ha b hb => by simp at hb; subst hb; rintro rfl; exact hxw ha⟩
      · rcases List.mem_append.1 hy with hy | hy
        · exact hl y hy
        · simp at hy; subst hy; exact hlx
      · simp at hi
        by_cases hi2 : i + 1 < way.length
        · rw [hgl i (by omega), hgl (i + 1) hi2]; exact hc i hi2
        · have e : i + 1 = way.length := by omega
          rw [e, hgx, hgl i (by omega)]
          have := hlast (by omega)
          rw [show way.length - 1 = i by omega] at this
          exact this.symm
      · rw [show (way ++ [x]).length - 1 = way.length by simp, hgx]
theorem rnd_ok {N : List (List Int)} (hm : mayN N = true) (hne : (told N).length ≠ N.length) : RndOk N (rndL N) := by
  have hs : (lst N (iz (List.range N.length))).isSome = true := by
    cases h : lst N (iz (List.range N.length)) with
    | some _ => rfl
    | none =>
      rw [lst_none] at h
      have h1 := sub_len (List.range N.length) (told N) List.nodup_range (fun i hi => by
        by_cases hq : i ∈ told N
        · exact hq
        · have : (i : Int) ∈ iz (List.range N.length) := List.mem_map.2 ⟨i, hi, rfl⟩
          exact absurd this (h i (lf_iff.2 ⟨by simpa using hi, hq⟩)))
      have h2 := (told_tld N).len
      simp at h1; omega
  exact rg_ok hm _ _ _ (by simp) List.nodup_nil (fun x h => by simp at h) (fun i h => by simp at h) (fun h => by simp at h) (fun x hx => (lst_some.1 hx).1) hs
theorem rnd_no {N : List (List Int)} (hq : (told N).length = N.length) : rndL N = [] := by
  have e : lst N (iz (List.range N.length)) = none := by
    rw [lst_none]
    intro j hl
    have := lf_iff.1 hl
    exact absurd (nodup_full (told_tld N).nodup (told_tld N).lt hq this.1) this.2
  unfold rndL
  rw [e]; rfl

/-- Where a thing stands in the order. -/
def pos (N : List (List Int)) (x : Nat) : Nat := (told N).idxOf x
section
variable {N : List (List Int)} (hq : (told N).length = N.length)
include hq
theorem pos_lt {x : Nat} (hx : x < N.length) : pos N x < N.length := by
  have := List.idxOf_lt_length_of_mem (nodup_full (told_tld N).nodup (told_tld N).lt hq hx)
  unfold pos; omega
theorem pos_at {x : Nat} (hx : x < N.length) : (told N).getD (pos N x) 0 = x := by
  have h1 := pos_lt hq hx
  rw [getN_at (by omega)]
  exact List.getElem_idxOf (by unfold pos at h1; omega)
theorem pos_told {p : Nat} (hp : p < N.length) : pos N ((told N).getD p 0) = p := by
  rw [getN_at (by omega)]
  exact List.Nodup.idxOf_getElem (told_tld N).nodup p (by omega)
theorem mem_take {x q : Nat} (hx : x < N.length) (hq2 : q ≤ N.length) : x ∈ (told N).take q ↔ pos N x < q := by
  constructor
  · intro h
    obtain ⟨i, hi, e⟩ := List.getElem_of_mem h
    have hi2 : i < q ∧ i < (told N).length := by simpa [Nat.lt_min] using hi
    have e2 : (told N).getD i 0 = x := by rw [getN_at hi2.2, ← e]; simp
    rw [← e2, pos_told hq (by omega)]
    exact hi2.1
  · intro h
    have h1 := pos_lt hq hx
    have := pos_at hq hx
    rw [getN_at (by omega)] at this
    rw [← this]
    exact List.mem_take_iff_getElem.2 ⟨pos N x, by omega, rfl⟩
theorem need_before {x k : Nat} (hx : x < N.length) (hk : k ∈ nd N x) (hm : mayN N = true) : pos N k < pos N x := by
  have h1 := pos_lt hq hx
  have h2 := told_at N (q := pos N x) (by omega)
  have e : (told N)[pos N x]'(by omega) = x := by rw [← getN_at (by omega)]; exact pos_at hq hx
  rw [e] at h2
  have h3 := (free_iff.1 (nxt_some h2).2.1).2 k hk
  exact (mem_take hq (nd_lt hm hk) (by omega)).1 h3
theorem lesser {x q : Nat} (hx : x < N.length) (hqx : q < pos N x) (hn : ∀ k ∈ nd N x, pos N k < q) (hm : mayN N = true) : (told N).getD q 0 ≤ x := by
  have h1 := pos_lt hq hx
  have h2 := told_at N (q := q) (by omega)
  rw [getN_at (by omega)]
  by_cases h : (told N)[q]'(by omega) ≤ x
  · exact h
  · have h3 := (nxt_some h2).2.2 x (by omega)
    have : free N ((told N).take q) x = true := by
      rw [free_iff]
      refine ⟨fun hmem => ?_, fun k hk => (mem_take hq (nd_lt hm hk) (by omega)).2 (hn k hk)⟩
      have := (mem_take hq hx (by omega)).1 hmem
      omega
    rw [this] at h3; cases h3
end
end Go.Proofs.Ytocfchgkfaogdaa
