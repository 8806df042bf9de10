/-
  Order, Depth.
-/
import Derived.Test.YtocfchgkfaogdaaLvU
namespace Go.Proofs.Ytocfchgkfaogdaa
open Go.RowKit Go.Maps
set_option maxRecDepth 100000

theorem sub_len : ∀ (A B : List Nat), A.Nodup → (∀ x ∈ A, x ∈ B) → A.length ≤ B.length
  | [], B, _, _ => by simp
  | a :: A, B, hn, h => by
    rw [List.nodup_cons] at hn
    have h1 := sub_len A (B.erase a) hn.2 (fun x hx => (List.mem_erase_of_ne (by rintro rfl; exact hn.1 hx)).2 (h x (by simp [hx])))
    have hm := h a (by simp)
    rw [List.length_erase_of_mem hm] at h1
    have := List.length_pos_of_mem hm
    simp; omega
def ordE (N : List (List Int)) : Int := if mayN N = true then (if (told N).length = N.length then 0 else 35) else 1
def ordL (N : List (List Int)) : List Int := if ordE N = 0 then iz (told N) else []
theorem left_none {N : List (List Int)} {ks : List Nat} (hm : ∀ i, i ∈ ks ↔ i < N.length ∧ i ∉ told N) : ks.length = 0 ↔ (told N).length = N.length := by
  constructor
  · intro h
    have hk : ks = [] := List.eq_nil_of_length_eq_zero h
    subst hk
    have h1 := sub_len (List.range N.length) (told N) List.nodup_range (fun i hi => by
      by_cases hq : i ∈ told N
      · exact hq
      · exact absurd ((hm i).2 ⟨by simpa using hi, hq⟩) (by simp))
    have h2 := (told_tld N).len
    simp at h1; omega
  · intro h
    cases ks with
    | nil => rfl
    | cons a ks =>
      have h1 := (hm a).1 (by simp)
      exact absurd (nodup_full (told_tld N).nodup (told_tld N).lt h h1.1) h1.2

set_option maxHeartbeats 2000000 in
theorem Order_any {w : World} {a : Option Addr} {n : Nat} {N : List (List Int)} (h : RR w a n N) (hn : n ≤ 1000) (hr : ∀ i, (N.getD i []).length ≤ 1000) (c : Nat) :
    Calls Try.prog 10 #[.slice a n c] w fun e w' => ∃ (va : Option Addr) (ca : Nat), e = .returned (.tuple #[.slice va (ordL N).length ca, .int .i64 (ordE N)]) ∧
      w'.ownsRow w.heap.size 3 1 (.slice va (ordL N).length ca) (ordL N).length (ints (ordL N)) ∧ Below w.heap.size w w' := by
  have hmay := Lib.hid (May_any h c)
  have hl := h.len
  rcases (show mayN N = true ∨ mayN N = false by cases mayN N <;> simp) with hm | hm
  · have ht := tell_any h hm hn hr c
    rw [hm] at hmay
    by_cases hq : (told N).length = N.length
    · have hE : ordE N = 0 := by simp [ordE, hm, hq]
      have hL : ordL N = iz (told N) := by simp [ordL, hE]
      rw [hE, hL, iz_len]
      have ht := Lib.hid ht
      have hks := Lib.hid (fun (ks : List Nat) (h : ∀ i, i ∈ ks ↔ i < n ∧ i ∉ told N) => (left_none (N := N) (ks := ks) (by rw [hl]; exact h)).2 hq)
      generalize told N = T at *
      clear h hm hr hE hL hq hl
      go_enter Try.func10, Try.ntmps10
      go_wp2_with (first
        | (go_at_call 23; (with_reducible refine hmay.out.mono ?_); rintro e w5 ⟨rfl, rfl⟩)
        | (go_at_call 31; (with_reducible refine ht.out.mono ?_); rintro e w6 ⟨va, ca, bm, ks, f, rfl, hrow, hmap, hnd, hmem, hb⟩; have hk0 := hks.out ks hmem; have hlen := fun ty => hmap.len ty; rw [hk0] at hlen; have hrow := Lib.hid hrow; have hb := Lib.hid hb; clear hmem hmap hnd))
      go_ret2
      exact ⟨va, ca, rfl, hrow.out, hb.out⟩
    · have hE : ordE N = 35 := by simp [ordE, hm, hq]
      have hL : ordL N = [] := by simp [ordL, hE]
      rw [hE, hL]
      have ht := Lib.hid ht
      have hks := Lib.hid (fun (ks : List Nat) (h : ∀ i, i ∈ ks ↔ i < n ∧ i ∉ told N) => (show 0 < ks.length by
        have := (left_none (N := N) (ks := ks) (by rw [hl]; exact h)).1
        by_cases h0 : ks.length = 0
        · exact absurd (this h0) hq
        · omega))
      generalize told N = T at *
      clear h hm hr hE hL hq hl
      go_enter Try.func10, Try.ntmps10
      go_wp2_with (first
        | (go_at_call 23; (with_reducible refine hmay.out.mono ?_); rintro e w5 ⟨rfl, rfl⟩)
        | (go_at_call 31; (with_reducible refine ht.out.mono ?_); rintro e w6 ⟨va, ca, bm, ks, f, rfl, hrow, hmap, hnd, hmem, hb⟩; have hk0 := hks.out ks hmem; have hlen := fun ty => hmap.len ty; have hrow := Lib.hid hrow; have hb := Lib.hid hb; clear hmem hmap hnd))
      go_ret2
      exact ⟨none, 0, rfl, own_nil _ _ _, hb.out⟩
  · have hE : ordE N = 1 := by simp [ordE, hm]
    have hL : ordL N = [] := by simp [ordL, hE]
    rw [hE, hL]
    rw [hm] at hmay
    clear h hm hr hE hL
    go_enter Try.func10, Try.ntmps10
    go_wp2_with (go_at_call 23; (with_reducible refine hmay.out.mono ?_); rintro e w5 ⟨rfl, rfl⟩)
    go_ret2
    exact ⟨none, 0, rfl, own_nil _ _ _, Below.refl _ _⟩

/-- The depth of each, as it is told. -/
def dep1 (x : Nat) (d : List Int) (k : Nat) : List Int := d.set x (max (d.getD x 0) (d.getD k 0 + 1))
def depR (N : List (List Int)) (d : List Int) (x : Nat) : List Int := (nd N x).foldl (dep1 x) d
def depF (N : List (List Int)) (T : List Nat) : List Int := T.foldl (depR N) (List.replicate N.length 0)
def depth (N : List (List Int)) : List Int := depF N (told N)
def depL (N : List (List Int)) : List Int := if ordE N = 0 then depth N else []
def BD (d : List Int) (n b : Nat) : Prop := d.length = n ∧ ∀ i, 0 ≤ d.getD i 0 ∧ d.getD i 0 ≤ (b : Int)
theorem BD.dep1 {d : List Int} {n b : Nat} (h : BD d n b) (x k : Nat) : BD (dep1 x d k) n (b + 1) := by
  refine ⟨by simp [Ytocfchgkfaogdaa.dep1, h.1], fun i => ?_⟩
  unfold Ytocfchgkfaogdaa.dep1
  rw [getD_set]
  have h1 := h.2 x
  have h2 := h.2 k
  have h3 := h.2 i
  split
  · constructor <;> omega
  · constructor <;> omega
theorem BD.mono {d : List Int} {n b b' : Nat} (h : BD d n b) (hb : b ≤ b') : BD d n b' := ⟨h.1, fun i => by have := h.2 i; omega⟩
theorem BD.fold {x n : Nat} : ∀ (l : List Nat) (d : List Int) (b : Nat), BD d n b → BD (l.foldl (Ytocfchgkfaogdaa.dep1 x) d) n (b + l.length)
  | [], d, b, h => h
  | k :: l, d, b, h => by
    have := BD.fold (x := x) l _ (b + 1) (h.dep1 x k)
    simpa [Nat.add_assoc, Nat.add_comm 1] using this
theorem BD.zero (n : Nat) : BD (List.replicate n 0) n 0 := ⟨by simp, fun i => by
  have : (List.replicate n (0 : Int)).getD i 0 = 0 := by
    rw [List.getD_eq_getElem?_getD, List.getElem?_replicate]; split <;> rfl
  rw [this]; simp⟩
theorem BD.all {N : List (List Int)} (hr : ∀ i, (N.getD i []).length ≤ 1000) : ∀ (T : List Nat) (d : List Int) (b : Nat), BD d N.length b → BD (T.foldl (depR N) d) N.length (b + T.length * 1000)
  | [], d, b, h => by simpa using h
  | x :: T, d, b, h => by
    have h1 := BD.fold (x := x) (nd N x) d b h
    have h2 := BD.all hr T _ _ h1
    rw [nd_len] at h2
    refine h2.mono ?_
    have := hr x
    simp only [List.length_cons]; omega
theorem fold_take {α β : Type} (f : β → α → β) (b : β) (l : List α) {p : Nat} (hp : p < l.length) : (l.take (p + 1)).foldl f b = f ((l.take p).foldl f b) l[p] := by
  rw [List.take_succ_eq_append_getElem hp, List.foldl_append]; rfl
theorem made_zero (n : Nat) : (madeCells (Value.int .i64 0).cells (n * 1)).toList = ints (List.replicate n 0) := by
  apply List.ext_getElem
  · simp [madeCells, Value.cells, ints]
  · intro i h1 h2; simp [madeCells, Value.cells, Nat.mod_one, ints]
theorem ints_set (l : List Int) (i : Nat) (x : Int) : ints (l.set i x) = (ints l).set i (.int .i64 x) := by simp [ints, List.map_set]
end Go.Proofs.Ytocfchgkfaogdaa
