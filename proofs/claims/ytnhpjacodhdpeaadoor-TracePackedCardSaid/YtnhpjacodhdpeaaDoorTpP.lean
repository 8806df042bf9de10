/-
  Package trace: Pack.
-/
import Derived.Test.YtnhpjacodhdpeaaDoorTpM
import Derived.Test.YtnhpjacodhdpeaaDoorTrT
import Derived.Test.YtnhpjacodhdpeaaDoorTfPQ
import Derived.Test.YtnhpjacodhdpeaaDoorLanX
namespace Go.Proofs.YtnhpjacodhdpeaaDoor
open Go.RowKit Go.Maps Bits
set_option maxRecDepth 100000

def goodT (Ts : List TT) (i : Nat) : Bool := sameB (Ts.getD i tt0).1 (Ts.getD 0 tt0).1 && mayT (Ts.getD i tt0).1 (Ts.getD i tt0).2
def maxT (Ts : List TT) : Nat → Nat
  | 0 => 0
  | j + 1 => max (maxT Ts j) (Ts.getD j tt0).2.length
def packE (Ts : List TT) (n : Nat) (r : Int) : Nat := if (List.range n).all (goodT Ts) = false then 1 else if 0 ≤ r ∧ r < maxT Ts n then 0 else 6
def wdT (Ts : List TT) (i : Nat) : Nat := ((Ts.getD 0 tt0).1.getD i tb0).width.toNat
def nuT (Ts : List TT) (r i k : Nat) : Nat := (numT Ts r i k).toNat
/-- Rows in lanes, the first j of them. -/
def PR (w : World) (base g nb : Nat) (W : Nat → Nat) (f : Nat → Nat → Nat) (n j : Nat) : Prop :=
  ∃ kv, w.ownsRow base 37 1 (.slice (some ⟨g, 0, none⟩) nb nb) nb kv ∧ ∀ i, i < j → ∃ a2 c2, kv[i]? = some (.slice a2 (W i) c2) ∧ w.ownsRow base 46 1 (.slice a2 (W i) c2) (W i) (wl (W i) (turn (cutAt n (f i))))
theorem PR.step {w w' : World} {base g nb n j : Nat} {W : Nat → Nat} {f : Nat → Nat → Nat} (h : PR w base g nb W f n j) (hb : Below w.heap.size w w') : PR w' base g nb W f n j := by
  obtain ⟨kv, h1, h2⟩ := h
  exact ⟨kv, own_below h1 hb, fun i hi => by obtain ⟨a2, c2, e1, e2⟩ := h2 i hi; exact ⟨a2, c2, e1, own_below e2 hb⟩⟩
theorem PR.next {w : World} {base g nb n j : Nat} {W : Nat → Nat} {f : Nat → Nat → Nat} (h : PR w base g nb W f n j) (hj : j < nb) {a2 : Option Addr} {c2 : Nat} (hW : w.ownsRow base 46 1 (.slice a2 (W j) c2) (W j) (wl (W j) (turn (cutAt n (f j))))) :
    PR (w.setCell ⟨g, j, none⟩ (.slice a2 (W j) c2)) base g nb W f n (j + 1) ∧ Below base w (w.setCell ⟨g, j, none⟩ (.slice a2 (W j) c2)) ∧ (∃ u, w.cell? ⟨g, j, none⟩ = some u) ∧ w.frozen? ⟨g, j, none⟩ = false := by
  obtain ⟨kv, e1, e2⟩ := h
  have hge := own_ge e1 g rfl
  have hst := (e1.stored j (.slice a2 (W j) c2)).1
  have hk : Kept (fun k => k = g) w (w.setCell ⟨g, j, none⟩ (.slice a2 (W j) c2)) := ⟨rfl, rfl, rfl, by simp [World.setCell], fun k _ hn => Below.heap_setCell _ _ _ _ hn⟩
  obtain ⟨cg, hcg⟩ := own_type e1 (k := g) rfl
  have hF : ∀ k, k = g → ∃ cur T' z, w.heap[k]? = some (.cells cur T' z) ∧ T' ≠ 46 := by
    rintro k rfl; exact ⟨_, _, _, hcg, by decide⟩
  have hkl : kv.length = nb := by have := e1.1; omega
  refine ⟨⟨kv.set j (.slice a2 (W j) c2), hst, fun i hi => ?_⟩, (Below.refl _ _).setCell (p := ⟨g, j, none⟩) hge _, own_some e1 hj, e1.frozenAt j⟩
  by_cases e : i = j
  · subst e
    exact ⟨a2, c2, by rw [List.getElem?_set, if_pos rfl, if_pos (by omega)], own_other hW hk hF⟩
  · obtain ⟨a3, c3, e3, e4⟩ := e2 i (by omega)
    exact ⟨a3, c3, by rw [List.getElem?_set, if_neg (fun h => e h.symm)]; exact e3, own_other e4 hk hF⟩
def PackOk (Ts : List TT) (n : Nat) (r : Int) (w w' : World) (e : Ending) : Prop :=
  if packE Ts n r = 0 then ∃ g : Nat, e = .returned (.tuple #[.slice (some ⟨g, 0, none⟩) (Ts.getD 0 tt0).1.length (Ts.getD 0 tt0).1.length, .int .i64 0]) ∧ PR w' w.heap.size g (Ts.getD 0 tt0).1.length (wdT Ts) (nuT Ts r.toNat) n (Ts.getD 0 tt0).1.length
  else e = .returned (.tuple #[.slice none 0 0, .int .i64 (packE Ts n r : Nat)])

theorem words_of_may' {L : List TB} {R : List (List Int)} (h : mayT L R = true) (hn : NN R) : ∀ i, Words (R.getD i []) := by
  obtain ⟨q1, q2, q3⟩ := mayT_of h
  intro i j
  by_cases hi : i < R.length
  · obtain ⟨e1, e2⟩ := q3 i hi
    by_cases hj : j < (R.getD i []).length
    · have := e2 j (by omega)
      have hb := (topT_bd (L.getD j tb0).width).2
      have h0 := hn (R.getD i []) (by simp [List.getD, hi]) ((R.getD i []).getD j 0) (by
        have e : (R.getD i []).getD j 0 = (R.getD i [])[j] := by rw [List.getD_eq_getElem?_getD, List.getElem?_eq_getElem hj]; rfl
        rw [e]; exact List.getElem_mem hj)
      omega
    · have e : (R.getD i []).getD j 0 = 0 := by rw [List.getD_eq_getElem?_getD, List.getElem?_eq_none (by omega)]; rfl
      rw [e]; omega
  · have e : R.getD i [] = [] := by rw [List.getD_eq_getElem?_getD, List.getElem?_eq_none (by omega)]; rfl
    rw [e]; simp
theorem sameB_of {L K : List TB} (h : sameB L K = true) : L.length = K.length ∧ ∀ i, i < L.length → (L.getD i tb0).width = (K.getD i tb0).width := by
  unfold sameB at h
  simp only [Bool.and_eq_true, decide_eq_true_eq] at h
  refine ⟨h.1, fun i hi => ?_⟩
  have := range_of h.2 i hi
  simp only [Bool.and_eq_true, decide_eq_true_eq] at this
  exact this.2
section
variable {Ts : List TT} {n : Nat} (hg : ∀ i, i < n → goodT Ts i = true) (hnn : ∀ i, i < n → NN (Ts.getD i tt0).2)
include hg
theorem good_at {i : Nat} (hi : i < n) : sameB (Ts.getD i tt0).1 (Ts.getD 0 tt0).1 = true ∧ mayT (Ts.getD i tt0).1 (Ts.getD i tt0).2 = true := by
  have := hg i hi
  unfold goodT at this
  simpa using this
theorem good_rows {i r b : Nat} (hi : i < n) (hb : b < (Ts.getD 0 tt0).1.length) (hr : r < (Ts.getD i tt0).2.length) : b < ((Ts.getD i tt0).2.getD r []).length := by
  obtain ⟨h1, h2⟩ := good_at hg hi
  have := ((mayT_of h2).2.2 r hr).1
  have := (sameB_of h1).1
  omega
theorem good_max {i : Nat} : i ≤ n → maxT Ts i ≤ 4096 := by
  induction i with
  | zero => intro _; simp [maxT]
  | succ i ih =>
    intro hi
    have := (mayT_of (good_at hg (i := i) (by omega)).2).2.1
    have := ih (by omega)
    simp only [maxT]
    omega
theorem good_wide (h0 : 0 < n) {b : Nat} (hb : b < (Ts.getD 0 tt0).1.length) : 1 ≤ wdT Ts b ∧ wdT Ts b ≤ 64 ∧ ((Ts.getD 0 tt0).1.getD b tb0).width = (wdT Ts b : Int) := by
  have h2 := (good_at hg h0).2
  obtain ⟨-, -, h3⟩ := busesT_of (mayT_of h2).1
  obtain ⟨-, h4, h5, -⟩ := h3 b hb
  unfold wdT
  omega
include hnn
theorem good_num (h0 : 0 < n) {r b k : Nat} (hb : b < (Ts.getD 0 tt0).1.length) (hk : k < n) : (numT Ts r b k = (nuT Ts r b k : Int)) ∧ nuT Ts r b k < 2 ^ wdT Ts b := by
  obtain ⟨w1, w2, w3⟩ := good_wide hg h0 hb
  unfold nuT numT
  split
  · rename_i hr
    obtain ⟨h1, h2⟩ := good_at hg hk
    have hw := words_of_may' h2 (hnn k hk) r b
    obtain ⟨e1, e2⟩ := (mayT_of h2).2.2 r hr
    obtain ⟨s1, s2⟩ := sameB_of h1
    have := e2 b (by omega)
    rw [s2 b (by omega), w3, topT_eq w1 w2] at this
    have hp : 0 < 2 ^ wdT Ts b := Nat.pos_of_ne_zero (by simp)
    constructor
    · omega
    · omega
  · exact ⟨rfl, by simp; exact Nat.pos_of_ne_zero (by simp)⟩
end
end Go.Proofs.YtnhpjacodhdpeaaDoor
