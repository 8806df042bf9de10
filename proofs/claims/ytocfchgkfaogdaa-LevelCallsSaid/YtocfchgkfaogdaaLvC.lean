/-
  slices.Clone of a row of ints; what is reached, plainly.
-/
import Derived.Test.YtocfchgkfaogdaaLvZ
import Derived.Shelf.SlMaps.Clone
import Derived.Deep.Upon
import Derived.Deep.LoopGhost
import Derived.Maps.AppendAt
namespace Go.Proofs.Ytocfchgkfaogdaa
open Go.RowKit Go.Maps
set_option maxRecDepth 100000

theorem ints_one (l : List Int) : ∀ u ∈ ints l, u.oneCell' = true := by
  intro u hu
  obtain ⟨z, -, rfl⟩ := List.mem_map.1 hu
  rfl
/-- What a slice's cells are, however it lies. -/
theorem Row.news {w : World} {a : Option Addr} {n : Nat} {l : List Int} (h : Row .i64 w a n l) {ad : Addr} (ha : a = some ad) : ∀ j u, (ints l)[j]? = some u → w.cell? (ad.add j) = some u := by
  intro j u hj
  have hjn : j < n := by
    have := (List.getElem?_eq_some_iff.1 hj).1
    rw [ints_len, h.len] at this; exact this
  obtain ⟨b, off, e, hb, hc⟩ := h.at (by omega)
  rw [ha] at e
  obtain rfl := Option.some.inj e
  have := hc j hjn
  rw [ints_get l (by rw [h.len]; exact hjn)] at hj
  have hadd : (⟨b, off, none⟩ : Addr).add j = ⟨b, off + j, none⟩ := by simp only [Addr.add]; split <;> simp_all
  rw [← hj, ← this, hadd]
theorem Row.ad {w : World} {a : Option Addr} {n : Nat} {l : List Int} (h : Row .i64 w a n l) {ad : Addr} (ha : a = some ad) (hn : 0 < n) : ad.block < w.heap.size := by
  obtain ⟨b, off, e, hb, hc⟩ := h.at hn
  rw [ha] at e
  obtain rfl := Option.some.inj e
  exact hb

set_option maxHeartbeats 1000000 in
theorem clone_row {w : World} {a : Option Addr} {n : Nat} {l : List Int} (h : Row .i64 w a n l) (hn : n ≤ 200000) (c : Nat) :
    Calls Try.prog 9 #[.slice a n c] w fun e w' => ∃ (a2 : Option Addr) (c2 : Nat), e = .returned (.slice a2 n c2) ∧ w'.ownsRow w.heap.size 3 1 (.slice a2 n c2) n (ints l) ∧ Below w.heap.size w w' := by
  obtain ⟨i0, hi, hz0, hz1, hz2⟩ := info_parts info_int
  have hl := h.len
  cases a with
  | none =>
    have hn0 : n = 0 := by
      by_cases h0 : 0 < n
      · obtain ⟨b, off, e, -⟩ := h.at h0; cases e
      · omega
    subst hn0
    have hl0 : l = [] := List.eq_nil_of_length_eq_zero hl
    subst hl0
    have heq : ∀ W, (binOp .eql 23 (.slice none 0 c) (.slice none 0 0)).run Try.prog W = .ok (.bool true) W := fun W => Lib.run_eql_slice_nil W _ _ _ _ _ _ _ Try.underlying23
    clear h
    go_enter Try.func9, Try.ntmps9
    go_wp2
    go_ret
    exact ⟨none, 0, rfl, own_nil _ _ _, Below.refl _ _⟩
  | some ad =>
    have hemp : Hid ((w.alloc (.cells #[] 3)).ownsRow w.heap.size 3 1 (.slice (some ⟨w.heap.size, 0, none⟩) 0 0) 0 []) := Lib.hid ⟨rfl, .inr ⟨w.heap.size, 0, #[], rfl, Nat.le_refl _, Deep.blk_alloc_new _ _, Nat.le_refl _, by decide, rfl, rfl⟩⟩
    have hb0 : Hid (Below w.heap.size w (w.alloc (.cells #[] 3))) := Lib.hid ((Below.refl _ _).alloc (Nat.le_refl _) _)
    have HN := Lib.hid ((h.step hb0.out).news rfl)
    have H1 := Lib.hid (ints_one l)
    have HL : Hid ((ints l).length = n * 1) := Lib.hid (by rw [ints_len, hl]; omega)
    clear h
    have heq : ∀ W, (binOp .eql 23 (.slice (some ad) n c) (.slice none 0 0)).run Try.prog W = .ok (.bool false) W := fun W => Lib.run_eql_slice_nil W _ _ _ _ _ _ _ Try.underlying23
    go_enter Try.func9, Try.ntmps9
    go_wp2_with (at_builtin; refine wpList_append_own_at _ rfl _ _ 23 rfl w.heap.size 3 i0 (.int .i64 0) 1 8 Try.underlying23 hi hz0 hz1 hz2 rfl (by decide) (.slice (some ⟨w.heap.size, 0, none⟩) 0 0) 0 [] rfl hemp.out ad n c (ints l) rfl HL.out HN.out H1.out (by unfold maxLen; omega) (by omega) (by simp) ?_; intro v' w3 hown' hgrow hnil hloc)
    obtain ⟨a3, c3, rfl⟩ := own_slice hown'
    go_wp2
    go_ret
    rw [List.nil_append, Nat.zero_add] at hown'
    refine ⟨a3, c3, by simp, hown', ?_⟩
    exact hb0.out.grown hgrow (by simp) (fun k hk => by simp [Value.ownBlock] at hk; omega)

/-- What is reached. -/
inductive Rc (N : List (List Int)) (F : List Int) : Nat → Prop
  | base {i : Nat} : (i : Int) ∈ F → Rc N F i
  | step {i k : Nat} : Rc N F i → k ∈ nd N i → Rc N F k
open Classical in
noncomputable def rcL (N : List (List Int)) (F : List Int) : List Bool := (List.range N.length).map (fun i => decide (Rc N F i))
theorem rcL_len (N : List (List Int)) (F : List Int) : (rcL N F).length = N.length := by unfold rcL; simp
theorem rcL_get {N : List (List Int)} {F : List Int} {i : Nat} (hi : i < N.length) : (rcL N F).getD i false = true ↔ Rc N F i := by
  unfold rcL; simp [List.getD, hi]
def rchE (N : List (List Int)) (F : List Int) : Int := if mayN N = true ∧ allT N.length F = true then 0 else 1
noncomputable def rchL (N : List (List Int)) (F : List Int) : List Bool := if rchE N F = 0 then rcL N F else []
def bools (l : List Bool) : List Value := l.map Value.bool
theorem bools_len (l : List Bool) : (bools l).length = l.length := by simp [bools]
theorem bools_get (l : List Bool) {i : Nat} (hi : i < l.length) : (bools l)[i]? = some (.bool (l.getD i false)) := by simp [bools, List.getD, hi]
theorem getDb_set (l : List Bool) (i j : Nat) (x : Bool) : (l.set i x).getD j false = if i = j ∧ i < l.length then x else l.getD j false := by
  simp only [List.getD_eq_getElem?_getD, List.getElem?_set]
  by_cases h : i = j
  · subst h
    by_cases h2 : i < l.length
    · simp [h2]
    · simp [h2]
  · simp [h]
/-- Where the search stands: what is reached, what is open. -/
structure RS (N : List (List Int)) (F : List Int) (R : List Bool) (S : List Int) : Prop where
  len : R.length = N.length
  ok : ∀ i, R.getD i false = true → Rc N F i
  okS : ∀ z ∈ S, ∃ k : Nat, z = (k : Int) ∧ k < N.length ∧ Rc N F k
  from_ : ∀ k : Nat, (k : Int) ∈ F → R.getD k false = true ∨ (k : Int) ∈ S
  closed : ∀ i, R.getD i false = true → ∀ k ∈ nd N i, R.getD k false = true ∨ (k : Int) ∈ S
theorem RS.start {N : List (List Int)} {F : List Int} (hF : allT N.length F = true) : RS N F (List.replicate N.length false) F := by
  have hz : ∀ i, (List.replicate N.length false).getD i false = false := fun i => by
    rw [List.getD_eq_getElem?_getD, List.getElem?_replicate]; split <;> rfl
  refine ⟨by simp, fun i h => (by rw [hz] at h; cases h), fun z hz1 => ?_, fun k hk => .inr hk, fun i h => (by rw [hz] at h; cases h)⟩
  have := List.all_eq_true.1 hF z hz1
  unfold isT at this
  have h2 : ¬ z < 0 ∧ ¬ (N.length : Int) ≤ z := by simpa using this
  refine ⟨z.toNat, by omega, by omega, .base (by rw [show ((z.toNat : Nat) : Int) = z by omega]; exact hz1)⟩
/-- The last one open was reached before. -/
theorem RS.skip {N : List (List Int)} {F : List Int} {R : List Bool} {S : List Int} {x : Nat} (h : RS N F R (S ++ [(x : Int)])) (hx : R.getD x false = true) : RS N F R S := by
  have key : ∀ k : Nat, (k : Int) ∈ S ++ [(x : Int)] → R.getD k false = true ∨ (k : Int) ∈ S := fun k hk => by
    rcases List.mem_append.1 hk with hk | hk
    · exact .inr hk
    · simp at hk
      obtain rfl : k = x := by omega
      exact .inl hx
  exact ⟨h.len, h.ok, fun z hz => h.okS z (by simp [hz]), fun k hk => by
    rcases h.from_ k hk with h1 | h1
    · exact .inl h1
    · exact key k h1, fun i hi k hk => by
    rcases h.closed i hi k hk with h1 | h1
    · exact .inl h1
    · exact key k h1⟩
/-- It is reached now; what it needs is open. -/
theorem RS.take {N : List (List Int)} {F : List Int} {R : List Bool} {S : List Int} {x : Nat} (h : RS N F R (S ++ [(x : Int)])) (hm : mayN N = true) : RS N F (R.set x true) (S ++ N.getD x []) := by
  obtain ⟨k0, e0, hx, hrx⟩ := h.okS (x : Int) (by simp)
  obtain rfl : x = k0 := by omega
  have hxl : x < R.length := by rw [h.len]; exact hx
  have hset : ∀ k, R.getD k false = true → (R.set x true).getD k false = true := fun k hk => by rw [getDb_set]; split <;> simp_all
  have hsx : (R.set x true).getD x false = true := by rw [getDb_set, if_pos ⟨rfl, hxl⟩]
  have key : ∀ k : Nat, (k : Int) ∈ S ++ [(x : Int)] → (R.set x true).getD k false = true ∨ (k : Int) ∈ S ++ N.getD x [] := fun k hk => by
    rcases List.mem_append.1 hk with hk | hk
    · exact .inr (by simp [hk])
    · simp at hk
      obtain rfl : k = x := by omega
      exact .inl hsx
  refine ⟨by simp [h.len], fun i hi => ?_, fun z hz => ?_, fun k hk => ?_, fun i hi k hk => ?_⟩
  · rw [getDb_set] at hi
    split at hi
    · rename_i e; rw [← e.1]; exact hrx
    · exact h.ok i hi
  · rcases List.mem_append.1 hz with hz | hz
    · exact h.okS z (by simp [hz])
    · obtain ⟨k, e, hk⟩ := row_nat hm z hz
      refine ⟨k, e, hk, .step hrx ?_⟩
      exact List.mem_map.2 ⟨z, hz, by rw [e]; simp⟩
  · rcases h.from_ k hk with h1 | h1
    · exact .inl (hset k h1)
    · exact key k h1
  · rw [getDb_set] at hi
    split at hi
    · rename_i e
      right
      rw [← e.1] at hk
      obtain ⟨z, hz, ez⟩ := List.mem_map.1 hk
      obtain ⟨j, ej, hj⟩ := row_nat hm z hz
      have : z = (k : Int) := by rw [ej] at ez ⊢; simp at ez; omega
      rw [this] at hz
      exact List.mem_append_right _ hz
    · rcases h.closed i hi k hk with h1 | h1
      · exact .inl (hset k h1)
      · exact key k h1
/-- None is open: all that is reached. -/
theorem RS.done {N : List (List Int)} {F : List Int} {R : List Bool} (h : RS N F R []) : R = rcL N F := by
  have hr : ∀ i, Rc N F i → R.getD i false = true := fun i hi => by
    induction hi with
    | base hb => rcases h.from_ _ hb with h1 | h1; exact h1; simp at h1
    | step _ hk ih => rcases h.closed _ ih _ hk with h1 | h1; exact h1; simp at h1
  apply List.ext_getElem
  · rw [h.len, rcL_len]
  · intro i h1 h2
    have e : R.getD i false = R[i] := by simp [List.getD, h1]
    have e2 : (rcL N F).getD i false = (rcL N F)[i] := by simp only [List.getD_eq_getElem?_getD, List.getElem?_eq_getElem h2]; rfl
    rw [← e, ← e2]
    exact Bool.eq_iff_iff.2 ⟨fun hi => (rcL_get (by rw [← h.len]; exact h1)).2 (h.ok i hi), fun hi => hr i ((rcL_get (by rw [← h.len]; exact h1)).1 hi)⟩
/-- How many are not reached. -/
def unr (R : List Bool) : Nat := R.countP (fun b => !b)
theorem unr_set {R : List Bool} {x : Nat} (hx : x < R.length) (hf : R.getD x false = false) : unr (R.set x true) + 1 = unr R := by
  unfold unr
  have e : R[x] = false := by simpa [List.getD, hx] using hf
  rw [List.countP_set hx]
  have : 0 < R.countP (fun b => !b) := List.countP_pos_iff.2 ⟨R[x], List.getElem_mem hx, by simp [e]⟩
  simp [e]; omega
theorem unr_le (R : List Bool) : unr R ≤ R.length := List.countP_le_length
end Go.Proofs.Ytocfchgkfaogdaa
