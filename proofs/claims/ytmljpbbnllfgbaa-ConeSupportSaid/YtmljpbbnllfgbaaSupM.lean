/-
  ConeSupport, plainly; what is held along the way.
-/
import Derived.Test.YtmljpbbnllfgbaaConeQ
import Derived.Test.YtmljpbbnllfgbaaMapI
namespace Go.Proofs.Ytmljpbbnllfgbaa
open Go.RowKit Go.Maps Num
set_option maxRecDepth 100000

theorem bal (w : World) (o : Obj) : Below w.heap.size w (w.alloc o) := (Below.refl _ _).alloc (Nat.le_refl _) _
/-- Words hang on the support alone. -/
theorem sup_words {G : Gr} (hW : Wf G) {x : Int} (hx : There G x) {i1 i2 ws1 ws2 : List Int} (v1 : Val G i1 ws1) (v2 : Val G i2 ws2) (h : ∀ k (i : Nat), G.inputs[k]? = some (i : Int) → ReachP G [x] i → i1.getD k 0 = i2.getD k 0) : wordV x ws1 = wordV x ws2 := by
  have hl : AllThere G [x] := by intro y hy; simp at hy; subst hy; exact hx
  have l1 := v1.len
  have l2 := v2.len
  have hnode : ∀ j : Nat, Leans G [x] j → nodeW (j : Int) ws1 = nodeW (j : Int) ws2 := by
    intro j
    induction j using Nat.strongRecOn with
    | ind j ih =>
      intro hj
      have hjN := hj.lt hW hl
      unfold nodeW
      by_cases hp : 0 < j
      · rw [if_pos (by simp; omega), if_pos (by simp; omega)]
        show ws1.getD j 0 = ws2.getD j 0
        cases hg : (nodeAt G j).gate with
        | true =>
          obtain ⟨ta, tb, la, lb, -⟩ := gate_lits hW hg
          have low : ∀ y, IsLit y → nodeN y < j → Leans G [x] (nodeN y) → wordV y ws1 = wordV y ws2 := fun y hy hyj hL => by
            have := ih _ hyj hL
            rw [nodeN_int hy] at this
            unfold wordV; rw [this]
          rw [v1.gate j _ (nodeAt_some hjN) hg, v2.gate j _ (nodeAt_some hjN) hg, low _ ta.1 la (.a hj hg), low _ tb.1 lb (.b hj hg)]
        | false =>
          obtain ⟨k, hk⟩ := hW.all j _ hp (nodeAt_some hjN) hg
          rw [v1.inp k j hk, v2.inp k j hk]
          exact h k j hk ⟨hp, hj⟩
      · rw [if_neg (by simp; omega), if_neg (by simp; omega)]
  have := hnode (nodeN x) (.lit (by simp))
  rw [nodeN_int hx.1] at this
  unfold wordV; rw [this]

/-- Is a number in a row? -/
def memB (L : List Nat) (k : Nat) : Bool := decide (k ∈ L)
theorem memB_succ (L : List Nat) (j : Nat) (h : j < L.length) : (fun i => i == L.getD j 0 || memB (L.take j) i) = memB (L.take (j + 1)) := by
  funext i
  have e : L[j]? = some (L.getD j 0) := by simp [List.getD, h]
  unfold memB
  rw [List.take_add_one, e, Bool.eq_iff_iff]
  simp only [Bool.or_eq_true, beq_iff_eq, decide_eq_true_iff, Option.toList_some, List.mem_append, List.mem_singleton]
  exact Or.comm
theorem memB_reach {G : Gr} (hW : Wf G) {l : List Int} (hl : AllThere G l) (k : Nat) : memB (reachL G l) k = true ↔ ReachP G l k := by
  unfold memB reachL
  rw [decide_eq_true_iff, selTo_mem]
  exact ⟨fun h => h.2, fun h => ⟨h.2.lt hW hl, h⟩⟩
theorem memB_sup {G : Gr} (hW : Wf G) {l : List Int} (hl : AllThere G l) (k : Nat) : memB (supL G l) k = true ↔ SupP G l k := by
  unfold memB supL
  rw [decide_eq_true_iff, selTo_mem]
  exact ⟨fun h => h.2, fun h => ⟨h.1.2.lt hW hl, h⟩⟩
/-- At an input the two rows agree. -/
theorem sup_input {G : Gr} (hW : Wf G) {l : List Int} (hl : AllThere G l) {k i : Nat} (hk : G.inputs[k]? = some (i : Int)) : memB (supL G l) i = memB (reachL G l) i := by
  obtain ⟨m, em, m0, n, hn, hg⟩ := hW.ins k _ hk
  have e : m = i := by omega
  subst e
  have hga : (nodeAt G m).gate = false := by
    have := nodeAt_some (List.getElem?_eq_some_iff.1 hn).1
    rw [hn] at this
    rw [← Option.some.inj this]; exact hg
  rw [Bool.eq_iff_iff, memB_reach hW hl, memB_sup hW hl]
  exact ⟨fun h => h.1, fun h => ⟨h, hga⟩⟩
/-- Each that is reached is the literal's own, or a literal of a greater one that is. -/
theorem reach_why {G : Gr} (hW : Wf G) {x : Int} {i : Nat} (h : Leans G [x] i) : i = nodeN x ∨ ∃ j, i < j ∧ Leans G [x] j ∧ (nodeAt G j).gate = true ∧ (i = nodeN (nodeAt G j).a ∨ i = nodeN (nodeAt G j).b) := by
  cases h with
  | lit hx => simp at hx; subst hx; exact .inl rfl
  | a hj hg => exact .inr ⟨_, (gate_lits hW hg).2.2.1, hj, hg, .inl rfl⟩
  | b hj hg => exact .inr ⟨_, (gate_lits hW hg).2.2.2.1, hj, hg, .inr rfl⟩
theorem reach_at {G : Gr} {l : List Int} {k : Nat} (hk : k < (reachL G l).length) : ReachP G l ((reachL G l).getD k 0) ∧ (reachL G l).getD k 0 < G.nodes.length := by
  have hm : (reachL G l).getD k 0 ∈ reachL G l := by simp [List.getD, hk]
  exact ⟨(selTo_mem.1 hm).2, (selTo_mem.1 hm).1⟩
theorem reach_lt {G : Gr} {l : List Int} {j k : Nat} (hjk : j < k) (hk : k < (reachL G l).length) : (reachL G l).getD j 0 < (reachL G l).getD k 0 := by
  have hs := selTo_sorted (ReachP G l) G.nodes.length
  have := List.pairwise_iff_getElem.1 hs j k (show j < (reachL G l).length by omega) hk hjk
  have e1 : (reachL G l).getD j 0 = (reachL G l)[j]'(by omega) := by simp [List.getD, show j < (reachL G l).length by omega]
  have e2 : (reachL G l).getD k 0 = (reachL G l)[k] := by simp [List.getD, hk]
  rw [e1, e2]; exact this
/-- What 'needed' must hold: what the nodes from k on need, and the literal's own. -/
def NeedIn (G : Gr) (x : Int) (R : List Nat) (k : Nat) (M : Nat → Bool) : Prop :=
  M (nodeN x) = true ∧ ∀ i, k ≤ i → i < R.length → (nodeAt G (R.getD i 0)).gate = true → M (nodeN (nodeAt G (R.getD i 0)).a) = true ∧ M (nodeN (nodeAt G (R.getD i 0)).b) = true
theorem need_now {G : Gr} (hW : Wf G) {x : Int} (hx : There G x) {k : Nat} {M : Nat → Bool} (h : NeedIn G x (reachL G [x]) (k + 1) M) (hk : k < (reachL G [x]).length) : M ((reachL G [x]).getD k 0) = true := by
  have hl : AllThere G [x] := by intro y hy; simp at hy; subst hy; exact hx
  obtain ⟨⟨-, hL⟩, -⟩ := reach_at hk
  rcases reach_why hW hL with e | ⟨j, hij, hLj, hg, e⟩
  · rw [e]; exact h.1
  · have hjm : j ∈ reachL G [x] := selTo_mem.2 ⟨hLj.lt hW hl, by omega, hLj⟩
    obtain ⟨i, hi, hij2⟩ := List.getElem_of_mem hjm
    have hgi : (reachL G [x]).getD i 0 = j := by simp [List.getD, hi, hij2]
    have hki : k < i := by
      apply Classical.byContradiction
      intro hn
      rcases Nat.lt_or_ge i k with h1 | h1
      · have := reach_lt h1 hk; omega
      · have e2 : i = k := by omega
        subst e2; omega
    have := h.2 i (by omega) hi (by rw [hgi]; exact hg)
    rw [hgi] at this
    rcases e with e | e
    · rw [e]; exact this.1
    · rw [e]; exact this.2

/-- The words that are put together of the two rows. -/
def mixF (G : Gr) (R : List Nat) (A B : Nat → Int) (k i : Nat) : Int := if i < k ∧ memB R (G.inputs.getD i 0).toNat = true then A i else B i
theorem mix_zero (G : Gr) (R : List Nat) (A B : Nat → Int) (n : Nat) : Bits.row n B = Bits.row n (mixF G R A B 0) := Bits.row_congr (fun i _ => by unfold mixF; rw [if_neg (by omega)])
theorem mix_no {G : Gr} {R : List Nat} {A B : Nat → Int} {k n : Nat} (h : memB R (G.inputs.getD k 0).toNat = false) : Bits.row n (mixF G R A B (k + 1)) = Bits.row n (mixF G R A B k) := Bits.row_congr (fun i _ => by
  unfold mixF
  by_cases e : i = k
  · subst e; rw [h]; simp
  · exact ite_iff (by constructor <;> rintro ⟨a, b⟩ <;> exact ⟨by omega, b⟩) _ _)
theorem mix_yes {G : Gr} {R : List Nat} {A B : Nat → Int} {k n : Nat} (h : memB R (G.inputs.getD k 0).toNat = true) (hk : k < n) : (Bits.row n (mixF G R A B k)).set k (A k) = Bits.row n (mixF G R A B (k + 1)) := by
  apply List.ext_getElem
  · simp [Bits.row]
  · intro i h1 h2
    rw [List.getElem_set]
    simp only [Bits.row, List.getElem_map, List.getElem_range]
    unfold mixF
    by_cases e : k = i
    · subst e; rw [if_pos rfl, if_pos ⟨by omega, h⟩]
    · rw [if_neg e]
      exact ite_iff (by constructor <;> rintro ⟨a, b⟩ <;> exact ⟨by omega, b⟩) _ _
theorem mix_same {G : Gr} (hW : Wf G) {x : Int} (hx : There G x) {n : Nat} (hn : n = G.inputs.length) {A B : Nat → Int} {ws1 ws2 : List Int} (v1 : Val G (Bits.row n A) ws1) (v2 : Val G (Bits.row n (mixF G (reachL G [x]) A B n)) ws2) : Bits.row 1 (wordsF [x] ws2) = Bits.row 1 (wordsF [x] ws1) := by
  have hl : AllThere G [x] := by intro y hy; simp at hy; subst hy; exact hx
  refine Bits.row_congr (fun i hi => ?_)
  obtain rfl : i = 0 := by omega
  show wordV x ws2 = wordV x ws1
  refine (sup_words hW hx v1 v2 (fun k i hk hr => ?_)).symm
  have hk2 := (List.getElem?_eq_some_iff.1 hk).1
  rw [getD_row _ _ _ (by omega), getD_row _ _ _ (by omega)]
  unfold mixF
  have e : G.inputs.getD k 0 = (i : Int) := by simp [List.getD, hk]
  rw [if_pos ⟨by omega, by rw [e, Int.toNat_natCast, memB_reach hW hl]; exact hr⟩]
end Go.Proofs.Ytmljpbbnllfgbaa
