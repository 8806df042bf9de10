/-
  What literals lean on, plainly.
-/
import Derived.Test.YtmljpbbnllfgbaaAigP
import Derived.Test.YtmljpbbnllfgbaaAigG
namespace Go.Proofs.Ytmljpbbnllfgbaa
open Go.RowKit Num

/-- A literal's node. -/
def nodeN (x : Int) : Nat := (x / 2).toNat
/-- The nodes that one of l leans on (node 0 with them). -/
inductive Leans (G : Gr) (l : List Int) : Nat → Prop
  | lit {x : Int} : x ∈ l → Leans G l (nodeN x)
  | a {i : Nat} : Leans G l i → (nodeAt G i).gate = true → Leans G l (nodeN (nodeAt G i).a)
  | b {i : Nat} : Leans G l i → (nodeAt G i).gate = true → Leans G l (nodeN (nodeAt G i).b)

theorem nodeAt_some {G : Gr} {i : Nat} (h : i < G.nodes.length) : G.nodes[i]? = some (nodeAt G i) := by simp [nodeAt, List.getD, h]
theorem nodeAt_gate {G : Gr} {i : Nat} (h : (nodeAt G i).gate = true) : i < G.nodes.length := by
  apply Classical.byContradiction
  intro hn
  have e : nodeAt G i = ⟨false, 0, 0⟩ := by
    unfold nodeAt
    rw [List.getD_eq_getElem?_getD, List.getElem?_eq_none (by omega)]
    rfl
  rw [e] at h; cases h
theorem gate_lits {G : Gr} (hW : Wf G) {i : Nat} (h : (nodeAt G i).gate = true) : There G (nodeAt G i).a ∧ There G (nodeAt G i).b ∧ nodeN (nodeAt G i).a < i ∧ nodeN (nodeAt G i).b < i ∧ 0 < i := by
  have hi := nodeAt_gate h
  obtain ⟨la, lb, hba, hai⟩ := hW.gates i _ (nodeAt_some hi) h
  have h0 : 0 < i := by
    rcases Nat.eq_zero_or_pos i with e | e
    · subst e
      have := nodeAt_some (G := G) (i := 0) hi
      rw [hW.zero] at this
      rw [← Option.some.inj this] at h; cases h
    · exact e
  unfold IsLit at la lb
  unfold nodeN There IsLit
  exact ⟨⟨la, by omega⟩, ⟨lb, by omega⟩, by omega, by omega, h0⟩
theorem nodeN_lt {G : Gr} {x : Int} (h : There G x) : nodeN x < G.nodes.length := by
  have h1 := h.1.1
  have h2 := h.2
  unfold nodeN; omega
theorem nodeN_int {x : Int} (h : IsLit x) : ((nodeN x : Nat) : Int) = x / 2 := by
  have := h.1
  unfold nodeN; omega
theorem Leans.le {G : Gr} (hW : Wf G) {l : List Int} {m : Nat} (hm : ∀ x ∈ l, nodeN x ≤ m) {i : Nat} (h : Leans G l i) : i ≤ m := by
  induction h with
  | lit hx => exact hm _ hx
  | a _ hg ih => have := (gate_lits hW hg).2.2.1; omega
  | b _ hg ih => have := (gate_lits hW hg).2.2.2.1; omega
theorem Leans.lt {G : Gr} (hW : Wf G) {l : List Int} (hl : AllThere G l) {i : Nat} (h : Leans G l i) : i < G.nodes.length := by
  induction h with
  | lit hx => exact nodeN_lt (hl _ hx)
  | a _ hg ih => have := (gate_lits hW hg).2.2.1; omega
  | b _ hg ih => have := (gate_lits hW hg).2.2.2.1; omega

/-- The marks, as far as k. -/
structure Mk (G : Gr) (l : List Int) (m k : Nat) (bs : List Bool) : Prop where
  len : bs.length = m
  sound : ∀ i, bs.getD i false = true → Leans G l i
  lits : ∀ x ∈ l, bs.getD (nodeN x) false = true
  closed : ∀ i, k < i → bs.getD i false = true → (nodeAt G i).gate = true → bs.getD (nodeN (nodeAt G i).a) false = true ∧ bs.getD (nodeN (nodeAt G i).b) false = true
/-- A row's literals marked. -/
def markL (bs : List Bool) (l : List Int) : List Bool := l.foldl (fun b x => b.set (nodeN x) true) bs
theorem markL_len (l : List Int) : ∀ (bs : List Bool), (markL bs l).length = bs.length := by
  induction l with
  | nil => intro bs; rfl
  | cons x l ih => intro bs; show (markL (bs.set (nodeN x) true) l).length = _; rw [ih]; simp
theorem getD_setB (bs : List Bool) (i j : Nat) : (bs.set i true).getD j false = true ↔ (bs.getD j false = true ∨ (i = j ∧ j < bs.length)) := by
  simp only [List.getD, List.getElem?_set]
  by_cases e : i = j
  · subst e
    by_cases hl : i < bs.length
    · simp [hl]
    · simp [hl]
  · simp [e]
theorem markL_at (l : List Int) : ∀ (bs : List Bool) (j : Nat), (markL bs l).getD j false = true ↔ (bs.getD j false = true ∨ (∃ x ∈ l, nodeN x = j ∧ j < bs.length)) := by
  induction l with
  | nil => intro bs j; simp [markL]
  | cons x l ih =>
    intro bs j
    show (markL (bs.set (nodeN x) true) l).getD j false = true ↔ _
    rw [ih, getD_setB]
    simp only [List.length_set, List.mem_cons]
    constructor
    · rintro ((h | ⟨h1, h2⟩) | ⟨y, hy, h⟩)
      · exact .inl h
      · exact .inr ⟨x, .inl rfl, h1, h2⟩
      · exact .inr ⟨y, .inr hy, h⟩
    · rintro (h | ⟨y, rfl | hy, h1, h2⟩)
      · exact .inl (.inl h)
      · exact .inl (.inr ⟨h1, h2⟩)
      · exact .inr ⟨y, hy, h1, h2⟩
theorem Mk.start {G : Gr} (hW : Wf G) {l : List Int} {m : Nat} (hm : ∀ x ∈ l, nodeN x < m) : Mk G l m (m - 1) (markL (List.replicate m false) l) := by
  have hr : ∀ i, (List.replicate m false).getD i false = false := fun i => by simp [List.getD, List.getElem?_replicate]; split <;> rfl
  refine ⟨by rw [markL_len]; simp, ?_, ?_, ?_⟩
  · intro i hi
    rw [markL_at, hr] at hi
    rcases hi with hi | ⟨x, hx, rfl, -⟩
    · cases hi
    · exact .lit hx
  · intro x hx
    rw [markL_at]
    exact .inr ⟨x, hx, rfl, by simp; exact hm x hx⟩
  · intro i hi hb
    exfalso
    rw [markL_at, hr] at hb
    rcases hb with hb | ⟨x, hx, rfl, hl⟩
    · cases hb
    · have := hm x hx; omega
/-- A node that is no gate, or not marked. -/
theorem Mk.skip {G : Gr} {l : List Int} {m k : Nat} {bs : List Bool} (h : Mk G l m (k + 1) bs) (hn : ((nodeAt G (k + 1)).gate && bs.getD (k + 1) false) = false) : Mk G l m k bs := by
  refine ⟨h.len, h.sound, h.lits, fun i hi hb hg => ?_⟩
  by_cases e : i = k + 1
  · subst e; rw [hg, hb] at hn; cases hn
  · exact h.closed i (by omega) hb hg
theorem Mk.more {G : Gr} (hW : Wf G) {l : List Int} {m k : Nat} {bs : List Bool} (h : Mk G l m (k + 1) bs) (hk : k + 1 < m) (hg : (nodeAt G (k + 1)).gate = true) (hb : bs.getD (k + 1) false = true) : Mk G l m k (markL bs [(nodeAt G (k + 1)).a, (nodeAt G (k + 1)).b]) := by
  obtain ⟨-, -, ha, hbb, -⟩ := gate_lits hW hg
  have hl := h.sound _ hb
  have mono : ∀ i, bs.getD i false = true → (markL bs [(nodeAt G (k + 1)).a, (nodeAt G (k + 1)).b]).getD i false = true := fun i hi => by rw [markL_at]; exact .inl hi
  refine ⟨by rw [markL_len]; exact h.len, ?_, fun x hx => mono _ (h.lits x hx), ?_⟩
  · intro i hi
    rw [markL_at] at hi
    rcases hi with hi | ⟨x, hx, rfl, -⟩
    · exact h.sound i hi
    · simp at hx
      rcases hx with rfl | rfl
      · exact .a hl hg
      · exact .b hl hg
  · intro i hi hbi hgi
    by_cases e : i = k + 1
    · subst e
      rw [markL_at, markL_at]
      exact ⟨.inr ⟨_, by simp, rfl, by rw [h.len]; omega⟩, .inr ⟨_, by simp, rfl, by rw [h.len]; omega⟩⟩
    · rw [markL_at] at hbi
      rcases hbi with hbi | ⟨x, hx, rfl, -⟩
      · obtain ⟨h1, h2⟩ := h.closed i (by omega) hbi hgi
        exact ⟨mono _ h1, mono _ h2⟩
      · simp at hx
        rcases hx with rfl | rfl <;> omega
/-- What the marks tell at the end. -/
def Leant (G : Gr) (l : List Int) (bs : List Bool) : Prop := ∀ i, bs.getD i false = true ↔ (0 < i ∧ Leans G l i)
theorem Mk.done {G : Gr} (hW : Wf G) {l : List Int} {m : Nat} {bs : List Bool} (h : Mk G l m 0 bs) : Leant G l (bs.set 0 false) := by
  have all : ∀ i, Leans G l i → bs.getD i false = true := by
    intro i hi
    induction hi with
    | lit hx => exact h.lits _ hx
    | a _ hg ih => exact (h.closed _ (gate_lits hW hg).2.2.2.2 ih hg).1
    | b _ hg ih => exact (h.closed _ (gate_lits hW hg).2.2.2.2 ih hg).2
  intro i
  rcases Nat.eq_zero_or_pos i with e | e
  · subst e
    constructor
    · intro hb
      exfalso
      simp only [List.getD, List.getElem?_set] at hb
      by_cases hl : 0 < bs.length <;> simp [hl] at hb
    · intro hb; omega
  · have e2 : (bs.set 0 false).getD i false = bs.getD i false := by
      simp only [List.getD, List.getElem?_set]
      rw [if_neg (by omega)]
    rw [e2]
    exact ⟨fun hb => ⟨e, h.sound i hb⟩, fun hb => all i hb.2⟩
end Go.Proofs.Ytmljpbbnllfgbaa
