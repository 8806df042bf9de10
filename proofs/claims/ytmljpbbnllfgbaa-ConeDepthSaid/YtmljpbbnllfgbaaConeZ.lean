/-
  ConeDepth, plainly: the depth of several; depths of a copy into an empty graph; how many gates come.
-/
import Derived.Test.YtmljpbbnllfgbaaConeP
namespace Go.Proofs.Ytmljpbbnllfgbaa
open Go.RowKit Go.Maps Num
set_option maxRecDepth 100000

/-- The greatest depth of literals. -/
def dmax (G : Gr) (l : List Int) : Nat := l.foldl (fun m x => max m (dep G (nodeN x))) 0
theorem fold_max {α : Type} (f : α → Nat) : ∀ (l : List α) (m : Nat), (l.foldl (fun m x => max m (f x)) m ≤ m ∨ ∃ x ∈ l, l.foldl (fun m x => max m (f x)) m = f x) ∧ m ≤ l.foldl (fun m x => max m (f x)) m ∧ ∀ x ∈ l, f x ≤ l.foldl (fun m x => max m (f x)) m := by
  intro l
  induction l with
  | nil => intro m; exact ⟨.inl (Nat.le_refl _), Nat.le_refl _, fun x hx => by cases hx⟩
  | cons y l ih =>
    intro m
    obtain ⟨h1, h2, h3⟩ := ih (max m (f y))
    simp only [List.foldl_cons]
    refine ⟨?_, by omega, fun x hx => ?_⟩
    · rcases h1 with h1 | ⟨x, hx, e⟩
      · by_cases hm : f y ≤ m
        · exact .inl (by omega)
        · exact .inr ⟨y, by simp, by omega⟩
      · exact .inr ⟨x, by simp [hx], e⟩
    · rcases List.mem_cons.1 hx with rfl | hx
      · omega
      · exact h3 x hx
theorem leans_dep {G : Gr} (hW : Wf G) {l : List Int} {i : Nat} (h : Leans G l i) : ∃ x ∈ l, dep G i ≤ dep G (nodeN x) := by
  induction h with
  | lit hx => exact ⟨_, hx, Nat.le_refl _⟩
  | a _ hg ih =>
    obtain ⟨x, hx, h⟩ := ih
    refine ⟨x, hx, ?_⟩
    rw [dep_gate hW hg] at h; omega
  | b _ hg ih =>
    obtain ⟨x, hx, h⟩ := ih
    refine ⟨x, hx, ?_⟩
    rw [dep_gate hW hg] at h; omega
theorem depL_max {G : Gr} (hW : Wf G) {l : List Int} (hl : AllThere G l) : depL G l = dmax G l := by
  obtain ⟨a1, -, a3⟩ := fold_max (dep G) (selTo (ReachP G l) G.nodes.length) 0
  obtain ⟨b1, -, b3⟩ := fold_max (fun x => dep G (nodeN x)) l 0
  have hA : depL G l = (selTo (ReachP G l) G.nodes.length).foldl (fun m x => max m (dep G x)) 0 := rfl
  have hB : dmax G l = l.foldl (fun m x => max m (dep G (nodeN x))) 0 := rfl
  rw [← hA] at a1 a3
  rw [← hB] at b1 b3
  have h1 : depL G l ≤ dmax G l := by
    rcases a1 with a1 | ⟨i, hi, e⟩
    · omega
    · obtain ⟨x, hx, h⟩ := leans_dep hW (selTo_mem.1 hi).2.2
      have := b3 x hx
      omega
  have h2 : dmax G l ≤ depL G l := by
    rcases b1 with b1 | ⟨x, hx, e⟩
    · omega
    · by_cases h0 : 0 < nodeN x
      · have := a3 _ (selTo_mem.2 ⟨nodeN_lt (hl x hx), h0, Leans.lit hx⟩)
        omega
      · rw [show nodeN x = 0 by omega, dep_zero hW] at e
        omega
  omega
theorem nodeN_over (S : List Int) (x : Int) : nodeN (overV S x) = nodeN (S.getD (nodeN x) 0) := by
  unfold overV ifV
  split
  · show (notV _ / 2).toNat = _
    rw [notV_half]; rfl
  · rfl
theorem andG_plain {G : Gr} (hf : G.fold = false) (hh : G.hash = false) (a b : Int) : andG G a b = gateG G a b := by
  unfold andG seenG
  rw [hf, hh]; simp

/-- A copy into a graph without options. -/
theorem copy_dep {G E : Gr} {l b : List Int} (hW : Wf G) (hE : Wf E) (hb : AllThere E b) (hl : AllThere G l) (hlen : E.nodes.length + G.nodes.length ≤ 8000000) (hf : E.fold = false) (hh : E.hash = false) (hin : ∀ k, k < G.inputs.length → (nodeAt E (nodeN (b.getD k 0))).gate = false)
    (hbl : b.length = G.inputs.length) : ∀ j, Leans G l j → dep (copyG G l E b).1 (nodeN ((copyG G l E b).2.getD j 0)) = dep G j := by
  have h0 := start_ok hE hW hb
  have hin1 := (in1_at hW b _ (Nat.le_refl _)).1
  have hfin := cp_ok (l := l) hW h0 hlen _ (Nat.le_refl _)
  have hWc : Wf (copyG G l E b).1 := hfin.wf
  intro j
  induction j using Nat.strongRecOn with
  | ind j ih =>
    intro hj
    have hjN := hj.lt hW hl
    have e1 : G.nodes.length = (j + 1) + (G.nodes.length - (j + 1)) := by omega
    have hpos : 0 < j ∨ j = 0 := by omega
    rcases hpos with hp | rfl
    · have hSj : (copyG G l E b).2.getD j 0 = (cpTo G l (E, inS G.nodes.length G.inputs b G.inputs.length) (j + 1)).2.getD j 0 := by
        unfold copyG
        rw [e1, cp_keep _ _ _ (by omega), ← e1]
      have hle := cp_le (l := l) hW h0 hlen (G.nodes.length - (j + 1)) (j + 1) (by omega)
      rw [← e1] at hle
      have hok := cp_ok (l := l) hW h0 hlen j (by omega)
      cases hg : (nodeAt G j).gate with
      | true =>
        have hgp : GateP G l j := ⟨⟨hp, hj⟩, hg⟩
        obtain ⟨ta, tb, la, lb, -⟩ := gate_lits hW hg
        have hff : (cpTo G l (E, inS G.nodes.length G.inputs b G.inputs.length) j).1.fold = false := hok.le.fold.trans hf
        have hhh : (cpTo G l (E, inS G.nodes.length G.inputs b G.inputs.length) j).1.hash = false := hok.le.hash.trans hh
        have low : ∀ x, IsLit x → nodeN x < j → Leans G l (nodeN x) → dep (copyG G l E b).1 (nodeN (overV (cpTo G l (E, inS G.nodes.length G.inputs b G.inputs.length) j).2 x)) = dep G (nodeN x) := fun x hx hxj hL => by
          rw [nodeN_over]
          have := ih (nodeN x) hxj hL
          have hxN : nodeN x < G.nodes.length := by omega
          have k1 := cp_keep (G := G) (l := l) (S0 := inS G.nodes.length G.inputs b G.inputs.length) (T0 := E) (G.nodes.length - (nodeN x + 1)) (nodeN x + 1) (nodeN x) (by omega)
          rw [show nodeN x + 1 + (G.nodes.length - (nodeN x + 1)) = G.nodes.length by omega] at k1
          have k2 := cp_keep (G := G) (l := l) (S0 := inS G.nodes.length G.inputs b G.inputs.length) (T0 := E) (j - (nodeN x + 1)) (nodeN x + 1) (nodeN x) (by omega)
          rw [show nodeN x + 1 + (j - (nodeN x + 1)) = j by omega] at k2
          have e4 : (copyG G l E b).2.getD (nodeN x) 0 = (cpTo G l (E, inS G.nodes.length G.inputs b G.inputs.length) j).2.getD (nodeN x) 0 := k1.trans k2.symm
          rw [e4] at this
          exact this
        have ha := low _ ta.1 la (.a hj hg)
        have hbb := low _ tb.1 lb (.b hj hg)
        rw [hSj, cp_yes hgp]
        simp only
        rw [getD_set _ _ _ (by rw [hok.slen]; omega), if_pos rfl]
        rw [cp_yes hgp] at hle
        rw [andG_plain hff hhh] at hle ⊢
        generalize (cpTo G l (E, inS G.nodes.length G.inputs b G.inputs.length) j).1 = C at *
        generalize overV (cpTo G l (E, inS G.nodes.length G.inputs b G.inputs.length) j).2 (nodeAt G j).a = X at *
        generalize overV (cpTo G l (E, inS G.nodes.length G.inputs b G.inputs.length) j).2 (nodeAt G j).b = Y at *
        have hn : (copyG G l E b).1.nodes[C.nodes.length]? = some ⟨true, hiV X Y, loV X Y⟩ := hle.node (by simp [gateG, addN])
        have hna : nodeAt (copyG G l E b).1 C.nodes.length = ⟨true, hiV X Y, loV X Y⟩ := by simp [nodeAt, List.getD, hn]
        have e5 : nodeN (gateG C X Y).2 = C.nodes.length := by show ((2 * (C.nodes.length : Int)) / 2).toNat = _; omega
        rw [e5, dep_gate hWc (by rw [hna]), hna, dep_gate hW hg, ← ha, ← hbb]
        rcases hiV_or X Y with ⟨p1, p2⟩ | ⟨p1, p2⟩
        · simp only [p1, p2]
        · simp only [p1, p2]; omega
      | false =>
        rw [hSj, cp_no (fun hh => by have := hh.2; rw [hg] at this; cases this), cp_late _ _ (Nat.le_refl _), inS_in1]
        obtain ⟨k, hk⟩ := hW.all j _ hp (nodeAt_some hjN) hg
        have hk2 := (List.getElem?_eq_some_iff.1 hk).1
        rw [hin1 k j hk2 hk, dep_plain hg]
        have hth := hb (b.getD k 0) (by simp [List.getD, show k < b.length by omega])
        have hnode := hfin.le.node (nodeAt_some (nodeN_lt hth))
        refine dep_plain ?_
        have e6 : nodeAt (copyG G l E b).1 (nodeN (b.getD k 0)) = nodeAt E (nodeN (b.getD k 0)) := by
          show nodeAt (cpTo G l (E, inS G.nodes.length G.inputs b G.inputs.length) G.nodes.length).1 _ = _
          simp only [nodeAt, List.getD] at hnode ⊢
          rw [hnode]; rfl
        rw [e6]; exact hin k hk2
    · have hz := hfin.zero
      show dep _ (nodeN ((cpTo G l (E, inS G.nodes.length G.inputs b G.inputs.length) G.nodes.length).2.getD 0 0)) = _
      rw [hz]
      show dep _ 0 = _
      rw [dep_zero hW]; exact dep_zero hWc

theorem copy_many {G E : Gr} {l b : List Int} (hW : Wf G) (hE : Wf E) (hb : AllThere E b) (hlen : E.nodes.length + G.nodes.length ≤ 8000000) (hf : E.fold = false) (hh : E.hash = false) : ∀ i, i ≤ G.nodes.length → (cpTo G l (E, inS G.nodes.length G.inputs b G.inputs.length) i).1.nodes.length = E.nodes.length + (selTo (GateP G l) i).length := by
  have h0 := start_ok hE hW hb
  intro i
  induction i with
  | zero => intro _; rfl
  | succ i ih =>
    intro hi
    have h1 := ih (by omega)
    by_cases hg : GateP G l i
    · have hok := cp_ok (l := l) hW h0 hlen i (by omega)
      rw [cp_yes hg, selTo_yes hg, andG_plain (hok.le.fold.trans hf) (hok.le.hash.trans hh)]
      simp only [gateG, addN, List.length_append, List.length_singleton]
      omega
    · rw [cp_no hg, selTo_no hg]; exact h1
theorem dmax_over {G E : Gr} {S : List Int} : ∀ {l : List Int}, (∀ x ∈ l, dep E (nodeN (overV S x)) = dep G (nodeN x)) → dmax E (l.map (overV S)) = dmax G l := by
  intro l h
  unfold dmax
  generalize 0 = z
  induction l generalizing z with
  | nil => rfl
  | cons x l ih =>
    simp only [List.map_cons, List.foldl_cons]
    rw [h x (by simp)]
    exact ih (fun y hy => h y (by simp [hy])) _
end Go.Proofs.Ytmljpbbnllfgbaa
