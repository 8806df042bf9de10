/-
  ConeWords, plainly: a copy's words; how many gates come.
-/
import Derived.Test.YtmljpbbnllfgbaaConeX
import Derived.Test.YtmljpbbnllfgbaaAigS
namespace Go.Proofs.Ytmljpbbnllfgbaa
open Go.RowKit Go.Maps Num
set_option maxRecDepth 100000

theorem inS_in1 (G : Gr) (b : List Int) : ∀ k, inS G.nodes.length G.inputs b k = in1 G b k := by
  intro k
  induction k with
  | zero => rfl
  | succ k ih => show (inS G.nodes.length G.inputs b k).set _ _ = (in1 G b k).set _ _; rw [ih]
theorem over_word {S ws zs : List Int} {x : Int} (h : wordV (S.getD (nodeN x) 0) ws = nodeW (x / 2) zs) : wordV (overV S x) ws = wordV x zs := by
  have h' : wordV (S.getD (x / 2).toNat 0) ws = nodeW (x / 2) zs := h
  unfold overV ifV
  cases ht : turnV x with
  | true => rw [if_pos rfl, wordV_not, h']; unfold wordV; rw [if_pos ht]
  | false => rw [if_neg (by simp), h']; unfold wordV; rw [if_neg (by simp [ht])]
theorem cp_le {T0 G : Gr} {l S0 : List Int} {N : Nat} (hW : Wf G) (h0 : CpOk T0 N 0 (T0, S0)) (hl : T0.nodes.length + N ≤ 8000000) : ∀ d i, i + d ≤ N → Le (cpTo G l (T0, S0) i).1 (cpTo G l (T0, S0) (i + d)).1 := by
  intro d
  induction d with
  | zero => intro i _; exact Le.refl _
  | succ d ih =>
    intro i hi
    refine (ih i (by omega)).trans ?_
    show Le _ (cpTo G l (T0, S0) (i + d + 1)).1
    by_cases hg : GateP G l (i + d)
    · rw [cp_yes hg]
      have h := cp_ok (l := l) hW h0 hl (i + d) (by omega)
      have hs := selTo_len (GateP G l) (i + d)
      have := h.len
      exact (andG_good h.wf (over_there h.lits _) (over_there h.lits _) (by omega)).le
    · rw [cp_no hg]; exact Le.refl _
/-- What does not come to pass at a node leaves its place. -/
theorem cp_late {G : Gr} {l S0 : List Int} {T0 : Gr} : ∀ i j, i ≤ j → (cpTo G l (T0, S0) i).2.getD j 0 = S0.getD j 0 := by
  intro i
  induction i with
  | zero => intro j _; rfl
  | succ i ih =>
    intro j hj
    by_cases hg : GateP G l i
    · rw [cp_yes hg]
      simp only [List.getD, List.getElem?_set, if_neg (show ¬ i = j by omega)]
      exact ih j (by omega)
    · rw [cp_no hg]; exact ih j (by omega)
theorem cp_keep {G : Gr} {l S0 : List Int} {T0 : Gr} : ∀ d i j, j < i → (cpTo G l (T0, S0) (i + d)).2.getD j 0 = (cpTo G l (T0, S0) i).2.getD j 0 := by
  intro d
  induction d with
  | zero => intro i j _; rfl
  | succ d ih =>
    intro i j hj
    rw [← ih i j hj, show i + (d + 1) = i + d + 1 from rfl]
    by_cases hg : GateP G l (i + d)
    · rw [cp_yes hg]
      simp only [List.getD, List.getElem?_set, if_neg (show ¬ i + d = j by omega)]
    · rw [cp_no hg]

/-- A copy's words. -/
theorem copy_word {G T : Gr} {l b : List Int} (hW : Wf G) (hWT : Wf T) (hb : AllThere T b) (hl : AllThere G l) (hlen : T.nodes.length + G.nodes.length ≤ 8000000) {gv wsG ins ws : List Int} (hG : Val G gv wsG) (hT : Val (copyG G l T b).1 ins ws)
    (hgv : ∀ k, k < G.inputs.length → gv.getD k 0 = wordV (b.getD k 0) ws) : ∀ j, Leans G l j → wordV ((copyG G l T b).2.getD j 0) ws = nodeW j wsG := by
  have h0 := start_ok hWT hW hb
  have hin := (in1_at hW b _ (Nat.le_refl _)).1
  have hnode : ∀ j : Nat, 0 < j → j < G.nodes.length → nodeW (j : Int) wsG = wsG.getD j 0 := fun j h1 h2 => by
    have := hG.len
    unfold nodeW
    rw [if_pos (by simp; omega)]; rfl
  intro j
  induction j using Nat.strongRecOn with
  | ind j ih =>
    intro hj
    have hjN := hj.lt hW hl
    have hpos : 0 < j ∨ j = 0 := by omega
    rcases hpos with hp | rfl
    · rw [hnode j hp hjN]
      unfold copyG
      have e1 : G.nodes.length = (j + 1) + (G.nodes.length - (j + 1)) := by omega
      rw [e1, cp_keep _ _ _ (by omega), ← e1]
      cases hg : (nodeAt G j).gate with
      | true =>
        have hgp : GateP G l j := ⟨⟨hp, hj⟩, hg⟩
        obtain ⟨ta, tb, la, lb, -⟩ := gate_lits hW hg
        have hok := cp_ok (l := l) hW h0 hlen j (by omega)
        have hle := cp_le (l := l) hW h0 hlen (G.nodes.length - (j + 1)) (j + 1) (by omega)
        rw [← e1] at hle
        rw [cp_yes hgp]
        simp only
        rw [getD_set _ _ _ (by rw [hok.slen]; omega), if_pos rfl]
        rw [cp_yes hgp] at hle
        rw [andG_word hok.wf _ _ hle hT, hG.gate j _ (nodeAt_some hjN) hg]
        have low : ∀ x, IsLit x → nodeN x < j → Leans G l (nodeN x) → wordV (overV (cpTo G l (T, inS G.nodes.length G.inputs b G.inputs.length) j).2 x) ws = wordV x wsG := fun x hx hxj hL => by
          refine over_word ?_
          have := ih (nodeN x) hxj hL
          unfold copyG at this
          have e2 : G.nodes.length = (nodeN x + 1) + (G.nodes.length - (nodeN x + 1)) := by omega
          have e3 : j = (nodeN x + 1) + (j - (nodeN x + 1)) := by omega
          rw [e2, cp_keep _ _ _ (by omega), ← e2] at this
          rw [e3, cp_keep _ _ _ (by omega), this, nodeN_int hx]
        rw [low _ ta.1 la (.a hj hg), low _ tb.1 lb (.b hj hg)]
      | false =>
        rw [cp_no (fun hh => by have := hh.2; rw [hg] at this; cases this), cp_late _ _ (Nat.le_refl _), inS_in1]
        obtain ⟨k, hk⟩ := hW.all j _ hp (nodeAt_some hjN) hg
        have hk2 := (List.getElem?_eq_some_iff.1 hk).1
        rw [hin k j hk2 hk, hG.inp k j hk, hgv k hk2]
    · have hz := (cp_ok (l := l) hW h0 hlen _ (Nat.le_refl _)).zero
      show wordV ((cpTo G l (T, inS G.nodes.length G.inputs b G.inputs.length) G.nodes.length).2.getD 0 0) ws = _
      rw [hz, wordV_0]; rfl

theorem sel_split (G : Gr) (l : List Int) (n : Nat) : (selTo (ReachP G l) n).length = (selTo (SupP G l) n).length + (selTo (GateP G l) n).length := by
  induction n with
  | zero => rfl
  | succ n ih =>
    by_cases hr : ReachP G l n
    · cases hg : (nodeAt G n).gate with
      | true =>
        rw [selTo_yes hr, selTo_no (fun h : SupP G l n => by have := h.2; rw [hg] at this; cases this), selTo_yes (show GateP G l n from ⟨hr, hg⟩)]
        simp; omega
      | false =>
        rw [selTo_yes hr, selTo_yes (show SupP G l n from ⟨hr, hg⟩), selTo_no (fun h : GateP G l n => by have := h.2; rw [hg] at this; cases this)]
        simp; omega
    · rw [selTo_no hr, selTo_no (fun h : SupP G l n => hr h.1), selTo_no (fun h : GateP G l n => hr h.1)]; exact ih

/-- What Copy leaves, plainly. -/
structure CopyOut (G T : Gr) (l b : List Int) (T' : Gr) (S : List Int) : Prop where
  wf : Wf T'
  le : Le T T'
  ins : T'.inputs = T.inputs
  len : T'.nodes.length ≤ T.nodes.length + (reachL G l).length - (supL G l).length
  sup : (supL G l).length ≤ (reachL G l).length
  there : ∀ x, There T' (overV S x)
  word : ∀ gv wsG ins ws, Val G gv wsG → Val T' ins ws → (∀ k, k < G.inputs.length → gv.getD k 0 = wordV (b.getD k 0) ws) → ∀ x ∈ l, wordV (overV S x) ws = wordV x wsG
theorem copyOut {G T : Gr} {l b : List Int} (hW : Wf G) (hWT : Wf T) (hb : AllThere T b) (hl : AllThere G l) (hlen : T.nodes.length + G.nodes.length ≤ 8000000) : CopyOut G T l b (copyG G l T b).1 (copyG G l T b).2 := by
  have h := cp_ok (l := l) hW (start_ok hWT hW hb) hlen _ (Nat.le_refl _)
  have hs := sel_split G l G.nodes.length
  refine ⟨h.wf, h.le, h.ins, ?_, ?_, fun x => over_there h.lits x, ?_⟩
  · have := h.len
    show (cpTo G l (T, inS G.nodes.length G.inputs b G.inputs.length) G.nodes.length).1.nodes.length ≤ _
    unfold reachL supL
    omega
  · unfold reachL supL; omega
  · intro gv wsG ins ws hG hT hgv x hx
    have := copy_word hW hWT hb hl hlen hG hT hgv _ (Leans.lit hx)
    rw [nodeN_int (hl x hx).1] at this
    exact over_word this
end Go.Proofs.Ytmljpbbnllfgbaa
